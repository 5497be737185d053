/- decimal's lists of digits: read, without the noughts at their end, written. -/
import Derived.Test.YtpffegkckejpiaaDp
set_option linter.unusedVariables false
set_option linter.unusedSimpArgs false
namespace Go.Proofs.Ytpffegkckejpiaa
open Go.RowKit

theorem push58 {B : Nat} {w : World} {v : Value} {l : List Nat} (h : Own .u8 5 B w v l) (hB : B ≤ w.heap.size) (x : Nat) (hl : l.length < 1099511627776) :
    ∃ g c w', (Builtin.append_ #[71, 71] 71 #[v, .slice (some ⟨w.heap.size, 0, none⟩) 1 1]).run Try.prog (w.alloc (.cells #[.int .u8 x] 5)) = .ok (.slice (some ⟨g, 0, none⟩) (l.length + 1) c) w' ∧
      Own .u8 5 B w' (.slice (some ⟨g, 0, none⟩) (l.length + 1) c) (l ++ [x]) ∧ Below B w w' := h.push Try.underlying71 Try.info5 (by decide) hB x hl

set_option maxRecDepth 100000 in
set_option maxHeartbeats 1000000 in
theorem dread_yes (s : ByteArray) (w : World) (hok : s.data.toList.all isD = true) (hs : s.size ≤ 100000) :
    Calls Try.prog 54 #[.string s] w fun e w' => ∃ v, e = .returned (.tuple #[v, .bool true]) ∧ Own .u8 5 w.heap.size w' v (msd s.data.toList) ∧ Below w.heap.size w w' := by
  obtain ⟨w1, MK, HO0, hB0, -⟩ := own_make (t := 71) Try.underlying71 Try.info5 (by decide) w.heap.size w s.size (by omega) (Nat.le_refl _)
  have HO0 : Hid _ := HO0
  have HK : Hid (s.data.toList.all isD = true) := hok
  clear hok
  go_enter Try.func54, Try.ntmps54
  go_wp2
  go_loopw [4, 11] (fun v iv wr => ∃ (k : Nat), k ≤ s.size ∧ iv = .int .i64 k ∧ Hid (Own .u8 5 w.heap.size wr v (msd (s.data.toList.take k))) ∧ Below w.heap.size w wr) (fun _ iv _ => s.size - (intOf iv).toNat)
  case atStart => exact ⟨0, Nat.zero_le _, rfl, HO0.out, hB0⟩
  case round =>
    obtain ⟨k, hk, rfl, HO, hBw⟩ := hrel
    by_cases hlt : k < s.size
    · obtain ⟨L, hL⟩ : ∃ L, msd (s.data.toList.take k) = L := ⟨_, rfl⟩
      have HL : Hid (msd (s.data.toList.take k) = L) := hL
      have hlen : L.length ≤ 100000 := by rw [← hL]; simp [msd]; omega
      rw [hL] at HO
      clear hL
      have hD := List.all_eq_true.1 HK.out _ (byte_mem s k hlt)
      obtain ⟨p, cap, rfl, hc1, hc2, -, -⟩ := HO.out.form
      obtain ⟨g, cp, w2, hrun, HO2, hB2⟩ := push58 HO.out hBw.size (hexN s[k]) (by omega)
      have hx : ((hexN s[k] : Nat) : Int) = (s[k].toNat : Int) - 48 := by rw [isD_hex hD]; have := isD_iff.1 hD; omega
      rw [hx] at hrun
      have HO2 : Hid (Own .u8 5 w.heap.size w2 (.slice (some ⟨g, 0, none⟩) (L.length + 1) cp) (msd (s.data.toList.take (k + 1)))) := by
        rw [byte_take s k hlt]
        have e : msd (s.data.toList.take k ++ [s[k]]) = L ++ [hexN s[k]] := by rw [← HL.out]; simp [msd]
        rw [e]
        exact HO2
      have hD' := isD_iff.1 hD
      have h1 := hD'.1
      have h2 := hD'.2
      have hl : (k : Int) < s.size := by omega
      clear hD hD' HO hx
      go_wp2_with (at_builtin; refine wpList_append_run rfl _ _ 71 rfl rfl rfl hrun ?_)
      go_roundw
      case rel => exact ⟨k + 1, by omega, by go_num, HO2, hBw.trans hB2⟩
      case measure => simp [intOf] <;> omega
    · obtain rfl : k = s.size := by omega
      have hO := HO.out
      rw [List.take_of_length_le (by simp)] at hO
      have HO : Hid _ := hO
      obtain ⟨p, cap, rfl, -⟩ := hO.form
      clear hO
      go_wp2
      go_ret2
      exact ⟨_, rfl, HO.out, hBw⟩

set_option maxRecDepth 100000 in
set_option maxHeartbeats 1000000 in
theorem dread_no (s : ByteArray) (w : World) (hok : s.data.toList.all isD = false) (hs : s.size ≤ 100000) :
    Calls Try.prog 54 #[.string s] w fun e w' => e = .returned (.tuple #[.slice none 0 0, .bool false]) ∧ Below w.heap.size w w' := by
  obtain ⟨w1, MK, HO0, hB0, -⟩ := own_make (t := 71) Try.underlying71 Try.info5 (by decide) w.heap.size w s.size (by omega) (Nat.le_refl _)
  have HO0 : Hid _ := HO0
  have HK : Hid (s.data.toList.all isD = false) := hok
  clear hok
  go_enter Try.func54, Try.ntmps54
  go_wp2
  go_loopw [4, 11] (fun v iv wr => ∃ (k : Nat) (L : List Nat), k ≤ s.size ∧ iv = .int .i64 k ∧ Hid (Own .u8 5 w.heap.size wr v L) ∧ Hid (L.length = k) ∧ Hid ((s.data.toList.take k).all isD = true) ∧ Below w.heap.size w wr) (fun _ iv _ => s.size - (intOf iv).toNat)
  case atStart => exact ⟨0, [], Nat.zero_le _, rfl, HO0.out, (rfl : ([] : List Nat).length = 0), (show _ = true by rw [List.take_zero]; rfl), hB0⟩
  case round =>
    obtain ⟨k, L, hk, rfl, HO, HL, HA, hBw⟩ := hrel
    by_cases hlt : k < s.size
    · have hlen : L.length ≤ 100000 := by have := HL.out; omega
      obtain ⟨p, cap, rfl, hc1, hc2, -, -⟩ := HO.out.form
      have hl : (k : Int) < s.size := by omega
      by_cases hD : isD s[k] = true
      · obtain ⟨g, cp, w2, hrun, HO2, hB2⟩ := push58 HO.out hBw.size (hexN s[k]) (by omega)
        have hx : ((hexN s[k] : Nat) : Int) = (s[k].toNat : Int) - 48 := by rw [isD_hex hD]; have := isD_iff.1 hD; omega
        rw [hx] at hrun
        have HO2 : Hid _ := HO2
        have HL2 : Hid ((L ++ [hexN s[k]]).length = k + 1) := by have := HL.out; show _ = _; simp; omega
        have HA2 : Hid ((s.data.toList.take (k + 1)).all isD = true) := by
          show _ = true
          rw [byte_take s k hlt, List.all_append, HA.out, List.all_cons, hD]; rfl
        have hD' := isD_iff.1 hD
        have h1 := hD'.1
        have h2 := hD'.2
        clear hD hD' HO hx
        go_wp2_with (at_builtin; refine wpList_append_run rfl _ _ 71 rfl rfl rfl hrun ?_)
        go_roundw
        case rel => exact ⟨k + 1, _, by omega, by go_num, HO2, HL2, HA2, hBw.trans hB2⟩
        case measure => simp [intOf] <;> omega
      · have hD' : ¬ (48 ≤ (s[k].toNat : Int) ∧ (s[k].toNat : Int) ≤ 57) := fun h => hD (isD_iff.2 h)
        clear hD HO
        by_cases h0 : (s[k].toNat : Int) < 48
        · clear hD'
          go_wp2
          go_ret2
          exact ⟨rfl, hBw⟩
        · have h1 : (57 : Int) < s[k].toNat := by omega
          clear hD'
          go_wp2
          go_ret2
          exact ⟨rfl, hBw⟩
    · have h1 := HA.out
      rw [List.take_of_length_le (by simp; omega), HK.out] at h1
      cases h1

theorem slice_to58 (p : Option Addr) (len cap s : Nat) (hs : s ≤ cap) (w2 : World) :
    (Instr.slice 71 (.slice p len cap) none (some (.int .i64 s)) none).run Try.prog w2 = .ok (.slice p s cap) w2 := by
  have h0 : (s : Int) ≤ cap := by omega
  have u := Try.underlying71
  have z := Try.sizeOf5
  cases p with
  | none => simp [go_sem, h0]
  | some a => obtain ⟨b, o, sp⟩ := a; simp [go_sem, h0, Addr.add]

set_option maxRecDepth 100000 in
set_option maxHeartbeats 1000000 in
theorem dtrim_any (p : Option Addr) (l : List Nat) (cap : Nat) (w : World) (hc : l.length ≤ cap) (hm : (cap : Int) ≤ 9223372036854775807) (h : Rd .u8 w p l) :
    Calls Try.prog 55 #[.slice p l.length cap] w fun e w' => e = .returned (.slice p (trimLen l) cap) ∧ w' = w := by
  obtain ⟨r, hR⟩ : ∃ r, trimLen l = r := ⟨_, rfl⟩
  rw [hR]
  have HR : Hid (trimLen l = r) := hR
  clear hR
  go_enter Try.func55, Try.ntmps55
  go_wp2
  go_loop [0] (fun v => ∃ (k : Nat), k ≤ l.length ∧ v = .slice p k cap ∧ Hid (∀ j, k ≤ j → j < l.length → nAt l j = 0)) (fun v => slen v)
  case atStart => exact ⟨l.length, Nat.le_refl _, rfl, fun j h1 h2 => by omega⟩
  case round =>
    obtain ⟨k, hk, rfl, HZ⟩ := hrel
    by_cases h0 : 0 < k
    · obtain ⟨b, o, rfl, hb⟩ := h.at (by omega)
      have c0 := hb (k - 1) (by omega)
      have hi : (k : Int) - 1 = ((k - 1 : Nat) : Int) := by omega
      have hlt : ((k - 1 : Nat) : Int) < k := by omega
      have h0' : (0 : Int) < k := by omega
      have S := slice_to58 (some ⟨b, o, none⟩) k cap (k - 1) (by omega)
      clear hb h
      by_cases hx : nAt l (k - 1) = 0
      · have HZ' : Hid (∀ j, k - 1 ≤ j → j < l.length → nAt l j = 0) := by
          intro j h1 h2
          by_cases e : j = k - 1
          · rw [e, hx]
          · exact HZ.out j (by omega) h2
        rw [hx] at c0
        go_wp2
        go_round
        case rel => exact ⟨k - 1, by omega, rfl, HZ'⟩
        case measure => simp [slen]; omega
      · have hr : r = k := HR.out.symm.trans (trimLen_eq l k hk HZ.out (.inr hx))
        generalize nAt l (k - 1) = x at c0 hx
        have t : ((x : Int) == 0) = false := by simp; omega
        subst hr
        go_wp2
        go_ret
        exact ⟨rfl, rfl⟩
    · obtain rfl : k = 0 := by omega
      have hr : r = 0 := HR.out.symm.trans (trimLen_eq l 0 hk HZ.out (.inl rfl))
      subst hr
      clear h
      go_wp2
      go_ret
      exact ⟨rfl, rfl⟩

set_option maxRecDepth 100000 in
set_option maxHeartbeats 1000000 in
theorem dtext_any (p : Option Addr) (cap : Nat) (l : List Nat) (w : World) (hrd : Rd .u8 w p l) (hd : Dg 10 l) (hl : l.length ≤ 100000) :
    Calls Try.prog 56 #[.slice p l.length cap] w fun e w' => e = .returned (.string ⟨(l.map fun d => UInt8.ofNat (48 + d)).toArray⟩) ∧ Below w.heap.size w w' := by
  obtain ⟨w1, MK, HO0, hB0, -⟩ := own_make (t := 60) Try.underlying60 Try.info5 (by decide) w.heap.size w l.length (by omega) (Nat.le_refl _)
  have HO0 : Hid _ := HO0
  have HR : Hid (Rd .u8 w p l) := hrd
  have HD : Hid (Dg 10 l) := hd
  clear hrd hd
  go_enter Try.func56, Try.ntmps56
  go_wp2
  go_loopw [3, 11] (fun v iv wr => ∃ (k g c : Nat), k ≤ l.length ∧ iv = .int .i64 k ∧ v = .slice (some ⟨g, 0, none⟩) k c ∧ Hid (Own .u8 5 w.heap.size wr (.slice (some ⟨g, 0, none⟩) k c) ((l.take k).map (48 + ·))) ∧ Below w.heap.size w wr) (fun _ iv _ => l.length - (intOf iv).toNat)
  case atStart => exact ⟨0, _, _, Nat.zero_le _, rfl, rfl, HO0.out, hB0⟩
  case round =>
    obtain ⟨k, g0, c0, hk, rfl, rfl, HO, hBw⟩ := hrel
    by_cases hlt : k < l.length
    · obtain ⟨b, o, rfl, hcell⟩ := HR.out.at (by omega)
      have hbl : b < w.heap.size := World.block_lt_of_cell? w ⟨b, o + 0, none⟩ (hcell 0 (by omega))
      have c1 := (hBw.cell (p := ⟨b, o + k, none⟩) hbl).trans (hcell k hlt)
      have hdi := HD.out.at hlt
      obtain ⟨L, hL⟩ : ∃ L, (l.take k).map (48 + ·) = L := ⟨_, rfl⟩
      have HL : Hid ((l.take k).map (48 + ·) = L) := hL
      have hlen : L.length = k := by rw [← hL]; simp; omega
      rw [hL] at HO
      clear hL
      obtain ⟨g, cp, w2, hrun, HO2, hB2⟩ := push8b HO.out hBw.size (48 + nAt l k) (by omega)
      rw [hlen] at hrun HO2
      have HO2 : Hid (Own .u8 5 w.heap.size w2 (.slice (some ⟨g, 0, none⟩) (k + 1) cp) ((l.take (k + 1)).map (48 + ·))) := by
        rw [take_snoc hlt, List.map_append, HL.out]
        exact HO2
      have hx : ((48 + nAt l k : Nat) : Int) = 48 + (nAt l k : Int) := by omega
      rw [hx] at hrun
      generalize nAt l k = x at c1 hdi hrun
      have hli : (k : Int) < l.length := by omega
      clear HO hx hcell
      go_wp2_with (at_builtin; refine wpList_append_run rfl _ _ 60 rfl rfl rfl hrun ?_)
      go_roundw
      case rel => exact ⟨k + 1, _, _, by omega, by go_num, rfl, HO2, hBw.trans hB2⟩
      case measure => simp [intOf] <;> omega
    · obtain rfl : k = l.length := by omega
      have hO := HO.out
      rw [List.take_length] at hO
      have CV := own_string hO (by
        intro d h
        obtain ⟨x, hx, rfl⟩ := List.mem_map.1 h
        have := HD.out x hx
        omega)
      have e : (l.map (48 + ·)).map UInt8.ofNat = l.map fun d => UInt8.ofNat (48 + d) := by rw [List.map_map]; rfl
      rw [e] at CV
      obtain ⟨T, hT⟩ : ∃ T, (⟨(l.map fun d => UInt8.ofNat (48 + d)).toArray⟩ : ByteArray) = T := ⟨_, rfl⟩
      rw [hT] at CV
      have HT : Hid (T = (⟨(l.map fun d => UInt8.ofNat (48 + d)).toArray⟩ : ByteArray)) := hT.symm
      clear HO hO e hT
      go_wp2
      go_ret
      exact ⟨ret_str HT.out, hBw⟩
end Go.Proofs.Ytpffegkckejpiaa
