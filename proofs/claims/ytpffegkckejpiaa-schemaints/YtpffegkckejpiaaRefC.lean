/- The document's own digitsOf, number, times, written. -/
import Derived.Test.YtpffegkckejpiaaTimes
import Derived.Test.YtpffegkckejpiaaText
set_option linter.unusedVariables false
set_option linter.unusedSimpArgs false
namespace Go.Proofs.Ytpffegkckejpiaa
open Go.RowKit

theorem wrap_byte' (c : UInt8) : wrap64 (c.toNat : Int) = (c.toNat : Int) := by have := c.toNat_lt; unfold wrap64; omega

theorem empty_not {s : ByteArray} (h : 0 < s.size) : s.toList.isEmpty = false := by
  rw [ByteArray.toList_eq, List.isEmpty_eq_false_iff]
  intro e
  have := congrArg List.length e
  simp at this
  rw [this] at h
  exact absurd h (by decide)
theorem empty_eq {s : ByteArray} (h : s.size = 0) : s = ⟨#[]⟩ := by
  apply ByteArray.ext
  exact Array.eq_empty_of_size_eq_zero h

set_option maxRecDepth 100000 in
set_option maxHeartbeats 1000000 in
theorem digitsOf_yes (s : ByteArray) (base : Int) (w : World) (hok : okS s base = true) :
    Calls Try.prog 59 #[.string s, .int .i64 base] w fun e w' => ∃ v, e = .returned v ∧ Own .i64 3 w.heap.size w' v (msd s.data.toList) ∧ Below w.heap.size w w' := by
  obtain ⟨hbp, hs0, hs1, -⟩ := okS_iff.1 hok
  have hs0' : s.toList.isEmpty = false := empty_not hs0
  have hs1' : ¬ (5000 : Int) < s.size := by omega
  have hbr := baseP_iff.1 hbp
  have hb1 : base ≤ 16 := by omega
  rcases hbr with rfl | rfl | rfl
  all_goals
    go_enter Try.func59, Try.ntmps59
    go_wp2
    go_loopw [5, 6] (fun v iv wr => ∃ (k : Nat), k ≤ s.size ∧ iv = .int .i64 k ∧ Hid (Own .i64 3 w.heap.size wr v (msd (s.data.toList.take k))) ∧ Below w.heap.size w wr) (fun _ iv _ => s.size - (intOf iv).toNat)
    case atStart => exact ⟨0, Nat.zero_le _, rfl, Own.nil _ _ _ _, Below.refl _ _⟩
    case round =>
      obtain ⟨k, hk, rfl, HO, hBw⟩ := hrel
      obtain ⟨L, hL⟩ : ∃ L, msd (s.data.toList.take k) = L := ⟨_, rfl⟩
      have HL : Hid (msd (s.data.toList.take k) = L) := hL
      have hlen : L.length ≤ 5000 := by rw [← hL]; simp [msd]; omega
      rw [hL] at HO
      clear hL
      obtain ⟨p, cap, rfl, -⟩ := HO.out.form
      by_cases hj : k < s.size
      · have hD := okD_iff.1 (okS_at hok k hj)
        have hr := hexP_range s[k]
        have hwr := wrap_byte' s[k]
        have X := fun w2 => rhex_any (s[k].toNat : Int) w2 (by omega) (by have := s[k].toNat_lt; omega)
        obtain ⟨g, cp, w2, hrun, HO2, hB2⟩ := push64 HO.out hBw.size (hexN s[k]) (by omega)
        rw [hexN_cast hD.1] at hrun
        have HO2 : Hid (Own .i64 3 w.heap.size w2 (.slice (some ⟨g, 0, none⟩) (L.length + 1) cp) (msd (s.data.toList.take (k + 1)))) := by
          rw [byte_take s k hj]
          have := HL.out
          unfold msd at this ⊢
          rw [List.map_append, this]
          exact HO2
        have hD1 := hD.1
        have hD2 := hD.2
        generalize hexP (s[k].toNat : Int) = x at X hrun hr hD1 hD2
        have hki : (k : Int) < s.size := by omega
        clear hD HO
        go_wp2_with (first | (go_at_call 74; refine (X _).mono ?_; rintro e wr ⟨rfl, rfl⟩) | (at_builtin; refine wpList_append_run rfl _ _ 80 rfl rfl rfl hrun ?_))
        go_roundw
        case rel => exact ⟨k + 1, by omega, by go_num, HO2, hBw.trans hB2⟩
        case measure => simp [intOf] <;> omega
      · obtain rfl : k = s.size := by omega
        have e : msd (s.data.toList.take s.size) = msd s.data.toList := by rw [List.take_of_length_le (by simp)]
        have HL2 : Hid (msd s.data.toList = L) := e.symm.trans HL.out
        clear e HL
        go_wp2
        go_ret
        exact ⟨_, rfl, by rw [HL2.out]; exact HO.out, hBw⟩

set_option maxRecDepth 100000 in
set_option maxHeartbeats 1000000 in
theorem digitsOf_no1 (s : ByteArray) (base : Int) (w : World) (h : s.size = 0 ∨ (0 < s.size ∧ (5000 < s.size ∨ (s.size ≤ 5000 ∧ baseP base = false)))) :
    Calls Try.prog 59 #[.string s, .int .i64 base] w fun e w' => e = .returned (.slice none 0 0) ∧ w' = w := by
  rcases h with hs | ⟨hs0, hs | ⟨hs, hb⟩⟩
  · obtain rfl := empty_eq hs
    clear hs
    go_enter Try.func59, Try.ntmps59
    go_wp2
    go_ret
    exact ⟨rfl, rfl⟩
  · have hs0' : s.toList.isEmpty = false := empty_not hs0
    have hs1' : (5000 : Int) < s.size := by omega
    go_enter Try.func59, Try.ntmps59
    go_wp2
    go_ret
    exact ⟨rfl, rfl⟩
  · have hs0' : s.toList.isEmpty = false := empty_not hs0
    have hs1' : ¬ (5000 : Int) < s.size := by omega
    have h3 : ¬ (base = 8 ∨ base = 10 ∨ base = 16) := fun h => by rw [baseP_iff.2 h] at hb; cases hb
    have b1 : (base != 8) = true := by simp; omega
    have b2 : (base != 10) = true := by simp; omega
    have b3 : (base != 16) = true := by simp; omega
    clear h3 hb
    go_enter Try.func59, Try.ntmps59
    go_wp2
    go_ret
    exact ⟨rfl, rfl⟩

set_option maxRecDepth 100000 in
set_option maxHeartbeats 1000000 in
theorem digitsOf_no2 (s : ByteArray) (base : Int) (w : World) (hbp : baseP base = true) (hs0 : 0 < s.size) (hs1 : s.size ≤ 5000) (hbad : s.data.toList.all (okD base) = false) :
    Calls Try.prog 59 #[.string s, .int .i64 base] w fun e w' => e = .returned (.slice none 0 0) ∧ Below w.heap.size w w' := by
  have hs0' : s.toList.isEmpty = false := empty_not hs0
  have hs1' : ¬ (5000 : Int) < s.size := by omega
  have hbr := baseP_iff.1 hbp
  obtain ⟨P, hP⟩ : ∃ P : UInt8 → Bool, okD base = P := ⟨_, rfl⟩
  have hPi : ∀ c : UInt8, P c = true ↔ 0 ≤ hexP (c.toNat : Int) ∧ hexP (c.toNat : Int) < base := fun c => by rw [← hP]; exact okD_iff
  rw [hP] at hbad
  have HB : Hid (s.data.toList.all P = false) := hbad
  have HP : Hid (∀ c : UInt8, P c = true ↔ 0 ≤ hexP (c.toNat : Int) ∧ hexP (c.toNat : Int) < base) := hPi
  clear hbad hP hPi
  rcases hbr with rfl | rfl | rfl
  all_goals
    go_enter Try.func59, Try.ntmps59
    go_wp2
    go_loopw [5, 6] (fun v iv wr => ∃ (k : Nat) (L : List Nat), k ≤ s.size ∧ iv = .int .i64 k ∧ Hid (Own .i64 3 w.heap.size wr v L) ∧ Hid (L.length = k) ∧ Hid ((s.data.toList.take k).all P = true) ∧ Below w.heap.size w wr) (fun _ iv _ => s.size - (intOf iv).toNat)
    case atStart => exact ⟨0, [], Nat.zero_le _, rfl, Own.nil _ _ _ _, (show _ = _ from rfl), (show _ = true from rfl), Below.refl _ _⟩
    case round =>
      obtain ⟨k, L, hk, rfl, HO, HLn, HA, hBw⟩ := hrel
      have hlen : L.length ≤ 5000 := by have := HLn.out; omega
      obtain ⟨p, cap, rfl, -⟩ := HO.out.form
      by_cases hj : k < s.size
      · have hr := hexP_range s[k]
        have hwr := wrap_byte' s[k]
        have X := fun w2 => rhex_any (s[k].toNat : Int) w2 (by omega) (by have := s[k].toNat_lt; omega)
        obtain ⟨g, cp, w2, hrun, HO2, hB2⟩ := push64 HO.out hBw.size (hexN s[k]) (by omega)
        have hki : (k : Int) < s.size := by omega
        by_cases hD : P s[k] = true
        · have hD' := (HP.out _).1 hD
          rw [hexN_cast hD'.1] at hrun
          have HA2 := HA.out
          have HA2 : Hid ((s.data.toList.take (k + 1)).all P = true) := by
            show _ = true
            rw [byte_take s k hj, List.all_append, HA2, List.all_cons, hD]; rfl
          have HO2 : Hid _ := HO2
          have hD1 := hD'.1
          have hD2 := hD'.2
          generalize hexP (s[k].toNat : Int) = x at X hrun hr hD1 hD2
          clear hD hD' HO
          go_wp2_with (first | (go_at_call 74; refine (X _).mono ?_; rintro e wr ⟨rfl, rfl⟩) | (at_builtin; refine wpList_append_run rfl _ _ 80 rfl rfl rfl hrun ?_))
          go_roundw
          case rel => exact ⟨k + 1, _, by omega, by go_num, HO2, (by have := HLn.out; show _ = _; simp; omega), HA2, hBw.trans hB2⟩
          case measure => simp [intOf] <;> omega
        · have hD' := fun h => hD ((HP.out _).2 h)
          clear hrun HO2 hD
          generalize hexP (s[k].toNat : Int) = x at X hr hD'
          clear HO
          by_cases h0 : x < 0
          · clear hD'
            go_wp2_with (first | (go_at_call 74; refine (X _).mono ?_; rintro e wr ⟨rfl, rfl⟩))
            go_ret
            exact ⟨rfl, hBw⟩
          · have h1 : _ ≤ x := Int.not_lt.1 (fun h => hD' ⟨by omega, h⟩)
            clear hD'
            go_wp2_with (first | (go_at_call 74; refine (X _).mono ?_; rintro e wr ⟨rfl, rfl⟩))
            go_ret
            exact ⟨rfl, hBw⟩
      · obtain rfl : k = s.size := by omega
        have h1 := HA.out
        rw [List.take_of_length_le (by simp), HB.out] at h1
        cases h1

theorem digitsOf_no (s : ByteArray) (base : Int) (w : World) (hok : okS s base = false) :
    Calls Try.prog 59 #[.string s, .int .i64 base] w fun e w' => e = .returned (.slice none 0 0) ∧ Below w.heap.size w w' := by
  by_cases h : s.size = 0 ∨ (0 < s.size ∧ (5000 < s.size ∨ (s.size ≤ 5000 ∧ baseP base = false)))
  · refine (digitsOf_no1 s base w h).mono ?_
    rintro e w' ⟨rfl, rfl⟩
    exact ⟨rfl, Below.refl _ _⟩
  · have h0 : 0 < s.size := by
      by_cases e : s.size = 0
      · exact absurd (.inl e) h
      · omega
    have h1 : s.size ≤ 5000 := by
      by_cases e : 5000 < s.size
      · exact absurd (.inr ⟨h0, .inl e⟩) h
      · omega
    have hb : baseP base = true := by
      cases hb : baseP base
      · exact absurd (.inr ⟨h0, .inr ⟨h1, hb⟩⟩) h
      · rfl
    refine digitsOf_no2 s base w hb h0 h1 ?_
    cases ha : s.data.toList.all (okD base)
    · rfl
    · exact absurd (okS_iff.2 ⟨hb, h0, h1, ha⟩) (by rw [hok]; decide)
end Go.Proofs.Ytpffegkckejpiaa
namespace Go.Proofs.Ytpffegkckejpiaa
open Go.RowKit

/-- A list that is not empty, of decimal digits. -/
theorem own_one (w : World) (B : Nat) (hB : B ≤ w.heap.size) : Own .i64 3 B (w.alloc (.cells #[.int .i64 0] 3)) (.slice (some ⟨w.heap.size, 0, none⟩) 1 1) [0] :=
  World.ownsRow_lit w #[.int .i64 0] 1 hB (by unfold maxLen; omega) rfl

set_option maxRecDepth 100000 in
set_option maxHeartbeats 2000000 in
theorem rtimes_any (p : Option Addr) (cap : Nat) (l : List Nat) (f more : Nat) (w : World) (hrd : Rd .i64 w p l) (hl : 0 < l.length) (hd : Dg 10 l) (hf : f ≤ 1000000) (hmore : more ≤ 2000000) (hlen : l.length ≤ 274877906944) :
    Calls Try.prog 61 #[.slice p l.length cap, .int .i64 f, .int .i64 more] w fun e w' => ∃ v' l', e = .returned v' ∧ Own .i64 3 w.heap.size w' v' l' ∧ Below w.heap.size w w' ∧ Dg 10 l' ∧ 0 < l'.length ∧ val 10 l' = f * val 10 l + more ∧ l'.length ≤ l.length + 64 := by
  obtain ⟨b, o, rfl, hcell⟩ := hrd.at hl
  have hbl : b < w.heap.size := World.block_lt_of_cell? w ⟨b, o + 0, none⟩ (hcell 0 hl)
  go_enter Try.func61, Try.ntmps61
  go_wp2
  go_loopw [2, 7, 8] (fun cv u iv wr => ∃ (i c : Nat) (out : List Nat), i ≤ l.length ∧ iv = .int .i64 i ∧ cv = .int .i64 c ∧ c ≤ 2000000 ∧ Hid (out.length = i ∧ Dg 10 out ∧ val 10 out + 10 ^ i * c = f * val 10 (l.take i) + more) ∧ Hid (Own .i64 3 w.heap.size wr u out) ∧ Below w.heap.size w wr) (fun _ _ iv _ => l.length - (intOf iv).toNat)
  case atStart => exact ⟨0, more, [], Nat.zero_le _, rfl, rfl, hmore, ⟨rfl, Dg.nil _, by simp [val]⟩, Own.nil _ _ _ _, Below.refl _ _⟩
  case round =>
    obtain ⟨i, c, out, hi, rfl, rfl, hc, HV, HO, hBw⟩ := hrel
    have hol : out.length ≤ 274877906944 := by have := HV.out.1; omega
    obtain ⟨q, qc, rfl, -⟩ := HO.out.form
    by_cases hlt : i < l.length
    · have c0 := (hBw.cell (p := ⟨b, o + i, none⟩) hbl).trans (hcell i hlt)
      have hdi := hd.at hlt
      have htl : (l.take i).length = i := by rw [List.length_take]; omega
      have HV1 := tp_step (d := nAt l i) HV.out.2.2 HV.out.1 htl
      rw [← take_snoc hlt] at HV1
      generalize nAt l i = d at c0 hdi HV1
      have hmul : (d : Int) * (f : Int) = ((d * f : Nat) : Int) := by simp
      have hle : d * f ≤ 9000000 := Nat.le_trans (Nat.mul_le_mul (show d ≤ 9 by omega) hf) (by decide)
      generalize d * f = m at hmul hle HV1
      obtain ⟨g, cp, w2, hrun, HO2, hB2⟩ := push64 HO.out hBw.size ((c + m) % 10) (by omega)
      have hx : (((c + m) % 10 : Nat) : Int) = ((c : Int) + m) % 10 := by omega
      rw [hx] at hrun
      have HO2 : Hid _ := HO2
      have HV2 : Hid ((out ++ [(c + m) % 10]).length = i + 1 ∧ Dg 10 (out ++ [(c + m) % 10]) ∧ val 10 (out ++ [(c + m) % 10]) + 10 ^ (i + 1) * ((c + m) / 10) = f * val 10 (l.take (i + 1)) + more) := ⟨by have := HV.out.1; simp; omega, HV.out.2.1.snoc (by omega), HV1⟩
      have hli : (i : Int) < l.length := by omega
      clear hx HV1 hcell hrd
      go_wp2_with (at_builtin; refine wpList_append_run rfl _ _ 80 rfl rfl rfl hrun ?_)
      go_roundw
      case rel => exact ⟨i + 1, (c + m) / 10, out ++ [(c + m) % 10], by omega, by go_num, by go_num, by omega, HV2, HO2, hBw.trans hB2⟩
      case measure => simp [intOf]; omega
    · obtain rfl : i = l.length := by omega
      have hV := HV.out
      rw [List.take_length] at hV
      have HV3 : Hid (0 < out.length ∧ out.length = l.length ∧ Dg 10 out ∧ val 10 out + 10 ^ out.length * c = f * val 10 l + more) := ⟨by omega, hV.1, hV.2.1, by rw [hV.1]; exact hV.2.2⟩
      clear hV HV hcell hrd
      go_wp2
      go_loopw [2, 7] (fun cv u wr => ∃ (l' : List Nat) (c' : Nat), cv = .int .i64 c' ∧ Hid (Own .i64 3 w.heap.size wr u l') ∧ Hid (l' ++ carP 10 c' = out ++ carP 10 c ∧ out.length ≤ l'.length) ∧ Below w.heap.size w wr ∧ c' ≤ c) (fun cv _ _ => (intOf cv).toNat)
      case atStart => exact ⟨out, c, rfl, HO, ⟨rfl, Nat.le_refl _⟩, hBw, Nat.le_refl _⟩
      case round =>
        obtain ⟨l', c', rfl, HO', HE, hBw', hcc⟩ := hrel
        obtain ⟨q', qc', rfl, -⟩ := HO'.out.form
        by_cases h0 : 0 < c'
        · have hlen' := car_len (by decide) HE.out.1 (by omega)
          obtain ⟨g, cp, w1, hrun, HO1, hB1⟩ := push64 HO'.out hBw'.size (c' % 10) (by omega)
          have HE1 : Hid ((l' ++ [c' % 10]) ++ carP 10 (c' / 10) = out ++ carP 10 c ∧ out.length ≤ (l' ++ [c' % 10]).length) := ⟨car_step (by decide) HE.out.1 h0, by have := HE.out.2; simp; omega⟩
          have HO1 : Hid _ := HO1
          have hx : ((c' % 10 : Nat) : Int) = (c' : Int) % 10 := by omega
          rw [hx] at hrun
          have h0' : (0 : Int) < c' := by omega
          clear hx
          go_wp2_with (at_builtin; refine wpList_append_run rfl _ _ 80 rfl rfl rfl hrun ?_)
          go_roundw
          case rel => exact ⟨l' ++ [c' % 10], c' / 10, by go_num, HO1, HE1, hBw'.trans hB1, by omega⟩
          case measure => simp [intOf]; omega
        · obtain rfl : c' = 0 := by omega
          have hne : ((l'.length : Int) == 0) = false := beq_false_of_ne (by have := HE.out.2; have := HV3.out.1; omega)
          go_wp2
          go_ret
          have hE := HE.out.1
          rw [carP_zero, List.append_nil] at hE
          obtain ⟨v1, v2, v3, v4⟩ := HV3.out
          have hln := carP_len (b := 10) (by decide) 64 c (Nat.lt_of_le_of_lt hc (by decide))
          refine ⟨_, l', rfl, HO'.out, hBw', ?_, ?_, ?_, ?_⟩
          · rw [hE]; exact v3.append (carP_dg (by decide) c)
          · have := HE.out.2; omega
          · rw [hE, val_append, carP_val (by decide)]; exact v4
          · rw [hE, List.length_append]; omega
end Go.Proofs.Ytpffegkckejpiaa
set_option maxRecDepth 100000
namespace Go.Proofs.Ytpffegkckejpiaa
open Go.RowKit

/-- string(b) of bytes that are known. -/
theorem own_string {B : Nat} {w : World} {g n c : Nat} {L : List Nat} (h : Own .u8 5 B w (.slice (some ⟨g, 0, none⟩) n c) L) (hL : Dg 256 L) :
    (convert 60 9 (.slice (some ⟨g, 0, none⟩) n c)).run Try.prog w = .ok (.string ⟨(L.map UInt8.ofNat).toArray⟩) w := by
  obtain ⟨p, c', e1, -, -, -, -, -, -⟩ := h.form
  cases e1
  have := run_convert_bytes_back (P := Try.prog) w 60 9 5 ⟨g, 0, none⟩ c (L.map UInt8.ofNat) Try.underlying60 Try.underlying5 Try.underlying9 (fun j hj => by
    have hj' : j < L.length := by simpa using hj
    rw [add_plain, Nat.zero_add, h.cellAt j hj', nAt_get hj']
    have := hL _ (List.getElem_mem hj')
    simp
    omega)
  rw [List.length_map] at this
  exact this

theorem writ_text {l : List Nat} {k : Nat} (hl : k ≤ l.length) (h1 : 1 ≤ k) (hd : Dg 10 l) (hz : ∀ j, k ≤ j → j < l.length → nAt l j = 0) (hn : k = 1 ∨ nAt l (k - 1) ≠ 0) :
    (⟨(((l.take k).map (48 + ·)).reverse.map UInt8.ofNat).toArray⟩ : ByteArray) = decB (val 10 l) := by
  rw [← val_trim, ← text_dec hd.trim (canon_trim l)]
  by_cases h0 : nAt l (k - 1) = 0
  · have hk : k = 1 := by rcases hn with h | h; exact h; exact absurd h0 h
    subst hk
    have ht : trimLen l = 0 := trimLen_eq l 0 (by omega) (fun j _ hj => by
      by_cases e : j = 0
      · subst e; exact h0
      · exact hz j (by omega) hj) (.inl rfl)
    have : trimL l = [] := by unfold trimL; rw [ht]; rfl
    rw [this, take_snoc (by omega)]
    have h0' : nAt l 0 = 0 := h0
    simp [textB, h0']
  · have ht : trimLen l = k := trimLen_eq l k hl hz (.inr h0)
    have hne : trimL l ≠ [] := by
      intro e
      have := congrArg List.length e
      rw [trimL_len, ht] at this
      simp at this
      omega
    unfold textB
    rw [if_neg hne]
    unfold trimL
    rw [ht]
    rw [List.map_reverse, List.map_reverse, List.map_map]
    rfl

theorem own_full (B : Nat) (w : World) (n : Nat) (hn : n ≤ 1099511627776) (hB : B ≤ w.heap.size) :
    ∃ w', (Instr.makeSlice 60 (.int .i64 (n : Int)) (.int .i64 (n : Int))).run Try.prog w = .ok (.slice (some ⟨w.heap.size, 0, none⟩) n n) w' ∧ Own .u8 5 B w' (.slice (some ⟨w.heap.size, 0, none⟩) n n) (List.replicate n 0) ∧ Below B w w' := by
  obtain ⟨i0, hi, hz0, hz1, hz2⟩ := info_parts Try.info5
  obtain ⟨w', h1, h2, h3⟩ := run_make_full (P := Try.prog) w B 60 5 i0 (.int .u8 0) 1 Try.underlying60 hi hz0 hz1 .i64 .i64 n (by rw [hz2]; omega) (by unfold maxLen; omega) hB
  refine ⟨w', h1, ?_, (Below.refl _ w).grown h3 hB (fun k e => by cases e)⟩
  unfold Own
  rw [List.length_replicate]
  have : vi .u8 (List.replicate n 0) = (madeCells (Value.int .u8 0).cells (n * 1)).toList := by
    rw [Nat.mul_one]
    show _ = (madeCells #[Value.int .u8 0] n).toList
    rw [toList_madeCells_one]
    simp [vi]
  rw [this]
  exact h2

theorem mapped_dg {l : List Nat} (hd : Dg 10 l) : Dg 256 (l.map (48 + ·)).reverse := by
  intro d h
  rw [List.mem_reverse] at h
  obtain ⟨x, hx, rfl⟩ := List.mem_map.1 h
  have := hd x hx
  omega

set_option maxRecDepth 100000 in
set_option maxHeartbeats 2000000 in
theorem written_any (p : Option Addr) (cap : Nat) (l : List Nat) (w : World) (hrd : Rd .i64 w p l) (hl : 0 < l.length) (hd : Dg 10 l) (hlen : l.length ≤ 274877906944) :
    Calls Try.prog 60 #[.slice p l.length cap] w fun e w' => e = .returned (.string (decB (val 10 l))) ∧ Below w.heap.size w w' := by
  obtain ⟨b, o, rfl, hcell⟩ := hrd.at hl
  have hbl : b < w.heap.size := World.block_lt_of_cell? w ⟨b, o + 0, none⟩ (hcell 0 hl)
  go_enter Try.func60, Try.ntmps60
  go_wp2
  go_loop [3] (fun nv => ∃ (k : Nat), 1 ≤ k ∧ k ≤ l.length ∧ nv = .int .i64 k ∧ Hid (∀ j, k ≤ j → j < l.length → nAt l j = 0)) (fun nv => (intOf nv).toNat)
  case atStart => exact ⟨l.length, by omega, Nat.le_refl _, rfl, fun j h1 h2 => by omega⟩
  case round =>
    obtain ⟨k, hk1, hk, rfl, HZ⟩ := hrel
    by_cases hmore : 1 < k ∧ nAt l (k - 1) = 0
    · obtain ⟨h1, hx⟩ := hmore
      have c0 := hcell (k - 1) (by omega)
      rw [hx] at c0
      have hi : (k : Int) - 1 = ((k - 1 : Nat) : Int) := by omega
      have hlt : ((k - 1 : Nat) : Int) < l.length := by omega
      have h1' : (1 : Int) < k := by omega
      have HZ' : Hid (∀ j, k - 1 ≤ j → j < l.length → nAt l j = 0) := by
        intro j a1 a2
        by_cases e : j = k - 1
        · rw [e, hx]
        · exact HZ.out j (by omega) a2
      clear hcell hrd
      go_wp2
      go_round
      case rel => exact ⟨k - 1, by omega, by omega, rfl, HZ'⟩
      case measure => simp [intOf]; omega
    · have hn : k = 1 ∨ nAt l (k - 1) ≠ 0 := by
        by_cases e : nAt l (k - 1) = 0
        · left; by_cases e2 : 1 < k; exact absurd ⟨e2, e⟩ hmore; omega
        · exact .inr e
      have HW : Hid ((⟨(((l.take k).map (48 + ·)).reverse.map UInt8.ofNat).toArray⟩ : ByteArray) = decB (val 10 l)) := writ_text hk hk1 hd HZ.out hn
      obtain ⟨w1, MK, HO0, hB0⟩ := own_full w.heap.size w k (by omega) (Nat.le_refl _)
      have HO0 : Hid _ := HO0
      have HC : Hid (∀ j, j < l.length → w.cell? ⟨b, o + j, none⟩ = some (.int .i64 (nAt l j))) := hcell
      have c0 := hcell (k - 1) (by omega)
      have hi : (k : Int) - 1 = ((k - 1 : Nat) : Int) := by omega
      have hlt : ((k - 1 : Nat) : Int) < l.length := by omega
      have hkk : (¬ (1 : Int) < k) ∨ ((1 : Int) < k ∧ ((nAt l (k - 1) : Nat) : Int) ≠ 0) := by omega
      clear hcell hrd hmore hn HZ
      have KEY : ∀ (wr : World) (i : Nat), i < k → Hid (Own .u8 5 w.heap.size wr (.slice (some ⟨w.heap.size, 0, none⟩) k k) (List.replicate (k - i) 0 ++ ((l.take i).map (48 + ·)).reverse)) →
          wr.frozen? ⟨w.heap.size, k - 1 - i, none⟩ = false ∧ (∃ x, wr.cell? ⟨w.heap.size, k - 1 - i, none⟩ = some (.int .u8 x)) ∧
          Hid (Own .u8 5 w.heap.size (wr.setCell ⟨w.heap.size, k - 1 - i, none⟩ (.int .u8 (48 + (nAt l i : Int)))) (.slice (some ⟨w.heap.size, 0, none⟩) k k) (List.replicate (k - (i + 1)) 0 ++ ((l.take (i + 1)).map (48 + ·)).reverse)) ∧
          Below w.heap.size wr (wr.setCell ⟨w.heap.size, k - 1 - i, none⟩ (.int .u8 (48 + (nAt l i : Int)))) := by
        intro wr i hik HO
        have hO := HO.out
        rw [show k - i = (k - 1 - i) + 1 from by omega, List.replicate_succ', List.append_assoc] at hO
        have h2 := hO.put (d := 0) (rest := ((l.take i).map (48 + ·)).reverse) (out := List.replicate (k - 1 - i) 0) (k - 1 - i) (by simp) (48 + nAt l i)
        have e1 : (((48 + nAt l i : Nat)) : Int) = 48 + (nAt l i : Int) := by omega
        rw [e1] at h2
        refine ⟨hO.frozenAt _, ⟨_, hO.cellAt _ (by simp)⟩, ?_, h2.2⟩
        rw [take_snoc (by omega), show k - (i + 1) = k - 1 - i from by omega]
        have := h2.1
        simp only [List.map_append, List.reverse_append, List.append_assoc] at this ⊢
        exact this
      generalize nAt l (k - 1) = x at c0 hkk
      have tx : (¬ (1 : Int) < k) ∨ ((1 : Int) < k ∧ ((x : Int) == 0) = false) := by
        rcases hkk with h | ⟨h, h'⟩
        · exact .inl h
        · exact .inr ⟨h, beq_false_of_ne h'⟩
      clear hkk
      rcases tx with h1 | ⟨h1, tx⟩
      all_goals
        go_wp2
        go_loopw [5] (fun iv wr => ∃ (i : Nat), i ≤ k ∧ iv = .int .i64 i ∧ Hid (Own .u8 5 w.heap.size wr (.slice (some ⟨w.heap.size, 0, none⟩) k k) (List.replicate (k - i) 0 ++ ((l.take i).map (48 + ·)).reverse)) ∧ Below w.heap.size w wr) (fun iv _ => k - (intOf iv).toNat)
        case atStart => exact ⟨0, Nat.zero_le _, rfl, (by simp only [Nat.sub_zero, List.take_zero, List.map_nil, List.reverse_nil, List.append_nil]; exact HO0), hB0⟩
        case round =>
          obtain ⟨i, hik, rfl, HO, hBw⟩ := hrel
          by_cases hlt2 : i < k
          · obtain ⟨f0, ⟨y, y0⟩, HO2, hB2⟩ := KEY wr i hlt2 HO
            have c1 := (hBw.cell (p := ⟨b, o + i, none⟩) hbl).trans (HC.out i (by omega))
            have hdi := hd.at (show i < l.length by omega)
            generalize nAt l i = d at c1 hdi HO2 hB2
            have j1 : ((k : Int) - 1 - i) = ((k - 1 - i : Nat) : Int) := by omega
            have j1' : (((k - 1 : Nat) : Int) - i) = ((k - 1 - i : Nat) : Int) := by omega
            have j2 : ((k - 1 - i : Nat) : Int) < k := by omega
            have j3 : (i : Int) < l.length := by omega
            have j4 : (i : Int) < k := by omega
            generalize k - 1 - i = m at j1 j1' j2 f0 y0 HO2 hB2
            clear HO KEY
            go_wp2
            go_roundw
            case rel => exact ⟨i + 1, by omega, by go_num, HO2, hBw.trans hB2⟩
            case measure => simp [intOf]; omega
          · obtain rfl : i = k := by omega
            have hO := HO.out
            rw [Nat.sub_self, List.replicate_zero, List.nil_append] at hO
            have CV := own_string hO (mapped_dg (hd.take i))
            rw [HW.out] at CV
            clear hO HO KEY
            go_wp2
            go_ret
            exact ⟨rfl, hBw⟩

theorem nil_is {w : World} : (binOp .eql 80 (.slice none 0 0) (.slice none 0 0)).run Try.prog w = .ok (.bool true) w := run_eql_nil_slice w 80 3 none 0 0 0 0 Try.underlying80
theorem nil_not {w : World} (a : Addr) (n c : Nat) : (binOp .eql 80 (.slice (some a) n c) (.slice none 0 0)).run Try.prog w = .ok (.bool false) w := run_eql_nil_slice w 80 3 (some a) n c 0 0 Try.underlying80
/-- The digits that the document's number makes of a text. -/
def rnum (s : ByteArray) : List Nat := if okS s 10 then lsd s else [0]
theorem rnum_dg (s : ByteArray) : Dg 10 (rnum s) := by
  unfold rnum
  split
  · rename_i h; exact lsd_dg (base := 10) h
  · intro d h; simp at h; omega
theorem rnum_val (s : ByteArray) : val 10 (rnum s) = num s := by
  unfold rnum num
  split <;> rfl
theorem rnum_len (s : ByteArray) : 0 < (rnum s).length ∧ (rnum s).length ≤ 5000 := by
  unfold rnum
  split
  · rename_i h
    have h2 := (okS_iff.1 h).2
    rw [lsd_len]
    exact ⟨h2.1, h2.2.1⟩
  · simp

end Go.Proofs.Ytpffegkckejpiaa
