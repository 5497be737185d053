/- Exponents: decimal.exponent. -/
import Derived.Test.YtpffegkckejpiaaInt
set_option linter.unusedVariables false
set_option linter.unusedSimpArgs false
set_option maxRecDepth 100000
namespace Go.Proofs.Ytpffegkckejpiaa
open Go.RowKit

theorem push83 {B : Nat} {w : World} {v : Value} {l : List Nat} (h : Own .i64 3 B w v l) (hB : B ≤ w.heap.size) (x : Nat) (hl : l.length < 1099511627776) :
    ∃ g c w', (Builtin.append_ #[108, 108] 108 #[v, .slice (some ⟨w.heap.size, 0, none⟩) 1 1]).run Try.prog (w.alloc (.cells #[.int .i64 x] 3)) = .ok (.slice (some ⟨g, 0, none⟩) (l.length + 1) c) w' ∧
      Own .i64 3 B w' (.slice (some ⟨g, 0, none⟩) (l.length + 1) c) (l ++ [x]) ∧ Below B w w' := h.push Try.underlying108 Try.info3 (by decide) hB x hl

set_option maxRecDepth 100000 in
set_option maxHeartbeats 1000000 in
theorem eread_yes (s : ByteArray) (w : World) (hok : s.data.toList.all isD = true) (hs : s.size ≤ 100000) :
    Calls Try.prog 85 #[.string s] w fun e w' => ∃ v, e = .returned (.tuple #[v, .bool true]) ∧ Own .i64 3 w.heap.size w' v (msd s.data.toList) ∧ Below w.heap.size w w' := by
  obtain ⟨w1, MK, HO0, hB0, -⟩ := own_make (t := 108) Try.underlying108 Try.info3 (by decide) w.heap.size w s.size (by omega) (Nat.le_refl _)
  have HO0 : Hid _ := HO0
  have HK : Hid (s.data.toList.all isD = true) := hok
  clear hok
  go_enter Try.func85, Try.ntmps85
  go_wp2
  go_loopw [4, 11] (fun v iv wr => ∃ (k : Nat), k ≤ s.size ∧ iv = .int .i64 k ∧ Hid (Own .i64 3 w.heap.size wr v (msd (s.data.toList.take k))) ∧ Below w.heap.size w wr) (fun _ iv _ => s.size - (intOf iv).toNat)
  case atStart => exact ⟨0, Nat.zero_le _, rfl, HO0.out, hB0⟩
  case round =>
    obtain ⟨k, hk, rfl, HO, hBw⟩ := hrel
    by_cases hlt : k < s.size
    · obtain ⟨L, hL⟩ : ∃ L, msd (s.data.toList.take k) = L := ⟨_, rfl⟩
      have HL : Hid (msd (s.data.toList.take k) = L) := hL
      have hlen : L.length ≤ 100000 := by rw [← hL]; simp [msd]; omega
      rw [hL] at HO
      clear hL
      have hD := List.all_eq_true.1 HK.out _ (byte_mem s k hlt)
      obtain ⟨p, cap, rfl, hc1, hc2, -, -⟩ := HO.out.form
      obtain ⟨g, cp, w2, hrun, HO2, hB2⟩ := push83 HO.out hBw.size (hexN s[k]) (by omega)
      have hx : ((hexN s[k] : Nat) : Int) = (s[k].toNat : Int) - 48 := by rw [isD_hex hD]; have := isD_iff.1 hD; omega
      rw [hx] at hrun
      have HO2 : Hid (Own .i64 3 w.heap.size w2 (.slice (some ⟨g, 0, none⟩) (L.length + 1) cp) (msd (s.data.toList.take (k + 1)))) := by
        rw [byte_take s k hlt]
        have e : msd (s.data.toList.take k ++ [s[k]]) = L ++ [hexN s[k]] := by rw [← HL.out]; simp [msd]
        rw [e]
        exact HO2
      have hD' := isD_iff.1 hD
      have h1 := hD'.1
      have h2 := hD'.2
      have hl : (k : Int) < s.size := by omega
      clear hD hD' HO hx
      go_wp2_with (at_builtin; refine wpList_append_run rfl _ _ 108 rfl rfl rfl hrun ?_)
      go_roundw
      case rel => exact ⟨k + 1, by omega, by go_num, HO2, hBw.trans hB2⟩
      case measure => simp [intOf] <;> omega
    · obtain rfl : k = s.size := by omega
      have hO := HO.out
      rw [List.take_of_length_le (by simp)] at hO
      have HO : Hid _ := hO
      obtain ⟨p, cap, rfl, -⟩ := hO.form
      clear hO
      go_wp2
      go_ret2
      exact ⟨_, rfl, HO.out, hBw⟩

set_option maxRecDepth 100000 in
set_option maxHeartbeats 1000000 in
theorem eread_no (s : ByteArray) (w : World) (hok : s.data.toList.all isD = false) (hs : s.size ≤ 100000) :
    Calls Try.prog 85 #[.string s] w fun e w' => e = .returned (.tuple #[.slice none 0 0, .bool false]) ∧ Below w.heap.size w w' := by
  obtain ⟨w1, MK, HO0, hB0, -⟩ := own_make (t := 108) Try.underlying108 Try.info3 (by decide) w.heap.size w s.size (by omega) (Nat.le_refl _)
  have HO0 : Hid _ := HO0
  have HK : Hid (s.data.toList.all isD = false) := hok
  clear hok
  go_enter Try.func85, Try.ntmps85
  go_wp2
  go_loopw [4, 11] (fun v iv wr => ∃ (k : Nat) (L : List Nat), k ≤ s.size ∧ iv = .int .i64 k ∧ Hid (Own .i64 3 w.heap.size wr v L) ∧ Hid (L.length = k) ∧ Hid ((s.data.toList.take k).all isD = true) ∧ Below w.heap.size w wr) (fun _ iv _ => s.size - (intOf iv).toNat)
  case atStart => exact ⟨0, [], Nat.zero_le _, rfl, HO0.out, (rfl : ([] : List Nat).length = 0), (show _ = true by rw [List.take_zero]; rfl), hB0⟩
  case round =>
    obtain ⟨k, L, hk, rfl, HO, HL, HA, hBw⟩ := hrel
    by_cases hlt : k < s.size
    · have hlen : L.length ≤ 100000 := by have := HL.out; omega
      obtain ⟨p, cap, rfl, hc1, hc2, -, -⟩ := HO.out.form
      have hl : (k : Int) < s.size := by omega
      by_cases hD : isD s[k] = true
      · obtain ⟨g, cp, w2, hrun, HO2, hB2⟩ := push83 HO.out hBw.size (hexN s[k]) (by omega)
        have hx : ((hexN s[k] : Nat) : Int) = (s[k].toNat : Int) - 48 := by rw [isD_hex hD]; have := isD_iff.1 hD; omega
        rw [hx] at hrun
        have HO2 : Hid _ := HO2
        have HL2 : Hid ((L ++ [hexN s[k]]).length = k + 1) := by have := HL.out; show _ = _; simp; omega
        have HA2 : Hid ((s.data.toList.take (k + 1)).all isD = true) := by
          show _ = true
          rw [byte_take s k hlt, List.all_append, HA.out, List.all_cons, hD]; rfl
        have hD' := isD_iff.1 hD
        have h1 := hD'.1
        have h2 := hD'.2
        clear hD hD' HO hx
        go_wp2_with (at_builtin; refine wpList_append_run rfl _ _ 108 rfl rfl rfl hrun ?_)
        go_roundw
        case rel => exact ⟨k + 1, _, by omega, by go_num, HO2, HL2, HA2, hBw.trans hB2⟩
        case measure => simp [intOf] <;> omega
      · have hD' : ¬ (48 ≤ (s[k].toNat : Int) ∧ (s[k].toNat : Int) ≤ 57) := fun h => hD (isD_iff.2 h)
        clear hD HO
        by_cases h0 : (s[k].toNat : Int) < 48
        · clear hD'
          go_wp2
          go_ret2
          exact ⟨rfl, hBw⟩
        · have h1 : (57 : Int) < s[k].toNat := by omega
          clear hD'
          go_wp2
          go_ret2
          exact ⟨rfl, hBw⟩
    · have h1 := HA.out
      rw [List.take_of_length_le (by simp; omega), HK.out] at h1
      cases h1


theorem val_le9 {l : List Nat} (hd : Dg 10 l) (hl : l.length ≤ 9) : val 10 l < 1000000000 := by
  have h := val_lt (b := 10) (by decide) hd
  have h2 : 10 ^ l.length ≤ 10 ^ 9 := Nat.pow_le_pow_right (by decide) hl
  exact Nat.lt_of_lt_of_le h h2

set_option maxRecDepth 100000 in
set_option maxHeartbeats 400000 in
theorem sum_any (p : Option Addr) (cap : Nat) (l : List Nat) (w : World) (hrd : Rd .i64 w p l) (hd : Dg 10 l) (hl : l.length ≤ 9) :
    Calls Try.prog 86 #[.slice p l.length cap] w fun e w' => e = .returned (.int .i64 (val 10 l.reverse)) ∧ w' = w := by
  have HR : Hid (Rd .i64 w p l) := hrd
  have HD : Hid (Dg 10 l) := hd
  clear hrd hd
  go_enter Try.func86, Try.ntmps86
  go_wp2
  go_loop [3, 8] (fun v iv => ∃ (k n : Nat), k ≤ l.length ∧ iv = .int .i64 k ∧ v = .int .i64 n ∧ n < 1000000000 ∧ Hid (n = val 10 (l.take k).reverse)) (fun _ iv => l.length - (intOf iv).toNat)
  case atStart => exact ⟨0, 0, Nat.zero_le _, rfl, rfl, by decide, rfl⟩
  case round =>
    obtain ⟨k, n, hk, rfl, rfl, hn, HV⟩ := hrel
    by_cases hlt : k < l.length
    · obtain ⟨b, o, rfl, hcell⟩ := HR.out.at (by omega)
      have c1 := hcell k hlt
      have hdi := HD.out.at hlt
      have hli : (k : Int) < l.length := by omega
      have HV2 : Hid (n * 10 + nAt l k = val 10 (l.take (k + 1)).reverse) := by
        show _ = _
        rw [take_snoc hlt, List.reverse_append]
        show _ = nAt l k + 10 * val 10 (l.take k).reverse
        rw [← HV.out]
        omega
      have hn2 : n * 10 + nAt l k < 1000000000 := by
        rw [HV2.out]
        exact val_le9 (fun d h => HD.out.take (k + 1) d (List.mem_reverse.1 h)) (by simp; omega)
      generalize nAt l k = d at c1 hdi HV2 hn2
      clear hcell
      go_wp2
      go_round
      case rel => exact ⟨k + 1, n * 10 + d, by omega, by go_num, by go_num, hn2, HV2⟩
      case measure => simp [intOf] <;> omega
    · obtain rfl : k = l.length := by omega
      have h := HV.out
      rw [List.take_length] at h
      have HV : Hid (n = val 10 l.reverse) := h
      clear h
      go_wp2
      go_ret
      exact ⟨ret_int (by rw [← HV.out]), rfl⟩

/-- The number that stands behind e. -/
def expP (u : ByteArray) : Option Int :=
  if (restB u).size = 0 ∨ 9 < (restB u).size then none else if (restB u).data.toList.all isD then some (if negB u then -(valD (restB u).data.toList : Int) else (valD (restB u).data.toList : Int)) else none
theorem expP_range {u : ByteArray} {x : Int} (h : expP u = some x) : -999999999 ≤ x ∧ x ≤ 999999999 := by
  unfold expP at h
  split at h
  · cases h
  · rename_i hs
    split at h
    · rename_i ha
      have hv := val_le9 (l := (msd (restB u).data.toList).reverse) (fun d hd => msd_dg ha d (List.mem_reverse.1 hd)) (by simp [msd]; omega)
      have : valD (restB u).data.toList < 1000000000 := hv
      cases h
      split <;> omega
    · cases h

set_option maxRecDepth 100000 in
set_option maxHeartbeats 400000 in
theorem exponent_any (u : ByteArray) (w : World) :
    Calls Try.prog 72 #[.string u] w fun e w' => e = .returned (.tuple #[.int .i64 ((expP u).getD 0), .bool (expP u).isSome]) ∧ Below w.heap.size w w' := by
  have S := fun w => signed_b u w
  by_cases h1 : (restB u).size = 0
  · have e : expP u = none := by unfold expP; rw [if_pos (.inl h1)]
    rw [e]
    have he := empty_of h1
    clear h1 e
    generalize negB u = ng at S
    generalize restB u = r at S he
    go_enter Try.func72, Try.ntmps72
    go_wp2_with fail
    refine (S _).mono ?_
    rintro e w1 ⟨rfl, hB1⟩
    go_wp2
    go_ret2
    exact ⟨rfl, hB1⟩
  · have he := nonempty_of (s := restB u) (by omega)
    by_cases h2 : 9 < (restB u).size
    · have e : expP u = none := by unfold expP; rw [if_pos (.inr h2)]
      rw [e]
      have h2' : (9 : Int) < (restB u).size := by omega
      clear h1 h2 e
      generalize negB u = ng at S
      generalize restB u = r at S he h2'
      go_enter Try.func72, Try.ntmps72
      go_wp2_with fail
      refine (S _).mono ?_
      rintro e w1 ⟨rfl, hB1⟩
      go_wp2
      go_ret2
      exact ⟨rfl, hB1⟩
    · have h2' : ¬ (9 : Int) < (restB u).size := by omega
      cases ha : (restB u).data.toList.all isD
      · have e : expP u = none := by unfold expP; rw [if_neg (by omega), ha]; rfl
        rw [e]
        have R := fun w => eread_no (restB u) w ha (by omega)
        clear h1 h2 e ha
        generalize negB u = ng at S
        generalize restB u = r at S he h2' R
        go_enter Try.func72, Try.ntmps72
        go_wp2_with fail
        refine (S _).mono ?_
        rintro e w1 ⟨rfl, hB1⟩
        go_wp2_with fail
        refine (R _).mono ?_
        rintro e w2 ⟨rfl, hB2⟩
        go_wp2
        go_ret2
        exact ⟨rfl, hB1.trans (hB2.mono hB1.size)⟩
      · have e : expP u = some (if negB u then -(valD (restB u).data.toList : Int) else (valD (restB u).data.toList : Int)) := by unfold expP; rw [if_neg (by omega), ha]; rfl
        rw [e]
        have R := fun w => eread_yes (restB u) w ha (by omega)
        have hdg := msd_dg ha
        have hlen : (msd (restB u).data.toList).length ≤ 9 := by simp [msd]; omega
        have hv : valD (restB u).data.toList < 1000000000 := val_le9 (l := (msd (restB u).data.toList).reverse) (fun d hd => hdg d (List.mem_reverse.1 hd)) (by simpa using hlen)
        unfold valD at hv ⊢
        clear h1 h2 e ha
        generalize msd (restB u).data.toList = L at R hdg hlen hv ⊢
        have SM := fun p cap w h => sum_any p cap L w h hdg hlen
        have hN0 : (0 : Int) ≤ (val 10 L.reverse : Nat) := by omega
        have hN1 : ((val 10 L.reverse : Nat) : Int) ≤ 999999999 := by omega
        clear hv hdg
        generalize ((val 10 L.reverse : Nat) : Int) = N at SM hN0 hN1 ⊢
        cases hneg : negB u
        · rw [hneg] at S
          generalize restB u = r at S he h2' R
          go_enter Try.func72, Try.ntmps72
          go_wp2_with fail
          refine (S _).mono ?_
          rintro e w1 ⟨rfl, hB1⟩
          go_wp2_with fail
          refine (R _).mono ?_
          rintro e w2 ⟨v2, rfl, hO2, hB2⟩
          obtain ⟨p2, c2, rfl, -, -, hr2, -⟩ := hO2.form
          go_wp2_with fail
          refine (SM p2 c2 w2 hr2).mono ?_
          rintro e w2 ⟨rfl, rfl⟩
          go_wp2
          go_ret2
          exact ⟨rfl, hB1.trans (hB2.mono hB1.size)⟩
        · rw [hneg] at S
          generalize restB u = r at S he h2' R
          go_enter Try.func72, Try.ntmps72
          go_wp2_with fail
          refine (S _).mono ?_
          rintro e w1 ⟨rfl, hB1⟩
          go_wp2_with fail
          refine (R _).mono ?_
          rintro e w2 ⟨v2, rfl, hO2, hB2⟩
          obtain ⟨p2, c2, rfl, -, -, hr2, -⟩ := hO2.form
          go_wp2_with fail
          refine (SM p2 c2 w2 hr2).mono ?_
          rintro e w2 ⟨rfl, rfl⟩
          go_wp2
          go_ret2
          exact ⟨rfl, hB1.trans (hB2.mono hB1.size)⟩
end Go.Proofs.Ytpffegkckejpiaa
