/- The document's AddDigits and PlainDigits. -/
import Derived.Test.YtbckmahmlgjkpaaRefD
set_option linter.unusedVariables false
set_option linter.unusedSimpArgs false
namespace Go.Proofs.Ytbckmahmlgjkpaa
open Go.RowKit

set_option maxRecDepth 100000 in
set_option maxHeartbeats 2000000 in
theorem AddDigits_any (a b : ByteArray) (w : World) :
    Calls Try.prog 12 #[.string a, .string b] w fun e w' => e = .returned (.string (decB (num a + num b))) ∧ Below w.heap.size w w' := by
  have nA := rnum_len a
  have nB := rnum_len b
  have dA := rnum_dg a
  have dB := rnum_dg b
  have vA := rnum_val a
  have vB := rnum_val b
  have RA := fun w => rnumber_any a w
  have RB := fun w => rnumber_any b w
  rw [← vA, ← vB]
  generalize rnum a = X at *
  generalize rnum b = Y at *
  obtain ⟨nX1, nX2⟩ := nA
  obtain ⟨nY1, nY2⟩ := nB
  clear vA vB
  go_enter Try.func12, Try.ntmps12
  go_wp2_with fail
  refine (RA _).mono ?_
  rintro e w1 ⟨v1, rfl, hO1, hB1⟩
  obtain ⟨p1, c1, rfl, -, -, hr1, -⟩ := hO1.form
  go_wp2_with fail
  refine (RB _).mono ?_
  rintro e w2 ⟨v2, rfl, hO2, hB2⟩
  obtain ⟨p2, c2, rfl, -, -, hr2, -⟩ := hO2.form
  have hr1 := hr1.on hB2
  obtain ⟨b1, o1, rfl, hc1⟩ := hr1.at nX1
  obtain ⟨b2, o2, rfl, hc2⟩ := hr2.at nY1
  have hB12 : Below w.heap.size w w2 := hB1.trans (hB2.mono hB1.size)
  have lt1 : b1 < w2.heap.size := World.block_lt_of_cell? w2 ⟨b1, o1 + 0, none⟩ (hc1 0 nX1)
  have lt2 : b2 < w2.heap.size := World.block_lt_of_cell? w2 ⟨b2, o2 + 0, none⟩ (hc2 0 nY1)
  have HC1 : Hid _ := hc1
  have HC2 : Hid _ := hc2
  clear RA RB hO1 hO2 hr1 hr2 hc1 hc2
  go_wp2
  go_loopw [7, 8, 9] (fun u cv iv wr => ∃ (i c : Nat) (out : List Nat), i ≤ X.length + Y.length + 1 ∧ iv = .int .i64 i ∧ cv = .int .i64 c ∧ c ≤ 1 ∧ Hid ((X.length ≤ i → Y.length ≤ i → c = 0 ∨ i ≤ X.length + Y.length) ∧ out.length = i ∧ Dg 10 out ∧ val 10 out + 10 ^ i * c = val 10 (X.take i) + val 10 (Y.take i)) ∧ Hid (Own .i64 3 w2.heap.size wr u out) ∧ Below w2.heap.size w2 wr) (fun _ cv iv _ => 2 * (X.length + Y.length - (intOf iv).toNat) + (intOf cv).toNat)
  case atStart => exact ⟨0, 0, [], by omega, rfl, rfl, by omega, ⟨fun _ _ => .inl rfl, rfl, Dg.nil _, by simp [val]⟩, Own.nil _ _ _ _, Below.refl _ _⟩
  case round =>
    obtain ⟨i, c, out, hi, rfl, rfl, hc, HV, HO, hBw⟩ := hrel
    have hol : out.length ≤ 10001 := by have := HV.out.2.1; omega
    obtain ⟨r, rc, rfl, -, -, hrr, -⟩ := HO.out.form
    obtain ⟨hvm, hvo, hvd, hvv⟩ := HV.out
    by_cases hx : i < X.length
    · have hxi : (i : Int) < X.length := by omega
      have c0 := (hBw.cell (p := ⟨b1, o1 + i, none⟩) lt1).trans (HC1.out i hx)
      have hdx := dA.at hx
      have hSX := val_take_succ 10 hx
      generalize nAt X i = x at c0 hdx hSX
      by_cases hy : i < Y.length
      · have hyi : (i : Int) < Y.length := by omega
        have c1' := (hBw.cell (p := ⟨b2, o2 + i, none⟩) lt2).trans (HC2.out i hy)
        have hdy := dB.at hy
        have hSY := val_take_succ 10 hy
        generalize nAt Y i = y at c1' hdy hSY
        have HV1 := add_step (k := x + y) hvv hvo
        rw [Nat.mul_add, ← Nat.add_assoc c x y] at HV1
        obtain ⟨g, cp', w3, hrun, HO3, hB3⟩ := push64 HO.out hBw.size ((c + x + y) % 10) (by omega)
        have hm : (((c + x + y) % 10 : Nat) : Int) = ((c : Int) + x + y) % 10 := by omega
        rw [hm] at hrun
        have HO3 : Hid _ := HO3
        have HV2 : Hid ((X.length ≤ i + 1 → Y.length ≤ i + 1 → (c + x + y) / 10 = 0 ∨ i + 1 ≤ X.length + Y.length) ∧ (out ++ [(c + x + y) % 10]).length = i + 1 ∧ Dg 10 (out ++ [(c + x + y) % 10]) ∧ val 10 (out ++ [(c + x + y) % 10]) + 10 ^ (i + 1) * ((c + x + y) / 10) = val 10 (X.take (i + 1)) + val 10 (Y.take (i + 1))) := ⟨fun _ _ => .inr (by omega), by simp; omega, hvd.snoc (by omega), by rw [hSX, hSY]; omega⟩
        clear hm HV1 hSX hSY hvv hvo hvm hrr
        go_wp2_with (at_builtin; refine wpList_append_run rfl _ _ 33 rfl rfl rfl hrun ?_)
        go_roundw
        case rel => exact ⟨i + 1, (c + x + y) / 10, out ++ [(c + x + y) % 10], by omega, by go_num, by go_num, by omega, HV2, HO3, hBw.trans hB3⟩
        case measure => simp [intOf]; omega
      · have hyi : ¬ (i : Int) < Y.length := by omega
        have hSY : Y.take (i + 1) = Y.take i := by rw [take_whole (by omega), take_whole (by omega)]
        have HV1 := add_step (k := x) hvv hvo
        obtain ⟨g, cp', w3, hrun, HO3, hB3⟩ := push64 HO.out hBw.size ((c + x) % 10) (by omega)
        have hm : (((c + x) % 10 : Nat) : Int) = ((c : Int) + x) % 10 := by omega
        rw [hm] at hrun
        have HO3 : Hid _ := HO3
        have HV2 : Hid ((X.length ≤ i + 1 → Y.length ≤ i + 1 → (c + x) / 10 = 0 ∨ i + 1 ≤ X.length + Y.length) ∧ (out ++ [(c + x) % 10]).length = i + 1 ∧ Dg 10 (out ++ [(c + x) % 10]) ∧ val 10 (out ++ [(c + x) % 10]) + 10 ^ (i + 1) * ((c + x) / 10) = val 10 (X.take (i + 1)) + val 10 (Y.take (i + 1))) := ⟨fun _ _ => .inr (by omega), by simp; omega, hvd.snoc (by omega), by rw [hSX, hSY]; omega⟩
        clear hm HV1 hSX hSY hvv hvo hvm hrr
        go_wp2_with (at_builtin; refine wpList_append_run rfl _ _ 33 rfl rfl rfl hrun ?_)
        go_roundw
        case rel => exact ⟨i + 1, (c + x) / 10, out ++ [(c + x) % 10], by omega, by go_num, by go_num, by omega, HV2, HO3, hBw.trans hB3⟩
        case measure => simp [intOf]; omega
    · have hxi : ¬ (i : Int) < X.length := by omega
      have hSX : X.take (i + 1) = X.take i := by rw [take_whole (by omega), take_whole (by omega)]
      by_cases hy : i < Y.length
      · have hyi : (i : Int) < Y.length := by omega
        have c1' := (hBw.cell (p := ⟨b2, o2 + i, none⟩) lt2).trans (HC2.out i hy)
        have hdy := dB.at hy
        have hSY := val_take_succ 10 hy
        generalize nAt Y i = y at c1' hdy hSY
        have HV1 := add_step (k := y) hvv hvo
        obtain ⟨g, cp', w3, hrun, HO3, hB3⟩ := push64 HO.out hBw.size ((c + y) % 10) (by omega)
        have hm : (((c + y) % 10 : Nat) : Int) = ((c : Int) + y) % 10 := by omega
        rw [hm] at hrun
        have HO3 : Hid _ := HO3
        have HV2 : Hid ((X.length ≤ i + 1 → Y.length ≤ i + 1 → (c + y) / 10 = 0 ∨ i + 1 ≤ X.length + Y.length) ∧ (out ++ [(c + y) % 10]).length = i + 1 ∧ Dg 10 (out ++ [(c + y) % 10]) ∧ val 10 (out ++ [(c + y) % 10]) + 10 ^ (i + 1) * ((c + y) / 10) = val 10 (X.take (i + 1)) + val 10 (Y.take (i + 1))) := ⟨fun _ _ => .inr (by omega), by simp; omega, hvd.snoc (by omega), by rw [hSX, hSY]; omega⟩
        clear hm HV1 hSX hSY hvv hvo hvm hrr
        go_wp2_with (at_builtin; refine wpList_append_run rfl _ _ 33 rfl rfl rfl hrun ?_)
        go_roundw
        case rel => exact ⟨i + 1, (c + y) / 10, out ++ [(c + y) % 10], by omega, by go_num, by go_num, by omega, HV2, HO3, hBw.trans hB3⟩
        case measure => simp [intOf]; omega
      · have hyi : ¬ (i : Int) < Y.length := by omega
        have hSY : Y.take (i + 1) = Y.take i := by rw [take_whole (by omega), take_whole (by omega)]
        by_cases hc0 : 0 < c
        · have hci : (0 : Int) < c := by omega
          have hib : i ≤ X.length + Y.length := by rcases hvm (by omega) (by omega) with h | h <;> omega
          have HV1 := add_step (k := 0) hvv hvo
          rw [Nat.add_zero, Nat.mul_zero, Nat.add_zero] at HV1
          obtain ⟨g, cp', w3, hrun, HO3, hB3⟩ := push64 HO.out hBw.size (c % 10) (by omega)
          have hm : ((c % 10 : Nat) : Int) = (c : Int) % 10 := by omega
          rw [hm] at hrun
          have HO3 : Hid _ := HO3
          have HV2 : Hid ((X.length ≤ i + 1 → Y.length ≤ i + 1 → c / 10 = 0 ∨ i + 1 ≤ X.length + Y.length) ∧ (out ++ [c % 10]).length = i + 1 ∧ Dg 10 (out ++ [c % 10]) ∧ val 10 (out ++ [c % 10]) + 10 ^ (i + 1) * (c / 10) = val 10 (X.take (i + 1)) + val 10 (Y.take (i + 1))) := ⟨fun _ _ => .inl (by omega), by simp; omega, hvd.snoc (by omega), by rw [hSX, hSY]; exact HV1⟩
          clear hm HV1 hSX hSY hvv hvo hvm hrr
          go_wp2_with (at_builtin; refine wpList_append_run rfl _ _ 33 rfl rfl rfl hrun ?_)
          go_roundw
          case rel => exact ⟨i + 1, c / 10, out ++ [c % 10], by omega, by go_num, by go_num, by omega, HV2, HO3, hBw.trans hB3⟩
          case measure => simp [intOf]; omega
        · obtain rfl : c = 0 := by omega
          have hv : val 10 out = val 10 X + val 10 Y := by rw [take_whole (by omega), take_whole (by omega)] at hvv; omega
          have WR := written_any r rc out wr hrr (by omega) hvd (by omega)
          rw [hv] at WR
          clear hvv hvo hvm hrr hSX hSY hv HV HO
          go_wp2_with (first | (go_at_call 23; refine WR.mono ?_; rintro e w4 ⟨rfl, hB4⟩))
          go_ret
          exact ⟨rfl, hB12.trans ((hBw.mono hB12.size).trans (hB4.mono (Nat.le_trans hB12.size hBw.size)))⟩
end Go.Proofs.Ytbckmahmlgjkpaa
