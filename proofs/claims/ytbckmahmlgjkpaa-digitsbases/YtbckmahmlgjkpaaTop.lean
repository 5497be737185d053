/- digits.Add, digits.Less, digits.Times. -/
import Derived.Test.YtbckmahmlgjkpaaRead
import Derived.Test.YtbckmahmlgjkpaaWrit
import Derived.Test.YtbckmahmlgjkpaaLess
set_option linter.unusedVariables false
set_option linter.unusedSimpArgs false
namespace Go.Proofs.Ytbckmahmlgjkpaa
open Go.RowKit Go.Shelf

theorem dec_of {l : List Nat} {n : Nat} (hd : Dg 10 l) (hc : Canon l) (hv : val 10 l = n) : textB l = decB n := by rw [← hv]; exact text_dec hd hc
theorem ret_str {a b : ByteArray} (h : a = b) : Ending.returned (.string a) = .returned (.string b) := by rw [h]

set_option maxRecDepth 100000 in
set_option maxHeartbeats 1000000 in
theorem Add_any (a b : ByteArray) (w : World) :
    Calls Try.prog 11 #[.string a, .string b] w fun e w' => e = .returned (.string (decB (num a + num b))) ∧ Below w.heap.size w w' := by
  go_enter Try.func11, Try.ntmps11
  go_wp2_with fail
  refine (number_any a _).mono ?_
  rintro e w1 ⟨v1, rfl, hO1, hB1⟩
  obtain ⟨p1, c1, rfl, -, -, hr1, -⟩ := hO1.form
  go_wp2_with fail
  refine (number_any b _).mono ?_
  rintro e w2 ⟨v2, rfl, hO2, hB2⟩
  obtain ⟨p2, c2, rfl, -, -, hr2, -⟩ := hO2.form
  go_wp2_with fail
  refine (plus_any p1 p2 c1 c2 (numL a) (numL b) w2 (hr1.on hB2) hr2 (numL_dg a) (numL_dg b) (numL_canon a) (numL_canon b) (numL_len a) (numL_len b)).mono ?_
  rintro e w3 ⟨v3, l3, rfl, hO3, hB3, d3, k3, e3, n3⟩
  obtain ⟨p3, c3, rfl, -, -, hr3, -⟩ := hO3.form
  have HE : Hid (textB l3 = decB (num a + num b)) := dec_of d3 k3 (by rw [e3, numL_val, numL_val])
  clear e3
  go_wp2_with fail
  refine (text_any p3 c3 l3 w3 (by omega) d3 hr3).mono ?_
  rintro e w4 ⟨rfl, hB4⟩
  go_wp2
  go_ret
  exact ⟨ret_str HE.out, (hB1.trans (hB2.mono hB1.size)).trans ((hB3.mono (Nat.le_trans hB1.size hB2.size)).trans (hB4.mono (Nat.le_trans (Nat.le_trans hB1.size hB2.size) hB3.size)))⟩

set_option maxRecDepth 100000 in
set_option maxHeartbeats 1000000 in
theorem Less_any (a b : ByteArray) (w : World) :
    Calls Try.prog 13 #[.string a, .string b] w fun e w' => e = .returned (.bool (decide (num a < num b))) ∧ Below w.heap.size w w' := by
  go_enter Try.func13, Try.ntmps13
  go_wp2_with fail
  refine (number_any a _).mono ?_
  rintro e w1 ⟨v1, rfl, hO1, hB1⟩
  obtain ⟨p1, c1, rfl, -, -, hr1, -⟩ := hO1.form
  go_wp2_with fail
  refine (number_any b _).mono ?_
  rintro e w2 ⟨v2, rfl, hO2, hB2⟩
  obtain ⟨p2, c2, rfl, -, -, hr2, -⟩ := hO2.form
  have BL := below_any p1 p2 c1 c2 (numL a) (numL b) w2 (by have := numL_len a; omega) (numL_dg a) (numL_dg b) (numL_canon a) (numL_canon b) (hr1.on hB2) hr2
  rw [numL_val, numL_val] at BL
  go_wp2_with fail
  refine BL.mono ?_
  rintro e w3 ⟨rfl, hB3⟩
  go_wp2
  go_ret
  exact ⟨rfl, (hB1.trans (hB2.mono hB1.size)).trans (hB3.mono (Nat.le_trans hB1.size hB2.size))⟩

set_option maxRecDepth 100000 in
set_option maxHeartbeats 1000000 in
theorem Times_yes (a : ByteArray) (m : Nat) (w : World) (hm : m ≤ 1000000) :
    Calls Try.prog 15 #[.string a, .int .i64 m] w fun e w' => e = .returned (.string (decB (m * num a))) ∧ Below w.heap.size w w' := by
  have h0 : ¬ (m : Int) < 0 := by omega
  have h1 : ¬ (1000000 : Int) < m := by omega
  go_enter Try.func15, Try.ntmps15
  go_wp2_with fail
  refine (number_any a _).mono ?_
  rintro e w1 ⟨v1, rfl, hO1, hB1⟩
  obtain ⟨p1, c1, rfl, -, -, hr1, -⟩ := hO1.form
  have TM := times8_any w.heap.size _ (numL a) m 0 w1 hO1 hB1.size (numL_dg a) hm (by omega) (by have := numL_len a; omega)
  go_wp2_with fail
  refine TM.mono ?_
  rintro e w3 ⟨v3, l3, rfl, hO3, hB3, d3, k3, e3, n3⟩
  obtain ⟨p3, c3, rfl, -, -, hr3, -⟩ := hO3.form
  have HE : Hid (textB l3 = decB (m * num a)) := dec_of d3 k3 (by rw [e3, numL_val]; omega)
  have hl3 : l3.length ≤ 10000000 := by have := numL_len a; omega
  clear e3 TM
  go_wp2_with fail
  refine (text_any p3 c3 l3 w3 hl3 d3 hr3).mono ?_
  rintro e w4 ⟨rfl, hB4⟩
  go_wp2
  go_ret
  exact ⟨ret_str HE.out, (hB1.trans hB3).trans (hB4.mono (Nat.le_trans hB1.size hB3.size))⟩

theorem dec_zero : decB 0 = ⟨#[48]⟩ := by unfold decB; rw [carP_zero]; rfl

set_option maxRecDepth 100000 in
set_option maxHeartbeats 1000000 in
theorem Times_no (a : ByteArray) (n : Int) (w : World) (hn : n < 0 ∨ 1000000 < n) :
    Calls Try.prog 15 #[.string a, .int .i64 n] w fun e w' => e = .returned (.string (decB 0)) ∧ Below w.heap.size w w' := by
  rw [dec_zero]
  rcases hn with h | h
  · go_enter Try.func15, Try.ntmps15
    go_wp2_with (go_at_call 21; refine (text_nil _ _ _).mono ?_; rintro e w ⟨rfl, rfl⟩)
    go_ret
    exact ⟨rfl, Below.refl _ _⟩
  · have h' : ¬ n < 0 := by omega
    go_enter Try.func15, Try.ntmps15
    go_wp2_with (go_at_call 21; refine (text_nil _ _ _).mono ?_; rintro e w ⟨rfl, rfl⟩)
    go_ret
    exact ⟨rfl, Below.refl _ _⟩
end Go.Proofs.Ytbckmahmlgjkpaa
