/- decimal.Int: what is no whole number; both together. -/
import Derived.Test.YtpffegkckejpiaaInt
set_option linter.unusedVariables false
set_option linter.unusedSimpArgs false
set_option maxRecDepth 100000
namespace Go.Proofs.Ytpffegkckejpiaa
open Go.RowKit

set_option maxRecDepth 100000 in
set_option maxHeartbeats 400000 in
theorem Int_noO (s : ByteArray) (w : World) (h1 : preO s = true) (hok : okS (tail2 s) 8 = false) :
    Calls Try.prog 24 #[.string s] w fun e w' => e = .returned (.tuple #[zV, .bool false]) ∧ Below w.heap.size w w' := by
  have PL := fun w => Plain_no (tail2 s) 8 w hok
  clear hok
  have S := fun w => signed_b s w
  generalize negB s = ng at S
  go_enter Try.func24, Try.ntmps24
  go_wp2_with fail
  refine (S _).mono ?_
  rintro e w1 ⟨rfl, hB1⟩
  rw [size1] at hB1
  go_wp2_with fail
  refine (cutO s _).mono ?_
  rintro e w1 ⟨rfl, rfl⟩
  rw [h1]
  go_wp2_with fail
  refine (PL _).mono ?_
  rintro e w2 ⟨rfl, hB2⟩
  have hBB : Below (w.heap.size + 1) (w.alloc zC) w2 := hB1.trans (hB2.mono (by have := hB1.size; rw [size1] at this; omega))
  obtain ⟨r0, r1, r2, r3, f0, f1, f2, f3⟩ := res_cells hBB
  have hw := zC_below hBB
  clear S PL
  go_wp2
  exact bodyPost_ret (v := .tuple #[zV, .bool false]) (put4_results2 Try.results24 rfl rfl r0 r1 r2 r3 _ _ _ _) rfl ⟨rfl, put4_below hw (Nat.le_refl _) _ _ _ _⟩

set_option maxRecDepth 100000 in
set_option maxHeartbeats 400000 in
theorem Int_noX (s : ByteArray) (w : World) (h1 : preO s = false) (h2 : preX s = true) (hok : okS (tail2 s) 16 = false) :
    Calls Try.prog 24 #[.string s] w fun e w' => e = .returned (.tuple #[zV, .bool false]) ∧ Below w.heap.size w w' := by
  have PL := fun w => Plain_no (tail2 s) 16 w hok
  clear hok
  have S := fun w => signed_b s w
  generalize negB s = ng at S
  go_enter Try.func24, Try.ntmps24
  go_wp2_with fail
  refine (S _).mono ?_
  rintro e w1 ⟨rfl, hB1⟩
  rw [size1] at hB1
  go_wp2_with fail
  refine (cutO s _).mono ?_
  rintro e w1 ⟨rfl, rfl⟩
  rw [h1]
  go_wp2_with fail
  refine (cutX s _).mono ?_
  rintro e w1 ⟨rfl, rfl⟩
  rw [h2]
  go_wp2_with fail
  refine (PL _).mono ?_
  rintro e w2 ⟨rfl, hB2⟩
  have hBB : Below (w.heap.size + 1) (w.alloc zC) w2 := hB1.trans (hB2.mono (by have := hB1.size; rw [size1] at this; omega))
  obtain ⟨r0, r1, r2, r3, f0, f1, f2, f3⟩ := res_cells hBB
  have hw := zC_below hBB
  clear S PL
  go_wp2
  exact bodyPost_ret (v := .tuple #[zV, .bool false]) (put4_results2 Try.results24 rfl rfl r0 r1 r2 r3 _ _ _ _) rfl ⟨rfl, put4_below hw (Nat.le_refl _) _ _ _ _⟩

set_option maxRecDepth 100000 in
set_option maxHeartbeats 400000 in
theorem Int_noN (s : ByteArray) (w : World) (h1 : preO s = false) (h2 : preX s = false) (hok : okS (restB s) 10 = false) :
    Calls Try.prog 24 #[.string s] w fun e w' => e = .returned (.tuple #[zV, .bool false]) ∧ Below w.heap.size w w' := by
  have PL := fun w => Plain_no (restB s) 10 w hok
  clear hok
  have S := fun w => signed_b s w
  generalize negB s = ng at S
  go_enter Try.func24, Try.ntmps24
  go_wp2_with fail
  refine (S _).mono ?_
  rintro e w1 ⟨rfl, hB1⟩
  rw [size1] at hB1
  go_wp2_with fail
  refine (cutO s _).mono ?_
  rintro e w1 ⟨rfl, rfl⟩
  rw [h1]
  go_wp2_with fail
  refine (cutX s _).mono ?_
  rintro e w1 ⟨rfl, rfl⟩
  rw [h2]
  go_wp2_with fail
  refine (PL _).mono ?_
  rintro e w2 ⟨rfl, hB2⟩
  have hBB : Below (w.heap.size + 1) (w.alloc zC) w2 := hB1.trans (hB2.mono (by have := hB1.size; rw [size1] at this; omega))
  obtain ⟨r0, r1, r2, r3, f0, f1, f2, f3⟩ := res_cells hBB
  have hw := zC_below hBB
  clear S PL
  go_wp2
  exact bodyPost_ret (v := .tuple #[zV, .bool false]) (put4_results2 Try.results24 rfl rfl r0 r1 r2 r3 _ _ _ _) rfl ⟨rfl, put4_below hw (Nat.le_refl _) _ _ _ _⟩

theorem Int_any (s : ByteArray) (w : World) :
    Calls Try.prog 24 #[.string s] w fun e w' => e = .returned (intV s) ∧ Below w.heap.size w w' := by
  unfold intV bodyOf baseOf
  cases h1 : preO s
  · cases h2 : preX s
    · simp only [Bool.false_eq_true, if_false]
      cases hok : okS (restB s) ((10 : Nat) : Int)
      · exact Int_noN s w h1 h2 hok
      · exact Int_yesN s w h1 h2 hok
    · simp only [Bool.false_eq_true, if_false, if_true]
      cases hok : okS (tail2 s) ((16 : Nat) : Int)
      · exact Int_noX s w h1 h2 hok
      · exact Int_yesX s w h1 h2 hok
  · simp only [if_true]
    cases hok : okS (tail2 s) ((8 : Nat) : Int)
    · exact Int_noO s w h1 hok
    · exact Int_yesO s w h1 hok
end Go.Proofs.Ytpffegkckejpiaa
