/- How many code points the URI signs of a line have: signsSize, onlySigns, suffix. -/
import Derived.Test.YtjfeamfchgcblaaDoorSgp
set_option linter.unusedVariables false
set_option linter.unusedSimpArgs false
namespace Go.Proofs.YtjfeamfchgcblaaDoor
open Go.RowKit Go.Shelf
attribute [local go_sem] Oper.semAt_some

/-- What holds while the signs are told: the box holds the place of the next one. -/
def Ig (w : World) (n : Nat → Nat) (L : Nat) (T : List Nat) (E : Nat) (n' : Nat → Nat) (i : Nat) (W : World) : Prop :=
  ∃ k, T.drop i = posE n L k ∧ k ≤ L ∧ runE n' L k = E ∧ Boxed W w.heap.size 3 (.int .i64 (k : Nat)) ∧ Below w.heap.size w W ∧ w.heap.size + 2 ≤ W.heap.size
def Igx (w : World) (E : Nat) (c : Code) (i : Nat) (W : World) : Prop :=
  c = .exit 0 ∧ Boxed W w.heap.size 3 (.int .i64 (E : Nat)) ∧ Below w.heap.size w W
theorem Ig.own {w : World} {n : Nat → Nat} {L : Nat} {T : List Nat} {E : Nat} {n' : Nat → Nat} {B : Nat} (hB : w.heap.size ≤ B) : OwnFrom B (Ig w n L T E n') := by
  rintro s W W' row ⟨k, h1, h2, h3, h4, h5, h6⟩ hgr hr
  exact ⟨k, h1, h2, h3, boxed_own' h4 hgr hr, h5.grown hgr h5.size (fun k e => by have := (hr k e).1; omega), Nat.le_trans h6 hgr.size⟩
theorem Igx.own {w : World} {E : Nat} (c : Code) {B : Nat} (hB : w.heap.size ≤ B) : OwnFrom B (Igx w E c) := by
  rintro s W W' row ⟨h1, h2, h4⟩ hgr hr
  exact ⟨h1, boxed_own' h2 hgr hr, h4.grown hgr h4.size (fun k e => by have := (hr k e).1; omega)⟩

/-- How many code points the sign at a place has that may stand behind a handle. -/
def sN (t : List Int) (k : Nat) : Nat := if k < t.length ∧ (iAt t k = 33 ∨ flowP (iAt t k) = true) then 0 else uN t k
theorem sN_bd (t : List Int) : Bd (sN t) t.length := by
  intro k
  unfold sN
  split
  · exact .inl rfl
  · exact uN_bd t k
theorem sN_zero {t : List Int} {k : Nat} (h : uN t k = 0) : sN t k = 0 := by
  unfold sN
  split
  · rfl
  · exact h
theorem sN_drop (t : List Int) (a j : Nat) : sN (t.drop a) j = sN t (a + j) := by
  unfold sN
  rw [iAt_drop, uN_drop, List.length_drop]
  have h2 : (j < t.length - a) = (a + j < t.length) := by rw [eq_iff_iff]; omega
  simp only [h2]

end Go.Proofs.YtjfeamfchgcblaaDoor
