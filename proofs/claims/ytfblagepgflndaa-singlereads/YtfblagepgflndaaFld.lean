/- folded, between, spaced, always: what stands between two lines. -/
import Derived.Test.YtfblagepgflndaaItr
set_option linter.unusedVariables false
set_option linter.unusedSimpArgs false
namespace Go.Proofs.Ytfblagepgflndaa
open Go.RowKit Go.Shelf
attribute [local go_sem] Oper.semAt_some

set_option maxRecDepth 100000 in
set_option maxHeartbeats 1000000 in
theorem folded_in (n : Nat) (e : Int) (w : World) :
    CallsIn Fence.wide n Try.prog 37 #[.int .i64 e] w fun r w' => r = .returned (foldV e) ∧ w.grownBy w' none := by
  refine callsIn_of_wp Try.func37 rfl trivial ?_ rfl
  simp only [Try.ntmps37, List.size_toArray, List.length_cons, List.length_nil, Nat.reduceAdd, Nat.reduceSub, Array.replicate_succ, Array.replicate_zero, List.push_toArray, List.append_toArray, List.nil_append, List.cons_append]
  have z := Try.zeroValue56
  have s := Try.sizeOf56
  by_cases h : e = 0
  · subst h
    gi_wp2
    exact bodyPost_ret (v := foldV 0) (by simp [results, Try.results37, go_sem, foldV]) rfl ⟨rfl, World.grownBy_alloc _ _ none⟩
  · have t : (e == 0) = false := by simpa using h
    gi_wp2
    exact bodyPost_ret (v := foldV e) (by simp [results, Try.results37, go_sem, foldV, h]) rfl ⟨rfl, World.grownBy_alloc _ _ none⟩

def spacedP (t : List Int) : Bool := blankP (iAt t 0)
def alwaysP (t : List Int) : Bool := true

theorem foldV_form (e : Int) : ∃ x y, foldV e = .agg #[.int .i64 x, .int .i64 y] := by
  unfold foldV
  split
  · exact ⟨_, _, rfl⟩
  · exact ⟨_, _, rfl⟩

theorem grown_after {w w' : World} {o : Obj} (h : (w.alloc o).grownBy w' none) (u v : Value) : w.grownBy ((w'.setCell ⟨w.heap.size, 0, none⟩ u).setCell ⟨w.heap.size, 1, none⟩ v) none := by
  have s0 := h.size
  have s1 := (KeepsWalks.setCell w' ⟨w.heap.size, 0, none⟩ u).size
  have s2 := (KeepsWalks.setCell (w'.setCell ⟨w.heap.size, 0, none⟩ u) ⟨w.heap.size, 1, none⟩ v).size
  simp only [World.size_alloc] at s0
  refine ⟨h.1, h.2, h.3, by omega, fun k hk _ => ?_⟩
  rw [Deep.blk_setCell_other _ _ _ _ (by show k ≠ w.heap.size; omega), Deep.blk_setCell_other _ _ _ _ (by show k ≠ w.heap.size; omega), h.block k (by simp; omega) (by simp)]
  exact Below.heap_alloc w o k hk

/-- The same code point again and again, as a value. -/
def runV (c : Int) (k : Int) : Value := .agg #[.int .i64 c, .int .i64 k]
/-- What stands ahead of the line at place i, behind the one at place b (below 0: there is none). -/
def betV (P : List Int → Bool) (g : Nat → List Int) (b : Int) (i : Nat) : Value :=
  if b < 0 then runV 10 ((i : Int) - b - 1) else if P (g b.toNat) || P (g i) then runV 10 ((i : Int) - b - 1 + 1) else foldV ((i : Int) - b - 1)

end Go.Proofs.Ytfblagepgflndaa
