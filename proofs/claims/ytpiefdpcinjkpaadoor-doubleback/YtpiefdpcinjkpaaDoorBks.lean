/- signs: the iterator of an escape's signs: what its walk wants. -/
import Derived.Test.YtpiefdpcinjkpaaDoorBkp
import Derived.Test.YtpiefdpcinjkpaaDoorIte
set_option linter.unusedVariables false
set_option linter.unusedSimpArgs false
namespace Go.Proofs.YtpiefdpcinjkpaaDoor
open Go.RowKit Go.Shelf
attribute [local go_sem] Oper.semAt_some

set_option maxHeartbeats 1000000 in
theorem signs_in (n : Nat) (c : Int) (w : World) :
    CallsIn Fence.wide n Tryd.prog 26 #[.int .i64 c] w fun e w' => e = .returned (.func (.func 33) #[] #[.pointer (some ⟨w.heap.size, 0, none⟩)]) ∧ w' = w.alloc (.cells #[.int .i64 c] 3) := by
  refine callsIn_of_wp Tryd.func26 rfl trivial ?_ rfl
  simp only [Tryd.ntmps26, List.size_toArray, List.length_cons, List.length_nil, Nat.reduceAdd, Nat.reduceSub, Array.replicate_succ, Array.replicate_zero, List.push_toArray, List.append_toArray, List.nil_append, List.cons_append]
  gi_wp2
  go_ret
  exact ⟨rfl, rfl⟩

/-- What a round of the loop over signs keeps. -/
structure Kc (n₀ B : Nat) (A C : World) : Prop where
  below : Below n₀ A C
  b : C.heap[B]? = A.heap[B]?
theorem Kc.trans {n₀ B : Nat} {A C D : World} (h : Kc n₀ B A C) (k : Kc n₀ B C D) : Kc n₀ B A D := ⟨h.below.trans k.below, k.b.trans h.b⟩
theorem Kc.refl (n₀ B : Nat) (A : World) : Kc n₀ B A A := ⟨Below.refl _ _, rfl⟩
theorem Kc.grown {n₀ B : Nat} {A C : World} (hg : A.grownBy C none) (hn : n₀ ≤ A.heap.size) (h1 : B < A.heap.size) : Kc n₀ B A C :=
  ⟨(grown_below hg).mono hn, hg.block B h1 (by simp)⟩
theorem Kc.cell {n₀ B : Nat} {A C : World} (h : Kc n₀ B A C) : C.cell? ⟨B, 0, none⟩ = A.cell? ⟨B, 0, none⟩ := World.cell?_of_block h.b
theorem Kc.putObj {n₀ B1 : Nat} {B : Nat} (hn : n₀ ≤ B) (h1 : B1 < B) (W : World) (l : Nat) (o o' : Obj) (hl : B ≤ l) (h : W.heap[l]? = some o) (hc : o.isCells = false) : Kc n₀ B1 W (W.putObj l o') := by
  have hlt := (Array.getElem?_eq_some_iff.1 h).1
  exact ⟨(Below.refl n₀ W).grown (grownBy_putObj' W l o') (by omega) (fun k e => by cases e; omega), World.putObj_heap_other (by omega)⟩

theorem shortOf_at {c : Int} (j : Nat) (hj : j < 18) (h : ∀ i, i < j → pnt i ≠ c) (hc : pnt j = c) : shortOf c = some (sgn j) := by
  subst hc
  match j, hj, h with
  | 0, _, _ => decide
  | 1, _, _ => decide
  | 2, _, _ => decide
  | 3, _, _ => decide
  | 4, _, h => exact absurd rfl (h 3 (by decide))
  | 5, _, _ => decide
  | 6, _, _ => decide
  | 7, _, _ => decide
  | 8, _, _ => decide
  | 9, _, _ => decide
  | 10, _, _ => decide
  | 11, _, _ => decide
  | 12, _, _ => decide
  | 13, _, _ => decide
  | 14, _, _ => decide
  | 15, _, _ => decide
  | 16, _, _ => decide
  | 17, _, _ => decide
  | j + 18, hj, _ => omega
theorem shortOf_none {c : Int} (h : ∀ i, i < 18 → pnt i ≠ c) : shortOf c = none := by
  have h0 := h 0 (by decide); have h1 := h 1 (by decide); have h2 := h 2 (by decide); have h3 := h 3 (by decide); have h4 := h 4 (by decide); have h5 := h 5 (by decide)
  have h6 := h 6 (by decide); have h7 := h 7 (by decide); have h8 := h 8 (by decide); have h9 := h 9 (by decide); have h10 := h 10 (by decide); have h11 := h 11 (by decide)
  have h12 := h 12 (by decide); have h13 := h 13 (by decide); have h14 := h 14 (by decide); have h15 := h 15 (by decide); have h16 := h 16 (by decide); have h17 := h 17 (by decide)
  simp [pnt, shortsL] at h0 h1 h2 h3 h4 h5 h6 h7 h8 h9 h10 h11 h12 h13 h14 h15 h16 h17
  simp [shortOf, shortsL, *]

theorem wpListIn_load_tab {F : Fence} {n : Nat} {ops : Array Oper} {rest : List Oper} {op : Oper} {a : Act} {w : World} {Q : Exit → Act → World → Prop} (hgd : op.guard = none) (x : Operand) (ho : op.op = .load 66 x)
    (hx : a.eval x = .pointer (some ⟨0, 0, none⟩)) (hT : Tab w) (h : wpListIn F n Tryd.prog ops Q rest (a.put op.dst tabV) w) : wpListIn F n Tryd.prog ops Q (op :: rest) a w := by
  refine wpListIn_plain hgd fun K hK' => ?_
  unfold Oper.wpIn
  refine ⟨?_, ?_⟩
  · simp [Oper.about, ho]
  · rw [Oper.semAt_plain F _ _ (by rw [ho]; intro c hc'; cases hc')]
    have e0 : (execOp a.eval op).run Tryd.prog w = .ok (.value tabV) w := by
      unfold execOp
      simp only [ho, hx]
      simp [load_tab hT, Result.andThen]
    rw [e0]
    exact hK' _ _ h
end Go.Proofs.YtpiefdpcinjkpaaDoor
