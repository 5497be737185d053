/- The stack's Push. -/
import Derived.Test.YtjfeamfchgcblaaDoorSpp
set_option linter.all false
set_option maxRecDepth 100000
namespace Go.Proofs.YtjfeamfchgcblaaDoor
open Go.RowKit Go.Shelf
attribute [local go_sem] Oper.semAt_some

theorem Tryd.info56 : (Tryd.prog.info? 56).map (fun i => (i.zero, i.size, i.bytes)) = some (some (.agg #[.int .i64 0, .slice none 0 0]), 2, 32) := by kernel_rfl
/-- A visit is laid behind the others. -/
theorem pushV {w : World} {base n : Nat} {v : Value} {xs : List Value} (h : w.ownsRow base 56 2 v n xs) (hb : base ≤ w.heap.size) (hn : n ≤ 1073741824) (x : Vs) :
    ∃ g cap w1, (Builtin.append_ #[51, 51] 51 #[v, .slice (some ⟨w.heap.size, 0, none⟩) 1 1]).run Tryd.prog (w.alloc (.cells #[.int .i64 x.n, .slice x.q x.r.length x.c] 56)) = .ok (.slice (some ⟨g, 0, none⟩) (n + 1) cap) w1 ∧ w1.ownsRow base 56 2 (.slice (some ⟨g, 0, none⟩) (n + 1) cap) (n + 1) (xs ++ x.cs) ∧ (w.alloc (.cells #[.int .i64 x.n, .slice x.q x.r.length x.c] 56)).grownBy w1 v.ownBlock ∧ (v.ownBlock = some g ∨ g = w.heap.size + 1) := by
  obtain ⟨i0, hi, hz0, hz1, hz2⟩ := info_parts Tryd.info56
  obtain ⟨g, cap, w', hr, ho, hg, hl, -⟩ := run_append_lies (P := Tryd.prog) (w.alloc (.cells #[.int .i64 x.n, .slice x.q x.r.length x.c] 56)) 51 51 base 56 i0 _ 2 32 (by kernel_rfl) hi hz0 hz1 hz2 rfl (by decide) v n xs (World.ownsRow.alloc h _)
    ⟨w.heap.size, 0, none⟩ 1 1 x.cs rfl (new_cells w x.cs 56) (by simp [Vs.cs, Value.oneCell']) (by decide) (by unfold maxLen; omega) (by omega) (by simp; omega) (w.heap.size + 1) (by simp)
  exact ⟨g, cap, w', hr, ho, hg, hl⟩
section
variable {N B5 : Nat} {P : List Vs} {vp : Value} {w : World} {x : Vs} {g cap : Nat}
/-- What Push turns. -/
def Px (B5 : Nat) (vp : Value) (b : Nat) : Prop := b = B5 ∨ vp.ownBlock = some b
set_option maxHeartbeats 3200000 in
theorem Push_any (h : Ps N B5 P vp w) (hl : P.length ≤ 1073741824) (hN : N ≤ w.heap.size) (x : Vs) :
    Calls Tryd.prog 34 #[.pointer (some ⟨B5, 0, none⟩), .agg #[.int .i64 x.n, .slice x.q x.r.length x.c]] w fun en w' => (∃ v, en = .returned v) ∧ ∃ g cap, Trk (Px B5 vp) w w' ∧ Ps N B5 (x :: P) (.slice (some ⟨g, 0, none⟩) (P.length + 1) cap) w' ∧ (vp.ownBlock = some g ∨ w.heap.size ≤ g) := by
  obtain ⟨w1, hw1⟩ : ∃ w1, w.alloc (.cells #[.int .i64 x.n, .slice x.q x.r.length x.c] 56) = w1 := ⟨_, rfl⟩
  have hB1 : Below w.heap.size w w1.drew := hw1 ▸ ((Below.refl _ w).alloc (Nat.le_refl _) _).drew
  have h1 := h.on hB1
  have hs1 : w1.drew.heap.size = w.heap.size + 1 := by rw [← hw1]; simp [World.drew]
  have x0 : w1.cell? ⟨w.heap.size, 0, none⟩ = some (.int .i64 x.n) := by rw [← hw1, box_new]; rfl
  have x1 : w1.cell? ⟨w.heap.size, 1, none⟩ = some (.slice x.q x.r.length x.c) := by rw [← hw1, box_new]; rfl
  obtain ⟨g, cap, w3, hrun, ho3, hg3, hgl⟩ := pushV h1.o (by omega) hl x
  rw [← flV_cons] at ho3
  obtain ⟨a, k, hvp, -, -⟩ := h.any
  have hlt := (Array.getElem?_eq_some_iff.1 h.b).1
  have hrow : ∀ r, vp.ownBlock = some r → r ≠ B5 ∧ r < w.heap.size := fun r e => by
    obtain ⟨-, cur, h2⟩ := row_type h.o e
    exact ⟨(fun e2 => by have := h.b; rw [e2] at h2; rw [h2] at this; cases this), (Array.getElem?_eq_some_iff.1 h2).1⟩
  have hb3 : w3.heap[B5]? = some (.cells #[vp] 53) := (hg3.block B5 (by rw [World.size_alloc]; omega) (fun e => (hrow B5 e.symm).1 rfl)).trans ((Below.heap_alloc _ _ _ (by omega)).trans h1.b)
  have c3 : w3.cell? ⟨B5, 0, none⟩ = some vp := by simp [World.cell?, hb3]
  have f3 : w3.frozen? ⟨B5, 0, none⟩ = false := by simp [World.frozen?, hb3]
  have c1 : w1.cell? ⟨B5, 0, none⟩ = some vp := by
    have := h1.cell.1
    exact this
  have T1 : Trk (Px B5 vp) w w1.drew := .ofB hB1
  have T3 : Trk (Px B5 vp) w w3 := (T1.step (World.grownBy_alloc w1.drew (.cells #[.int .i64 x.n, .slice x.q x.r.length x.c] 56) none) (fun r e => by cases e)).step hg3 (fun r e => .inr e)
  have hgs : g < w3.heap.size ∧ g ≠ B5 := by
    obtain ⟨-, cur, h2⟩ := row_type ho3 (g := g) rfl
    exact ⟨(Array.getElem?_eq_some_iff.1 h2).1, fun e => by rw [e, hb3] at h2; cases h2⟩
  have HE : Hid (∀ w5, w3.grownBy w5 (some B5) → w5.heap[B5]? = some (.cells #[.slice (some ⟨g, 0, none⟩) (P.length + 1) cap] 53) → ∃ g cap, Trk (Px B5 vp) w w5 ∧ Ps N B5 (x :: P) (.slice (some ⟨g, 0, none⟩) (P.length + 1) cap) w5 ∧ (vp.ownBlock = some g ∨ w.heap.size ≤ g)) := fun w5 hg5 hb5 =>
    ⟨g, cap, T3.step hg5 (fun r e => by cases e; exact .inl rfl), ⟨hb5, row_same ho3 fun r e => by cases e; exact hg5.block g hgs.1 (fun e => hgs.2 (by cases e; rfl))⟩, hgl.imp id (fun e => by omega)⟩
  clear h h1 hrow hB1 T1 T3 ho3 hg3 hgl hgs
  subst hvp
  go_enter Tryd.func34, Tryd.ntmps34
  go_wp2
  (try rw [hw1])
  have hs2 : w1.heap.size = w.heap.size + 1 := hs1
  rw [hs1] at hrun
  go_region_law (refine step_append_run (u := .slice a P.length k) (y := .slice (some ⟨w.heap.size + 1, 0, none⟩) 1 1) rfl _ _ 51 rfl rfl rfl hrun ?_)
  all_goals
    go_end0
    refine ⟨⟨_, rfl⟩, HE.out _ ⟨rfl, rfl, rfl, by simp [World.setCell], fun j _ hne => Deep.blk_setCell_other _ _ _ _ (fun e => hne (by rw [e]))⟩ ?_⟩
    simp only [World.setCell, Array.getElem?_modify, hb3, if_true, Option.map_some]
    rfl
end
end Go.Proofs.YtjfeamfchgcblaaDoor
