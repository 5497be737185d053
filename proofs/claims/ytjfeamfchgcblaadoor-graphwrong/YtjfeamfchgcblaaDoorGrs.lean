/- What the document's reach keeps in memory. -/
import Derived.Test.YtjfeamfchgcblaaDoorGrr
import Derived.Deep.AppendLies
import Derived.OwnWalk
set_option linter.all false
set_option maxRecDepth 100000
namespace Go.Proofs.YtjfeamfchgcblaaDoor
open Go.RowKit

abbrev OwnsI (w : World) (base : Nat) (v : Value) (t : List Int) : Prop := w.ownsRow base 3 1 v t.length (t.map (.int .i64))
theorem push1I {w : World} {base : Nat} {v : Value} {xs : List Int} (h : OwnsI w base v xs) (hb : base ≤ w.heap.size) (hn : xs.length + 1 ≤ 8796093022208) (x : Int) :
    ∃ g cap w1, (Builtin.append_ #[23, 23] 23 #[v, .slice (some ⟨w.heap.size, 0, none⟩) 1 1]).run Tryd.prog (w.alloc (.cells #[.int .i64 x] 3)) = .ok (.slice (some ⟨g, 0, none⟩) (xs.length + 1) cap) w1 ∧
      OwnsI w1 base (.slice (some ⟨g, 0, none⟩) (xs.length + 1) cap) (xs ++ [x]) ∧ (w.alloc (.cells #[.int .i64 x] 3)).grownBy w1 v.ownBlock ∧ (v.ownBlock = some g ∨ g = w.heap.size + 1) := by
  obtain ⟨i0, hi, hz0, hz1, hz2⟩ := info_parts Tryd.info3
  obtain ⟨g, cap, w1, h1, h2, h3, h4, -⟩ := run_append_lies (P := Tryd.prog) (w.alloc (.cells #[.int .i64 x] 3)) 23 23 base 3 i0 (.int .i64 0) 1 8 Tryd.underlying23 hi hz0 hz1 hz2 rfl (by decide)
    v xs.length (xs.map (.int .i64)) (h.alloc _) ⟨w.heap.size, 0, none⟩ 1 1 [.int .i64 x] rfl (cell_one_new _ _ _) (by simp [Value.oneCell']) (by decide) (by unfold maxLen; omega) (by omega) (by simp; omega) (w.heap.size + 1) (by simp)
  refine ⟨g, cap, w1, h1, ?_, h3, h4⟩
  unfold OwnsI
  rw [List.map_append, List.length_append]
  exact h2
theorem ownsI_lt {w : World} {base : Nat} {v : Value} {t : List Int} (h : OwnsI w base v t) : ∀ k, v.ownBlock = some k → base ≤ k ∧ k < w.heap.size := by
  intro k hk
  rcases h.2 with ⟨rfl, -⟩ | ⟨g, cap, cur, rfl, hb, hg, -⟩
  · cases hk
  · cases hk; exact ⟨hb, (Array.getElem?_eq_some_iff.1 hg).1⟩
theorem ownsI_kept {A B : World} {base : Nat} {v : Value} {t : List Int} {row : Option Nat} (h : OwnsI A base v t) (hg : A.grownBy B row) (hn : ∀ k, v.ownBlock = some k → row ≠ some k) : OwnsI B base v t :=
  h.kept hg (by
    cases hv : v.ownBlock with
    | none => exact .inl rfl
    | some g => exact .inr (fun e => hn g hv e.symm))
/-- The last one is taken off. -/
theorem ownsI_pop {w : World} {base g k c : Nat} {t : List Int} (h : OwnsI w base (.slice (some ⟨g, 0, none⟩) k c) t) (m : Nat) (hm : m ≤ t.length) : OwnsI w base (.slice (some ⟨g, 0, none⟩) m c) (t.take m) := by
  obtain ⟨h1, ⟨e, -⟩ | ⟨g', cap, cur, e, hb, hg, h2, h3, h4, h5⟩⟩ := h
  · cases e
  · simp only [Value.slice.injEq, Option.some.injEq, Addr.mk.injEq] at e
    obtain ⟨⟨rfl, -, -⟩, rfl, rfl⟩ := e
    have hl : (t.take m).length = m := by rw [List.length_take]; omega
    refine ⟨by rw [hl]; simp; omega, .inr ⟨g, c, cur, by rw [hl], hb, hg, by omega, h3, h4, ?_⟩⟩
    rw [hl, Nat.mul_one, List.map_take]
    rw [Nat.mul_one] at h5
    rw [← h5, List.take_take]
    congr 1
    omega
structure RS (w0 w : World) (N sb bx : Nat) (gc : Array Value) (Sn : List Bool) (td out : List Int) (vt vo : Value) (wr : World) : Prop where
  bel : Below w0.heap.size w0 wr
  fr : w.grownBy wr (some sb)
  nw : N ≤ wr.heap.size
  bx : wr.heap[bx]? = some (.cells gc 25)
  sn : wr.heap[sb]? = some (.cells (Sn.map Value.bool).toArray 4)
  t : OwnsI wr N vt td
  o : OwnsI wr N vo out
  ap : ∀ g, vt.ownBlock = some g → vo.ownBlock ≠ some g
structure RB (w0 w : World) (N sb bx : Nat) : Prop where
  a : w0.heap.size ≤ sb
  b : sb < w.heap.size
  c : bx = w.heap.size
  d : N = w.heap.size + 1
theorem grow_step {w0 w : World} {N sb bx : Nat} (hB : RB w0 w N sb bx) {wr wr' : World} {v : Value} {x : Int} (bel : Below w0.heap.size w0 wr) (fr : w.grownBy wr (some sb)) (nw : N ≤ wr.heap.size) (hv : ∀ k, v.ownBlock = some k → N ≤ k) (hg : (wr.alloc (.cells #[.int .i64 x] 3)).grownBy wr' v.ownBlock) :
    wr.grownBy wr' v.ownBlock ∧ Below w0.heap.size w0 wr' ∧ w.grownBy wr' (some sb) ∧ N ≤ wr'.heap.size ∧ wr'.heap[bx]? = wr.heap[bx]? ∧ wr'.heap[sb]? = wr.heap[sb]? := by
  have h1 : wr.grownBy wr' v.ownBlock := (World.grownBy_alloc wr (.cells #[.int .i64 x] 3) v.ownBlock).trans hg
  have h2 := hB.a
  have h3 := hB.b
  have h4 := hB.c
  have h5 := hB.d
  refine ⟨h1, bel.grown h1 bel.size (fun k e => by have := hv k e; omega), ?_, Nat.le_trans nw h1.size, h1.block bx (by omega) (fun e => by have := hv bx e.symm; omega), h1.block sb (by omega) (fun e => by have := hv sb e.symm; omega)⟩
  exact ⟨h1.os.trans fr.os, h1.tape.trans fr.tape, h1.output.trans fr.output, Nat.le_trans fr.size h1.size, fun k hk hne => (h1.block k (Nat.lt_of_lt_of_le hk fr.size) (fun e => by have := hv k e.symm; omega)).trans (fr.block k hk hne)⟩
theorem RS.pushT {w0 w : World} {N sb bx : Nat} {gc : Array Value} (hB : RB w0 w N sb bx) {Sn : List Bool} {td out : List Int} {vt vo : Value} {wr : World} (h : RS w0 w N sb bx gc Sn td out vt vo wr) (hn : td.length ≤ 1000000000) (x : Int) :
    ∃ g cap wr', (Builtin.append_ #[23, 23] 23 #[vt, .slice (some ⟨wr.heap.size, 0, none⟩) 1 1]).run Tryd.prog (wr.alloc (.cells #[.int .i64 x] 3)) = .ok (.slice (some ⟨g, 0, none⟩) (td.length + 1) cap) wr' ∧
      RS w0 w N sb bx gc Sn (td ++ [x]) out (.slice (some ⟨g, 0, none⟩) (td.length + 1) cap) vo wr' := by
  obtain ⟨g, cap, wr', h1, h2, h3, h4⟩ := push1I h.t h.nw (by omega) x
  obtain ⟨g1, g2, g3, g4, g5, g6⟩ := grow_step hB h.bel h.fr h.nw (fun k hk => (ownsI_lt h.t k hk).1) h3
  refine ⟨g, cap, wr', h1, g2, g3, g4, by rw [g5]; exact h.bx, by rw [g6]; exact h.sn, h2, ownsI_kept h.o g1 (fun k hk e => h.ap k e hk), fun k hk => ?_⟩
  cases hk
  rcases h4 with h4 | h4
  · exact h.ap g h4
  · intro e
    have := (ownsI_lt h.o g e).2
    omega
theorem RS.pushO {w0 w : World} {N sb bx : Nat} {gc : Array Value} (hB : RB w0 w N sb bx) {Sn : List Bool} {td out : List Int} {vt vo : Value} {wr : World} (h : RS w0 w N sb bx gc Sn td out vt vo wr) (hn : out.length ≤ 1000000000) (x : Int) :
    ∃ g cap wr', (Builtin.append_ #[23, 23] 23 #[vo, .slice (some ⟨wr.heap.size, 0, none⟩) 1 1]).run Tryd.prog (wr.alloc (.cells #[.int .i64 x] 3)) = .ok (.slice (some ⟨g, 0, none⟩) (out.length + 1) cap) wr' ∧
      RS w0 w N sb bx gc Sn td (out ++ [x]) vt (.slice (some ⟨g, 0, none⟩) (out.length + 1) cap) wr' := by
  obtain ⟨g, cap, wr', h1, h2, h3, h4⟩ := push1I h.o h.nw (by omega) x
  obtain ⟨g1, g2, g3, g4, g5, g6⟩ := grow_step hB h.bel h.fr h.nw (fun k hk => (ownsI_lt h.o k hk).1) h3
  refine ⟨g, cap, wr', h1, g2, g3, g4, by rw [g5]; exact h.bx, by rw [g6]; exact h.sn, ownsI_kept h.t g1 (fun k hk e => h.ap k hk e), h2, fun k hk e => ?_⟩
  cases e
  rcases h4 with h4 | h4
  · exact h.ap g hk h4
  · have := (ownsI_lt h.t g hk).2
    omega
theorem RS.see {w0 w : World} {N sb bx : Nat} {gc : Array Value} (hB : RB w0 w N sb bx) {Sn : List Bool} {td out : List Int} {vt vo : Value} {wr : World} (h : RS w0 w N sb bx gc Sn td out vt vo wr) (k : Nat) (hk : k < Sn.length) :
    RS w0 w N sb bx gc (Sn.set k true) td out vt vo (wr.setCell ⟨sb, k, none⟩ (.bool true)) := by
  have h2 := hB.a
  have h3 := hB.b
  have h4 := hB.c
  have h5 := hB.d
  have hoth : ∀ j, j ≠ sb → (wr.setCell ⟨sb, k, none⟩ (.bool true)).heap[j]? = wr.heap[j]? := fun j hj => Deep.blk_setCell_other _ _ _ _ hj
  have hg : wr.grownBy (wr.setCell ⟨sb, k, none⟩ (.bool true)) (some sb) := ⟨rfl, rfl, rfl, by simp [World.setCell], fun j _ hne => hoth j (fun e => hne (by rw [e]))⟩
  have ht := fun g e => (ownsI_lt h.t g e).1
  have ho := fun g e => (ownsI_lt h.o g e).1
  refine ⟨h.bel.grown hg h.bel.size (fun j e => by cases e; exact h2), ⟨rfl.trans h.fr.os, rfl.trans h.fr.tape, rfl.trans h.fr.output, by simp [World.setCell]; exact h.fr.size, fun j hj hne => (hoth j (fun e => hne (by rw [e]))).trans (h.fr.block j hj hne)⟩, by simp [World.setCell]; exact h.nw, by rw [hoth bx (by omega)]; exact h.bx, ?_, ownsI_kept h.t hg (fun g e e2 => by cases e2; have := ht _ e; omega), ownsI_kept h.o hg (fun g e e2 => by cases e2; have := ho _ e; omega), h.ap⟩
  have hsn := h.sn
  simp [World.setCell, Array.getElem?_modify, hsn]
end Go.Proofs.YtjfeamfchgcblaaDoor
