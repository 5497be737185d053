/- A range over comings: what its caller keeps; comings itself. -/
import Derived.Test.YtjfeamfchgcblaaDoorCom
import Derived.Test.YtjfeamfchgcblaaDoorPrt
set_option linter.all false
set_option maxRecDepth 100000
namespace Go.Proofs.YtjfeamfchgcblaaDoor
open Go.RowKit Go.Shelf
attribute [local go_sem] Oper.semAt_some

/-- What holds while a range goes on: Bx of the boxes between w and n1. -/
structure Ib (w : World) (n1 : Nat) (Bx : Nat → World → Prop) (X : Nat → Prop) (i : Nat) (W : World) : Prop where
  sz : n1 ≤ W.heap.size
  bel : Below w.heap.size w W
  own : ∀ b, X b → n1 ≤ b ∧ b < W.heap.size
  bx : Bx i W
theorem Ib.abo {w : World} {n1 : Nat} {Bx : Nat → World → Prop} (hn : w.heap.size ≤ n1) (hs : ∀ i (A B : World), (∀ k, k < n1 → B.heap[k]? = A.heap[k]?) → Bx i A → Bx i B) : Abo n1 (Ib w n1 Bx) := by
  refine ⟨fun X i W W' row h hg hr => ?_, fun X i W W' row h hg hr => ?_, fun X Y i W h hY => ⟨h.sz, h.bel, fun b hb => h.own b (hY b hb), h.bx⟩, fun X i W b h hb => (h.own b hb).2⟩
  · have hlow : ∀ r, row = some r → n1 ≤ r := fun r e => by
      rcases hr r e with h' | ⟨h', -⟩
      · exact (h.own r h').1
      · exact h'
    have hsame : ∀ k, k < n1 → W'.heap[k]? = W.heap[k]? := fun k hk => hg.block k (by have := h.sz; omega) (fun e => by have := hlow k e.symm; omega)
    exact ⟨Nat.le_trans h.sz hg.size, h.bel.grown hg h.bel.size (fun k e => by have := hlow k e; omega), fun b hb => ⟨(h.own b hb).1, Nat.lt_of_lt_of_le (h.own b hb).2 hg.size⟩, hs i W W' hsame h.bx⟩
  · have hlow : ∀ r, row = some r → n1 ≤ r := fun r e => (h.own r (hr r e)).1
    have hsame : ∀ k, k < n1 → W'.heap[k]? = W.heap[k]? := fun k hk => hg.block k (by have := h.sz; omega) (fun e => by have := hlow k e.symm; omega)
    refine ⟨Nat.le_trans h.sz hg.size, h.bel.grown hg h.bel.size (fun k e => by have := hlow k e; omega), fun b hb => ?_, hs i W W' hsame h.bx⟩
    rcases hb with hb | ⟨h1, h2⟩
    · exact ⟨(h.own b hb).1, Nat.lt_of_lt_of_le (h.own b hb).2 hg.size⟩
    · exact ⟨by have := h.sz; omega, h2⟩
/-- A round that makes something anew and then writes one box. -/
theorem Ib.set {w : World} {n1 : Nat} {Bx : Nat → World → Prop} {X R : Nat → Prop} {i j : Nat} {W W2 : World} (h : Ib w n1 Bx X i W) (hb2 : Below W.heap.size W W2) (c : Nat) (hc : w.heap.size ≤ c) (hc1 : c < n1) (hRc : ¬ R c) (hR : ∀ b, R b → b < n1)
    {ty : TypeId} {v0 : Value} (hv : Boxed W c ty v0) (v : Value) (hbx : Boxed (W2.setCell ⟨c, 0, none⟩ v) c ty v → Bx j (W2.setCell ⟨c, 0, none⟩ v)) :
    KeepsFrom n1 W (W2.setCell ⟨c, 0, none⟩ v) ∧ Kq (orX R X) W (W2.setCell ⟨c, 0, none⟩ v) ∧ Ib w n1 Bx X j (W2.setCell ⟨c, 0, none⟩ v) := by
  have hoth : ∀ k, k ≠ c → k < W.heap.size → (W2.setCell ⟨c, 0, none⟩ v).heap[k]? = W.heap[k]? := fun k hk hl => by
    rw [Deep.blk_setCell_other _ _ _ _ (by dsimp only; exact hk)]
    exact hb2.block k hl
  have hsz : (W2.setCell ⟨c, 0, none⟩ v).heap.size = W2.heap.size := by simp [World.setCell]
  have hv2 := (boxed_below hv hb2).set v
  refine ⟨⟨by rw [hsz]; exact hb2.size, fun k o hk ho _ => (hoth k (by omega) (Array.getElem?_eq_some_iff.1 ho).1).trans ho⟩, ⟨by rw [hsz]; exact hb2.size, fun b hb => ?_⟩, by rw [hsz]; exact Nat.le_trans h.sz hb2.size, ?_, fun b hb => ⟨(h.own b hb).1, by rw [hsz]; exact Nat.lt_of_lt_of_le (h.own b hb).2 hb2.size⟩, hbx hv2⟩
  · rcases hb with hb | hb
    · exact hoth b (fun e => hRc (e ▸ hb)) (by have := hR b hb; have := h.sz; omega)
    · exact hoth b (by have := (h.own b hb).1; omega) (h.own b hb).2
  · exact (h.bel.trans (hb2.mono h.bel.size)).setCell hc _

set_option maxHeartbeats 800000 in
theorem comings_in (n : Nat) (p pr : Option Addr) (nG c nr cr : Nat) (r : Int) (w : World) :
    CallsIn Fence.wide n Tryd.prog 25 #[grV p nG c pr nr cr, .int .i64 r] w fun e w' => e = .returned (.func (.func 32) #[] #[.pointer (some ⟨w.heap.size + 1, 0, none⟩), .pointer (some ⟨w.heap.size, 0, none⟩)]) ∧ w' = (w.alloc (.cells #[.slice p nG c, .slice pr nr cr] 25)).alloc (.cells #[.int .i64 r] 3) := by
  unfold grV
  refine callsIn_of_wp Tryd.func25 rfl trivial ?_ rfl
  simp only [Tryd.ntmps25, List.size_toArray, List.length_cons, List.length_nil, Nat.reduceAdd, Nat.reduceSub, Array.replicate_succ, Array.replicate_zero, List.push_toArray, List.append_toArray, List.nil_append, List.cons_append]
  gi_wp2
  go_ret
  exact ⟨rfl, rfl⟩
theorem comings_seq {w0 : World} {G : List Gn} {p : Option Addr} {c : Nat} {v2 : Value} (hG : Gs w0 p G) (hn2 : G.length ≤ 1000) (hK : ∀ x ∈ G, ∀ k ∈ x.kids, 0 ≤ k ∧ k.toNat < G.length) (hsm : sumK G ≤ 20000) (rn : Nat) (hr : rn < G.length)
    (n Br Bg : Nat) (w : World) (hlo : Lo w0 w) (hBr : w0.heap.size ≤ Br) (hBg : w0.heap.size ≤ Bg)
    (c1 : w.heap[Br]? = some (.cells #[.int .i64 (rn : Nat)] 3)) (c2 : w.heap[Bg]? = some (.cells #[.slice p G.length c, v2] 25)) :
    SeqO n Tryd.prog 32 #[.pointer (some ⟨Br, 0, none⟩), .pointer (some ⟨Bg, 0, none⟩)] encK (cmT G (rn : Nat)) (RK w0 Br Bg) w := fun l J Jx W hW _ hJ hY h0 =>
  comings1_in hG hn2 hK hsm rn hr n l Br Bg J Jx W ⟨Nat.le_trans hlo.1 hW.size, fun b hb => (hW.block b (Nat.lt_of_lt_of_le hb hlo.1)).trans (hlo.2 b hb)⟩ hBr hBg
    ((hW.block Br (Array.getElem?_eq_some_iff.1 c1).1).trans c1) ((hW.block Bg (Array.getElem?_eq_some_iff.1 c2).1).trans c2) hJ hY h0
end Go.Proofs.YtjfeamfchgcblaaDoor
