/- How the graph of GraphRings grows. -/
import Derived.Test.YtjfeamfchgcblaaDoorRgp
import Derived.Test.YtjfeamfchgcblaaDoorOpg
import Derived.Test.YtjfeamfchgcblaaDoorSpu
set_option linter.all false
set_option maxRecDepth 100000
namespace Go.Proofs.YtjfeamfchgcblaaDoor
open Go.RowKit Go.Shelf

theorem cs_at : ∀ (G : List Gn) (j t : Nat), t < 5 → j < G.length → (G.flatMap Gn.cs)[j * 5 + t]? = (gAt G j).cs[t]?
  | [], j, t, _, hj => by simp at hj
  | x :: G, 0, t, ht, _ => by
    rw [List.flatMap_cons, Nat.zero_mul, Nat.zero_add, List.getElem?_append_left (show t < x.cs.length from ht)]
    rfl
  | x :: G, j + 1, t, ht, hj => by
    rw [List.flatMap_cons, List.getElem?_append_right (show x.cs.length ≤ _ by show 5 ≤ _; omega)]
    have : (j + 1) * 5 + t - x.cs.length = j * 5 + t := by show _ - 5 = _; omega
    rw [this, cs_at G j t ht (by simpa using hj)]
    rfl
theorem gAt_left {G : List Gn} {x : Gn} {j : Nat} (h : j < G.length) : gAt (G ++ [x]) j = gAt G j := by
  unfold gAt
  rw [List.getElem?_append_left h]
theorem gAt_last {G : List Gn} {x : Gn} : gAt (G ++ [x]) G.length = x := by
  unfold gAt
  rw [List.getElem?_append_right (Nat.le_refl _), Nat.sub_self]
  rfl
theorem Tryd.info33 : (Tryd.prog.info? 33).map (fun i => (i.zero, i.size, i.bytes)) = some (some (.agg #[.int .i64 0, .string ⟨#[]⟩, .string ⟨#[]⟩, .slice none 0 0, .bool false]), 5, 72) := by kernel_rfl
/-- The graph that has been laid so far. -/
structure RI (w0 : World) (N gb rb n b : Nat) (G : List Gn) (v : Value) (W : World) : Prop where
  bel : Below w0.heap.size w0 W
  nw : N ≤ W.heap.size
  gx : W.heap[gb]? = some (.cells #[v, .slice (some ⟨rb, 0, none⟩) 1 1] 25)
  rx : W.heap[rb]? = some (.cells #[.int .i64 0] 3)
  o : W.ownsRow N 33 5 v G.length (G.flatMap Gn.cs)
  x : ∀ j, j < G.length → ∃ q, gAt G j = rn n b j q ∧ Is W q (rk n b j) ∧ ∀ k, q = some k → ∃ cur f, W.heap[k.block]? = some (.cells cur 3 f)
section
variable {w0 W W' : World} {N gb rb n b : Nat} {G : List Gn} {v : Value}
theorem RI.on (h : RI w0 N gb rb n b G v W) (hb : Below W.heap.size W W') : RI w0 N gb rb n b G v W' := by
  have lt : ∀ {k : Nat} {o : Obj}, W.heap[k]? = some o → W'.heap[k]? = some o := fun {k o} e => (hb.block k (Array.getElem?_eq_some_iff.1 e).1).trans e
  refine ⟨h.bel.trans (hb.mono h.bel.size), Nat.le_trans h.nw hb.size, lt h.gx, lt h.rx, row_same h.o fun g hg => ?_, fun j hj => ?_⟩
  · obtain ⟨-, cur, e⟩ := row_type h.o hg
    exact (lt e).trans e.symm
  · obtain ⟨q, e, hi, ht⟩ := h.x j hj
    exact ⟨q, e, hi.on hb, fun k hk => by obtain ⟨cur, f, e2⟩ := ht k hk; exact ⟨cur, f, lt e2⟩⟩
theorem RI.push (h : RI w0 N gb rb n b G v W) (hN : w0.heap.size ≤ N) (hg : w0.heap.size ≤ gb) (hl : G.length ≤ 1000) {q : Option Addr} (hq : Is W q (rk n b G.length)) (hqt : ∀ k, q = some k → ∃ cur f, W.heap[k.block]? = some (.cells cur 3 f)) :
    ∃ g cap W2, (Builtin.append_ #[22, 22] 22 #[v, .slice (some ⟨W.heap.size, 0, none⟩) 1 1]).run Tryd.prog (W.alloc (.cells #[.int .i64 2, .string ⟨#[120]⟩, .string ⟨#[]⟩, .slice q (rk n b G.length).length (rk n b G.length).length, .bool false] 33)) = .ok (.slice (some ⟨g, 0, none⟩) (G.length + 1) cap) W2 ∧
      W2.cell? ⟨gb, 0, none⟩ = some v ∧ W2.frozen? ⟨gb, 0, none⟩ = false ∧
      RI w0 N gb rb n b (G ++ [rn n b G.length q]) (.slice (some ⟨g, 0, none⟩) (G.length + 1) cap) (W2.setCell ⟨gb, 0, none⟩ (.slice (some ⟨g, 0, none⟩) (G.length + 1) cap)) := by
  obtain ⟨i0, hi, hz0, hz1, hz2⟩ := info_parts Tryd.info33
  obtain ⟨g, cap, W2, hr, ho, hgr, hgl, hgs⟩ := run_append_lies (P := Tryd.prog) (W.alloc (.cells #[.int .i64 2, .string ⟨#[120]⟩, .string ⟨#[]⟩, .slice q (rk n b G.length).length (rk n b G.length).length, .bool false] 33)) 22 22 N 33 i0 _ 5 72 Tryd.underlying22 hi hz0 hz1 hz2 rfl (by decide) v G.length (G.flatMap Gn.cs) (World.ownsRow.alloc h.o _)
    ⟨W.heap.size, 0, none⟩ 1 1 (rn n b G.length q).cs rfl (new_cells W (rn n b G.length q).cs 33) (by simp [rn, Gn.cs, Value.oneCell']) (by decide) (by unfold maxLen; omega) (by omega) (by have := h.nw; simp; omega) (W.heap.size + 1) (by simp)
  have kept : ∀ {k : Nat} {o : Obj}, W.heap[k]? = some o → v.ownBlock ≠ some k → W2.heap[k]? = some o := fun {k o} e hne => by
    have hlt := (Array.getElem?_eq_some_iff.1 e).1
    rw [hgr.block k (by rw [World.size_alloc]; omega) (fun e2 => hne e2.symm), Below.heap_alloc _ _ _ hlt]
    exact e
  have nrow : ∀ {k : Nat} {c : Array Value} {t : TypeId} {f : Nat × Nat}, W.heap[k]? = some (.cells c t f) → t ≠ 33 → v.ownBlock ≠ some k := fun {k c t f} e ht e2 => by
    obtain ⟨-, cur, e3⟩ := row_type h.o e2
    exact ty_ne e e3 ht
  have g2 := kept h.gx (nrow h.gx (by decide))
  have r2 := kept h.rx (nrow h.rx (by decide))
  have hgrb : rb ≠ gb := fun e => by have := h.rx; rw [e, h.gx] at this; cases this
  have oth : ∀ {k : Nat}, k ≠ gb → (W2.setCell ⟨gb, 0, none⟩ (.slice (some ⟨g, 0, none⟩) (G.length + 1) cap)).heap[k]? = W2.heap[k]? := fun {k} hk => Below.heap_setCell _ _ _ _ hk
  have gne : ∀ k, (Value.slice (some ⟨g, 0, none⟩) (G.length + 1) cap).ownBlock = some k → k ≠ gb := fun k hk e => by
    obtain ⟨-, cur, e3⟩ := row_type ho hk
    rw [e, g2] at e3
    cases e3
  refine ⟨g, cap, W2, hr, by simp [World.cell?, g2], by simp [World.frozen?, g2], ?_⟩
  refine ⟨?_, ?_, ?_, (oth hgrb).trans r2, ?_, fun j hj => ?_⟩
  · exact ((h.bel.alloc h.bel.size _).grown hgr (by rw [World.size_alloc]; have := h.bel.size; omega) (fun k hk => by
      obtain ⟨hb, -⟩ := row_type h.o hk
      omega)).setCell hg _
  · have := hgr.size
    rw [World.size_alloc] at this
    have := h.nw
    rw [World.size_setCell]
    omega
  · simp [World.setCell, Array.getElem?_modify, g2]
  · rw [List.flatMap_append, List.length_append]
    have e : [rn n b G.length q].flatMap Gn.cs = (rn n b G.length q).cs := by simp
    rw [e]
    exact row_same ho fun k hk => oth (gne k hk)
  · rw [List.length_append] at hj
    simp at hj
    have sv : ∀ {k : Nat} {c : Array Value} {f : Nat × Nat}, W.heap[k]? = some (.cells c 3 f) → (W2.setCell ⟨gb, 0, none⟩ (.slice (some ⟨g, 0, none⟩) (G.length + 1) cap)).heap[k]? = some (.cells c 3 f) := fun {k c f} e => by
      rw [oth (fun e2 => by rw [e2, h.gx] at e; cases e)]
      exact kept e (nrow e (by decide))
    have svi : ∀ {q : Option Addr} {l : List Int}, Is W q l → (∀ k, q = some k → ∃ cur f, W.heap[k.block]? = some (.cells cur 3 f)) → Is (W2.setCell ⟨gb, 0, none⟩ (.slice (some ⟨g, 0, none⟩) (G.length + 1) cap)) q l := fun {q l} hi ht => by
      rcases hi with e | ⟨b1, o1, rfl, hc⟩
      · exact .inl e
      · obtain ⟨cur, f, e⟩ := ht _ rfl
        refine .inr ⟨b1, o1, rfl, fun t ht2 => ?_⟩
        rw [World.cell?_of_block (a := ⟨b1, o1 + t, none⟩) ((sv e).trans e.symm)]
        exact hc t ht2
    by_cases hj2 : j < G.length
    · obtain ⟨q2, e, hi2, ht2⟩ := h.x j hj2
      exact ⟨q2, by rw [gAt_left hj2]; exact e, svi hi2 ht2, fun k hk => by obtain ⟨cur, f, e2⟩ := ht2 k hk; exact ⟨cur, f, sv e2⟩⟩
    · obtain rfl : j = G.length := by omega
      exact ⟨q, gAt_last, svi hq hqt, fun k hk => by obtain ⟨cur, f, e2⟩ := hqt k hk; exact ⟨cur, f, sv e2⟩⟩
/-- What is read behind a node's own block, and what stands behind the append. -/
def Rs (w0 : World) (N gb rb n b : Nat) (G : List Gn) (v sl : Value) (q : Option Addr) (x0 : Nat) (W2 : World) : Prop :=
  W2.cell? ⟨gb, 0, none⟩ = some v ∧ (W2.cell? ⟨x0, 0, none⟩ = some (.int .i64 2) ∧ W2.cell? ⟨x0, 1, none⟩ = some (.string ⟨#[120]⟩) ∧ W2.cell? ⟨x0, 2, none⟩ = some (.string ⟨#[]⟩) ∧ W2.cell? ⟨x0, 3, none⟩ = some sl ∧ W2.cell? ⟨x0, 4, none⟩ = some (.bool false)) ∧
    ∃ g cap W3, (Builtin.append_ #[22, 22] 22 #[v, .slice (some ⟨W2.heap.size, 0, none⟩) 1 1]).run Tryd.prog (W2.alloc (.cells #[.int .i64 2, .string ⟨#[120]⟩, .string ⟨#[]⟩, sl, .bool false] 33)) = .ok (.slice (some ⟨g, 0, none⟩) (G.length + 1) cap) W3 ∧
      W3.cell? ⟨gb, 0, none⟩ = some v ∧ W3.frozen? ⟨gb, 0, none⟩ = false ∧
      RI w0 N gb rb n b (G ++ [rn n b G.length q]) (.slice (some ⟨g, 0, none⟩) (G.length + 1) cap) (W3.setCell ⟨gb, 0, none⟩ (.slice (some ⟨g, 0, none⟩) (G.length + 1) cap))
theorem RI.step (h : RI w0 N gb rb n b G v W) (hN : w0.heap.size ≤ N) (hg : w0.heap.size ≤ gb) (hl : G.length ≤ 1000) {z : Int} (hz : rk n b G.length = [z]) {W2 : World} (hW2 : (W.alloc (.cells #[.int .i64 2, .string ⟨#[120]⟩, .string ⟨#[]⟩, .slice (some ⟨W.heap.size + 1, 0, none⟩) 1 1, .bool false] 33)).alloc (.cells #[.int .i64 z] 3) = W2) :
    Rs w0 N gb rb n b G v (.slice (some ⟨W.heap.size + 1, 0, none⟩) 1 1) (some ⟨W.heap.size + 1, 0, none⟩) W.heap.size W2 := by
  have s1 : (W.alloc (.cells #[.int .i64 2, .string ⟨#[120]⟩, .string ⟨#[]⟩, .slice (some ⟨W.heap.size + 1, 0, none⟩) 1 1, .bool false] 33)).heap.size = W.heap.size + 1 := by simp
  have b2 : Below W.heap.size W W2 := hW2 ▸ ((Below.refl _ W).alloc (Nat.le_refl _) _).alloc (by rw [s1]; omega) _
  have x0 : W2.heap[W.heap.size]? = some (.cells #[.int .i64 2, .string ⟨#[120]⟩, .string ⟨#[]⟩, .slice (some ⟨W.heap.size + 1, 0, none⟩) 1 1, .bool false] 33) := by
    rw [← hW2, Below.heap_alloc _ _ _ (by rw [s1]; omega)]
    exact World.alloc_heap_new W _
  have x1 : W2.heap[W.heap.size + 1]? = some (.cells #[.int .i64 z] 3) := by
    have := World.alloc_heap_new (W.alloc (.cells #[.int .i64 2, .string ⟨#[120]⟩, .string ⟨#[]⟩, .slice (some ⟨W.heap.size + 1, 0, none⟩) 1 1, .bool false] 33)) (.cells #[.int .i64 z] 3)
    rw [hW2, s1] at this
    exact this
  have h2 := h.on b2
  have := h2.push hN hg hl (q := some ⟨W.heap.size + 1, 0, none⟩) (by rw [hz]; exact is_of_block (l := [z]) (f := (0, 0)) x1) (fun k hk => by cases hk; exact ⟨_, _, x1⟩)
  rw [hz] at this
  exact ⟨by simp [World.cell?, h2.gx], ⟨by simp [World.cell?, x0], by simp [World.cell?, x0], by simp [World.cell?, x0], by simp [World.cell?, x0], by simp [World.cell?, x0]⟩, this⟩
theorem RI.step0 (h : RI w0 N gb rb n b G v W) (hN : w0.heap.size ≤ N) (hg : w0.heap.size ≤ gb) (hl : G.length ≤ 1000) (hz : rk n b G.length = []) {W2 : World} (hW2 : W.alloc (.cells #[.int .i64 2, .string ⟨#[120]⟩, .string ⟨#[]⟩, .slice none 0 0, .bool false] 33) = W2) :
    Rs w0 N gb rb n b G v (.slice none 0 0) none W.heap.size W2 := by
  have b2 : Below W.heap.size W W2 := hW2 ▸ (Below.refl _ W).alloc (Nat.le_refl _) _
  have x0 : W2.heap[W.heap.size]? = some (.cells #[.int .i64 2, .string ⟨#[120]⟩, .string ⟨#[]⟩, .slice none 0 0, .bool false] 33) := by
    rw [← hW2]
    exact World.alloc_heap_new W _
  have h2 := h.on b2
  have := h2.push hN hg hl (q := none) (by rw [hz]; exact .inl rfl) (fun k hk => by cases hk)
  rw [hz] at this
  exact ⟨by simp [World.cell?, h2.gx], ⟨by simp [World.cell?, x0], by simp [World.cell?, x0], by simp [World.cell?, x0], by simp [World.cell?, x0], by simp [World.cell?, x0]⟩, this⟩
theorem RI.rg (h : RI w0 N gb rb n b G v W) (hn : G.length = n) : Rg n b G := ⟨hn, fun j hj => by obtain ⟨q, e, -⟩ := h.x j hj; exact ⟨q, e⟩⟩
theorem RI.gs (h : RI w0 N gb rb n b G v W) (h0 : 0 < G.length) : ∃ p cap, v = .slice p G.length cap ∧ Gs W p G := by
  obtain ⟨g, cap, rfl, -⟩ := World.ownsRow.form h.o h0
  refine ⟨_, cap, rfl, ⟨fun j hj => ?_, fun _ => ⟨g, 0, rfl, fun j hj => ?_⟩⟩⟩
  · obtain ⟨q, e, hi, -⟩ := h.x j hj
    rw [e]
    exact ⟨hi, Nat.le_refl _, (by have := rk_len n b j; show (rk n b j).length ≤ _; unfold maxLen; omega)⟩
  · have ce : ∀ t, t < 5 → ∀ u, (gAt G j).cs[t]? = some u → W.cell? ⟨g, 0 + j * 5 + t, none⟩ = some u := fun t ht u hu => by
      rw [Nat.zero_add]
      exact row_cell h.o _ _ ((cs_at G j t ht hj).trans hu)
    exact ⟨ce 0 (by omega) _ rfl, ce 1 (by omega) _ rfl, ce 2 (by omega) _ rfl, ce 3 (by omega) _ rfl, ce 4 (by omega) _ rfl⟩
end
end Go.Proofs.YtjfeamfchgcblaaDoor
