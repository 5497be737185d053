/- What the document's Cyclic keeps in memory. -/
import Derived.Test.YtjfeamfchgcblaaDoorGru
set_option linter.all false
set_option maxRecDepth 100000
namespace Go.Proofs.YtjfeamfchgcblaaDoor
open Go.RowKit

def vAt (V : List Value) (u : Nat) : Value := V[u]?.getD undef
def pAt (P : List (List Int)) (u : Nat) : List Int := P[u]?.getD []
theorem vAt_set {V : List Value} {u : Nat} (h : u < V.length) (v : Value) (j : Nat) : vAt (V.set u v) j = if u = j then v else vAt V j := by
  unfold vAt
  rw [List.getElem?_set]
  by_cases e : u = j
  · subst e; simp [h]
  · rw [if_neg e, if_neg e]
theorem pAt_set {P : List (List Int)} {u : Nat} (h : u < P.length) (l : List Int) (j : Nat) : pAt (P.set u l) j = if u = j then l else pAt P j := by
  unfold pAt
  rw [List.getElem?_set]
  by_cases e : u = j
  · subst e; simp [h]
  · rw [if_neg e, if_neg e]
/-- Where all of it lies. -/
structure CB (w0 : World) (N lb pb bx : Nat) : Prop where
  a : w0.heap.size ≤ lb
  b : w0.heap.size ≤ pb
  c : lb < N
  d : pb < N
  e : bx < N
  f : lb ≠ pb
  g : bx ≠ lb
  h : bx ≠ pb
structure CY (w0 : World) (N lb pb bx : Nat) (gc : Array Value) (Lf : List Int) (P : List (List Int)) (V : List Value) (a : Option Addr) (l : List Int) (vf : Value) (fr : List Int) (wr : World) : Prop where
  bel : Below w0.heap.size w0 wr
  nw : N ≤ wr.heap.size
  bxh : wr.heap[bx]? = some (.cells gc 25)
  lf : wr.heap[lb]? = some (.cells (Lf.map (Value.int .i64)).toArray 3)
  pbh : wr.heap[pb]? = some (.cells V.toArray 23)
  vl : V.length = P.length
  ow : ∀ u, u < P.length → OwnsI wr N (vAt V u) (pAt P u)
  ap : ∀ u u' g, u < P.length → u' < P.length → u ≠ u' → (vAt V u).ownBlock = some g → (vAt V u').ownBlock ≠ some g
  f : OwnsI wr N vf fr
  af : ∀ u g, u < P.length → (vAt V u).ownBlock = some g → vf.ownBlock ≠ some g
  is : Is wr a l
  nl : ∀ x, a = some x → 0 < l.length → x.block < N ∧ x.block ≠ lb ∧ x.block ≠ pb
theorem is_kept {A B : World} {a : Option Addr} {l : List Int} {row : Option Nat} (h : Is A a l) (hg : A.grownBy B row) (hn : ∀ x, a = some x → 0 < l.length → row ≠ some x.block) : Is B a l := by
  rcases h with e | ⟨b, o, rfl, hc⟩
  · exact .inl e
  · by_cases hl : 0 < l.length
    · refine .inr ⟨b, o, rfl, fun j hj => ?_⟩
      have h1 := hc j hj
      exact (World.cell?_of_block (a := ⟨b, o + j, none⟩) (hg.block b (World.block_lt_of_cell? A _ h1) (fun e => hn _ rfl hl e.symm))).trans h1
    · exact .inl (List.eq_nil_of_length_eq_zero (by omega))
section
variable {w0 : World} {N lb pb bx : Nat} {gc : Array Value} {Lf : List Int} {P : List (List Int)} {V : List Value} {a : Option Addr} {l : List Int} {vf : Value} {fr : List Int} {wr : World}
/-- All but one block that is no part of the frame stay as they are. -/
theorem CY.base (hB : CB w0 N lb pb bx) (h : CY w0 N lb pb bx gc Lf P V a l vf fr wr) {wr' : World} {row : Option Nat} (hg : wr.grownBy wr' row) (hr : ∀ k, row = some k → N ≤ k) :
    Below w0.heap.size w0 wr' ∧ N ≤ wr'.heap.size ∧ wr'.heap[bx]? = some (.cells gc 25) ∧ wr'.heap[lb]? = some (.cells (Lf.map (Value.int .i64)).toArray 3) ∧ wr'.heap[pb]? = some (.cells V.toArray 23) ∧ Is wr' a l := by
  have h1 := hB.a
  have h2 := hB.c
  have h3 := hB.d
  have h4 := hB.e
  have hnw := h.nw
  have ne : ∀ k, k < N → some k ≠ row := fun k hk e => by have := hr k e.symm; omega
  refine ⟨h.bel.grown hg h.bel.size (fun k e => by have := hr k e; omega), Nat.le_trans hnw hg.size, (hg.block bx (by omega) (ne bx h4)).trans h.bxh, (hg.block lb (by omega) (ne lb h2)).trans h.lf, (hg.block pb (by omega) (ne pb h3)).trans h.pbh, is_kept h.is hg (fun x hx hl e => by have := hr _ e; have := (h.nl x hx hl).1; omega)⟩
theorem CY.pushF (hB : CB w0 N lb pb bx) (h : CY w0 N lb pb bx gc Lf P V a l vf fr wr) (hn : fr.length ≤ 1000000000) (x : Int) :
    ∃ g cap wr', (Builtin.append_ #[23, 23] 23 #[vf, .slice (some ⟨wr.heap.size, 0, none⟩) 1 1]).run Tryd.prog (wr.alloc (.cells #[.int .i64 x] 3)) = .ok (.slice (some ⟨g, 0, none⟩) (fr.length + 1) cap) wr' ∧
      CY w0 N lb pb bx gc Lf P V a l (.slice (some ⟨g, 0, none⟩) (fr.length + 1) cap) (fr ++ [x]) wr' := by
  obtain ⟨g, cap, wr', h1, h2, h3, h4⟩ := push1I h.f h.nw (by omega) x
  have hg : wr.grownBy wr' vf.ownBlock := (World.grownBy_alloc wr (.cells #[.int .i64 x] 3) vf.ownBlock).trans h3
  obtain ⟨b1, b2, b3, b4, b5, b6⟩ := h.base hB hg (fun k hk => (ownsI_lt h.f k hk).1)
  refine ⟨g, cap, wr', h1, b1, b2, b3, b4, b5, h.vl, fun u hu => ownsI_kept (h.ow u hu) hg (fun k hk e => h.af u k hu hk e), h.ap, h2, fun u k hu hk e => ?_, b6, h.nl⟩
  cases e
  rcases h4 with h4 | h4
  · exact h.af u g hu hk h4
  · have := (ownsI_lt (h.ow u hu) g hk).2
    omega
theorem CY.popF {g k c : Nat} (h : CY w0 N lb pb bx gc Lf P V a l (.slice (some ⟨g, 0, none⟩) k c) fr wr) (m : Nat) (hm : m ≤ fr.length) : CY w0 N lb pb bx gc Lf P V a l (.slice (some ⟨g, 0, none⟩) m c) (fr.take m) wr :=
  ⟨h.bel, h.nw, h.bxh, h.lf, h.pbh, h.vl, h.ow, h.ap, ownsI_pop h.f m hm, h.af, h.is, h.nl⟩
theorem CY.setL (hB : CB w0 N lb pb bx) (h : CY w0 N lb pb bx gc Lf P V a l vf fr wr) {k : Nat} (hk : k < Lf.length) (v : Int) : CY w0 N lb pb bx gc (Lf.set k v) P V a l vf fr (wr.setCell ⟨lb, k, none⟩ (.int .i64 v)) := by
  have hoth : ∀ j, j ≠ lb → (wr.setCell ⟨lb, k, none⟩ (.int .i64 v)).heap[j]? = wr.heap[j]? := fun j hj => Deep.blk_setCell_other _ _ _ _ hj
  have hg : wr.grownBy (wr.setCell ⟨lb, k, none⟩ (.int .i64 v)) (some lb) := ⟨rfl, rfl, rfl, by simp [World.setCell], fun j _ hne => hoth j (fun e => hne (by rw [e]))⟩
  have hN := hB.c
  have oth : ∀ {v : Value} {t : List Int}, OwnsI wr N v t → OwnsI (wr.setCell ⟨lb, k, none⟩ (.int .i64 _)) N v t := fun ho => ownsI_kept ho hg (fun g e e2 => by cases e2; have := (ownsI_lt ho _ e).1; omega)
  refine ⟨h.bel.grown hg h.bel.size (fun j e => by cases e; exact hB.a), by simp [World.setCell]; exact h.nw, by rw [hoth bx hB.g]; exact h.bxh, ?_, by rw [hoth pb (Ne.symm hB.f)]; exact h.pbh, h.vl, fun u hu => oth (h.ow u hu), h.ap, oth h.f, h.af, is_kept h.is hg (fun x hx hl e => by cases e; exact (h.nl _ hx hl).2.1 rfl), h.nl⟩
  have hsn := h.lf
  simp [World.setCell, Array.getElem?_modify, hsn]
theorem CY.pushU (hB : CB w0 N lb pb bx) (h : CY w0 N lb pb bx gc Lf P V a l vf fr wr) {u : Nat} (hu : u < P.length) (hn : (pAt P u).length ≤ 1000000000) (x : Int) :
    ∃ g cap wr', (Builtin.append_ #[23, 23] 23 #[vAt V u, .slice (some ⟨wr.heap.size, 0, none⟩) 1 1]).run Tryd.prog (wr.alloc (.cells #[.int .i64 x] 3)) = .ok (.slice (some ⟨g, 0, none⟩) ((pAt P u).length + 1) cap) wr' ∧ wr'.heap[pb]? = some (.cells V.toArray 23) ∧
      CY w0 N lb pb bx gc Lf (P.set u (pAt P u ++ [x])) (V.set u (.slice (some ⟨g, 0, none⟩) ((pAt P u).length + 1) cap)) a l vf fr (wr'.setCell ⟨pb, u, none⟩ (.slice (some ⟨g, 0, none⟩) ((pAt P u).length + 1) cap)) := by
  obtain ⟨g, cap, wr', h1, h2, h3, h4⟩ := push1I (h.ow u hu) h.nw (by omega) x
  have hg : wr.grownBy wr' (vAt V u).ownBlock := (World.grownBy_alloc wr (.cells #[.int .i64 x] 3) (vAt V u).ownBlock).trans h3
  obtain ⟨b1, b2, b3, b4, b5, b6⟩ := h.base hB hg (fun k hk => (ownsI_lt (h.ow u hu) k hk).1)
  refine ⟨g, cap, wr', h1, b5, ?_⟩
  obtain ⟨v', hv'⟩ : ∃ v', Value.slice (some ⟨g, 0, none⟩) ((pAt P u).length + 1) cap = v' := ⟨_, rfl⟩
  rw [hv'] at h2 ⊢
  have hvb : ∀ k, v'.ownBlock = some k → (vAt V u).ownBlock = some k ∨ k = wr.heap.size + 1 := fun k hk => by
    rw [← hv'] at hk
    cases hk
    exact h4
  have hoth : ∀ j, j ≠ pb → (wr'.setCell ⟨pb, u, none⟩ v').heap[j]? = wr'.heap[j]? := fun j hj => Deep.blk_setCell_other _ _ _ _ hj
  have hg2 : wr'.grownBy (wr'.setCell ⟨pb, u, none⟩ v') (some pb) := ⟨rfl, rfl, rfl, by simp [World.setCell], fun j _ hne => hoth j (fun e => hne (by rw [e]))⟩
  have hN := hB.d
  have oth : ∀ {v : Value} {t : List Int}, OwnsI wr' N v t → OwnsI (wr'.setCell ⟨pb, u, none⟩ v') N v t := fun ho => ownsI_kept ho hg2 (fun g e e2 => by cases e2; have := (ownsI_lt ho _ e).1; omega)
  have huV : u < V.length := by rw [h.vl]; exact hu
  refine ⟨b1.grown hg2 b1.size (fun j e => by cases e; exact hB.b), by simp [World.setCell]; exact b2, by rw [hoth bx hB.h]; exact b3, by rw [hoth lb hB.f]; exact b4, ?_, by simp [h.vl], fun j hj => ?_, fun j j' k hj hj' hne hk e => ?_, oth (ownsI_kept h.f hg (fun k hk e => h.af u k hu e hk)), fun j k hj hk e => ?_, is_kept b6 hg2 (fun x hx hl e => by cases e; exact (h.nl _ hx hl).2.2 rfl), h.nl⟩
  · simp [World.setCell, Array.getElem?_modify, b5]
  · rw [List.length_set] at hj
    rw [vAt_set huV, pAt_set hu]
    by_cases e : u = j
    · rw [if_pos e, if_pos e]
      have : (pAt P u ++ [x]).length = (pAt P u).length + 1 := by simp
      exact oth h2
    · rw [if_neg e, if_neg e]
      exact oth (ownsI_kept (h.ow j hj) hg (fun k hk e2 => h.ap u j k hu hj e e2 hk))
  · rw [List.length_set] at hj hj'
    rw [vAt_set huV] at hk e
    by_cases e1 : u = j
    · rw [if_pos e1] at hk
      rw [if_neg (by omega)] at e
      rcases hvb k hk with h5 | h5
      · exact h.ap u j' k hu hj' (by omega) h5 e
      · have := (ownsI_lt (h.ow j' hj') k e).2
        omega
    · rw [if_neg e1] at hk
      by_cases e2 : u = j'
      · rw [if_pos e2] at e
        rcases hvb k e with h5 | h5
        · exact h.ap u j k hu hj e1 h5 hk
        · have := (ownsI_lt (h.ow j hj) k hk).2
          omega
      · rw [if_neg e2] at e
        exact h.ap j j' k hj hj' hne hk e
  · rw [List.length_set] at hj
    rw [vAt_set huV] at hk
    by_cases e1 : u = j
    · rw [if_pos e1] at hk
      rcases hvb k hk with h5 | h5
      · exact h.af u k hu h5 e
      · have := (ownsI_lt h.f k e).2
        omega
    · rw [if_neg e1] at hk
      exact h.af j k hj hk e
end
end Go.Proofs.YtjfeamfchgcblaaDoor
