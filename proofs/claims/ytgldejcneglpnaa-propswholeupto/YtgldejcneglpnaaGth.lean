/- A list of parts that grows in a box. -/
import Derived.Test.YtgldejcneglpnaaPrf
import Derived.Deep.AppendLies
import Derived.RangeFuncBox
set_option linter.unusedVariables false
set_option linter.unusedSimpArgs false
namespace Go.Proofs.Ytgldejcneglpnaa
open Go.RowKit Go.Shelf

theorem Try.info22 : (Try.prog.info? 22).map (fun i => (i.zero, i.size, i.bytes)) = some (some (.slice none 0 0), 1, 24) := by kernel_rfl
def rowV (r : Row) : Value := .slice r.q r.t.length r.c
abbrev OwnsM (W : World) (base : Nat) (v : Value) (R : List Row) : Prop := W.ownsRow base 22 1 v R.length (R.map rowV)
theorem ownsM_cells {w : World} {base : Nat} {v : Value} {R : List Row} (h : OwnsM w base v R) {g : Nat} (hg : v.ownBlock = some g) : base ≤ g ∧ g < w.heap.size ∧ ∃ cur, w.heap[g]? = some (.cells cur 22 (0, 0)) := by
  rcases h.2 with ⟨rfl, -⟩ | ⟨g', cap, cur, rfl, hb, hh, -⟩
  · cases hg
  · cases hg; exact ⟨hb, (Array.getElem?_eq_some_iff.1 hh).1, cur, hh⟩
theorem pushM_run {w : World} {base : Nat} {v : Value} {R : List Row} (h : OwnsM w base v R) (hb : base ≤ w.heap.size) (hn : R.length + 1 ≤ 1073741824) (r : Row) :
    ∃ g cap w1, (Builtin.append_ #[43, 43] 43 #[v, .slice (some ⟨w.heap.size, 0, none⟩) 1 1]).run Try.prog (w.alloc (.cells #[rowV r] 22)) = .ok (.slice (some ⟨g, 0, none⟩) (R.length + 1) cap) w1 ∧
      OwnsM w1 base (.slice (some ⟨g, 0, none⟩) (R.length + 1) cap) (R ++ [r]) ∧ (w.alloc (.cells #[rowV r] 22)).grownBy w1 v.ownBlock ∧ (v.ownBlock = some g ∨ g = w.heap.size + 1) := by
  obtain ⟨i0, hi, hz0, hz1, hz2⟩ := info_parts Try.info22
  obtain ⟨g, cap, w1, h1, h2, h3, h4, -⟩ := run_append_lies (P := Try.prog) (w.alloc (.cells #[rowV r] 22)) 43 43 base 22 i0 (.slice none 0 0) 1 24 Try.underlying43 hi hz0 hz1 hz2 rfl (by decide)
    v R.length (R.map rowV) (h.alloc _) ⟨w.heap.size, 0, none⟩ 1 1 [rowV r] rfl (cell_one_new _ _ _) (by simp [rowV, Value.oneCell']) (by decide) (by unfold maxLen; omega) (by omega) (by simp; omega) (w.heap.size + 1) (by simp)
  refine ⟨g, cap, w1, h1, ?_, h3, h4⟩
  unfold OwnsM
  rw [List.map_append, List.length_append]
  exact h2

/-- The part of the list at b, o that x tells. -/
def rowT (b o : Nat) (t : List Int) (cap : Nat) (x : Nat × Nat) : Row := ⟨some ⟨b, o + x.1, none⟩, (t.drop x.1).take (x.2 - x.1), cap - x.1⟩
/-- What holds while parts are gathered: the box holds the first i of them. -/
def Id (w : World) (b o : Nat) (t : List Int) (cap : Nat) (T : List (Nat × Nat)) (i : Nat) (W : World) : Prop :=
  i ≤ T.length ∧ w.heap.size + 2 ≤ W.heap.size ∧ ∃ v, Boxed W w.heap.size 43 v ∧ OwnsM W w.heap.size v ((T.take i).map (rowT b o t cap)) ∧ (∀ g, v.ownBlock = some g → w.heap.size + 2 ≤ g) ∧ Below w.heap.size w W

theorem Id.own {w : World} {b o : Nat} {t : List Int} {cap : Nat} {T : List (Nat × Nat)} (C : Nat) (hC : w.heap.size + 2 ≤ C) : OwnFrom C (Id w b o t cap T) := by
  rintro s W W' row ⟨hi, hn₁, v, hv, ho, hg, hb⟩ hgr hrow
  refine ⟨hi, Nat.le_trans hn₁ hgr.size, v, boxed_own' hv hgr hrow, ho.kept hgr ?_, hg, hb.grown hgr hb.size (fun k e => by have := (hrow k e).1; omega)⟩
  cases hvb : v.ownBlock with
  | none => exact .inl rfl
  | some g =>
    refine .inr fun e => ?_
    obtain ⟨-, o, ho', hc⟩ := hrow g e.symm
    obtain ⟨-, -, cur, hcur⟩ := ownsM_cells ho hvb
    rw [hcur] at ho'; cases ho'; cases hc

/-- One part more. -/
theorem Id_step {w W w1 : World} {b o : Nat} {t : List Int} {cap : Nat} {T : List (Nat × Nat)} {i C : Nat} {x : Nat × Nat} {v : Value} {g c2 : Nat} {X : Nat → Prop} (hX : ∀ k, X k → k < w.heap.size + 2) (hXn : ¬ X w.heap.size)
    (hx : T[i]? = some x) (hn₁ : w.heap.size + 2 ≤ W.heap.size) (hv : Boxed W w.heap.size 43 v) (ho : OwnsM W w.heap.size v ((T.take i).map (rowT b o t cap))) (hg : ∀ g, v.ownBlock = some g → w.heap.size + 2 ≤ g) (hBl : Below w.heap.size w W)
    (h2 : OwnsM w1 w.heap.size (.slice (some ⟨g, 0, none⟩) (((T.take i).map (rowT b o t cap)).length + 1) c2) ((T.take i).map (rowT b o t cap) ++ [rowT b o t cap x])) (h3 : (W.alloc (.cells #[rowV (rowT b o t cap x)] 22)).grownBy w1 v.ownBlock) (h4 : v.ownBlock = some g ∨ g = W.heap.size + 1) :
    Boxed w1 w.heap.size 43 v ∧ Hid (KeepsFrom C W (w1.setCell ⟨w.heap.size, 0, none⟩ (.slice (some ⟨g, 0, none⟩) (((T.take i).map (rowT b o t cap)).length + 1) c2)) ∧ Kq X W (w1.setCell ⟨w.heap.size, 0, none⟩ (.slice (some ⟨g, 0, none⟩) (((T.take i).map (rowT b o t cap)).length + 1) c2)) ∧ Id w b o t cap T (i + 1) (w1.setCell ⟨w.heap.size, 0, none⟩ (.slice (some ⟨g, 0, none⟩) (((T.take i).map (rowT b o t cap)).length + 1) c2))) ∧
      Boxed (w1.setCell ⟨w.heap.size, 0, none⟩ (.slice (some ⟨g, 0, none⟩) (((T.take i).map (rowT b o t cap)).length + 1) c2)) w.heap.size 43 (.slice (some ⟨g, 0, none⟩) (((T.take i).map (rowT b o t cap)).length + 1) c2) := by
  obtain ⟨hv1, hv2, hr2, hk2, hb2⟩ := hv.appended (by decide) ho hBl.size (by omega) h2 h3
  have htk : (T.take i).map (rowT b o t cap) ++ [rowT b o t cap x] = (T.take (i + 1)).map (rowT b o t cap) := by
    rw [List.take_add_one, hx, List.map_append]; rfl
  have hil : i < T.length := (List.getElem?_eq_some_iff.1 hx).1
  refine ⟨hv1, ⟨hk2.from C, ⟨hb2.size, fun k hk => ?_⟩, by omega, Nat.le_trans hn₁ hb2.size, _, hv2, ?_, fun g' e => ?_, hBl.trans hb2⟩, hv2⟩
  · have hk1 := hX k hk
    rw [Deep.blk_setCell_other _ _ _ _ (fun e => hXn (by have e' : k = w.heap.size := e; rw [← e']; exact hk)), h3.block k (by simp; omega) (fun e => by have := hg k e.symm; omega)]
    exact Below.heap_alloc W _ k (by omega)
  · rw [htk] at hr2
    rw [show ((T.take i).map (rowT b o t cap)).length + 1 = ((T.take (i + 1)).map (rowT b o t cap)).length by rw [← htk]; simp] at hr2 ⊢
    exact hr2
  · cases e
    rcases h4 with h4 | rfl
    · exact hg g h4
    · show w.heap.size + 2 ≤ W.heap.size + 1
      omega

theorem mt_of {w W : World} {b o : Nat} {t : List Int} {cap : Nat} {T : List (Nat × Nat)} {a : Option Addr} {k c : Nat} (h : OwnsM W w.heap.size (.slice a k c) (T.map (rowT b o t cap))) (hI : Is W (some ⟨b, o, none⟩) t) (hcap : t.length ≤ cap) (hmx : cap ≤ maxLen)
    (hT : ∀ x ∈ T, x.1 ≤ x.2 ∧ x.2 ≤ t.length) : Mt W a (T.map (rowT b o t cap)) ∧ k = T.length ∧ k ≤ c ∧ c ≤ maxLen := by
  have h' := h
  have hrow : ∀ (j : Nat) (r : Row), (T.map (rowT b o t cap))[j]? = some r → r.t.length ≤ r.c ∧ r.c ≤ maxLen ∧ Is W r.q r.t := fun j r hr => by
    rw [List.getElem?_map] at hr
    cases hx : T[j]? with
    | none => rw [hx] at hr; cases hr
    | some x =>
      rw [hx] at hr
      simp at hr
      subst hr
      have := hT x (List.mem_of_getElem? hx)
      refine ⟨by simp [rowT]; omega, by simp [rowT]; omega, (hI.drop x.1).take _⟩
  obtain ⟨h0, ⟨e, e2⟩ | ⟨g, cap', cur, e, hb, hg, h1, h2, h3, h4⟩⟩ := h'
  · cases e
    have : T = [] := List.eq_nil_of_length_eq_zero (by simpa using e2)
    subst this
    exact ⟨⟨hrow, .inl rfl⟩, rfl, Nat.le_refl _, by unfold maxLen; omega⟩
  · cases e
    refine ⟨⟨hrow, .inr ⟨g, 0, rfl, fun j r hj => ?_⟩⟩, by simp, h1, h2⟩
    have := h.cells (g := g) rfl j (rowV r) (by simp only [List.getElem?_map] at hj ⊢; rw [hj]; rfl)
    rw [add_plain] at this
    exact this
end Go.Proofs.Ytgldejcneglpnaa
