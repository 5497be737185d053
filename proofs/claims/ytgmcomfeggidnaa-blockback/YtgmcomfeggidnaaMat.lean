/- A list of pieces that grows in a box, while each of them lies where it lies. -/
import Derived.Test.YtgmcomfeggidnaaPcs
import Derived.Test.YtgmcomfeggidnaaRefD
set_option linter.unusedVariables false
set_option linter.unusedSimpArgs false
namespace Go.Proofs.Ytgmcomfeggidnaa
open Go.RowKit Go.Shelf

theorem Try.info22 : (Try.prog.info? 22).map (fun i => (i.zero, i.size, i.bytes)) = some (some (.slice none 0 0), 1, 24) := by kernel_rfl

def rowV (r : Row) : Value := .slice r.q r.t.length r.c
abbrev OwnsM (W : World) (base : Nat) (v : Value) (R : List Row) : Prop := W.ownsRow base 22 1 v R.length (R.map rowV)

theorem ownsM_cells {w : World} {base : Nat} {v : Value} {R : List Row} (h : OwnsM w base v R) {g : Nat} (hg : v.ownBlock = some g) : base ≤ g ∧ g < w.heap.size ∧ ∃ cur, w.heap[g]? = some (.cells cur 22 (0, 0)) := by
  rcases h.2 with ⟨rfl, -⟩ | ⟨g', cap, cur, rfl, hb, hh, -⟩
  · cases hg
  · cases hg; exact ⟨hb, (Array.getElem?_eq_some_iff.1 hh).1, cur, hh⟩

theorem pushM_run {w : World} {base : Nat} {v : Value} {R : List Row} (h : OwnsM w base v R) (hb : base ≤ w.heap.size) (hn : R.length + 1 ≤ 1073741824) (r : Row) :
    ∃ g cap w1, (Builtin.append_ #[41, 41] 41 #[v, .slice (some ⟨w.heap.size, 0, none⟩) 1 1]).run Try.prog (w.alloc (.cells #[rowV r] 22)) = .ok (.slice (some ⟨g, 0, none⟩) (R.length + 1) cap) w1 ∧
      OwnsM w1 base (.slice (some ⟨g, 0, none⟩) (R.length + 1) cap) (R ++ [r]) ∧ (w.alloc (.cells #[rowV r] 22)).grownBy w1 v.ownBlock ∧ (v.ownBlock = some g ∨ g = w.heap.size + 1) := by
  obtain ⟨i0, hi, hz0, hz1, hz2⟩ := info_parts Try.info22
  obtain ⟨g, cap, w1, h1, h2, h3, h4, -⟩ := run_append_lies (P := Try.prog) (w.alloc (.cells #[rowV r] 22)) 41 41 base 22 i0 (.slice none 0 0) 1 24 Try.underlying41 hi hz0 hz1 hz2 rfl (by decide)
    v R.length (R.map rowV) (h.alloc _) ⟨w.heap.size, 0, none⟩ 1 1 [rowV r] rfl (cell_one_new _ _ _) (by simp [rowV, Value.oneCell']) (by decide) (by unfold maxLen; omega) (by omega) (by simp; omega) (w.heap.size + 1) (by simp)
  refine ⟨g, cap, w1, h1, ?_, h3, h4⟩
  unfold OwnsM
  rw [List.map_append, List.length_append]
  exact h2

/-- A piece that is held. -/
def Rp (n₀ : Nat) (W : World) (r : Row) : Prop := r.t.length ≤ r.c ∧ r.c ≤ maxLen ∧ Is W r.q r.t ∧ Pcw n₀ W r.q r.t

theorem Rp.kept {n₀ : Nat} {A B : World} {r : Row} (h : Rp n₀ A r) (h1 : ∀ b : Nat, b < n₀ → B.heap[b]? = A.heap[b]?) (h2 : ∀ b : Nat, (∃ cur f, A.heap[b]? = some (Obj.cells cur 3 f)) → B.heap[b]? = A.heap[b]?) : Rp n₀ B r := by
  obtain ⟨a1, a2, a3, a4⟩ := h
  have hk : ∀ a, r.q = some a → 0 < r.t.length → B.heap[a.block]? = A.heap[a.block]? := fun a e hl => by
    rcases a4 a e hl with h | h
    · exact h1 _ h
    · exact h2 _ h
  refine ⟨a1, a2, ?_, fun a e hl => ?_⟩
  · rcases a3 with e | ⟨b, o, e, hc⟩
    · exact .inl e
    · by_cases hl : 0 < r.t.length
      · exact .inr ⟨b, o, e, fun j hj => by
          have h5 : B.cell? ⟨b, o + j, none⟩ = A.cell? ⟨b, o + j, none⟩ := World.cell?_of_block (hk ⟨b, o, none⟩ e hl)
          rw [h5]; exact hc j hj⟩
      · exact .inl (List.eq_nil_of_length_eq_zero (by omega))
  · rw [hk a e hl]; exact a4 a e hl

theorem mt_of {n₀ : Nat} {W : World} {base : Nat} {R : List Row} {a : Option Addr} {k c : Nat} (h : OwnsM W base (.slice a k c) R) (hr : ∀ r ∈ R, Rp n₀ W r) : Mt W a R ∧ k = R.length := by
  have h' := h
  obtain ⟨h0, ⟨e, e2⟩ | ⟨g, cap, cur, e, hb, hg, h1, h2, h3, h4⟩⟩ := h'
  · cases e
    have : R = [] := List.eq_nil_of_length_eq_zero (by omega)
    subst this
    exact ⟨⟨fun j r hr => by simp at hr, .inl rfl⟩, rfl⟩
  · cases e
    refine ⟨⟨fun j r hj => ?_, .inr ⟨g, 0, rfl, fun j r hj => ?_⟩⟩, rfl⟩
    · obtain ⟨a1, a2, a3, -⟩ := hr r (List.mem_of_getElem? hj)
      exact ⟨a1, a2, a3⟩
    · have := h.cells (g := g) rfl j (rowV r) (by simp [hj])
      rw [add_plain] at this
      exact this

theorem boxed_own' {W W' : World} {b : Nat} {ty : TypeId} {v : Value} {row : Option Nat} (hv : Boxed W b ty v) (hgr : W.grownBy W' row) {B : Nat} (hr : ∀ r, row = some r → B ≤ r ∧ ∃ o : Obj, W.heap[r]? = some o ∧ o.isCells = false) : Boxed W' b ty v := by
  refine hv.kept hgr fun e => ?_
  obtain ⟨-, o, ho, hc⟩ := hr _ e.symm
  rw [show W.heap[b]? = _ from hv] at ho; cases ho; cases hc

/-- What holds while the pieces are gathered: the box B, the header's block. -/
def Ird (w : World) (B n₁ : Nat) (hd : Obj) (Ts : List (List Int)) (i : Nat) (W : World) : Prop :=
  n₁ ≤ W.heap.size ∧ ∃ v R, Boxed W B 41 v ∧ OwnsM W w.heap.size v R ∧ (∀ g, v.ownBlock = some g → n₁ ≤ g) ∧ R.map (·.t) = Ts.take i ∧ (∀ r ∈ R, Rp w.heap.size W r) ∧ Below w.heap.size w W ∧ W.heap[w.heap.size]? = some hd

theorem Ird.own {w : World} {B n₁ : Nat} {hd : Obj} {Ts : List (List Int)} (C : Nat) (hC : n₁ ≤ C) (hn : w.heap.size < n₁) : OwnFrom C (Ird w B n₁ hd Ts) := by
  rintro s W W' row ⟨hn₁, v, R, hv, ho, hg, hR, hr, hb, hh⟩ hgr hrow
  refine ⟨Nat.le_trans hn₁ hgr.size, v, R, boxed_own' hv hgr hrow, ho.kept hgr ?_, hg, hR, fun r hm => Rp.kept (hr r hm) (fun b hlt => ?_) (fun b hc => ?_), hb.grown hgr hb.size ?_, ?_⟩
  · cases hvb : v.ownBlock with
    | none => exact .inl rfl
    | some g =>
      refine .inr fun e => ?_
      obtain ⟨-, o, ho', hc⟩ := hrow g e.symm
      obtain ⟨-, -, cur, hcur⟩ := ownsM_cells ho hvb
      rw [hcur] at ho'; cases ho'; cases hc
  · exact hgr.block b (by omega) (fun e => by have := (hrow b e.symm).1; omega)
  · obtain ⟨cur, f, hc⟩ := hc
    refine hgr.block b (Array.getElem?_eq_some_iff.1 hc).1 (fun e => ?_)
    obtain ⟨-, o, ho', hc'⟩ := hrow b e.symm
    rw [hc] at ho'; cases ho'; cases hc'
  · intro k e
    have := (hrow k e).1
    omega
  · rw [← hh]
    exact hgr.block _ (by omega) (fun e => by have := (hrow _ e.symm).1; omega)

/-- One piece more. -/
theorem Ird_step {w W w1 : World} {B n₁ Bi C : Nat} {hd : Obj} {Ts : List (List Int)} {i : Nat} {r : Row} {v : Value} {R : List Row} {g cap : Nat}
    (hn₁ : n₁ ≤ W.heap.size) (hB : w.heap.size < B) (hBn : B < n₁) (hBi : w.heap.size ≤ Bi) (hBin : Bi < n₁) (hBB : Bi ≠ B) (hx : Ts[i]? = some r.t) (hr : Rp w.heap.size W r)
    (hv : Boxed W B 41 v) (ho : OwnsM W w.heap.size v R) (hg : ∀ g, v.ownBlock = some g → n₁ ≤ g) (hR : R.map (·.t) = Ts.take i) (hrs : ∀ r ∈ R, Rp w.heap.size W r) (hBl : Below w.heap.size w W) (hh : W.heap[w.heap.size]? = some hd)
    (h2 : OwnsM w1 w.heap.size (.slice (some ⟨g, 0, none⟩) (R.length + 1) cap) (R ++ [r])) (h3 : (W.alloc (.cells #[rowV r] 22)).grownBy w1 v.ownBlock) (h4 : v.ownBlock = some g ∨ g = W.heap.size + 1) :
    Boxed w1 B 41 v ∧ Hid (postV C (Kp w.heap.size Bi) (Ird w B n₁ hd Ts) (i + 1) W .normal { tmps := #[], defers := [] } (w1.setCell ⟨B, 0, none⟩ (.slice (some ⟨g, 0, none⟩) (R.length + 1) cap))) := by
  obtain ⟨hv1, hv2, hr2, hk2, hb2⟩ := hv.appended (by decide) ho hBl.size (by omega) h2 h3
  have hold : ∀ b : Nat, b < W.heap.size → b ≠ B → some b ≠ v.ownBlock → (w1.setCell ⟨B, 0, none⟩ (.slice (some ⟨g, 0, none⟩) (R.length + 1) cap)).heap[b]? = W.heap[b]? := fun b hlt hne hnv => by
    rw [Deep.blk_setCell_other _ _ _ _ hne, h3.block b (by simp; omega) hnv]
    exact Below.heap_alloc W _ b hlt
  have low : ∀ b : Nat, b < n₁ → b ≠ B → (w1.setCell ⟨B, 0, none⟩ (.slice (some ⟨g, 0, none⟩) (R.length + 1) cap)).heap[b]? = W.heap[b]? := fun b hlt hne => hold b (by omega) hne (fun e => by have := hg b e.symm; omega)
  have k3 : ∀ b : Nat, (∃ cur f, W.heap[b]? = some (Obj.cells cur 3 f)) → (w1.setCell ⟨B, 0, none⟩ (.slice (some ⟨g, 0, none⟩) (R.length + 1) cap)).heap[b]? = W.heap[b]? := fun b ⟨cur, f, hc⟩ => by
    refine hold b (Array.getElem?_eq_some_iff.1 hc).1 (fun e => ?_) (fun e => ?_)
    · subst e
      have : W.heap[b]? = _ := hv
      rw [this] at hc; cases hc
    · obtain ⟨-, -, cur', h'⟩ := ownsM_cells ho e.symm
      rw [h'] at hc; cases hc
  have htk : (R ++ [r]).map (·.t) = Ts.take (i + 1) := by
    rw [List.take_add_one, hx, List.map_append, hR]; rfl
  refine ⟨hv1, hk2.from C, ⟨hb2, low Bi hBin hBB⟩, Nat.le_trans hn₁ hb2.size, _, _, hv2, hr2, fun g' e => ?_, htk, fun r' hr' => ?_, hBl.trans hb2, (low _ (by omega) (by omega)).trans hh⟩
  · cases e
    rcases h4 with h4 | rfl
    · exact hg g h4
    · show n₁ ≤ W.heap.size + 1
      omega
  · refine Rp.kept ?_ (fun b hlt => low b (by omega) (by omega)) k3
    rcases List.mem_append.1 hr' with h | h
    · exact hrs r' h
    · simp at h; rw [h]; exact hr
end Go.Proofs.Ytgmcomfeggidnaa
