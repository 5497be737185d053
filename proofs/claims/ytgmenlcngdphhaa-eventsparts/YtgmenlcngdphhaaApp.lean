/- Rows of events of the call's own, that grow. -/
import Derived.Test.YtgmenlcngdphhaaTel
set_option linter.unusedVariables false
set_option linter.unusedSimpArgs false
namespace Go.Proofs.Ytgmenlcngdphhaa
open Go.RowKit Go.Shelf

theorem Try.info30 : (Try.prog.info? 30).map (fun i => (i.zero, i.size, i.bytes)) = some (some (.agg #[.int .i64 0, .string ⟨#[]⟩, .string ⟨#[]⟩, .string ⟨#[]⟩, .int .i64 0, .bool false]), 6, 72) := by kernel_rfl
/-- The slice v, in memory of the call's own, holds these events. -/
def OwnE (w : World) (base : Nat) (v : Value) (L : List Ev) : Prop := w.ownsRow base 30 6 v L.length (flat L)
theorem OwnE.zero (w : World) (base : Nat) : OwnE w base (.slice none 0 0) [] := World.ownsRow_nil _ _ _ _
theorem OwnE.read {w : World} {base : Nat} {v : Value} {L : List Ev} (h : OwnE w base v L) : ∃ q c, v = .slice q L.length c ∧ L.length ≤ c ∧ c ≤ maxLen ∧ Es w q L := by
  have h' := h
  obtain ⟨-, ⟨e1, e2⟩ | ⟨g, cap, cur, e1, hb, hg, h1, h2, -⟩⟩ := h'
  · exact ⟨none, 0, by rw [e1, e2], by omega, Nat.zero_le _, .inl (List.eq_nil_of_length_eq_zero e2)⟩
  · refine ⟨_, cap, e1, h1, h2, es_of fun j v hj => ?_⟩
    have := World.ownsRow.cells h (g := g) (by rw [e1]; rfl) j v hj
    rw [add_plain] at this
    exact this
theorem OwnE.typed {w : World} {base : Nat} {v : Value} {L : List Ev} (h : OwnE w base v L) {g : Nat} (hg : v.ownBlock = some g) : base ≤ g ∧ g < w.heap.size := by
  obtain ⟨-, ⟨e1, e2⟩ | ⟨g', cap, cur, e1, hb, hh, -⟩⟩ := h
  · rw [e1] at hg; cases hg
  · rw [e1] at hg; cases hg; exact ⟨hb, (Array.getElem?_eq_some_iff.1 hh).1⟩
theorem OwnE.below {w w' u : World} {n₀ base : Nat} {v : Value} {L : List Ev} (h : OwnE w base v L) (hn : n₀ ≤ base) (hnw : n₀ ≤ w.heap.size) (hg : w.grownBy w' v.ownBlock) (hb : Below n₀ u w) : Below n₀ u w' :=
  hb.grown hg hnw (fun k e1 => Nat.le_trans hn (h.typed e1).1)
theorem ev_cells (L : List Ev) : ∀ u ∈ flat L, u.oneCell' = true := by
  induction L with
  | nil => intro u hu; cases hu
  | cons x L ih =>
    intro u hu
    rw [flat, List.mem_append] at hu
    rcases hu with hu | hu
    · simp [Ev.c] at hu
      rcases hu with rfl | rfl | rfl | rfl | rfl | rfl <;> rfl
    · exact ih u hu
theorem Es.cells {w : World} {a : Addr} {L : List Ev} (h : Es w (some a) L) : ∀ (j : Nat) (v : Value), (flat L)[j]? = some v → w.cell? (a.add j) = some v := by
  intro j v hj
  rcases h with rfl | ⟨b, o, e, hc⟩
  · cases hj
  · cases e
    have hl := (List.getElem?_eq_some_iff.1 hj).1
    rw [flat_len] at hl
    obtain ⟨x, hx⟩ : ∃ x, L[j / 6]? = some x := ⟨_, List.getElem?_eq_getElem (by omega)⟩
    have hj6 : j / 6 * 6 + j % 6 = j := by omega
    have := flat_at L (j / 6) x hx (j % 6) (by omega)
    rw [hj6, hj] at this
    rw [add_plain]
    have c6 := hc (j / 6) x hx
    have hm : j % 6 < 6 := by omega
    have hjo : o + j = o + j / 6 * 6 + j % 6 := by omega
    rw [hjo]
    generalize j % 6 = m at *
    match m, hm with
    | 0, _ => rw [Nat.add_zero, c6.c0]; exact this.symm
    | 1, _ => rw [c6.c1]; exact this.symm
    | 2, _ => rw [c6.c2]; exact this.symm
    | 3, _ => rw [c6.c3]; exact this.symm
    | 4, _ => rw [c6.c4]; exact this.symm
    | 5, _ => rw [c6.c5]; exact this.symm
theorem pushE {w : World} {base : Nat} {v : Value} {A B : List Ev} {q : Option Addr} (c : Nat) (h : OwnE w base v A) (hb : base ≤ w.heap.size) (hn : A.length + B.length ≤ 1048576) (hE : Es w q B) :
    ∃ v' w1, (Builtin.append_ #[22, 22] 22 #[v, .slice q B.length c]).run Try.prog w = .ok v' w1 ∧ OwnE w1 base v' (A ++ B) ∧ w.grownBy w1 v.ownBlock := by
  obtain ⟨i0, hi, hz0, hz1, hz2⟩ := info_parts Try.info30
  cases q with
  | none =>
    have e : B = [] := by
      rcases hE with e | ⟨b, o, e, -⟩
      · exact e
      · cases e
    subst e
    refine ⟨v, w, ?_, by rw [List.append_nil]; exact h, ⟨rfl, rfl, rfl, Nat.le_refl _, fun _ _ _ => rfl⟩⟩
    rcases h.2 with ⟨rfl, -⟩ | ⟨g, cap, cur, rfl, -, hg, hle, -⟩
    · simp [Builtin.append_, run_underlying Try.underlying22, sizeOf, typeInfo, hi, Builtin.lenOf, Builtin.firstCells, loadCells, loadCellsFrom]
    · simp [Builtin.append_, run_underlying Try.underlying22, sizeOf, typeInfo, hi, Builtin.lenOf, Builtin.firstCells, loadCells, loadCellsFrom, hle, storeCells]
  | some a =>
    obtain ⟨v', w', hr, ho, hg, -⟩ := run_append_own (P := Try.prog) w base 22 22 30 i0 _ 6 72 Try.underlying22 hi hz0 hz1 hz2 rfl (by decide) v A.length (flat A) h
      a B.length c (flat B) (flat_len B) hE.cells (ev_cells B) (by unfold maxLen; omega) (by omega) hb
    refine ⟨v', w', hr, ?_, hg⟩
    unfold OwnE
    rw [flat_app, List.length_append]
    exact ho
end Go.Proofs.Ytgmenlcngdphhaa
