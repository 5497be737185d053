/- Lists of lines that a law builds, and the text that it wants beside them: what each append leaves. -/
import Derived.Test.YtjidbgdblgchlaaBlockLaw
set_option linter.unusedVariables false
set_option linter.unusedSimpArgs false
namespace Go.Proofs.Ytjidbgdblgchlaa
open Go.RowKit Go.Shelf

theorem Try.info26 : (Try.prog.info? 26).map (fun i => (i.zero, i.size, i.bytes)) = some (some (.slice none 0 0), 1, 24) := by kernel_rfl

def rowV (r : Row) : Value := .slice r.q r.t.length r.c
abbrev OwnsM (W : World) (base : Nat) (v : Value) (R : List Row) : Prop := W.ownsRow base 26 1 v R.length (R.map rowV)
def Rok (W : World) (r : Row) : Prop := r.t.length ≤ r.c ∧ r.c ≤ maxLen ∧ Is W r.q r.t
/-- The line does not lie in v's own block. -/
def Off (r : Row) (v : Value) : Prop := ∀ a, r.q = some a → 0 < r.t.length → v.ownBlock ≠ some a.block

theorem ownsM_cells {w : World} {base : Nat} {v : Value} {R : List Row} (h : OwnsM w base v R) {g : Nat} (hg : v.ownBlock = some g) : base ≤ g ∧ g < w.heap.size ∧ ∃ cur, w.heap[g]? = some (.cells cur 26 (0, 0)) := by
  rcases h.2 with ⟨rfl, -⟩ | ⟨g', cap, cur, rfl, hb, hh, -⟩
  · cases hg
  · cases hg; exact ⟨hb, (Array.getElem?_eq_some_iff.1 hh).1, cur, hh⟩
theorem owns_lt {w : World} {base : Nat} {v : Value} {t : List Int} (h : Owns w base v t) {g : Nat} (hg : v.ownBlock = some g) : g < w.heap.size := by
  obtain ⟨-, cur, hh⟩ := owns_cells h hg
  exact (Array.getElem?_eq_some_iff.1 hh).1
theorem owns_apart {w : World} {base base' : Nat} {v u : Value} {t : List Int} {R : List Row} (h : Owns w base v t) (k : OwnsM w base' u R) : v.ownBlock = none ∨ v.ownBlock ≠ u.ownBlock := by
  cases hv : v.ownBlock with
  | none => exact .inl rfl
  | some g =>
    refine .inr fun e => ?_
    obtain ⟨-, cur, h1⟩ := owns_cells h hv
    obtain ⟨-, -, cur', h2⟩ := ownsM_cells k e.symm
    rw [h1] at h2
    cases h2
theorem owns_apart' {w : World} {base base' : Nat} {v u : Value} {t : List Int} {R : List Row} (h : Owns w base v t) (k : OwnsM w base' u R) : u.ownBlock = none ∨ u.ownBlock ≠ v.ownBlock := by
  cases hu : u.ownBlock with
  | none => exact .inl rfl
  | some g =>
    refine .inr fun e => ?_
    obtain ⟨-, cur, h1⟩ := owns_cells h e.symm
    obtain ⟨-, -, cur', h2⟩ := ownsM_cells k hu
    rw [h1] at h2
    cases h2

theorem Is.kept {W W' : World} {row : Option Nat} {r : Row} (h : Is W r.q r.t) (hg : W.grownBy W' row) (hne : ∀ a, r.q = some a → 0 < r.t.length → row ≠ some a.block) : Is W' r.q r.t := by
  rcases h with e | ⟨b, o, e, hc⟩
  · exact .inl e
  · by_cases hl : 0 < r.t.length
    · refine .inr ⟨b, o, e, fun j hj => ?_⟩
      have hlt := World.block_lt_of_cell? W _ (hc j hj)
      rw [World.cell?_of_block (w := W) (hg.block b hlt (fun ee => hne ⟨b, o, none⟩ e hl ee.symm))]
      exact hc j hj
    · exact .inl (List.eq_nil_of_length_eq_zero (by omega))
theorem Is.lt' {W : World} {r : Row} (h : Is W r.q r.t) : ∀ a, r.q = some a → 0 < r.t.length → a.block < W.heap.size := h.lt

/-- Two lists of lines, and a text, that are built side by side. -/
structure Bld (w W : World) (vl vb vw : Value) (Rl Rb : List Row) (T : List Int) : Prop where
  l : OwnsM W w.heap.size vl Rl
  b : OwnsM W w.heap.size vb Rb
  t : Owns W w.heap.size vw T
  lb : ∀ g, vl.ownBlock = some g → vb.ownBlock ≠ some g
  rows : ∀ r, r ∈ Rl ∨ r ∈ Rb → Rok W r ∧ Off r vl ∧ Off r vb ∧ Off r vw
  below : Below w.heap.size w W

theorem Bld.swap {w W : World} {vl vb vw : Value} {Rl Rb : List Row} {T : List Int} (h : Bld w W vl vb vw Rl Rb T) : Bld w W vb vl vw Rb Rl T :=
  ⟨h.b, h.l, h.t, fun g e e' => h.lb g e' e, fun r hr => by obtain ⟨a, b, c, d⟩ := h.rows r hr.symm; exact ⟨a, c, b, d⟩, h.below⟩

theorem Bld.grow {w W W' : World} {vl vb vw : Value} {Rl Rb : List Row} {T : List Int} (h : Bld w W vl vb vw Rl Rb T) (hg : W.grownBy W' none) : Bld w W' vl vb vw Rl Rb T := by
  have nn : ∀ v : Value, v.ownBlock = none ∨ v.ownBlock ≠ none := fun v => by cases v.ownBlock <;> simp
  refine ⟨h.l.kept hg (nn _), h.b.kept hg (nn _), h.t.kept hg (nn _), h.lb, fun r hr => ?_, h.below.grown hg h.below.size (fun k e => by cases e)⟩
  obtain ⟨⟨a1, a2, a3⟩, b, c, d⟩ := h.rows r hr
  exact ⟨⟨a1, a2, a3.kept hg (fun _ _ _ e => by cases e)⟩, b, c, d⟩
theorem Bld.alloc {w W : World} {vl vb vw : Value} {Rl Rb : List Row} {T : List Int} (h : Bld w W vl vb vw Rl Rb T) (o : Obj) : Bld w (W.alloc o) vl vb vw Rl Rb T := h.grow (World.grownBy_alloc W o none)

theorem pushM_run {w : World} {base : Nat} {v : Value} {R : List Row} (h : OwnsM w base v R) (hb : base ≤ w.heap.size) (hn : R.length + 1 ≤ 1073741824) (r : Row) :
    ∃ g cap w1, (Builtin.append_ #[22, 22] 22 #[v, .slice (some ⟨w.heap.size, 0, none⟩) 1 1]).run Try.prog (w.alloc (.cells #[rowV r] 26)) = .ok (.slice (some ⟨g, 0, none⟩) (R.length + 1) cap) w1 ∧
      OwnsM w1 base (.slice (some ⟨g, 0, none⟩) (R.length + 1) cap) (R ++ [r]) ∧ (w.alloc (.cells #[rowV r] 26)).grownBy w1 v.ownBlock ∧ (v.ownBlock = some g ∨ g = w.heap.size + 1) := by
  obtain ⟨i0, hi, hz0, hz1, hz2⟩ := info_parts Try.info26
  obtain ⟨g, cap, w1, h1, h2, h3, h4, -⟩ := run_append_lies (P := Try.prog) (w.alloc (.cells #[rowV r] 26)) 22 22 base 26 i0 (.slice none 0 0) 1 24 Try.underlying22 hi hz0 hz1 hz2 rfl (by decide)
    v R.length (R.map rowV) (h.alloc _) ⟨w.heap.size, 0, none⟩ 1 1 [rowV r] rfl (cell_one_new _ _ _) (by simp [rowV, Value.oneCell']) (by decide) (by unfold maxLen; omega) (by omega) (by simp; omega) (w.heap.size + 1) (by simp)
  refine ⟨g, cap, w1, h1, ?_, h3, h4⟩
  unfold OwnsM
  rw [List.map_append, List.length_append]
  exact h2

theorem off_old {W : World} {r : Row} {v : Value} {g n cap : Nat} (hI : Is W r.q r.t) (h : Off r v) (h4 : v.ownBlock = some g ∨ W.heap.size ≤ g) : Off r (.slice (some ⟨g, 0, none⟩) n cap) := by
  intro a e hl
  show some g ≠ some a.block
  have h1 := hI.lt a e hl
  have h2 := h a e hl
  rcases h4 with h4 | h4
  · rw [h4] at h2; exact h2
  · intro ee; cases ee; omega

/-- One line more. -/
theorem Bld.pushL {w W : World} {vl vb vw : Value} {Rl Rb : List Row} {T : List Int} (h : Bld w W vl vb vw Rl Rb T) (hn : Rl.length + 1 ≤ 1073741824) (r : Row) (hr : Rok W r ∧ Off r vl ∧ Off r vb ∧ Off r vw) :
    ∃ g n cap W1, (Builtin.append_ #[22, 22] 22 #[vl, .slice (some ⟨W.heap.size, 0, none⟩) 1 1]).run Try.prog (W.alloc (.cells #[rowV r] 26)) = .ok (.slice (some ⟨g, 0, none⟩) n cap) W1 ∧ Bld w W1 (.slice (some ⟨g, 0, none⟩) n cap) vb vw (Rl ++ [r]) Rb T ∧
      (∀ r', Rok W r' → Off r' vl → Rok W1 r' ∧ Off r' (.slice (some ⟨g, 0, none⟩) n cap)) ∧ W.heap.size ≤ W1.heap.size := by
  obtain ⟨g, cap, W1, h1, h2, h3, h4⟩ := pushM_run h.l h.below.size hn r
  have ha := h.alloc (.cells #[rowV r] 26)
  have kp : ∀ r', Rok W r' → Off r' vl → Rok W1 r' ∧ Off r' (.slice (some ⟨g, 0, none⟩) (Rl.length + 1) cap) := by
    rintro r' ⟨a1, a2, a3⟩ ho
    refine ⟨⟨a1, a2, (a3.alloc _).kept h3 (fun a e hl => ho a e hl)⟩, off_old a3 ho (h4.imp id (fun e => by omega))⟩
  refine ⟨g, _, cap, W1, h1, ⟨h2, ?_, ?_, ?_, fun r' hr' => ?_, ?_⟩, kp, ?_⟩
  · refine ha.b.kept h3 ?_
    cases hb : vb.ownBlock with
    | none => exact .inl rfl
    | some x => exact .inr fun e => h.lb x e.symm hb
  · exact ha.t.kept h3 (owns_apart ha.t ha.l)
  · rintro x e e'
    cases e
    rcases h4 with h4 | rfl
    · exact h.lb g h4 e'
    · have : W.heap.size + 1 < W.heap.size := (ownsM_cells h.b e').2.1
      omega
  · have : Rok W r' ∧ Off r' vl ∧ Off r' vb ∧ Off r' vw := by
      rcases hr' with hr' | hr'
      · rcases List.mem_append.1 hr' with hr' | hr'
        · exact h.rows r' (.inl hr')
        · simp at hr'; rw [hr']; exact hr
      · exact h.rows r' (.inr hr')
    obtain ⟨b1, b2, b3, b4⟩ := this
    obtain ⟨k1, k2⟩ := kp r' b1 b2
    exact ⟨k1, k2, b3, b4⟩
  · exact ha.below.grown h3 ha.below.size (fun k e => (ownsM_cells ha.l e).1)
  · have := h3.size; simp at this; omega

/-- More of the text: news, read at ad. -/
theorem Bld.pushT {w W : World} {vl vb vw : Value} {Rl Rb : List Row} {T u : List Int} {q : Option Addr} (c : Nat) (h : Bld w W vl vb vw Rl Rb T) (hn : T.length + u.length ≤ 1073741824) (hu : 0 < u.length) (hI : Is W q u) :
    ∃ g n cap W1, (Builtin.append_ #[26, 26] 26 #[vw, .slice q u.length c]).run Try.prog W = .ok (.slice (some ⟨g, 0, none⟩) n cap) W1 ∧ Bld w W1 vl vb (.slice (some ⟨g, 0, none⟩) n cap) Rl Rb (T ++ u) ∧
      (∀ r', Rok W r' → Off r' vw → Rok W1 r' ∧ Off r' (.slice (some ⟨g, 0, none⟩) n cap)) ∧ W.heap.size ≤ W1.heap.size := by
  obtain ⟨b, o, rfl, hc⟩ := hI.at hu
  obtain ⟨i0, hi, hz0, hz1, hz2⟩ := info_parts Try.info3
  obtain ⟨g, cap, W1, h1, h2, h3, h4, -⟩ := run_append_lies (P := Try.prog) W 26 26 w.heap.size 3 i0 (.int .i64 0) 1 8 Try.underlying26 hi hz0 hz1 hz2 rfl (by decide)
    vw T.length (T.map (.int .i64)) h.t ⟨b, o, none⟩ u.length c (u.map (.int .i64)) (by simp) (by
      intro j z hz
      rw [List.getElem?_map] at hz
      cases hj : u[j]? with
      | none => rw [hj] at hz; cases hz
      | some y =>
        rw [hj] at hz
        have hjl : j < u.length := (List.getElem?_eq_some_iff.1 hj).1
        rw [add_plain, hc j hjl]
        simp [iAt, hj] at hz ⊢
        exact hz) (by simp [Value.oneCell']) hu (by unfold maxLen; omega) (by omega) h.below.size W.heap.size rfl
  have kp : ∀ r', Rok W r' → Off r' vw → Rok W1 r' ∧ Off r' (.slice (some ⟨g, 0, none⟩) (T.length + u.length) cap) := by
    rintro r' ⟨a1, a2, a3⟩ ho
    exact ⟨⟨a1, a2, a3.kept h3 (fun a e hl => ho a e hl)⟩, off_old a3 ho (h4.imp id (fun e => by omega))⟩
  refine ⟨g, _, cap, W1, h1, ⟨h.l.kept h3 (owns_apart' h.t h.l), h.b.kept h3 (owns_apart' h.t h.b), ?_, h.lb, fun r' hr' => ?_, h.below.grown h3 h.below.size (fun k e => (owns_cells h.t e).1)⟩, kp, h3.size⟩
  · unfold Owns
    rw [List.map_append, List.length_append]
    exact h2
  · obtain ⟨b1, b2, b3, b4⟩ := h.rows r' hr'
    obtain ⟨k1, k2⟩ := kp r' b1 b4
    exact ⟨k1, b2, b3, k2⟩

/-- A new line of its own. -/
def newR (W : World) (t : List Int) : Row := ⟨some ⟨W.heap.size, 0, none⟩, t, t.length⟩
theorem newR_ok {w W : World} {vl vb vw : Value} {Rl Rb : List Row} {T : List Int} (h : Bld w W vl vb vw Rl Rb T) (t : List Int) (ht : t.length ≤ 1048576) : Rok (W.alloc (.cells (t.map (Value.int .i64)).toArray 3)) (newR W t) ∧ Off (newR W t) vl ∧ Off (newR W t) vb ∧ Off (newR W t) vw := by
  refine ⟨⟨Nat.le_refl _, by show t.length ≤ maxLen; unfold maxLen; omega, is_of_block (World.alloc_heap_new W _)⟩, ?_, ?_, ?_⟩
  · intro a e _ hv
    cases e
    have := (ownsM_cells h.l hv).2.1
    simp at this
  · intro a e _ hv
    cases e
    have := (ownsM_cells h.b hv).2.1
    simp at this
  · intro a e _ hv
    cases e
    have := owns_lt h.t hv
    simp at this
def nilR : Row := ⟨none, [], 0⟩
theorem nilR_ok (W : World) (vl vb vw : Value) : Rok W nilR ∧ Off nilR vl ∧ Off nilR vb ∧ Off nilR vw :=
  ⟨⟨Nat.le_refl _, by show 0 ≤ maxLen; unfold maxLen; omega, .inl rfl⟩, (fun a e => by cases e), (fun a e => by cases e), (fun a e => by cases e)⟩

/-- A list of lines that was built, as it is read. -/
theorem OwnsM.read {W : World} {base : Nat} {v : Value} {R : List Row} (h : OwnsM W base v R) (hr : ∀ r, r ∈ R → Rok W r) : ∃ q c, v = .slice q R.length c ∧ Mt W q R := by
  have h' := h
  rcases h'.2 with ⟨rfl, h0⟩ | ⟨g, cap, cur, rfl, -⟩
  · exact ⟨none, 0, by rw [h0], ⟨fun j r hj => hr r (List.mem_of_getElem? hj), .inl (List.eq_nil_of_length_eq_zero h0)⟩⟩
  · refine ⟨_, cap, rfl, ⟨fun j r hj => hr r (List.mem_of_getElem? hj), .inr ⟨g, 0, rfl, fun j r hj => ?_⟩⟩⟩
    have := h.cells (g := g) rfl j (rowV r) (by simp [hj])
    rw [add_plain] at this
    exact this
end Go.Proofs.Ytjidbgdblgchlaa
