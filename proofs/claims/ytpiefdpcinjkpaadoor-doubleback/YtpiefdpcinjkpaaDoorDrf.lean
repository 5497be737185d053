/- The draft in memory: which block is whose, and what each step leaves. -/
import Derived.Test.YtpiefdpcinjkpaaDoorIte
import Derived.Test.YtpiefdpcinjkpaaDoorRefA
set_option linter.unusedVariables false
set_option linter.unusedSimpArgs false
namespace Go.Proofs.YtpiefdpcinjkpaaDoor
open Go.RowKit Go.Shelf

theorem Tryd.info25 : (Tryd.prog.info? 25).map (fun i => (i.zero, i.size, i.bytes)) = some (some (.slice none 0 0), 1, 24) := by kernel_rfl

def rowV (r : Row) : Value := .slice r.q r.t.length r.c
abbrev OwnsM (W : World) (base : Nat) (v : Value) (R : List Row) : Prop := W.ownsRow base 25 1 v R.length (R.map rowV)
def Rok (W : World) (r : Row) : Prop := r.t.length ≤ r.c ∧ r.c ≤ maxLen ∧ Is W r.q r.t
/-- The line does not lie in v's own block. -/
def Off (r : Row) (v : Value) : Prop := ∀ a, r.q = some a → 0 < r.t.length → v.ownBlock ≠ some a.block

theorem ownsM_cells {w : World} {base : Nat} {v : Value} {R : List Row} (h : OwnsM w base v R) {g : Nat} (hg : v.ownBlock = some g) : base ≤ g ∧ g < w.heap.size ∧ ∃ cur, w.heap[g]? = some (.cells cur 25 (0, 0)) := by
  rcases h.2 with ⟨rfl, -⟩ | ⟨g', cap, cur, rfl, hb, hh, -⟩
  · cases hg
  · cases hg; exact ⟨hb, (Array.getElem?_eq_some_iff.1 hh).1, cur, hh⟩
theorem owns_lt {w : World} {base : Nat} {v : Value} {t : List Int} (h : Owns w base v t) {g : Nat} (hg : v.ownBlock = some g) : g < w.heap.size := by
  obtain ⟨-, cur, hh⟩ := owns_cells h hg
  exact (Array.getElem?_eq_some_iff.1 hh).1
theorem owns_apart {w : World} {base base' : Nat} {v u : Value} {t : List Int} {R : List Row} (h : Owns w base v t) (k : OwnsM w base' u R) : v.ownBlock = none ∨ v.ownBlock ≠ u.ownBlock := by
  cases hv : v.ownBlock with
  | none => exact .inl rfl
  | some g =>
    refine .inr fun e => ?_
    obtain ⟨-, cur, h1⟩ := owns_cells h hv
    obtain ⟨-, -, cur', h2⟩ := ownsM_cells k e.symm
    rw [h1] at h2
    cases h2
theorem owns_apart' {w : World} {base base' : Nat} {v u : Value} {t : List Int} {R : List Row} (h : Owns w base v t) (k : OwnsM w base' u R) : u.ownBlock = none ∨ u.ownBlock ≠ v.ownBlock := by
  cases hu : u.ownBlock with
  | none => exact .inl rfl
  | some g =>
    refine .inr fun e => ?_
    obtain ⟨-, cur, h1⟩ := owns_cells h e.symm
    obtain ⟨-, -, cur', h2⟩ := ownsM_cells k hu
    rw [h1] at h2
    cases h2

theorem Is.kept {W W' : World} {row : Option Nat} {r : Row} (h : Is W r.q r.t) (hg : W.grownBy W' row) (hne : ∀ a, r.q = some a → 0 < r.t.length → row ≠ some a.block) : Is W' r.q r.t := by
  rcases h with e | ⟨b, o, e, hc⟩
  · exact .inl e
  · by_cases hl : 0 < r.t.length
    · refine .inr ⟨b, o, e, fun j hj => ?_⟩
      have hlt := World.block_lt_of_cell? W _ (hc j hj)
      rw [World.cell?_of_block (w := W) (hg.block b hlt (fun ee => hne ⟨b, o, none⟩ e hl ee.symm))]
      exact hc j hj
    · exact .inl (List.eq_nil_of_length_eq_zero (by omega))

/-- More ints are appended: where the list lies then. -/
theorem pushX {w : World} {base : Nat} {v : Value} {xs u : List Int} {q : Option Addr} (c : Nat) (h : Owns w base v xs) (hb : base ≤ w.heap.size) (hn : xs.length + u.length ≤ 8796093022208) (hI : Is w q u) :
    ∃ v' w1, (Builtin.append_ #[25, 25] 25 #[v, .slice q u.length c]).run Tryd.prog w = .ok v' w1 ∧ Owns w1 base v' (xs ++ u) ∧ w.grownBy w1 v.ownBlock ∧ ∀ g, v'.ownBlock = some g → v.ownBlock = some g ∨ w.heap.size ≤ g := by
  obtain ⟨i0, hi, hz0, hz1, hz2⟩ := info_parts Tryd.info3
  by_cases hu : 0 < u.length
  · obtain ⟨b, o, rfl, hc⟩ := hI.at hu
    obtain ⟨g, cap, W1, h1, h2, h3, h4, -⟩ := run_append_lies (P := Tryd.prog) w 25 25 base 3 i0 (.int .i64 0) 1 8 Tryd.underlying25 hi hz0 hz1 hz2 rfl (by decide)
      v xs.length (xs.map (.int .i64)) h ⟨b, o, none⟩ u.length c (u.map (.int .i64)) (by simp) (by
        intro j z hz
        rw [List.getElem?_map] at hz
        cases hj : u[j]? with
        | none => rw [hj] at hz; cases hz
        | some y =>
          rw [hj] at hz
          have hjl : j < u.length := (List.getElem?_eq_some_iff.1 hj).1
          rw [add_plain, hc j hjl]
          simp [iAt, hj] at hz ⊢
          exact hz) (by simp [Value.oneCell']) hu (by unfold maxLen; omega) (by omega) hb _ rfl
    refine ⟨_, W1, h1, ?_, h3, fun g' e => ?_⟩
    · unfold Owns
      rw [List.map_append, List.length_append]
      exact h2
    · cases e
      rcases h4 with h4 | h4
      · exact .inl h4
      · exact .inr (by show _ ≤ g; omega)
  · have e : u = [] := List.eq_nil_of_length_eq_zero (by omega)
    subst e
    refine ⟨v, w, ?_, by rw [List.append_nil]; exact h, ⟨rfl, rfl, rfl, Nat.le_refl _, fun _ _ _ => rfl⟩, fun g e => .inl e⟩
    cases q <;> rcases h.2 with ⟨rfl, -⟩ | ⟨g, cap, cur, rfl, -, hg, hle, -⟩
    · simp [Builtin.append_, run_underlying Tryd.underlying25, sizeOf, typeInfo, hi, Builtin.lenOf, Builtin.firstCells, loadCells, loadCellsFrom]
    · simp [Builtin.append_, run_underlying Tryd.underlying25, sizeOf, typeInfo, hi, Builtin.lenOf, Builtin.firstCells, loadCells, loadCellsFrom, hle, storeCells]
    · simp [Builtin.append_, run_underlying Tryd.underlying25, sizeOf, typeInfo, hi, Builtin.lenOf, Builtin.firstCells, loadCells, loadCellsFrom]
    · simp [Builtin.append_, run_underlying Tryd.underlying25, sizeOf, typeInfo, hi, Builtin.lenOf, Builtin.firstCells, loadCells, loadCellsFrom, hle, storeCells]

/-- One int more, built on the way. -/
theorem pushY {w : World} {base : Nat} {v : Value} {xs : List Int} (h : Owns w base v xs) (hb : base ≤ w.heap.size) (hn : xs.length + 1 ≤ 8796093022208) (x : Int) :
    ∃ v' w1, (Builtin.append_ #[25, 25] 25 #[v, .slice (some ⟨w.heap.size, 0, none⟩) 1 1]).run Tryd.prog (w.alloc (.cells #[.int .i64 x] 3)) = .ok v' w1 ∧ Owns w1 base v' (xs ++ [x]) ∧ (w.alloc (.cells #[.int .i64 x] 3)).grownBy w1 v.ownBlock ∧ ∀ g, v'.ownBlock = some g → v.ownBlock = some g ∨ (w.alloc (.cells #[.int .i64 x] 3)).heap.size ≤ g := by
  obtain ⟨g, cap, w1, h1, h2, h3, h4⟩ := push1 h hb hn x
  refine ⟨_, w1, h1, h2, h3, fun g' e => ?_⟩
  cases e
  rcases h4 with h4 | h4
  · exact .inl h4
  · exact .inr (by rw [World.size_alloc]; show _ ≤ g; omega)

theorem pushM_run {w : World} {base : Nat} {v : Value} {R : List Row} (h : OwnsM w base v R) (hb : base ≤ w.heap.size) (hn : R.length + 1 ≤ 1073741824) (r : Row) :
    ∃ g cap w1, (Builtin.append_ #[22, 22] 22 #[v, .slice (some ⟨w.heap.size, 0, none⟩) 1 1]).run Tryd.prog (w.alloc (.cells #[rowV r] 25)) = .ok (.slice (some ⟨g, 0, none⟩) (R.length + 1) cap) w1 ∧
      OwnsM w1 base (.slice (some ⟨g, 0, none⟩) (R.length + 1) cap) (R ++ [r]) ∧ (w.alloc (.cells #[rowV r] 25)).grownBy w1 v.ownBlock ∧ (v.ownBlock = some g ∨ g = w.heap.size + 1) := by
  obtain ⟨i0, hi, hz0, hz1, hz2⟩ := info_parts Tryd.info25
  obtain ⟨g, cap, w1, h1, h2, h3, h4, -⟩ := run_append_lies (P := Tryd.prog) (w.alloc (.cells #[rowV r] 25)) 22 22 base 25 i0 (.slice none 0 0) 1 24 Tryd.underlying22 hi hz0 hz1 hz2 rfl (by decide)
    v R.length (R.map rowV) (h.alloc _) ⟨w.heap.size, 0, none⟩ 1 1 [rowV r] rfl (cell_one_new _ _ _) (by simp [rowV, Value.oneCell']) (by decide) (by unfold maxLen; omega) (by omega) (by simp; omega) (w.heap.size + 1) (by simp)
  refine ⟨g, cap, w1, h1, ?_, h3, h4⟩
  unfold OwnsM
  rw [List.map_append, List.length_append]
  exact h2

/-- The draft at D. Blocks of X are not its own. -/
structure Dr (n₀ D : Nat) (X : Nat → Prop) (W : World) (vl vc vm : Value) (R : List Row) (cur : List Int) (op : Bool) (mt : List Int) : Prop where
  blk : W.heap[D]? = some (.cells #[vl, vc, .bool op, vm] 42)
  hD : n₀ ≤ D
  l : OwnsM W n₀ vl R
  c : Owns W n₀ vc cur
  m : Owns W n₀ vm mt
  cm : ∀ g, vc.ownBlock = some g → vm.ownBlock ≠ some g
  rows : ∀ r, r ∈ R → Rok W r ∧ Off r vl ∧ Off r vc ∧ Off r vm
  rD : ∀ r, r ∈ R → ∀ a, r.q = some a → 0 < r.t.length → a.block ≠ D
  xs : ∀ b, X b → b < W.heap.size ∧ b ≠ D ∧ vl.ownBlock ≠ some b ∧ vc.ownBlock ≠ some b ∧ vm.ownBlock ≠ some b ∧ ∀ r, r ∈ R → ∀ a, r.q = some a → 0 < r.t.length → a.block ≠ b
  size : n₀ ≤ W.heap.size

variable {n₀ D : Nat} {X : Nat → Prop} {W W' W1 : World} {vl vc vm : Value} {R : List Row} {cur mt : List Int} {op : Bool}

theorem ne_of_none {v : Value} {row : Option Nat} (h : ∀ g, v.ownBlock = some g → row ≠ some g) : v.ownBlock = none ∨ v.ownBlock ≠ row := by
  cases hv : v.ownBlock with
  | none => exact .inl rfl
  | some g => exact .inr fun e => h g hv e.symm

/-- A step that turns a block of X, or one that is no cells, or none. -/
theorem Dr.kept {row : Option Nat} (h : Dr n₀ D X W vl vc vm R cur op mt) (hg : W.grownBy W' row) (hr : ∀ r, row = some r → X r ∨ ∃ o : Obj, W.heap[r]? = some o ∧ o.isCells = false) : Dr n₀ D X W' vl vc vm R cur op mt := by
  have key : ∀ b (o : Obj), W.heap[b]? = some o → o.isCells = true → (X b → False) → row ≠ some b := by
    intro b o hb ho hx e
    rcases hr b e with h1 | ⟨o', ho', hc⟩
    · exact hx h1
    · rw [hb] at ho'; cases ho'; rw [ho] at hc; cases hc
  have kc : ∀ g, vc.ownBlock = some g → row ≠ some g := fun g hv => by
    obtain ⟨-, cu, hh⟩ := owns_cells h.c hv
    exact key g _ hh rfl (fun hx => (h.xs g hx).2.2.2.1 hv)
  have km : ∀ g, vm.ownBlock = some g → row ≠ some g := fun g hv => by
    obtain ⟨-, cu, hh⟩ := owns_cells h.m hv
    exact key g _ hh rfl (fun hx => (h.xs g hx).2.2.2.2.1 hv)
  have kl : ∀ g, vl.ownBlock = some g → row ≠ some g := fun g hv => by
    obtain ⟨-, -, cu, hh⟩ := ownsM_cells h.l hv
    exact key g _ hh rfl (fun hx => (h.xs g hx).2.2.1 hv)
  refine ⟨?_, h.hD, h.l.kept hg (ne_of_none kl), h.c.kept hg (ne_of_none kc), h.m.kept hg (ne_of_none km), h.cm, fun r hr' => ?_, h.rD, fun b hb => ?_, Nat.le_trans h.size hg.size⟩
  · exact (hg.block D (Array.getElem?_eq_some_iff.1 h.blk).1 (fun e => key D _ h.blk rfl (fun hx => (h.xs D hx).2.1 rfl) e.symm)).trans h.blk
  · obtain ⟨⟨a1, a2, a3⟩, b1, b2, b3⟩ := h.rows r hr'
    refine ⟨⟨a1, a2, a3.kept hg (fun a e hl => ?_)⟩, b1, b2, b3⟩
    obtain ⟨b, o, e', hc⟩ := a3.at hl
    rw [e] at e'
    cases e'
    obtain ⟨ob, hob, hcl⟩ := cells_of_cell (hc 0 hl)
    exact key _ ob hob hcl (fun hx => (h.xs _ hx).2.2.2.2.2 r hr' _ e hl rfl)
  · obtain ⟨x1, x2⟩ := h.xs b hb
    exact ⟨Nat.lt_of_lt_of_le x1 hg.size, x2⟩
theorem Dr.grown (h : Dr n₀ D X W vl vc vm R cur op mt) (hg : W.grownBy W' none) : Dr n₀ D X W' vl vc vm R cur op mt := h.kept hg (fun r e => by cases e)

theorem set_row (W : World) (a : Addr) (v : Value) : W.grownBy (W.setCell a v) (some a.block) :=
  ⟨rfl, rfl, rfl, (KeepsOthers.setCell W a v).size, fun k _ hk => Below.heap_setCell W a v k (fun e => hk (by rw [e]))⟩
theorem Dr.setX (h : Dr n₀ D X W vl vc vm R cur op mt) {a : Addr} (ha : X a.block) (v : Value) : Dr n₀ D X (W.setCell a v) vl vc vm R cur op mt :=
  h.kept (set_row W a v) (fun r e => by cases e; exact .inl ha)
/-- One block more that is not the draft's. -/
theorem Dr.new (h : Dr n₀ D X W vl vc vm R cur op mt) (o : Obj) : Dr n₀ D (more X W.heap.size) (W.alloc o) vl vc vm R cur op mt := by
  have g := h.grown (grown_new W o)
  refine ⟨g.blk, g.hD, g.l, g.c, g.m, g.cm, g.rows, g.rD, fun b hb => ?_, g.size⟩
  rcases hb with hb | rfl
  · exact g.xs b hb
  · have lt1 := (Array.getElem?_eq_some_iff.1 h.blk).1
    refine ⟨by simp, by omega, fun e => ?_, fun e => ?_, fun e => ?_, fun r hr a e hl ee => ?_⟩
    · have := (ownsM_cells h.l e).2.1; omega
    · have := owns_lt h.c e; omega
    · have := owns_lt h.m e; omega
    · have := (h.rows r hr).1.2.2.lt a e hl; omega
theorem Dr.less {Y : Nat → Prop} (h : Dr n₀ D X W vl vc vm R cur op mt) (hY : ∀ b, Y b → X b) : Dr n₀ D Y W vl vc vm R cur op mt :=
  ⟨h.blk, h.hD, h.l, h.c, h.m, h.cm, h.rows, h.rD, fun b hb => h.xs b (hY b hb), h.size⟩

theorem setCell_blk {W : World} {g : Nat} {cs : Array Value} {t : TypeId} {f : Nat × Nat} (h : W.heap[g]? = some (.cells cs t f)) (i : Nat) (v : Value) : (W.setCell ⟨g, i, none⟩ v).heap[g]? = some (.cells (cs.setIfInBounds i v) t f) := by
  simp [World.setCell, Array.getElem?_modify, h]

theorem not_own42 {b : Nat} (hb : W.heap[b]? = some (.cells #[vl, vc, .bool op, vm] 42)) : (∀ {base : Nat} {v : Value} {t : List Int}, Owns W base v t → v.ownBlock = none ∨ v.ownBlock ≠ some b) ∧ (∀ {base : Nat} {v : Value} {R : List Row}, OwnsM W base v R → v.ownBlock = none ∨ v.ownBlock ≠ some b) := by
  constructor
  · intro base v t h
    refine ne_of_none fun g hg e => ?_
    cases e
    obtain ⟨-, cu, hh⟩ := owns_cells h hg
    rw [hb] at hh; cases hh
  · intro base v R h
    refine ne_of_none fun g hg e => ?_
    cases e
    obtain ⟨-, -, cu, hh⟩ := ownsM_cells h hg
    rw [hb] at hh; cases hh

/-- One field of the draft is set: what else lies as it lay. -/
theorem field_kept {cs : Array Value} (hb : W.heap[D]? = some (.cells cs 42)) (i : Nat) (v : Value) :
    (∀ {base : Nat} {u : Value} {t : List Int}, Owns W base u t → Owns (W.setCell ⟨D, i, none⟩ v) base u t) ∧ (∀ {base : Nat} {u : Value} {R : List Row}, OwnsM W base u R → OwnsM (W.setCell ⟨D, i, none⟩ v) base u R) ∧
    (∀ r : Row, Rok W r → (∀ a, r.q = some a → 0 < r.t.length → a.block ≠ D) → Rok (W.setCell ⟨D, i, none⟩ v) r) := by
  have hg := set_row W ⟨D, i, none⟩ v
  refine ⟨fun h => ?_, fun h => ?_, fun r h hn => ⟨h.1, h.2.1, h.2.2.kept hg (fun a e hl ee => hn a e hl (by cases ee; rfl))⟩⟩
  · refine h.kept hg (ne_of_none fun g hv e => ?_)
    cases e
    obtain ⟨-, cu, hh⟩ := owns_cells h hv
    rw [hb] at hh; cases hh
  · refine h.kept hg (ne_of_none fun g hv e => ?_)
    cases e
    obtain ⟨-, -, cu, hh⟩ := ownsM_cells h hv
    rw [hb] at hh; cases hh

theorem off_new {r : Row} {v v' : Value} (hI : Is W r.q r.t) (h : Off r v) (hl : ∀ g, v'.ownBlock = some g → v.ownBlock = some g ∨ W.heap.size ≤ g) : Off r v' := by
  intro a e h0 ee
  rcases hl _ ee with h1 | h1
  · exact h a e h0 h1
  · have := hI.lt a e h0; omega

theorem Dr.setLine {v' : Value} {cur' : List Int} (h : Dr n₀ D X W vl vc vm R cur op mt) (hg : W.grownBy W1 vc.ownBlock) (ho : Owns W1 n₀ v' cur') (hl : ∀ g, v'.ownBlock = some g → vc.ownBlock = some g ∨ W.heap.size ≤ g) :
    Dr n₀ D X (W1.setCell ⟨D, 1, none⟩ v') vl v' vm R cur' op mt := by
  have nD : some D ≠ vc.ownBlock := fun e => ((not_own42 h.blk).1 h.c).elim (fun k => by rw [k] at e; cases e) (fun k => k e.symm)
  have b1 : W1.heap[D]? = some (.cells #[vl, vc, .bool op, vm] 42) := (hg.block D (Array.getElem?_eq_some_iff.1 h.blk).1 nD).trans h.blk
  have l1 : OwnsM W1 n₀ vl R := h.l.kept hg (owns_apart' h.c h.l)
  have m1 : Owns W1 n₀ vm mt := h.m.kept hg (ne_of_none fun g hv e => h.cm g e hv)
  obtain ⟨k1, k2, k3⟩ := field_kept b1 1 v'
  refine ⟨?_, h.hD, k2 l1, k1 ho, k1 m1, fun g hv hm => ?_, fun r hr => ?_, h.rD, fun b hb => ?_, ?_⟩
  · exact setCell_blk b1 1 v'
  · rcases hl g hv with h1 | h1
    · exact h.cm g h1 hm
    · have := owns_lt h.m hm; omega
  · obtain ⟨⟨a1, a2, a3⟩, o1, o2, o3⟩ := h.rows r hr
    exact ⟨k3 r ⟨a1, a2, a3.kept hg (fun a e hl => o2 a e hl)⟩ (h.rD r hr), o1, off_new a3 o2 hl, o3⟩
  · obtain ⟨x1, x2, x3, x4, x5, x6⟩ := h.xs b hb
    refine ⟨Nat.lt_of_lt_of_le x1 (Nat.le_trans hg.size (set_row W1 ⟨D, 1, none⟩ v').size), x2, x3, fun e => ?_, x5, x6⟩
    rcases hl b e with h1 | h1
    · exact x4 h1
    · omega
  · exact Nat.le_trans h.size (Nat.le_trans hg.size (set_row W1 ⟨D, 1, none⟩ v').size)

theorem Dr.setMeant {v' : Value} {mt' : List Int} (h : Dr n₀ D X W vl vc vm R cur op mt) (hg : W.grownBy W1 vm.ownBlock) (ho : Owns W1 n₀ v' mt') (hl : ∀ g, v'.ownBlock = some g → vm.ownBlock = some g ∨ W.heap.size ≤ g) :
    Dr n₀ D X (W1.setCell ⟨D, 3, none⟩ v') vl vc v' R cur op mt' := by
  have nD : some D ≠ vm.ownBlock := fun e => ((not_own42 h.blk).1 h.m).elim (fun k => by rw [k] at e; cases e) (fun k => k e.symm)
  have b1 : W1.heap[D]? = some (.cells #[vl, vc, .bool op, vm] 42) := (hg.block D (Array.getElem?_eq_some_iff.1 h.blk).1 nD).trans h.blk
  have l1 : OwnsM W1 n₀ vl R := h.l.kept hg (owns_apart' h.m h.l)
  have m1 : Owns W1 n₀ vc cur := h.c.kept hg (ne_of_none fun g hv e => h.cm g hv e)
  obtain ⟨k1, k2, k3⟩ := field_kept b1 3 v'
  refine ⟨?_, h.hD, k2 l1, k1 m1, k1 ho, fun g hv hm => ?_, fun r hr => ?_, h.rD, fun b hb => ?_, ?_⟩
  · exact setCell_blk b1 3 v'
  · rcases hl g hm with h1 | h1
    · exact h.cm g hv h1
    · have := owns_lt h.c hv; omega
  · obtain ⟨⟨a1, a2, a3⟩, o1, o2, o3⟩ := h.rows r hr
    exact ⟨k3 r ⟨a1, a2, a3.kept hg (fun a e hl => o3 a e hl)⟩ (h.rD r hr), o1, o2, off_new a3 o3 hl⟩
  · obtain ⟨x1, x2, x3, x4, x5, x6⟩ := h.xs b hb
    refine ⟨Nat.lt_of_lt_of_le x1 (Nat.le_trans hg.size (set_row W1 ⟨D, 3, none⟩ v').size), x2, x3, x4, fun e => ?_, x6⟩
    rcases hl b e with h1 | h1
    · exact x5 h1
    · omega
  · exact Nat.le_trans h.size (Nat.le_trans hg.size (set_row W1 ⟨D, 3, none⟩ v').size)

theorem Dr.setOpen (h : Dr n₀ D X W vl vc vm R cur op mt) (o : Bool) : Dr n₀ D X (W.setCell ⟨D, 2, none⟩ (.bool o)) vl vc vm R cur o mt := by
  obtain ⟨k1, k2, k3⟩ := field_kept h.blk 2 (.bool o)
  refine ⟨setCell_blk h.blk 2 _, h.hD, k2 h.l, k1 h.c, k1 h.m, h.cm, fun r hr => ?_, h.rD, fun b hb => ?_, ?_⟩
  · obtain ⟨a, o1, o2, o3⟩ := h.rows r hr
    exact ⟨k3 r a (h.rD r hr), o1, o2, o3⟩
  · obtain ⟨x1, x2⟩ := h.xs b hb
    exact ⟨Nat.lt_of_lt_of_le x1 (set_row W ⟨D, 2, none⟩ (.bool o)).size, x2⟩
  · exact Nat.le_trans h.size (set_row W ⟨D, 2, none⟩ (.bool o)).size

/-- The line becomes one of the lines, and a new one begins. -/
theorem Dr.pushRow {vl' : Value} {q : Option Addr} {k : Nat} (h : Dr n₀ D X W vl (.slice q cur.length k) vm R cur op mt) (hg : W.grownBy W1 vl.ownBlock) (ho : OwnsM W1 n₀ vl' (R ++ [⟨q, cur, k⟩])) (hl : ∀ g, vl'.ownBlock = some g → vl.ownBlock = some g ∨ W.heap.size ≤ g) :
    Dr n₀ D X ((W1.setCell ⟨D, 0, none⟩ vl').setCell ⟨D, 1, none⟩ (.slice none 0 0)) vl' (.slice none 0 0) vm (R ++ [⟨q, cur, k⟩]) [] op mt := by
  have nD : some D ≠ vl.ownBlock := fun e => ((not_own42 h.blk).2 h.l).elim (fun k => by rw [k] at e; cases e) (fun k => k e.symm)
  have b1 : W1.heap[D]? = some (.cells #[vl, .slice q cur.length k, .bool op, vm] 42) := (hg.block D (Array.getElem?_eq_some_iff.1 h.blk).1 nD).trans h.blk
  have m1 : Owns W1 n₀ vm mt := h.m.kept hg (owns_apart h.m h.l)
  have c1 : Owns W1 n₀ (.slice q cur.length k) cur := h.c.kept hg (owns_apart h.c h.l)
  have b2 := setCell_blk b1 0 vl'
  obtain ⟨k1, k2, k3⟩ := field_kept b1 0 vl'
  obtain ⟨j1, j2, j3⟩ := field_kept b2 1 (.slice none 0 0)
  obtain ⟨i1, i2, i3, i4⟩ := is_of_row h.c
  have own : ∀ a, q = some a → 0 < cur.length → (Value.slice q cur.length k).ownBlock = some a.block := by
    intro a e hl
    rcases h.c.2 with ⟨ev, e0⟩ | ⟨g, cap, cu, ev, -⟩
    · rw [e] at ev; cases ev
    · rw [e] at ev ⊢; cases ev; rfl
  have rowq : Rok W ⟨q, cur, k⟩ ∧ Off ⟨q, cur, k⟩ vl ∧ Off ⟨q, cur, k⟩ vm := by
    refine ⟨⟨i3, i4, i1⟩, fun a e hl ee => ?_, fun a e hl ee => ?_⟩
    · rcases owns_apart h.c h.l with h1 | h1
      · rw [own a e hl] at h1; cases h1
      · exact h1 ((own a e hl).trans ee.symm)
    · exact h.cm _ (own a e hl) ee
  refine ⟨setCell_blk b2 1 _, h.hD, j2 (k2 ho), World.ownsRow_nil _ _ 3 1, j1 (k1 m1), (fun g e => by cases e), fun r hr => ?_, fun r hr a e hl => ?_, fun b hb => ?_, ?_⟩
  · have hrD : ∀ a, r.q = some a → 0 < r.t.length → a.block ≠ D := fun a e hl => by
      rcases List.mem_append.1 hr with hr | hr
      · exact h.rD r hr a e hl
      · obtain rfl : r = ⟨q, cur, k⟩ := by simpa using hr
        intro ee
        have := own a e hl
        rw [ee] at this
        exact ((not_own42 h.blk).1 h.c).elim (fun k => by rw [k] at this; cases this) (fun k => k this)
    have hh : Rok W r ∧ Off r vl ∧ Off r vm := by
      rcases List.mem_append.1 hr with hr | hr
      · obtain ⟨a, o1, o2, o3⟩ := h.rows r hr; exact ⟨a, o1, o3⟩
      · obtain rfl : r = ⟨q, cur, k⟩ := by simpa using hr
        exact rowq
    obtain ⟨⟨a1, a2, a3⟩, o1, o3⟩ := hh
    exact ⟨j3 r (k3 r ⟨a1, a2, a3.kept hg (fun a e hl => o1 a e hl)⟩ hrD) hrD, off_new a3 o1 hl, fun a e hl => by simp [Value.ownBlock], o3⟩
  · rcases List.mem_append.1 hr with hr | hr
    · exact h.rD r hr a e hl
    · obtain rfl : r = ⟨q, cur, k⟩ := by simpa using hr
      intro ee
      have := own a e hl
      rw [ee] at this
      exact ((not_own42 h.blk).1 h.c).elim (fun k => by rw [k] at this; cases this) (fun k => k this)
  · obtain ⟨x1, x2, x3, x4, x5, x6⟩ := h.xs b hb
    refine ⟨Nat.lt_of_lt_of_le x1 (Nat.le_trans hg.size (Nat.le_trans (set_row W1 ⟨D, 0, none⟩ vl').size (set_row _ ⟨D, 1, none⟩ _).size)), x2, fun e => ?_, (by simp [Value.ownBlock]), x5, fun r hr a e hl => ?_⟩
    · rcases hl b e with h1 | h1
      · exact x3 h1
      · omega
    · rcases List.mem_append.1 hr with hr | hr
      · exact x6 r hr a e hl
      · obtain rfl : r = ⟨q, cur, k⟩ := by simpa using hr
        intro ee
        exact x4 ((own a e hl).trans (by rw [ee]))
  · exact Nat.le_trans h.size (Nat.le_trans hg.size (Nat.le_trans (set_row W1 ⟨D, 0, none⟩ vl').size (set_row _ ⟨D, 1, none⟩ _).size))
end Go.Proofs.YtpiefdpcinjkpaaDoor
