/- add's steps: an append and a store whose run is known; what a round keeps; the draft's state in plain terms. -/
import Derived.Test.YtpiefdpcinjkpaaDoorDrf
set_option linter.unusedVariables false
set_option linter.unusedSimpArgs false
namespace Go.Proofs.YtpiefdpcinjkpaaDoor
open Go.RowKit Go.Shelf

theorem append_in {F : Fence} {n : Nat} {P : Program} {w w' : World} {o : Oper} {a : Act} {K : Act → World → Prop} {Q : Exit → Act → World → Prop} (s x : Operand) (t : TypeId)
    (ho : o.op = .call { callee := .builtin .append, args := #[s, x], argTypes := #[t, t] }) {u y v : Value} (hs : a.eval s = u) (hx : a.eval x = y)
    (hrun : (Builtin.append_ #[t, t] o.type #[u, y]).run P w = .ok v w') (h : K (a.put o.dst v) w') : Oper.wpIn F n P o a w K Q := by
  unfold Oper.wpIn
  refine ⟨?_, ?_⟩
  · simp [Oper.about, ho, resolve, Target.leads, Sem.run_pure]
  · rw [Oper.semAt_plain F _ _ (by rw [ho]; intro c hc'; cases hc')]
    simp [execOp, ho, resolve, invoke, builtin, hs, hx, hrun, Result.andThen]
    exact h

theorem store_in {F : Fence} {n : Nat} {w : World} {o : Oper} {a : Act} {K : Act → World → Prop} {Q : Exit → Act → World → Prop} {x y : Operand} (t : TypeId) (ht : (Tryd.prog.info? t).map (·.size) = some 1) (ho : o.op = .store t x y) {g i : Nat} {v : Value} {c0 : Value}
    (hx : a.eval x = .pointer (some ⟨g, i, none⟩)) {p : Option Addr} {k l : Nat} (hv : v = .slice p k l) (hy : a.eval y = v) (r0 : w.cell? ⟨g, i, none⟩ = some c0) (f0 : w.frozen? ⟨g, i, none⟩ = false)
    (h : K (a.put o.dst undef) (w.setCell ⟨g, i, none⟩ v)) : Oper.wpIn F n Tryd.prog o a w K Q := by
  subst hv
  unfold Oper.wpIn
  refine ⟨?_, ?_⟩
  · simp [Oper.about, ho]
  · rw [Oper.semAt_plain F _ _ (by rw [ho]; intro c hc'; cases hc')]
    have e0 : execOp a.eval o = (Instr.storeAt t (a.eval x) (a.eval y) >>= fun _ => pure .skip) := by
      unfold execOp
      simp only [ho]
    have : (execOp a.eval o).run Tryd.prog w = .ok .skip (w.setCell ⟨g, i, none⟩ (.slice p k l)) := by
      rw [e0, hx, hy]
      cases hq : Tryd.prog.info? t with
      | none => simp [hq] at ht
      | some info =>
        have hs : info.size = 1 := by simpa [hq] using ht
        simp [Instr.storeAt, Instr.sureAddr, storeVar, sizeOf, typeInfo, hq, hs, Value.cells, storeCells, go_sem, r0, f0]
    rw [this]
    simp only [Oper.uponIn]
    exact h

theorem dr_cell {W : World} {D : Nat} {vl vc vm : Value} {op : Bool} (h : W.heap[D]? = some (.cells #[vl, vc, .bool op, vm] 42)) :
    W.cell? ⟨D, 0, none⟩ = some vl ∧ W.cell? ⟨D, 1, none⟩ = some vc ∧ W.cell? ⟨D, 2, none⟩ = some (.bool op) ∧ W.cell? ⟨D, 3, none⟩ = some vm ∧
    W.frozen? ⟨D, 0, none⟩ = false ∧ W.frozen? ⟨D, 1, none⟩ = false ∧ W.frozen? ⟨D, 2, none⟩ = false ∧ W.frozen? ⟨D, 3, none⟩ = false := by
  refine ⟨?_, ?_, ?_, ?_, ?_, ?_, ?_, ?_⟩ <;> simp [World.cell?, World.frozen?, h]

/-- What a round of add's loop keeps. -/
structure Kb (n₀ B1 B2 : Nat) (A B : World) : Prop where
  e : Ke n₀ B1 B2 A B
  o : KeepsOthers A B
theorem Kb.trans {n₀ B1 B2 : Nat} {A B C : World} (h : Kb n₀ B1 B2 A B) (k : Kb n₀ B1 B2 B C) : Kb n₀ B1 B2 A C := ⟨h.e.trans k.e, h.o.trans k.o⟩
theorem Kb.step {n₀ B1 B2 : Nat} {A B : World} {row : Option Nat} (hg : A.grownBy B row) (hn : n₀ ≤ A.heap.size) (h1 : B1 < A.heap.size) (h2 : B2 < A.heap.size)
    (h : ∀ r, row = some r → n₀ ≤ r ∧ r ≠ B1 ∧ r ≠ B2 ∧ ∃ cs t f, A.heap[r]? = some (.cells cs t f) ∧ t ≠ 60) : Kb n₀ B1 B2 A B := by
  refine ⟨⟨(Below.refl _ A).grown hg hn (fun k e => (h k e).1), hg.block B1 h1 (fun e => (h B1 e.symm).2.1 rfl), hg.block B2 h2 (fun e => (h B2 e.symm).2.2.1 rfl), fun k cs f hk => ?_⟩, KeepsOthers.of_grownBy hg (fun j o e hj => ?_)⟩
  · refine (hg.block k (Array.getElem?_eq_some_iff.1 hk).1 (fun e => ?_)).trans hk
    obtain ⟨-, -, -, cs', t, f', h3, h4⟩ := h k e.symm
    rw [hk] at h3; cases h3; exact h4 rfl
  · obtain ⟨-, -, -, cs', t, f', h3, h4⟩ := h j e
    rw [hj] at h3; cases h3; rfl
theorem Kb.grown {n₀ B1 B2 : Nat} {A B : World} (hg : A.grownBy B none) (hn : n₀ ≤ A.heap.size) (h1 : B1 < A.heap.size) (h2 : B2 < A.heap.size) : Kb n₀ B1 B2 A B := Kb.step hg hn h1 h2 (fun r e => by cases e)

section
variable {n₀ D B1 B2 : Nat} {X : Nat → Prop} {W W1 : World} {vl vc vm : Value} {R : List Row} {cur mt : List Int} {op : Bool}
theorem Dr.kbLine (h : Dr n₀ D X W vl vc vm R cur op mt) (x1 : X B1) (x2 : X B2) (hg : W.grownBy W1 vc.ownBlock) : Kb n₀ B1 B2 W W1 :=
  Kb.step hg h.size (h.xs B1 x1).1 (h.xs B2 x2).1 (fun r e => by
    obtain ⟨h1, cu, h2⟩ := owns_cells h.c e
    exact ⟨h1, fun ee => (h.xs B1 x1).2.2.2.1 (ee ▸ e), fun ee => (h.xs B2 x2).2.2.2.1 (ee ▸ e), cu, 3, _, h2, by decide⟩)
theorem Dr.kbMeant (h : Dr n₀ D X W vl vc vm R cur op mt) (x1 : X B1) (x2 : X B2) (hg : W.grownBy W1 vm.ownBlock) : Kb n₀ B1 B2 W W1 :=
  Kb.step hg h.size (h.xs B1 x1).1 (h.xs B2 x2).1 (fun r e => by
    obtain ⟨h1, cu, h2⟩ := owns_cells h.m e
    exact ⟨h1, fun ee => (h.xs B1 x1).2.2.2.2.1 (ee ▸ e), fun ee => (h.xs B2 x2).2.2.2.2.1 (ee ▸ e), cu, 3, _, h2, by decide⟩)
theorem Dr.kbD {cs : Array Value} (h : Dr n₀ D X W vl vc vm R cur op mt) (x1 : X B1) (x2 : X B2) (W1 : World) (hs : W.heap.size ≤ W1.heap.size) (hb : W1.heap[D]? = some (.cells cs 42)) (i : Nat) (v : Value) : Kb n₀ B1 B2 W1 (W1.setCell ⟨D, i, none⟩ v) :=
  Kb.step (set_row W1 ⟨D, i, none⟩ v) (Nat.le_trans h.size hs) (Nat.lt_of_lt_of_le (h.xs B1 x1).1 hs) (Nat.lt_of_lt_of_le (h.xs B2 x2).1 hs) (fun r e => by
    cases e
    exact ⟨h.hD, fun ee => (h.xs B1 x1).2.1 ee.symm, fun ee => (h.xs B2 x2).2.1 ee.symm, cs, 42, _, hb, by decide⟩)
/-- A box that is not the draft's lies as it lay. -/
theorem Dr.boxLine (h : Dr n₀ D X W vl vc vm R cur op mt) (hg : W.grownBy W1 vc.ownBlock) {b : Nat} (hb : X b) {t : TypeId} {v : Value} (hv : Boxed W b t v) : Boxed W1 b t v :=
  hv.kept hg (fun e => (h.xs b hb).2.2.2.1 e.symm)
theorem Dr.boxMeant (h : Dr n₀ D X W vl vc vm R cur op mt) (hg : W.grownBy W1 vm.ownBlock) {b : Nat} (hb : X b) {t : TypeId} {v : Value} (hv : Boxed W b t v) : Boxed W1 b t v :=
  hv.kept hg (fun e => (h.xs b hb).2.2.2.2.1 e.symm)
theorem Dr.boxL (h : Dr n₀ D X W vl vc vm R cur op mt) (hg : W.grownBy W1 vl.ownBlock) {b : Nat} (hb : X b) {t : TypeId} {v : Value} (hv : Boxed W b t v) : Boxed W1 b t v :=
  hv.kept hg (fun e => (h.xs b hb).2.2.1 e.symm)
theorem Dr.boxD (h : Dr n₀ D X W vl vc vm R cur op mt) {W1 : World} (i : Nat) (v : Value) {b : Nat} (hb : X b) {t : TypeId} {u : Value} (hv : Boxed W1 b t u) : Boxed (W1.setCell ⟨D, i, none⟩ v) b t u :=
  hv.kept (set_row W1 ⟨D, i, none⟩ v) (fun e => (h.xs b hb).2.1 (by cases e; rfl))
theorem Dr.blkLine (h : Dr n₀ D X W vl vc vm R cur op mt) (hg : W.grownBy W1 vc.ownBlock) : W1.heap[D]? = some (.cells #[vl, vc, .bool op, vm] 42) :=
  (hg.block D (Array.getElem?_eq_some_iff.1 h.blk).1 (fun e => ((not_own42 h.blk).1 h.c).elim (fun k => by rw [k] at e; cases e) (fun k => k e.symm))).trans h.blk
theorem Dr.blkMeant (h : Dr n₀ D X W vl vc vm R cur op mt) (hg : W.grownBy W1 vm.ownBlock) : W1.heap[D]? = some (.cells #[vl, vc, .bool op, vm] 42) :=
  (hg.block D (Array.getElem?_eq_some_iff.1 h.blk).1 (fun e => ((not_own42 h.blk).1 h.m).elim (fun k => by rw [k] at e; cases e) (fun k => k e.symm))).trans h.blk
theorem Dr.blkL (h : Dr n₀ D X W vl vc vm R cur op mt) (hg : W.grownBy W1 vl.ownBlock) : W1.heap[D]? = some (.cells #[vl, vc, .bool op, vm] 42) :=
  (hg.block D (Array.getElem?_eq_some_iff.1 h.blk).1 (fun e => ((not_own42 h.blk).2 h.l).elim (fun k => by rw [k] at e; cases e) (fun k => k e.symm))).trans h.blk
end

/-- The draft behind some escapes of a line: the line so far, what its escapes stand for, whether it goes on, from where on the line is still to be taken. -/
structure Ds where
  line : List Int
  meant : List Int
  opn : Bool
  frm : Nat
def dstep (t : List Int) (s : Ds) (x : Nat × Esc) : Ds := ⟨s.line ++ (t.drop s.frm).take (x.1 - s.frm) ++ [92], s.meant ++ [x.2.point], x.2.point == -1, x.1 + x.2.size⟩
def dsAt (t cur mt : List Int) (es : List (Nat × Esc)) : Nat → Ds
  | 0 => ⟨cur, mt, false, 0⟩
  | i + 1 => match es[i]? with
    | some x => dstep t (dsAt t cur mt es i) x
    | none => dsAt t cur mt es i
theorem dsAt_succ {t cur mt : List Int} {es : List (Nat × Esc)} {i : Nat} {x : Nat × Esc} (h : es[i]? = some x) : dsAt t cur mt es (i + 1) = dstep t (dsAt t cur mt es i) x := by rw [dsAt, h]
def faultOf (es : List (Nat × Esc)) : Nat := ((es.find? fun x => decide (x.2.fault ≠ 0)).map (·.2.fault)).getD 0
theorem faultOf_at {es : List (Nat × Esc)} {i : Nat} {x : Nat × Esc} (h : es[i]? = some x) (hx : x.2.fault ≠ 0) (hb : ∀ j y, j < i → es[j]? = some y → y.2.fault = 0) : faultOf es = x.2.fault := by
  unfold faultOf
  have : es.find? (fun x => decide (x.2.fault ≠ 0)) = some x := by
    rw [List.find?_eq_some_iff_getElem]
    obtain ⟨hi, rfl⟩ := List.getElem?_eq_some_iff.1 h
    refine ⟨by simpa using hx, i, hi, rfl, fun j hj => ?_⟩
    simpa using hb j es[j] hj (List.getElem?_eq_getElem (by omega))
  rw [this]; rfl
theorem faultOf_none {es : List (Nat × Esc)} (hb : ∀ j y, j < es.length → es[j]? = some y → y.2.fault = 0) : faultOf es = 0 := by
  unfold faultOf
  have : es.find? (fun x => decide (x.2.fault ≠ 0)) = none := by
    rw [List.find?_eq_none]
    intro x hx
    obtain ⟨j, hj⟩ := List.mem_iff_getElem?.1 hx
    simpa using hb j x (List.getElem?_eq_some_iff.1 hj).1 hj
  rw [this]; rfl

/-- Each escape stands behind the one before, and within the line. -/
theorem esP_at (last : Bool) : ∀ (l : List Int) (p k : Nat), ∀ x ∈ esP last p k l, p + k ≤ x.1 ∧ x.1 < p + l.length ∧ (x.2.fault = 0 → 1 ≤ x.2.size ∧ x.1 + x.2.size ≤ p + l.length)
  | [], p, k, x, hx => by simp [esP] at hx
  | c :: r, p, k + 1, x, hx => by
    rw [esP] at hx
    have := esP_at last r (p + 1) k x hx
    rw [List.length_cons]
    refine ⟨by omega, by omega, fun h => ?_⟩
    have := this.2.2 h
    omega
  | c :: r, p, 0, x, hx => by
    rw [esP] at hx
    rw [List.length_cons]
    split at hx
    · rcases List.mem_cons.1 hx with rfl | hx
      · refine ⟨by show p + 0 ≤ p; omega, by show p < _; omega, fun h => ?_⟩
        have := firstP_size r last h
        refine ⟨this.1, ?_⟩
        show p + (firstP r last).size ≤ _
        omega
      · split at hx
        · have := esP_at last r (p + 1) _ x hx
          refine ⟨by omega, by omega, fun h => ?_⟩
          have := this.2.2 h
          omega
        · simp at hx
    · have := esP_at last r (p + 1) 0 x hx
      refine ⟨by omega, by omega, fun h => ?_⟩
      have := this.2.2 h
      omega
theorem esP_next (last : Bool) : ∀ (l : List Int) (p k i : Nat) (x y : Nat × Esc), (esP last p k l)[i]? = some x → (esP last p k l)[i + 1]? = some y → x.2.fault = 0 ∧ x.1 + x.2.size ≤ y.1
  | [], p, k, i, x, y, hx, _ => by simp [esP] at hx
  | c :: r, p, k + 1, i, x, y, hx, hy => by
    rw [esP] at hx hy
    exact esP_next last r (p + 1) k i x y hx hy
  | c :: r, p, 0, i, x, y, hx, hy => by
    rw [esP] at hx hy
    split at hx
    · rename_i hc
      rw [if_pos hc] at hy
      rw [List.getElem?_cons_succ] at hy
      split at hy
      · rename_i hf
        cases i with
        | zero =>
          rw [List.getElem?_cons_zero] at hx
          cases hx
          have hm := List.mem_of_getElem? hy
          have := esP_at last r (p + 1) _ y hm
          have h1 := firstP_size r last hf
          refine ⟨hf, ?_⟩
          show p + (firstP r last).size ≤ y.1
          omega
        | succ i =>
          rw [List.getElem?_cons_succ, if_pos hf] at hx
          exact esP_next last r (p + 1) _ i x y hx hy
      · simp at hy
    · rename_i hc
      rw [if_neg hc] at hy
      exact esP_next last r (p + 1) 0 i x y hx hy

/-- Where the draft stands at each escape. -/
theorem ds_ok (last : Bool) (t cur mt : List Int) : ∀ (i : Nat), i ≤ (esP last 0 0 t).length → (∀ j y, j < i → (esP last 0 0 t)[j]? = some y → y.2.fault = 0) →
    (dsAt t cur mt (esP last 0 0 t) i).frm ≤ t.length ∧ (dsAt t cur mt (esP last 0 0 t) i).line.length ≤ cur.length + (dsAt t cur mt (esP last 0 0 t) i).frm ∧ (dsAt t cur mt (esP last 0 0 t) i).meant.length ≤ mt.length + (dsAt t cur mt (esP last 0 0 t) i).frm ∧
    ∀ x, (esP last 0 0 t)[i]? = some x → (dsAt t cur mt (esP last 0 0 t) i).frm ≤ x.1 ∧ x.1 < t.length
  | 0, _, _ => by
    refine ⟨by simp [dsAt], by simp [dsAt], by simp [dsAt], fun x hx => ⟨by simp [dsAt], ?_⟩⟩
    have := esP_at last t 0 0 x (List.mem_of_getElem? hx)
    omega
  | i + 1, hi, hb => by
    obtain ⟨h1, h2, h3, h4⟩ := ds_ok last t cur mt i (by omega) (fun j y hj => hb j y (by omega))
    obtain ⟨x, hx⟩ : ∃ x, (esP last 0 0 t)[i]? = some x := ⟨_, List.getElem?_eq_getElem (by omega)⟩
    have hf := hb i x (by omega) hx
    have ha := esP_at last t 0 0 x (List.mem_of_getElem? hx)
    have hs := ha.2.2 hf
    have h5 := h4 x hx
    rw [dsAt_succ hx]
    refine ⟨by show x.1 + x.2.size ≤ _; omega, ?_, ?_, fun y hy => ?_⟩
    · show (_ ++ _ ++ [92]).length ≤ cur.length + (x.1 + x.2.size)
      rw [List.length_append, List.length_append, List.length_take, List.length_drop, List.length_singleton]
      omega
    · show (_ ++ [x.2.point]).length ≤ mt.length + (x.1 + x.2.size)
      rw [List.length_append, List.length_singleton]
      omega
    · have := esP_next last t 0 0 i x y hx hy
      have hb2 := esP_at last t 0 0 y (List.mem_of_getElem? hy)
      exact ⟨by show x.1 + x.2.size ≤ _; omega, by omega⟩

theorem slice_mid (p : Option Addr) (len cap f a : Nat) (hf : f ≤ a) (ha : a ≤ cap) (w2 : World) :
    (Instr.slice 25 (.slice p len cap) (some (.int .i64 f)) (some (.int .i64 a)) none).run Tryd.prog w2 = .ok (.slice (if cap = f then p else p.map (·.add f)) (a - f) (cap - f)) w2 := by
  have h0 : (f : Int) ≤ a := by omega
  have h1 : (a : Int) ≤ cap := by omega
  have u := Tryd.underlying25
  have z := Tryd.sizeOf3
  simp [go_sem, h0, h1]

/-- The world in which add's loop begins. -/
def wA (w : World) (D : Nat) (q : Option Addr) (len c : Nat) (last : Bool) : World :=
  ((((((w.alloc (.cells #[.pointer (some ⟨D, 0, none⟩)] 55)).alloc (.cells #[.slice q len c] 25)).alloc (.cells #[.int .i64 0] 26)).setCell ⟨D, 2, none⟩ (.bool false)).alloc (.cells #[.int .i64 0] 3)).alloc (.cells #[.slice q len c] 25)).alloc (.cells #[.bool last] 4)
def xA (X : Nat → Prop) (s : Nat) : Nat → Prop := more (more (more (more (more (more X s) (s + 1)) (s + 1 + 1)) (s + 1 + 1 + 1)) (s + 1 + 1 + 1 + 1)) (s + 1 + 1 + 1 + 1 + 1)

theorem size_set (W : World) (a : Addr) (v : Value) : (W.setCell a v).heap.size = W.heap.size := by simp [World.setCell]

theorem wA_facts {n₀ D : Nat} {X : Nat → Prop} {w : World} {vl vc vm : Value} {R : List Row} {cur mt : List Int} {op : Bool} (hd : Dr n₀ D X w vl vc vm R cur op mt) (q : Option Addr) (len c : Nat) (last : Bool) :
    (wA w D q len c last).heap.size = w.heap.size + 6 ∧ Dr n₀ D (xA X w.heap.size) (wA w D q len c last) vl vc vm R cur false mt ∧ Boxed (wA w D q len c last) w.heap.size 55 (.pointer (some ⟨D, 0, none⟩)) ∧ Boxed (wA w D q len c last) (w.heap.size + 1) 25 (.slice q len c) ∧
    Boxed (wA w D q len c last) (w.heap.size + 1 + 1) 26 (.int .i64 0) ∧ Boxed (wA w D q len c last) (w.heap.size + 1 + 1 + 1) 3 (.int .i64 0) ∧ Boxed (wA w D q len c last) (w.heap.size + 1 + 1 + 1 + 1) 25 (.slice q len c) ∧ Boxed (wA w D q len c last) (w.heap.size + 1 + 1 + 1 + 1 + 1) 4 (.bool last) ∧ Below n₀ w (wA w D q len c last) := by
  obtain ⟨w1, h1⟩ : ∃ w1, w.alloc (.cells #[.pointer (some ⟨D, 0, none⟩)] 55) = w1 := ⟨_, rfl⟩
  obtain ⟨w2, h2⟩ : ∃ w2, w1.alloc (.cells #[.slice q len c] 25) = w2 := ⟨_, rfl⟩
  obtain ⟨w3, h3⟩ : ∃ w3, w2.alloc (.cells #[.int .i64 0] 26) = w3 := ⟨_, rfl⟩
  obtain ⟨w4, h4⟩ : ∃ w4, w3.setCell ⟨D, 2, none⟩ (.bool false) = w4 := ⟨_, rfl⟩
  obtain ⟨w5, h5⟩ : ∃ w5, w4.alloc (.cells #[.int .i64 0] 3) = w5 := ⟨_, rfl⟩
  obtain ⟨w6, h6⟩ : ∃ w6, w5.alloc (.cells #[.slice q len c] 25) = w6 := ⟨_, rfl⟩
  have hw : wA w D q len c last = w6.alloc (.cells #[.bool last] 4) := by rw [← h6, ← h5, ← h4, ← h3, ← h2, ← h1]; rfl
  rw [hw]
  have s1 : w1.heap.size = w.heap.size + 1 := by rw [← h1]; simp
  have s2 : w2.heap.size = w.heap.size + 1 + 1 := by rw [← h2]; simp [s1]
  have s3 : w3.heap.size = w.heap.size + 1 + 1 + 1 := by rw [← h3]; simp [s2]
  have s4 : w4.heap.size = w.heap.size + 1 + 1 + 1 := by rw [← h4, size_set]; exact s3
  have s5 : w5.heap.size = w.heap.size + 1 + 1 + 1 + 1 := by rw [← h5]; simp [s4]
  have s6 : w6.heap.size = w.heap.size + 1 + 1 + 1 + 1 + 1 := by rw [← h6]; simp [s5]
  have hD := (Array.getElem?_eq_some_iff.1 hd.blk).1
  have d1 := hd.new (.cells #[.pointer (some ⟨D, 0, none⟩)] 55)
  rw [h1] at d1
  have d2 := d1.new (.cells #[.slice q len c] 25)
  rw [h2, s1] at d2
  have d3 := d2.new (.cells #[.int .i64 0] 26)
  rw [h3, s2] at d3
  have d4 := d3.setOpen false
  rw [h4] at d4
  have d5 := d4.new (.cells #[.int .i64 0] 3)
  rw [h5, s4] at d5
  have d6 := d5.new (.cells #[.slice q len c] 25)
  rw [h6, s5] at d6
  have d7 := d6.new (.cells #[.bool last] 4)
  rw [s6] at d7
  have b0 := Boxed.new w 55 (.pointer (some ⟨D, 0, none⟩))
  rw [h1] at b0
  have b1 := Boxed.new w1 25 (.slice q len c)
  rw [h2, s1] at b1
  have b2 := Boxed.new w2 26 (.int .i64 0)
  rw [h3, s2] at b2
  have b3 := Boxed.new w4 3 (.int .i64 0)
  rw [h5, s4] at b3
  have b4 := Boxed.new w5 25 (.slice q len c)
  rw [h6, s5] at b4
  have b5 := Boxed.new w6 4 (.bool last)
  rw [s6] at b5
  have b03 : Boxed w3 w.heap.size 55 (.pointer (some ⟨D, 0, none⟩)) := by rw [← h3, ← h2]; exact (b0.alloc _).alloc _
  have b13 : Boxed w3 (w.heap.size + 1) 25 (.slice q len c) := by rw [← h3]; exact b1.alloc _
  have c0 := d3.boxD 2 (.bool false) (.inl (.inl (.inr rfl))) b03
  have c1 := d3.boxD 2 (.bool false) (.inl (.inr rfl)) b13
  have c2 := d3.boxD 2 (.bool false) (.inr rfl) b2
  rw [h4] at c0 c1 c2
  have z : ∀ {b : Nat} {t : TypeId} {v : Value}, Boxed w4 b t v → Boxed (w6.alloc (.cells #[.bool last] 4)) b t v := fun h => by rw [← h6, ← h5]; exact ((h.alloc _).alloc _).alloc _
  have z5 : Boxed (w6.alloc (.cells #[.bool last] 4)) (w.heap.size + 1 + 1 + 1) 3 (.int .i64 0) := by rw [← h6]; exact (b3.alloc _).alloc _
  have bl : Below n₀ w w4 := by
    rw [← h4, ← h3, ← h2, ← h1]
    have hs := hd.size
    exact ((((Below.refl n₀ w).alloc hs _).alloc (by simp; omega) _).alloc (by simp; omega) _).setCell (p := ⟨D, 2, none⟩) hd.hD _
  refine ⟨by simp [s6], d7, z c0, z c1, z c2, z5, b4.alloc _, b5, ?_⟩
  rw [← h6, ← h5]
  have hs := hd.size
  exact ((bl.alloc (by omega) _).alloc (by simp; omega) _).alloc (by simp; omega) _

/-- Between two rounds of add's loop. -/
structure Iad (n₀ D : Nat) (X : Nat → Prop) (s : Nat) (W0 : World) (vl : Value) (R : List Row) (sl : Value) (t cur mt : List Int) (es : List (Nat × Esc)) (i : Nat) (W : World) : Prop where
  dr : ∃ vc vm, Dr n₀ D X W vl vc vm R (dsAt t cur mt es i).line (dsAt t cur mt es i).opn (dsAt t cur mt es i).meant
  ok : ∀ j y, j < i → es[j]? = some y → y.2.fault = 0
  b0 : Boxed W s 55 (.pointer (some ⟨D, 0, none⟩))
  b1 : Boxed W (s + 1) 25 sl
  b2 : Boxed W (s + 1 + 1) 26 (.int .i64 0)
  b3 : Boxed W (s + 1 + 1 + 1) 3 (.int .i64 ((dsAt t cur mt es i).frm : Nat))
  below : Below n₀ W0 W
structure Ixd (n₀ s : Nat) (W0 : World) (es : List (Nat × Esc)) (c : Code) (i : Nat) (W : World) : Prop where
  c : c = .ret
  f : faultOf es ≠ 0
  b : Boxed W (s + 1 + 1) 26 (.int .i64 (faultOf es : Nat))
  below : Below n₀ W0 W
theorem boxed_row {W W' : World} {row : Option Nat} {b : Nat} {t : TypeId} {v : Value} (h : Boxed W b t v) (hg : W.grownBy W' row) (hr : ∀ r, row = some r → ∃ o : Obj, W.heap[r]? = some o ∧ o.isCells = false) : Boxed W' b t v :=
  h.kept hg (fun e => by
    obtain ⟨o, h1, h2⟩ := hr b e.symm
    rw [show W.heap[b]? = _ from h] at h1
    cases h1; cases h2)
theorem Iad.own {n₀ D : Nat} {X : Nat → Prop} {s : Nat} {W0 : World} {vl : Value} {R : List Row} {sl : Value} {t cur mt : List Int} {es : List (Nat × Esc)} (B : Nat) (hB : n₀ ≤ B) (hn : n₀ ≤ W0.heap.size) : OwnFrom B (Iad n₀ D X s W0 vl R sl t cur mt es) := by
  intro i W W' row h hg hr
  have hr' : ∀ r, row = some r → ∃ o : Obj, W.heap[r]? = some o ∧ o.isCells = false := fun r e => (hr r e).2
  obtain ⟨vc, vm, hd⟩ := h.dr
  exact ⟨⟨vc, vm, hd.kept hg (fun r e => .inr (hr' r e))⟩, h.ok, boxed_row h.b0 hg hr', boxed_row h.b1 hg hr', boxed_row h.b2 hg hr', boxed_row h.b3 hg hr', h.below.grown hg (Nat.le_trans hn h.below.size) (fun k e => Nat.le_trans hB (hr k e).1)⟩
theorem Ixd.own {n₀ s : Nat} {W0 : World} {es : List (Nat × Esc)} (c : Code) (B : Nat) (hB : n₀ ≤ B) (hn : n₀ ≤ W0.heap.size) : OwnFrom B (Ixd n₀ s W0 es c) := by
  intro i W W' row h hg hr
  exact ⟨h.c, h.f, boxed_row h.b hg (fun r e => (hr r e).2), h.below.grown hg (Nat.le_trans hn h.below.size) (fun k e => Nat.le_trans hB (hr k e).1)⟩
theorem Ke.putObj {n₀ B1 B2 : Nat} {B : Nat} (hn : n₀ ≤ B) (h1 : B1 < B) (h2 : B2 < B) (W : World) (l : Nat) (o o' : Obj) (hl : B ≤ l) (h : W.heap[l]? = some o) (hc : o.isCells = false) : Ke n₀ B1 B2 W (W.putObj l o') := by
  have hlt := (Array.getElem?_eq_some_iff.1 h).1
  refine ⟨(Below.refl n₀ W).grown (grownBy_putObj' W l o') (by omega) (fun k e => by cases e; omega), World.putObj_heap_other (by omega), World.putObj_heap_other (by omega), fun k cs f hk => ?_⟩
  have : k ≠ l := by rintro rfl; rw [hk] at h; cases h; cases hc
  exact (World.putObj_heap_other this).trans hk

/-- What add leaves, with the line t. -/
def AddPost (n₀ D : Nat) (X : Nat → Prop) (R : List Row) (cur mt t : List Int) (last : Bool) (e : Ending) (w' : World) : Prop :=
  (faultOf (esP last 0 0 t) ≠ 0 ∧ e = .returned (.int .i64 (faultOf (esP last 0 0 t) : Nat))) ∨
  (faultOf (esP last 0 0 t) = 0 ∧ e = .returned (.int .i64 0) ∧ ∃ vl' vc' vm' R',
    Dr n₀ D X w' vl' vc' vm' R' (if (dsAt t cur mt (esP last 0 0 t) (esP last 0 0 t).length).opn then (dsAt t cur mt (esP last 0 0 t) (esP last 0 0 t).length).line ++ t.drop (dsAt t cur mt (esP last 0 0 t) (esP last 0 0 t).length).frm else [])
      (dsAt t cur mt (esP last 0 0 t) (esP last 0 0 t).length).opn (dsAt t cur mt (esP last 0 0 t) (esP last 0 0 t).length).meant ∧
    R'.map (·.t) = if (dsAt t cur mt (esP last 0 0 t) (esP last 0 0 t).length).opn then R.map (·.t) else R.map (·.t) ++ [(dsAt t cur mt (esP last 0 0 t) (esP last 0 0 t).length).line ++ t.drop (dsAt t cur mt (esP last 0 0 t) (esP last 0 0 t).length).frm])
end Go.Proofs.YtpiefdpcinjkpaaDoor
