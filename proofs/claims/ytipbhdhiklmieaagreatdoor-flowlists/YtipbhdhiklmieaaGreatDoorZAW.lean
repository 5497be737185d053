/- add's steps: an append and a store whose run is known; what a round keeps; the draft's state in plain terms. -/
import Derived.Test.YtipbhdhiklmieaaGreatDoorZAV
import Derived.Test.YtipbhdhiklmieaaGreatDoorZAT
set_option linter.all false
set_option maxRecDepth 100000
set_option maxHeartbeats 2000000
namespace Go.Proofs.YtipbhdhiklmieaaGreatDoor.P7
open P8
open Go.RowKit Go.Shelf
theorem append_in {F : Fence} {n : Nat} {P : Program} {w w' : World} {o : Oper} {a : Act} {K : Act -> World -> Prop} {Q : Exit -> Act -> World -> Prop} (s x : Operand) (t : TypeId)
  (ho : o.op = .call { callee := .builtin .append, args := #[s, x], argTypes := #[t, t] }) {u y v : Value} (hs : a.eval s = u) (hx : a.eval x = y)
  (hrun : (Builtin.append_ #[t, t] o.type #[u, y]).run P w = .ok v w') (h : K (a.put o.dst v) w') : Oper.wpIn F n P o a w K Q := by
 unfold Oper.wpIn
 refine ⟨?_, ?_⟩
 ·simp [Oper.about, ho, resolve, Target.leads, Sem.run_pure]
 ·rw [Oper.semAt_plain F _ _ (by rw [ho]; intro c hc'; cases hc')]
  simp [execOp, ho, resolve, invoke, builtin, hs, hx, hrun, Result.andThen]
  exact h
theorem store_in {F : Fence} {n : Nat} {w : World} {o : Oper} {a : Act} {K : Act -> World -> Prop} {Q : Exit -> Act -> World -> Prop} {x y : Operand} (t : TypeId) (ht : (Tryz.prog.info? t).map (·.size) = some 1) (ho : o.op = .store t x y) {g i : Nat} {v : Value} {c0 : Value}
  (hx : a.eval x = .pointer (some ⟨g, i, none⟩)) {p : Option Addr} {k l : Nat} (hv : v = .slice p k l) (hy : a.eval y = v) (r0 : w.cell? ⟨g, i, none⟩ = some c0) (f0 : w.frozen? ⟨g, i, none⟩ = false)
  (h : K (a.put o.dst undef) (w.setCell ⟨g, i, none⟩ v)) : Oper.wpIn F n Tryz.prog o a w K Q := by
 subst hv
 unfold Oper.wpIn
 refine ⟨?_, ?_⟩
 ·simp [Oper.about, ho]
 ·rw [Oper.semAt_plain F _ _ (by rw [ho]; intro c hc'; cases hc')]
  have e0 : execOp a.eval o = (Instr.storeAt t (a.eval x) (a.eval y) >>= fun _ => pure .skip) := by
   unfold execOp
   simp only [ho]
  have : (execOp a.eval o).run Tryz.prog w = .ok .skip (w.setCell ⟨g, i, none⟩ (.slice p k l)) := by
   rw [e0, hx, hy]
   cases hq : Tryz.prog.info? t with
   | none => simp [hq] at ht
   | some info =>
    have hs : info.size = 1 := by simpa [hq] using ht
    simp [Instr.storeAt, Instr.sureAddr, storeVar, sizeOf, typeInfo, hq, hs, Value.cells, storeCells, go_sem, r0, f0]
  rw [this]
  simp only [Oper.uponIn]
  exact h
theorem dr_cell {W : World} {D : Nat} {vl vc vm : Value} {op : Bool} (h : W.heap[D]? = some (.cells #[vl, vc, .bool op, vm] 186)) :
  W.cell? ⟨D, 0, none⟩ = some vl /\ W.cell? ⟨D, 1, none⟩ = some vc /\ W.cell? ⟨D, 2, none⟩ = some (.bool op) /\ W.cell? ⟨D, 3, none⟩ = some vm /\
  W.frozen? ⟨D, 0, none⟩ = false /\ W.frozen? ⟨D, 1, none⟩ = false /\ W.frozen? ⟨D, 2, none⟩ = false /\ W.frozen? ⟨D, 3, none⟩ = false := by
 refine ⟨?_, ?_, ?_, ?_, ?_, ?_, ?_, ?_⟩ <;> simp [World.cell?, World.frozen?, h]
structure Kb (n0 B1 B2 : Nat) (A B : World) : Prop where
 e : Ke n0 B1 B2 A B
 o : KeepsOthers A B
theorem Kb.trans {n0 B1 B2 : Nat} {A B C : World} (h : Kb n0 B1 B2 A B) (k : Kb n0 B1 B2 B C) : Kb n0 B1 B2 A C := ⟨h.e.trans k.e, h.o.trans k.o⟩
theorem Kb.step {n0 B1 B2 : Nat} {A B : World} {row : Option Nat} (hg : A.grownBy B row) (hn : n0 <= A.heap.size) (h1 : B1 < A.heap.size) (h2 : B2 < A.heap.size)
  (h : ∀ r, row = some r -> n0 <= r /\ r ≠ B1 /\ r ≠ B2 /\ ∃ cs t f, A.heap[r]? = some (.cells cs t f) /\ t ≠ 217) : Kb n0 B1 B2 A B := by
 refine ⟨⟨(Below.refl _ A).grown hg hn (fun k e => (h k e).1), hg.block B1 h1 (fun e => (h B1 e.symm).2.1 rfl), hg.block B2 h2 (fun e => (h B2 e.symm).2.2.1 rfl), fun k cs f hk => ?_⟩, KeepsOthers.of_grownBy hg (fun j o e hj => ?_)⟩
 ·refine (hg.block k (Array.getElem?_eq_some_iff.1 hk).1 (fun e => ?_)).trans hk
  obtain ⟨-, -, -, cs', t, f', h3, h4⟩ := h k e.symm
  rw [hk] at h3; cases h3; exact h4 rfl
 ·obtain ⟨-, -, -, cs', t, f', h3, h4⟩ := h j e
  rw [hj] at h3; cases h3; rfl
theorem Kb.grown {n0 B1 B2 : Nat} {A B : World} (hg : A.grownBy B none) (hn : n0 <= A.heap.size) (h1 : B1 < A.heap.size) (h2 : B2 < A.heap.size) : Kb n0 B1 B2 A B := Kb.step hg hn h1 h2 (fun r e => by cases e)
section
variable {n0 D B1 B2 : Nat} {X : Nat -> Prop} {W W1 : World} {vl vc vm : Value} {R : List Row} {cur mt : List Int} {op : Bool}
theorem Dr.kbLine (h : Dr n0 D X W vl vc vm R cur op mt) (x1 : X B1) (x2 : X B2) (hg : W.grownBy W1 vc.ownBlock) : Kb n0 B1 B2 W W1 :=
 Kb.step hg h.size (h.xs B1 x1).1 (h.xs B2 x2).1 (fun r e => by
  obtain ⟨h1, cu, h2⟩ := owns_cells h.c e
  exact ⟨h1, fun ee => (h.xs B1 x1).2.2.2.1 (ee ▸ e), fun ee => (h.xs B2 x2).2.2.2.1 (ee ▸ e), cu, 3, _, h2, by decide⟩)
theorem Dr.kbMeant (h : Dr n0 D X W vl vc vm R cur op mt) (x1 : X B1) (x2 : X B2) (hg : W.grownBy W1 vm.ownBlock) : Kb n0 B1 B2 W W1 :=
 Kb.step hg h.size (h.xs B1 x1).1 (h.xs B2 x2).1 (fun r e => by
  obtain ⟨h1, cu, h2⟩ := owns_cells h.m e
  exact ⟨h1, fun ee => (h.xs B1 x1).2.2.2.2.1 (ee ▸ e), fun ee => (h.xs B2 x2).2.2.2.2.1 (ee ▸ e), cu, 3, _, h2, by decide⟩)
theorem Dr.kbD {cs : Array Value} (h : Dr n0 D X W vl vc vm R cur op mt) (x1 : X B1) (x2 : X B2) (W1 : World) (hs : W.heap.size <= W1.heap.size) (hb : W1.heap[D]? = some (.cells cs 186)) (i : Nat) (v : Value) : Kb n0 B1 B2 W1 (W1.setCell ⟨D, i, none⟩ v) :=
 Kb.step (set_row W1 ⟨D, i, none⟩ v) (Nat.le_trans h.size hs) (Nat.lt_of_lt_of_le (h.xs B1 x1).1 hs) (Nat.lt_of_lt_of_le (h.xs B2 x2).1 hs) (fun r e => by
  cases e
  exact ⟨h.hD, fun ee => (h.xs B1 x1).2.1 ee.symm, fun ee => (h.xs B2 x2).2.1 ee.symm, cs, 186, _, hb, by decide⟩)
theorem Dr.boxLine (h : Dr n0 D X W vl vc vm R cur op mt) (hg : W.grownBy W1 vc.ownBlock) {b : Nat} (hb : X b) {t : TypeId} {v : Value} (hv : Boxed W b t v) : Boxed W1 b t v :=
 hv.kept hg (fun e => (h.xs b hb).2.2.2.1 e.symm)
theorem Dr.boxMeant (h : Dr n0 D X W vl vc vm R cur op mt) (hg : W.grownBy W1 vm.ownBlock) {b : Nat} (hb : X b) {t : TypeId} {v : Value} (hv : Boxed W b t v) : Boxed W1 b t v :=
 hv.kept hg (fun e => (h.xs b hb).2.2.2.2.1 e.symm)
theorem Dr.boxL (h : Dr n0 D X W vl vc vm R cur op mt) (hg : W.grownBy W1 vl.ownBlock) {b : Nat} (hb : X b) {t : TypeId} {v : Value} (hv : Boxed W b t v) : Boxed W1 b t v :=
 hv.kept hg (fun e => (h.xs b hb).2.2.1 e.symm)
theorem Dr.boxD (h : Dr n0 D X W vl vc vm R cur op mt) {W1 : World} (i : Nat) (v : Value) {b : Nat} (hb : X b) {t : TypeId} {u : Value} (hv : Boxed W1 b t u) : Boxed (W1.setCell ⟨D, i, none⟩ v) b t u :=
 hv.kept (set_row W1 ⟨D, i, none⟩ v) (fun e => (h.xs b hb).2.1 (by cases e; rfl))
theorem Dr.blkLine (h : Dr n0 D X W vl vc vm R cur op mt) (hg : W.grownBy W1 vc.ownBlock) : W1.heap[D]? = some (.cells #[vl, vc, .bool op, vm] 186) :=
 (hg.block D (Array.getElem?_eq_some_iff.1 h.blk).1 (fun e => ((not_own42 h.blk).1 h.c).elim (fun k => by rw [k] at e; cases e) (fun k => k e.symm))).trans h.blk
theorem Dr.blkMeant (h : Dr n0 D X W vl vc vm R cur op mt) (hg : W.grownBy W1 vm.ownBlock) : W1.heap[D]? = some (.cells #[vl, vc, .bool op, vm] 186) :=
 (hg.block D (Array.getElem?_eq_some_iff.1 h.blk).1 (fun e => ((not_own42 h.blk).1 h.m).elim (fun k => by rw [k] at e; cases e) (fun k => k e.symm))).trans h.blk
theorem Dr.blkL (h : Dr n0 D X W vl vc vm R cur op mt) (hg : W.grownBy W1 vl.ownBlock) : W1.heap[D]? = some (.cells #[vl, vc, .bool op, vm] 186) :=
 (hg.block D (Array.getElem?_eq_some_iff.1 h.blk).1 (fun e => ((not_own42 h.blk).2 h.l).elim (fun k => by rw [k] at e; cases e) (fun k => k e.symm))).trans h.blk
end
structure Ds where
 line : List Int
 meant : List Int
 opn : Bool
 frm : Nat
def dstep (t : List Int) (s : Ds) (x : Nat × Esc) : Ds := ⟨s.line ++ (t.drop s.frm).take (x.1 - s.frm) ++ [92], s.meant ++ [x.2.point], x.2.point == -1, x.1 + x.2.size⟩
def dsAt (t cur mt : List Int) (es : List (Nat × Esc)) : Nat -> Ds
 | 0 => ⟨cur, mt, false, 0⟩
 | i + 1 => match es[i]? with
  | some x => dstep t (dsAt t cur mt es i) x
  | none => dsAt t cur mt es i
theorem dsAt_succ {t cur mt : List Int} {es : List (Nat × Esc)} {i : Nat} {x : Nat × Esc} (h : es[i]? = some x) : dsAt t cur mt es (i + 1) = dstep t (dsAt t cur mt es i) x := by rw [dsAt, h]
def faultOf (es : List (Nat × Esc)) : Nat := ((es.find? fun x => decide (x.2.fault ≠ 0)).map (·.2.fault)).getD 0
theorem faultOf_at {es : List (Nat × Esc)} {i : Nat} {x : Nat × Esc} (h : es[i]? = some x) (hx : x.2.fault ≠ 0) (hb : ∀ j y, j < i -> es[j]? = some y -> y.2.fault = 0) : faultOf es = x.2.fault := by
 unfold faultOf
 have : es.find? (fun x => decide (x.2.fault ≠ 0)) = some x := by
  rw [List.find?_eq_some_iff_getElem]
  obtain ⟨hi, rfl⟩ := List.getElem?_eq_some_iff.1 h
  refine ⟨by simpa using hx, i, hi, rfl, fun j hj => ?_⟩
  simpa using hb j es[j] hj (List.getElem?_eq_getElem (by omega))
 rw [this]; rfl
theorem faultOf_none {es : List (Nat × Esc)} (hb : ∀ j y, j < es.length -> es[j]? = some y -> y.2.fault = 0) : faultOf es = 0 := by
 unfold faultOf
 have : es.find? (fun x => decide (x.2.fault ≠ 0)) = none := by
  rw [List.find?_eq_none]
  intro x hx
  obtain ⟨j, hj⟩ := List.mem_iff_getElem?.1 hx
  simpa using hb j x (List.getElem?_eq_some_iff.1 hj).1 hj
 rw [this]; rfl
theorem esP_at (last : Bool) : ∀ (l : List Int) (p k : Nat), ∀ x ∈ esP last p k l, p + k <= x.1 /\ x.1 < p + l.length /\ (x.2.fault = 0 -> 1 <= x.2.size /\ x.1 + x.2.size <= p + l.length)
 | [], p, k, x, hx => by simp [esP] at hx
 | c :: r, p, k + 1, x, hx => by
  rw [esP] at hx
  have := esP_at last r (p + 1) k x hx
  rw [List.length_cons]
  refine ⟨by omega, by omega, fun h => ?_⟩
  have := this.2.2 h
  omega
 | c :: r, p, 0, x, hx => by
  rw [esP] at hx
  rw [List.length_cons]
  split at hx
  ·rcases List.mem_cons.1 hx with rfl | hx
   ·refine ⟨by show p + 0 <= p; omega, by show p < _; omega, fun h => ?_⟩
    have := firstP_size r last h
    refine ⟨this.1, ?_⟩
    show p + (firstP r last).size <= _
    omega
   ·split at hx
    ·have := esP_at last r (p + 1) _ x hx
     refine ⟨by omega, by omega, fun h => ?_⟩
     have := this.2.2 h
     omega
    ·simp at hx
  ·have := esP_at last r (p + 1) 0 x hx
   refine ⟨by omega, by omega, fun h => ?_⟩
   have := this.2.2 h
   omega
theorem esP_next (last : Bool) : ∀ (l : List Int) (p k i : Nat) (x y : Nat × Esc), (esP last p k l)[i]? = some x -> (esP last p k l)[i + 1]? = some y -> x.2.fault = 0 /\ x.1 + x.2.size <= y.1
 | [], p, k, i, x, y, hx, _ => by simp [esP] at hx
 | c :: r, p, k + 1, i, x, y, hx, hy => by
  rw [esP] at hx hy
  exact esP_next last r (p + 1) k i x y hx hy
 | c :: r, p, 0, i, x, y, hx, hy => by
  rw [esP] at hx hy
  split at hx
  ·rename_i hc
   rw [if_pos hc] at hy
   rw [List.getElem?_cons_succ] at hy
   split at hy
   ·rename_i hf
    cases i with
    | zero =>
     rw [List.getElem?_cons_zero] at hx
     cases hx
     have hm := List.mem_of_getElem? hy
     have := esP_at last r (p + 1) _ y hm
     have h1 := firstP_size r last hf
     refine ⟨hf, ?_⟩
     show p + (firstP r last).size <= y.1
     omega
    | succ i =>
     rw [List.getElem?_cons_succ, if_pos hf] at hx
     exact esP_next last r (p + 1) _ i x y hx hy
   ·simp at hy
  ·rename_i hc
   rw [if_neg hc] at hy
   exact esP_next last r (p + 1) 0 i x y hx hy
theorem ds_ok (last : Bool) (t cur mt : List Int) : ∀ (i : Nat), i <= (esP last 0 0 t).length -> (∀ j y, j < i -> (esP last 0 0 t)[j]? = some y -> y.2.fault = 0) ->
  (dsAt t cur mt (esP last 0 0 t) i).frm <= t.length /\ (dsAt t cur mt (esP last 0 0 t) i).line.length <= cur.length + (dsAt t cur mt (esP last 0 0 t) i).frm /\ (dsAt t cur mt (esP last 0 0 t) i).meant.length <= mt.length + (dsAt t cur mt (esP last 0 0 t) i).frm /\
  ∀ x, (esP last 0 0 t)[i]? = some x -> (dsAt t cur mt (esP last 0 0 t) i).frm <= x.1 /\ x.1 < t.length
 | 0, _, _ => by
  refine ⟨by simp [dsAt], by simp [dsAt], by simp [dsAt], fun x hx => ⟨by simp [dsAt], ?_⟩⟩
  have := esP_at last t 0 0 x (List.mem_of_getElem? hx)
  omega
 | i + 1, hi, hb => by
  obtain ⟨h1, h2, h3, h4⟩ := ds_ok last t cur mt i (by omega) (fun j y hj => hb j y (by omega))
  obtain ⟨x, hx⟩ : ∃ x, (esP last 0 0 t)[i]? = some x := ⟨_, List.getElem?_eq_getElem (by omega)⟩
  have hf := hb i x (by omega) hx
  have ha := esP_at last t 0 0 x (List.mem_of_getElem? hx)
  have hs := ha.2.2 hf
  have h5 := h4 x hx
  rw [dsAt_succ hx]
  refine ⟨by show x.1 + x.2.size <= _; omega, ?_, ?_, fun y hy => ?_⟩
  ·show (_ ++ _ ++ [92]).length <= cur.length + (x.1 + x.2.size)
   rw [List.length_append, List.length_append, List.length_take, List.length_drop, List.length_singleton]
   omega
  ·show (_ ++ [x.2.point]).length <= mt.length + (x.1 + x.2.size)
   rw [List.length_append, List.length_singleton]
   omega
  ·have := esP_next last t 0 0 i x y hx hy
   have hb2 := esP_at last t 0 0 y (List.mem_of_getElem? hy)
   exact ⟨by show x.1 + x.2.size <= _; omega, by omega⟩
theorem slice_mid (p : Option Addr) (len cap f a : Nat) (hf : f <= a) (ha : a <= cap) (w2 : World) :
  (Instr.slice 41 (.slice p len cap) (some (.int .i64 f)) (some (.int .i64 a)) none).run Tryz.prog w2 = .ok (.slice (if cap = f then p else p.map (·.add f)) (a - f) (cap - f)) w2 := by
 have h0 : (f : Int) <= a := by omega
 have h1 : (a : Int) <= cap := by omega
 have u := Tryz.underlying41
 have z := Tryz.sizeOf3
 simp [go_sem, h0, h1]
def wA (w : World) (D : Nat) (q : Option Addr) (len c : Nat) (last : Bool) : World :=
 ((((((w.alloc (.cells #[.pointer (some ⟨D, 0, none⟩)] 212)).alloc (.cells #[.slice q len c] 41)).alloc (.cells #[.int .i64 0] 28)).setCell ⟨D, 2, none⟩ (.bool false)).alloc (.cells #[.int .i64 0] 3)).alloc (.cells #[.slice q len c] 41)).alloc (.cells #[.bool last] 4)
def xA (X : Nat -> Prop) (s : Nat) : Nat -> Prop := more (more (more (more (more (more X s) (s + 1)) (s + 1 + 1)) (s + 1 + 1 + 1)) (s + 1 + 1 + 1 + 1)) (s + 1 + 1 + 1 + 1 + 1)
theorem size_set (W : World) (a : Addr) (v : Value) : (W.setCell a v).heap.size = W.heap.size := by simp [World.setCell]
theorem wA_facts {n0 D : Nat} {X : Nat -> Prop} {w : World} {vl vc vm : Value} {R : List Row} {cur mt : List Int} {op : Bool} (hd : Dr n0 D X w vl vc vm R cur op mt) (q : Option Addr) (len c : Nat) (last : Bool) :
  (wA w D q len c last).heap.size = w.heap.size + 6 /\ Dr n0 D (xA X w.heap.size) (wA w D q len c last) vl vc vm R cur false mt /\ Boxed (wA w D q len c last) w.heap.size 212 (.pointer (some ⟨D, 0, none⟩)) /\ Boxed (wA w D q len c last) (w.heap.size + 1) 41 (.slice q len c) /\
  Boxed (wA w D q len c last) (w.heap.size + 1 + 1) 28 (.int .i64 0) /\ Boxed (wA w D q len c last) (w.heap.size + 1 + 1 + 1) 3 (.int .i64 0) /\ Boxed (wA w D q len c last) (w.heap.size + 1 + 1 + 1 + 1) 41 (.slice q len c) /\ Boxed (wA w D q len c last) (w.heap.size + 1 + 1 + 1 + 1 + 1) 4 (.bool last) /\ Below n0 w (wA w D q len c last) := by
 obtain ⟨w1, h1⟩ : ∃ w1, w.alloc (.cells #[.pointer (some ⟨D, 0, none⟩)] 212) = w1 := ⟨_, rfl⟩
 obtain ⟨w2, h2⟩ : ∃ w2, w1.alloc (.cells #[.slice q len c] 41) = w2 := ⟨_, rfl⟩
 obtain ⟨w3, h3⟩ : ∃ w3, w2.alloc (.cells #[.int .i64 0] 28) = w3 := ⟨_, rfl⟩
 obtain ⟨w4, h4⟩ : ∃ w4, w3.setCell ⟨D, 2, none⟩ (.bool false) = w4 := ⟨_, rfl⟩
 obtain ⟨w5, h5⟩ : ∃ w5, w4.alloc (.cells #[.int .i64 0] 3) = w5 := ⟨_, rfl⟩
 obtain ⟨w6, h6⟩ : ∃ w6, w5.alloc (.cells #[.slice q len c] 41) = w6 := ⟨_, rfl⟩
 have hw : wA w D q len c last = w6.alloc (.cells #[.bool last] 4) := by rw [<- h6, <- h5, <- h4, <- h3, <- h2, <- h1]; rfl
 rw [hw]
 have s1 : w1.heap.size = w.heap.size + 1 := by rw [<- h1]; simp
 have s2 : w2.heap.size = w.heap.size + 1 + 1 := by rw [<- h2]; simp [s1]
 have s3 : w3.heap.size = w.heap.size + 1 + 1 + 1 := by rw [<- h3]; simp [s2]
 have s4 : w4.heap.size = w.heap.size + 1 + 1 + 1 := by rw [<- h4, size_set]; exact s3
 have s5 : w5.heap.size = w.heap.size + 1 + 1 + 1 + 1 := by rw [<- h5]; simp [s4]
 have s6 : w6.heap.size = w.heap.size + 1 + 1 + 1 + 1 + 1 := by rw [<- h6]; simp [s5]
 have hD := (Array.getElem?_eq_some_iff.1 hd.blk).1
 have d1 := hd.new (.cells #[.pointer (some ⟨D, 0, none⟩)] 212)
 rw [h1] at d1
 have d2 := d1.new (.cells #[.slice q len c] 41)
 rw [h2, s1] at d2
 have d3 := d2.new (.cells #[.int .i64 0] 28)
 rw [h3, s2] at d3
 have d4 := d3.setOpen false
 rw [h4] at d4
 have d5 := d4.new (.cells #[.int .i64 0] 3)
 rw [h5, s4] at d5
 have d6 := d5.new (.cells #[.slice q len c] 41)
 rw [h6, s5] at d6
 have d7 := d6.new (.cells #[.bool last] 4)
 rw [s6] at d7
 have b0 := Boxed.new w 212 (.pointer (some ⟨D, 0, none⟩))
 rw [h1] at b0
 have b1 := Boxed.new w1 41 (.slice q len c)
 rw [h2, s1] at b1
 have b2 := Boxed.new w2 28 (.int .i64 0)
 rw [h3, s2] at b2
 have b3 := Boxed.new w4 3 (.int .i64 0)
 rw [h5, s4] at b3
 have b4 := Boxed.new w5 41 (.slice q len c)
 rw [h6, s5] at b4
 have b5 := Boxed.new w6 4 (.bool last)
 rw [s6] at b5
 have b03 : Boxed w3 w.heap.size 212 (.pointer (some ⟨D, 0, none⟩)) := by rw [<- h3, <- h2]; exact (b0.alloc _).alloc _
 have b13 : Boxed w3 (w.heap.size + 1) 41 (.slice q len c) := by rw [<- h3]; exact b1.alloc _
 have c0 := d3.boxD 2 (.bool false) (.inl (.inl (.inr rfl))) b03
 have c1 := d3.boxD 2 (.bool false) (.inl (.inr rfl)) b13
 have c2 := d3.boxD 2 (.bool false) (.inr rfl) b2
 rw [h4] at c0 c1 c2
 have z : ∀ {b : Nat} {t : TypeId} {v : Value}, Boxed w4 b t v -> Boxed (w6.alloc (.cells #[.bool last] 4)) b t v := fun h => by rw [<- h6, <- h5]; exact ((h.alloc _).alloc _).alloc _
 have z5 : Boxed (w6.alloc (.cells #[.bool last] 4)) (w.heap.size + 1 + 1 + 1) 3 (.int .i64 0) := by rw [<- h6]; exact (b3.alloc _).alloc _
 have bl : Below n0 w w4 := by
  rw [<- h4, <- h3, <- h2, <- h1]
  have hs := hd.size
  exact ((((Below.refl n0 w).alloc hs _).alloc (by simp; omega) _).alloc (by simp; omega) _).setCell (p := ⟨D, 2, none⟩) hd.hD _
 refine ⟨by simp [s6], d7, z c0, z c1, z c2, z5, b4.alloc _, b5, ?_⟩
 rw [<- h6, <- h5]
 have hs := hd.size
 exact ((bl.alloc (by omega) _).alloc (by simp; omega) _).alloc (by simp; omega) _
structure Iad (n0 D : Nat) (X : Nat -> Prop) (s : Nat) (W0 : World) (vl : Value) (R : List Row) (sl : Value) (t cur mt : List Int) (es : List (Nat × Esc)) (i : Nat) (W : World) : Prop where
 dr : ∃ vc vm, Dr n0 D X W vl vc vm R (dsAt t cur mt es i).line (dsAt t cur mt es i).opn (dsAt t cur mt es i).meant
 ok : ∀ j y, j < i -> es[j]? = some y -> y.2.fault = 0
 b0 : Boxed W s 212 (.pointer (some ⟨D, 0, none⟩))
 b1 : Boxed W (s + 1) 41 sl
 b2 : Boxed W (s + 1 + 1) 28 (.int .i64 0)
 b3 : Boxed W (s + 1 + 1 + 1) 3 (.int .i64 ((dsAt t cur mt es i).frm : Nat))
 below : Below n0 W0 W
structure Ixd (n0 s : Nat) (W0 : World) (es : List (Nat × Esc)) (c : Code) (i : Nat) (W : World) : Prop where
 c : c = .ret
 f : faultOf es ≠ 0
 b : Boxed W (s + 1 + 1) 28 (.int .i64 (faultOf es : Nat))
 below : Below n0 W0 W
theorem boxed_row {W W' : World} {row : Option Nat} {b : Nat} {t : TypeId} {v : Value} (h : Boxed W b t v) (hg : W.grownBy W' row) (hr : ∀ r, row = some r -> ∃ o : Obj, W.heap[r]? = some o /\ o.isCells = false) : Boxed W' b t v :=
 h.kept hg (fun e => by
  obtain ⟨o, h1, h2⟩ := hr b e.symm
  rw [show W.heap[b]? = _ from h] at h1
  cases h1; cases h2)
theorem Iad.own {n0 D : Nat} {X : Nat -> Prop} {s : Nat} {W0 : World} {vl : Value} {R : List Row} {sl : Value} {t cur mt : List Int} {es : List (Nat × Esc)} (B : Nat) (hB : n0 <= B) (hn : n0 <= W0.heap.size) : OwnFrom B (Iad n0 D X s W0 vl R sl t cur mt es) := by
 intro i W W' row h hg hr
 have hr' : ∀ r, row = some r -> ∃ o : Obj, W.heap[r]? = some o /\ o.isCells = false := fun r e => (hr r e).2
 obtain ⟨vc, vm, hd⟩ := h.dr
 exact ⟨⟨vc, vm, hd.kept hg (fun r e => .inr (hr' r e))⟩, h.ok, boxed_row h.b0 hg hr', boxed_row h.b1 hg hr', boxed_row h.b2 hg hr', boxed_row h.b3 hg hr', h.below.grown hg (Nat.le_trans hn h.below.size) (fun k e => Nat.le_trans hB (hr k e).1)⟩
theorem Ixd.own {n0 s : Nat} {W0 : World} {es : List (Nat × Esc)} (c : Code) (B : Nat) (hB : n0 <= B) (hn : n0 <= W0.heap.size) : OwnFrom B (Ixd n0 s W0 es c) := by
 intro i W W' row h hg hr
 exact ⟨h.c, h.f, boxed_row h.b hg (fun r e => (hr r e).2), h.below.grown hg (Nat.le_trans hn h.below.size) (fun k e => Nat.le_trans hB (hr k e).1)⟩
theorem Ke.putObj {n0 B1 B2 : Nat} {B : Nat} (hn : n0 <= B) (h1 : B1 < B) (h2 : B2 < B) (W : World) (l : Nat) (o o' : Obj) (hl : B <= l) (h : W.heap[l]? = some o) (hc : o.isCells = false) : Ke n0 B1 B2 W (W.putObj l o') := by
 have hlt := (Array.getElem?_eq_some_iff.1 h).1
 refine ⟨(Below.refl n0 W).grown (grownBy_putObj' W l o') (by omega) (fun k e => by cases e; omega), World.putObj_heap_other (by omega), World.putObj_heap_other (by omega), fun k cs f hk => ?_⟩
 have : k ≠ l := by rintro rfl; rw [hk] at h; cases h; cases hc
 exact (World.putObj_heap_other this).trans hk
def AddPost (n0 D : Nat) (X : Nat -> Prop) (R : List Row) (cur mt t : List Int) (last : Bool) (e : Ending) (w' : World) : Prop :=
 (faultOf (esP last 0 0 t) ≠ 0 /\ e = .returned (.int .i64 (faultOf (esP last 0 0 t) : Nat))) \/
 (faultOf (esP last 0 0 t) = 0 /\ e = .returned (.int .i64 0) /\ ∃ vl' vc' vm' R',
  Dr n0 D X w' vl' vc' vm' R' (if (dsAt t cur mt (esP last 0 0 t) (esP last 0 0 t).length).opn then (dsAt t cur mt (esP last 0 0 t) (esP last 0 0 t).length).line ++ t.drop (dsAt t cur mt (esP last 0 0 t) (esP last 0 0 t).length).frm else [])
   (dsAt t cur mt (esP last 0 0 t) (esP last 0 0 t).length).opn (dsAt t cur mt (esP last 0 0 t) (esP last 0 0 t).length).meant /\
  R'.map (·.t) = if (dsAt t cur mt (esP last 0 0 t) (esP last 0 0 t).length).opn then R.map (·.t) else R.map (·.t) ++ [(dsAt t cur mt (esP last 0 0 t) (esP last 0 0 t).length).line ++ t.drop (dsAt t cur mt (esP last 0 0 t) (esP last 0 0 t).length).frm])
theorem mt_of_own {W : World} {base : Nat} {p : Option Addr} {k c : Nat} {R : List Row} (h : OwnsM W base (.slice p k c) R) (hr : ∀ r, r ∈ R -> Rok W r) : Mt W p R /\ k = R.length /\ k <= c /\ c <= maxLen := by
 have h' := h
 refine ⟨⟨fun j r hj => hr r (List.mem_of_getElem? hj), ?_⟩, ?_⟩
 ·obtain ⟨hl, ⟨e, e2⟩ | ⟨g, cap, cur, e, hb, hg, h1, h2, h3, h4⟩⟩ := h'
  ·exact .inl (List.eq_nil_of_length_eq_zero e2)
  ·cases e
   refine .inr ⟨g, 0, rfl, fun j r hj => ?_⟩
   have := h.cells (g := g) rfl j (rowV r) (by simp [hj])
   rw [add_plain] at this
   exact this
 ·obtain ⟨hl, ⟨e, e2⟩ | ⟨g, cap, cur, e, hb, hg, h1, h2, h3, h4⟩⟩ := h'
  ·cases e; exact ⟨e2.symm, Nat.le_refl _, by unfold maxLen; omega⟩
  ·cases e; exact ⟨rfl, h1, h2⟩
def fillS (mt : List Int) (s : List Int × Nat) (c : Int) : List Int × Nat :=
 if c = 92 then (if iAt mt s.2 = -1 then (s.1, s.2 + 1) else (s.1 ++ [iAt mt s.2], s.2 + 1)) else (s.1 ++ [c], s.2)
def fillP (mt T : List Int) : List Int × Nat := T.foldl (fillS mt) ([], 0)
theorem fillP_snoc (mt T : List Int) (c : Int) : fillP mt (T ++ [c]) = fillS mt (fillP mt T) c := by simp [fillP]
theorem fill_gen (mt : List Int) : ∀ (T : List Int) (s : List Int × Nat), (T.foldl (fillS mt) s).2 = s.2 + T.count 92 /\ (T.foldl (fillS mt) s).1.length <= s.1.length + T.length
 | [], s => by simp
 | c :: T, s => by
  obtain ⟨h1, h2⟩ := fill_gen mt T (fillS mt s c)
  rw [List.foldl_cons, h1, List.count_cons, List.length_cons]
  have h3 : (fillS mt s c).2 = s.2 + (if (c == 92) = true then 1 else 0) /\ (fillS mt s c).1.length <= s.1.length + 1 := by
   unfold fillS
   by_cases hc : c = 92
   ·subst hc
    rw [if_pos rfl]
    split
    ·simp
    ·simp
   ·rw [if_neg hc]
    simp [hc]
  omega
theorem fillP_count (mt T : List Int) : (fillP mt T).2 = T.count 92 /\ (fillP mt T).1.length <= T.length := by
 have := fill_gen mt T ([], 0)
 simpa [fillP] using this
theorem count_take (T : List Int) (k : Nat) (hk : k < T.length) (hc : iAt T k = 92) : (T.take k).count 92 < T.count 92 := by
 have h1 : T = T.take k ++ T.drop k := (List.take_append_drop k T).symm
 have h2 : T.count 92 = (T.take k).count 92 + (T.drop k).count 92 := by rw [<- List.count_append, <- h1]
 rw [drop_at hk, hc, List.count_cons_self] at h2
 omega
theorem text_any (n0 D : Nat) (X : Nat -> Prop) (w : World) (vl vc vm : Value) (R : List Row) (cur mt : List Int) (op : Bool) (hd : Dr n0 D X w vl vc vm R cur op mt) (hS : Sized R) (hT : (flowT R).length <= 2199025352704) (hc : (flowT R).count 92 <= mt.length) :
  Calls Tryz.prog 153 #[.pointer (some ⟨D, 0, none⟩)] w fun e w' => ∃ v, e = .returned v /\ Owns w' w.heap.size v (fillP mt (flowT R)).1 /\ Below w.heap.size w w' := by
 obtain ⟨la, lk, lq, rfl⟩ := ownsRow_form hd.l
 obtain ⟨hM, rfl, -, -⟩ := mt_of_own hd.l (fun r hr => (hd.rows r hr).1)
 have FL := Flow_any la R lq w hS hM
 obtain ⟨ma, mk, mq, rfl⟩ := ownsRow_form hd.m
 obtain ⟨hIm, rfl, hmk, hmq⟩ := is_of_row hd.m
 obtain ⟨d0, d1, d2, d3, -, -, -, -⟩ := dr_cell hd.blk
 have hDl := (Array.getElem?_eq_some_iff.1 hd.blk).1
 have hmq2 : (mt.length : Int) <= 9223372036854775807 := by unfold maxLen at hmq; omega
 generalize flowT R = T at FL hT hc |-
 clear hd hM
 go_enter Tryz.func153, Tryz.ntmps153
 go_wp2_with (first | (go_at_call 118; refine FL.mono ?_; rintro e W1 ⟨v1, rfl, ho1, hb1⟩; obtain ⟨q1, k1, c1, rfl⟩ := ownsRow_form ho1; obtain ⟨hI1, rfl, -, -⟩ := is_of_row ho1))
 have e3 : W1.cell? ⟨D, 3, none⟩ = some (.slice ma mt.length mq) := (hb1.cell (p := ⟨D, 3, none⟩) hDl).trans d3
 have hIm1 := hIm.on hb1
 have hDl1 : D < W1.heap.size := Nat.lt_of_lt_of_le hDl hb1.size
 clear d0 d1 d2 d3 FL ho1
 go_loopw [3, 4, 13] (fun ov jv iv wr => ∃ (k : Nat), k <= T.length /\ iv = .int .i64 k /\ jv = .int .i64 ((fillP mt (T.take k)).2 : Nat) /\ Owns wr W1.heap.size ov (fillP mt (T.take k)).1 /\ Below W1.heap.size W1 wr) (fun _ _ iv _ => T.length - (intOf iv).toNat)
 case atStart => exact ⟨0, Nat.zero_le _, rfl, rfl, World.ownsRow_nil _ _ 3 1, Below.refl _ _⟩
 case round =>
  obtain ⟨k, hk, rfl, rfl, ho, hb⟩ := hrel
  by_cases hlt : k < T.length
  ·have hli : (k : Int) < T.length := by omega
   obtain ⟨b, o, rfl, hu⟩ := (hI1.on hb).at (by omega)
   have c0 := hu k hlt
   have g3 := (hb.cell (p := ⟨D, 3, none⟩) hDl1).trans e3
   obtain ⟨hn1, hn2⟩ := fillP_count mt (T.take k)
   have hn3 : (T.take k).length <= 2199025352704 := by rw [List.length_take]; omega
   have HS : Hid (fillP mt (T.take (k + 1)) = fillS mt (fillP mt (T.take k)) (iAt T k)) := by show _ = _; rw [take_more' hlt, fillP_snoc]
   have HC : Hid (iAt T k = 92 -> (fillP mt (T.take k)).2 < mt.length) := fun h => by
    have := count_take T k hlt h
    omega
   generalize fillP mt (T.take k) = fs at ho hn1 hn2 HS HC |-
   obtain ⟨out, j⟩ := fs
   dsimp only at ho hn1 hn2 HS HC |-
   clear hu hn1
   by_cases hx : iAt T k = 92
   ·have hj := HC.out hx
    have hj' : (j : Int) < mt.length := by omega
    obtain ⟨b2, o2, rfl, hu2⟩ := (hIm1.on hb).at (by omega)
    have c2 := hu2 j hj
    by_cases hm1 : iAt mt j = -1
    ·have HS' : Hid (fillP mt (T.take (k + 1)) = (out, j + 1)) := by
      show _ = _
      rw [HS.out]; unfold fillS; rw [if_pos hx]; dsimp only; rw [if_pos hm1]
     rw [hx] at c0
     rw [hm1] at c2
     clear hu2 HS HC
     go_wp2
     go_roundw
     case rel => exact ⟨k + 1, by omega, by go_num, by rw [HS'.out]; go_num, by rw [HS'.out]; exact ho, hb⟩
     case measure => simp [intOf]; omega
    ·have HS' : Hid (fillP mt (T.take (k + 1)) = (out ++ [iAt mt j], j + 1)) := by
      show _ = _
      rw [HS.out]; unfold fillS; rw [if_pos hx]; dsimp only; rw [if_neg hm1]
     have hm1' : (iAt mt j == -1) = false := by simpa using hm1
     rw [hx] at c0
     generalize iAt mt j = m at c2 hm1 hm1' HS'
     obtain ⟨va, vk, vq, rfl⟩ := ownsRow_form ho
     obtain ⟨v4, W4, hr4, ho4, hb4⟩ := push1w ho hb.size (by omega) m
     obtain ⟨v4a, v4k, v4c, rfl⟩ := ownsRow_form ho4
     clear hu2 HS HC
     go_wp2_with (first | (at_builtin; refine wpList_append_run (u := .slice va vk vq) (y := .slice (some ⟨wr.heap.size, 0, none⟩) 1 1) rfl _ _ 41 rfl rfl rfl hr4 ?_; clear hr4))
     go_roundw
     case rel => exact ⟨k + 1, by omega, by go_num, by rw [HS'.out]; go_num, by rw [HS'.out]; exact ho4, hb.trans hb4⟩
     case measure => simp [intOf]; omega
   ·have HS' : Hid (fillP mt (T.take (k + 1)) = (out ++ [iAt T k], j)) := by
     show _ = _
     rw [HS.out]; unfold fillS; rw [if_neg hx]
    have hx' : (iAt T k == 92) = false := by simpa using hx
    generalize iAt T k = m at c0 hx hx' HS'
    obtain ⟨va, vk, vq, rfl⟩ := ownsRow_form ho
    obtain ⟨v4, W4, hr4, ho4, hb4⟩ := push1w ho hb.size (by omega) m
    obtain ⟨v4a, v4k, v4c, rfl⟩ := ownsRow_form ho4
    clear HS HC
    go_wp2_with (first | (at_builtin; refine wpList_append_run (u := .slice va vk vq) (y := .slice (some ⟨wr.heap.size, 0, none⟩) 1 1) rfl _ _ 41 rfl rfl rfl hr4 ?_; clear hr4))
    go_roundw
    case rel => exact ⟨k + 1, by omega, by go_num, by rw [HS'.out], by rw [HS'.out]; exact ho4, hb.trans hb4⟩
    case measure => simp [intOf]; omega
  ·obtain rfl : k = T.length := by omega
   rw [List.take_length] at ho
   obtain ⟨va, vk, vq, rfl⟩ := ownsRow_form ho
   go_wp2
   go_ret
   exact ⟨_, rfl, ownsRow_mono ho hb1.size, hb1.trans (hb.mono hb1.size)⟩
abbrev Item := Int × Bool
def drI (x : Item) : Int := if x.2 then 92 else x.1
def softI (x : Item) : Bool := !x.2 && blankP x.1
def hards (l : List Item) : List Int := (l.filter (·.2)).map (·.1)
def keepI (x : Item) : Bool := !(x.2 && x.1 == -1)
theorem hards_app (a b : List Item) : hards (a ++ b) = hards a ++ hards b := by simp [hards]
def itP (last : Bool) : Nat -> List Int -> List Item
 | _, [] => []
 | k + 1, _ :: r => itP last k r
 | 0, c :: r => if c = 92 then ((firstP r last).point, true) :: itP last ((firstP r last).size - 1) r else (c, false) :: itP last 0 r
def flP (last : Bool) : Nat -> List Int -> Nat
 | _, [] => 0
 | k + 1, _ :: r => flP last k r
 | 0, c :: r => if c = 92 then (if (firstP r last).fault = 0 then flP last ((firstP r last).size - 1) r else (firstP r last).fault) else flP last 0 r
def opnI (o : Bool) (l : List Item) : Bool := l.foldl (fun o x => if x.2 then x.1 == -1 else o) o
theorem faultOf_flP (last : Bool) : ∀ (l : List Int) (p k : Nat), faultOf (esP last p k l) = flP last k l
 | [], p, k => by simp [esP, flP, faultOf]
 | c :: r, p, k + 1 => by rw [esP, flP]; exact faultOf_flP last r (p + 1) k
 | c :: r, p, 0 => by
  rw [esP, flP]
  by_cases hc : c = 92
  ·rw [if_pos hc, if_pos hc]
   by_cases hf : (firstP r last).fault = 0
   ·rw [if_pos hf, if_pos hf, <- faultOf_flP last r (p + 1) ((firstP r last).size - 1)]
    unfold faultOf
    rw [List.find?_cons_of_neg (by simp [hf])]
   ·rw [if_neg hf, if_neg hf]
    unfold faultOf
    rw [List.find?_cons_of_pos (by simp [hf])]
    rfl
  ·rw [if_neg hc, if_neg hc]; exact faultOf_flP last r (p + 1) 0
theorem dsAt_fold (t cur mt : List Int) (es : List (Nat × Esc)) : ∀ i, dsAt t cur mt es i = (es.take i).foldl (dstep t) ⟨cur, mt, false, 0⟩
 | 0 => by simp [dsAt]
 | i + 1 => by
  rw [dsAt]
  cases h : es[i]? with
  | none =>
   have hl : es.length <= i := by simpa using h
   rw [List.take_of_length_le (by omega)]
   have := dsAt_fold t cur mt es i
   rw [List.take_of_length_le hl] at this
   exact this
  | some x =>
   rw [List.take_add_one, h, Option.toList_some, List.foldl_append, <- dsAt_fold t cur mt es i]
   rfl
theorem ds_items (last : Bool) (t : List Int) : ∀ (l : List Int) (p k : Nat) (s : Ds), t.drop p = l -> (k = 0 /\ s.frm <= p \/ s.frm = p + k) -> flP last k l = 0 ->
  (((esP last p k l).foldl (dstep t) s).line ++ t.drop ((esP last p k l).foldl (dstep t) s).frm = s.line ++ (t.drop s.frm).take (p - s.frm) ++ (itP last k l).map drI) /\
  ((esP last p k l).foldl (dstep t) s).meant = s.meant ++ hards (itP last k l) /\ ((esP last p k l).foldl (dstep t) s).opn = opnI s.opn (itP last k l)
 | [], p, k, s, hl, hk, hf => by
  have hlen : t.length <= p := by simpa using hl
  simp only [esP, itP, List.foldl_nil, List.map_nil, List.append_nil, hards, List.filter_nil, opnI]
  refine ⟨?_, by simp, trivial⟩
  rw [List.take_of_length_le (by rw [List.length_drop]; omega)]
 | c :: r, p, k + 1, s, hl, hk, hf => by
  have hr : t.drop (p + 1) = r := by rw [<- List.drop_drop, hl]; rfl
  have hk' : s.frm = p + (k + 1) := by omega
  have := ds_items last t r (p + 1) k s hr (.inr (by omega)) (by rw [flP] at hf; exact hf)
  rw [esP, itP]
  refine ⟨?_, this.2⟩
  rw [this.1, show p + 1 - s.frm = 0 by omega, show p - s.frm = 0 by omega]
 | c :: r, p, 0, s, hl, hk, hf => by
  have hr : t.drop (p + 1) = r := by rw [<- List.drop_drop, hl]; rfl
  have hlt : p < t.length := by
   have := congrArg List.length hl
   rw [List.length_drop, List.length_cons] at this
   omega
  have hfr : s.frm <= p := by omega
  rw [flP] at hf
  rw [esP, itP]
  by_cases hc : c = 92
  ·rw [if_pos hc] at hf |-
   rw [if_pos hc]
   by_cases hz : (firstP r last).fault = 0
   ·rw [if_pos hz] at hf |-
    have h1 := (firstP_size r last hz).1
    rw [List.foldl_cons]
    have := ds_items last t r (p + 1) ((firstP r last).size - 1) (dstep t s (p, firstP r last)) hr (.inr (by show p + (firstP r last).size = _; omega)) hf
    obtain ⟨i1, i2, i3⟩ := this
    refine ⟨?_, ?_, ?_⟩
    ·rw [i1]
     show s.line ++ (t.drop s.frm).take (p - s.frm) ++ [92] ++ (t.drop (p + (firstP r last).size)).take (p + 1 - (p + (firstP r last).size)) ++ _ = _
     rw [show p + 1 - (p + (firstP r last).size) = 0 by omega, List.take_zero, List.append_nil, List.map_cons]
     simp [drI]
    ·rw [i2]
     show s.meant ++ [(firstP r last).point] ++ _ = _
     simp [hards]
    ·rw [i3]
     show opnI ((firstP r last).point == -1) _ = _
     simp [opnI]
   ·rw [if_neg hz] at hf; exact absurd hf hz
  ·rw [if_neg hc] at hf |-
   rw [if_neg hc]
   obtain ⟨i1, i2, i3⟩ := ds_items last t r (p + 1) 0 s hr (.inl ⟨rfl, by omega⟩) hf
   refine ⟨?_, ?_, ?_⟩
   ·rw [i1, List.map_cons]
    have e1 : (t.drop s.frm).take (p + 1 - s.frm) = (t.drop s.frm).take (p - s.frm) ++ [c] := by
     rw [show p + 1 - s.frm = (p - s.frm) + 1 by omega, List.take_add_one, List.getElem?_drop, show s.frm + (p - s.frm) = p by omega]
     have : t[p]? = some c := by
      have := congrArg (·[0]?) hl
      simpa using this
     rw [this]; rfl
    rw [e1]
    simp [drI]
   ·rw [i2]; simp [hards]
   ·rw [i3]; simp [opnI]
theorem firstP_end (r : List Int) (last : Bool) (hz : (firstP r last).fault = 0) : (firstP r last).point = -1 ↔ r = [] := by
 unfold firstP at hz |-
 cases r with
 | nil => cases last <;> simp at hz |-
 | cons c r =>
  dsimp only at hz |-
  simp only [reduceCtorEq, iff_false]
  split
  ·rename_i h1
   rw [if_pos h1] at hz
   exact (numbP_size r (countP c) hz).2.2
  ·rename_i h1
   rw [if_neg h1] at hz
   cases hs : shortAt c with
   | none => rw [hs] at hz; simp at hz
   | some p =>
    dsimp only
    unfold shortAt at hs
    obtain ⟨x, hx, rfl⟩ := Option.map_eq_some_iff.1 hs
    have := List.mem_of_find?_eq_some hx
    have all : ∀ x ∈ shortsL, x.2 ≠ -1 := by decide
    exact all x this
theorem itP_end (last : Bool) : ∀ (l : List Int) (k : Nat), flP last k l = 0 ->
  (∀ o, opnI o (itP last k l) = true -> (o = true /\ ∀ x ∈ itP last k l, x.2 = false) \/ (∃ u, itP last k l = u ++ [(-1, true)] /\ (∀ x ∈ u, keepI x = true) /\ last = false)) /\
  (∀ o, opnI o (itP last k l) = false -> ∀ x ∈ itP last k l, keepI x = true)
 | [], k, _ => by
  simp only [itP, opnI, List.foldl_nil]
  exact ⟨fun o ho => .inl ⟨ho, by simp⟩, fun o ho x hx => by simp at hx⟩
 | c :: r, k + 1, hf => by rw [flP] at hf; rw [itP]; exact itP_end last r k hf
 | c :: r, 0, hf => by
  rw [flP] at hf
  rw [itP]
  by_cases hc : c = 92
  ·rw [if_pos hc] at hf |-
   by_cases hz : (firstP r last).fault = 0
   ·rw [if_pos hz] at hf
    have he := firstP_end r last hz
    by_cases hp : (firstP r last).point = -1
    ·have hr := he.1 hp
     subst hr
     have hl : last = false := by cases last with | false => rfl | true => simp [firstP] at hz
     subst hl
     refine ⟨fun o _ => .inr ⟨[], by simp [firstP, itP], by simp, rfl⟩, fun o ho => ?_⟩
     simp [firstP, itP, opnI] at ho
    ·obtain ⟨i1, i2⟩ := itP_end last r ((firstP r last).size - 1) hf
     have hb : ((firstP r last).point == -1) = false := by simpa using hp
     have ek : keepI ((firstP r last).point, true) = true := by simp [keepI, hb]
     have eo : ∀ o, opnI o (((firstP r last).point, true) :: itP last ((firstP r last).size - 1) r) = opnI false (itP last ((firstP r last).size - 1) r) := fun o => by simp [opnI, hb]
     refine ⟨fun o ho => ?_, fun o ho x hx => ?_⟩
     ·rw [eo] at ho
      rcases i1 false ho with ⟨h, -⟩ | ⟨u, h1, h2, h3⟩
      ·cases h
      ·exact .inr ⟨_ :: u, by rw [h1]; rfl, List.forall_mem_cons.2 ⟨ek, h2⟩, h3⟩
     ·rw [eo] at ho
      rcases List.mem_cons.1 hx with rfl | hx
      ·exact ek
      ·exact i2 false ho x hx
   ·rw [if_neg hz] at hf; exact absurd hf hz
  ·rw [if_neg hc] at hf |-
   obtain ⟨i1, i2⟩ := itP_end last r 0 hf
   have eo : ∀ o, opnI o ((c, false) :: itP last 0 r) = opnI o (itP last 0 r) := fun o => by simp [opnI]
   refine ⟨fun o ho => ?_, fun o ho x hx => ?_⟩
   ·rw [eo] at ho
    rcases i1 o ho with ⟨h, h'⟩ | ⟨u, h1, h2, h3⟩
    ·exact .inl ⟨h, List.forall_mem_cons.2 ⟨rfl, h'⟩⟩
    ·exact .inr ⟨_ :: u, by rw [h1]; rfl, List.forall_mem_cons.2 ⟨rfl, h2⟩, h3⟩
   ·rw [eo] at ho
    rcases List.mem_cons.1 hx with rfl | hx
    ·rfl
    ·exact i2 o ho x hx
theorem itP_soft (last : Bool) : ∀ (l : List Int) (k : Nat), ∀ x ∈ itP last k l, x.2 = false -> x.1 ≠ 92
 | [], k, x, hx, _ => by simp [itP] at hx
 | c :: r, k + 1, x, hx, h => by rw [itP] at hx; exact itP_soft last r k x hx h
 | c :: r, 0, x, hx, h => by
  rw [itP] at hx
  split at hx
  ·rcases List.mem_cons.1 hx with rfl | hx
   ·cases h
   ·exact itP_soft last r _ x hx h
  ·rename_i hc
   rcases List.mem_cons.1 hx with rfl | hx
   ·exact hc
   ·exact itP_soft last r 0 x hx h
theorem fill_items : ∀ (its : List Item) (pre post : List Int) (o : List Int), (∀ x ∈ its, x.2 = false -> x.1 ≠ 92) ->
  (its.map drI).foldl (fillS (pre ++ hards its ++ post)) (o, pre.length) = (o ++ (its.filter keepI).map (·.1), pre.length + (hards its).length)
 | [], pre, post, o, _ => by simp [hards]
 | (c, true) :: its, pre, post, o, h => by
  have ih := fill_items its (pre ++ [c]) post (if c = -1 then o else o ++ [c]) (fun x hx => h x (by simp [hx]))
  have e : pre ++ hards ((c, true) :: its) ++ post = pre ++ [c] ++ hards its ++ post := by simp [hards]
  rw [e, List.map_cons, List.foldl_cons]
  have e2 : fillS (pre ++ [c] ++ hards its ++ post) (o, pre.length) (drI (c, true)) = (if c = -1 then o else o ++ [c], (pre ++ [c]).length) := by
   unfold fillS drI
   simp only [if_true]
   have : iAt (pre ++ [c] ++ hards its ++ post) pre.length = c := by simp [iAt]
   rw [this]
   split <;> simp
  rw [e2, ih]
  by_cases hc : c = -1
  ·subst hc; simp [keepI, hards]; omega
  ·simp [keepI, hards, hc]; omega
 | (c, false) :: its, pre, post, o, h => by
  have hc := h (c, false) (by simp) rfl
  have ih := fill_items its pre post (o ++ [c]) (fun x hx => h x (by simp [hx]))
  have e : hards ((c, false) :: its) = hards its := by simp [hards]
  rw [e, List.map_cons, List.foldl_cons]
  have e2 : fillS (pre ++ hards its ++ post) (o, pre.length) (drI (c, false)) = (o ++ [c], pre.length) := by
   unfold fillS drI
   simp at hc
   simp [hc]
  rw [e2, ih]
  simp [keepI]
theorem fillP_items (its : List Item) (h : ∀ x ∈ its, x.2 = false -> x.1 ≠ 92) : fillP (hards its) (its.map drI) = ((its.filter keepI).map (·.1), (hards its).length) := by
 have := fill_items its [] [] [] h
 simpa [fillP] using this
theorem count_items : ∀ (its : List Item), (∀ x ∈ its, x.2 = false -> x.1 ≠ 92) -> (its.map drI).count 92 = (hards its).length
 | [], _ => by simp [hards]
 | (c, true) :: its, h => by
  have ih := count_items its (fun x hx => h x (by simp [hx]))
  simp [drI, hards] at ih |-
  exact ih
 | (c, false) :: its, h => by
  have hc := h (c, false) (by simp) rfl
  have ih := count_items its (fun x hx => h x (by simp [hx]))
  simp at hc
  simp [drI, hards, hc] at ih |-
  exact ih
def lAt (ls : List (List Int)) (k : Nat) : List Int := ls[k]?.getD []
def lnT (o : Bool) (t : List Int) : List Int := if o then dropF t else t
structure Si where
 L : List (List Item)
 C : List Item
 o : Bool
def siNext (s : Si) (t : List Int) (last : Bool) : Si :=
 if opnI false (itP last 0 (lnT s.o t)) then ⟨s.L, s.C ++ itP last 0 (lnT s.o t), true⟩ else ⟨s.L ++ [s.C ++ itP last 0 (lnT s.o t)], [], false⟩
def siAt (ls : List (List Int)) : Nat -> Si
 | 0 => ⟨[], [], false⟩
 | k + 1 => siNext (siAt ls k) (lAt ls k) (decide (k + 1 = ls.length))
def flAt (ls : List (List Int)) (k : Nat) : Nat := flP (decide (k + 1 = ls.length)) 0 (lnT (siAt ls k).o (lAt ls k))
def readE (ls : List (List Int)) : Nat := (((List.range ls.length).find? fun k => decide (flAt ls k ≠ 0)).map (flAt ls)).getD 0
def trimI (f b : Bool) (u : List Item) : List Item :=
 if b then ((if f then u.dropWhile softI else u).reverse.dropWhile softI).reverse else (if f then u.dropWhile softI else u)
def sepJ (f : Bool) (e : Nat) : List Item := if f = true /\ e = 0 then [(32, false)] else List.replicate e (10, false)
def gstep (f b : Bool) (st : List Item × Nat) (u : List Item) : List Item × Nat :=
 if f = true /\ b = true /\ trimI f b u = [] then (st.1, st.2 + 1) else (st.1 ++ sepJ f st.2 ++ trimI f b u, 0)
def gAt (L : List (List Item)) (k : Nat) : List Item := L[k]?.getD []
def flI (L : List (List Item)) : Nat -> List Item × Nat
 | 0 => ([], 0)
 | k + 1 => gstep (decide (0 < k)) (decide (k + 1 < L.length)) (flI L k) (gAt L k)
def readT (ls : List (List Int)) : List Int := ((flI (siAt ls ls.length).L (siAt ls ls.length).L.length).1.filter keepI).map (·.1)
theorem soft_map (x : Item) : blankP (drI x) = softI x := by
 obtain ⟨c, h⟩ := x
 cases h <;> simp [drI, softI, blankP]
theorem dropW_map : ∀ u : List Item, (u.map drI).dropWhile blankP = (u.dropWhile softI).map drI
 | [] => rfl
 | x :: u => by
  rw [List.map_cons, List.dropWhile_cons, List.dropWhile_cons, soft_map]
  split
  ·exact dropW_map u
  ·rfl
theorem trim_map (f b : Bool) (u : List Item) : trimF f b (u.map drI) = (trimI f b u).map drI := by
 unfold trimF trimI dropF dropB
 cases f <;> cases b <;> simp only [Bool.false_eq_true, if_false, if_true]
 ·rw [<- List.map_reverse, dropW_map, List.map_reverse]
 ·rw [dropW_map]
 ·rw [dropW_map, <- List.map_reverse, dropW_map, List.map_reverse]
theorem flS_items {R : List Row} {L : List (List Item)} (h : R.map (·.t) = L.map (·.map drI)) : ∀ k, (flS R k).1 = (flI L k).1.map drI /\ (flS R k).2 = (flI L k).2
 | 0 => ⟨rfl, rfl⟩
 | k + 1 => by
  obtain ⟨h1, h2⟩ := flS_items h k
  have hlen : R.length = L.length := by have := congrArg List.length h; simpa using this
  have ht : tAt R k = (gAt L k).map drI := by
   unfold tAt gAt
   have := congrArg (·[k]?) h
   simp only [List.getElem?_map] at this
   rw [this]
   cases L[k]? <;> rfl
  have hg : trimG R k = (trimI (decide (0 < k)) (decide (k + 1 < L.length)) (gAt L k)).map drI := by
   unfold trimG
   rw [ht, trim_map, hlen]
  rw [flS, flI]
  unfold gstep tellF
  rw [hg, List.length_map, hlen]
  generalize trimI (decide (0 < k)) (decide (k + 1 < L.length)) (gAt L k) = u
  by_cases hk : 0 < k
  ·by_cases hl : k + 1 < L.length
   ·by_cases hu : u = []
    ·subst hu
     simp [hk, hl, h1, h2]
    ·have hu' : u.length ≠ 0 := fun e => hu (List.eq_nil_of_length_eq_zero e)
     simp only [hk, hl, decide_true, Bool.and_self, Bool.true_and, hu', decide_false, Bool.not_false, if_true, hu, and_false, if_false, List.map_append, h1, h2]
     refine ⟨?_, trivial⟩
     unfold sepR sepJ
     simp only [hk, true_and]
     split <;> simp [drI]
   ·simp only [hk, hl, decide_true, decide_false, Bool.and_false, Bool.false_and, Bool.not_false, if_true, Bool.false_eq_true, false_and, and_false, if_false, List.map_append, h1, h2]
    refine ⟨?_, trivial⟩
    unfold sepR sepJ
    simp only [hk, true_and]
    split <;> simp [drI]
  ·simp only [hk, decide_false, Bool.false_and, Bool.not_false, if_true, Bool.false_eq_true, false_and, if_false, List.map_append, h1, h2]
   refine ⟨?_, trivial⟩
   unfold sepR sepJ
   simp [hk, drI]
theorem hards_soft {u : List Item} (h : ∀ x ∈ u, softI x = true) : hards u = [] := by
 unfold hards
 rw [List.map_eq_nil_iff, List.filter_eq_nil_iff]
 intro x hx
 have := h x hx
 unfold softI at this
 simp at this
 simp [this.1]
theorem hards_drop (u : List Item) : hards (u.dropWhile softI) = hards u := by
 have h := List.takeWhile_append_dropWhile (p := softI) (l := u)
 have h1 : hards (u.takeWhile softI) = [] := hards_soft (fun x hx => by
  have := List.all_takeWhile (p := softI) (l := u)
  rw [List.all_eq_true] at this
  exact this x hx)
 have h2 := congrArg hards h
 rw [hards_app, h1, List.nil_append] at h2
 exact h2
theorem hards_rev (u : List Item) : hards u.reverse = (hards u).reverse := by simp [hards]
theorem hards_trim (f b : Bool) (u : List Item) : hards (trimI f b u) = hards u := by
 unfold trimI
 cases f <;> cases b <;> simp only [Bool.false_eq_true, if_false, if_true]
 ·rw [hards_rev, hards_drop, hards_rev, List.reverse_reverse]
 ·rw [hards_drop]
 ·rw [hards_rev, hards_drop, hards_rev, List.reverse_reverse, hards_drop]
theorem hards_sep (f : Bool) (e : Nat) : hards (sepJ f e) = [] := by
 unfold sepJ
 split
 ·simp [hards]
 ·simp [hards]
theorem hards_fl (L : List (List Item)) : ∀ k, k <= L.length -> hards (flI L k).1 = hards (L.take k).flatten
 | 0, _ => by simp [flI, hards]
 | k + 1, hk => by
  have ih := hards_fl L k (by omega)
  have e : L.take (k + 1) = L.take k ++ [gAt L k] := by
   rw [List.take_add_one]
   simp [gAt, List.getElem?_eq_getElem (show k < L.length by omega)]
  rw [e, List.flatten_append, hards_app, flI]
  unfold gstep
  split
  ·rename_i h
   have := hards_trim (decide (0 < k)) (decide (k + 1 < L.length)) (gAt L k)
   rw [h.2.2] at this
   simp only [List.flatten_cons, List.flatten_nil, List.append_nil]
   rw [<- this, ih]
   simp [hards]
  ·simp only [List.flatten_cons, List.flatten_nil, List.append_nil]
   rw [hards_app, hards_app, hards_sep, hards_trim, ih, List.append_nil]
def okI (u : List Item) : Prop := ∀ x ∈ u, x.2 = false -> x.1 ≠ 92
theorem okI_app {a b : List Item} (ha : okI a) (hb : okI b) : okI (a ++ b) := fun x hx => by
 rcases List.mem_append.1 hx with h | h
 ·exact ha x h
 ·exact hb x h
theorem okI_trim {f b : Bool} {u : List Item} (h : okI u) : okI (trimI f b u) := by
 have h1 : ∀ v : List Item, okI v -> okI (v.dropWhile softI) := fun v hv x hx => hv x ((List.dropWhile_sublist softI).subset hx)
 have h2 : ∀ v : List Item, okI v -> okI v.reverse := fun v hv x hx => hv x (List.mem_reverse.1 hx)
 unfold trimI
 cases f <;> cases b <;> simp only [Bool.false_eq_true, if_false, if_true]
 ·exact h
 ·exact h2 _ (h1 _ (h2 _ h))
 ·exact h1 _ h
 ·exact h2 _ (h1 _ (h2 _ (h1 _ h)))
theorem okI_sep (f : Bool) (e : Nat) : okI (sepJ f e) := by
 unfold sepJ
 split
 ·intro x hx; simp at hx; subst hx; simp
 ·intro x hx; have := List.eq_of_mem_replicate hx; subst this; simp
theorem okI_fl {L : List (List Item)} (h : ∀ u ∈ L, okI u) : ∀ k, okI (flI L k).1
 | 0 => by intro x hx; simp [flI] at hx
 | k + 1 => by
  have ih := okI_fl h k
  have hg : okI (gAt L k) := by
   unfold gAt
   cases hL : L[k]? with
   | none => intro x hx; simp at hx
   | some u => exact h u (List.mem_of_getElem? hL)
  rw [flI]
  unfold gstep
  split
  ·exact ih
  ·exact okI_app (okI_app ih (okI_sep _ _)) (okI_trim hg)
theorem itP_len (last : Bool) : ∀ (l : List Int) (k : Nat), (itP last k l).length <= l.length
 | [], k => by simp [itP]
 | c :: r, k + 1 => by rw [itP, List.length_cons]; have := itP_len last r k; omega
 | c :: r, 0 => by
  rw [itP]
  split
  ·rw [List.length_cons, List.length_cons]; have := itP_len last r ((firstP r last).size - 1); omega
  ·rw [List.length_cons, List.length_cons]; have := itP_len last r 0; omega
def totK (ls : List (List Int)) : Nat -> Nat
 | 0 => 0
 | k + 1 => totK ls k + (lAt ls k).length
theorem totK_mono (ls : List (List Int)) {j k : Nat} (h : j <= k) : totK ls j <= totK ls k := by
 induction k with
 | zero => rw [show j = 0 by omega]; exact Nat.le_refl _
 | succ k ih =>
  by_cases e : j = k + 1
  ·subst e; exact Nat.le_refl _
  ·have := ih (by omega); rw [totK]; omega
theorem lnT_len (o : Bool) (t : List Int) : (lnT o t).length <= t.length := by
 unfold lnT
 split
 ·exact dropF_le t
 ·exact Nat.le_refl _
theorem si_size (ls : List (List Int)) : ∀ k, ((siAt ls k).L.flatten ++ (siAt ls k).C).length <= totK ls k /\ (siAt ls k).L.length <= k /\ (∀ u ∈ (siAt ls k).L, okI u) /\ okI (siAt ls k).C /\ ((siAt ls k).o = false -> (siAt ls k).C = [])
 | 0 => ⟨by simp [siAt], by simp [siAt], by simp [siAt], by intro x hx; simp [siAt] at hx, fun _ => rfl⟩
 | k + 1 => by
  obtain ⟨h1, h2, h3, h4, h5⟩ := si_size ls k
  have h6 := itP_len (decide (k + 1 = ls.length)) (lnT (siAt ls k).o (lAt ls k)) 0
  have h7 := lnT_len (siAt ls k).o (lAt ls k)
  have h8 : okI (itP (decide (k + 1 = ls.length)) 0 (lnT (siAt ls k).o (lAt ls k))) := itP_soft _ _ _
  rw [siAt, totK]
  unfold siNext
  rw [List.length_append] at h1
  split
  ·refine ⟨?_, by dsimp only; omega, h3, okI_app h4 h8, fun e => by cases e⟩
   dsimp only
   rw [List.length_append, List.length_append]
   omega
  ·refine ⟨?_, by simp; omega, ?_, fun x hx => by simp at hx, fun _ => rfl⟩
   ·simp only [List.flatten_append, List.flatten_cons, List.flatten_nil, List.append_nil, List.length_append, List.length_nil]
    omega
   ·intro u hu
    rcases List.mem_append.1 hu with hu | hu
    ·exact h3 u hu
    ·simp at hu; subst hu; exact okI_app h4 h8
theorem hards_len (u : List Item) : (hards u).length <= u.length := by
 unfold hards
 rw [List.length_map]
 exact List.length_filter_le _ _
theorem flat_le : ∀ (L : List (List Item)) (u : List Item), u ∈ L -> u.length <= L.flatten.length
 | a :: L, u, h => by
  rw [List.flatten_cons, List.length_append]
  rcases List.mem_cons.1 h with rfl | h
  ·omega
  ·have := flat_le L u h; omega
theorem si_last (ls : List (List Int)) (h : ∀ k, k < ls.length -> flAt ls k = 0) : (siAt ls ls.length).o = false /\ (siAt ls ls.length).C = [] := by
 cases hn : ls.length with
 | zero => exact ⟨rfl, rfl⟩
 | succ n =>
  have hf := h n (by omega)
  unfold flAt at hf
  rw [hn] at hf
  simp only [decide_true] at hf
  rw [siAt]
  unfold siNext
  rw [hn]
  simp only [decide_true]
  have := (itP_end true (lnT (siAt ls n).o (lAt ls n)) 0 hf).1 false
  split
  ·rename_i ho
   rcases this ho with ⟨e, -⟩ | ⟨_, _, _, e⟩ <;> cases e
  ·exact ⟨rfl, rfl⟩
theorem readE_first {ls : List (List Int)} {k : Nat} (hk : k < ls.length) (h : ∀ j, j < k -> flAt ls j = 0) (hf : flAt ls k ≠ 0) : readE ls = flAt ls k := by
 unfold readE
 have : (List.range ls.length).find? (fun k => decide (flAt ls k ≠ 0)) = some k := by
  rw [List.find?_eq_some_iff_getElem]
  refine ⟨by simpa using hf, k, by simpa using hk, by simp, fun j hj => ?_⟩
  simpa using h j hj
 rw [this]; rfl
theorem readE_none {ls : List (List Int)} (h : ∀ k, k < ls.length -> flAt ls k = 0) : readE ls = 0 := by
 unfold readE
 have : (List.range ls.length).find? (fun k => decide (flAt ls k ≠ 0)) = none := by
  rw [List.find?_eq_none]
  intro k hk
  simpa using h k (List.mem_range.1 hk)
 rw [this]; rfl
theorem round_fin {n0 D s i at' sz f : Nat} {Y : Nat -> Prop} {W0 W W7 : World} {vl vc' vm' : Value} {R : List Row} {sl : Value} {T cur mt ln mn u : List Int} {opn : Bool} {es : List (Nat × Esc)} {pt : Int} (a : Act)
  (hd : Dr n0 D Y W7 vl vc' vm' R (ln ++ u ++ [92]) opn (mn ++ [pt])) (H0 : Boxed W7 s 212 (.pointer (some ⟨D, 0, none⟩))) (H1 : Boxed W7 (s + 1) 41 sl) (H2 : Boxed W7 (s + 1 + 1) 28 (.int .i64 0)) (H3 : Boxed W7 (s + 1 + 1 + 1) 3 (.int .i64 (f : Nat)))
  (X0 : Y s) (X1 : Y (s + 1)) (X2 : Y (s + 1 + 1)) (X3 : Y (s + 1 + 1 + 1)) (X4 : Y (s + 1 + 1 + 1 + 1)) (X5 : Y (s + 1 + 1 + 1 + 1 + 1)) (hns : n0 <= s)
  (k7 : Kb n0 (s + 1 + 1 + 1 + 1) (s + 1 + 1 + 1 + 1 + 1) W W7) (hbW : Below n0 W0 W) (HDS : dsAt T cur mt es (i + 1) = dstep T ⟨ln, mn, opn, f⟩ (at', ⟨sz, pt, 0⟩)) (HU : (T.drop f).take (at' - f) = u)
  (OK1 : ∀ j y, j < i + 1 -> es[j]? = some y -> y.2.fault = 0) (B : Nat) :
  postT B (Ke n0 (s + 1 + 1 + 1 + 1) (s + 1 + 1 + 1 + 1 + 1)) (Iad n0 D Y s W0 vl R sl T cur mt es) (Ixd n0 s W0 es) (i + 1) W .normal a ((W7.setCell ⟨D, 2, none⟩ (.bool (pt == -1))).setCell ⟨s + 1 + 1 + 1, 0, none⟩ (.int .i64 ((at' : Int) + (sz : Int)))) := by
 have hd8 := hd.setOpen (pt == -1)
 have k8 := k7.trans (hd.kbD X4 X5 W7 (Nat.le_refl _) hd.blk 2 (.bool (pt == -1)))
 have J0 := hd.boxD 2 (.bool (pt == -1)) X0 H0
 have J1 := hd.boxD 2 (.bool (pt == -1)) X1 H1
 have J2 := hd.boxD 2 (.bool (pt == -1)) X2 H2
 have J3 := hd.boxD 2 (.bool (pt == -1)) X3 H3
 generalize W7.setCell ⟨D, 2, none⟩ (.bool (pt == -1)) = W8 at hd8 k8 J0 J1 J2 J3 |-
 have k9 : Kb n0 (s + 1 + 1 + 1 + 1) (s + 1 + 1 + 1 + 1 + 1) W (W8.setCell ⟨s + 1 + 1 + 1, 0, none⟩ (.int .i64 ((at' : Int) + (sz : Int)))) :=
  k8.trans (Kb.step (set_row W8 ⟨s + 1 + 1 + 1, 0, none⟩ _) hd8.size (hd8.xs _ X4).1 (hd8.xs _ X5).1 (fun r e => by
   cases e
   exact ⟨by show n0 <= s + 1 + 1 + 1; omega, by show s + 1 + 1 + 1 ≠ _; omega, by show s + 1 + 1 + 1 ≠ _; omega, _, 3, _, J3, by decide⟩))
 have hd9 := hd8.setX (a := ⟨s + 1 + 1 + 1, 0, none⟩) X3 (.int .i64 ((at' : Int) + (sz : Int)))
 refine ⟨k9.o.from _, k9.e, ⟨⟨vc', vm', ?_⟩, OK1, J0.other (by omega) _, J1.other (by omega) _, J2.other (by omega) _, ?_, hbW.trans k9.e.below⟩⟩
 ·rw [HDS]
  show Dr n0 D Y _ vl vc' vm' R (ln ++ (T.drop f).take (at' - f) ++ [92]) (pt == -1) (mn ++ [pt])
  rw [HU]
  exact hd9
 ·rw [HDS]
  show Boxed _ _ 3 (.int .i64 ((at' + sz : Nat) : Int))
  rw [Int.natCast_add]
  exact J3.set _
theorem round_ret {n0 D s i ft : Nat} {Y : Nat -> Prop} {W0 W : World} {vl vc vm : Value} {R : List Row} {sl : Value} {T cur mt ln mn : List Int} {opn : Bool} {es : List (Nat × Esc)} (a : Act)
  (hd : Dr n0 D Y W vl vc vm R ln opn mn) (A2 : Boxed W (s + 1 + 1) 28 (.int .i64 0)) (X4 : Y (s + 1 + 1 + 1 + 1)) (X5 : Y (s + 1 + 1 + 1 + 1 + 1)) (hns : n0 <= s) (hbW : Below n0 W0 W) (hf : ft ≠ 0) (hfl : faultOf es = ft) (B : Nat) :
  postT B (Ke n0 (s + 1 + 1 + 1 + 1) (s + 1 + 1 + 1 + 1 + 1)) (Iad n0 D Y s W0 vl R sl T cur mt es) (Ixd n0 s W0 es) (i + 1) W .ret a (W.setCell ⟨s + 1 + 1, 0, none⟩ (.int .i64 (ft : Nat))) := by
 have k9 : Kb n0 (s + 1 + 1 + 1 + 1) (s + 1 + 1 + 1 + 1 + 1) W (W.setCell ⟨s + 1 + 1, 0, none⟩ (.int .i64 (ft : Nat))) :=
  Kb.step (set_row W ⟨s + 1 + 1, 0, none⟩ _) hd.size (hd.xs _ X4).1 (hd.xs _ X5).1 (fun r e => by
   cases e
   exact ⟨by show n0 <= s + 1 + 1; omega, by show s + 1 + 1 ≠ _; omega, by show s + 1 + 1 ≠ _; omega, _, 28, _, A2, by decide⟩)
 exact ⟨k9.o.from _, rfl, by rw [hfl]; exact hf, by rw [hfl]; exact A2.set _, hbW.trans k9.e.below⟩
theorem Dr.kbL {n0 D B1 B2 : Nat} {X : Nat -> Prop} {W W1 : World} {vl vc vm : Value} {R : List Row} {cur mt : List Int} {op : Bool} (h : Dr n0 D X W vl vc vm R cur op mt) (x1 : X B1) (x2 : X B2) (hg : W.grownBy W1 vl.ownBlock) : Kb n0 B1 B2 W W1 :=
 Kb.step hg h.size (h.xs B1 x1).1 (h.xs B2 x2).1 (fun r e => by
  obtain ⟨h1, -, cu, h2⟩ := ownsM_cells h.l e
  exact ⟨h1, fun ee => (h.xs B1 x1).2.2.1 (ee ▸ e), fun ee => (h.xs B2 x2).2.2.1 (ee ▸ e), cu, 41, _, h2, by decide⟩)
theorem results_box {fn : Func} {p : Tmp} (h : fn.results = #[.cell p 28]) {tmps : Array Value} {W : World} {b : Nat} {v : Value} (hp : tmps.getD p undef = .pointer (some ⟨b, 0, none⟩)) (hv : Boxed W b 28 v) :
  (results fn tmps).run Tryz.prog W = .ok v W := by
 have hp' : tmps[p]?.getD undef = .pointer (some ⟨b, 0, none⟩) := by simpa using hp
 have c := hv.cell
 simp [results, h, hp', asAddr, go_sem, c]
end Go.Proofs.YtipbhdhiklmieaaGreatDoor.P7
