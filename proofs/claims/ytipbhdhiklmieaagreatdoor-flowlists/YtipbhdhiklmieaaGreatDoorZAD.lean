/- The walk: next, goOn. -/
import Derived.Test.YtipbhdhiklmieaaGreatDoorZAC
set_option linter.all false
set_option maxRecDepth 100000
set_option maxHeartbeats 4000000
namespace Go.Proofs.YtipbhdhiklmieaaGreatDoor
open Go.RowKit Go.Shelf
attribute [local go_sem] Oper.semAt_some
structure LowL (O : Orc) : Prop where
 mark : ∃ mk : Lp -> Int, (∀ x, O.marker x = decide (mk x ≠ 0)) /\ ∀ (x : Ln) (W : World), x.t.length <= 1300 -> (x.t.length <= x.c /\ x.c <= maxLen /\ Is W x.q x.t) -> Calls Tryz.prog 141 #[x.v] W fun en w' => en = .returned (.int .i64 (mk x.lp)) /\ Below W.heap.size W w'
 empty : ∀ (x : Ln) (W : World), x.t.length <= 1300 -> (x.t.length <= x.c /\ x.c <= maxLen /\ Is W x.q x.t) -> Calls Tryz.prog 151 #[x.v] W fun en w' => en = .returned (.bool (O.empty x.lp)) /\ Below W.heap.size W w'
 bare : ∀ (x : Ln) (W : World), x.t.length <= 1300 -> (x.t.length <= x.c /\ x.c <= maxLen /\ Is W x.q x.t) -> Calls Tryz.prog 157 #[x.v] W fun en w' => en = .returned (.bool (O.bare x.lp)) /\ Below W.heap.size W w'
def nexV : Except Int (Option Pl) -> Value
 | .error c => .tuple #[.agg #[.int .i64 0, .int .i64 0], .bool false, .int .i64 c]
 | .ok none => .tuple #[.agg #[.int .i64 0, .int .i64 0], .bool false, .int .i64 0]
 | .ok (some q) => .tuple #[q.v, .bool true, .int .i64 0]
theorem boxed_below {A C : World} {b : Nat} {ty : TypeId} {v : Value} (hv : Boxed A b ty v) (h : Below A.heap.size A C) : Boxed C b ty v :=
 (h.block b (Array.getElem?_eq_some_iff.1 (show A.heap[b]? = _ from hv)).1).trans hv
theorem low_own {B : Nat} {P : World -> Prop} (hP : ∀ A C : World, C.os = A.os -> C.tape = A.tape -> C.output = A.output -> A.heap.size <= C.heap.size -> (∀ k, k < B -> k < A.heap.size -> C.heap[k]? = A.heap[k]?) -> P A -> P C) : OwnFrom B (fun (_ : Nat) W => P W) :=
 fun _ W W' row h hg hr => hP W W' hg.os hg.tape hg.output hg.size (fun k hk hl => hg.block k hl (fun e => by have := (hr k e.symm).1; omega)) h
def NxX (w W3 : World) (b2 b3 b4 : Nat) (R : Except Int (Option Pl)) (c : Code) (W : World) : Prop :=
 W3.heap.size <= W.heap.size /\ Below w.heap.size w W /\ ((c = .ret /\ ∃ (i k : Int) (st : Bool) (e : Int), Bx W b2 i k /\ Boxed W b3 4 (.bool st) /\ Boxed W b4 28 (.int .i64 e) /\ nexV R = .tuple #[.agg #[.int .i64 i, .int .i64 k], .bool st, .int .i64 e]) \/ (c = .exit 0 /\ Below W3.heap.size W3 W /\ R = .ok none))
theorem NxX.own {w W3 : World} {b2 b3 b4 : Nat} {R : Except Int (Option Pl)} (c : Code) (hw : w.heap.size <= W3.heap.size) (h2 : b2 < W3.heap.size) (h3 : b3 < W3.heap.size) (h4 : b4 < W3.heap.size) : OwnFrom W3.heap.size (fun (_ : Nat) W => NxX w W3 b2 b3 b4 R c W) := by
 refine low_own fun A C e1 e2 e3 hs hk h => ?_
 obtain ⟨s0, s1, s2⟩ := h
 refine ⟨by omega, ⟨e1.trans s1.os, e2.trans s1.tape, e3.trans s1.output, Nat.le_trans s1.size hs, fun k hk2 => (hk k (by omega) (by omega)).trans (s1.block k hk2)⟩, ?_⟩
 rcases s2 with ⟨hc, i, k, st, e, x1, x2, x3, x4⟩ | ⟨hc, x1, x2⟩
 ·exact .inl ⟨hc, i, k, st, e, (hk b2 h2 (by omega)).trans x1, (hk b3 h3 (by omega)).trans x2, (hk b4 h4 (by omega)).trans x3, x4⟩
 ·exact .inr ⟨hc, ⟨e1.trans x1.os, e2.trans x1.tape, e3.trans x1.output, Nat.le_trans x1.size hs, fun k hk2 => (hk k hk2 (by omega)).trans (x1.block k hk2)⟩, x2⟩
theorem results_nx {fn : Func} {r s t : Tmp} (h : fn.results = #[.cell r 60, .cell s 4, .cell t 28]) {tmps : Array Value} {W : World} {b2 b3 b4 : Nat} {i k e : Int} {st : Bool} (h1 : tmps.getD r undef = .pointer (some ⟨b2, 0, none⟩)) (h2 : tmps.getD s undef = .pointer (some ⟨b3, 0, none⟩)) (h3 : tmps.getD t undef = .pointer (some ⟨b4, 0, none⟩))
  (x1 : Bx W b2 i k) (x2 : Boxed W b3 4 (.bool st)) (x3 : Boxed W b4 28 (.int .i64 e)) : (results fn tmps).run Tryz.prog W = .ok (.tuple #[.agg #[.int .i64 i, .int .i64 k], .bool st, .int .i64 e]) W := by
 have h1' : tmps[r]?.getD undef = .pointer (some ⟨b2, 0, none⟩) := by simpa using h1
 have h2' : tmps[s]?.getD undef = .pointer (some ⟨b3, 0, none⟩) := by simpa using h2
 have h3' : tmps[t]?.getD undef = .pointer (some ⟨b4, 0, none⟩) := by simpa using h3
 have c0 := x1.cell 0
 have c1 := x1.cell 1
 have c2 := x2.cell
 have c3 := x3.cell
 simp at c0 c1
 simp [results, h, h1', h2', h3', asAddr, go_sem, c0, c1, c2, c3]
theorem nexF_step {E : Env} {p : Pl} {O : Orc} {n : Int} {i : Nat} {fb : Bool} {ln : Ln} (hi : p.i + i < E.M.length) (hl : E.M[p.i + i]? = some ln) :
  nexF O E.L n (E.M.length - p.i - i) (pAt p i) fb = if fb = false /\ O.marker ln.lp = true then .ok none else if linW O E.L (pasW O E.L (pAt p i)) then nexF O E.L n (E.M.length - p.i - (i + 1)) (pAt p (i + 1)) false else if fb = false /\ ln.n <= n then .error 7 else .ok (some (pasW O E.L (pAt p i))) := by
 obtain ⟨f, hf⟩ : ∃ f, E.M.length - p.i - i = f + 1 := ⟨E.M.length - p.i - i - 1, by omega⟩
 have hl2 : E.L[(pAt p i).i]? = some ln.lp := by rw [pAt_i, Env.L, List.getElem?_map, hl]; rfl
 have hf2 : E.M.length - p.i - (i + 1) = f := by omega
 have hp2 : pAt p (i + 1) = ⟨(pAt p i).i + 1, 0⟩ := by rw [pAt_i]; unfold pAt; rw [if_neg (by omega)]; rfl
 rw [hf, nexF, hl2, hf2, hp2]
 rfl
theorem Okp.at {E : Env} {p : Pl} (hp : Okp E p) {i : Nat} (hi : p.i + i < E.M.length) : Okp E (pAt p i) := by
 unfold pAt
 split
 ·exact hp
 ·exact ⟨_, List.getElem?_eq_getElem hi, Nat.zero_le _⟩
theorem Okp.past {E : Env} {p : Pl} {O : Orc} (hp : Okp E p) : Okp E (pasW O E.L p) := by
 obtain ⟨x, hx, hk⟩ := hp
 refine ⟨x, hx, ?_⟩
 have := O.past_le (rst E.L p)
 rw [rst_at hx, List.length_drop] at this
 show p.k + O.past (rst E.L p) <= _
 rw [rst_at hx]
 omega
theorem nx_fin {w W3 W V : World} {b2 b3 b4 : Nat} {R : Except Int (Option Pl)} (hw : Below w.heap.size w W3) (h3 : Below W3.heap.size W3 V) (hK : KeepsFrom W3.heap.size W V) (l2 : w.heap.size <= b2) (l3 : b2 < b3) (l4 : b3 < b4) (l5 : b4 < W3.heap.size)
  (x2 : Bx W3 b2 0 0) (x3 : Boxed W3 b3 4 (.bool false)) (x4 : Boxed W3 b4 28 (.int .i64 0)) (i k : Int) (st : Bool) (e : Int) (hR : nexV R = .tuple #[.agg #[.int .i64 i, .int .i64 k], .bool st, .int .i64 e]) :
  KeepsFrom W3.heap.size W ((((V.setCell ⟨b2, 0, none⟩ (.int .i64 i)).setCell ⟨b2, 1, none⟩ (.int .i64 k)).setCell ⟨b3, 0, none⟩ (.bool st)).setCell ⟨b4, 0, none⟩ (.int .i64 e)) /\
   NxX w W3 b2 b3 b4 R .ret ((((V.setCell ⟨b2, 0, none⟩ (.int .i64 i)).setCell ⟨b2, 1, none⟩ (.int .i64 k)).setCell ⟨b3, 0, none⟩ (.bool st)).setCell ⟨b4, 0, none⟩ (.int .i64 e)) := by
 have s1 := h3.size
 have s2 := hK.size
 refine ⟨⟨by simp [World.setCell]; exact s2, fun j o hj ho hc => ?_⟩, by simp [World.setCell]; exact s1, ?_, .inl ⟨rfl, i, k, st, e, ?_, ?_, ?_, hR⟩⟩
 ·rw [Below.heap_setCell _ _ _ _ (show j ≠ b4 by omega), Below.heap_setCell _ _ _ _ (show j ≠ b3 by omega), Below.heap_setCell _ _ _ _ (show j ≠ b2 by omega), Below.heap_setCell _ _ _ _ (show j ≠ b2 by omega)]
  exact hK.same j o hj ho hc
 ·exact ((((hw.trans (h3.mono hw.size)).setCell (p := ⟨b2, 0, none⟩) l2 _).setCell (p := ⟨b2, 1, none⟩) l2 _).setCell (p := ⟨b3, 0, none⟩) (show w.heap.size <= b3 by omega) _).setCell (p := ⟨b4, 0, none⟩) (show w.heap.size <= b4 by omega) _
 ·exact (((x2.on h3).put i k).other _ (by omega)).other _ (by omega)
 ·have y3 : Boxed ((V.setCell ⟨b2, 0, none⟩ (.int .i64 i)).setCell ⟨b2, 1, none⟩ (.int .i64 k)) b3 4 (.bool false) := (Below.heap_setCell _ _ _ _ (show b3 ≠ b2 by omega)).trans ((Below.heap_setCell _ _ _ _ (show b3 ≠ b2 by omega)).trans (boxed_below x3 h3))
  exact (Below.heap_setCell _ _ _ _ (show b3 ≠ b4 by omega)).trans (y3.set (.bool st))
 ·have y4 : Boxed (((V.setCell ⟨b2, 0, none⟩ (.int .i64 i)).setCell ⟨b2, 1, none⟩ (.int .i64 k)).setCell ⟨b3, 0, none⟩ (.bool st)) b4 28 (.int .i64 0) := (Below.heap_setCell _ _ _ _ (show b4 ≠ b3 by omega)).trans ((Below.heap_setCell _ _ _ _ (show b4 ≠ b2 by omega)).trans ((Below.heap_setCell _ _ _ _ (show b4 ≠ b2 by omega)).trans (boxed_below x4 h3)))
  exact y4.set (.int .i64 e)
theorem bel_put {B D : Nat} {w W : World} (h : Below B w W) (hD : B <= D) (o : Obj) : Below B w (W.putObj D o) :=
 ⟨h.os, h.tape, h.output, by simp [World.putObj]; exact h.size, fun k hk => (World.putObj_heap_other (by omega)).trans (h.block k hk)⟩
theorem bx_put {W : World} {b D : Nat} {i k : Int} (h : Bx W b i k) (hD : b ≠ D) (o : Obj) : Bx (W.putObj D o) b i k := (World.putObj_heap_other hD).trans h
theorem boxed_put' {W : World} {b D : Nat} {ty : TypeId} {v : Value} (h : Boxed W b ty v) (hD : b ≠ D) (o : Obj) : Boxed (W.putObj D o) b ty v := (World.putObj_heap_other hD).trans h
theorem keeps_qk {B b : Nat} {W V : World} {c : Array Value} {t : TypeId} {r : Nat × Nat} (hq : Qk b W V) (hb : W.heap[b]? = some (.cells c t r)) : KeepsFrom B W V :=
 ⟨hq.size, fun k o _ ho hc => by
  have hk : k ≠ b := fun e => by rw [e, hb] at ho; cases ho; cases hc
  exact (hq.same k (Array.getElem?_eq_some_iff.1 ho).1 hk).trans ho⟩
abbrev yzad1 (wb : Nat) (p : Pl) : List Obj := [(.cells #[.pointer (some ⟨wb, 0, none⟩)] 93), (.cells #[.int .i64 (p.i : Nat), .int .i64 (p.k : Nat)] 60), (.cells #[.int .i64 0, .int .i64 0] 60), (.cells #[.bool false] 4), (.cells #[.int .i64 0] 28)]
abbrev yzad0 (wb : Nat) (p : Pl) : List Obj := [(.cells #[.pointer (some ⟨wb, 0, none⟩)] 93), (.cells #[.int .i64 (p.i : Nat), .int .i64 (p.k : Nat)] 60), (.cells #[.int .i64 0, .int .i64 0] 60), (.cells #[.bool false] 4), (.cells #[.int .i64 0] 28), (.cells #[.pointer (some ⟨wb, 0, none⟩)] 93), (.cells #[.int .i64 (p.i : Nat), .int .i64 (p.k : Nat)] 60)]
theorem next_any {w : World} {wb : Nat} {E : Env} {s : St} {ov tv : Value} {p : Pl} {O : Orc} (LO : LowC O) (LL : LowL O) (h : Wk w wb E s ov tv) (hf : Fine E) (hp : Okp E p) :
  Calls Tryz.prog 98 #[.pointer (some ⟨wb, 0, none⟩), p.v] w fun en w' => en = .returned (nexV (nexW O E.L E.n p)) /\ Below w.heap.size w w' := by
 obtain ⟨mk, hmk, MK⟩ := LL.mark
 obtain ⟨R, hR⟩ : ∃ R, nexW O E.L E.n p = R := ⟨_, rfl⟩
 rw [hR]
 have HR : Hid (nexF O E.L E.n (E.M.length - p.i) p true = R) := by rw [<- Env.len]; exact hR
 clear hR
 have hpi : p.i < E.M.length := by obtain ⟨x, hx, -⟩ := hp; exact (List.getElem?_eq_some_iff.1 hx).1
 have hml := hf.len
 refine (callsIn_wide (n := 9)).1 ?_
 have PI := fun m => places_in m wb p (((((w.alloc (.cells #[.pointer (some ⟨wb, 0, none⟩)] 93)).alloc (.cells #[.int .i64 (p.i : Nat), .int .i64 (p.k : Nat)] 60)).alloc (.cells #[.int .i64 0, .int .i64 0] 60)).alloc (.cells #[.bool false] 4)).alloc (.cells #[.int .i64 0] 28))
 have hsz1 : (((((w.alloc (.cells #[.pointer (some ⟨wb, 0, none⟩)] 93)).alloc (.cells #[.int .i64 (p.i : Nat), .int .i64 (p.k : Nat)] 60)).alloc (.cells #[.int .i64 0, .int .i64 0] 60)).alloc (.cells #[.bool false] 4)).alloc (.cells #[.int .i64 0] 28)).heap.size = w.heap.size + 1 + 1 + 1 + 1 + 1 := by simp
 rw [hsz1] at PI
 have kA := below_alloc w (.cells #[.pointer (some ⟨wb, 0, none⟩)] 93)
 have k3 : Below w.heap.size w (((((((w.alloc (.cells #[.pointer (some ⟨wb, 0, none⟩)] 93)).alloc (.cells #[.int .i64 (p.i : Nat), .int .i64 (p.k : Nat)] 60)).alloc (.cells #[.int .i64 0, .int .i64 0] 60)).alloc (.cells #[.bool false] 4)).alloc (.cells #[.int .i64 0] 28)).alloc (.cells #[.pointer (some ⟨wb, 0, none⟩)] 93)).alloc (.cells #[.int .i64 (p.i : Nat), .int .i64 (p.k : Nat)] 60)) := alls_below (yzad0 wb p) w
 have h3 := h.on k3
 have hs3 : (((((((w.alloc (.cells #[.pointer (some ⟨wb, 0, none⟩)] 93)).alloc (.cells #[.int .i64 (p.i : Nat), .int .i64 (p.k : Nat)] 60)).alloc (.cells #[.int .i64 0, .int .i64 0] 60)).alloc (.cells #[.bool false] 4)).alloc (.cells #[.int .i64 0] 28)).alloc (.cells #[.pointer (some ⟨wb, 0, none⟩)] 93)).alloc (.cells #[.int .i64 (p.i : Nat), .int .i64 (p.k : Nat)] 60)).heap.size = w.heap.size + 7 := by simp
 have x0 : Boxed (((((((w.alloc (.cells #[.pointer (some ⟨wb, 0, none⟩)] 93)).alloc (.cells #[.int .i64 (p.i : Nat), .int .i64 (p.k : Nat)] 60)).alloc (.cells #[.int .i64 0, .int .i64 0] 60)).alloc (.cells #[.bool false] 4)).alloc (.cells #[.int .i64 0] 28)).alloc (.cells #[.pointer (some ⟨wb, 0, none⟩)] 93)).alloc (.cells #[.int .i64 (p.i : Nat), .int .i64 (p.k : Nat)] 60)) w.heap.size 93 (.pointer (some ⟨wb, 0, none⟩)) := alls_at (yzad0 wb p) w 0 _ rfl
 have x1 : Bx (((((((w.alloc (.cells #[.pointer (some ⟨wb, 0, none⟩)] 93)).alloc (.cells #[.int .i64 (p.i : Nat), .int .i64 (p.k : Nat)] 60)).alloc (.cells #[.int .i64 0, .int .i64 0] 60)).alloc (.cells #[.bool false] 4)).alloc (.cells #[.int .i64 0] 28)).alloc (.cells #[.pointer (some ⟨wb, 0, none⟩)] 93)).alloc (.cells #[.int .i64 (p.i : Nat), .int .i64 (p.k : Nat)] 60)) (w.heap.size + 1) (p.i : Nat) (p.k : Nat) := alls_at (yzad0 wb p) w 1 _ rfl
 have x2 : Bx (((((((w.alloc (.cells #[.pointer (some ⟨wb, 0, none⟩)] 93)).alloc (.cells #[.int .i64 (p.i : Nat), .int .i64 (p.k : Nat)] 60)).alloc (.cells #[.int .i64 0, .int .i64 0] 60)).alloc (.cells #[.bool false] 4)).alloc (.cells #[.int .i64 0] 28)).alloc (.cells #[.pointer (some ⟨wb, 0, none⟩)] 93)).alloc (.cells #[.int .i64 (p.i : Nat), .int .i64 (p.k : Nat)] 60)) (w.heap.size + 1 + 1) 0 0 := alls_at (yzad0 wb p) w 2 _ rfl
 have x3 : Boxed (((((((w.alloc (.cells #[.pointer (some ⟨wb, 0, none⟩)] 93)).alloc (.cells #[.int .i64 (p.i : Nat), .int .i64 (p.k : Nat)] 60)).alloc (.cells #[.int .i64 0, .int .i64 0] 60)).alloc (.cells #[.bool false] 4)).alloc (.cells #[.int .i64 0] 28)).alloc (.cells #[.pointer (some ⟨wb, 0, none⟩)] 93)).alloc (.cells #[.int .i64 (p.i : Nat), .int .i64 (p.k : Nat)] 60)) (w.heap.size + 1 + 1 + 1) 4 (.bool false) := alls_at (yzad0 wb p) w 3 _ rfl
 have x4 : Boxed (((((((w.alloc (.cells #[.pointer (some ⟨wb, 0, none⟩)] 93)).alloc (.cells #[.int .i64 (p.i : Nat), .int .i64 (p.k : Nat)] 60)).alloc (.cells #[.int .i64 0, .int .i64 0] 60)).alloc (.cells #[.bool false] 4)).alloc (.cells #[.int .i64 0] 28)).alloc (.cells #[.pointer (some ⟨wb, 0, none⟩)] 93)).alloc (.cells #[.int .i64 (p.i : Nat), .int .i64 (p.k : Nat)] 60)) (w.heap.size + 1 + 1 + 1 + 1) 28 (.int .i64 0) := alls_at (yzad0 wb p) w 4 _ rfl
 have x5 : Boxed (((((((w.alloc (.cells #[.pointer (some ⟨wb, 0, none⟩)] 93)).alloc (.cells #[.int .i64 (p.i : Nat), .int .i64 (p.k : Nat)] 60)).alloc (.cells #[.int .i64 0, .int .i64 0] 60)).alloc (.cells #[.bool false] 4)).alloc (.cells #[.int .i64 0] 28)).alloc (.cells #[.pointer (some ⟨wb, 0, none⟩)] 93)).alloc (.cells #[.int .i64 (p.i : Nat), .int .i64 (p.k : Nat)] 60)) (w.heap.size + 1 + 1 + 1 + 1 + 1) 93 (.pointer (some ⟨wb, 0, none⟩)) := alls_at (yzad0 wb p) w 5 _ rfl
 have x6 : Bx (((((((w.alloc (.cells #[.pointer (some ⟨wb, 0, none⟩)] 93)).alloc (.cells #[.int .i64 (p.i : Nat), .int .i64 (p.k : Nat)] 60)).alloc (.cells #[.int .i64 0, .int .i64 0] 60)).alloc (.cells #[.bool false] 4)).alloc (.cells #[.int .i64 0] 28)).alloc (.cells #[.pointer (some ⟨wb, 0, none⟩)] 93)).alloc (.cells #[.int .i64 (p.i : Nat), .int .i64 (p.k : Nat)] 60)) (w.heap.size + 1 + 1 + 1 + 1 + 1 + 1) (p.i : Nat) (p.k : Nat) := alls_at (yzad0 wb p) w 6 _ rfl
 have z0 : (((((w.alloc (.cells #[.pointer (some ⟨wb, 0, none⟩)] 93)).alloc (.cells #[.int .i64 (p.i : Nat), .int .i64 (p.k : Nat)] 60)).alloc (.cells #[.int .i64 0, .int .i64 0] 60)).alloc (.cells #[.bool false] 4)).alloc (.cells #[.int .i64 0] 28)).cell? ⟨w.heap.size, 0, none⟩ = some (.pointer (some ⟨wb, 0, none⟩)) := (show Boxed _ w.heap.size 93 _ from alls_at (yzad1 wb p) w 0 _ rfl).cell
 have z1 : (((((w.alloc (.cells #[.pointer (some ⟨wb, 0, none⟩)] 93)).alloc (.cells #[.int .i64 (p.i : Nat), .int .i64 (p.k : Nat)] 60)).alloc (.cells #[.int .i64 0, .int .i64 0] 60)).alloc (.cells #[.bool false] 4)).alloc (.cells #[.int .i64 0] 28)).cell? ⟨w.heap.size + 1, 0, none⟩ = some (.int .i64 (p.i : Nat)) := (show Bx _ (w.heap.size + 1) (p.i : Nat) (p.k : Nat) from alls_at (yzad1 wb p) w 1 _ rfl).cell 0
 have z2 : (((((w.alloc (.cells #[.pointer (some ⟨wb, 0, none⟩)] 93)).alloc (.cells #[.int .i64 (p.i : Nat), .int .i64 (p.k : Nat)] 60)).alloc (.cells #[.int .i64 0, .int .i64 0] 60)).alloc (.cells #[.bool false] 4)).alloc (.cells #[.int .i64 0] 28)).cell? ⟨w.heap.size + 1, 1, none⟩ = some (.int .i64 (p.k : Nat)) := (show Bx _ (w.heap.size + 1) (p.i : Nat) (p.k : Nat) from alls_at (yzad1 wb p) w 1 _ rfl).cell 1
 have SQ := places_seq (9 - 1) (w.heap.size + 1 + 1 + 1 + 1 + 1 + 1) (w.heap.size + 1 + 1 + 1 + 1 + 1) wb E.M.length E.c E.q p (by omega) hml _ x6 x5.cell (by have := h3.cell 0; simpa using this)
 refine callsIn_of_wp_marks Tryz.func98 rfl trivial ?_ rfl
 simp only [Tryz.ntmps98, frm, Nat.reduceAdd, Nat.reduceSub]
 have hwl := h.lt
 clear h hsz1 kA
 have Hx : Hid (Wk (((((((w.alloc (.cells #[.pointer (some ⟨wb, 0, none⟩)] 93)).alloc (.cells #[.int .i64 (p.i : Nat), .int .i64 (p.k : Nat)] 60)).alloc (.cells #[.int .i64 0, .int .i64 0] 60)).alloc (.cells #[.bool false] 4)).alloc (.cells #[.int .i64 0] 28)).alloc (.cells #[.pointer (some ⟨wb, 0, none⟩)] 93)).alloc (.cells #[.int .i64 (p.i : Nat), .int .i64 (p.k : Nat)] 60)) wb E s ov tv /\ Below w.heap.size w (((((((w.alloc (.cells #[.pointer (some ⟨wb, 0, none⟩)] 93)).alloc (.cells #[.int .i64 (p.i : Nat), .int .i64 (p.k : Nat)] 60)).alloc (.cells #[.int .i64 0, .int .i64 0] 60)).alloc (.cells #[.bool false] 4)).alloc (.cells #[.int .i64 0] 28)).alloc (.cells #[.pointer (some ⟨wb, 0, none⟩)] 93)).alloc (.cells #[.int .i64 (p.i : Nat), .int .i64 (p.k : Nat)] 60)) /\ (((((((w.alloc (.cells #[.pointer (some ⟨wb, 0, none⟩)] 93)).alloc (.cells #[.int .i64 (p.i : Nat), .int .i64 (p.k : Nat)] 60)).alloc (.cells #[.int .i64 0, .int .i64 0] 60)).alloc (.cells #[.bool false] 4)).alloc (.cells #[.int .i64 0] 28)).alloc (.cells #[.pointer (some ⟨wb, 0, none⟩)] 93)).alloc (.cells #[.int .i64 (p.i : Nat), .int .i64 (p.k : Nat)] 60)).heap.size = w.heap.size + 7 /\ Boxed (((((((w.alloc (.cells #[.pointer (some ⟨wb, 0, none⟩)] 93)).alloc (.cells #[.int .i64 (p.i : Nat), .int .i64 (p.k : Nat)] 60)).alloc (.cells #[.int .i64 0, .int .i64 0] 60)).alloc (.cells #[.bool false] 4)).alloc (.cells #[.int .i64 0] 28)).alloc (.cells #[.pointer (some ⟨wb, 0, none⟩)] 93)).alloc (.cells #[.int .i64 (p.i : Nat), .int .i64 (p.k : Nat)] 60)) w.heap.size 93 (.pointer (some ⟨wb, 0, none⟩)) /\ Bx (((((((w.alloc (.cells #[.pointer (some ⟨wb, 0, none⟩)] 93)).alloc (.cells #[.int .i64 (p.i : Nat), .int .i64 (p.k : Nat)] 60)).alloc (.cells #[.int .i64 0, .int .i64 0] 60)).alloc (.cells #[.bool false] 4)).alloc (.cells #[.int .i64 0] 28)).alloc (.cells #[.pointer (some ⟨wb, 0, none⟩)] 93)).alloc (.cells #[.int .i64 (p.i : Nat), .int .i64 (p.k : Nat)] 60)) (w.heap.size + 1) (p.i : Nat) (p.k : Nat) /\ Bx (((((((w.alloc (.cells #[.pointer (some ⟨wb, 0, none⟩)] 93)).alloc (.cells #[.int .i64 (p.i : Nat), .int .i64 (p.k : Nat)] 60)).alloc (.cells #[.int .i64 0, .int .i64 0] 60)).alloc (.cells #[.bool false] 4)).alloc (.cells #[.int .i64 0] 28)).alloc (.cells #[.pointer (some ⟨wb, 0, none⟩)] 93)).alloc (.cells #[.int .i64 (p.i : Nat), .int .i64 (p.k : Nat)] 60)) (w.heap.size + 1 + 1) 0 0 /\ Boxed (((((((w.alloc (.cells #[.pointer (some ⟨wb, 0, none⟩)] 93)).alloc (.cells #[.int .i64 (p.i : Nat), .int .i64 (p.k : Nat)] 60)).alloc (.cells #[.int .i64 0, .int .i64 0] 60)).alloc (.cells #[.bool false] 4)).alloc (.cells #[.int .i64 0] 28)).alloc (.cells #[.pointer (some ⟨wb, 0, none⟩)] 93)).alloc (.cells #[.int .i64 (p.i : Nat), .int .i64 (p.k : Nat)] 60)) (w.heap.size + 1 + 1 + 1) 4 (.bool false) /\ Boxed (((((((w.alloc (.cells #[.pointer (some ⟨wb, 0, none⟩)] 93)).alloc (.cells #[.int .i64 (p.i : Nat), .int .i64 (p.k : Nat)] 60)).alloc (.cells #[.int .i64 0, .int .i64 0] 60)).alloc (.cells #[.bool false] 4)).alloc (.cells #[.int .i64 0] 28)).alloc (.cells #[.pointer (some ⟨wb, 0, none⟩)] 93)).alloc (.cells #[.int .i64 (p.i : Nat), .int .i64 (p.k : Nat)] 60)) (w.heap.size + 1 + 1 + 1 + 1) 28 (.int .i64 0)) := ⟨h3, k3, hs3, x0, x1, x2, x3, x4⟩
 have HSQ : Hid _ := SQ
 clear h3 k3 hs3 x0 x1 x2 x3 x4 x5 x6 SQ
 gi_wp2_with (first | (refine ⟨trivial, ?_⟩; gi_at_call 140; refine (PI _).mono ?_; rintro e W2 ⟨rfl, rfl⟩))
 clear PI z0 z1 z2
 generalize ((((((w.alloc (.cells #[.pointer (some ⟨wb, 0, none⟩)] 93)).alloc (.cells #[.int .i64 (p.i : Nat), .int .i64 (p.k : Nat)] 60)).alloc (.cells #[.int .i64 0, .int .i64 0] 60)).alloc (.cells #[.bool false] 4)).alloc (.cells #[.int .i64 0] 28)).alloc (.cells #[.pointer (some ⟨wb, 0, none⟩)] 93)).alloc (.cells #[.int .i64 (p.i : Nat), .int .i64 (p.k : Nat)] 60) = W3 at Hx HSQ |-
 obtain ⟨h3, k3, hs3, x0, x1, x2, x3, x4⟩ := Hx.out
 clear Hx
 refine wpIn_rangeFuncQ (gf := 170) (lb := #[.pointer (some ⟨w.heap.size + 1 + 1 + 1 + 1 + 1 + 1, 0, none⟩), .pointer (some ⟨w.heap.size + 1 + 1 + 1 + 1 + 1, 0, none⟩)]) rfl (enters_of Tryz.func170 (by kernel_rfl) rfl) HSQ.out (fun b hb => by rcases hb with rfl | rfl | rfl <;> omega) (Below.refl _ _) (fun _ => rfl)
  (fun i => i <= E.M.length - p.i /\ nexF O E.L E.n (E.M.length - p.i - i) (pAt p i) (decide (i = 0)) = R) (NxX w W3 (w.heap.size + 1 + 1) (w.heap.size + 1 + 1 + 1) (w.heap.size + 1 + 1 + 1 + 1) R) (fun c => NxX.own c (by omega) (by omega) (by omega) (by omega)) ⟨Nat.zero_le _, HR.out⟩
  (fun x => .cells #[.int .i64 (x.i : Nat), .int .i64 (x.k : Nat)] 60) (fun _ => rfl)
  (fun x b => { tmps := #[.pointer (some ⟨wb, 0, none⟩), .agg #[.int .i64 (p.i : Nat), .int .i64 (p.k : Nat)], .pointer (some ⟨w.heap.size, 0, none⟩), .pointer (some ⟨w.heap.size + 1, 0, none⟩), .pointer (some ⟨w.heap.size + 1 + 1, 0, none⟩), .pointer (some ⟨w.heap.size + 1 + 1 + 1, 0, none⟩), .pointer (some ⟨w.heap.size + 1 + 1 + 1 + 1, 0, none⟩), .pointer (some ⟨b, 0, none⟩), undef, undef, .pointer (some ⟨wb, 0, none⟩), .agg #[.int .i64 (p.i : Nat), .int .i64 (p.k : Nat)], .func (.func 170) #[] #[.pointer (some ⟨w.heap.size + 1 + 1 + 1 + 1 + 1 + 1, 0, none⟩), .pointer (some ⟨w.heap.size + 1 + 1 + 1 + 1 + 1, 0, none⟩)], .agg #[.int .i64 (x.i : Nat), .int .i64 (x.k : Nat)], undef, undef, undef, undef, undef, undef, undef, undef, undef, undef, undef, undef, undef, undef, undef, undef, undef, undef, undef, undef, undef, undef, undef, undef, undef, undef, undef, undef, undef, undef, undef, undef, undef, undef, undef, undef, undef, undef, undef, undef], defers := [] }) ?assign ?body ?done ?stop
 case assign =>
  intro m l x W K hK
  simp only [encP, Pl.v] at hK |-
  gi_wp2
  exact hK
 case body =>
  intro m l i b x W hx hI hB hb hbx
  obtain ⟨hiN, hxe⟩ := plsL_of hx
  obtain ⟨ln, hln⟩ : ∃ ln, E.M[p.i + i]? = some ln := ⟨_, List.getElem?_eq_getElem hiN⟩
  have hxi : x.i = p.i + i := by rw [hxe, pAt_i]
  have hW := h3.on hB
  have y0 := (boxed_below x0 hB).cell
  have y1 := (x1.on hB).cell 0
  have c0 := hW.cell 0
  have q0 := (show Bx W b (x.i : Nat) (x.k : Nat) from hbx).cell 0
  have q1 := (show Bx W b (x.i : Nat) (x.k : Nat) from hbx).cell 1
  simp at y1 c0 q0 q1
  obtain ⟨bl, ol, hq, hcl⟩ := hW.lin.1.at (by omega)
  rw [hq] at c0
  obtain ⟨d0, d1⟩ := hcl (p.i + i) ln hln
  rw [<- hxi] at d0 d1
  have e1 : (x.i : Int) < (E.M.length : Int) := by omega
  have hml2 : (E.M.length : Int) <= 1048576 := by omega
  have S0 : Sq W W.drew := Sq.drew W
  clear HSQ
  have HX : Hid (x = pAt p i /\ x.i = p.i + i /\ (pAt p i).k = x.k) := ⟨hxe, hxi, by rw [hxe]⟩
  have HI : Hid (i <= E.M.length - p.i /\ nexF O E.L E.n (E.M.length - p.i - i) (pAt p i) (decide (i = 0)) = R) := hI
  clear hxe hI hx
  by_cases hi0 : i = 0
  ·have e2 : ((x.i : Int) == (p.i : Int)) = true := by rw [hxi, hi0]; simp
   have e3 : x.i = p.i := by rw [hxi, hi0]; rfl
   have HX3 : Hid (x.i = p.i) := e3
   have HI0 : Hid (i = 0) := hi0
   clear hxi e3 hi0
   gi_wp2
   refine region_pickN (Sq W) (by kernel_rfl) ?_
   show Any _ _ _ _ _ _ 16 _ ⟨#[_,_,_,_,_,_,_,_,_,_,_,_,_,_,_,_,_,_,_,_,_,_,_,_,_,_,_,_,_,_,_,_,_,_,_,_,_,_,_,_,_,_,_,_,_,_,_,_,_,_,_,_,_,_], []⟩ W.drew
   refine .tl 0 (.pointer (some ⟨wb, 0, none⟩)) rfl (fun w hw => by have a1 := hw.cell y0; go_simp) S0 ?_
   refine .tp 1 (.pointer (some ⟨wb, 0, none⟩)) S0 ?_
   refine .tp 2 (.pointer (some ⟨wb, 0, none⟩)) S0 ?_
   refine .tl 3 (.slice (some ⟨bl, ol, none⟩) E.M.length E.c) rfl (fun w hw => by have a1 := hw.cell c0; go_simp) S0 ?_
   refine .tp 4 (.pointer (some ⟨b, 0, none⟩)) S0 ?_
   refine .tl 5 (.int .i64 (x.i : Nat)) rfl (fun w hw => by have a1 := hw.cell q0; go_simp) S0 ?_
   show Any _ _ _ _ _ _ 10 _ ⟨#[_,_,_,_,_,_,_,_,_,_,_,_,_,_,_,_,_,_,_,_,_,_,_,_,_,_,_,_,_,_,_,_,_,_,_,_,_,_,_,_,_,_,_,_,_,_,_,_,_,_,_,_,_,_], []⟩ _
   refine .tp 6 (.pointer (some ⟨bl, ol + x.i * 2, none⟩)) S0 ?_
   refine .tl 7 (.agg #[.int .i64 ln.n, .slice ln.q ln.t.length ln.c]) rfl (fun w hw => by have a1 := hw.cell d0; have a2 := hw.cell d1; go_simp) S0 ?_
   refine .tp 8 (.pointer (some ⟨b, 0, none⟩)) S0 ?_
   refine .tl 9 (.int .i64 (x.i : Nat)) rfl (fun w hw => by have a1 := hw.cell q0; go_simp) S0 ?_
   refine .tp 10 (.pointer (some ⟨w.heap.size + 1, 0, none⟩)) S0 ?_
   refine .tl 11 (.int .i64 (p.i : Nat)) rfl (fun w hw => by have a1 := hw.cell y1; go_simp) S0 ?_
   show Any _ _ _ _ _ _ 4 _ ⟨#[_,_,_,_,_,_,_,_,_,_,_,_,_,_,_,_,_,_,_,_,_,_,_,_,_,_,_,_,_,_,_,_,_,_,_,_,_,_,_,_,_,_,_,_,_,_,_,_,_,_,_,_,_,_], []⟩ _
   refine .tp 12 (.bool true) S0 ?_
   refine .on 13 rfl rfl fun K hK => ?_
   go_simp
   refine hK _ _ (S0.alloc (Nat.le_refl _) _) ?_
   clear hK K
   show Any _ _ _ _ _ _ 2 _ ⟨#[_,_,_,_,_,_,_,_,_,_,_,_,_,_,_,_,_,_,_,_,_,_,_,_,_,_,_,_,_,_,_,_,_,_,_,_,_,_,_,_,_,_,_,_,_,_,_,_,_,_,_,_,_,_], []⟩ (W.drew.alloc (.cells #[.int .i64 0, .slice none 0 0] 44))
   refine .on 14 rfl rfl fun K hK => ?_
   go_simp
   refine hK _ _ (fun k hk => Below.heap_alloc W _ k hk) ?_
   clear hK K
   show Any _ _ _ _ _ _ 1 _ ⟨#[_,_,_,_,_,_,_,_,_,_,_,_,_,_,_,_,_,_,_,_,_,_,_,_,_,_,_,_,_,_,_,_,_,_,_,_,_,_,_,_,_,_,_,_,_,_,_,_,_,_,_,_,_,_], []⟩ (W.alloc (.cells #[.int .i64 ln.n, .slice ln.q ln.t.length ln.c] 44)).drew
   refine .tp 15 (.bool true) (fun k hk => Below.heap_alloc W _ k hk) ?_
   refine Any.done (by kernel_rfl) ?_
   rename_i Kb hKb
   refine hKb _ _ ?_
   clear hKb
   have LK : Below W.heap.size W ((W.alloc (.cells #[.int .i64 ln.n, .slice ln.q ln.t.length ln.c] 44)).drew) := (below_alloc W _).drew
   have LB : Bl ((W.alloc (.cells #[.int .i64 ln.n, .slice ln.q ln.t.length ln.c] 44)).drew) W.heap.size ln := World.alloc_heap_new W _
   generalize (W.alloc (.cells #[.int .i64 ln.n, .slice ln.q ln.t.length ln.c] 44)).drew = WL at LK LB |-
   have l0 := LB.cell 0
   have l1 := LB.cell 1
   simp at l0 l1
   have hWl := W.heap.size
   have FA : Hid (∀ V : World, Below WL.heap.size WL V -> Below W.heap.size W V /\ Below W3.heap.size W3 V /\ Wk V wb E s ov tv /\ Bx V b (x.i : Nat) (x.k : Nat) /\ Bl V W.heap.size ln /\ Boxed V w.heap.size 93 (.pointer (some ⟨wb, 0, none⟩)) /\ Bx V (w.heap.size + 1) (p.i : Nat) (p.k : Nat)) := fun V hV => by
    have a1 : Below W.heap.size W V := LK.trans (hV.mono LK.size)
    have a2 : Below W3.heap.size W3 V := hB.trans (a1.mono hB.size)
    exact ⟨a1, a2, h3.on a2, (show Bx W b (x.i : Nat) (x.k : Nat) from hbx).on a1, LB.on hV, boxed_below x0 a2, x1.on a2⟩
   have HV0 : Hid (Below WL.heap.size WL WL) := Below.refl _ _
   obtain ⟨V0, hV0⟩ : ∃ V0, V0 = WL := ⟨_, rfl⟩
   have B0 : Below WL.heap.size WL V0 := by rw [hV0]; exact Below.refl _ _
   rw [<- hV0]
   clear HV0 hV0
   obtain ⟨a1, a2, a3, a4, a5, a6, a7⟩ := FA.out V0 B0
   have hxk : Okp E x := by rw [HX.out.1]; exact hp.at hiN
   have PB := fun m => (callsIn_wide (n := m)).2 (pastBlanks_any LO a3 hf hxk)
   have g0 := a6.cell
   have g1 := a4.cell 0
   have g2 := a4.cell 1
   simp at g1 g2
   obtain ⟨pq, hpq⟩ : ∃ pq, pasW O E.L x = pq := ⟨_, rfl⟩
   have hpo : Okp E pq := by rw [<- hpq]; exact hxk.past
   rw [hpq] at PB
   have HPQ : Hid (pasW O E.L (pAt p i) = pq) := by show _ = _; rw [<- HX.out.1]; exact hpq
   have HST := @nexF_step E p O E.n i (decide (i = 0)) ln hiN hln
   rw [HI.out.2, HPQ.out] at HST
   have HSR : Hid (R = if (decide (i = 0)) = false /\ O.marker ln.lp = true then .ok none else if linW O E.L pq then nexF O E.L E.n (E.M.length - p.i - (i + 1)) (pAt p (i + 1)) false else if (decide (i = 0)) = false /\ ln.n <= E.n then .error 7 else .ok (some pq)) := HST
   clear HST
   have FB : Hid (∀ V : World, Below V0.heap.size V0 V -> Below W3.heap.size W3 V /\ Qk b W V /\ Bx V b (x.i : Nat) (x.k : Nat)) := fun V hV => by
    have c1 : Below W.heap.size W V := a1.trans (hV.mono a1.size)
    exact ⟨hB.trans (c1.mono hB.size), Qk.of c1, a4.on hV⟩
   have FC : Hid (∀ V : World, Below W3.heap.size W3 V -> Qk b W V -> Bl V W.heap.size ln -> Bx V b (pq.i : Nat) (pq.k : Nat) -> Wk V wb E s ov tv /\ V.cell? ⟨w.heap.size, 0, none⟩ = some (.pointer (some ⟨wb, 0, none⟩))) := fun V hV _ _ _ => ⟨h3.on hV, (boxed_below x0 hV).cell⟩
   have hbW : b ≠ W.heap.size := by have := (show Bx W b (x.i : Nat) (x.k : Nat) from hbx).lt; omega
   clear hpq FA c0 d0 d1 q0 q1 y0 y1 l0 l1 a1 a2 a3
   gi_wp2
   refine ⟨trivial, ?_⟩
   gi_wp2
   first | refine tr2 ?_ | refine tr1 ?_
   gi_at_call 33
   refine (PB _).mono ?_
   clear PB
   rintro en V1 ⟨rfl, B1⟩
   obtain ⟨b1, b2, b3⟩ := FB.out V1 B1
   have w0 := b3.cell 0
   have w1 := b3.cell 1
   have f0 := b3.frozen 0
   have f1 := b3.frozen 1
   simp at w0 w1
   have b4 := b3.put (pq.i : Nat) (pq.k : Nat)
   have b5 := (b2.trans (Qk.set (b := b) (o := 0) V1 (.int .i64 (pq.i : Nat)))).trans (Qk.set (b := b) (o := 1) _ (.int .i64 (pq.k : Nat)))
   have b6 := (b1.setCell (p := ⟨b, 0, none⟩) hb (.int .i64 (pq.i : Nat))).setCell (p := ⟨b, 1, none⟩) hb (.int .i64 (pq.k : Nat))
   have b7 := ((a5.on B1).other (g := b) (o := 0) (.int .i64 (pq.i : Nat)) (Ne.symm hbW)).other (g := b) (o := 1) (.int .i64 (pq.k : Nat)) (Ne.symm hbW)
   have HV2 : Hid (Bx ((V1.setCell ⟨b, 0, none⟩ (.int .i64 (pq.i : Nat))).setCell ⟨b, 1, none⟩ (.int .i64 (pq.k : Nat))) b (pq.i : Nat) (pq.k : Nat) /\ Qk b W ((V1.setCell ⟨b, 0, none⟩ (.int .i64 (pq.i : Nat))).setCell ⟨b, 1, none⟩ (.int .i64 (pq.k : Nat))) /\ Below W3.heap.size W3 ((V1.setCell ⟨b, 0, none⟩ (.int .i64 (pq.i : Nat))).setCell ⟨b, 1, none⟩ (.int .i64 (pq.k : Nat))) /\ Bl ((V1.setCell ⟨b, 0, none⟩ (.int .i64 (pq.i : Nat))).setCell ⟨b, 1, none⟩ (.int .i64 (pq.k : Nat))) W.heap.size ln) := ⟨b4, b5, b6, b7⟩
   have hV2c := (FC.out _ b6 b5 b7 b4).2
   have v0 := b4.cell 0
   have v1 := b4.cell 1
   simp at v0 v1
   clear b1 b2 b3 b4 b5 b6 b7 a4 a5 a6 a7 FB
   obtain ⟨W4, hW4⟩ : ∃ W4, (V1.setCell ⟨b, 0, none⟩ (.int .i64 (pq.i : Nat))).setCell ⟨b, 1, none⟩ (.int .i64 (pq.k : Nat)) = W4 := ⟨_, rfl⟩
   rw [hW4] at HV2 hV2c v0 v1
   have LE := fun m => (callsIn_wide (n := m)).2 (lineEnds_any LO (FC.out W4 HV2.out.2.2.1 HV2.out.2.1 HV2.out.2.2.2 HV2.out.1).1 hf hpo)
   have FD : Hid (∀ V : World, Below W4.heap.size W4 V -> Below W3.heap.size W3 V /\ Qk b W V /\ Bl V W.heap.size ln /\ Bx V b (pq.i : Nat) (pq.k : Nat) /\ KeepsFrom W3.heap.size W V) := fun V hV =>
    have q2 := HV2.out.2.1.trans (Qk.of (b := b) hV)
    ⟨HV2.out.2.2.1.trans (hV.mono HV2.out.2.2.1.size), q2, HV2.out.2.2.2.on hV, HV2.out.1.on hV, keeps_qk q2 hbx⟩
   cases hlin : linW O E.L pq with
   | true =>
    rw [hlin] at LE
    have HNX : Hid (i + 1 <= E.M.length - p.i /\ nexF O E.L E.n (E.M.length - p.i - (i + 1)) (pAt p (i + 1)) (decide (i + 1 = 0)) = R) := by
     refine ⟨by omega, ?_⟩
     rw [HSR.out, if_neg (by rw [HI0.out]; simp), if_pos hlin]
     rfl
    clear hlin HSR
    gi_wp2
    first | refine tr2 ?_ | refine tr1 ?_
    gi_at_call 142
    refine (LE _).mono ?_
    clear LE
    rintro en V3 ⟨rfl, B3⟩
    have HFIN : Hid (Qk b W V3) := (FD.out V3 B3).2.1
    gi_wp2
    exact ⟨HNX.out, HFIN.out⟩
   | false =>
    rw [hlin] at LE
    have HR2 : Hid (R = if (decide (i = 0)) = false /\ ln.n <= E.n then .error 7 else .ok (some pq)) := by
     show R = _
     rw [HSR.out, if_neg (by rw [HI0.out]; simp), if_neg (by rw [hlin]; simp)]
    clear hlin HSR
    gi_wp2
    first | refine tr2 ?_ | refine tr1 ?_
    gi_at_call 142
    refine (LE _).mono ?_
    clear LE
    rintro en V3 ⟨rfl, B3⟩
    gi_wp2
    refine region_pickN (Sq V3) (by kernel_rfl) ?_
    show Any _ _ _ _ _ _ 11 _ ⟨#[_,_,_,_,_,_,_,_,_,_,_,_,_,_,_,_,_,_,_,_,_,_,_,_,_,_,_,_,_,_,_,_,_,_,_,_,_,_,_,_,_,_,_,_,_,_,_,_,_,_,_,_,_,_], []⟩ V3.drew
    refine .tp 0 (.bool true) (Sq.drew V3) ?_
    refine .tp 1 (.bool false) (Sq.drew V3) ?_
    refine .tp 2 (.bool false) (Sq.drew V3) ?_
    refine .ts 3 (Sq.drew V3) ?_
    refine .ts 4 (Sq.drew V3) ?_
    refine .ts 5 (Sq.drew V3) ?_
    show Any _ _ _ _ _ _ 5 _ ⟨#[_,_,_,_,_,_,_,_,_,_,_,_,_,_,_,_,_,_,_,_,_,_,_,_,_,_,_,_,_,_,_,_,_,_,_,_,_,_,_,_,_,_,_,_,_,_,_,_,_,_,_,_,_,_], []⟩ _
    refine .ts 6 (Sq.drew V3) ?_
    refine .ts 7 (Sq.drew V3) ?_
    refine .ts 8 (Sq.drew V3) ?_
    refine .ts 9 (Sq.drew V3) ?_
    refine .tp 10 (.bool false) (Sq.drew V3) ?_
    refine Any.done (by kernel_rfl) ?_
    rename_i Kb hKb
    refine hKb _ _ ?_
    clear hKb
    have HR3 : nexV R = .tuple #[.agg #[.int .i64 (pq.i : Nat), .int .i64 (pq.k : Nat)], .bool true, .int .i64 0] := by rw [show R = .ok (some pq) by rw [HR2.out, if_neg (by rw [HI0.out]; simp)]]; rfl
    have HFIN := nx_fin k3 (FD.out V3.drew B3.drew).1 (FD.out V3.drew B3.drew).2.2.2.2 (show w.heap.size <= w.heap.size + 1 + 1 by omega) (Nat.lt_succ_self _) (Nat.lt_succ_self _) (by omega) x2 x3 x4 _ _ _ _ HR3
    have HFIN2 : Hid _ := HFIN
    obtain ⟨f1, f2, f3, f4, f5⟩ := FD.out V3 B3
    have u0 := (x2.on f1).frozen 0
    have u1 := (x2.on f1).frozen 1
    have u2 := (x2.on f1).cell 0
    have u3 := (x2.on f1).cell 1
    have u4 := (boxed_below x3 f1).cell
    have u5 := (boxed_below x3 f1).frozen
    have u6 := (boxed_below x4 f1).cell
    have u7 := (boxed_below x4 f1).frozen
    have u8 := f4.cell 0
    have u9 := f4.cell 1
    simp at u2 u3 u8 u9
    clear HFIN f1 f2 f3 f4 f5 FD HR3 HR2
    gi_wp2
    first | exact HFIN2.out | (rw [hs3] at HFIN2; exact HFIN2.out)
  ·have e2 : ((x.i : Int) == (p.i : Int)) = false := by rw [beq_eq_false_iff_ne]; omega
   have e3 : ¬ (x.i : Int) = (p.i : Int) := by omega
   have HI0 : Hid (¬ i = 0) := hi0
   clear hxi hi0
   gi_wp2
   refine region_pickN (Sq W) (by kernel_rfl) ?_
   show Any _ _ _ _ _ _ 16 _ ⟨#[_,_,_,_,_,_,_,_,_,_,_,_,_,_,_,_,_,_,_,_,_,_,_,_,_,_,_,_,_,_,_,_,_,_,_,_,_,_,_,_,_,_,_,_,_,_,_,_,_,_,_,_,_,_], []⟩ W.drew
   refine .tl 0 (.pointer (some ⟨wb, 0, none⟩)) rfl (fun w hw => by have a1 := hw.cell y0; go_simp) S0 ?_
   refine .tp 1 (.pointer (some ⟨wb, 0, none⟩)) S0 ?_
   refine .tp 2 (.pointer (some ⟨wb, 0, none⟩)) S0 ?_
   refine .tl 3 (.slice (some ⟨bl, ol, none⟩) E.M.length E.c) rfl (fun w hw => by have a1 := hw.cell c0; go_simp) S0 ?_
   refine .tp 4 (.pointer (some ⟨b, 0, none⟩)) S0 ?_
   refine .tl 5 (.int .i64 (x.i : Nat)) rfl (fun w hw => by have a1 := hw.cell q0; go_simp) S0 ?_
   show Any _ _ _ _ _ _ 10 _ ⟨#[_,_,_,_,_,_,_,_,_,_,_,_,_,_,_,_,_,_,_,_,_,_,_,_,_,_,_,_,_,_,_,_,_,_,_,_,_,_,_,_,_,_,_,_,_,_,_,_,_,_,_,_,_,_], []⟩ _
   refine .tp 6 (.pointer (some ⟨bl, ol + x.i * 2, none⟩)) S0 ?_
   refine .tl 7 (.agg #[.int .i64 ln.n, .slice ln.q ln.t.length ln.c]) rfl (fun w hw => by have a1 := hw.cell d0; have a2 := hw.cell d1; go_simp) S0 ?_
   refine .tp 8 (.pointer (some ⟨b, 0, none⟩)) S0 ?_
   refine .tl 9 (.int .i64 (x.i : Nat)) rfl (fun w hw => by have a1 := hw.cell q0; go_simp) S0 ?_
   refine .tp 10 (.pointer (some ⟨w.heap.size + 1, 0, none⟩)) S0 ?_
   refine .tl 11 (.int .i64 (p.i : Nat)) rfl (fun w hw => by have a1 := hw.cell y1; go_simp) S0 ?_
   show Any _ _ _ _ _ _ 4 _ ⟨#[_,_,_,_,_,_,_,_,_,_,_,_,_,_,_,_,_,_,_,_,_,_,_,_,_,_,_,_,_,_,_,_,_,_,_,_,_,_,_,_,_,_,_,_,_,_,_,_,_,_,_,_,_,_], []⟩ _
   refine .tp 12 (.bool false) S0 ?_
   refine .on 13 rfl rfl fun K hK => ?_
   go_simp
   refine hK _ _ (S0.alloc (Nat.le_refl _) _) ?_
   clear hK K
   show Any _ _ _ _ _ _ 2 _ ⟨#[_,_,_,_,_,_,_,_,_,_,_,_,_,_,_,_,_,_,_,_,_,_,_,_,_,_,_,_,_,_,_,_,_,_,_,_,_,_,_,_,_,_,_,_,_,_,_,_,_,_,_,_,_,_], []⟩ (W.drew.alloc (.cells #[.int .i64 0, .slice none 0 0] 44))
   refine .on 14 rfl rfl fun K hK => ?_
   go_simp
   refine hK _ _ (fun k hk => Below.heap_alloc W _ k hk) ?_
   clear hK K
   show Any _ _ _ _ _ _ 1 _ ⟨#[_,_,_,_,_,_,_,_,_,_,_,_,_,_,_,_,_,_,_,_,_,_,_,_,_,_,_,_,_,_,_,_,_,_,_,_,_,_,_,_,_,_,_,_,_,_,_,_,_,_,_,_,_,_], []⟩ (W.alloc (.cells #[.int .i64 ln.n, .slice ln.q ln.t.length ln.c] 44)).drew
   refine .tp 15 (.bool false) (fun k hk => Below.heap_alloc W _ k hk) ?_
   refine Any.done (by kernel_rfl) ?_
   rename_i Kb hKb
   refine hKb _ _ ?_
   clear hKb
   have LK : Below W.heap.size W ((W.alloc (.cells #[.int .i64 ln.n, .slice ln.q ln.t.length ln.c] 44)).drew) := (below_alloc W _).drew
   have LB : Bl ((W.alloc (.cells #[.int .i64 ln.n, .slice ln.q ln.t.length ln.c] 44)).drew) W.heap.size ln := World.alloc_heap_new W _
   generalize (W.alloc (.cells #[.int .i64 ln.n, .slice ln.q ln.t.length ln.c] 44)).drew = WL at LK LB |-
   have l0 := LB.cell 0
   have l1 := LB.cell 1
   simp at l0 l1
   have hWl := W.heap.size
   have FA : Hid (∀ V : World, Below WL.heap.size WL V -> Below W.heap.size W V /\ Below W3.heap.size W3 V /\ Wk V wb E s ov tv /\ Bx V b (x.i : Nat) (x.k : Nat) /\ Bl V W.heap.size ln /\ Boxed V w.heap.size 93 (.pointer (some ⟨wb, 0, none⟩)) /\ Bx V (w.heap.size + 1) (p.i : Nat) (p.k : Nat)) := fun V hV => by
    have a1 : Below W.heap.size W V := LK.trans (hV.mono LK.size)
    have a2 : Below W3.heap.size W3 V := hB.trans (a1.mono hB.size)
    exact ⟨a1, a2, h3.on a2, (show Bx W b (x.i : Nat) (x.k : Nat) from hbx).on a1, LB.on hV, boxed_below x0 a2, x1.on a2⟩
   have MC := fun m => (callsIn_wide (n := m)).2 (MK ln WL (hf.t2 _ ln hln) ((h3.on (hB.trans (LK.mono hB.size))).lin.1.1 _ ln hln))
   by_cases hm0 : mk ln.lp = 0
   ·have HM0 : Hid (mk ln.lp = 0) := hm0
    rw [hm0] at MC
    clear hm0
    gi_wp2
    first | refine tr2 ?_ | refine tr1 ?_
    gi_at_call 141
    refine (MC _).mono ?_
    clear MC
    rintro en V0 ⟨rfl, B0⟩
    obtain ⟨a1, a2, a3, a4, a5, a6, a7⟩ := FA.out V0 B0
    have hxk : Okp E x := by rw [HX.out.1]; exact hp.at hiN
    have PB := fun m => (callsIn_wide (n := m)).2 (pastBlanks_any LO a3 hf hxk)
    have g0 := a6.cell
    have g1 := a4.cell 0
    have g2 := a4.cell 1
    simp at g1 g2
    obtain ⟨pq, hpq⟩ : ∃ pq, pasW O E.L x = pq := ⟨_, rfl⟩
    have hpo : Okp E pq := by rw [<- hpq]; exact hxk.past
    rw [hpq] at PB
    have HPQ : Hid (pasW O E.L (pAt p i) = pq) := by show _ = _; rw [<- HX.out.1]; exact hpq
    have HST := @nexF_step E p O E.n i (decide (i = 0)) ln hiN hln
    rw [HI.out.2, HPQ.out] at HST
    have HSR : Hid (R = if (decide (i = 0)) = false /\ O.marker ln.lp = true then .ok none else if linW O E.L pq then nexF O E.L E.n (E.M.length - p.i - (i + 1)) (pAt p (i + 1)) false else if (decide (i = 0)) = false /\ ln.n <= E.n then .error 7 else .ok (some pq)) := HST
    clear HST
    have FB : Hid (∀ V : World, Below V0.heap.size V0 V -> Below W3.heap.size W3 V /\ Qk b W V /\ Bx V b (x.i : Nat) (x.k : Nat)) := fun V hV => by
     have c1 : Below W.heap.size W V := a1.trans (hV.mono a1.size)
     exact ⟨hB.trans (c1.mono hB.size), Qk.of c1, a4.on hV⟩
    have FC : Hid (∀ V : World, Below W3.heap.size W3 V -> Qk b W V -> Bl V W.heap.size ln -> Bx V b (pq.i : Nat) (pq.k : Nat) -> Wk V wb E s ov tv /\ V.cell? ⟨w.heap.size, 0, none⟩ = some (.pointer (some ⟨wb, 0, none⟩))) := fun V hV _ _ _ => ⟨h3.on hV, (boxed_below x0 hV).cell⟩
    have hbW : b ≠ W.heap.size := by have := (show Bx W b (x.i : Nat) (x.k : Nat) from hbx).lt; omega
    clear hpq FA c0 d0 d1 q0 q1 y0 y1 l0 l1 a1 a2 a3
    gi_wp2
    skip
    skip
    first | refine tr2 ?_ | refine tr1 ?_
    gi_at_call 33
    refine (PB _).mono ?_
    clear PB
    rintro en V1 ⟨rfl, B1⟩
    obtain ⟨b1, b2, b3⟩ := FB.out V1 B1
    have w0 := b3.cell 0
    have w1 := b3.cell 1
    have f0 := b3.frozen 0
    have f1 := b3.frozen 1
    simp at w0 w1
    have b4 := b3.put (pq.i : Nat) (pq.k : Nat)
    have b5 := (b2.trans (Qk.set (b := b) (o := 0) V1 (.int .i64 (pq.i : Nat)))).trans (Qk.set (b := b) (o := 1) _ (.int .i64 (pq.k : Nat)))
    have b6 := (b1.setCell (p := ⟨b, 0, none⟩) hb (.int .i64 (pq.i : Nat))).setCell (p := ⟨b, 1, none⟩) hb (.int .i64 (pq.k : Nat))
    have b7 := ((a5.on B1).other (g := b) (o := 0) (.int .i64 (pq.i : Nat)) (Ne.symm hbW)).other (g := b) (o := 1) (.int .i64 (pq.k : Nat)) (Ne.symm hbW)
    have HV2 : Hid (Bx ((V1.setCell ⟨b, 0, none⟩ (.int .i64 (pq.i : Nat))).setCell ⟨b, 1, none⟩ (.int .i64 (pq.k : Nat))) b (pq.i : Nat) (pq.k : Nat) /\ Qk b W ((V1.setCell ⟨b, 0, none⟩ (.int .i64 (pq.i : Nat))).setCell ⟨b, 1, none⟩ (.int .i64 (pq.k : Nat))) /\ Below W3.heap.size W3 ((V1.setCell ⟨b, 0, none⟩ (.int .i64 (pq.i : Nat))).setCell ⟨b, 1, none⟩ (.int .i64 (pq.k : Nat))) /\ Bl ((V1.setCell ⟨b, 0, none⟩ (.int .i64 (pq.i : Nat))).setCell ⟨b, 1, none⟩ (.int .i64 (pq.k : Nat))) W.heap.size ln) := ⟨b4, b5, b6, b7⟩
    have hV2c := (FC.out _ b6 b5 b7 b4).2
    have v0 := b4.cell 0
    have v1 := b4.cell 1
    simp at v0 v1
    clear b1 b2 b3 b4 b5 b6 b7 a4 a5 a6 a7 FB
    obtain ⟨W4, hW4⟩ : ∃ W4, (V1.setCell ⟨b, 0, none⟩ (.int .i64 (pq.i : Nat))).setCell ⟨b, 1, none⟩ (.int .i64 (pq.k : Nat)) = W4 := ⟨_, rfl⟩
    rw [hW4] at HV2 hV2c v0 v1
    have LE := fun m => (callsIn_wide (n := m)).2 (lineEnds_any LO (FC.out W4 HV2.out.2.2.1 HV2.out.2.1 HV2.out.2.2.2 HV2.out.1).1 hf hpo)
    have FD : Hid (∀ V : World, Below W4.heap.size W4 V -> Below W3.heap.size W3 V /\ Qk b W V /\ Bl V W.heap.size ln /\ Bx V b (pq.i : Nat) (pq.k : Nat) /\ KeepsFrom W3.heap.size W V) := fun V hV =>
     have q2 := HV2.out.2.1.trans (Qk.of (b := b) hV)
     ⟨HV2.out.2.2.1.trans (hV.mono HV2.out.2.2.1.size), q2, HV2.out.2.2.2.on hV, HV2.out.1.on hV, keeps_qk q2 hbx⟩
    cases hlin : linW O E.L pq with
    | true =>
     rw [hlin] at LE
     have HNX : Hid (i + 1 <= E.M.length - p.i /\ nexF O E.L E.n (E.M.length - p.i - (i + 1)) (pAt p (i + 1)) (decide (i + 1 = 0)) = R) := by
      refine ⟨by omega, ?_⟩
      rw [HSR.out, if_neg (by rw [hmk]; simp [HM0.out]), if_pos hlin]
      rfl
     clear hlin HSR
     gi_wp2
     first | refine tr2 ?_ | refine tr1 ?_
     gi_at_call 142
     refine (LE _).mono ?_
     clear LE
     rintro en V3 ⟨rfl, B3⟩
     have HFIN : Hid (Qk b W V3) := (FD.out V3 B3).2.1
     gi_wp2
     exact ⟨HNX.out, HFIN.out⟩
    | false =>
     rw [hlin] at LE
     have HR2 : Hid (R = if (decide (i = 0)) = false /\ ln.n <= E.n then .error 7 else .ok (some pq)) := by
      show R = _
      rw [HSR.out, if_neg (by rw [hmk]; simp [HM0.out]), if_neg (by rw [hlin]; simp)]
     clear hlin HSR
     gi_wp2
     first | refine tr2 ?_ | refine tr1 ?_
     gi_at_call 142
     refine (LE _).mono ?_
     clear LE
     rintro en V3 ⟨rfl, B3⟩
     obtain ⟨g1, g2, g3, g4, g5⟩ := FD.out V3 B3
     have t0 := g3.cell 0
     have t1 := (boxed_below x0 g1).cell
     have t2 := (h3.on g1).cell 1
     simp at t0 t2
     clear g1 g2 g3 g4 g5
     by_cases hle : ln.n <= E.n
     ·have el : decide (ln.n <= E.n) = true := decide_eq_true hle
      gi_wp2
      refine region_pickN (Sq V3) (by kernel_rfl) ?_
      show Any _ _ _ _ _ _ 11 _ ⟨#[_,_,_,_,_,_,_,_,_,_,_,_,_,_,_,_,_,_,_,_,_,_,_,_,_,_,_,_,_,_,_,_,_,_,_,_,_,_,_,_,_,_,_,_,_,_,_,_,_,_,_,_,_,_], []⟩ V3.drew
      refine .tp 0 (.bool false) (Sq.drew V3) ?_
      refine .tp 1 (.bool true) (Sq.drew V3) ?_
      refine .tp 2 (.bool true) (Sq.drew V3) ?_
      refine .tp 3 (.pointer (some ⟨W.heap.size, 0, none⟩)) (Sq.drew V3) ?_
      refine .tl 4 (.int .i64 ln.n) rfl (fun w hw => by have a1 := hw.cell t0; go_simp) (Sq.drew V3) ?_
      refine .tl 5 (.pointer (some ⟨wb, 0, none⟩)) rfl (fun w hw => by have a1 := hw.cell t1; go_simp) (Sq.drew V3) ?_
      show Any _ _ _ _ _ _ 5 _ ⟨#[_,_,_,_,_,_,_,_,_,_,_,_,_,_,_,_,_,_,_,_,_,_,_,_,_,_,_,_,_,_,_,_,_,_,_,_,_,_,_,_,_,_,_,_,_,_,_,_,_,_,_,_,_,_], []⟩ _
      refine .tp 6 (.pointer (some ⟨wb, 0, none⟩)) (Sq.drew V3) ?_
      refine .tp 7 (.pointer (some ⟨wb, 1, none⟩)) (Sq.drew V3) ?_
      refine .tl 8 (.int .i64 E.n) rfl (fun w hw => by have a1 := hw.cell t2; go_simp) (Sq.drew V3) ?_
      refine .tp 9 (.bool true) (Sq.drew V3) ?_
      refine .tp 10 (.bool true) (Sq.drew V3) ?_
      refine Any.done (by kernel_rfl) ?_
      rename_i Kb hKb
      refine hKb _ _ ?_
      clear hKb
      have HR3 : nexV R = .tuple #[.agg #[.int .i64 0, .int .i64 0], .bool false, .int .i64 7] := by rw [show R = .error 7 by rw [HR2.out, if_pos ⟨decide_eq_false HI0.out, hle⟩]]; rfl
      have HFIN := nx_fin k3 (FD.out V3.drew B3.drew).1 (FD.out V3.drew B3.drew).2.2.2.2 (show w.heap.size <= w.heap.size + 1 + 1 by omega) (Nat.lt_succ_self _) (Nat.lt_succ_self _) (by omega) x2 x3 x4 _ _ _ _ HR3
      have HFIN2 : Hid _ := HFIN
      obtain ⟨f1, f2, f3, f4, f5⟩ := FD.out V3 B3
      have u0 := (x2.on f1).frozen 0
      have u1 := (x2.on f1).frozen 1
      have u2 := (x2.on f1).cell 0
      have u3 := (x2.on f1).cell 1
      have u4 := (boxed_below x3 f1).cell
      have u5 := (boxed_below x3 f1).frozen
      have u6 := (boxed_below x4 f1).cell
      have u7 := (boxed_below x4 f1).frozen
      have u8 := f4.cell 0
      have u9 := f4.cell 1
      simp at u2 u3 u8 u9
      clear HFIN f1 f2 f3 f4 f5 FD HR3 HR2
      gi_wp2
      first | exact HFIN2.out | (rw [hs3] at HFIN2; exact HFIN2.out)
     ·have HLE : Hid (¬ ln.n <= E.n) := hle
      have el : decide (ln.n <= E.n) = false := decide_eq_false hle
      gi_wp2
      refine region_pickN (Sq V3) (by kernel_rfl) ?_
      show Any _ _ _ _ _ _ 11 _ ⟨#[_,_,_,_,_,_,_,_,_,_,_,_,_,_,_,_,_,_,_,_,_,_,_,_,_,_,_,_,_,_,_,_,_,_,_,_,_,_,_,_,_,_,_,_,_,_,_,_,_,_,_,_,_,_], []⟩ V3.drew
      refine .tp 0 (.bool false) (Sq.drew V3) ?_
      refine .tp 1 (.bool true) (Sq.drew V3) ?_
      refine .tp 2 (.bool true) (Sq.drew V3) ?_
      refine .tp 3 (.pointer (some ⟨W.heap.size, 0, none⟩)) (Sq.drew V3) ?_
      refine .tl 4 (.int .i64 ln.n) rfl (fun w hw => by have a1 := hw.cell t0; go_simp) (Sq.drew V3) ?_
      refine .tl 5 (.pointer (some ⟨wb, 0, none⟩)) rfl (fun w hw => by have a1 := hw.cell t1; go_simp) (Sq.drew V3) ?_
      show Any _ _ _ _ _ _ 5 _ ⟨#[_,_,_,_,_,_,_,_,_,_,_,_,_,_,_,_,_,_,_,_,_,_,_,_,_,_,_,_,_,_,_,_,_,_,_,_,_,_,_,_,_,_,_,_,_,_,_,_,_,_,_,_,_,_], []⟩ _
      refine .tp 6 (.pointer (some ⟨wb, 0, none⟩)) (Sq.drew V3) ?_
      refine .tp 7 (.pointer (some ⟨wb, 1, none⟩)) (Sq.drew V3) ?_
      refine .tl 8 (.int .i64 E.n) rfl (fun w hw => by have a1 := hw.cell t2; go_simp) (Sq.drew V3) ?_
      refine .tp 9 (.bool false) (Sq.drew V3) ?_
      refine .tp 10 (.bool false) (Sq.drew V3) ?_
      refine Any.done (by kernel_rfl) ?_
      rename_i Kb hKb
      refine hKb _ _ ?_
      clear hKb
      have HR3 : nexV R = .tuple #[.agg #[.int .i64 (pq.i : Nat), .int .i64 (pq.k : Nat)], .bool true, .int .i64 0] := by rw [show R = .ok (some pq) by rw [HR2.out, if_neg (fun h => by have h1 := HLE.out; have h2 := h.2; omega)]]; rfl
      have HFIN := nx_fin k3 (FD.out V3.drew B3.drew).1 (FD.out V3.drew B3.drew).2.2.2.2 (show w.heap.size <= w.heap.size + 1 + 1 by omega) (Nat.lt_succ_self _) (Nat.lt_succ_self _) (by omega) x2 x3 x4 _ _ _ _ HR3
      have HFIN2 : Hid _ := HFIN
      obtain ⟨f1, f2, f3, f4, f5⟩ := FD.out V3 B3
      have u0 := (x2.on f1).frozen 0
      have u1 := (x2.on f1).frozen 1
      have u2 := (x2.on f1).cell 0
      have u3 := (x2.on f1).cell 1
      have u4 := (boxed_below x3 f1).cell
      have u5 := (boxed_below x3 f1).frozen
      have u6 := (boxed_below x4 f1).cell
      have u7 := (boxed_below x4 f1).frozen
      have u8 := f4.cell 0
      have u9 := f4.cell 1
      simp at u2 u3 u8 u9
      clear HFIN f1 f2 f3 f4 f5 FD HR3 HR2
      gi_wp2
      first | exact HFIN2.out | (rw [hs3] at HFIN2; exact HFIN2.out)
   ·have em : (mk ln.lp == 0) = false := by rw [beq_eq_false_iff_ne]; exact hm0
    have em2 : (mk ln.lp != 0) = true := by simp [hm0]
    have hRn : R = .ok none := by
     rw [<- HI.out.2, nexF_step hiN hln, decide_eq_false HI0.out, if_pos ⟨rfl, by rw [hmk]; exact decide_eq_true hm0⟩]
    generalize mk ln.lp = mv at *
    gi_wp2
    first | refine tr2 ?_ | refine tr1 ?_
    gi_at_call 141
    refine (MC _).mono ?_
    clear MC
    rintro en V0 ⟨rfl, B0⟩
    obtain ⟨a1, a2, a3, a4, a5, a6, a7⟩ := FA.out V0 B0
    have HFIN : Hid (KeepsFrom W3.heap.size W V0 /\ NxX w W3 (w.heap.size + 1 + 1) (w.heap.size + 1 + 1 + 1) (w.heap.size + 1 + 1 + 1 + 1) R (.exit 0) V0) := ⟨⟨a1.size, fun k o _ ho _ => (a1.block k (Array.getElem?_eq_some_iff.1 ho).1).trans ho⟩, a2.size, k3.trans (a2.mono k3.size), .inr ⟨rfl, a2, hRn⟩⟩
    clear FA a1 a2 a3 a4 a5 a6 a7
    gi_wp2
    exact HFIN.out
 case done =>
  intro D W hD hI hB hK
  have hRn : R = .ok none := by
   rw [<- hI.2, plsL_len, Nat.sub_self]
   rfl
  have FN := nx_fin (R := R) (W := W) k3 hB ⟨Nat.le_refl _, fun _ _ _ ho _ => ho⟩ (show w.heap.size <= w.heap.size + 1 + 1 by omega) (Nat.lt_succ_self _) (Nat.lt_succ_self _) (by omega) x2 x3 x4 0 0 false 0 (by rw [hRn]; rfl)
  obtain ⟨-, z1, z2, z3⟩ := FN
  obtain ⟨-, i, k, st, e, r2, r3, r4, hv⟩ | ⟨hc, -⟩ := z3
  ·have HN : Hid _ := (⟨hv, r2, r3, r4, z2⟩ : _ /\ _ /\ _ /\ _ /\ _)
   have u0 := (x2.on hB).frozen 0
   have u1 := (x2.on hB).frozen 1
   have u2 := (x2.on hB).cell 0
   have u3 := (x2.on hB).cell 1
   have u4 := (boxed_below x3 hB).cell
   have u5 := (boxed_below x3 hB).frozen
   have u6 := (boxed_below x4 hB).cell
   have u7 := (boxed_below x4 hB).frozen
   simp at u2 u3
   have hK2 : Hid (((((W.setCell ⟨w.heap.size + 1 + 1, 0, none⟩ (.int .i64 0)).setCell ⟨w.heap.size + 1 + 1, 1, none⟩ (.int .i64 0)).setCell ⟨w.heap.size + 1 + 1 + 1, 0, none⟩ (.bool false)).setCell ⟨w.heap.size + 1 + 1 + 1 + 1, 0, none⟩ (.int .i64 0)).heap[D]? = some (.deferred (some []))) := by
    show _ = _
    rw [Below.heap_setCell _ _ _ _ (show D ≠ w.heap.size + 1 + 1 + 1 + 1 by omega), Below.heap_setCell _ _ _ _ (show D ≠ w.heap.size + 1 + 1 + 1 by omega), Below.heap_setCell _ _ _ _ (show D ≠ w.heap.size + 1 + 1 by omega), Below.heap_setCell _ _ _ _ (show D ≠ w.heap.size + 1 + 1 by omega)]
    exact hK
   clear hv r2 r3 r4 z1 z2 HSQ hI hK h3
   gi_wp2
   obtain ⟨hv, r2, r3, r4, z2⟩ := HN.out
   refine ⟨by simp, .inl ⟨_, _, rfl, run_takeDeferred hK2.out, ?_⟩⟩
   refine ⟨_, results_nx rfl rfl rfl rfl (bx_put r2 (by omega) _) (boxed_put' r3 (by show w.heap.size + 1 + 1 + 1 ≠ D; omega) _) (boxed_put' r4 (by show w.heap.size + 1 + 1 + 1 + 1 ≠ D; omega) _), ?_⟩
   exact ⟨by rw [<- hv], bel_put z2 (by omega) _⟩
  ·cases hc
 case stop =>
  rintro D cd W hD ⟨z1, z2, z3⟩ hK
  rcases z3 with ⟨rfl, i, k, st, e, r2, r3, r4, hv⟩ | ⟨rfl, hB, hRn⟩
  ·gi_wp2
   refine ⟨by simp, .inl ⟨_, _, rfl, run_takeDeferred hK, ?_⟩⟩
   refine ⟨_, results_nx rfl rfl rfl rfl (bx_put r2 (by omega) _) (boxed_put' r3 (by omega) _) (boxed_put' r4 (by omega) _), ?_⟩
   exact ⟨by rw [<- hv], bel_put z2 (by omega) _⟩
  ·have FN := nx_fin (R := R) (W := W) k3 hB ⟨Nat.le_refl _, fun _ _ _ ho _ => ho⟩ (show w.heap.size <= w.heap.size + 1 + 1 by omega) (Nat.lt_succ_self _) (Nat.lt_succ_self _) (by omega) x2 x3 x4 0 0 false 0 (by rw [hRn]; rfl)
   obtain ⟨-, z1, z2, z3⟩ := FN
   obtain ⟨-, i, k, st, e, r2, r3, r4, hv⟩ | ⟨hc, -⟩ := z3
   ·have HN : Hid _ := (⟨hv, r2, r3, r4, z2⟩ : _ /\ _ /\ _ /\ _ /\ _)
    have u0 := (x2.on hB).frozen 0
    have u1 := (x2.on hB).frozen 1
    have u2 := (x2.on hB).cell 0
    have u3 := (x2.on hB).cell 1
    have u4 := (boxed_below x3 hB).cell
    have u5 := (boxed_below x3 hB).frozen
    have u6 := (boxed_below x4 hB).cell
    have u7 := (boxed_below x4 hB).frozen
    simp at u2 u3
    have hK2 : Hid (((((W.setCell ⟨w.heap.size + 1 + 1, 0, none⟩ (.int .i64 0)).setCell ⟨w.heap.size + 1 + 1, 1, none⟩ (.int .i64 0)).setCell ⟨w.heap.size + 1 + 1 + 1, 0, none⟩ (.bool false)).setCell ⟨w.heap.size + 1 + 1 + 1 + 1, 0, none⟩ (.int .i64 0)).heap[D]? = some (.deferred (some []))) := by
     show _ = _
     rw [Below.heap_setCell _ _ _ _ (show D ≠ w.heap.size + 1 + 1 + 1 + 1 by omega), Below.heap_setCell _ _ _ _ (show D ≠ w.heap.size + 1 + 1 + 1 by omega), Below.heap_setCell _ _ _ _ (show D ≠ w.heap.size + 1 + 1 by omega), Below.heap_setCell _ _ _ _ (show D ≠ w.heap.size + 1 + 1 by omega)]
     exact hK
    clear hv r2 r3 r4 z1 z2 HSQ hK h3
    gi_wp2
    obtain ⟨hv, r2, r3, r4, z2⟩ := HN.out
    refine ⟨by simp, .inl ⟨_, _, rfl, run_takeDeferred hK2.out, ?_⟩⟩
    refine ⟨_, results_nx rfl rfl rfl rfl (bx_put r2 (by omega) _) (boxed_put' r3 (by show w.heap.size + 1 + 1 + 1 ≠ D; omega) _) (boxed_put' r4 (by show w.heap.size + 1 + 1 + 1 + 1 ≠ D; omega) _), ?_⟩
    exact ⟨by rw [<- hv], bel_put z2 (by omega) _⟩
   ·cases hc
end Go.Proofs.YtipbhdhiklmieaaGreatDoor
