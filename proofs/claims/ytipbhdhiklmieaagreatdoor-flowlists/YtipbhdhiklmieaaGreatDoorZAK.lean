/- The walk: further. -/
import Derived.Test.YtipbhdhiklmieaaGreatDoorZAJ
set_option linter.all false
set_option maxRecDepth 100000
set_option maxHeartbeats 8000000
namespace Go.Proofs.YtipbhdhiklmieaaGreatDoor
open Go.RowKit Go.Shelf
attribute [local go_sem] Oper.semAt_some
def furOk (R : Option Pl) (i k : Int) (st : Bool) : Prop := match R with | some q => i = (q.i : Nat) /\ k = (q.k : Nat) /\ st = true | none => st = false
def FuX (w W3 : World) (b2 b3 : Nat) (R : Option Pl) (c : Code) (W : World) : Prop :=
 W3.heap.size <= W.heap.size /\ Below w.heap.size w W /\ ((c = .ret /\ ∃ (i k : Int) (st : Bool), Bx W b2 i k /\ Boxed W b3 4 (.bool st) /\ furOk R i k st) \/ (c = .exit 0 /\ Below W3.heap.size W3 W /\ R = none))
theorem FuX.own {w W3 : World} {b2 b3 : Nat} {R : Option Pl} (c : Code) (hw : w.heap.size <= W3.heap.size) (h2 : b2 < W3.heap.size) (h3 : b3 < W3.heap.size) : OwnFrom W3.heap.size (fun (_ : Nat) W => FuX w W3 b2 b3 R c W) := by
 refine low_own fun A C e1 e2 e3 hs hk h => ?_
 obtain ⟨s0, s1, s2⟩ := h
 refine ⟨by omega, ⟨e1.trans s1.os, e2.trans s1.tape, e3.trans s1.output, Nat.le_trans s1.size hs, fun k hk2 => (hk k (by omega) (by omega)).trans (s1.block k hk2)⟩, ?_⟩
 rcases s2 with ⟨hc, i, k, st, x1, x2, x4⟩ | ⟨hc, x1, x2⟩
 ·exact .inl ⟨hc, i, k, st, (hk b2 h2 (by omega)).trans x1, (hk b3 h3 (by omega)).trans x2, x4⟩
 ·exact .inr ⟨hc, ⟨e1.trans x1.os, e2.trans x1.tape, e3.trans x1.output, Nat.le_trans x1.size hs, fun k hk2 => (hk k hk2 (by omega)).trans (x1.block k hk2)⟩, x2⟩
theorem results_fu {fn : Func} {r s : Tmp} (h : fn.results = #[.cell r 60, .cell s 4]) {tmps : Array Value} {W : World} {b2 b3 : Nat} {i k : Int} {st : Bool} (h1 : tmps.getD r undef = .pointer (some ⟨b2, 0, none⟩)) (h2 : tmps.getD s undef = .pointer (some ⟨b3, 0, none⟩))
  (x1 : Bx W b2 i k) (x2 : Boxed W b3 4 (.bool st)) : (results fn tmps).run Tryz.prog W = .ok (.tuple #[.agg #[.int .i64 i, .int .i64 k], .bool st]) W := by
 have h1' : tmps[r]?.getD undef = .pointer (some ⟨b2, 0, none⟩) := by simpa using h1
 have h2' : tmps[s]?.getD undef = .pointer (some ⟨b3, 0, none⟩) := by simpa using h2
 have c0 := x1.cell 0
 have c1 := x1.cell 1
 have c2 := x2.cell
 simp at c0 c1
 simp [results, h, h1', h2', asAddr, go_sem, c0, c1, c2]
theorem furF_step {E : Env} {p : Pl} {O : Orc} {n : Int} {wf : Bool} {i : Nat} {ln : Ln} (hi : p.i + i < E.M.length) (hl : E.M[p.i + i]? = some ln) :
  furF O E.L n wf p (E.M.length - p.i - i) (pAt p i) = if (rst E.L (pasW O E.L (pAt p i))).length = 0 then furF O E.L n wf p (E.M.length - p.i - (i + 1)) (pAt p (i + 1)) else if p.i + i = p.i \/ O.marker ln.lp = true \/ ln.n <= n \/ O.bare ln.lp = true then none else if O.pEnd wf ln.t = 0 then none else some (pAt p i) := by
 obtain ⟨f, hf⟩ : ∃ f, E.M.length - p.i - i = f + 1 := ⟨E.M.length - p.i - i - 1, by omega⟩
 have hl2 : E.L[(pAt p i).i]? = some ln.lp := by rw [pAt_i, Env.L, List.getElem?_map, hl]; rfl
 have hf2 : E.M.length - p.i - (i + 1) = f := by omega
 have hp2 : pAt p (i + 1) = ⟨(pAt p i).i + 1, 0⟩ := by rw [pAt_i]; unfold pAt; rw [if_neg (by omega)]; rfl
 rw [hf, furF, hl2, hf2, hp2, pAt_i]
 rfl
theorem fu_fin {w W3 W V : World} {b2 b3 : Nat} {R : Option Pl} (hw : Below w.heap.size w W3) (h3 : Below W3.heap.size W3 V) (hK : KeepsFrom W3.heap.size W V) (l2 : w.heap.size <= b2) (l3 : b2 < b3) (l5 : b3 < W3.heap.size)
  (x2 : Bx W3 b2 0 0) (x3 : Boxed W3 b3 4 (.bool false)) (i k : Int) (st : Bool) (hR : furOk R i k st) :
  KeepsFrom W3.heap.size W (((V.setCell ⟨b2, 0, none⟩ (.int .i64 i)).setCell ⟨b2, 1, none⟩ (.int .i64 k)).setCell ⟨b3, 0, none⟩ (.bool st)) /\
   FuX w W3 b2 b3 R .ret (((V.setCell ⟨b2, 0, none⟩ (.int .i64 i)).setCell ⟨b2, 1, none⟩ (.int .i64 k)).setCell ⟨b3, 0, none⟩ (.bool st)) := by
 have s1 := h3.size
 have s2 := hK.size
 refine ⟨⟨by simp [World.setCell]; exact s2, fun j o hj ho hc => ?_⟩, by simp [World.setCell]; exact s1, ?_, .inl ⟨rfl, i, k, st, ?_, ?_, hR⟩⟩
 ·rw [Below.heap_setCell _ _ _ _ (show j ≠ b3 by omega), Below.heap_setCell _ _ _ _ (show j ≠ b2 by omega), Below.heap_setCell _ _ _ _ (show j ≠ b2 by omega)]
  exact hK.same j o hj ho hc
 ·exact (((hw.trans (h3.mono hw.size)).setCell (p := ⟨b2, 0, none⟩) l2 _).setCell (p := ⟨b2, 1, none⟩) l2 _).setCell (p := ⟨b3, 0, none⟩) (show w.heap.size <= b3 by omega) _
 ·exact ((x2.on h3).put i k).other _ (by omega)
 ·have y3 : Boxed ((V.setCell ⟨b2, 0, none⟩ (.int .i64 i)).setCell ⟨b2, 1, none⟩ (.int .i64 k)) b3 4 (.bool false) := (Below.heap_setCell _ _ _ _ (show b3 ≠ b2 by omega)).trans ((Below.heap_setCell _ _ _ _ (show b3 ≠ b2 by omega)).trans (boxed_below x3 h3))
  exact y3.set (.bool st)
def Sq2 (V : World) (c d : Nat) (w' : World) : Prop := ∀ k, k < V.heap.size -> k ≠ c -> k ≠ d -> w'.heap[k]? = V.heap[k]?
theorem Sq2.cell {V w' : World} {c d b o : Nat} {v : Value} (h : Sq2 V c d w') (hc : V.cell? ⟨b, o, none⟩ = some v) (h1 : b ≠ c) (h2 : b ≠ d) : w'.cell? ⟨b, o, none⟩ = some v := (World.cell?_of_block (a := ⟨b, o, none⟩) (h b (World.block_lt_of_cell? V _ hc) h1 h2)).trans hc
theorem Sq2.of {V w' : World} {c d : Nat} (h : Below V.heap.size V w') : Sq2 V c d w' := fun k hk _ _ => h.block k hk
theorem Sq2.set1 {V w' : World} {c d o : Nat} (h : Sq2 V c d w') (v : Value) : Sq2 V c d (w'.setCell ⟨c, o, none⟩ v) := fun k hk h1 h2 => (Below.heap_setCell _ _ _ _ h1).trans (h k hk h1 h2)
theorem Sq2.set2 {V w' : World} {c d o : Nat} (h : Sq2 V c d w') (v : Value) : Sq2 V c d (w'.setCell ⟨d, o, none⟩ v) := fun k hk h1 h2 => (Below.heap_setCell _ _ _ _ h2).trans (h k hk h1 h2)
abbrev yzak0 (wb : Nat) (wf : Bool) (s : St) : List Obj := [(.cells #[(.pointer (some ⟨wb, 0, none⟩))] 93), (.cells #[.bool wf] 4), (.cells #[.int .i64 0, .int .i64 0] 60), (.cells #[.bool false] 4), (.cells #[(.pointer (some ⟨wb, 0, none⟩))] 93), (.cells #[.int .i64 (s.p.i : Nat), .int .i64 (s.p.k : Nat)] 60)]
theorem further_any {w : World} {wb : Nat} {E : Env} {s : St} {ov tv : Value} {O : Orc} (LO : LowC O) (LL : LowL O) (LP : LowP O) (h : Wk w wb E s ov tv) (hf : Fine E) (hp : Okp E s.p) (wf : Bool) :
  Calls Tryz.prog 116 #[(.pointer (some ⟨wb, 0, none⟩)), .bool wf] w fun en w' => (∃ (i k : Int) (st : Bool), en = .returned (.tuple #[.agg #[.int .i64 i, .int .i64 k], .bool st]) /\ furOk (furW O E.L E.n wf s.p) i k st) /\ Below w.heap.size w w' := by
 obtain ⟨mk, hmk, MK⟩ := LL.mark
 obtain ⟨R, hR⟩ : ∃ R, furW O E.L E.n wf s.p = R := ⟨_, rfl⟩
 rw [hR]
 have HR : Hid (furF O E.L E.n wf s.p (E.M.length - s.p.i) s.p = R) := by rw [<- Env.len]; exact hR
 clear hR
 have hpi : s.p.i < E.M.length := by obtain ⟨x, hx, -⟩ := hp; exact (List.getElem?_eq_some_iff.1 hx).1
 have hml := hf.len
 refine (callsIn_wide (n := 9)).1 ?_
 have PI := fun m => places_in m wb s.p (((((w.alloc (.cells #[(.pointer (some ⟨wb, 0, none⟩))] 93)).alloc (.cells #[.bool wf] 4)).alloc (.cells #[.int .i64 0, .int .i64 0] 60)).alloc (.cells #[.bool false] 4)).drew)
 have hsz1 : ((((w.alloc (.cells #[(.pointer (some ⟨wb, 0, none⟩))] 93)).alloc (.cells #[.bool wf] 4)).alloc (.cells #[.int .i64 0, .int .i64 0] 60)).alloc (.cells #[.bool false] 4)).drew.heap.size = w.heap.size + 1 + 1 + 1 + 1 := by show ((((w.alloc (.cells #[(.pointer (some ⟨wb, 0, none⟩))] 93)).alloc (.cells #[.bool wf] 4)).alloc (.cells #[.int .i64 0, .int .i64 0] 60)).alloc (.cells #[.bool false] 4)).heap.size = _; simp
 rw [hsz1] at PI
 have k3 : Below w.heap.size w (((((((w.alloc (.cells #[(.pointer (some ⟨wb, 0, none⟩))] 93)).alloc (.cells #[.bool wf] 4)).alloc (.cells #[.int .i64 0, .int .i64 0] 60)).alloc (.cells #[.bool false] 4)).alloc (.cells #[(.pointer (some ⟨wb, 0, none⟩))] 93)).alloc (.cells #[.int .i64 (s.p.i : Nat), .int .i64 (s.p.k : Nat)] 60)).drew) := (alls_below (yzak0 wb wf s) w).drew
 have h3 := h.on k3
 have hs3 : (((((((w.alloc (.cells #[(.pointer (some ⟨wb, 0, none⟩))] 93)).alloc (.cells #[.bool wf] 4)).alloc (.cells #[.int .i64 0, .int .i64 0] 60)).alloc (.cells #[.bool false] 4)).alloc (.cells #[(.pointer (some ⟨wb, 0, none⟩))] 93)).alloc (.cells #[.int .i64 (s.p.i : Nat), .int .i64 (s.p.k : Nat)] 60)).drew).heap.size = w.heap.size + 6 := by show (alls w (yzak0 wb wf s)).heap.size = _; rw [alls_size]; rfl
 have x0 : Boxed (((((((w.alloc (.cells #[(.pointer (some ⟨wb, 0, none⟩))] 93)).alloc (.cells #[.bool wf] 4)).alloc (.cells #[.int .i64 0, .int .i64 0] 60)).alloc (.cells #[.bool false] 4)).alloc (.cells #[(.pointer (some ⟨wb, 0, none⟩))] 93)).alloc (.cells #[.int .i64 (s.p.i : Nat), .int .i64 (s.p.k : Nat)] 60)).drew) w.heap.size 93 (.pointer (some ⟨wb, 0, none⟩)) := alls_at (yzak0 wb wf s) w 0 _ rfl
 have x1 : Boxed (((((((w.alloc (.cells #[(.pointer (some ⟨wb, 0, none⟩))] 93)).alloc (.cells #[.bool wf] 4)).alloc (.cells #[.int .i64 0, .int .i64 0] 60)).alloc (.cells #[.bool false] 4)).alloc (.cells #[(.pointer (some ⟨wb, 0, none⟩))] 93)).alloc (.cells #[.int .i64 (s.p.i : Nat), .int .i64 (s.p.k : Nat)] 60)).drew) (w.heap.size + 1) 4 (.bool wf) := alls_at (yzak0 wb wf s) w 1 _ rfl
 have x2 : Bx (((((((w.alloc (.cells #[(.pointer (some ⟨wb, 0, none⟩))] 93)).alloc (.cells #[.bool wf] 4)).alloc (.cells #[.int .i64 0, .int .i64 0] 60)).alloc (.cells #[.bool false] 4)).alloc (.cells #[(.pointer (some ⟨wb, 0, none⟩))] 93)).alloc (.cells #[.int .i64 (s.p.i : Nat), .int .i64 (s.p.k : Nat)] 60)).drew) (w.heap.size + 1 + 1) 0 0 := alls_at (yzak0 wb wf s) w 2 _ rfl
 have x3 : Boxed (((((((w.alloc (.cells #[(.pointer (some ⟨wb, 0, none⟩))] 93)).alloc (.cells #[.bool wf] 4)).alloc (.cells #[.int .i64 0, .int .i64 0] 60)).alloc (.cells #[.bool false] 4)).alloc (.cells #[(.pointer (some ⟨wb, 0, none⟩))] 93)).alloc (.cells #[.int .i64 (s.p.i : Nat), .int .i64 (s.p.k : Nat)] 60)).drew) (w.heap.size + 1 + 1 + 1) 4 (.bool false) := alls_at (yzak0 wb wf s) w 3 _ rfl
 have x4 : Boxed (((((((w.alloc (.cells #[(.pointer (some ⟨wb, 0, none⟩))] 93)).alloc (.cells #[.bool wf] 4)).alloc (.cells #[.int .i64 0, .int .i64 0] 60)).alloc (.cells #[.bool false] 4)).alloc (.cells #[(.pointer (some ⟨wb, 0, none⟩))] 93)).alloc (.cells #[.int .i64 (s.p.i : Nat), .int .i64 (s.p.k : Nat)] 60)).drew) (w.heap.size + 1 + 1 + 1 + 1) 93 (.pointer (some ⟨wb, 0, none⟩)) := alls_at (yzak0 wb wf s) w 4 _ rfl
 have x5 : Bx (((((((w.alloc (.cells #[(.pointer (some ⟨wb, 0, none⟩))] 93)).alloc (.cells #[.bool wf] 4)).alloc (.cells #[.int .i64 0, .int .i64 0] 60)).alloc (.cells #[.bool false] 4)).alloc (.cells #[(.pointer (some ⟨wb, 0, none⟩))] 93)).alloc (.cells #[.int .i64 (s.p.i : Nat), .int .i64 (s.p.k : Nat)] 60)).drew) (w.heap.size + 1 + 1 + 1 + 1 + 1) (s.p.i : Nat) (s.p.k : Nat) := alls_at (yzak0 wb wf s) w 5 _ rfl
 have k1 : Below w.heap.size w ((((w.alloc (.cells #[(.pointer (some ⟨wb, 0, none⟩))] 93)).alloc (.cells #[.bool wf] 4)).alloc (.cells #[.int .i64 0, .int .i64 0] 60)).alloc (.cells #[.bool false] 4)) := alls_below [(.cells #[(.pointer (some ⟨wb, 0, none⟩))] 93), (.cells #[.bool wf] 4), (.cells #[.int .i64 0, .int .i64 0] 60), (.cells #[.bool false] 4)] w
 have z0 : ((((w.alloc (.cells #[(.pointer (some ⟨wb, 0, none⟩))] 93)).alloc (.cells #[.bool wf] 4)).alloc (.cells #[.int .i64 0, .int .i64 0] 60)).alloc (.cells #[.bool false] 4)).cell? ⟨w.heap.size, 0, none⟩ = some (.pointer (some ⟨wb, 0, none⟩)) := (show Boxed ((((w.alloc (.cells #[(.pointer (some ⟨wb, 0, none⟩))] 93)).alloc (.cells #[.bool wf] 4)).alloc (.cells #[.int .i64 0, .int .i64 0] 60)).alloc (.cells #[.bool false] 4)) w.heap.size 93 _ from alls_at [(.cells #[(.pointer (some ⟨wb, 0, none⟩))] 93), (.cells #[.bool wf] 4), (.cells #[.int .i64 0, .int .i64 0] 60), (.cells #[.bool false] 4)] w 0 _ rfl).cell
 have hk1 := h.on k1
 have z4 := hk1.cell 4
 have z5 := hk1.cell 5
 simp at z4 z5
 have SQ3 : Sq ((((w.alloc (.cells #[(.pointer (some ⟨wb, 0, none⟩))] 93)).alloc (.cells #[.bool wf] 4)).alloc (.cells #[.int .i64 0, .int .i64 0] 60)).alloc (.cells #[.bool false] 4)) (((((((w.alloc (.cells #[(.pointer (some ⟨wb, 0, none⟩))] 93)).alloc (.cells #[.bool wf] 4)).alloc (.cells #[.int .i64 0, .int .i64 0] 60)).alloc (.cells #[.bool false] 4)).alloc (.cells #[(.pointer (some ⟨wb, 0, none⟩))] 93)).alloc (.cells #[.int .i64 (s.p.i : Nat), .int .i64 (s.p.k : Nat)] 60)).drew) := Sq.of (((Below.refl _ ((((w.alloc (.cells #[(.pointer (some ⟨wb, 0, none⟩))] 93)).alloc (.cells #[.bool wf] 4)).alloc (.cells #[.int .i64 0, .int .i64 0] 60)).alloc (.cells #[.bool false] 4))).drew.alloc (Nat.le_refl _) _).alloc (by simp) _)
 have SQ := places_seq (9 - 1) (w.heap.size + 1 + 1 + 1 + 1 + 1) (w.heap.size + 1 + 1 + 1 + 1) wb E.M.length E.c E.q s.p (by omega) hml _ x5 x4.cell (by have := h3.cell 0; simpa using this)
 refine callsIn_of_wp_marks Tryz.func116 rfl trivial ?_ rfl
 simp only [Tryz.ntmps116, frm, Nat.reduceAdd, Nat.reduceSub]
 have hwl := h.lt
 clear h hk1 k1
 have Hx : Hid (Wk (((((((w.alloc (.cells #[(.pointer (some ⟨wb, 0, none⟩))] 93)).alloc (.cells #[.bool wf] 4)).alloc (.cells #[.int .i64 0, .int .i64 0] 60)).alloc (.cells #[.bool false] 4)).alloc (.cells #[(.pointer (some ⟨wb, 0, none⟩))] 93)).alloc (.cells #[.int .i64 (s.p.i : Nat), .int .i64 (s.p.k : Nat)] 60)).drew) wb E s ov tv /\ Below w.heap.size w (((((((w.alloc (.cells #[(.pointer (some ⟨wb, 0, none⟩))] 93)).alloc (.cells #[.bool wf] 4)).alloc (.cells #[.int .i64 0, .int .i64 0] 60)).alloc (.cells #[.bool false] 4)).alloc (.cells #[(.pointer (some ⟨wb, 0, none⟩))] 93)).alloc (.cells #[.int .i64 (s.p.i : Nat), .int .i64 (s.p.k : Nat)] 60)).drew) /\ (((((((w.alloc (.cells #[(.pointer (some ⟨wb, 0, none⟩))] 93)).alloc (.cells #[.bool wf] 4)).alloc (.cells #[.int .i64 0, .int .i64 0] 60)).alloc (.cells #[.bool false] 4)).alloc (.cells #[(.pointer (some ⟨wb, 0, none⟩))] 93)).alloc (.cells #[.int .i64 (s.p.i : Nat), .int .i64 (s.p.k : Nat)] 60)).drew).heap.size = w.heap.size + 6 /\ Boxed (((((((w.alloc (.cells #[(.pointer (some ⟨wb, 0, none⟩))] 93)).alloc (.cells #[.bool wf] 4)).alloc (.cells #[.int .i64 0, .int .i64 0] 60)).alloc (.cells #[.bool false] 4)).alloc (.cells #[(.pointer (some ⟨wb, 0, none⟩))] 93)).alloc (.cells #[.int .i64 (s.p.i : Nat), .int .i64 (s.p.k : Nat)] 60)).drew) w.heap.size 93 (.pointer (some ⟨wb, 0, none⟩)) /\ Boxed (((((((w.alloc (.cells #[(.pointer (some ⟨wb, 0, none⟩))] 93)).alloc (.cells #[.bool wf] 4)).alloc (.cells #[.int .i64 0, .int .i64 0] 60)).alloc (.cells #[.bool false] 4)).alloc (.cells #[(.pointer (some ⟨wb, 0, none⟩))] 93)).alloc (.cells #[.int .i64 (s.p.i : Nat), .int .i64 (s.p.k : Nat)] 60)).drew) (w.heap.size + 1) 4 (.bool wf) /\ Bx (((((((w.alloc (.cells #[(.pointer (some ⟨wb, 0, none⟩))] 93)).alloc (.cells #[.bool wf] 4)).alloc (.cells #[.int .i64 0, .int .i64 0] 60)).alloc (.cells #[.bool false] 4)).alloc (.cells #[(.pointer (some ⟨wb, 0, none⟩))] 93)).alloc (.cells #[.int .i64 (s.p.i : Nat), .int .i64 (s.p.k : Nat)] 60)).drew) (w.heap.size + 1 + 1) 0 0 /\ Boxed (((((((w.alloc (.cells #[(.pointer (some ⟨wb, 0, none⟩))] 93)).alloc (.cells #[.bool wf] 4)).alloc (.cells #[.int .i64 0, .int .i64 0] 60)).alloc (.cells #[.bool false] 4)).alloc (.cells #[(.pointer (some ⟨wb, 0, none⟩))] 93)).alloc (.cells #[.int .i64 (s.p.i : Nat), .int .i64 (s.p.k : Nat)] 60)).drew) (w.heap.size + 1 + 1 + 1) 4 (.bool false)) := ⟨h3, k3, hs3, x0, x1, x2, x3⟩
 have HSQ : Hid _ := SQ
 clear h3 k3 hs3 x0 x1 x2 x3 x4 x5 SQ hsz1
 gi_wp2
 refine region_pickN (Sq ((((w.alloc (.cells #[(.pointer (some ⟨wb, 0, none⟩))] 93)).alloc (.cells #[.bool wf] 4)).alloc (.cells #[.int .i64 0, .int .i64 0] 60)).alloc (.cells #[.bool false] 4))) (by kernel_rfl) ?_
 show Any _ _ _ _ _ _ 6 _ ⟨#[_,_,_,_,_,_,_,_,_,_,_,_,_,_,_,_,_,_,_,_,_,_,_,_,_,_,_,_,_,_,_,_,_,_,_,_,_,_,_,_,_,_,_,_,_,_,_,_,_,_,_,_,_,_,_,_,_,_,_,_,_,_,_], []⟩ ((((w.alloc (.cells #[(.pointer (some ⟨wb, 0, none⟩))] 93)).alloc (.cells #[.bool wf] 4)).alloc (.cells #[.int .i64 0, .int .i64 0] 60)).alloc (.cells #[.bool false] 4)).drew
 refine .tl 0 (.pointer (some ⟨wb, 0, none⟩)) rfl (fun w hw => by have a1 := hw.cell z0; go_simp) (Sq.drew ((((w.alloc (.cells #[(.pointer (some ⟨wb, 0, none⟩))] 93)).alloc (.cells #[.bool wf] 4)).alloc (.cells #[.int .i64 0, .int .i64 0] 60)).alloc (.cells #[.bool false] 4))) ?_
 refine .tl 1 (.pointer (some ⟨wb, 0, none⟩)) rfl (fun w hw => by have a1 := hw.cell z0; go_simp) (Sq.drew ((((w.alloc (.cells #[(.pointer (some ⟨wb, 0, none⟩))] 93)).alloc (.cells #[.bool wf] 4)).alloc (.cells #[.int .i64 0, .int .i64 0] 60)).alloc (.cells #[.bool false] 4))) ?_
 refine .tp 2 (.pointer (some ⟨wb, 0, none⟩)) (Sq.drew ((((w.alloc (.cells #[(.pointer (some ⟨wb, 0, none⟩))] 93)).alloc (.cells #[.bool wf] 4)).alloc (.cells #[.int .i64 0, .int .i64 0] 60)).alloc (.cells #[.bool false] 4))) ?_
 refine .tp 3 (.pointer (some ⟨wb, 4, none⟩)) (Sq.drew ((((w.alloc (.cells #[(.pointer (some ⟨wb, 0, none⟩))] 93)).alloc (.cells #[.bool wf] 4)).alloc (.cells #[.int .i64 0, .int .i64 0] 60)).alloc (.cells #[.bool false] 4))) ?_
 refine .tl 4 (.agg #[.int .i64 (s.p.i : Nat), .int .i64 (s.p.k : Nat)]) rfl (fun w hw => by have a1 := hw.cell z4; have a2 := hw.cell z5; go_simp) (Sq.drew ((((w.alloc (.cells #[(.pointer (some ⟨wb, 0, none⟩))] 93)).alloc (.cells #[.bool wf] 4)).alloc (.cells #[.int .i64 0, .int .i64 0] 60)).alloc (.cells #[.bool false] 4))) ?_
 refine .on 5 rfl rfl fun K hK => ?_
 go_simp
 refine ⟨trivial, ?_⟩
 refine (PI _).mono ?_
 clear PI
 rintro e W2 ⟨rfl, rfl⟩
 refine hK _ _ SQ3 ?_
 clear hK K
 show Any _ _ _ _ _ _ 0 _ ⟨#[_,_,_,_,_,_,_,_,_,_,_,_,_,_,_,_,_,_,_,_,_,_,_,_,_,_,_,_,_,_,_,_,_,_,_,_,_,_,_,_,_,_,_,_,_,_,_,_,_,_,_,_,_,_,_,_,_,_,_,_,_,_,_], []⟩ (((((((w.alloc (.cells #[(.pointer (some ⟨wb, 0, none⟩))] 93)).alloc (.cells #[.bool wf] 4)).alloc (.cells #[.int .i64 0, .int .i64 0] 60)).alloc (.cells #[.bool false] 4)).alloc (.cells #[(.pointer (some ⟨wb, 0, none⟩))] 93)).alloc (.cells #[.int .i64 (s.p.i : Nat), .int .i64 (s.p.k : Nat)] 60)).drew)
 refine Any.done (by kernel_rfl) ?_
 rename_i Kb hKb
 refine hKb _ _ ?_
 clear hKb z0 z4 z5 SQ3
 gi_wp2
 generalize ((((((w.alloc (.cells #[(.pointer (some ⟨wb, 0, none⟩))] 93)).alloc (.cells #[.bool wf] 4)).alloc (.cells #[.int .i64 0, .int .i64 0] 60)).alloc (.cells #[.bool false] 4)).alloc (.cells #[(.pointer (some ⟨wb, 0, none⟩))] 93)).alloc (.cells #[.int .i64 (s.p.i : Nat), .int .i64 (s.p.k : Nat)] 60)).drew = W3 at Hx HSQ |-
 obtain ⟨h3, k3, hs3, x0, x1, x2, x3⟩ := Hx.out
 clear Hx
 refine wpIn_rangeFuncQ (gf := 170) (lb := #[(.pointer (some ⟨w.heap.size + 1 + 1 + 1 + 1 + 1, 0, none⟩)), (.pointer (some ⟨w.heap.size + 1 + 1 + 1 + 1, 0, none⟩))]) rfl (enters_of Tryz.func170 (by kernel_rfl) rfl) HSQ.out (fun b hb => by rcases hb with rfl | rfl | rfl <;> omega) (Below.refl _ _) (fun _ => rfl)
  (fun i => i <= E.M.length - s.p.i /\ furF O E.L E.n wf s.p (E.M.length - s.p.i - i) (pAt s.p i) = R) (FuX w W3 (w.heap.size + 1 + 1) (w.heap.size + 1 + 1 + 1) R) (fun c => FuX.own c (by omega) (by omega) (by omega)) ⟨Nat.zero_le _, HR.out⟩
  (fun x => .cells #[.int .i64 (x.i : Nat), .int .i64 (x.k : Nat)] 60) (fun _ => rfl)
  (fun x b => { tmps := #[(.pointer (some ⟨wb, 0, none⟩)), (.bool wf), (.pointer (some ⟨w.heap.size, 0, none⟩)), (.pointer (some ⟨w.heap.size + 1, 0, none⟩)), (.pointer (some ⟨w.heap.size + 1 + 1, 0, none⟩)), (.pointer (some ⟨w.heap.size + 1 + 1 + 1, 0, none⟩)), (.pointer (some ⟨b, 0, none⟩)), undef, (.pointer (some ⟨wb, 0, none⟩)), (.pointer (some ⟨wb, 0, none⟩)), (.pointer (some ⟨wb, 0, none⟩)), (.pointer (some ⟨wb, 4, none⟩)), (.agg #[.int .i64 (s.p.i : Nat), .int .i64 (s.p.k : Nat)]), (.func (.func 170) #[] #[(.pointer (some ⟨w.heap.size + 1 + 1 + 1 + 1 + 1, 0, none⟩)), (.pointer (some ⟨w.heap.size + 1 + 1 + 1 + 1, 0, none⟩))]), (.agg #[.int .i64 (x.i : Nat), .int .i64 (x.k : Nat)]), undef, undef, undef, undef, undef, undef, undef, undef, undef, undef, undef, undef, undef, undef, undef, undef, undef, undef, undef, undef, undef, undef, undef, undef, undef, undef, undef, undef, undef, undef, undef, undef, undef, undef, undef, undef, undef, undef, undef, undef, undef, undef, undef, undef, undef, undef, undef, undef], defers := [] }) ?assign ?body ?done ?stop
 case assign =>
  intro m l x W K hK
  simp only [encP, Pl.v] at hK |-
  gi_wp2
  exact hK
 case body =>
  intro m l i b x W hx hI hB hb hbx
  obtain ⟨hiN, hxe⟩ := plsL_of hx
  obtain ⟨ln, hln⟩ : ∃ ln, E.M[s.p.i + i]? = some ln := ⟨_, List.getElem?_eq_getElem hiN⟩
  have hxi : x.i = s.p.i + i := by rw [hxe, pAt_i]
  have hW := h3.on hB
  have y0 := (boxed_below x0 hB).cell
  have c0 := hW.cell 0
  have q0 := (show Bx W b (x.i : Nat) (x.k : Nat) from hbx).cell 0
  have q1 := (show Bx W b (x.i : Nat) (x.k : Nat) from hbx).cell 1
  simp at c0 q0 q1
  obtain ⟨bl, ol, hq, hcl⟩ := hW.lin.1.at (by omega)
  rw [hq] at c0
  obtain ⟨d0, d1⟩ := hcl (s.p.i + i) ln hln
  rw [<- hxi] at d0 d1
  have e1 : (x.i : Int) < (E.M.length : Int) := by omega
  have hml2 : (E.M.length : Int) <= 1048576 := by omega
  have S0 : Sq W W.drew := Sq.drew W
  have HX : Hid (x = pAt s.p i /\ x.i = s.p.i + i) := ⟨hxe, hxi⟩
  have hxk : Okp E x := by rw [hxe]; exact hp.at hiN
  obtain ⟨pq, hpq⟩ : ∃ pq, pasW O E.L x = pq := ⟨_, rfl⟩
  have hpo : Okp E pq := by rw [<- hpq]; exact hxk.past
  have HSR : Hid (R = if (rst E.L pq).length = 0 then furF O E.L E.n wf s.p (E.M.length - s.p.i - (i + 1)) (pAt s.p (i + 1)) else if s.p.i + i = s.p.i \/ O.marker ln.lp = true \/ ln.n <= E.n \/ O.bare ln.lp = true then none else if O.pEnd wf ln.t = 0 then none else some (pAt s.p i)) := by
   show R = _
   rw [<- hI.2, furF_step hiN hln, <- hxe, hpq, hxe]
  clear HSQ hxe hI hx hW hcl hxi
  gi_wp2
  refine region_pickN (Sq W) (by kernel_rfl) ?_
  show Any _ _ _ _ _ _ 10 _ ⟨#[_,_,_,_,_,_,_,_,_,_,_,_,_,_,_,_,_,_,_,_,_,_,_,_,_,_,_,_,_,_,_,_,_,_,_,_,_,_,_,_,_,_,_,_,_,_,_,_,_,_,_,_,_,_,_,_,_,_,_,_,_,_,_], []⟩ W.drew
  refine .tl 0 (.pointer (some ⟨wb, 0, none⟩)) rfl (fun w hw => by have a1 := hw.cell y0; go_simp) S0 ?_
  refine .tp 1 (.pointer (some ⟨wb, 0, none⟩)) S0 ?_
  refine .tp 2 (.pointer (some ⟨wb, 0, none⟩)) S0 ?_
  refine .tl 3 (.slice (some ⟨bl, ol, none⟩) E.M.length E.c) rfl (fun w hw => by have a1 := hw.cell c0; go_simp) S0 ?_
  refine .tp 4 (.pointer (some ⟨b, 0, none⟩)) S0 ?_
  refine .tl 5 (.int .i64 (x.i : Nat)) rfl (fun w hw => by have a1 := hw.cell q0; go_simp) S0 ?_
  show Any _ _ _ _ _ _ 4 _ ⟨#[_,_,_,_,_,_,_,_,_,_,_,_,_,_,_,_,_,_,_,_,_,_,_,_,_,_,_,_,_,_,_,_,_,_,_,_,_,_,_,_,_,_,_,_,_,_,_,_,_,_,_,_,_,_,_,_,_,_,_,_,_,_,_], []⟩ _
  refine .tp 6 (.pointer (some ⟨bl, ol + x.i * 2, none⟩)) S0 ?_
  refine .tl 7 (.agg #[.int .i64 ln.n, .slice ln.q ln.t.length ln.c]) rfl (fun w hw => by have a1 := hw.cell d0; have a2 := hw.cell d1; go_simp) S0 ?_
  refine .on 8 rfl rfl fun K hK => ?_
  go_simp
  refine hK _ _ (S0.alloc (Nat.le_refl _) _) ?_
  clear hK K
  show Any _ _ _ _ _ _ 1 _ ⟨#[_,_,_,_,_,_,_,_,_,_,_,_,_,_,_,_,_,_,_,_,_,_,_,_,_,_,_,_,_,_,_,_,_,_,_,_,_,_,_,_,_,_,_,_,_,_,_,_,_,_,_,_,_,_,_,_,_,_,_,_,_,_,_], []⟩ (W.drew.alloc (.cells #[.int .i64 0, .slice none 0 0] 44))
  refine .on 9 rfl rfl fun K hK => ?_
  go_simp
  refine hK _ _ (fun k hk => Below.heap_alloc W _ k hk) ?_
  clear hK K
  show Any _ _ _ _ _ _ 0 _ ⟨#[_,_,_,_,_,_,_,_,_,_,_,_,_,_,_,_,_,_,_,_,_,_,_,_,_,_,_,_,_,_,_,_,_,_,_,_,_,_,_,_,_,_,_,_,_,_,_,_,_,_,_,_,_,_,_,_,_,_,_,_,_,_,_], []⟩ (W.alloc (.cells #[.int .i64 ln.n, .slice ln.q ln.t.length ln.c] 44)).drew
  refine Any.done (by kernel_rfl) ?_
  rename_i Kb hKb
  refine hKb _ _ ?_
  clear hKb
  have LK : Below W.heap.size W (W.alloc (.cells #[.int .i64 ln.n, .slice ln.q ln.t.length ln.c] 44)).drew := (below_alloc W _).drew
  have LBl : Bl (W.alloc (.cells #[.int .i64 ln.n, .slice ln.q ln.t.length ln.c] 44)).drew W.heap.size ln := World.alloc_heap_new W _
  generalize (W.alloc (.cells #[.int .i64 ln.n, .slice ln.q ln.t.length ln.c] 44)).drew = WL at LK LBl |-
  have FA : Hid (∀ V : World, Below WL.heap.size WL V -> Below W.heap.size W V /\ Below W3.heap.size W3 V /\ Wk V wb E s ov tv /\ Bx V b (x.i : Nat) (x.k : Nat) /\ Bl V W.heap.size ln /\ Boxed V w.heap.size 93 (.pointer (some ⟨wb, 0, none⟩)) /\ Boxed V (w.heap.size + 1) 4 (.bool wf)) := fun V hV => by
   have a1 : Below W.heap.size W V := LK.trans (hV.mono LK.size)
   have a2 : Below W3.heap.size W3 V := hB.trans (a1.mono hB.size)
   exact ⟨a1, a2, h3.on a2, (show Bx W b (x.i : Nat) (x.k : Nat) from hbx).on a1, LBl.on hV, boxed_below x0 a2, boxed_below x1 a2⟩
  clear y0 c0 q0 q1 d0 d1 S0
  obtain ⟨-, -, a3, a4, -, a6, -⟩ := FA.out WL (Below.refl _ _)
  have y0 := a6.cell
  have q0 := a4.cell 0
  have q1 := a4.cell 1
  simp at q0 q1
  have PB := fun m => (callsIn_wide (n := m)).2 (pastBlanks_any LO a3.drew hf hxk)
  rw [hpq] at PB
  have hrs := rest_small hf hpo
  have hrsI : ((rst E.L pq).length : Int) <= 1300 := by omega
  clear a3 a4 a6 hpq
  by_cases hz : (rst E.L pq).length = 0
  ·have hzI : ((rst E.L pq).length : Int) = 0 := by omega
   have HNX : Hid (i + 1 <= E.M.length - s.p.i /\ furF O E.L E.n wf s.p (E.M.length - s.p.i - (i + 1)) (pAt s.p (i + 1)) = R) := ⟨by omega, by rw [HSR.out, if_pos hz]⟩
   have HZ : Hid ((rst E.L pq).length = 0) := hz
   clear hz
   gi_wp2
   refine region_pickN (Sq WL) (by kernel_rfl) ?_
   show Any _ _ _ _ _ _ 7 _ ⟨#[_,_,_,_,_,_,_,_,_,_,_,_,_,_,_,_,_,_,_,_,_,_,_,_,_,_,_,_,_,_,_,_,_,_,_,_,_,_,_,_,_,_,_,_,_,_,_,_,_,_,_,_,_,_,_,_,_,_,_,_,_,_,_], []⟩ WL.drew
   refine .tl 0 (.pointer (some ⟨wb, 0, none⟩)) rfl (fun w hw => by have a1 := hw.cell y0; go_simp) (Sq.drew WL) ?_
   refine .tl 1 (.pointer (some ⟨wb, 0, none⟩)) rfl (fun w hw => by have a1 := hw.cell y0; go_simp) (Sq.drew WL) ?_
   refine .tl 2 (.agg #[.int .i64 (x.i : Nat), .int .i64 (x.k : Nat)]) rfl (fun w hw => by have a1 := hw.cell q0; have a2 := hw.cell q1; go_simp) (Sq.drew WL) ?_
   refine .on 3 rfl rfl fun K hK => ?_
   go_simp
   first | refine tr2 ?_ | refine tr1 ?_
   refine (PB _).mono ?_
   clear PB
   rintro en V1 ⟨rfl, hB1⟩
   have B1 := ((Below.refl _ WL).drew).trans (hB1.mono (Nat.le_refl _))
   have RS := fun m => (callsIn_wide (n := m)).2 (rest_any (FA.out V1 B1).2.2.1 hf hpo)
   refine hK _ _ (Sq.of B1) ?_
   clear hK K
   show Any _ _ _ _ _ _ 3 _ ⟨#[_,_,_,_,_,_,_,_,_,_,_,_,_,_,_,_,_,_,_,_,_,_,_,_,_,_,_,_,_,_,_,_,_,_,_,_,_,_,_,_,_,_,_,_,_,_,_,_,_,_,_,_,_,_,_,_,_,_,_,_,_,_,_], []⟩ V1
   refine .on 4 rfl rfl fun K hK => ?_
   go_simp
   first | refine tr2 ?_ | refine tr1 ?_
   refine (RS _).mono ?_
   clear RS
   rintro en V2 ⟨rfl, hB2⟩
   have B2 : Below WL.heap.size WL V2 := B1.trans (hB2.mono B1.size)
   refine hK _ _ (Sq.of B2) ?_
   clear hK K
   show Any _ _ _ _ _ _ 2 _ ⟨#[_,_,_,_,_,_,_,_,_,_,_,_,_,_,_,_,_,_,_,_,_,_,_,_,_,_,_,_,_,_,_,_,_,_,_,_,_,_,_,_,_,_,_,_,_,_,_,_,_,_,_,_,_,_,_,_,_,_,_,_,_,_,_], []⟩ V2
   refine .tp 5 (.int .i64 ((rst E.L pq).length : Nat)) (Sq.of B2) ?_
   refine .tp 6 (.bool true) (Sq.of B2) ?_
   refine Any.done (by kernel_rfl) ?_
   rename_i Kb hKb
   refine hKb _ _ ?_
   clear hKb
   have HQ : Hid (Qk b W V2) := Qk.of (FA.out V2 B2).1
   gi_wp2
   exact ⟨HNX.out, HQ.out⟩
  ·have hzI : ¬ ((rst E.L pq).length : Int) = 0 := by omega
   have hz' := hz
   clear hz
   gi_wp2
   refine region_pickN (Sq WL) (by kernel_rfl) ?_
   show Any _ _ _ _ _ _ 7 _ ⟨#[_,_,_,_,_,_,_,_,_,_,_,_,_,_,_,_,_,_,_,_,_,_,_,_,_,_,_,_,_,_,_,_,_,_,_,_,_,_,_,_,_,_,_,_,_,_,_,_,_,_,_,_,_,_,_,_,_,_,_,_,_,_,_], []⟩ WL.drew
   refine .tl 0 (.pointer (some ⟨wb, 0, none⟩)) rfl (fun w hw => by have a1 := hw.cell y0; go_simp) (Sq.drew WL) ?_
   refine .tl 1 (.pointer (some ⟨wb, 0, none⟩)) rfl (fun w hw => by have a1 := hw.cell y0; go_simp) (Sq.drew WL) ?_
   refine .tl 2 (.agg #[.int .i64 (x.i : Nat), .int .i64 (x.k : Nat)]) rfl (fun w hw => by have a1 := hw.cell q0; have a2 := hw.cell q1; go_simp) (Sq.drew WL) ?_
   refine .on 3 rfl rfl fun K hK => ?_
   go_simp
   first | refine tr2 ?_ | refine tr1 ?_
   refine (PB _).mono ?_
   clear PB
   rintro en V1 ⟨rfl, hB1⟩
   have B1 := ((Below.refl _ WL).drew).trans (hB1.mono (Nat.le_refl _))
   have RS := fun m => (callsIn_wide (n := m)).2 (rest_any (FA.out V1 B1).2.2.1 hf hpo)
   refine hK _ _ (Sq.of B1) ?_
   clear hK K
   show Any _ _ _ _ _ _ 3 _ ⟨#[_,_,_,_,_,_,_,_,_,_,_,_,_,_,_,_,_,_,_,_,_,_,_,_,_,_,_,_,_,_,_,_,_,_,_,_,_,_,_,_,_,_,_,_,_,_,_,_,_,_,_,_,_,_,_,_,_,_,_,_,_,_,_], []⟩ V1
   refine .on 4 rfl rfl fun K hK => ?_
   go_simp
   first | refine tr2 ?_ | refine tr1 ?_
   refine (RS _).mono ?_
   clear RS
   rintro en V2 ⟨rfl, hB2⟩
   have B2 : Below WL.heap.size WL V2 := B1.trans (hB2.mono B1.size)
   refine hK _ _ (Sq.of B2) ?_
   clear hK K
   show Any _ _ _ _ _ _ 2 _ ⟨#[_,_,_,_,_,_,_,_,_,_,_,_,_,_,_,_,_,_,_,_,_,_,_,_,_,_,_,_,_,_,_,_,_,_,_,_,_,_,_,_,_,_,_,_,_,_,_,_,_,_,_,_,_,_,_,_,_,_,_,_,_,_,_], []⟩ V2
   refine .tp 5 (.int .i64 ((rst E.L pq).length : Nat)) (Sq.of B2) ?_
   refine .tp 6 (.bool false) (Sq.of B2) ?_
   refine Any.done (by kernel_rfl) ?_
   rename_i Kb hKb
   refine hKb _ _ ?_
   clear hKb
   clear y0 q0 q1 B1 hB1 hB2
   obtain ⟨-, -, a3, a4, a5, a6, a7⟩ := FA.out V2 B2
   have y0 := a6.cell
   have y9 := a7.cell
   have q0 := a4.cell 0
   have q1 := a4.cell 1
   have l0 := a5.cell 0
   have l1 := a5.cell 1
   have p1 := a3.cell 1
   have p4 := a3.cell 4
   simp at q0 q1 l0 l1 p1 p4
   obtain ⟨mv, hmv⟩ : ∃ mv, mk ln.lp = mv := ⟨_, rfl⟩
   have MC := fun m => (callsIn_wide (n := m)).2 (MK ln V2.drew (hf.t2 _ ln hln) (a3.drew.lin.1.1 _ ln hln))
   rw [hmv] at MC
   have BC : ∀ V3, Below V2.heap.size V2 V3 -> ∀ m, CallsIn Fence.wide m Tryz.prog 157 #[(.agg #[.int .i64 ln.n, .slice ln.q ln.t.length ln.c])] V3 fun en w' => en = .returned (.bool (O.bare ln.lp)) /\ Below V3.heap.size V3 w' := fun V3 hb m => (callsIn_wide (n := m)).2 (LL.bare ln V3 (hf.t2 _ ln hln) ((a3.on hb).lin.1.1 _ ln hln))
   have HMV : Hid (O.marker ln.lp = decide (mv ≠ 0)) := by show _ = _; rw [hmk, hmv]
   clear hmv hmk MK a4 a5 a6 a7
   have F2 : Hid (∀ V, Below V2.heap.size V2 V -> Below WL.heap.size WL V) := fun V hV => B2.trans (hV.mono B2.size)
   by_cases hi0 : i = 0
   ·have E2 : Hid (((x.i : Int) == (s.p.i : Int)) = true) := by show _ = _; rw [HX.out.2, hi0]; simp
    have E3 : Hid ((x.i : Int) = (s.p.i : Int)) := by show _ = _; rw [HX.out.2, hi0]; rfl
    have HI0 : Hid (i = 0) := hi0
    clear hi0 a3 BC MC
    gi_wp2
    refine region_pickN (Sq V2) (by kernel_rfl) ?_
    show Any _ _ _ _ _ _ 26 _ ⟨#[_,_,_,_,_,_,_,_,_,_,_,_,_,_,_,_,_,_,_,_,_,_,_,_,_,_,_,_,_,_,_,_,_,_,_,_,_,_,_,_,_,_,_,_,_,_,_,_,_,_,_,_,_,_,_,_,_,_,_,_,_,_,_], []⟩ V2.drew
    refine .tp 0 (.pointer (some ⟨b, 0, none⟩)) (Sq.drew V2) ?_
    refine .tl 1 (.int .i64 (x.i : Nat)) rfl (fun w hw => by have a1 := hw.cell q0; go_simp) (Sq.drew V2) ?_
    refine .tl 2 (.pointer (some ⟨wb, 0, none⟩)) rfl (fun w hw => by have a1 := hw.cell y0; go_simp) (Sq.drew V2) ?_
    refine .tp 3 (.pointer (some ⟨wb, 0, none⟩)) (Sq.drew V2) ?_
    refine .tp 4 (.pointer (some ⟨wb, 4, none⟩)) (Sq.drew V2) ?_
    refine .tp 5 (.pointer (some ⟨wb, 4, none⟩)) (Sq.drew V2) ?_
    show Any _ _ _ _ _ _ 20 _ ⟨#[_,_,_,_,_,_,_,_,_,_,_,_,_,_,_,_,_,_,_,_,_,_,_,_,_,_,_,_,_,_,_,_,_,_,_,_,_,_,_,_,_,_,_,_,_,_,_,_,_,_,_,_,_,_,_,_,_,_,_,_,_,_,_], []⟩ _
    refine .tl 6 (.int .i64 (s.p.i : Nat)) rfl (fun w hw => by have a1 := hw.cell p4; go_simp) (Sq.drew V2) ?_
    refine .tl 7 (.bool true) rfl (fun w _ => by have e2 := E2.out; have e3 := E3.out; go_simp) (Sq.drew V2) ?_
    refine .tp 8 (.bool true) (Sq.drew V2) ?_
    refine .ts 9 (Sq.drew V2) ?_
    refine .ts 10 (Sq.drew V2) ?_
    refine .ts 11 (Sq.drew V2) ?_
    show Any _ _ _ _ _ _ 14 _ ⟨#[_,_,_,_,_,_,_,_,_,_,_,_,_,_,_,_,_,_,_,_,_,_,_,_,_,_,_,_,_,_,_,_,_,_,_,_,_,_,_,_,_,_,_,_,_,_,_,_,_,_,_,_,_,_,_,_,_,_,_,_,_,_,_], []⟩ _
    refine .tp 12 (.bool true) (Sq.drew V2) ?_
    refine .tp 13 (.bool true) (Sq.drew V2) ?_
    refine .ts 14 (Sq.drew V2) ?_
    refine .ts 15 (Sq.drew V2) ?_
    refine .ts 16 (Sq.drew V2) ?_
    refine .ts 17 (Sq.drew V2) ?_
    show Any _ _ _ _ _ _ 8 _ ⟨#[_,_,_,_,_,_,_,_,_,_,_,_,_,_,_,_,_,_,_,_,_,_,_,_,_,_,_,_,_,_,_,_,_,_,_,_,_,_,_,_,_,_,_,_,_,_,_,_,_,_,_,_,_,_,_,_,_,_,_,_,_,_,_], []⟩ _
    refine .ts 18 (Sq.drew V2) ?_
    refine .ts 19 (Sq.drew V2) ?_
    refine .ts 20 (Sq.drew V2) ?_
    refine .tp 21 (.bool true) (Sq.drew V2) ?_
    refine .tp 22 (.bool true) (Sq.drew V2) ?_
    refine .ts 23 (Sq.drew V2) ?_
    show Any _ _ _ _ _ _ 2 _ ⟨#[_,_,_,_,_,_,_,_,_,_,_,_,_,_,_,_,_,_,_,_,_,_,_,_,_,_,_,_,_,_,_,_,_,_,_,_,_,_,_,_,_,_,_,_,_,_,_,_,_,_,_,_,_,_,_,_,_,_,_,_,_,_,_], []⟩ _
    refine .ts 24 (Sq.drew V2) ?_
    refine .tp 25 (.bool true) (Sq.drew V2) ?_
    refine Any.done (by kernel_rfl) ?_
    rename_i Kb hKb
    refine hKb _ _ ?_
    clear hKb
    have HFIN : Hid (KeepsFrom W3.heap.size W V2.drew /\ FuX w W3 (w.heap.size + 1 + 1) (w.heap.size + 1 + 1 + 1) R (.exit 0) V2.drew) := by
     obtain ⟨a1, a2, -⟩ := FA.out V2.drew (F2.out _ ((Below.refl _ V2).drew))
     exact ⟨⟨a1.size, fun k o _ ho _ => (a1.block k (Array.getElem?_eq_some_iff.1 ho).1).trans ho⟩, a2.size, k3.trans (a2.mono k3.size), .inr ⟨rfl, a2, by rw [HSR.out, if_neg hz', if_pos (.inl (by rw [HI0.out]; rfl))]⟩⟩
    gi_wp2
    exact HFIN.out
   ·have E2 : Hid (((x.i : Int) == (s.p.i : Int)) = false) := by show _ = _; rw [beq_eq_false_iff_ne]; have := HX.out.2; omega
    have E3 : Hid (¬ (x.i : Int) = (s.p.i : Int)) := by have := HX.out.2; show ¬ _; omega
    have HI0 : Hid (¬ s.p.i + i = s.p.i) := by show ¬ _; omega
    clear hi0
    by_cases hm0 : mv = 0
    ·have EM : Hid ((mv == 0) = true) := by show _ = _; rw [hm0]; rfl
     have EM2 : Hid ((mv != 0) = false) := by show _ = _; rw [hm0]; rfl
     have HM : Hid (¬ O.marker ln.lp = true) := by show ¬ _; rw [HMV.out, hm0]; simp
     clear hm0
     by_cases hle : ln.n <= E.n
     ·have EL : Hid (decide (ln.n <= E.n) = true) := decide_eq_true hle
      have HLE : Hid (ln.n <= E.n) := hle
      clear hle a3 BC
      gi_wp2
      refine region_pickN (Sq V2) (by kernel_rfl) ?_
      show Any _ _ _ _ _ _ 26 _ ⟨#[_,_,_,_,_,_,_,_,_,_,_,_,_,_,_,_,_,_,_,_,_,_,_,_,_,_,_,_,_,_,_,_,_,_,_,_,_,_,_,_,_,_,_,_,_,_,_,_,_,_,_,_,_,_,_,_,_,_,_,_,_,_,_], []⟩ V2.drew
      refine .tp 0 (.pointer (some ⟨b, 0, none⟩)) (Sq.drew V2) ?_
      refine .tl 1 (.int .i64 (x.i : Nat)) rfl (fun w hw => by have a1 := hw.cell q0; go_simp) (Sq.drew V2) ?_
      refine .tl 2 (.pointer (some ⟨wb, 0, none⟩)) rfl (fun w hw => by have a1 := hw.cell y0; go_simp) (Sq.drew V2) ?_
      refine .tp 3 (.pointer (some ⟨wb, 0, none⟩)) (Sq.drew V2) ?_
      refine .tp 4 (.pointer (some ⟨wb, 4, none⟩)) (Sq.drew V2) ?_
      refine .tp 5 (.pointer (some ⟨wb, 4, none⟩)) (Sq.drew V2) ?_
      show Any _ _ _ _ _ _ 20 _ ⟨#[_,_,_,_,_,_,_,_,_,_,_,_,_,_,_,_,_,_,_,_,_,_,_,_,_,_,_,_,_,_,_,_,_,_,_,_,_,_,_,_,_,_,_,_,_,_,_,_,_,_,_,_,_,_,_,_,_,_,_,_,_,_,_], []⟩ _
      refine .tl 6 (.int .i64 (s.p.i : Nat)) rfl (fun w hw => by have a1 := hw.cell p4; go_simp) (Sq.drew V2) ?_
      refine .tl 7 (.bool false) rfl (fun w _ => by have e2 := E2.out; have e3 := E3.out; go_simp) (Sq.drew V2) ?_
      refine .tp 8 (.bool false) (Sq.drew V2) ?_
      refine .tl 9 (.agg #[.int .i64 ln.n, .slice ln.q ln.t.length ln.c]) rfl (fun w hw => by have a1 := hw.cell l0; have a2 := hw.cell l1; go_simp) (Sq.drew V2) ?_
      refine .on 10 rfl rfl fun K hK => ?_
      go_simp
      first | refine tr2 ?_ | refine tr1 ?_
      refine (MC _).mono ?_
      clear MC
      rintro en V3 ⟨rfl, hB3⟩
      have B3 := ((Below.refl _ V2).drew).trans (hB3.mono (Nat.le_refl _))
      refine hK _ _ (Sq.of B3) ?_
      clear hK K
      show Any _ _ _ _ _ _ 15 _ ⟨#[_,_,_,_,_,_,_,_,_,_,_,_,_,_,_,_,_,_,_,_,_,_,_,_,_,_,_,_,_,_,_,_,_,_,_,_,_,_,_,_,_,_,_,_,_,_,_,_,_,_,_,_,_,_,_,_,_,_,_,_,_,_,_], []⟩ V3
      refine .tl 11 (.bool false) rfl (fun w _ => by have em := EM.out; have em2 := EM2.out; go_simp) (Sq.of B3) ?_
      refine .tp 12 (.bool false) (Sq.of B3) ?_
      refine .tp 13 (.bool false) (Sq.of B3) ?_
      refine .tp 14 (.pointer (some ⟨W.heap.size, 0, none⟩)) (Sq.of B3) ?_
      refine .tl 15 (.int .i64 ln.n) rfl (fun w hw => by have a1 := hw.cell l0; go_simp) (Sq.of B3) ?_
      refine .tl 16 (.pointer (some ⟨wb, 0, none⟩)) rfl (fun w hw => by have a1 := hw.cell y0; go_simp) (Sq.of B3) ?_
      show Any _ _ _ _ _ _ 9 _ ⟨#[_,_,_,_,_,_,_,_,_,_,_,_,_,_,_,_,_,_,_,_,_,_,_,_,_,_,_,_,_,_,_,_,_,_,_,_,_,_,_,_,_,_,_,_,_,_,_,_,_,_,_,_,_,_,_,_,_,_,_,_,_,_,_], []⟩ _
      refine .tp 17 (.pointer (some ⟨wb, 0, none⟩)) (Sq.of B3) ?_
      refine .tp 18 (.pointer (some ⟨wb, 1, none⟩)) (Sq.of B3) ?_
      refine .tl 19 (.int .i64 E.n) rfl (fun w hw => by have a1 := hw.cell p1; go_simp) (Sq.of B3) ?_
      refine .tl 20 (.bool true) rfl (fun w _ => by have el := EL.out; go_simp) (Sq.of B3) ?_
      refine .tp 21 (.bool true) (Sq.of B3) ?_
      refine .tp 22 (.bool true) (Sq.of B3) ?_
      show Any _ _ _ _ _ _ 3 _ ⟨#[_,_,_,_,_,_,_,_,_,_,_,_,_,_,_,_,_,_,_,_,_,_,_,_,_,_,_,_,_,_,_,_,_,_,_,_,_,_,_,_,_,_,_,_,_,_,_,_,_,_,_,_,_,_,_,_,_,_,_,_,_,_,_], []⟩ _
      refine .ts 23 (Sq.of B3) ?_
      refine .ts 24 (Sq.of B3) ?_
      refine .tp 25 (.bool true) (Sq.of B3) ?_
      refine Any.done (by kernel_rfl) ?_
      rename_i Kb hKb
      refine hKb _ _ ?_
      clear hKb
      have HFIN : Hid (KeepsFrom W3.heap.size W V3 /\ FuX w W3 (w.heap.size + 1 + 1) (w.heap.size + 1 + 1 + 1) R (.exit 0) V3) := by
       obtain ⟨a1, a2, -⟩ := FA.out V3 (F2.out _ B3)
       exact ⟨⟨a1.size, fun k o _ ho _ => (a1.block k (Array.getElem?_eq_some_iff.1 ho).1).trans ho⟩, a2.size, k3.trans (a2.mono k3.size), .inr ⟨rfl, a2, by rw [HSR.out, if_neg hz', if_pos (.inr (.inr (.inl HLE.out)))]⟩⟩
      gi_wp2
      exact HFIN.out
     ·have EL : Hid (decide (ln.n <= E.n) = false) := decide_eq_false hle
      have HLE : Hid (¬ ln.n <= E.n) := hle
      clear hle
      cases hba : O.bare ln.lp with
      | true =>
       rw [hba] at BC
       have HBA : Hid (O.bare ln.lp = true) := hba
       clear hba a3
       gi_wp2
       refine region_pickN (Sq V2) (by kernel_rfl) ?_
       show Any _ _ _ _ _ _ 26 _ ⟨#[_,_,_,_,_,_,_,_,_,_,_,_,_,_,_,_,_,_,_,_,_,_,_,_,_,_,_,_,_,_,_,_,_,_,_,_,_,_,_,_,_,_,_,_,_,_,_,_,_,_,_,_,_,_,_,_,_,_,_,_,_,_,_], []⟩ V2.drew
       refine .tp 0 (.pointer (some ⟨b, 0, none⟩)) (Sq.drew V2) ?_
       refine .tl 1 (.int .i64 (x.i : Nat)) rfl (fun w hw => by have a1 := hw.cell q0; go_simp) (Sq.drew V2) ?_
       refine .tl 2 (.pointer (some ⟨wb, 0, none⟩)) rfl (fun w hw => by have a1 := hw.cell y0; go_simp) (Sq.drew V2) ?_
       refine .tp 3 (.pointer (some ⟨wb, 0, none⟩)) (Sq.drew V2) ?_
       refine .tp 4 (.pointer (some ⟨wb, 4, none⟩)) (Sq.drew V2) ?_
       refine .tp 5 (.pointer (some ⟨wb, 4, none⟩)) (Sq.drew V2) ?_
       show Any _ _ _ _ _ _ 20 _ ⟨#[_,_,_,_,_,_,_,_,_,_,_,_,_,_,_,_,_,_,_,_,_,_,_,_,_,_,_,_,_,_,_,_,_,_,_,_,_,_,_,_,_,_,_,_,_,_,_,_,_,_,_,_,_,_,_,_,_,_,_,_,_,_,_], []⟩ _
       refine .tl 6 (.int .i64 (s.p.i : Nat)) rfl (fun w hw => by have a1 := hw.cell p4; go_simp) (Sq.drew V2) ?_
       refine .tl 7 (.bool false) rfl (fun w _ => by have e2 := E2.out; have e3 := E3.out; go_simp) (Sq.drew V2) ?_
       refine .tp 8 (.bool false) (Sq.drew V2) ?_
       refine .tl 9 (.agg #[.int .i64 ln.n, .slice ln.q ln.t.length ln.c]) rfl (fun w hw => by have a1 := hw.cell l0; have a2 := hw.cell l1; go_simp) (Sq.drew V2) ?_
       refine .on 10 rfl rfl fun K hK => ?_
       go_simp
       first | refine tr2 ?_ | refine tr1 ?_
       refine (MC _).mono ?_
       clear MC
       rintro en V3 ⟨rfl, hB3⟩
       have B3 := ((Below.refl _ V2).drew).trans (hB3.mono (Nat.le_refl _))
       refine hK _ _ (Sq.of B3) ?_
       clear hK K
       show Any _ _ _ _ _ _ 15 _ ⟨#[_,_,_,_,_,_,_,_,_,_,_,_,_,_,_,_,_,_,_,_,_,_,_,_,_,_,_,_,_,_,_,_,_,_,_,_,_,_,_,_,_,_,_,_,_,_,_,_,_,_,_,_,_,_,_,_,_,_,_,_,_,_,_], []⟩ V3
       refine .tl 11 (.bool false) rfl (fun w _ => by have em := EM.out; have em2 := EM2.out; go_simp) (Sq.of B3) ?_
       refine .tp 12 (.bool false) (Sq.of B3) ?_
       refine .tp 13 (.bool false) (Sq.of B3) ?_
       refine .tp 14 (.pointer (some ⟨W.heap.size, 0, none⟩)) (Sq.of B3) ?_
       refine .tl 15 (.int .i64 ln.n) rfl (fun w hw => by have a1 := hw.cell l0; go_simp) (Sq.of B3) ?_
       refine .tl 16 (.pointer (some ⟨wb, 0, none⟩)) rfl (fun w hw => by have a1 := hw.cell y0; go_simp) (Sq.of B3) ?_
       show Any _ _ _ _ _ _ 9 _ ⟨#[_,_,_,_,_,_,_,_,_,_,_,_,_,_,_,_,_,_,_,_,_,_,_,_,_,_,_,_,_,_,_,_,_,_,_,_,_,_,_,_,_,_,_,_,_,_,_,_,_,_,_,_,_,_,_,_,_,_,_,_,_,_,_], []⟩ _
       refine .tp 17 (.pointer (some ⟨wb, 0, none⟩)) (Sq.of B3) ?_
       refine .tp 18 (.pointer (some ⟨wb, 1, none⟩)) (Sq.of B3) ?_
       refine .tl 19 (.int .i64 E.n) rfl (fun w hw => by have a1 := hw.cell p1; go_simp) (Sq.of B3) ?_
       refine .tl 20 (.bool false) rfl (fun w _ => by have el := EL.out; go_simp) (Sq.of B3) ?_
       refine .tp 21 (.bool false) (Sq.of B3) ?_
       refine .tp 22 (.bool false) (Sq.of B3) ?_
       show Any _ _ _ _ _ _ 3 _ ⟨#[_,_,_,_,_,_,_,_,_,_,_,_,_,_,_,_,_,_,_,_,_,_,_,_,_,_,_,_,_,_,_,_,_,_,_,_,_,_,_,_,_,_,_,_,_,_,_,_,_,_,_,_,_,_,_,_,_,_,_,_,_,_,_], []⟩ _
       refine .tl 23 (.agg #[.int .i64 ln.n, .slice ln.q ln.t.length ln.c]) rfl (fun w hw => by have a1 := hw.cell l0; have a2 := hw.cell l1; go_simp) (Sq.of B3) ?_
       refine .on 24 rfl rfl fun K hK => ?_
       go_simp
       first | refine tr2 ?_ | refine tr1 ?_
       refine (BC V3 B3 _).mono ?_
       clear BC
       rintro en V4 ⟨rfl, hB4⟩
       have B4 : Below V2.heap.size V2 V4 := B3.trans (hB4.mono B3.size)
       refine hK _ _ (Sq.of B4) ?_
       clear hK K
       show Any _ _ _ _ _ _ 1 _ ⟨#[_,_,_,_,_,_,_,_,_,_,_,_,_,_,_,_,_,_,_,_,_,_,_,_,_,_,_,_,_,_,_,_,_,_,_,_,_,_,_,_,_,_,_,_,_,_,_,_,_,_,_,_,_,_,_,_,_,_,_,_,_,_,_], []⟩ V4
       refine .tp 25 (.bool true) (Sq.of B4) ?_
       refine Any.done (by kernel_rfl) ?_
       rename_i Kb hKb
       refine hKb _ _ ?_
       clear hKb
       have HFIN : Hid (KeepsFrom W3.heap.size W V4 /\ FuX w W3 (w.heap.size + 1 + 1) (w.heap.size + 1 + 1 + 1) R (.exit 0) V4) := by
        obtain ⟨a1, a2, -⟩ := FA.out V4 (F2.out _ B4)
        exact ⟨⟨a1.size, fun k o _ ho _ => (a1.block k (Array.getElem?_eq_some_iff.1 ho).1).trans ho⟩, a2.size, k3.trans (a2.mono k3.size), .inr ⟨rfl, a2, by rw [HSR.out, if_neg hz', if_pos (.inr (.inr (.inr HBA.out)))]⟩⟩
       gi_wp2
       exact HFIN.out
      | false =>
       rw [hba] at BC
       have HNO : Hid (¬ (s.p.i + i = s.p.i \/ O.marker ln.lp = true \/ ln.n <= E.n \/ O.bare ln.lp = true)) := by
        rintro (e | e | e | e)
        ·exact HI0.out e
        ·exact HM.out e
        ·exact HLE.out e
        ·rw [hba] at e; cases e
       clear hba a3
       gi_wp2
       refine region_pickN (Sq V2) (by kernel_rfl) ?_
       show Any _ _ _ _ _ _ 26 _ ⟨#[_,_,_,_,_,_,_,_,_,_,_,_,_,_,_,_,_,_,_,_,_,_,_,_,_,_,_,_,_,_,_,_,_,_,_,_,_,_,_,_,_,_,_,_,_,_,_,_,_,_,_,_,_,_,_,_,_,_,_,_,_,_,_], []⟩ V2.drew
       refine .tp 0 (.pointer (some ⟨b, 0, none⟩)) (Sq.drew V2) ?_
       refine .tl 1 (.int .i64 (x.i : Nat)) rfl (fun w hw => by have a1 := hw.cell q0; go_simp) (Sq.drew V2) ?_
       refine .tl 2 (.pointer (some ⟨wb, 0, none⟩)) rfl (fun w hw => by have a1 := hw.cell y0; go_simp) (Sq.drew V2) ?_
       refine .tp 3 (.pointer (some ⟨wb, 0, none⟩)) (Sq.drew V2) ?_
       refine .tp 4 (.pointer (some ⟨wb, 4, none⟩)) (Sq.drew V2) ?_
       refine .tp 5 (.pointer (some ⟨wb, 4, none⟩)) (Sq.drew V2) ?_
       show Any _ _ _ _ _ _ 20 _ ⟨#[_,_,_,_,_,_,_,_,_,_,_,_,_,_,_,_,_,_,_,_,_,_,_,_,_,_,_,_,_,_,_,_,_,_,_,_,_,_,_,_,_,_,_,_,_,_,_,_,_,_,_,_,_,_,_,_,_,_,_,_,_,_,_], []⟩ _
       refine .tl 6 (.int .i64 (s.p.i : Nat)) rfl (fun w hw => by have a1 := hw.cell p4; go_simp) (Sq.drew V2) ?_
       refine .tl 7 (.bool false) rfl (fun w _ => by have e2 := E2.out; have e3 := E3.out; go_simp) (Sq.drew V2) ?_
       refine .tp 8 (.bool false) (Sq.drew V2) ?_
       refine .tl 9 (.agg #[.int .i64 ln.n, .slice ln.q ln.t.length ln.c]) rfl (fun w hw => by have a1 := hw.cell l0; have a2 := hw.cell l1; go_simp) (Sq.drew V2) ?_
       refine .on 10 rfl rfl fun K hK => ?_
       go_simp
       first | refine tr2 ?_ | refine tr1 ?_
       refine (MC _).mono ?_
       clear MC
       rintro en V3 ⟨rfl, hB3⟩
       have B3 := ((Below.refl _ V2).drew).trans (hB3.mono (Nat.le_refl _))
       refine hK _ _ (Sq.of B3) ?_
       clear hK K
       show Any _ _ _ _ _ _ 15 _ ⟨#[_,_,_,_,_,_,_,_,_,_,_,_,_,_,_,_,_,_,_,_,_,_,_,_,_,_,_,_,_,_,_,_,_,_,_,_,_,_,_,_,_,_,_,_,_,_,_,_,_,_,_,_,_,_,_,_,_,_,_,_,_,_,_], []⟩ V3
       refine .tl 11 (.bool false) rfl (fun w _ => by have em := EM.out; have em2 := EM2.out; go_simp) (Sq.of B3) ?_
       refine .tp 12 (.bool false) (Sq.of B3) ?_
       refine .tp 13 (.bool false) (Sq.of B3) ?_
       refine .tp 14 (.pointer (some ⟨W.heap.size, 0, none⟩)) (Sq.of B3) ?_
       refine .tl 15 (.int .i64 ln.n) rfl (fun w hw => by have a1 := hw.cell l0; go_simp) (Sq.of B3) ?_
       refine .tl 16 (.pointer (some ⟨wb, 0, none⟩)) rfl (fun w hw => by have a1 := hw.cell y0; go_simp) (Sq.of B3) ?_
       show Any _ _ _ _ _ _ 9 _ ⟨#[_,_,_,_,_,_,_,_,_,_,_,_,_,_,_,_,_,_,_,_,_,_,_,_,_,_,_,_,_,_,_,_,_,_,_,_,_,_,_,_,_,_,_,_,_,_,_,_,_,_,_,_,_,_,_,_,_,_,_,_,_,_,_], []⟩ _
       refine .tp 17 (.pointer (some ⟨wb, 0, none⟩)) (Sq.of B3) ?_
       refine .tp 18 (.pointer (some ⟨wb, 1, none⟩)) (Sq.of B3) ?_
       refine .tl 19 (.int .i64 E.n) rfl (fun w hw => by have a1 := hw.cell p1; go_simp) (Sq.of B3) ?_
       refine .tl 20 (.bool false) rfl (fun w _ => by have el := EL.out; go_simp) (Sq.of B3) ?_
       refine .tp 21 (.bool false) (Sq.of B3) ?_
       refine .tp 22 (.bool false) (Sq.of B3) ?_
       show Any _ _ _ _ _ _ 3 _ ⟨#[_,_,_,_,_,_,_,_,_,_,_,_,_,_,_,_,_,_,_,_,_,_,_,_,_,_,_,_,_,_,_,_,_,_,_,_,_,_,_,_,_,_,_,_,_,_,_,_,_,_,_,_,_,_,_,_,_,_,_,_,_,_,_], []⟩ _
       refine .tl 23 (.agg #[.int .i64 ln.n, .slice ln.q ln.t.length ln.c]) rfl (fun w hw => by have a1 := hw.cell l0; have a2 := hw.cell l1; go_simp) (Sq.of B3) ?_
       refine .on 24 rfl rfl fun K hK => ?_
       go_simp
       first | refine tr2 ?_ | refine tr1 ?_
       refine (BC V3 B3 _).mono ?_
       clear BC
       rintro en V4 ⟨rfl, hB4⟩
       have B4 : Below V2.heap.size V2 V4 := B3.trans (hB4.mono B3.size)
       refine hK _ _ (Sq.of B4) ?_
       clear hK K
       show Any _ _ _ _ _ _ 1 _ ⟨#[_,_,_,_,_,_,_,_,_,_,_,_,_,_,_,_,_,_,_,_,_,_,_,_,_,_,_,_,_,_,_,_,_,_,_,_,_,_,_,_,_,_,_,_,_,_,_,_,_,_,_,_,_,_,_,_,_,_,_,_,_,_,_], []⟩ V4
       refine .tp 25 (.bool false) (Sq.of B4) ?_
       refine Any.done (by kernel_rfl) ?_
       rename_i Kb hKb
       refine hKb _ _ ?_
       clear hKb
       clear y0 y9 q0 q1 l0 l1 p1 p4
       obtain ⟨V5, hV5⟩ : ∃ V5, V4 = V5 := ⟨_, rfl⟩
       rw [hV5] at B4 |-
       have B5 : Below WL.heap.size WL V5 := F2.out V5 B4
       obtain ⟨-, -, a3, a4, a5, a6, a7⟩ := FA.out V5 B5
       have y0 := a6.cell
       have y9 := a7.cell
       have q0 := a4.cell 0
       have q1 := a4.cell 1
       have l0 := a5.cell 0
       have l1 := a5.cell 1
       have p1 := a3.cell 1
       have p4 := a3.cell 4
       simp at q0 q1 l0 l1 p1 p4
       have PE := fun m => (callsIn_wide (n := m)).2 (LP.pEnd wf ln.q ln.t ln.c V5.drew (hf.t2 _ ln hln) (a3.drew.lin.1.1 _ ln hln).2.2)
       have hWs := LK.size
       have h1 : b ≠ w.heap.size + 1 + 1 := by omega
       have h2 : b ≠ w.heap.size + 1 + 1 + 1 := by omega
       have hBs := hB.size
       have h3' : W.heap.size ≠ w.heap.size + 1 + 1 := by omega
       have h4' : W.heap.size ≠ w.heap.size + 1 + 1 + 1 := by omega
       have h5' : w.heap.size + 1 ≠ w.heap.size + 1 + 1 := by omega
       have h6' : w.heap.size + 1 ≠ w.heap.size + 1 + 1 + 1 := by omega
       have hpeI : ((O.pEnd wf ln.t : Nat) : Int) <= 1300 := by have := O.pEnd_le wf ln.t; have := hf.t2 _ ln hln; omega
       clear a3 a4 a5 a6 a7 hV5 B4 hB3 hB4 B3
       by_cases hpe : 0 < O.pEnd wf ln.t
       ·have HPE : Hid ((0 : Int) < ((O.pEnd wf ln.t : Nat) : Int)) := by show (0 : Int) < _; omega
        have HPN : Hid (0 < O.pEnd wf ln.t) := hpe
        clear hpe
        have HFX : Hid (∀ V6, Below V5.heap.size V5 V6 -> V6.frozen? ⟨w.heap.size + 1 + 1, 0, none⟩ = false /\ V6.frozen? ⟨w.heap.size + 1 + 1, 1, none⟩ = false /\ V6.cell? ⟨w.heap.size + 1 + 1, 0, none⟩ = some (.int .i64 0) /\ V6.cell? ⟨w.heap.size + 1 + 1, 1, none⟩ = some (.int .i64 0) /\ V6.cell? ⟨w.heap.size + 1 + 1 + 1, 0, none⟩ = some (.bool false) /\ V6.frozen? ⟨w.heap.size + 1 + 1 + 1, 0, none⟩ = false /\ Hid (KeepsFrom W3.heap.size W (((V6.setCell ⟨w.heap.size + 1 + 1, 0, none⟩ (.int .i64 (x.i : Nat))).setCell ⟨w.heap.size + 1 + 1, 1, none⟩ (.int .i64 (x.k : Nat))).setCell ⟨w.heap.size + 1 + 1 + 1, 0, none⟩ (.bool true)) /\ FuX w W3 (w.heap.size + 1 + 1) (w.heap.size + 1 + 1 + 1) R .ret (((V6.setCell ⟨w.heap.size + 1 + 1, 0, none⟩ (.int .i64 (x.i : Nat))).setCell ⟨w.heap.size + 1 + 1, 1, none⟩ (.int .i64 (x.k : Nat))).setCell ⟨w.heap.size + 1 + 1 + 1, 0, none⟩ (.bool true)))) := fun V6 hB6 => by
         obtain ⟨a1, a2, -⟩ := FA.out V6 (B5.trans (hB6.mono B5.size))
         have z0 := (x2.on a2).cell 0
         have z1 := (x2.on a2).cell 1
         simp at z0 z1
         exact ⟨(x2.on a2).frozen 0, (x2.on a2).frozen 1, z0, z1, (boxed_below x3 a2).cell, (boxed_below x3 a2).frozen, fu_fin k3 a2 ⟨a1.size, fun k o _ ho _ => (a1.block k (Array.getElem?_eq_some_iff.1 ho).1).trans ho⟩ (by omega) (Nat.lt_succ_self _) (by omega) x2 x3 _ _ _ (by rw [HSR.out, if_neg hz', if_neg HNO.out, if_neg (by have := HPE.out; omega), <- HX.out.1]; exact ⟨rfl, rfl, rfl⟩)⟩
        clear FA
        gi_wp2
        refine region_pickN (Sq2 V5 (w.heap.size + 1 + 1) (w.heap.size + 1 + 1 + 1)) (by kernel_rfl) ?_
        show Any _ _ _ _ _ _ 8 _ ⟨#[_,_,_,_,_,_,_,_,_,_,_,_,_,_,_,_,_,_,_,_,_,_,_,_,_,_,_,_,_,_,_,_,_,_,_,_,_,_,_,_,_,_,_,_,_,_,_,_,_,_,_,_,_,_,_,_,_,_,_,_,_,_,_], []⟩ V5.drew
        refine .tl 0 (.agg #[.int .i64 (x.i : Nat), .int .i64 (x.k : Nat)]) rfl (fun w hw => by have a1 := hw.cell q0 h1 h2; have a2 := hw.cell q1 h1 h2; go_simp) (Sq2.of ((Below.refl _ V5).drew)) ?_
        refine .tp 1 (.pointer (some ⟨W.heap.size, 1, none⟩)) (Sq2.of ((Below.refl _ V5).drew)) ?_
        refine .tl 2 (.slice ln.q ln.t.length ln.c) rfl (fun w hw => by have a1 := hw.cell l1 h3' h4'; go_simp) (Sq2.of ((Below.refl _ V5).drew)) ?_
        refine .tl 3 (.bool wf) rfl (fun w hw => by have a1 := hw.cell y9 h5' h6'; go_simp) (Sq2.of ((Below.refl _ V5).drew)) ?_
        refine .on 4 rfl rfl fun K hK => ?_
        go_simp
        first | refine tr2 ?_ | refine tr1 ?_
        refine (PE _).mono ?_
        clear PE
        rintro en V6 ⟨rfl, hB6⟩
        have B6 := ((Below.refl _ V5).drew).trans (hB6.mono (Nat.le_refl _))
        have HF := HFX.out V6 B6
        refine hK _ _ (Sq2.of B6) ?_
        clear hK K
        show Any _ _ _ _ _ _ 3 _ ⟨#[_,_,_,_,_,_,_,_,_,_,_,_,_,_,_,_,_,_,_,_,_,_,_,_,_,_,_,_,_,_,_,_,_,_,_,_,_,_,_,_,_,_,_,_,_,_,_,_,_,_,_,_,_,_,_,_,_,_,_,_,_,_,_], []⟩ V6
        refine .tl 5 (.bool true) rfl (fun w _ => by have hpe := HPE.out; have hpn := HPN.out; go_simp) (Sq2.of B6) ?_
        refine .on 6 rfl rfl fun K hK => ?_
        obtain ⟨u0, u1, u2, u3, u4, u5, u6⟩ := HF
        go_simp
        refine hK _ _ (((Sq2.of B6).set1 _).set1 _) ?_
        clear hK K
        show Any _ _ _ _ _ _ 1 _ ⟨#[_,_,_,_,_,_,_,_,_,_,_,_,_,_,_,_,_,_,_,_,_,_,_,_,_,_,_,_,_,_,_,_,_,_,_,_,_,_,_,_,_,_,_,_,_,_,_,_,_,_,_,_,_,_,_,_,_,_,_,_,_,_,_], []⟩ ((V6.setCell ⟨w.heap.size + 1 + 1, 0, none⟩ (.int .i64 (x.i : Nat))).setCell ⟨w.heap.size + 1 + 1, 1, none⟩ (.int .i64 (x.k : Nat)))
        refine .on 7 rfl rfl fun K hK => ?_
        go_simp
        refine hK _ _ ((((Sq2.of B6).set1 _).set1 _).set2 _) ?_
        clear hK K
        show Any _ _ _ _ _ _ 0 _ ⟨#[_,_,_,_,_,_,_,_,_,_,_,_,_,_,_,_,_,_,_,_,_,_,_,_,_,_,_,_,_,_,_,_,_,_,_,_,_,_,_,_,_,_,_,_,_,_,_,_,_,_,_,_,_,_,_,_,_,_,_,_,_,_,_], []⟩ (((V6.setCell ⟨w.heap.size + 1 + 1, 0, none⟩ (.int .i64 (x.i : Nat))).setCell ⟨w.heap.size + 1 + 1, 1, none⟩ (.int .i64 (x.k : Nat))).setCell ⟨w.heap.size + 1 + 1 + 1, 0, none⟩ (.bool true))
        refine Any.done (by kernel_rfl) ?_
        rename_i Kb hKb
        refine hKb _ _ ?_
        clear hKb
        clear q0 q1 l0 l1 y0 y9 p1 p4
        gi_wp2
        exact u6.out
       ·have HPE : Hid (¬ (0 : Int) < ((O.pEnd wf ln.t : Nat) : Int)) := by show ¬ _; omega
        have HPN : Hid (O.pEnd wf ln.t = 0) := by show O.pEnd wf ln.t = 0; omega
        clear hpe
        have HFX : Hid (∀ V6, Below V5.heap.size V5 V6 -> V6.frozen? ⟨w.heap.size + 1 + 1, 0, none⟩ = false /\ V6.frozen? ⟨w.heap.size + 1 + 1, 1, none⟩ = false /\ V6.cell? ⟨w.heap.size + 1 + 1, 0, none⟩ = some (.int .i64 0) /\ V6.cell? ⟨w.heap.size + 1 + 1, 1, none⟩ = some (.int .i64 0) /\ V6.cell? ⟨w.heap.size + 1 + 1 + 1, 0, none⟩ = some (.bool false) /\ V6.frozen? ⟨w.heap.size + 1 + 1 + 1, 0, none⟩ = false /\ Hid (KeepsFrom W3.heap.size W (((V6.setCell ⟨w.heap.size + 1 + 1, 0, none⟩ (.int .i64 (x.i : Nat))).setCell ⟨w.heap.size + 1 + 1, 1, none⟩ (.int .i64 (x.k : Nat))).setCell ⟨w.heap.size + 1 + 1 + 1, 0, none⟩ (.bool false)) /\ FuX w W3 (w.heap.size + 1 + 1) (w.heap.size + 1 + 1 + 1) R .ret (((V6.setCell ⟨w.heap.size + 1 + 1, 0, none⟩ (.int .i64 (x.i : Nat))).setCell ⟨w.heap.size + 1 + 1, 1, none⟩ (.int .i64 (x.k : Nat))).setCell ⟨w.heap.size + 1 + 1 + 1, 0, none⟩ (.bool false)))) := fun V6 hB6 => by
         obtain ⟨a1, a2, -⟩ := FA.out V6 (B5.trans (hB6.mono B5.size))
         have z0 := (x2.on a2).cell 0
         have z1 := (x2.on a2).cell 1
         simp at z0 z1
         exact ⟨(x2.on a2).frozen 0, (x2.on a2).frozen 1, z0, z1, (boxed_below x3 a2).cell, (boxed_below x3 a2).frozen, fu_fin k3 a2 ⟨a1.size, fun k o _ ho _ => (a1.block k (Array.getElem?_eq_some_iff.1 ho).1).trans ho⟩ (by omega) (Nat.lt_succ_self _) (by omega) x2 x3 _ _ _ (by rw [HSR.out, if_neg hz', if_neg HNO.out, if_pos (by have := HPE.out; omega)]; rfl)⟩
        clear FA
        gi_wp2
        refine region_pickN (Sq2 V5 (w.heap.size + 1 + 1) (w.heap.size + 1 + 1 + 1)) (by kernel_rfl) ?_
        show Any _ _ _ _ _ _ 8 _ ⟨#[_,_,_,_,_,_,_,_,_,_,_,_,_,_,_,_,_,_,_,_,_,_,_,_,_,_,_,_,_,_,_,_,_,_,_,_,_,_,_,_,_,_,_,_,_,_,_,_,_,_,_,_,_,_,_,_,_,_,_,_,_,_,_], []⟩ V5.drew
        refine .tl 0 (.agg #[.int .i64 (x.i : Nat), .int .i64 (x.k : Nat)]) rfl (fun w hw => by have a1 := hw.cell q0 h1 h2; have a2 := hw.cell q1 h1 h2; go_simp) (Sq2.of ((Below.refl _ V5).drew)) ?_
        refine .tp 1 (.pointer (some ⟨W.heap.size, 1, none⟩)) (Sq2.of ((Below.refl _ V5).drew)) ?_
        refine .tl 2 (.slice ln.q ln.t.length ln.c) rfl (fun w hw => by have a1 := hw.cell l1 h3' h4'; go_simp) (Sq2.of ((Below.refl _ V5).drew)) ?_
        refine .tl 3 (.bool wf) rfl (fun w hw => by have a1 := hw.cell y9 h5' h6'; go_simp) (Sq2.of ((Below.refl _ V5).drew)) ?_
        refine .on 4 rfl rfl fun K hK => ?_
        go_simp
        first | refine tr2 ?_ | refine tr1 ?_
        refine (PE _).mono ?_
        clear PE
        rintro en V6 ⟨rfl, hB6⟩
        have B6 := ((Below.refl _ V5).drew).trans (hB6.mono (Nat.le_refl _))
        have HF := HFX.out V6 B6
        refine hK _ _ (Sq2.of B6) ?_
        clear hK K
        show Any _ _ _ _ _ _ 3 _ ⟨#[_,_,_,_,_,_,_,_,_,_,_,_,_,_,_,_,_,_,_,_,_,_,_,_,_,_,_,_,_,_,_,_,_,_,_,_,_,_,_,_,_,_,_,_,_,_,_,_,_,_,_,_,_,_,_,_,_,_,_,_,_,_,_], []⟩ V6
        refine .tl 5 (.bool false) rfl (fun w _ => by have hpe := HPE.out; have hpn := HPN.out; go_simp) (Sq2.of B6) ?_
        refine .on 6 rfl rfl fun K hK => ?_
        obtain ⟨u0, u1, u2, u3, u4, u5, u6⟩ := HF
        go_simp
        refine hK _ _ (((Sq2.of B6).set1 _).set1 _) ?_
        clear hK K
        show Any _ _ _ _ _ _ 1 _ ⟨#[_,_,_,_,_,_,_,_,_,_,_,_,_,_,_,_,_,_,_,_,_,_,_,_,_,_,_,_,_,_,_,_,_,_,_,_,_,_,_,_,_,_,_,_,_,_,_,_,_,_,_,_,_,_,_,_,_,_,_,_,_,_,_], []⟩ ((V6.setCell ⟨w.heap.size + 1 + 1, 0, none⟩ (.int .i64 (x.i : Nat))).setCell ⟨w.heap.size + 1 + 1, 1, none⟩ (.int .i64 (x.k : Nat)))
        refine .on 7 rfl rfl fun K hK => ?_
        go_simp
        refine hK _ _ ((((Sq2.of B6).set1 _).set1 _).set2 _) ?_
        clear hK K
        show Any _ _ _ _ _ _ 0 _ ⟨#[_,_,_,_,_,_,_,_,_,_,_,_,_,_,_,_,_,_,_,_,_,_,_,_,_,_,_,_,_,_,_,_,_,_,_,_,_,_,_,_,_,_,_,_,_,_,_,_,_,_,_,_,_,_,_,_,_,_,_,_,_,_,_], []⟩ (((V6.setCell ⟨w.heap.size + 1 + 1, 0, none⟩ (.int .i64 (x.i : Nat))).setCell ⟨w.heap.size + 1 + 1, 1, none⟩ (.int .i64 (x.k : Nat))).setCell ⟨w.heap.size + 1 + 1 + 1, 0, none⟩ (.bool false))
        refine Any.done (by kernel_rfl) ?_
        rename_i Kb hKb
        refine hKb _ _ ?_
        clear hKb
        clear q0 q1 l0 l1 y0 y9 p1 p4
        gi_wp2
        exact u6.out
    ·have EM : Hid ((mv == 0) = false) := by show _ = _; rw [beq_eq_false_iff_ne]; exact hm0
     have EM2 : Hid ((mv != 0) = true) := by show _ = _; simp [hm0]
     have HM : Hid (O.marker ln.lp = true) := by show _ = _; rw [HMV.out]; exact decide_eq_true hm0
     clear hm0 a3 BC
     gi_wp2
     refine region_pickN (Sq V2) (by kernel_rfl) ?_
     show Any _ _ _ _ _ _ 26 _ ⟨#[_,_,_,_,_,_,_,_,_,_,_,_,_,_,_,_,_,_,_,_,_,_,_,_,_,_,_,_,_,_,_,_,_,_,_,_,_,_,_,_,_,_,_,_,_,_,_,_,_,_,_,_,_,_,_,_,_,_,_,_,_,_,_], []⟩ V2.drew
     refine .tp 0 (.pointer (some ⟨b, 0, none⟩)) (Sq.drew V2) ?_
     refine .tl 1 (.int .i64 (x.i : Nat)) rfl (fun w hw => by have a1 := hw.cell q0; go_simp) (Sq.drew V2) ?_
     refine .tl 2 (.pointer (some ⟨wb, 0, none⟩)) rfl (fun w hw => by have a1 := hw.cell y0; go_simp) (Sq.drew V2) ?_
     refine .tp 3 (.pointer (some ⟨wb, 0, none⟩)) (Sq.drew V2) ?_
     refine .tp 4 (.pointer (some ⟨wb, 4, none⟩)) (Sq.drew V2) ?_
     refine .tp 5 (.pointer (some ⟨wb, 4, none⟩)) (Sq.drew V2) ?_
     show Any _ _ _ _ _ _ 20 _ ⟨#[_,_,_,_,_,_,_,_,_,_,_,_,_,_,_,_,_,_,_,_,_,_,_,_,_,_,_,_,_,_,_,_,_,_,_,_,_,_,_,_,_,_,_,_,_,_,_,_,_,_,_,_,_,_,_,_,_,_,_,_,_,_,_], []⟩ _
     refine .tl 6 (.int .i64 (s.p.i : Nat)) rfl (fun w hw => by have a1 := hw.cell p4; go_simp) (Sq.drew V2) ?_
     refine .tl 7 (.bool false) rfl (fun w _ => by have e2 := E2.out; have e3 := E3.out; go_simp) (Sq.drew V2) ?_
     refine .tp 8 (.bool false) (Sq.drew V2) ?_
     refine .tl 9 (.agg #[.int .i64 ln.n, .slice ln.q ln.t.length ln.c]) rfl (fun w hw => by have a1 := hw.cell l0; have a2 := hw.cell l1; go_simp) (Sq.drew V2) ?_
     refine .on 10 rfl rfl fun K hK => ?_
     go_simp
     first | refine tr2 ?_ | refine tr1 ?_
     refine (MC _).mono ?_
     clear MC
     rintro en V3 ⟨rfl, hB3⟩
     have B3 := ((Below.refl _ V2).drew).trans (hB3.mono (Nat.le_refl _))
     refine hK _ _ (Sq.of B3) ?_
     clear hK K
     show Any _ _ _ _ _ _ 15 _ ⟨#[_,_,_,_,_,_,_,_,_,_,_,_,_,_,_,_,_,_,_,_,_,_,_,_,_,_,_,_,_,_,_,_,_,_,_,_,_,_,_,_,_,_,_,_,_,_,_,_,_,_,_,_,_,_,_,_,_,_,_,_,_,_,_], []⟩ V3
     refine .tl 11 (.bool true) rfl (fun w _ => by have em := EM.out; have em2 := EM2.out; go_simp) (Sq.of B3) ?_
     refine .tp 12 (.bool true) (Sq.of B3) ?_
     refine .tp 13 (.bool true) (Sq.of B3) ?_
     refine .ts 14 (Sq.of B3) ?_
     refine .ts 15 (Sq.of B3) ?_
     refine .ts 16 (Sq.of B3) ?_
     show Any _ _ _ _ _ _ 9 _ ⟨#[_,_,_,_,_,_,_,_,_,_,_,_,_,_,_,_,_,_,_,_,_,_,_,_,_,_,_,_,_,_,_,_,_,_,_,_,_,_,_,_,_,_,_,_,_,_,_,_,_,_,_,_,_,_,_,_,_,_,_,_,_,_,_], []⟩ _
     refine .ts 17 (Sq.of B3) ?_
     refine .ts 18 (Sq.of B3) ?_
     refine .ts 19 (Sq.of B3) ?_
     refine .ts 20 (Sq.of B3) ?_
     refine .tp 21 (.bool true) (Sq.of B3) ?_
     refine .tp 22 (.bool true) (Sq.of B3) ?_
     show Any _ _ _ _ _ _ 3 _ ⟨#[_,_,_,_,_,_,_,_,_,_,_,_,_,_,_,_,_,_,_,_,_,_,_,_,_,_,_,_,_,_,_,_,_,_,_,_,_,_,_,_,_,_,_,_,_,_,_,_,_,_,_,_,_,_,_,_,_,_,_,_,_,_,_], []⟩ _
     refine .ts 23 (Sq.of B3) ?_
     refine .ts 24 (Sq.of B3) ?_
     refine .tp 25 (.bool true) (Sq.of B3) ?_
     refine Any.done (by kernel_rfl) ?_
     rename_i Kb hKb
     refine hKb _ _ ?_
     clear hKb
     have HFIN : Hid (KeepsFrom W3.heap.size W V3 /\ FuX w W3 (w.heap.size + 1 + 1) (w.heap.size + 1 + 1 + 1) R (.exit 0) V3) := by
      obtain ⟨a1, a2, -⟩ := FA.out V3 (F2.out _ B3)
      exact ⟨⟨a1.size, fun k o _ ho _ => (a1.block k (Array.getElem?_eq_some_iff.1 ho).1).trans ho⟩, a2.size, k3.trans (a2.mono k3.size), .inr ⟨rfl, a2, by rw [HSR.out, if_neg hz', if_pos (.inr (.inl HM.out))]⟩⟩
     gi_wp2
     exact HFIN.out
 case done =>
  intro D W hD hI hB hK
  have hRn : R = none := by
   rw [<- hI.2, plsL_len, Nat.sub_self]
   rfl
  have FN := fu_fin (R := R) (W := W) k3 hB ⟨Nat.le_refl _, fun _ _ _ ho _ => ho⟩ (show w.heap.size <= w.heap.size + 1 + 1 by omega) (Nat.lt_succ_self _) (by omega) x2 x3 0 0 false (by rw [hRn]; rfl)
  obtain ⟨-, z1, z2, z3⟩ := FN
  obtain ⟨-, i, k, st, r2, r3, hv⟩ | ⟨hc, -⟩ := z3
  ·have HN : Hid _ := (⟨hv, r2, r3, z2⟩ : _ /\ _ /\ _ /\ _)
   have u0 := (x2.on hB).frozen 0
   have u1 := (x2.on hB).frozen 1
   have u2 := (x2.on hB).cell 0
   have u3 := (x2.on hB).cell 1
   have u4 := (boxed_below x3 hB).cell
   have u5 := (boxed_below x3 hB).frozen
   simp at u2 u3
   have hK2 : Hid ((((W.setCell ⟨w.heap.size + 1 + 1, 0, none⟩ (.int .i64 0)).setCell ⟨w.heap.size + 1 + 1, 1, none⟩ (.int .i64 0)).setCell ⟨w.heap.size + 1 + 1 + 1, 0, none⟩ (.bool false)).heap[D]? = some (.deferred (some []))) := by
    show _ = _
    rw [Below.heap_setCell _ _ _ _ (show D ≠ w.heap.size + 1 + 1 + 1 by omega), Below.heap_setCell _ _ _ _ (show D ≠ w.heap.size + 1 + 1 by omega), Below.heap_setCell _ _ _ _ (show D ≠ w.heap.size + 1 + 1 by omega)]
    exact hK
   clear hv r2 r3 z1 z2 HSQ hI hK h3
   gi_wp2
   obtain ⟨hv, r2, r3, z2⟩ := HN.out
   refine ⟨by simp, .inl ⟨_, _, rfl, run_takeDeferred hK2.out, ?_⟩⟩
   refine ⟨_, results_fu rfl rfl rfl (bx_put r2 (by show w.heap.size + 1 + 1 ≠ D; omega) _) (boxed_put' r3 (by show w.heap.size + 1 + 1 + 1 ≠ D; omega) _), ?_⟩
   exact ⟨⟨_, _, _, rfl, hv⟩, bel_put z2 (by omega) _⟩
  ·cases hc
 case stop =>
  rintro D cd W hD ⟨z1, z2, z3⟩ hK
  rcases z3 with ⟨rfl, i, k, st, r2, r3, hv⟩ | ⟨rfl, hB, hRn⟩
  ·gi_wp2
   refine ⟨by simp, .inl ⟨_, _, rfl, run_takeDeferred hK, ?_⟩⟩
   refine ⟨_, results_fu rfl rfl rfl (bx_put r2 (by omega) _) (boxed_put' r3 (by omega) _), ?_⟩
   exact ⟨⟨_, _, _, rfl, hv⟩, bel_put z2 (by omega) _⟩
  ·clear z1 z2
   have FN := fu_fin (R := R) (W := W) k3 hB ⟨Nat.le_refl _, fun _ _ _ ho _ => ho⟩ (show w.heap.size <= w.heap.size + 1 + 1 by omega) (Nat.lt_succ_self _) (by omega) x2 x3 0 0 false (by rw [hRn]; rfl)
   obtain ⟨-, z1, z2, z3⟩ := FN
   obtain ⟨-, i, k, st, r2, r3, hv⟩ | ⟨hc, -⟩ := z3
   ·have HN : Hid _ := (⟨hv, r2, r3, z2⟩ : _ /\ _ /\ _ /\ _)
    have u0 := (x2.on hB).frozen 0
    have u1 := (x2.on hB).frozen 1
    have u2 := (x2.on hB).cell 0
    have u3 := (x2.on hB).cell 1
    have u4 := (boxed_below x3 hB).cell
    have u5 := (boxed_below x3 hB).frozen
    simp at u2 u3
    have hK2 : Hid ((((W.setCell ⟨w.heap.size + 1 + 1, 0, none⟩ (.int .i64 0)).setCell ⟨w.heap.size + 1 + 1, 1, none⟩ (.int .i64 0)).setCell ⟨w.heap.size + 1 + 1 + 1, 0, none⟩ (.bool false)).heap[D]? = some (.deferred (some []))) := by
     show _ = _
     rw [Below.heap_setCell _ _ _ _ (show D ≠ w.heap.size + 1 + 1 + 1 by omega), Below.heap_setCell _ _ _ _ (show D ≠ w.heap.size + 1 + 1 by omega), Below.heap_setCell _ _ _ _ (show D ≠ w.heap.size + 1 + 1 by omega)]
     exact hK
    clear hv r2 r3 z1 z2 HSQ hK h3
    gi_wp2
    obtain ⟨hv, r2, r3, z2⟩ := HN.out
    refine ⟨by simp, .inl ⟨_, _, rfl, run_takeDeferred hK2.out, ?_⟩⟩
    refine ⟨_, results_fu rfl rfl rfl (bx_put r2 (by show w.heap.size + 1 + 1 ≠ D; omega) _) (boxed_put' r3 (by show w.heap.size + 1 + 1 + 1 ≠ D; omega) _), ?_⟩
    exact ⟨⟨_, _, _, rfl, hv⟩, bel_put z2 (by omega) _⟩
   ·cases hc
end Go.Proofs.YtipbhdhiklmieaaGreatDoor
