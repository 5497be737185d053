/- The walk: item. -/
import Derived.Test.YtipbhdhiklmieaaGreatDoorZAN
import Derived.Deep.MidRow
import Derived.Test.YtipbhdhiklmieaaGreatDoorZAL
set_option linter.all false
namespace Go.Proofs.YtipbhdhiklmieaaGreatDoor
open Go.RowKit Go.Shelf
attribute [local go_sem] Oper.semAt_some
theorem flE_set : ∀ (to : List Ev) (k : Nat) (x : Ev), k < to.length -> ((((((flE to).set (k * 6) (.int .i64 x.k)).set (k * 6 + 1) (.string x.tx)).set (k * 6 + 2) (.string x.tg)).set (k * 6 + 3) (.string x.an)).set (k * 6 + 4) (.int .i64 x.st)).set (k * 6 + 5) (.bool x.fl) = flE (to.set k x)
 | [], k, x, h => by simp at h
 | e :: to, 0, x, h => by simp [flE, Ev.c]
 | e :: to, k + 1, x, h => by
  have ih := flE_set to k x (by simpa using h)
  rw [List.set_cons_succ, flE, flE, <- ih]
  have hl : e.c.length = 6 := rfl
  have hs : ∀ (L : List Value) (j : Nat) (v : Value), (e.c ++ L).set (6 + j) v = e.c ++ L.set j v := fun L j v => by
   rw [List.set_append_right _ _ (by rw [hl]; omega), hl, show 6 + j - 6 = j by omega]
  rw [show (k + 1) * 6 = 6 + k * 6 by omega]
  simp only [Nat.add_assoc, hs]
theorem wrapS {x : Int} (h1 : -2000000 <= x) (h2 : x <= 2000000) : IntKind.i64.wrap x = x := by
 by_cases h0 : 0 <= x
 ·simp [IntKind.wrap, IntKind.bits]
  rw [if_neg (by rintro ⟨-, e⟩; omega)]
  omega
 ·simp [IntKind.wrap, IntKind.bits]
  rw [if_pos ⟨rfl, by omega⟩]
  omega
theorem opIn_store_mid {F : Fence} {n : Nat} {P : Program} {w : World} {o : Oper} {a : Act} {Q : Exit -> Act -> World -> Prop} {K : Act -> World -> Prop} (ty : TypeId) (x y : Operand) (ho : o.op = .store ty x y)
  (b off : Nat) (cells : Array Value) (hx : a.eval x = .pointer (some ⟨b, off, none⟩)) (hy : a.eval y = .agg cells) (ht : w.there b off cells.size) (hi : (P.info? ty).map (·.size) = some cells.size) (h1 : cells.all (·.oneCell') = true)
  (h : K (a.put o.dst undef) (w.setCells b off cells.toList)) : Oper.wpIn F n P o a w K Q := by
 have hr := run_storeAt_mid (P := P) w b off ty cells ht hi h1
 unfold Oper.wpIn
 refine ⟨?_, ?_⟩
 ·simp [Oper.about, ho]
 ·rw [Oper.semAt_plain F _ _ (by rw [ho]; intro c hc'; cases hc')]
  simp [execOp, ho, hx, hy, hr, Oper.uponIn]
  exact h
section
variable {w : World} {wb : Nat} {E : Env} {s : St} {ov tv : Value} {O : Orc} {Tb : World -> Prop} {l : Lv} {r : List Lv}
structure Wr (w : World) (wb : Nat) (E : Env) (s : St) (ov tv : Value) (xs : List Value) : Prop where
 blk : w.heap[wb]? = some (.cells #[.slice E.q E.M.length E.c, .int .i64 E.n, .int .i64 E.d, .bool E.b, .int .i64 (s.p.i : Nat), .int .i64 (s.p.k : Nat), ov, tv, .int .i64 (s.ta : Nat)] 67)
 lin : LsB wb w E.q E.M
 op : w.ownsRow (wb + 1) 97 7 ov s.op.length (flL s.op.reverse)
 to : w.ownsRow (wb + 1) 50 6 tv s.to.length xs
theorem Wr.set {tg tc j : Nat} {xs : List Value} (h : Wr w wb E s ov (.slice (some ⟨tg, 0, none⟩) s.to.length tc) xs) (hj : j < s.to.length * 6) (x : Value) :
  Wr (w.setCell ⟨tg, j, none⟩ x) wb E s ov (.slice (some ⟨tg, 0, none⟩) s.to.length tc) (xs.set j x) /\ Kee wb w (w.setCell ⟨tg, j, none⟩ x) := by
 obtain ⟨h1, cur, h2⟩ := row_type h.to (g := tg) rfl
 have hne : wb ≠ tg := by omega
 refine ⟨⟨(Below.heap_setCell _ _ _ _ hne).trans h.blk, h.lin.on ((Below.refl wb w).setCell (p := ⟨tg, j, none⟩) (show wb <= tg by omega) _), row_same h.op fun g2 hg2 => ?_, row_set h.to j x hj⟩, Kee.set h2 (.inr (.inr rfl)) (by omega) _ _⟩
 obtain ⟨-, cur2, h3⟩ := row_type h.op hg2
 refine Below.heap_setCell _ _ _ _ (fun e => ?_)
 dsimp only at e
 rw [e, h2] at h3
 cases h3
theorem Wk.setE {tg tc k : Nat} (h : Wk w wb E s ov (.slice (some ⟨tg, 0, none⟩) s.to.length tc)) (hk : k < s.to.length) (x : Ev) :
  Wk ((((((w.setCell ⟨tg, k * 6, none⟩ (.int .i64 x.k)).setCell ⟨tg, k * 6 + 1, none⟩ (.string x.tx)).setCell ⟨tg, k * 6 + 2, none⟩ (.string x.tg)).setCell ⟨tg, k * 6 + 3, none⟩ (.string x.an)).setCell ⟨tg, k * 6 + 4, none⟩ (.int .i64 x.st)).setCell ⟨tg, k * 6 + 5, none⟩ (.bool x.fl)) wb E { s with to := s.to.set k x } ov (.slice (some ⟨tg, 0, none⟩) s.to.length tc) /\
  Kee wb w ((((((w.setCell ⟨tg, k * 6, none⟩ (.int .i64 x.k)).setCell ⟨tg, k * 6 + 1, none⟩ (.string x.tx)).setCell ⟨tg, k * 6 + 2, none⟩ (.string x.tg)).setCell ⟨tg, k * 6 + 3, none⟩ (.string x.an)).setCell ⟨tg, k * 6 + 4, none⟩ (.int .i64 x.st)).setCell ⟨tg, k * 6 + 5, none⟩ (.bool x.fl)) := by
 have h0 : Wr w wb E s ov (.slice (some ⟨tg, 0, none⟩) s.to.length tc) (flE s.to) := ⟨h.blk, h.lin, h.op, h.to⟩
 obtain ⟨r1, k1⟩ := h0.set (j := k * 6) (by omega) (.int .i64 x.k)
 obtain ⟨r2, k2⟩ := r1.set (j := k * 6 + 1) (by omega) (.string x.tx)
 obtain ⟨r3, k3⟩ := r2.set (j := k * 6 + 2) (by omega) (.string x.tg)
 obtain ⟨r4, k4⟩ := r3.set (j := k * 6 + 3) (by omega) (.string x.an)
 obtain ⟨r5, k5⟩ := r4.set (j := k * 6 + 4) (by omega) (.int .i64 x.st)
 obtain ⟨r6, k6⟩ := r5.set (j := k * 6 + 5) (by omega) (.bool x.fl)
 have hto := r6.to
 rw [flE_set s.to k x hk] at hto
 have hl : s.to.length = (s.to.set k x).length := (List.length_set ..).symm
 refine ⟨⟨r6.blk, r6.lin, r6.op, ?_⟩, ((((k1.trans k2).trans k3).trans k4).trans k5).trans k6⟩
 show World.ownsRow _ (wb + 1) 50 6 _ (s.to.set k x).length _
 rw [<- hl]
 exact hto
end
end Go.Proofs.YtipbhdhiklmieaaGreatDoor
namespace Go.Proofs.YtipbhdhiklmieaaGreatDoor
open Go.RowKit Go.Shelf
open P8 (Row Mt wpListIn_append_run)
attribute [local go_sem] Oper.semAt_some
section
variable {w W3 : World} {wb : Nat} {E : Env} {s : St} {ov tv : Value} {O : Orc}
def UpPost (w : World) (wb : Nat) (E : Env) (s : St) (ov tv : Value) (R : Except Int (List (List Int) × Pl)) (e : Ending) (w' : World) : Prop := Kee wb w w' /\ match R with
 | .error c => e = .returned (.tuple #[.slice none 0 0, .int .i64 c])
 | .ok (l, r) => ∃ a Rw k, e = .returned (.tuple #[.slice a (Rw : List Row).length k, .int .i64 0]) /\ Mt w' a Rw /\ Rw.length <= k /\ k <= maxLen /\ Rw.map (·.t) = l /\ Wk w' wb E { s with p := r } ov tv
def UpV (w : World) (wb : Nat) (E : Env) (s : St) (ov tv : Value) (R : Except Int (List (List Int) × Pl)) (W : World) (v : Value) (c : Int) : Prop := match R with
 | .error d => v = .slice none 0 0 /\ c = d
 | .ok (l, r) => c = 0 /\ ∃ Rw, OwnR W w.heap.size v Rw /\ RwOk wb w Rw /\ Rw.map (·.t) = l /\ Wk W wb E { s with p := r } ov tv
def UpX (w W3 : World) (wb : Nat) (E : Env) (s : St) (ov tv : Value) (b2 b3 : Nat) (R : Except Int (List (List Int) × Pl)) (c : Code) (W : World) : Prop :=
 W3.heap.size <= W.heap.size /\ Kee wb w W /\ ((c = .ret /\ ∃ v e, Boxed W b2 73 v /\ Boxed W b3 28 (.int .i64 e) /\ UpV w wb E s ov tv R W v e) \/ (c = .exit 0 /\ Boxed W b2 73 (.slice none 0 0) /\ Boxed W b3 28 (.int .i64 0) /\ R = .error 2))
theorem Wk.same {W W' : World} {s' : St} (h0 : Wk w wb E s ov tv) (h : Wk W wb E s' ov tv) (hb : Below w.heap.size W W') : Wk W' wb E s' ov tv := by
 have hwl := h0.lt
 have hrow : ∀ {e k n : Nat} {v : Value} {xs : List Value} {n' : Nat} {xs' : List Value}, w.ownsRow (wb + 1) e k v n' xs' -> W.ownsRow (wb + 1) e k v n xs -> W'.ownsRow (wb + 1) e k v n xs := fun a b => row_same b fun g hg => by
  obtain ⟨-, cur, h2⟩ := row_type a hg
  exact hb.block g (Array.getElem?_eq_some_iff.1 h2).1
 exact ⟨(hb.block wb hwl).trans h.blk, h.lin.on (hb.mono (Nat.le_of_lt hwl)), hrow h0.op h.op, hrow h0.to h.to⟩
theorem Kee.low {V V' : World} (h : Kee wb w V) (hb : Below w.heap.size V V') : Kee wb w V' :=
 ⟨hb.os.trans h.os, hb.tape.trans h.tape, hb.output.trans h.output, Nat.le_trans h.size hb.size, fun b o hbo hm => (hb.block b (Array.getElem?_eq_some_iff.1 hbo).1).trans (h.keep b o hbo hm)⟩
theorem UpV.same {R : Except Int (List (List Int) × Pl)} {W W' : World} {v : Value} {c : Int} (h0 : Wk w wb E s ov tv) (h : UpV w wb E s ov tv R W v c) (hb : Below w.heap.size W W') (hk : ∀ g, v.ownBlock = some g -> (∃ cur, W.heap[g]? = some (.cells cur 41 (0, 0))) -> W'.heap[g]? = W.heap[g]?) : UpV w wb E s ov tv R W' v c := by
 cases R with
 | error d => exact h
 | ok lr =>
  obtain ⟨h1, Rw, h2, h3, h4, h5⟩ := h
  exact ⟨h1, Rw, row_same h2 fun g hg => hk g hg (ownR_cells h2 hg).2, h3, h4, h0.same h5 hb⟩
theorem UpX.own {b2 b3 : Nat} {R : Except Int (List (List Int) × Pl)} (c : Code) (h0 : Wk w wb E s ov tv) (hw : w.heap.size <= W3.heap.size) (h2 : b2 < W3.heap.size) (h3 : b3 < W3.heap.size) : OwnFrom W3.heap.size (fun (_ : Nat) W => UpX w W3 wb E s ov tv b2 b3 R c W) := by
 rintro _ W W' row ⟨s0, s1, s2⟩ hg hr
 have hlow : ∀ k, k < W3.heap.size -> W'.heap[k]? = W.heap[k]? := fun k hk => hg.block k (by omega) (fun e => by have := (hr k e.symm).1; omega)
 have hb : Below w.heap.size W W' := ⟨hg.os, hg.tape, hg.output, hg.size, fun k hk => hlow k (by omega)⟩
 refine ⟨Nat.le_trans s0 hg.size, s1.low hb, ?_⟩
 rcases s2 with ⟨hc, v, e, x1, x2, x3⟩ | ⟨hc, x1, x2, x3⟩
 ·refine .inl ⟨hc, v, e, (hlow b2 h2).trans x1, (hlow b3 h3).trans x2, x3.same h0 hb fun g hgv hcur => ?_⟩
  obtain ⟨cur, hcur⟩ := hcur
  refine hg.block g (Array.getElem?_eq_some_iff.1 hcur).1 (fun e2 => ?_)
  obtain ⟨-, o, ho, hcl⟩ := hr g e2.symm
  rw [hcur] at ho; cases ho; cases hcl
 ·exact .inr ⟨hc, (hlow b2 h2).trans x1, (hlow b3 h3).trans x2, x3⟩
theorem Iu.aboR {BL : Nat} {J : Nat -> List (List Int) -> Prop} (hw : w.heap.size <= W3.heap.size) (hBL : BL < W3.heap.size) : Abo W3.heap.size (fun X i W => ∃ T, Iu w W3 wb BL T X W /\ J i T) := by
 refine ⟨fun X i W W' row h hg hr => ?_, fun X i W W' row h hg hr => ?_, fun X Y i W h hY => ?_, fun X i W b h hb => ?_⟩
 ·obtain ⟨T, h1, h2⟩ := h
  exact ⟨T, h1.grown hw hBL hg hr, h2⟩
 ·obtain ⟨T, h1, h2⟩ := h
  exact ⟨T, h1.new hw hBL hg hr, h2⟩
 ·obtain ⟨T, h1, h2⟩ := h
  exact ⟨T, h1.less hY, h2⟩
 ·obtain ⟨T, h1, -⟩ := h
  exact (h1.own b hb).2
theorem uptF_step {E : Env} {p : Pl} {O : Orc} {n : Int} {en : List Int -> Option Nat} {i : Nat} {fb : Bool} {T : List (List Int)} {ln : Ln} (hi : p.i + i < E.M.length) (hl : E.M[p.i + i]? = some ln) :
  uptF O E.L n en (E.M.length - p.i - i) (pAt p i) fb T = if fb = false /\ O.marker ln.lp = true then .error 2 else if fb = false /\ O.empty ln.lp = false /\ ln.n <= n then .error 7 else match en (rst E.L (pAt p i)) with | some m => .ok (T ++ [(rst E.L (pAt p i)).take m], (pAt p i).plus (m + 1)) | none => uptF O E.L n en (E.M.length - p.i - (i + 1)) (pAt p (i + 1)) false (T ++ [rst E.L (pAt p i)]) := by
 obtain ⟨f, hf⟩ : ∃ f, E.M.length - p.i - i = f + 1 := ⟨E.M.length - p.i - i - 1, by omega⟩
 have hl2 : E.L[(pAt p i).i]? = some ln.lp := by rw [pAt_i, Env.L, List.getElem?_map, hl]; rfl
 have hf2 : E.M.length - p.i - (i + 1) = f := by omega
 have hp2 : pAt p (i + 1) = ⟨(pAt p i).i + 1, 0⟩ := by rw [pAt_i]; unfold pAt; rw [if_neg (by omega)]; rfl
 rw [hf, uptF, hl2, hf2, hp2]
 rfl
theorem up_err {W V : World} {b2 b3 : Nat} {c : Int} (l2 : w.heap.size <= b2) (l3 : b2 < b3) (l5 : b3 < W3.heap.size) (hs : W3.heap.size <= V.heap.size) (hk : Kee wb w V) (hK : KeepsFrom W3.heap.size W V) (a8 : Boxed V b2 73 (.slice none 0 0)) (a9 : Boxed V b3 28 (.int .i64 0)) :
  KeepsFrom W3.heap.size W ((V.setCell ⟨b2, 0, none⟩ (.slice none 0 0)).setCell ⟨b3, 0, none⟩ (.int .i64 c)) /\ UpX w W3 wb E s ov tv b2 b3 (.error c) .ret ((V.setCell ⟨b2, 0, none⟩ (.slice none 0 0)).setCell ⟨b3, 0, none⟩ (.int .i64 c)) := by
 have s2 := hK.size
 refine ⟨⟨by simp [World.setCell]; exact s2, fun j o hj ho hc => ?_⟩, by simp [World.setCell]; exact hs, ?_, .inl ⟨rfl, .slice none 0 0, c, ?_, ?_, rfl, rfl⟩⟩
 ·rw [Below.heap_setCell _ _ _ _ (show j ≠ b3 by omega), Below.heap_setCell _ _ _ _ (show j ≠ b2 by omega)]
  exact hK.same j o hj ho hc
 ·exact (hk.new l2 _).new (by omega) _
 ·exact (Below.heap_setCell _ _ _ _ (show b2 ≠ b3 by omega)).trans (a8.set _)
 ·exact (show Boxed (V.setCell ⟨b2, 0, none⟩ (.slice none 0 0)) b3 28 (.int .i64 0) from (Below.heap_setCell _ _ _ _ (show b3 ≠ b2 by omega)).trans a9).set _
theorem results_up {fn : Func} {r s : Tmp} (h : fn.results = #[.cell r 73, .cell s 28]) {tmps : Array Value} {W : World} {b2 b3 : Nat} {v : Value} {e : Int} (h1 : tmps.getD r undef = .pointer (some ⟨b2, 0, none⟩)) (h2 : tmps.getD s undef = .pointer (some ⟨b3, 0, none⟩))
  (x1 : Boxed W b2 73 v) (x2 : Boxed W b3 28 (.int .i64 e)) : (results fn tmps).run Tryz.prog W = .ok (.tuple #[v, .int .i64 e]) W := by
 have h1' : tmps[r]?.getD undef = .pointer (some ⟨b2, 0, none⟩) := by simpa using h1
 have h2' : tmps[s]?.getD undef = .pointer (some ⟨b3, 0, none⟩) := by simpa using h2
 have c0 := x1.cell
 have c2 := x2.cell
 simp [results, h, h1', h2', asAddr, go_sem, c0, c2]
theorem up_post {R : Except Int (List (List Int) × Pl)} {W : World} {v : Value} {e : Int} {D : Nat} (hD : w.heap.size <= D) (hDo : ∀ cur t r, W.heap[D]? ≠ some (.cells cur t r)) (o : Obj) (h0 : Wk w wb E s ov tv) (hk : Kee wb w W) (hv : UpV w wb E s ov tv R W v e) : UpPost w wb E s ov tv R (.returned (.tuple #[v, .int .i64 e])) (W.putObj D o) := by
 have hb : Below w.heap.size W (W.putObj D o) := ⟨rfl, rfl, rfl, by simp [World.putObj], fun k hk2 => World.putObj_heap_other (by omega)⟩
 have hv2 := hv.same (W' := W.putObj D o) h0 hb (fun g hg hc => by
  obtain ⟨cur, hc⟩ := hc
  exact World.putObj_heap_other (fun e => hDo cur 41 (0, 0) (by rw [<- e]; exact hc)))
 refine ⟨hk.low hb, ?_⟩
 cases R with
 | error d =>
  obtain ⟨rfl, rfl⟩ := hv2
  rfl
 | ok lr =>
  obtain ⟨l, r⟩ := lr
  obtain ⟨rfl, Rw, h2, h3, h4, h5⟩ := hv2
  obtain ⟨a, c, rfl, h6, h7⟩ := own_len h2
  have hbw : Below wb w (W.putObj D o) := (hk.low hb).below (Nat.le_of_lt h0.lt)
  obtain ⟨m1, -, -, -⟩ := (h3.on hbw).mt h2
  exact ⟨a, Rw, c, rfl, m1, h6, h7, h4, h5⟩
theorem up_fin {W V : World} {X : Nat -> Prop} {b2 b3 BL : Nat} {TT : List (List Int)} {v : Value} {Rw : List Row} {R : Except Int (List (List Int) × Pl)} (hwl : wb < w.heap.size) (l2 : w.heap.size <= b2) (l3 : b2 < b3) (l4 : b3 < BL) (l5 : BL < W3.heap.size) (h0 : Wk w wb E s ov tv) (a1 : Below W.heap.size W V) (a2 : Iu w W3 wb BL TT X V) (a3 : Wk V wb E s ov tv)
  (a8 : Boxed V b2 73 (.slice none 0 0)) (a9 : Boxed V b3 28 (.int .i64 0)) (g1 : Boxed V BL 73 v) (g2 : OwnR V w.heap.size v Rw) (g3 : ∀ g, v.ownBlock = some g -> W3.heap.size <= g /\ ¬ X g) (g5 : RwOk wb w Rw) (hn : Rw.length + 1 <= 1073741824) (q : Pl) (r : Row)
  (hr : r.t.length <= r.c /\ r.c <= maxLen /\ Is w r.q r.t /\ ∀ a, r.q = some a -> 0 < r.t.length -> a.block < wb) (hR : R = .ok ((Rw ++ [r]).map (·.t), q)) :
  ((V.setCell ⟨wb, 4, none⟩ (.int .i64 (q.i : Nat))).setCell ⟨wb, 5, none⟩ (.int .i64 (q.k : Nat))).cell? ⟨BL, 0, none⟩ = some v /\
  ∃ g cap w1, (Builtin.append_ #[73, 73] 73 #[v, .slice (some ⟨((V.setCell ⟨wb, 4, none⟩ (.int .i64 (q.i : Nat))).setCell ⟨wb, 5, none⟩ (.int .i64 (q.k : Nat))).heap.size, 0, none⟩) 1 1]).run Tryz.prog (((V.setCell ⟨wb, 4, none⟩ (.int .i64 (q.i : Nat))).setCell ⟨wb, 5, none⟩ (.int .i64 (q.k : Nat))).drew.alloc (.cells #[rwV r] 41)) = .ok (.slice (some ⟨g, 0, none⟩) (Rw.length + 1) cap) w1 /\
   Sw ((V.setCell ⟨wb, 4, none⟩ (.int .i64 (q.i : Nat))).setCell ⟨wb, 5, none⟩ (.int .i64 (q.k : Nat))) BL (((V.setCell ⟨wb, 4, none⟩ (.int .i64 (q.i : Nat))).setCell ⟨wb, 5, none⟩ (.int .i64 (q.k : Nat))).drew.alloc (.cells #[rwV r] 41)) /\
   Sw ((V.setCell ⟨wb, 4, none⟩ (.int .i64 (q.i : Nat))).setCell ⟨wb, 5, none⟩ (.int .i64 (q.k : Nat))) BL w1 /\ BL ≠ b2 /\ BL ≠ b3 /\
   w1.cell? ⟨b2, 0, none⟩ = some (.slice none 0 0) /\ w1.frozen? ⟨b2, 0, none⟩ = false /\ w1.cell? ⟨b3, 0, none⟩ = some (.int .i64 0) /\ w1.frozen? ⟨b3, 0, none⟩ = false /\
   (KeepsFrom W3.heap.size W ((w1.setCell ⟨b2, 0, none⟩ (.slice (some ⟨g, 0, none⟩) (Rw.length + 1) cap)).setCell ⟨b3, 0, none⟩ (.int .i64 0)) /\ UpX w W3 wb E s ov tv b2 b3 R .ret ((w1.setCell ⟨b2, 0, none⟩ (.slice (some ⟨g, 0, none⟩) (Rw.length + 1) cap)).setCell ⟨b3, 0, none⟩ (.int .i64 0))) := by
 have hsz := a2.sz
 have wk9 := a3.setP q
 have ke9 := a3.keeP q
 obtain ⟨V9, hV9⟩ : ∃ V9, (V.setCell ⟨wb, 4, none⟩ (.int .i64 (q.i : Nat))).setCell ⟨wb, 5, none⟩ (.int .i64 (q.k : Nat)) = V9 := ⟨_, rfl⟩
 have hoth : ∀ k, k ≠ wb -> V9.heap[k]? = V.heap[k]? := fun k hk => by rw [<- hV9, Below.heap_setCell _ _ _ _ hk, Below.heap_setCell _ _ _ _ hk]
 have hs9 : V9.heap.size = V.heap.size := by rw [<- hV9]; simp [World.setCell]
 rw [hV9] at wk9 ke9 |-
 have g1' : Boxed V9 BL 73 v := (hoth BL (by omega)).trans g1
 have g2' : OwnR V9.drew w.heap.size v Rw := row_same g2 fun g hg => hoth g (by have := (g3 g hg).1; omega)
 obtain ⟨g, cap, w1, hrun, ho1, hg1, hlie⟩ := pushR g2' (by show w.heap.size <= V9.heap.size; omega) hn r
 have hk1 : ∀ k, k < V9.heap.size -> v.ownBlock ≠ some k -> w1.heap[k]? = V9.heap[k]? := fun k hk hne => (hg1.block k (by simp; show k < V9.heap.size + 1; omega) (fun e => hne e.symm)).trans (Below.heap_alloc V9.drew _ k hk)
 have hnb : ∀ k, k < W3.heap.size -> v.ownBlock ≠ some k := fun k hk e => by have := (g3 k e).1; omega
 have hgs : V9.heap.size <= w1.heap.size := by have := hg1.size; simp at this; have h2 : V9.drew.heap.size = V9.heap.size := rfl; omega
 have x2 : Boxed w1 b2 73 (.slice none 0 0) := (hk1 b2 (by omega) (hnb b2 (by omega))).trans ((hoth b2 (by omega)).trans a8)
 have x3 : Boxed w1 b3 28 (.int .i64 0) := (hk1 b3 (by omega) (hnb b3 (by omega))).trans ((hoth b3 (by omega)).trans a9)
 have hg' : W3.heap.size <= g := by
  rcases hlie with hl | hl
  ·exact (g3 g hl).1
  ·have h2 : V9.drew.heap.size = V9.heap.size := rfl; omega
 have hbl : Below w.heap.size V9 ((w1.setCell ⟨b2, 0, none⟩ (.slice (some ⟨g, 0, none⟩) (Rw.length + 1) cap)).setCell ⟨b3, 0, none⟩ (.int .i64 0)) := by
  have b1 : Below w.heap.size V9 w1 := by
   refine (((Below.refl w.heap.size V9).drew).alloc (by show w.heap.size <= V9.heap.size; omega) (.cells #[rwV r] 41)).grown hg1 (by simp; show w.heap.size <= V9.heap.size + 1; omega) (fun k e => ?_)
   have := (g3 k e).1
   omega
  exact (b1.setCell (p := ⟨b2, 0, none⟩) l2 _).setCell (p := ⟨b3, 0, none⟩) (show w.heap.size <= b3 by omega) _
 refine ⟨g1'.cell, g, cap, w1, hrun, Below.heap_alloc V9.drew _ BL (by show BL < V9.heap.size; omega), hk1 BL (by omega) (hnb BL l5), by omega, by omega, x2.cell, x2.frozen, x3.cell, x3.frozen, ⟨by have := a1.size; simp [World.setCell]; omega, fun k o hk ho hc => ?_⟩, by simp [World.setCell]; omega, ?_, .inl ⟨rfl, .slice (some ⟨g, 0, none⟩) (Rw.length + 1) cap, 0, ?_, ?_, ?_⟩⟩
 ·have hkl := (Array.getElem?_eq_some_iff.1 ho).1
  have hkl2 := a1.size
  rw [Below.heap_setCell _ _ _ _ (show k ≠ b3 by omega), Below.heap_setCell _ _ _ _ (show k ≠ b2 by omega), hk1 k (by omega) (fun e => ?_), hoth k (by omega), a1.block k hkl]
  ·exact ho
  ·obtain ⟨-, cur, hc2⟩ := ownR_cells g2 e
   rw [a1.block k hkl, ho] at hc2
   cases hc2
   cases hc
 ·exact ((Kee.of a2.bel).trans ke9).low hbl
 ·exact (Below.heap_setCell _ _ _ _ (show b2 ≠ b3 by omega)).trans (x2.set _)
 ·exact (show Boxed (w1.setCell ⟨b2, 0, none⟩ _) b3 28 (.int .i64 0) from (Below.heap_setCell _ _ _ _ (show b3 ≠ b2 by omega)).trans x3).set _
 ·rw [hR]
  refine ⟨rfl, Rw ++ [r], ?_, g5.push hr, rfl, h0.same wk9 hbl⟩
  have hrw : OwnR w1 w.heap.size (.slice (some ⟨g, 0, none⟩) (Rw.length + 1) cap) (Rw ++ [r]) := ho1
  exact row_same hrw fun g' e => by
   cases e
   rw [Below.heap_setCell _ _ _ _ (show g ≠ b3 by omega), Below.heap_setCell _ _ _ _ (show g ≠ b2 by omega)]
end
end Go.Proofs.YtipbhdhiklmieaaGreatDoor
