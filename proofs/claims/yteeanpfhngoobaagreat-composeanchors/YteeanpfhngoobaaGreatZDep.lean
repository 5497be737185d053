/- The iterator over events with their depths, as it runs. -/
import Derived.Test.YteeanpfhngoobaaGreatZStk
import Derived.Test.YteeanpfhngoobaaGreatZEvs
import Derived.Sort.QuietIn
set_option linter.unusedVariables false
set_option linter.unusedSimpArgs false
namespace Go.Proofs.YteeanpfhngoobaaGreat
open Go.RowKit Go.Shelf
attribute [local go_sem] Oper.semAt_some

theorem wpListIn_append_run {F : Fence} {n : Nat} {P : Program} {w w' : World} {ops : Array Oper} {rest : List Oper} {o : Oper} {a : Act} {Q : Exit → Act → World → Prop} (hgd : o.guard = none) (s x : Operand) (t : TypeId)
    (ho : o.op = .call { callee := .builtin .append, args := #[s, x], argTypes := #[t, t] }) {u y v : Value} (hs : a.eval s = u) (hx : a.eval x = y)
    (hrun : (Builtin.append_ #[t, t] o.type #[u, y]).run P w = .ok v w') (h : wpListIn F n P ops Q rest (a.put o.dst v) w') : wpListIn F n P ops Q (o :: rest) a w := by
  refine wpListIn_plain hgd fun K hK' => ?_
  unfold Oper.wpIn
  refine ⟨?_, ?_⟩
  · simp [Oper.about, ho, resolve, Target.leads, Sem.run_pure]
  · rw [Oper.semAt_plain F _ _ (by rw [ho]; intro c hc'; cases hc')]
    simp [execOp, ho, resolve, invoke, builtin, hs, hx, hrun, Result.andThen]
    exact hK' _ _ h

/-- A place as a value; an event and its depth, as they are told. -/
abbrev pl (h : Nat) : Value := .int .u8 (h : Nat)
def encE (x : Ev × Nat) : Array Value := #[x.1.v, .int .i64 (x.2 : Nat)]
/-- What the iterator looks at. -/
def RX (q : Option Addr) (L : List Ev) (Bl : Nat) (b : Nat) : Prop := b = Bl ∨ (0 < L.length ∧ ∃ a, q = some a ∧ b = a.block)
theorem RX.es {q : Option Addr} {L : List Ev} {Bl : Nat} {A C : World} (h : Kq (RX q L Bl) A C) (hE : Es A q L) : Es C q L := hE.kept fun a e hl => h.same _ (.inr ⟨hl, a, e, rfl⟩)
theorem drop_cons {α : Type} {T : List α} {i : Nat} {x : α} {r : List α} (h : T.drop i = x :: r) : T[i]? = some x ∧ T.drop (i + 1) = r ∧ i < T.length := by
  have hl : i < T.length := by
    by_cases hl : i < T.length
    · exact hl
    · rw [List.drop_eq_nil_of_le (by omega)] at h; cases h
  rw [List.drop_eq_getElem_cons hl] at h
  injection h with h1 h2
  exact ⟨by rw [List.getElem?_eq_getElem hl, h1], h2, hl⟩
theorem drop_at {α : Type} {T : List α} {i : Nat} {x : α} (h : T[i]? = some x) : T.drop i = x :: T.drop (i + 1) := by
  obtain ⟨h1, h2⟩ := List.getElem?_eq_some_iff.1 h
  rw [List.drop_eq_getElem_cons h1, h2]
theorem At6.new (w : World) (x : Ev) : At6 (w.alloc (.cells #[.int .i64 x.k, .string x.tx, .string x.tg, .string x.an, .int .i64 x.st, .bool x.fl] 46)) w.heap.size 0 x := by
  have h := World.alloc_heap_new w (.cells #[.int .i64 x.k, .string x.tx, .string x.tg, .string x.an, .int .i64 x.st, .bool x.fl] 46)
  constructor <;> (show (match (w.alloc (.cells #[.int .i64 x.k, .string x.tx, .string x.tg, .string x.an, .int .i64 x.st, .bool x.fl] 46)).heap[w.heap.size]? with | some (.cells c _ _) => _ | _ => none) = _; rw [h]; rfl)
theorem At6.drewN {w : World} {b o : Nat} {x : Ev} (h : At6 w b o x) (n : Nat) : At6 (w.drewN n) b o x := h.kept rfl
theorem Stk.drewN {α : Type} {e : TypeId} {f : α → Value} {w : World} {base : Nat} {v : Value} {s : List α} (h : Stk e f w base v s) (n : Nat) : Stk e f (w.drewN n) base v s := h.same fun _ _ => rfl
theorem Stk.alloc {α : Type} {e : TypeId} {f : α → Value} {w : World} {base : Nat} {v : Value} {s : List α} (h : Stk e f w base v s) (o : Obj) : Stk e f (w.alloc o) base v s := World.ownsRow.alloc h o

set_option maxRecDepth 100000 in
set_option maxHeartbeats 4000000 in
theorem deep1_in (n l Bf Bl cap fr : Nat) (q : Option Addr) (L : List Ev) (hl : L.length ≤ 1048576) (hfr : fr ≤ 2) (J : (Nat → Prop) → Nat → World → Prop) (Jx : Nat → World → Prop) (W : World)
    (c1 : W.cell? ⟨Bf, 0, none⟩ = some (.int .u8 (fr : Nat))) (c2 : W.cell? ⟨Bl, 0, none⟩ = some (.slice q L.length cap)) (hE : Es W q L) (hR : ∀ b, RX q L Bl b → b < W.heap.size) (hJ : Abo W.heap.size J)
    (hY : ∀ (m : Nat) (X : Nat → Prop) (i : Nat) (x : Ev × Nat) (W1 : World), (told [fr] L)[i]? = some x → J X i W1 → YieldAt Fence.wide m Tryz.prog l (encE x) W1 fun e W' =>
      (e = .returned (.bool true) ∧ J X (i + 1) W' ∧ Kq (orX (RX q L Bl) X) W1 W') ∨ (e = .returned (.bool false) ∧ Jx (i + 1) W')) (h0 : J (fun _ => False) 0 W) :
    CallsIn Fence.wide n Tryz.prog 61 #[.func (.yield l) #[] #[], .pointer (some ⟨Bf, 0, none⟩), .pointer (some ⟨Bl, 0, none⟩)] W fun e W' => (∃ v, e = .returned v) ∧ ((∃ X, J X (told [fr] L).length W') ∨ ∃ i, Jx i W') := by
  obtain ⟨T, hT⟩ : ∃ T, told [fr] L = T := ⟨_, rfl⟩
  rw [hT] at hY ⊢
  have HT : Hid (told [fr] L = T) := hT
  clear hT
  have HY : Hid (∀ (m : Nat) (X : Nat → Prop) (i : Nat) (x : Ev × Nat) (W1 : World), T[i]? = some x → J X i W1 → YieldAt Fence.wide m Tryz.prog l (encE x) W1 fun e W' =>
      (e = .returned (.bool true) ∧ J X (i + 1) W' ∧ Kq (orX (RX q L Bl) X) W1 W') ∨ (e = .returned (.bool false) ∧ Jx (i + 1) W')) := hY
  clear hY
  have HR : Hid (∀ b, RX q L Bl b → b < W.heap.size) := hR
  clear hR
  have HA : Hid (Abo W.heap.size J) := hJ
  clear hJ
  have HE : Hid (Es W q L) := hE
  clear hE
  have hl2 : (L.length : Int) ≤ 1048576 := by omega
  have HS0 : Hid (Stk 90 pl (W.alloc (.cells #[.int .u8 (fr : Nat)] 90)) W.heap.size (.slice (some ⟨W.heap.size, 0, none⟩) 1 1) [fr]) := Stk.one 90 pl W fr
  have HJ0 : Hid (J (fun b => b = W.heap.size) 0 (W.alloc (.cells #[.int .u8 (fr : Nat)] 90))) :=
    HA.out.less _ _ _ _ (HA.out.new _ _ _ _ none h0 (World.grownBy_alloc W _ none) (fun r e => by cases e)) (fun b hb => .inr ⟨by omega, by rw [hb]; simp⟩)
  have HK0 : Hid (Kq (RX q L Bl) W (W.alloc (.cells #[.int .u8 (fr : Nat)] 90))) := Kq.grown (World.grownBy_alloc W _ none) (fun b hb => ⟨HR.out b hb, by simp⟩)
  have d2 := (World.cell?_of_block (a := ⟨Bl, 0, none⟩) (HK0.out.same Bl (.inl rfl))).trans c2
  refine callsIn_of_wp Tryz.func61 rfl trivial ?_ rfl
  simp only [Tryz.ntmps61, List.size_toArray, List.length_cons, List.length_nil, Nat.reduceAdd, Nat.reduceSub, Array.replicate_succ, Array.replicate_zero, List.push_toArray, List.append_toArray, List.nil_append, List.cons_append]
  clear h0
  gi_wp2
  gi_loopw [4, 14] (fun av iv wr => ∃ (k g c d : Nat) (h : Nat) (r : List Nat), k ≤ L.length ∧ iv = .int .i64 k ∧ av = .slice (some ⟨g, 0, none⟩) (d + 1) c ∧ d ≤ k ∧ Hid (r.length = d ∧ Stk 90 pl wr W.heap.size (.slice (some ⟨g, 0, none⟩) (r.length + 1) c) (h :: r) ∧ Shp (h :: r) ∧ J (fun b => b = g) k wr ∧ Kq (RX q L Bl) W wr ∧ T.drop k = told (h :: r) (L.drop k) ∧ k ≤ T.length)) (fun _ iv _ => L.length - (intOf iv).toNat)
  case atStart => exact ⟨0, W.heap.size, 1, 0, fr, [], Nat.zero_le _, rfl, rfl, Nat.le_refl _, rfl, HS0.out, shp_one hfr, HJ0.out, HK0.out, HT.out.symm, Nat.zero_le _⟩
  case round =>
    obtain ⟨k, g, c, d, h, r, hk, rfl, rfl, hdk, HI⟩ := hrel
    clear HS0 HJ0 HK0
    by_cases hlt : k < L.length
    · have hli : (k : Int) < L.length := by omega
      have hd2 : (d : Int) ≤ 1048576 := by omega
      obtain ⟨x, hx⟩ : ∃ x, L[k]? = some x := ⟨_, List.getElem?_eq_getElem hlt⟩
      obtain ⟨b, o, rfl, hc⟩ := (RX.es HI.out.2.2.2.2.1 HE.out).at (by omega)
      obtain ⟨e0, e1, e2, e3, e4, e5⟩ := hc k x hx
      have hst := HI.out.2.1
      obtain ⟨cur, -, hbg, hdc, hcm, -, -⟩ := hst.block
      have hgs : g < wr.heap.size := by obtain ⟨g', c', ev, -, hg', -, -⟩ := hst.form; cases ev; exact hg'
      rw [HI.out.1] at hdc
      have hcm2 : (c : Int) ≤ 9223372036854775807 := by unfold maxLen at hcm; omega
      have hdc2 : (d : Int) + 1 ≤ c := by omega
      have hT1 : T.drop k = told (h :: r) (x :: L.drop (k + 1)) := by rw [HI.out.2.2.2.2.2.1, drop_at hx]
      have HX1 : Hid (T.drop k = told (h :: r) (x :: L.drop (k + 1))) := hT1
      have FO := fun (m : Nat) (w : World) => (callsIn_wide (n := m)).2 (fol_any h x.k w)
      have HQ : Hid (∀ nq : Nat, At6 ((wr.alloc (.cells #[.int .i64 x.k, .string x.tx, .string x.tg, .string x.an, .int .i64 x.st, .bool x.fl] 46)).drewN nq) wr.heap.size 0 x ∧
          Stk 90 pl ((wr.alloc (.cells #[.int .i64 x.k, .string x.tx, .string x.tg, .string x.an, .int .i64 x.st, .bool x.fl] 46)).drewN nq) W.heap.size (.slice (some ⟨g, 0, none⟩) (r.length + 1) c) (h :: r) ∧
          J (fun b => b = g) k ((wr.alloc (.cells #[.int .i64 x.k, .string x.tx, .string x.tg, .string x.an, .int .i64 x.st, .bool x.fl] 46)).drewN nq) ∧
          Kq (RX (some ⟨b, o, none⟩) L Bl) W ((wr.alloc (.cells #[.int .i64 x.k, .string x.tx, .string x.tg, .string x.an, .int .i64 x.st, .bool x.fl] 46)).drewN nq) ∧ g < ((wr.alloc (.cells #[.int .i64 x.k, .string x.tx, .string x.tg, .string x.an, .int .i64 x.st, .bool x.fl] 46)).drewN nq).heap.size) := fun nq => by
        refine ⟨(At6.new wr x).drewN nq, (hst.alloc _).drewN nq, HA.out.drewN (HA.out.alloc HI.out.2.2.2.1 _) nq, HI.out.2.2.2.2.1.trans ((Kq.grown (World.grownBy_alloc wr _ none) (fun b hb => ⟨?_, by simp⟩)).trans (Kq.grown (grownBy_drewN _ nq) (fun b hb => ⟨?_, by simp⟩))), ?_⟩
        · have := HR.out b hb; have := HI.out.2.2.2.2.1.size; omega
        · have := HR.out b hb; have := HI.out.2.2.2.2.1.size; simp; omega
        · show g < (wr.alloc _).heap.size
          simp; omega
      have tp := (HQ.out 0).2.1.top
      have tp0 : (wr.alloc (.cells #[.int .i64 x.k, .string x.tx, .string x.tg, .string x.an, .int .i64 x.st, .bool x.fl] 46)).cell? ⟨g, d, none⟩ = some (pl h) := by
        rw [← HI.out.1]
        exact (hst.alloc _).top
      have bx := At6.new wr x
      obtain ⟨b0, b1, b2, b3, b4, b5⟩ := bx
      have hkT := HI.out.2.2.2.2.2.2
      have hrl := HI.out.1
      have hShp := HI.out.2.2.1
      have HSR : Hid (Shp (h :: r) ∧ r.length = d) := ⟨hShp, hrl⟩
      clear hc hT1 tp HI hst hShp
      obtain ⟨xk, tx, tg, an, xs, fl⟩ := x
      dsimp only at *
      cases hfo : (fol h xk).2 with
      | false =>
        have hTe : T.drop k = [] := by rw [HX1.out, told_none _ (by rw [stp_cons, hfo]; rfl)]
        have hkl : k = T.length := by have := List.drop_eq_nil_iff.1 hTe; omega
        have HF : Hid (∀ nq : Nat, J (fun b => b = g) T.length ((wr.alloc (.cells #[.int .i64 xk, .string tx, .string tg, .string an, .int .i64 xs, .bool fl] 46)).drewN nq)) := fun nq => by rw [← hkl]; exact (HQ.out nq).2.2.1
        rw [hfo] at FO
        obtain ⟨y, hy⟩ : ∃ y, (fol h xk).1 = y := ⟨_, rfl⟩
        rw [hy] at FO
        clear HY HX1 HQ hTe hkl HSR hrl hfo hy
        gi_wp2
        refine wpIn_region_quiet_lit rfl (by kernel_rfl) (by kernel_rfl) ?_
        repeat (gi_big_quiet_step (fail))
        refine BigFrame.wpQuietIn_want (fun _ _ _ _ => trivial) rfl ?_
        intro K hK
        gi_big_quiet_op
        gi_big_quiet_call ((refine ⟨(fun hh => by cases hh), ?_⟩; exact CallsIn.quiet_of_same (FO _ _)))
        repeat (gi_big_quiet_step (fail))
        refine wpQuietIn_nil ?_
        intro _ hw'
        obtain ⟨nq, hw2⟩ := hw'
        subst hw2
        gi_wp2
        refine bodyPost_ret (results_none rfl _ _ _) rfl ?_
        exact ⟨⟨_, rfl⟩, .inl ⟨_, HF.out _⟩⟩
      | true =>
        obtain ⟨y, hy⟩ : ∃ y, (fol h xk).1 = y := ⟨_, rfl⟩
        rw [hfo, hy] at FO
        have hst1 : stp (h :: r) xk = some (nxt h r xk) := by rw [stp_cons, hfo]; rfl
        have HST : Hid (stp (h :: r) xk = some (nxt h r xk)) := hst1
        have hT2 : T.drop k = (⟨xk, tx, tg, an, xs, fl⟩, (nxt h r xk).length - 1) :: told (nxt h r xk) (L.drop (k + 1)) := by rw [HX1.out, told_some _ hst1]
        obtain ⟨t0, t1, t2⟩ := drop_cons hT2
        have H0 : Hid (T[k]? = some (⟨xk, tx, tg, an, xs, fl⟩, (nxt h r xk).length - 1)) := t0
        have H1 : Hid (T.drop (k + 1) = told (nxt h r xk) (L.drop (k + 1))) := t1
        have hsh2 : Hid (Shp (nxt h r xk)) := shp_stp HSR.out.1 hst1
        have hrl := HSR.out.2
        clear t0 t1 hT2 hst1 HX1
        by_cases k3 : xk = 3
        · have hnx : nxt h r xk = 3 :: y :: r := by unfold nxt; rw [hy, if_pos k3]
          rw [hnx] at H0 H1 hsh2
          clear hfo hy hnx HST
          subst k3
          gi_wp2
          refine wpIn_region_quiet_lit rfl (by kernel_rfl) (by kernel_rfl) ?_
          repeat (gi_big_quiet_step (fail))
          refine BigFrame.wpQuietIn_want (fun _ _ _ _ => trivial) rfl ?_
          intro K hK
          gi_big_quiet_op
          gi_big_quiet_call ((refine ⟨(fun hh => by cases hh), ?_⟩; exact CallsIn.quiet_of_same (FO _ _)))
          repeat (gi_big_quiet_step (fail))
          refine wpQuietIn_nil ?_
          intro _ hw'
          obtain ⟨nq, hw2⟩ := hw'
          subst hw2
          clear e0 e1 e2 e3 e4 e5 tp0 b0 b1 b2 b3 b4 b5 FO
          obtain ⟨q1, q2, q3, q4, q5⟩ := HQ.out nq
          generalize hW1 : (wr.alloc (.cells #[.int .i64 3, .string tx, .string tg, .string an, .int .i64 xs, .bool fl] 46)).drewN nq = V at q1 q2 q3 q4 q5 ⊢
          clear HQ hW1
          obtain ⟨b0, b1, b2, b3, b4, b5⟩ := q1
          have fz := q2.frozen d
          have cg := q2.top
          have u2 := q2.set y
          have hgb : W.heap.size ≤ g := hbg
          have HU : Hid (Stk 90 pl (V.setCell ⟨g, r.length, none⟩ (pl y)) W.heap.size (.slice (some ⟨g, 0, none⟩) (r.length + 1) c) (y :: r)) := u2
          have hG := grown_set V g r.length (pl y)
          have HJ2 : Hid (J (fun b => b = g) k (V.setCell ⟨g, r.length, none⟩ (pl y))) := HA.out.step _ _ _ _ _ q3 hG (fun r e => .inl (by cases e; rfl))
          have HK2 : Hid (Kq (RX (some ⟨b, o, none⟩) L Bl) W (V.setCell ⟨g, r.length, none⟩ (pl y))) := q4.trans (Kq.grown hG fun b hb => ⟨by have := HR.out b hb; omega, fun e => by cases e; have := HR.out _ hb; omega⟩)
          have hoth : ∀ o : Nat, (V.setCell ⟨g, r.length, none⟩ (pl y)).cell? ⟨wr.heap.size, o, none⟩ = V.cell? ⟨wr.heap.size, o, none⟩ := fun o => World.cell?_of_block (hG.block _ (World.block_lt_of_cell? V ⟨wr.heap.size, 0, none⟩ b0) (fun e => by have e2 : wr.heap.size = g := Option.some.inj e; omega))
          have g0 := (hoth 0).trans b0
          have g1 := (hoth 1).trans b1
          have g2 := (hoth 2).trans b2
          have g3 := (hoth 3).trans b3
          have g4 := (hoth 4).trans b4
          have g5 := (hoth 5).trans b5
          rw [hrl] at cg HU HJ2 HK2 g0 g1 g2 g3 g4 g5
          have hVs : g < (V.setCell ⟨g, d, none⟩ (pl y)).heap.size := by simp [World.setCell]; exact q5
          clear q2 q3 q4 u2 hG hoth
          obtain ⟨U, hU⟩ : ∃ U, V.setCell ⟨g, d, none⟩ (pl y) = U := ⟨_, rfl⟩
          have hP := Stk.push 121 (.int .u8 0) 1 Tryz.underlying121 Tryz.info90 rfl (by decide) HU.out (by have := HK2.out.size; exact this) (by rw [List.length_cons, hrl]; omega) 3 rfl
          rw [hU] at hP HU HJ2 HK2 g0 g1 g2 g3 g4 g5 hVs
          obtain ⟨ga, ca, Wa, hrun, p2, p3, p4, p5⟩ := hP
          rw [List.length_cons, hrl] at hrun p2
          have hJt := HA.out.alloc HJ2.out (.cells #[pl 3] 90)
          have HJ3 : Hid (J (fun b => b = ga) k Wa) := HA.out.less _ _ _ _ (HA.out.new _ _ _ _ _ hJt p3 (fun r e => by cases e; rfl)) (fun b hb => by
            subst hb
            rcases p4 with e | e
            · cases e; exact .inl rfl
            · exact .inr ⟨by rw [e]; simp, p5⟩)
          have HK3 : Hid (Kq (RX (some ⟨b, o, none⟩) L Bl) W Wa) := (HK2.out.trans (Kq.grown (World.grownBy_alloc U (.cells #[pl 3] 90) none) fun b hb => ⟨by have := HR.out b hb; have := HK2.out.size; omega, by simp⟩)).trans (Kq.grown p3 fun b hb => ⟨by have := HR.out b hb; have := HK2.out.size; simp; omega, fun e => by have e2 : _ = g := Option.some.inj e; have := HR.out _ hb; omega⟩)
          have HS3 : Hid (Stk 90 pl Wa W.heap.size (.slice (some ⟨ga, 0, none⟩) (d + 1 + 1) ca) (3 :: y :: r)) := p2
          have hwb : wr.heap.size < U.heap.size := World.block_lt_of_cell? U ⟨wr.heap.size, 0, none⟩ g0
          have hoth : ∀ o : Nat, Wa.cell? ⟨wr.heap.size, o, none⟩ = U.cell? ⟨wr.heap.size, o, none⟩ := fun o => (World.cell?_of_block (p3.block wr.heap.size (by simp; omega) (fun e => by have e2 : wr.heap.size = g := Option.some.inj e; omega))).trans (World.cell?_of_block (Below.heap_alloc U _ _ hwb))
          have i0 := (hoth 0).trans g0
          have i1 := (hoth 1).trans g1
          have i2 := (hoth 2).trans g2
          have i3 := (hoth 3).trans g3
          have i4 := (hoth 4).trans g4
          have i5 := (hoth 5).trans g5
          have hVe : Hid (V.setCell ⟨g, d, none⟩ (pl y) = U) := hU
          have Y := HY.out (n - 1) (fun b => b = ga) k _ Wa H0.out HJ3.out
          rw [show (3 :: y :: r).length - 1 = d + 1 by simp; omega] at Y
          unfold encE at Y
          dsimp only at Y
          rw [show ((d + 1 : Nat) : Int) = (d : Int) + 1 by omega] at Y
          obtain ⟨fn, tmps, assign, body, hyy, hRR⟩ := Y
          have hrun2 : (Builtin.append_ #[121, 121] 121 #[.slice (some ⟨g, 0, none⟩) (d + 1) c, .slice (some ⟨U.heap.size, 0, none⟩) 1 1]).run Tryz.prog (U.alloc (.cells #[.int .u8 3] 90)) = .ok (.slice (some ⟨ga, 0, none⟩) (d + 1 + 1) ca) Wa := hrun
          clear p2 p3 p4 p5 hJt hoth hrun HU HJ2 HK2 H0 HY
          gi_wp2_with (first | rw [hU] | (gi_at_builtin; refine wpListIn_append_run rfl _ _ 121 rfl rfl rfl hrun2 ?_))
          refine ⟨(fun h => by cases h), hRR.mono ?_⟩
          rintro e3 W3 (⟨rfl, hJ3, hk3⟩ | ⟨rfl, hJx3⟩)
          · clear hRR hyy
            gi_wp2
            go_roundw
            case rel =>
              refine ⟨k + 1, ga, ca, d + 1, 3, y :: r, by omega, by go_num, rfl, by omega, by simp; omega, ?_, hsh2.out, hJ3, HK3.out.trans (hk3.less fun b hb => .inl hb), H1.out, t2⟩
              rw [List.length_cons, hrl]
              exact HS3.out.same fun z hz => by cases hz; exact hk3.same _ (.inr rfl)
            case measure => simp [intOf]; omega
          · clear hRR hyy
            gi_wp2
            refine bodyPost_ret (results_none rfl _ _ _) rfl ?_
            exact ⟨⟨_, rfl⟩, .inr ⟨_, hJx3⟩⟩
        by_cases k5 : xk = 5
        · have hnx : nxt h r xk = 4 :: y :: r := by unfold nxt; rw [hy, if_neg k3, if_pos k5]
          rw [hnx] at H0 H1 hsh2
          clear hfo hy hnx HST
          subst k5
          gi_wp2
          refine wpIn_region_quiet_lit rfl (by kernel_rfl) (by kernel_rfl) ?_
          repeat (gi_big_quiet_step (fail))
          refine BigFrame.wpQuietIn_want (fun _ _ _ _ => trivial) rfl ?_
          intro K hK
          gi_big_quiet_op
          gi_big_quiet_call ((refine ⟨(fun hh => by cases hh), ?_⟩; exact CallsIn.quiet_of_same (FO _ _)))
          repeat (gi_big_quiet_step (fail))
          refine wpQuietIn_nil ?_
          intro _ hw'
          obtain ⟨nq, hw2⟩ := hw'
          subst hw2
          clear e0 e1 e2 e3 e4 e5 tp0 b0 b1 b2 b3 b4 b5 FO
          obtain ⟨q1, q2, q3, q4, q5⟩ := HQ.out nq
          generalize hW1 : (wr.alloc (.cells #[.int .i64 5, .string tx, .string tg, .string an, .int .i64 xs, .bool fl] 46)).drewN nq = V at q1 q2 q3 q4 q5 ⊢
          clear HQ hW1
          obtain ⟨b0, b1, b2, b3, b4, b5⟩ := q1
          have fz := q2.frozen d
          have cg := q2.top
          have u2 := q2.set y
          have hgb : W.heap.size ≤ g := hbg
          have HU : Hid (Stk 90 pl (V.setCell ⟨g, r.length, none⟩ (pl y)) W.heap.size (.slice (some ⟨g, 0, none⟩) (r.length + 1) c) (y :: r)) := u2
          have hG := grown_set V g r.length (pl y)
          have HJ2 : Hid (J (fun b => b = g) k (V.setCell ⟨g, r.length, none⟩ (pl y))) := HA.out.step _ _ _ _ _ q3 hG (fun r e => .inl (by cases e; rfl))
          have HK2 : Hid (Kq (RX (some ⟨b, o, none⟩) L Bl) W (V.setCell ⟨g, r.length, none⟩ (pl y))) := q4.trans (Kq.grown hG fun b hb => ⟨by have := HR.out b hb; omega, fun e => by cases e; have := HR.out _ hb; omega⟩)
          have hoth : ∀ o : Nat, (V.setCell ⟨g, r.length, none⟩ (pl y)).cell? ⟨wr.heap.size, o, none⟩ = V.cell? ⟨wr.heap.size, o, none⟩ := fun o => World.cell?_of_block (hG.block _ (World.block_lt_of_cell? V ⟨wr.heap.size, 0, none⟩ b0) (fun e => by have e2 : wr.heap.size = g := Option.some.inj e; omega))
          have g0 := (hoth 0).trans b0
          have g1 := (hoth 1).trans b1
          have g2 := (hoth 2).trans b2
          have g3 := (hoth 3).trans b3
          have g4 := (hoth 4).trans b4
          have g5 := (hoth 5).trans b5
          rw [hrl] at cg HU HJ2 HK2 g0 g1 g2 g3 g4 g5
          have hVs : g < (V.setCell ⟨g, d, none⟩ (pl y)).heap.size := by simp [World.setCell]; exact q5
          clear q2 q3 q4 u2 hG hoth
          obtain ⟨U, hU⟩ : ∃ U, V.setCell ⟨g, d, none⟩ (pl y) = U := ⟨_, rfl⟩
          have hP := Stk.push 121 (.int .u8 0) 1 Tryz.underlying121 Tryz.info90 rfl (by decide) HU.out (by have := HK2.out.size; exact this) (by rw [List.length_cons, hrl]; omega) 4 rfl
          rw [hU] at hP HU HJ2 HK2 g0 g1 g2 g3 g4 g5 hVs
          obtain ⟨ga, ca, Wa, hrun, p2, p3, p4, p5⟩ := hP
          rw [List.length_cons, hrl] at hrun p2
          have hJt := HA.out.alloc HJ2.out (.cells #[pl 4] 90)
          have HJ3 : Hid (J (fun b => b = ga) k Wa) := HA.out.less _ _ _ _ (HA.out.new _ _ _ _ _ hJt p3 (fun r e => by cases e; rfl)) (fun b hb => by
            subst hb
            rcases p4 with e | e
            · cases e; exact .inl rfl
            · exact .inr ⟨by rw [e]; simp, p5⟩)
          have HK3 : Hid (Kq (RX (some ⟨b, o, none⟩) L Bl) W Wa) := (HK2.out.trans (Kq.grown (World.grownBy_alloc U (.cells #[pl 4] 90) none) fun b hb => ⟨by have := HR.out b hb; have := HK2.out.size; omega, by simp⟩)).trans (Kq.grown p3 fun b hb => ⟨by have := HR.out b hb; have := HK2.out.size; simp; omega, fun e => by have e2 : _ = g := Option.some.inj e; have := HR.out _ hb; omega⟩)
          have HS3 : Hid (Stk 90 pl Wa W.heap.size (.slice (some ⟨ga, 0, none⟩) (d + 1 + 1) ca) (4 :: y :: r)) := p2
          have hwb : wr.heap.size < U.heap.size := World.block_lt_of_cell? U ⟨wr.heap.size, 0, none⟩ g0
          have hoth : ∀ o : Nat, Wa.cell? ⟨wr.heap.size, o, none⟩ = U.cell? ⟨wr.heap.size, o, none⟩ := fun o => (World.cell?_of_block (p3.block wr.heap.size (by simp; omega) (fun e => by have e2 : wr.heap.size = g := Option.some.inj e; omega))).trans (World.cell?_of_block (Below.heap_alloc U _ _ hwb))
          have i0 := (hoth 0).trans g0
          have i1 := (hoth 1).trans g1
          have i2 := (hoth 2).trans g2
          have i3 := (hoth 3).trans g3
          have i4 := (hoth 4).trans g4
          have i5 := (hoth 5).trans g5
          have hVe : Hid (V.setCell ⟨g, d, none⟩ (pl y) = U) := hU
          have Y := HY.out (n - 1) (fun b => b = ga) k _ Wa H0.out HJ3.out
          rw [show (4 :: y :: r).length - 1 = d + 1 by simp; omega] at Y
          unfold encE at Y
          dsimp only at Y
          rw [show ((d + 1 : Nat) : Int) = (d : Int) + 1 by omega] at Y
          obtain ⟨fn, tmps, assign, body, hyy, hRR⟩ := Y
          have hrun2 : (Builtin.append_ #[121, 121] 121 #[.slice (some ⟨g, 0, none⟩) (d + 1) c, .slice (some ⟨U.heap.size, 0, none⟩) 1 1]).run Tryz.prog (U.alloc (.cells #[.int .u8 4] 90)) = .ok (.slice (some ⟨ga, 0, none⟩) (d + 1 + 1) ca) Wa := hrun
          clear p2 p3 p4 p5 hJt hoth hrun HU HJ2 HK2 H0 HY
          gi_wp2_with (first | rw [hU] | (gi_at_builtin; refine wpListIn_append_run rfl _ _ 121 rfl rfl rfl hrun2 ?_))
          refine ⟨(fun h => by cases h), hRR.mono ?_⟩
          rintro e3 W3 (⟨rfl, hJ3, hk3⟩ | ⟨rfl, hJx3⟩)
          · clear hRR hyy
            gi_wp2
            go_roundw
            case rel =>
              refine ⟨k + 1, ga, ca, d + 1, 4, y :: r, by omega, by go_num, rfl, by omega, by simp; omega, ?_, hsh2.out, hJ3, HK3.out.trans (hk3.less fun b hb => .inl hb), H1.out, t2⟩
              rw [List.length_cons, hrl]
              exact HS3.out.same fun z hz => by cases hz; exact hk3.same _ (.inr rfl)
            case measure => simp [intOf]; omega
          · clear hRR hyy
            gi_wp2
            refine bodyPost_ret (results_none rfl _ _ _) rfl ?_
            exact ⟨⟨_, rfl⟩, .inr ⟨_, hJx3⟩⟩
        by_cases k4 : xk = 4
        · have hnx : nxt h r xk = r := by unfold nxt; rw [if_neg k3, if_neg k5, if_pos (.inl k4)]
          rw [hnx] at H0 H1 hsh2
          clear hfo hy hnx HST
          subst k4
          gi_wp2
          refine wpIn_region_quiet_lit rfl (by kernel_rfl) (by kernel_rfl) ?_
          repeat (gi_big_quiet_step (fail))
          refine BigFrame.wpQuietIn_want (fun _ _ _ _ => trivial) rfl ?_
          intro K hK
          gi_big_quiet_op
          gi_big_quiet_call ((refine ⟨(fun hh => by cases hh), ?_⟩; exact CallsIn.quiet_of_same (FO _ _)))
          repeat (gi_big_quiet_step (fail))
          refine wpQuietIn_nil ?_
          intro _ hw'
          obtain ⟨nq, hw2⟩ := hw'
          subst hw2
          clear e0 e1 e2 e3 e4 e5 tp0 b0 b1 b2 b3 b4 b5 FO
          obtain ⟨q1, q2, q3, q4, q5⟩ := HQ.out nq
          generalize hW1 : (wr.alloc (.cells #[.int .i64 4, .string tx, .string tg, .string an, .int .i64 xs, .bool fl] 46)).drewN nq = V at q1 q2 q3 q4 q5 ⊢
          clear HQ hW1
          obtain ⟨b0, b1, b2, b3, b4, b5⟩ := q1
          have fz := q2.frozen d
          have cg := q2.top
          have u2 := q2.set y
          have hgb : W.heap.size ≤ g := hbg
          have HU : Hid (Stk 90 pl (V.setCell ⟨g, r.length, none⟩ (pl y)) W.heap.size (.slice (some ⟨g, 0, none⟩) (r.length + 1) c) (y :: r)) := u2
          have hG := grown_set V g r.length (pl y)
          have HJ2 : Hid (J (fun b => b = g) k (V.setCell ⟨g, r.length, none⟩ (pl y))) := HA.out.step _ _ _ _ _ q3 hG (fun r e => .inl (by cases e; rfl))
          have HK2 : Hid (Kq (RX (some ⟨b, o, none⟩) L Bl) W (V.setCell ⟨g, r.length, none⟩ (pl y))) := q4.trans (Kq.grown hG fun b hb => ⟨by have := HR.out b hb; omega, fun e => by cases e; have := HR.out _ hb; omega⟩)
          have hoth : ∀ o : Nat, (V.setCell ⟨g, r.length, none⟩ (pl y)).cell? ⟨wr.heap.size, o, none⟩ = V.cell? ⟨wr.heap.size, o, none⟩ := fun o => World.cell?_of_block (hG.block _ (World.block_lt_of_cell? V ⟨wr.heap.size, 0, none⟩ b0) (fun e => by have e2 : wr.heap.size = g := Option.some.inj e; omega))
          have g0 := (hoth 0).trans b0
          have g1 := (hoth 1).trans b1
          have g2 := (hoth 2).trans b2
          have g3 := (hoth 3).trans b3
          have g4 := (hoth 4).trans b4
          have g5 := (hoth 5).trans b5
          rw [hrl] at cg HU HJ2 HK2 g0 g1 g2 g3 g4 g5
          have hVs : g < (V.setCell ⟨g, d, none⟩ (pl y)).heap.size := by simp [World.setCell]; exact q5
          clear q2 q3 q4 u2 hG hoth
          obtain ⟨y2, r2, hr2⟩ : ∃ y2 r2, r = y2 :: r2 := by
            have := shp_ne hsh2.out
            cases r with
            | nil => exact absurd rfl this
            | cons a b => exact ⟨a, b, rfl⟩
          have HU2 : Hid (Stk 90 pl (V.setCell ⟨g, d, none⟩ (pl y)) W.heap.size (.slice (some ⟨g, 0, none⟩) d c) r) := by
            have := HU.out
            rw [← hrl] at this ⊢
            exact this.pop
          obtain ⟨d2, hd22⟩ : ∃ d2, d = d2 + 1 := ⟨r2.length, by rw [← hrl, hr2]; simp⟩
          have hrl2 : r2.length = d2 := by rw [hr2] at hrl; simp at hrl; omega
          have hdd : (d : Int) - 1 = (d2 : Int) := by omega
          have CT := cut39 (some ⟨g, 0, none⟩) (d + 1) c d (by omega)
          have Y := HY.out (n - 1) (fun b => b = g) k _ _ H0.out HJ2.out
          rw [show r.length - 1 = d2 by omega] at Y
          unfold encE at Y
          obtain ⟨fn, tmps, assign, body, hyy, hRR⟩ := Y
          have HD2 : Hid (d = d2 + 1) := hd22
          have HR2 : Hid (r = y2 :: r2) := hr2
          clear H0 HY HU hd22 hr2 hrl
          gi_wp2
          refine ⟨(fun h => by cases h), hRR.mono ?_⟩
          rintro e3 W3 (⟨rfl, hJ3, hk3⟩ | ⟨rfl, hJx3⟩)
          · clear hRR hyy
            gi_wp2
            go_roundw
            case rel =>
              have hd22 := HD2.out
              have hr2 := HR2.out
              subst hd22 hr2
              refine ⟨k + 1, g, c, d2, y2, r2, by omega, by go_num, rfl, by omega, hrl2, ?_, hsh2.out, hJ3, HK2.out.trans (hk3.less fun b hb => .inl hb), H1.out, t2⟩
              rw [hrl2]
              exact HU2.out.same fun z hz => by cases hz; exact hk3.same _ (.inr rfl)
            case measure => simp [intOf]; omega
          · clear hRR hyy
            gi_wp2
            refine bodyPost_ret (results_none rfl _ _ _) rfl ?_
            exact ⟨⟨_, rfl⟩, .inr ⟨_, hJx3⟩⟩
        by_cases k6 : xk = 6
        · have hnx : nxt h r xk = r := by unfold nxt; rw [if_neg k3, if_neg k5, if_pos (.inr k6)]
          rw [hnx] at H0 H1 hsh2
          clear hfo hy hnx HST
          subst k6
          gi_wp2
          refine wpIn_region_quiet_lit rfl (by kernel_rfl) (by kernel_rfl) ?_
          repeat (gi_big_quiet_step (fail))
          refine BigFrame.wpQuietIn_want (fun _ _ _ _ => trivial) rfl ?_
          intro K hK
          gi_big_quiet_op
          gi_big_quiet_call ((refine ⟨(fun hh => by cases hh), ?_⟩; exact CallsIn.quiet_of_same (FO _ _)))
          repeat (gi_big_quiet_step (fail))
          refine wpQuietIn_nil ?_
          intro _ hw'
          obtain ⟨nq, hw2⟩ := hw'
          subst hw2
          clear e0 e1 e2 e3 e4 e5 tp0 b0 b1 b2 b3 b4 b5 FO
          obtain ⟨q1, q2, q3, q4, q5⟩ := HQ.out nq
          generalize hW1 : (wr.alloc (.cells #[.int .i64 6, .string tx, .string tg, .string an, .int .i64 xs, .bool fl] 46)).drewN nq = V at q1 q2 q3 q4 q5 ⊢
          clear HQ hW1
          obtain ⟨b0, b1, b2, b3, b4, b5⟩ := q1
          have fz := q2.frozen d
          have cg := q2.top
          have u2 := q2.set y
          have hgb : W.heap.size ≤ g := hbg
          have HU : Hid (Stk 90 pl (V.setCell ⟨g, r.length, none⟩ (pl y)) W.heap.size (.slice (some ⟨g, 0, none⟩) (r.length + 1) c) (y :: r)) := u2
          have hG := grown_set V g r.length (pl y)
          have HJ2 : Hid (J (fun b => b = g) k (V.setCell ⟨g, r.length, none⟩ (pl y))) := HA.out.step _ _ _ _ _ q3 hG (fun r e => .inl (by cases e; rfl))
          have HK2 : Hid (Kq (RX (some ⟨b, o, none⟩) L Bl) W (V.setCell ⟨g, r.length, none⟩ (pl y))) := q4.trans (Kq.grown hG fun b hb => ⟨by have := HR.out b hb; omega, fun e => by cases e; have := HR.out _ hb; omega⟩)
          have hoth : ∀ o : Nat, (V.setCell ⟨g, r.length, none⟩ (pl y)).cell? ⟨wr.heap.size, o, none⟩ = V.cell? ⟨wr.heap.size, o, none⟩ := fun o => World.cell?_of_block (hG.block _ (World.block_lt_of_cell? V ⟨wr.heap.size, 0, none⟩ b0) (fun e => by have e2 : wr.heap.size = g := Option.some.inj e; omega))
          have g0 := (hoth 0).trans b0
          have g1 := (hoth 1).trans b1
          have g2 := (hoth 2).trans b2
          have g3 := (hoth 3).trans b3
          have g4 := (hoth 4).trans b4
          have g5 := (hoth 5).trans b5
          rw [hrl] at cg HU HJ2 HK2 g0 g1 g2 g3 g4 g5
          have hVs : g < (V.setCell ⟨g, d, none⟩ (pl y)).heap.size := by simp [World.setCell]; exact q5
          clear q2 q3 q4 u2 hG hoth
          obtain ⟨y2, r2, hr2⟩ : ∃ y2 r2, r = y2 :: r2 := by
            have := shp_ne hsh2.out
            cases r with
            | nil => exact absurd rfl this
            | cons a b => exact ⟨a, b, rfl⟩
          have HU2 : Hid (Stk 90 pl (V.setCell ⟨g, d, none⟩ (pl y)) W.heap.size (.slice (some ⟨g, 0, none⟩) d c) r) := by
            have := HU.out
            rw [← hrl] at this ⊢
            exact this.pop
          obtain ⟨d2, hd22⟩ : ∃ d2, d = d2 + 1 := ⟨r2.length, by rw [← hrl, hr2]; simp⟩
          have hrl2 : r2.length = d2 := by rw [hr2] at hrl; simp at hrl; omega
          have hdd : (d : Int) - 1 = (d2 : Int) := by omega
          have CT := cut39 (some ⟨g, 0, none⟩) (d + 1) c d (by omega)
          have Y := HY.out (n - 1) (fun b => b = g) k _ _ H0.out HJ2.out
          rw [show r.length - 1 = d2 by omega] at Y
          unfold encE at Y
          obtain ⟨fn, tmps, assign, body, hyy, hRR⟩ := Y
          have HD2 : Hid (d = d2 + 1) := hd22
          have HR2 : Hid (r = y2 :: r2) := hr2
          clear H0 HY HU hd22 hr2 hrl
          gi_wp2
          refine ⟨(fun h => by cases h), hRR.mono ?_⟩
          rintro e3 W3 (⟨rfl, hJ3, hk3⟩ | ⟨rfl, hJx3⟩)
          · clear hRR hyy
            gi_wp2
            go_roundw
            case rel =>
              have hd22 := HD2.out
              have hr2 := HR2.out
              subst hd22 hr2
              refine ⟨k + 1, g, c, d2, y2, r2, by omega, by go_num, rfl, by omega, hrl2, ?_, hsh2.out, hJ3, HK2.out.trans (hk3.less fun b hb => .inl hb), H1.out, t2⟩
              rw [hrl2]
              exact HU2.out.same fun z hz => by cases hz; exact hk3.same _ (.inr rfl)
            case measure => simp [intOf]; omega
          · clear hRR hyy
            gi_wp2
            refine bodyPost_ret (results_none rfl _ _ _) rfl ?_
            exact ⟨⟨_, rfl⟩, .inr ⟨_, hJx3⟩⟩
        have hnx : nxt h r xk = y :: r := by unfold nxt; rw [if_neg k3, if_neg k5, if_neg (by omega), hy]
        rw [hnx] at H0 H1 hsh2
        clear hfo hy hnx HST
        have n3 : (xk == 3) = false := by simp [k3]
        have n4 : (xk == 4) = false := by simp [k4]
        have n5 : (xk == 5) = false := by simp [k5]
        have n6 : (xk == 6) = false := by simp [k6]
        gi_wp2
        refine wpIn_region_quiet_lit rfl (by kernel_rfl) (by kernel_rfl) ?_
        repeat (gi_big_quiet_step (fail))
        refine BigFrame.wpQuietIn_want (fun _ _ _ _ => trivial) rfl ?_
        intro K hK
        gi_big_quiet_op
        gi_big_quiet_call ((refine ⟨(fun hh => by cases hh), ?_⟩; exact CallsIn.quiet_of_same (FO _ _)))
        repeat (gi_big_quiet_step (fail))
        refine wpQuietIn_nil ?_
        intro _ hw'
        obtain ⟨nq, hw2⟩ := hw'
        subst hw2
        clear e0 e1 e2 e3 e4 e5 tp0 b0 b1 b2 b3 b4 b5 FO
        obtain ⟨q1, q2, q3, q4, q5⟩ := HQ.out nq
        generalize hW1 : (wr.alloc (.cells #[.int .i64 xk, .string tx, .string tg, .string an, .int .i64 xs, .bool fl] 46)).drewN nq = V at q1 q2 q3 q4 q5 ⊢
        clear HQ hW1
        obtain ⟨b0, b1, b2, b3, b4, b5⟩ := q1
        have fz := q2.frozen d
        have cg := q2.top
        have u2 := q2.set y
        have hgb : W.heap.size ≤ g := hbg
        have HU : Hid (Stk 90 pl (V.setCell ⟨g, r.length, none⟩ (pl y)) W.heap.size (.slice (some ⟨g, 0, none⟩) (r.length + 1) c) (y :: r)) := u2
        have hG := grown_set V g r.length (pl y)
        have HJ2 : Hid (J (fun b => b = g) k (V.setCell ⟨g, r.length, none⟩ (pl y))) := HA.out.step _ _ _ _ _ q3 hG (fun r e => .inl (by cases e; rfl))
        have HK2 : Hid (Kq (RX (some ⟨b, o, none⟩) L Bl) W (V.setCell ⟨g, r.length, none⟩ (pl y))) := q4.trans (Kq.grown hG fun b hb => ⟨by have := HR.out b hb; omega, fun e => by cases e; have := HR.out _ hb; omega⟩)
        have hoth : ∀ o : Nat, (V.setCell ⟨g, r.length, none⟩ (pl y)).cell? ⟨wr.heap.size, o, none⟩ = V.cell? ⟨wr.heap.size, o, none⟩ := fun o => World.cell?_of_block (hG.block _ (World.block_lt_of_cell? V ⟨wr.heap.size, 0, none⟩ b0) (fun e => by have e2 : wr.heap.size = g := Option.some.inj e; omega))
        have g0 := (hoth 0).trans b0
        have g1 := (hoth 1).trans b1
        have g2 := (hoth 2).trans b2
        have g3 := (hoth 3).trans b3
        have g4 := (hoth 4).trans b4
        have g5 := (hoth 5).trans b5
        rw [hrl] at cg HU HJ2 HK2 g0 g1 g2 g3 g4 g5
        have hVs : g < (V.setCell ⟨g, d, none⟩ (pl y)).heap.size := by simp [World.setCell]; exact q5
        clear q2 q3 q4 u2 hG hoth
        have Y := HY.out (n - 1) (fun b => b = g) k _ _ H0.out HJ2.out
        rw [show (y :: r).length - 1 = d by simp; omega] at Y
        unfold encE at Y
        obtain ⟨fn, tmps, assign, body, hyy, hRR⟩ := Y
        clear H0 HY
        gi_wp2
        refine ⟨(fun h => by cases h), hRR.mono ?_⟩
        rintro e3 W3 (⟨rfl, hJ3, hk3⟩ | ⟨rfl, hJx3⟩)
        · clear hRR hyy
          gi_wp2
          go_roundw
          case rel =>
            refine ⟨k + 1, g, c, d, y, r, by omega, by go_num, rfl, by omega, hrl, ?_, hsh2.out, hJ3, HK2.out.trans (hk3.less fun b hb => .inl hb), H1.out, t2⟩
            rw [hrl]
            exact HU.out.same fun z hz => by cases hz; exact hk3.same _ (.inr rfl)
          case measure => simp [intOf]; omega
        · clear hRR hyy
          gi_wp2
          refine bodyPost_ret (results_none rfl _ _ _) rfl ?_
          exact ⟨⟨_, rfl⟩, .inr ⟨_, hJx3⟩⟩
    · have hge : ¬ (k : Int) < L.length := by omega
      obtain rfl : k = L.length := by omega
      have hTe : T.drop L.length = [] := by rw [HI.out.2.2.2.2.2.1, List.drop_length]; rfl
      have hkl : L.length = T.length := by have := List.drop_eq_nil_iff.1 hTe; have := HI.out.2.2.2.2.2.2; omega
      have HF : Hid (J (fun b => b = g) T.length wr) := by show J _ _ _; rw [← hkl]; exact HI.out.2.2.2.1
      clear HI HY hkl hTe
      gi_wp2
      go_end0
      exact ⟨⟨_, rfl⟩, .inl ⟨_, HF.out⟩⟩

end Go.Proofs.YteeanpfhngoobaaGreat
