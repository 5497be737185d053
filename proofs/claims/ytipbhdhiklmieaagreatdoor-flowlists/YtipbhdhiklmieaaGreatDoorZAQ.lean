/- The walk: quoted. -/
import Derived.Test.YtipbhdhiklmieaaGreatDoorZAP
import Derived.Test.YtipbhdhiklmieaaGreatDoorZAO
set_option linter.all false
set_option maxRecDepth 100000
set_option maxHeartbeats 16000000
namespace Go.Proofs.YtipbhdhiklmieaaGreatDoor
open Go.RowKit Go.Shelf
open P8 (Row Mt)
attribute [local go_sem] Oper.semAt_some
section
variable {w : World} {wb : Nat} {E : Env} {s : St} {ov tv : Value} {O : Orc} {Tb : World -> Prop}
theorem few_of {O : Orc} {n : Int} {en : List Int -> Option Nat} (hf : Fine E) {p r : Pl} {l : List (List Int)} {Rw : List Row} (h : uptW O E.L n en p = .ok (l, r)) (hR : Rw.map (·.t) = l) (hB : ∀ p, (rst E.L p).length <= 1300) : Few Rw := by
 obtain ⟨h1, h2⟩ := uptF_list hB _ _ _ _ _ _ h (fun t ht => by cases ht)
 refine ⟨?_, fun x hx => h2 x.t (by rw [<- hR]; exact List.mem_map_of_mem hx)⟩
 have h3 := congrArg List.length hR
 rw [List.length_map] at h3
 have h4 := hf.l2
 have h5 := E.len
 simp at h1
 omega
theorem rst_all (hf : Fine E) (p : Pl) : (rst E.L p).length <= 1300 := by
 unfold rst tx Env.L
 rw [List.getElem?_map]
 cases hx : E.M[p.i]? with
 | none => simp
 | some x =>
  have := hf.t2 _ x hx
  show (x.t.drop p.k).length <= 1300
  rw [List.length_drop]
  omega
theorem quoted_any (LW : Low O Tb) (h : Wk w wb E s ov tv) (hs : Sml s) (hf : Fine E) (hp : Okp E s.p) (h0 : 0 < (rst E.L s.p).length) (ht : Tb w) (h1 : 0 < wb) (x : Hs) (c : Int) (hc : c = 34 \/ c = 39) :
  Calls Tryz.prog 69 #[(.pointer (some ⟨wb, 0, none⟩)), x.v, .int .i64 c] w fun en w' => Post wb E w (quoW O E.L E.n s x (decide (c = 34))) en w' := by
 have k1 := below_alloc w (.cells #[.string x.an, .string x.tg, .int .i64 (x.bi : Nat), .int .i64 (x.bk : Nat)] 125)
 have bh := Bh.new w x
 have kw1 : Kw w (w.alloc (.cells #[.string x.an, .string x.tg, .int .i64 (x.bi : Nat), .int .i64 (x.bk : Nat)] 125)) wb E s ov tv := ⟨Kee.of k1, h.on k1⟩
 obtain ⟨c4, c5, c7, c8, c9⟩ := kw1.cells
 have kw2 := kw1.setK
 have bh2 : Bh ((w.alloc (.cells #[.string x.an, .string x.tg, .int .i64 (x.bi : Nat), .int .i64 (x.bk : Nat)] 125)).setCell ⟨wb, 5, none⟩ (.int .i64 ((s.p.k : Int) + 1))) w.heap.size x := bh.other _ (by have := h.lt; omega)
 have hp1 := hp.more (m := 1) (by omega)
 have hpk := hp.lek hf
 have hwl := h.lt
 have hB := rst_all hf
 have hkt : Hid (∀ V, Kee wb w V -> Tb V) := fun V hk => LW.keep ht hk (by omega) h1
 have SCL : Hid (∀ (V : World) (r : Pl) (q : Option Addr) (t : List Int) (k : Nat) (st : Int), Wk V wb E { s with p := r } ov tv -> t.length <= 1000000 -> Is V q t -> Calls Tryz.prog 110 #[(.pointer (some ⟨wb, 0, none⟩)), x.v, .slice q t.length k, .int .i64 st] V fun en w' => (∃ v, en = .returned v) /\ Kee wb V w' /\ ∃ ov' tv', Wk w' wb E (scaW O { s with p := r } x t st) ov' tv') := fun V r q t k st hV hl hI => scalar_any LW.t hV (hs.at r) x q t k st hl hI
 generalize hV0 : (w.alloc (.cells #[.string x.an, .string x.tg, .int .i64 (x.bi : Nat), .int .i64 (x.bk : Nat)] 125)).setCell ⟨wb, 5, none⟩ (.int .i64 ((s.p.k : Int) + 1)) = V0 at kw2 bh2
 rcases hc with rfl | rfl
 ·rw [decide_eq_true rfl]
  have UP := upTo106_any LW.c LW.l LW.q.dEnd O.dEnd_lt kw2.w hf hp1
  unfold quoW
  simp only [if_true]
  cases hu : uptW O E.L E.n O.dEnd (s.p.plus 1) with
  | error d =>
   have hd0 : d ≠ 0 := uptF_ne _ _ _ _ _ hu
   have e1 : (d == 0) = false := by rw [beq_eq_false_iff_ne]; exact hd0
   have e2 : (d != 0) = true := by simp [hd0]
   rw [show uptW O E.L E.n O.dEnd ({ s with p := s.p.plus 1 } : St).p = .error d from hu] at UP
   have HK : Hid _ := kw2.k
   rw [<- hV0] at UP HK
   clear h hwl kw1 kw2 bh bh2 hV0 hu SCL
   go_enter Tryz.func69, Tryz.ntmps69
   go_wp2_with (first | (go_at_call 107; refine UP.mono ?_; clear UP; rintro en V1 ⟨hk1, rfl⟩))
   go_ret
   exact ⟨HK.out.trans hk1, rfl⟩
  | ok lr =>
   obtain ⟨l, r⟩ := lr
   rw [show uptW O E.L E.n O.dEnd ({ s with p := s.p.plus 1 } : St).p = .ok (l, r) from hu] at UP
   dsimp only
   have DR : Hid (∀ (V : World) (a : Option Addr) (Rw : List Row) (k : Nat), Kee wb w V -> Mt V a Rw -> Rw.length <= k -> k <= maxLen -> Rw.map (·.t) = l -> Calls Tryz.prog 108 #[.slice a Rw.length k] V fun e w' => Below V.heap.size V w' /\ (((O.dRead l).2 ≠ 0 /\ e = .returned (.tuple #[.slice none 0 0, .int .i64 (O.dRead l).2])) \/ ((O.dRead l).2 = 0 /\ (O.dRead l).1.length <= 1000000 /\ ∃ q k, e = .returned (.tuple #[.slice q (O.dRead l).1.length k, .int .i64 0]) /\ Is w' q (O.dRead l).1))) := fun V a Rw k hk hm hl hx he => by
    have := LW.q.dRead a Rw k V (hkt.out V hk) (few_of hf hu he hB) hl hx hm
    rw [he] at this
    exact this
   have HK : Hid _ := kw2.k
   have HB2 : Hid _ := bh2
   rw [<- hV0] at UP HK HB2
   by_cases hde : (O.dRead l).2 = 0
   ·rw [if_neg (by simp [hde])]
    have HDE : Hid ((O.dRead l).2 = 0) := hde
    obtain ⟨RR, hRR⟩ : ∃ RR, scaW O { s with p := r } x (O.dRead l).1 3 = RR := ⟨_, rfl⟩
    rw [hRR]
    have HRR : Hid (scaW O { s with p := r } x (O.dRead l).1 3 = RR) := hRR
    clear h hwl kw1 kw2 bh bh2 hV0 hu hde hRR
    go_enter Tryz.func69, Tryz.ntmps69
    go_wp2_with (first | (go_at_call 107; refine UP.mono ?_; clear UP; rintro en V1 ⟨hk1, a1, Rw, ka, rfl, hm, hl1, hl2, he, hw1⟩; have DC := DR.out V1 a1 Rw ka (HK.out.trans hk1) hm hl1 hl2 he; have HW1 : Hid _ := hw1; have HK1 : Hid _ := HK.out.trans hk1; have HB1 : Hid (Bh V1 w.heap.size x) := Bh.kee HB2.out hk1; clear hw1 hk1 hm hl1 hl2 he DR) | (go_at_call 108; refine DC.mono ?_; clear DC; rintro en V2 ⟨hB2', ⟨hne, -⟩ | ⟨-, hlen, q, kq, rfl, hIq⟩⟩; exact absurd HDE.out hne; have SC := SCL.out V2 r q (O.dRead l).1 kq 3 (HW1.out.on hB2') hlen hIq; rw [HRR.out] at SC; have b2 := Bh.on HB1.out hB2'; have y0 := b2.cell 0; have y1 := b2.cell 1; have y2 := b2.cell 2; have y3 := b2.cell 3; simp at y0 y1 y2 y3; have HK2 : Hid _ := HK1.out.trans (Kee.of hB2'); clear b2 hIq) | (go_at_call 110; refine SC.mono ?_; clear SC; rintro en V3 ⟨⟨v3, rfl⟩, hk3, hw3⟩))
    go_ret
    exact ⟨HK2.out.trans hk3, rfl, hw3⟩
   ·rw [if_pos hde]
    obtain ⟨dd, hdd⟩ : ∃ dd, (O.dRead l).2 = dd := ⟨_, rfl⟩
    rw [hdd] at hde |-
    have HDD : Hid ((O.dRead l).2 = dd) := hdd
    have e1 : (dd == 0) = false := by rw [beq_eq_false_iff_ne]; exact hde
    have e2 : (dd != 0) = true := by simp [hde]
    clear h hwl kw1 kw2 bh bh2 hV0 hu SCL hdd
    go_enter Tryz.func69, Tryz.ntmps69
    go_wp2_with (first | (go_at_call 107; refine UP.mono ?_; clear UP; rintro en V1 ⟨hk1, a1, Rw, ka, rfl, hm, hl1, hl2, he, hw1⟩; have DC := DR.out V1 a1 Rw ka (HK.out.trans hk1) hm hl1 hl2 he; rw [HDD.out] at DC; have HK1 : Hid _ := HK.out.trans hk1; clear hw1 hk1 hm hl1 hl2 he DR) | (go_at_call 108; refine DC.mono ?_; clear DC; rintro en V2 ⟨hB2', ⟨-, rfl⟩ | ⟨hz, -⟩⟩; rotate_left; exact absurd hz hde))
    go_ret
    exact ⟨HK1.out.trans (Kee.of hB2'), rfl⟩
 ·rw [decide_eq_false (by decide)]
  have UP := upTo105_any LW.c LW.l LW.q.sEnd O.sEnd_lt kw2.w hf hp1
  unfold quoW
  simp only [Bool.false_eq_true, if_false]
  cases hu : uptW O E.L E.n O.sEnd (s.p.plus 1) with
  | error d =>
   have hd0 : d ≠ 0 := uptF_ne _ _ _ _ _ hu
   have e1 : (d == 0) = false := by rw [beq_eq_false_iff_ne]; exact hd0
   have e2 : (d != 0) = true := by simp [hd0]
   rw [show uptW O E.L E.n O.sEnd ({ s with p := s.p.plus 1 } : St).p = .error d from hu] at UP
   have HK : Hid _ := kw2.k
   rw [<- hV0] at UP HK
   clear h hwl kw1 kw2 bh bh2 hV0 hu SCL
   go_enter Tryz.func69, Tryz.ntmps69
   go_wp2_with (first | (go_at_call 107; refine UP.mono ?_; clear UP; rintro en V1 ⟨hk1, rfl⟩))
   go_ret
   exact ⟨HK.out.trans hk1, rfl⟩
  | ok lr =>
   obtain ⟨l, r⟩ := lr
   rw [show uptW O E.L E.n O.sEnd ({ s with p := s.p.plus 1 } : St).p = .ok (l, r) from hu] at UP
   dsimp only
   have SR : Hid (∀ (V : World) (a : Option Addr) (Rw : List Row) (k : Nat), Mt V a Rw -> Rw.length <= k -> k <= maxLen -> Rw.map (·.t) = l -> Calls Tryz.prog 109 #[.slice a Rw.length k] V fun e w' => (∃ q k, e = .returned (.slice q (O.sRead l).length k) /\ Is w' q (O.sRead l)) /\ (O.sRead l).length <= 1000000 /\ Below V.heap.size V w') := fun V a Rw k hm hl hx he => by
    have := LW.q.sRead a Rw k V (few_of hf hu he hB) hl hx hm
    rw [he] at this
    exact this
   have HK : Hid _ := kw2.k
   have HB2 : Hid _ := bh2
   rw [<- hV0] at UP HK HB2
   obtain ⟨RR, hRR⟩ : ∃ RR, scaW O { s with p := r } x (O.sRead l) 2 = RR := ⟨_, rfl⟩
   rw [hRR]
   have HRR : Hid (scaW O { s with p := r } x (O.sRead l) 2 = RR) := hRR
   clear h hwl kw1 kw2 bh bh2 hV0 hu hRR
   go_enter Tryz.func69, Tryz.ntmps69
   go_wp2_with (first | (go_at_call 107; refine UP.mono ?_; clear UP; rintro en V1 ⟨hk1, a1, Rw, ka, rfl, hm, hl1, hl2, he, hw1⟩; have DC := SR.out V1 a1 Rw ka hm hl1 hl2 he; have HW1 : Hid _ := hw1; have HK1 : Hid _ := HK.out.trans hk1; have HB1 : Hid (Bh V1 w.heap.size x) := Bh.kee HB2.out hk1; clear hw1 hk1 hm hl1 hl2 he SR) | (go_at_call 109; refine DC.mono ?_; clear DC; rintro en V2 ⟨⟨q, kq, rfl, hIq⟩, hlen, hB2'⟩; have SC := SCL.out V2 r q (O.sRead l) kq 2 (HW1.out.on hB2') hlen hIq; rw [HRR.out] at SC; have b2 := Bh.on HB1.out hB2'; have y0 := b2.cell 0; have y1 := b2.cell 1; have y2 := b2.cell 2; have y3 := b2.cell 3; simp at y0 y1 y2 y3; have HK2 : Hid _ := HK1.out.trans (Kee.of hB2'); clear b2 hIq) | (go_at_call 110; refine SC.mono ?_; clear SC; rintro en V3 ⟨⟨v3, rfl⟩, hk3, hw3⟩))
   go_ret
   exact ⟨HK2.out.trans hk3, rfl, hw3⟩
end
end Go.Proofs.YtipbhdhiklmieaaGreatDoor
namespace Go.Proofs.YtipbhdhiklmieaaGreatDoor
open Go.RowKit Go.Shelf
open P8 (Row Mt wpListIn_append_run)
attribute [local go_sem] Oper.semAt_some
theorem opIn_append_run2 {F : Fence} {n : Nat} {P : Program} {w w' : World} {o : Oper} {a : Act} {Q : Exit -> Act -> World -> Prop} {K : Act -> World -> Prop} (s x : Operand) (t t2 : TypeId)
  (ho : o.op = .call { callee := .builtin .append, args := #[s, x], argTypes := #[t, t2] }) {u y v : Value} (hs : a.eval s = u) (hx : a.eval x = y)
  (hrun : (Builtin.append_ #[t, t2] o.type #[u, y]).run P w = .ok v w') (h : K (a.put o.dst v) w') : Oper.wpIn F n P o a w K Q := by
 unfold Oper.wpIn
 refine ⟨?_, ?_⟩
 ·simp [Oper.about, ho, resolve, Target.leads, Sem.run_pure]
 ·rw [Oper.semAt_plain F _ _ (by rw [ho]; intro c hc'; cases hc')]
  simp [execOp, ho, resolve, invoke, builtin, hs, hx, hrun, Result.andThen]
  exact h
def isT : Value -> Bool
 | .bool b => b
 | _ => false
structure Pt (w wr : World) (wb : Nat) (E : Env) (s : St) (ov tv : Value) (x : Hs) (pp : Pl) (qi qk : Int) (b : Nat) (a : Option Addr) (k : Nat) (Rw : List Row) : Prop where
 ke : Kee wb w wr
 wk : Wk wr wb E { s with p := pp } ov tv
 bh : Bh wr w.heap.size x
 bx : Bx wr b qi qk
 lb : w.heap.size < b
 ow : OwnR wr w.heap.size (.slice a Rw.length k) Rw
 rw : RwOk wb w Rw
section
variable {w V V' : World} {wb : Nat} {E : Env} {s : St} {ov tv : Value} {x : Hs} {pp : Pl} {qi qk : Int} {b : Nat} {a : Option Addr} {k : Nat} {Rw : List Row} {O : Orc}
theorem Pt.on (h : Pt w V wb E s ov tv x pp qi qk b a k Rw) (hb : Below V.heap.size V V') : Pt w V' wb E s ov tv x pp qi qk b a k Rw :=
 ⟨h.ke.trans (Kee.of hb), h.wk.on hb, h.bh.on hb, h.bx.on hb, h.lb, row_on h.ow hb, h.rw⟩
theorem Pt.sz (h : Pt w V wb E s ov tv x pp qi qk b a k Rw) : w.heap.size <= V.heap.size := Nat.le_of_lt h.bh.lt
theorem Pt.grow {a' : Option Addr} {k' : Nat} {Rw' : List Row} (h0 : Wk w wb E s ov tv) (h : Pt w V wb E s ov tv x pp qi qk b a k Rw) (hg : V.grownBy V' (Value.slice a Rw.length k).ownBlock) (ho : OwnR V' w.heap.size (.slice a' Rw'.length k') Rw') (hr : RwOk wb w Rw') : Pt w V' wb E s ov tv x pp qi qk b a' k' Rw' := by
 have hsz := h.sz
 have hlow : ∀ g, (Value.slice a Rw.length k).ownBlock = some g -> w.heap.size <= g /\ ∃ cur, V.heap[g]? = some (.cells cur 41 (0, 0)) := fun g e => by
  obtain ⟨h1, cur, h2⟩ := row_type h.ow e
  exact ⟨h1, cur, h2⟩
 have hb : Below w.heap.size V V' := ⟨hg.os, hg.tape, hg.output, hg.size, fun j hj => hg.block j (by omega) (fun e => by have := (hlow j e.symm).1; omega)⟩
 refine ⟨h.ke.low hb, h0.same h.wk hb, (hg.block _ h.bh.lt (fun e => ?_)).trans h.bh, (hg.block _ h.bx.lt (fun e => ?_)).trans h.bx, h.lb, ho, hr⟩
 ·obtain ⟨-, cur, hc⟩ := hlow _ e.symm
  rw [show V.heap[w.heap.size]? = _ from h.bh] at hc
  cases hc
 ·obtain ⟨-, cur, hc⟩ := hlow _ e.symm
  rw [show V.heap[b]? = _ from h.bx] at hc
  cases hc
theorem Pt.setP (h0 : Wk w wb E s ov tv) (h : Pt w V wb E s ov tv x pp qi qk b a k Rw) (q : Pl) : Pt w ((V.setCell ⟨wb, 4, none⟩ (.int .i64 (q.i : Nat))).setCell ⟨wb, 5, none⟩ (.int .i64 (q.k : Nat))) wb E s ov tv x q qi qk b a k Rw := by
 have hwl := h0.lt
 refine ⟨h.ke.trans (h.wk.keeP q), h.wk.setP q, h.bh.kee (h.wk.keeP q), h.bx.kee (h.wk.keeP q), h.lb, row_same h.ow fun g hg => ?_, h.rw⟩
 have := (row_type h.ow hg).1
 rw [Below.heap_setCell _ _ _ _ (show g ≠ wb by omega), Below.heap_setCell _ _ _ _ (show g ≠ wb by omega)]
theorem Pt.box (h : Pt w V wb E s ov tv x pp qi qk b a k Rw) (i j : Int) : Pt w (V.alloc (.cells #[.int .i64 i, .int .i64 j] 60)) wb E s ov tv x pp i j V.heap.size a k Rw := by
 have h1 := h.on (below_alloc V (.cells #[.int .i64 i, .int .i64 j] 60))
 exact ⟨h1.ke, h1.wk, h1.bh, World.alloc_heap_new V _, by have := h.lb; have := h.bx.lt; omega, h1.ow, h1.rw⟩
theorem Pt.put (h0 : Wk w wb E s ov tv) (h : Pt w V wb E s ov tv x pp qi qk b a k Rw) (i j : Int) : Pt w ((V.setCell ⟨b, 0, none⟩ (.int .i64 i)).setCell ⟨b, 1, none⟩ (.int .i64 j)) wb E s ov tv x pp i j b a k Rw := by
 have hlb := h.lb
 have hb : Below w.heap.size V ((V.setCell ⟨b, 0, none⟩ (.int .i64 i)).setCell ⟨b, 1, none⟩ (.int .i64 j)) := (((Below.refl w.heap.size V).setCell (p := ⟨b, 0, none⟩) (Nat.le_of_lt hlb) _).setCell (p := ⟨b, 1, none⟩) (Nat.le_of_lt hlb) _)
 refine ⟨h.ke.low hb, h0.same h.wk hb, (h.bh.other _ (by omega)).other _ (by omega), h.bx.put i j, hlb, row_same h.ow fun g hg => ?_, h.rw⟩
 obtain ⟨-, cur, hc⟩ := row_type h.ow hg
 have hne : g ≠ b := fun e => by rw [e, show V.heap[b]? = _ from h.bx] at hc; cases hc
 rw [Below.heap_setCell _ _ _ _ hne, Below.heap_setCell _ _ _ _ hne]
theorem Pt.cells (h : Pt w V wb E s ov tv x pp qi qk b a k Rw) : V.cell? ⟨b, 0, none⟩ = some (.int .i64 qi) /\ V.cell? ⟨b, 1, none⟩ = some (.int .i64 qk) /\ V.cell? ⟨wb, 4, none⟩ = some (.int .i64 (pp.i : Nat)) /\ V.cell? ⟨wb, 5, none⟩ = some (.int .i64 (pp.k : Nat)) /\ V.frozen? ⟨wb, 4, none⟩ = false /\ V.frozen? ⟨wb, 5, none⟩ = false /\ V.frozen? ⟨b, 0, none⟩ = false /\ V.frozen? ⟨b, 1, none⟩ = false := by
 have y0 := h.bx.cell 0
 have y1 := h.bx.cell 1
 have c4 := h.wk.cell 4
 have c5 := h.wk.cell 5
 simp at y0 y1 c4 c5
 exact ⟨y0, y1, c4, c5, h.wk.frozen 4, h.wk.frozen 5, h.bx.frozen 0, h.bx.frozen 1⟩
def Pli (O : Orc) (w wr : World) (wb : Nat) (E : Env) (s : St) (ov tv : Value) (x : Hs) (wf : Bool) (RES : List (List Int) × Pl) (a : Option Addr) (k : Nat) (Rw : List Row) (b : Nat) (st : Bool) : Prop :=
 ∃ pp qi qk, Pt w wr wb E s ov tv x pp qi qk b a k Rw /\ Okp E pp /\ Rw.length <= pp.i + 1 /\ (st = false -> RES = (Rw.map (·.t), pp)) /\
  (st = true -> ∃ q f, qi = (q.i : Nat) /\ qk = (q.k : Nat) /\ Okp E q /\ (Rw = [] \/ pp.i < q.i) /\ plnF O E.L E.n wf f pp q (Rw.map (·.t)) = RES /\ E.M.length + 1 <= f + q.i)
end
section
variable {w : World} {wb : Nat} {E : Env} {s : St} {ov tv : Value} {O : Orc} {Tb : World -> Prop}
theorem plainText_any (LW : Low O Tb) (h : Wk w wb E s ov tv) (hs : Sml s) (hf : Fine E) (hp : Okp E s.p) (x : Hs) (wf : Bool) (hB : ∀ p, (rst E.L p).length <= 1300) :
  Calls Tryz.prog 72 #[(.pointer (some ⟨wb, 0, none⟩)), x.v, .bool wf] w fun en w' => (∃ v, en = .returned v) /\ Kee wb w w' /\ ∃ ov' tv', Wk w' wb E (plnW O E.L E.n s x wf) ov' tv' := by
 have LP := LW.p
 obtain ⟨RES, hRES⟩ : ∃ RES, plnF O E.L E.n wf (E.L.length + 1) s.p s.p [] = RES := ⟨_, rfl⟩
 have HFEW : Hid (RES.1.length <= 600 /\ ∀ t ∈ RES.1, t.length <= 1300) := by
  have hpi : s.p.i < E.L.length := by obtain ⟨z, hz, -⟩ := hp.okL; exact (List.getElem?_eq_some_iff.1 hz).1
  have := plnF_list (O := O) (n := E.n) (wf := wf) hB (E.L.length + 1) s.p s.p [] hp.okL (Nat.zero_le _) (.inl rfl) (fun t ht => by cases ht) hpi
  rw [hRES] at this
  have h2 := hf.l2
  have h3 := E.len
  exact ⟨by omega, this.2⟩
 have hpw : plnW O E.L E.n s x wf = scaW O { s with p := RES.2 } x (O.fold RES.1) 1 := by unfold plnW; rw [hRES]
 rw [hpw]
 clear hpw
 have k1 := below_alloc w (.cells #[.string x.an, .string x.tg, .int .i64 (x.bi : Nat), .int .i64 (x.bk : Nat)] 125)
 have bh := Bh.new w x
 have hw1 := h.on k1
 have c4 := hw1.cell 4
 have c5 := hw1.cell 5
 simp at c4 c5
 have k2 := below_alloc (w.alloc (.cells #[.string x.an, .string x.tg, .int .i64 (x.bi : Nat), .int .i64 (x.bk : Nat)] 125)) (.cells #[.int .i64 (s.p.i : Nat), .int .i64 (s.p.k : Nat)] 60)
 have HP00 : Hid (Pt w ((w.alloc (.cells #[.string x.an, .string x.tg, .int .i64 (x.bi : Nat), .int .i64 (x.bk : Nat)] 125)).alloc (.cells #[.int .i64 (s.p.i : Nat), .int .i64 (s.p.k : Nat)] 60)) wb E s ov tv x s.p (s.p.i : Nat) (s.p.k : Nat) (w.heap.size + 1) none 0 []) := by
  refine ⟨(Kee.of k1).trans (Kee.of k2), hw1.on k2, bh.on k2, ?_, by omega, World.ownsRow_nil _ _ _ _, fun r hr => by cases hr⟩
  have := World.alloc_heap_new (w.alloc (.cells #[.string x.an, .string x.tg, .int .i64 (x.bi : Nat), .int .i64 (x.bk : Nat)] 125)) (.cells #[.int .i64 (s.p.i : Nat), .int .i64 (s.p.k : Nat)] 60)
  rw [World.size_alloc] at this
  exact this
 have HI0 : Hid (Pli O w ((w.alloc (.cells #[.string x.an, .string x.tg, .int .i64 (x.bi : Nat), .int .i64 (x.bk : Nat)] 125)).alloc (.cells #[.int .i64 (s.p.i : Nat), .int .i64 (s.p.k : Nat)] 60)) wb E s ov tv x wf RES none 0 [] (w.heap.size + 1) true) :=
  ⟨s.p, _, _, HP00.out, hp, Nat.zero_le _, fun e => (by cases e), fun _ => ⟨s.p, E.L.length + 1, rfl, rfl, hp, .inl rfl, hRES, by have := E.len; omega⟩⟩
 have SCL : Hid (∀ (V : World) (q : Option Addr) (t : List Int) (k : Nat), Wk V wb E { s with p := RES.2 } ov tv -> t.length <= 1000000 -> Is V q t -> Calls Tryz.prog 110 #[(.pointer (some ⟨wb, 0, none⟩)), x.v, .slice q t.length k, .int .i64 1] V fun en w' => (∃ v, en = .returned v) /\ Kee wb V w' /\ ∃ ov' tv', Wk w' wb E (scaW O { s with p := RES.2 } x t 1) ov' tv') := fun V q t k hV hl hI => scalar_any LW.t hV (hs.at _) x q t k 1 hl hI
 have hwl := h.lt
 refine (callsIn_wide (n := 9)).1 ?_
 refine callsIn_of_wp Tryz.func72 rfl trivial ?_ rfl
 simp only [Tryz.ntmps72, frm, Nat.reduceAdd, Nat.reduceSub]
 clear hRES k1 k2 bh hw1 HP00
 gi_wp2
 clear c4 c5
 gi_loopw [6, 7, 8] (fun v6 p7 m8 wr => ∃ (a : Option Addr) (k : Nat) (Rw : List Row) (b : Nat) (st : Bool), v6 = .slice a Rw.length k /\ p7 = .pointer (some ⟨b, 0, none⟩) /\ m8 = .bool st /\ Hid (Pli O w wr wb E s ov tv x wf RES a k Rw b st)) (fun _ p7 m8 wr => if isT m8 = true then E.M.length + 1 - bxI wr p7 + 1 else 0)
 case atStart => exact ⟨none, 0, [], w.heap.size + 1, true, rfl, rfl, rfl, HI0.out⟩
 case round =>
  obtain ⟨a, k, Rw, b, st, rfl, rfl, rfl, HI⟩ := hrel
  clear HI0
  obtain ⟨pp, qi, qk, hpt, hppo, hrl, hst0, hst1⟩ := HI.out
  clear HI
  cases st with
  | false =>
   have hres := hst0 rfl
   clear hst0 hst1
   have HP : Hid (Pt w wr wb E s ov tv x pp qi qk b a k Rw) := hpt
   have hmt := hpt.rw.on (hpt.ke.below (Nat.le_of_lt hwl)) |>.mt hpt.ow
   have hlen : Rw.length <= 600 /\ ∀ r ∈ Rw, r.t.length <= 1300 := by
    have := HFEW.out
    rw [hres] at this
    exact ⟨by have := this.1; simpa using this, fun r hr => this.2 r.t (List.mem_map_of_mem hr)⟩
   have FC := fun m => (callsIn_wide (n := m)).2 (LP.fold a Rw k wr.drew hlen hmt.2.2.1 hmt.2.2.2 (hmt.1.on ((Below.refl _ wr).drew)))
   have y0 := hpt.bh.cell 0
   have y1 := hpt.bh.cell 1
   have y2 := hpt.bh.cell 2
   have y3 := hpt.bh.cell 3
   simp at y0 y1 y2 y3
   subst hres
   dsimp only at SCL |-
   clear hpt hmt hlen HFEW h
   gi_wp2
   refine region_pickN (Sw wr w.heap.size) (by kernel_rfl) ?_
   show Any _ _ _ _ _ _ 5 _ ⟨#[_,_,_,_,_,_,_,_,_,_,_,_,_,_,_,_,_,_,_,_,_,_,_,_,_,_,_,_,_,_,_,_,_,_,_,_,_,_,_,_,_,_,_,_,_,_,_,_,_,_,_,_,_,_,_,_,_,_,_,_], []⟩ wr.drew
   refine .tp 0 (.pointer (some ⟨wb, 0, none⟩)) (Sw.drew wr w.heap.size) ?_
   refine .tl 1 (.agg #[.string x.an, .string x.tg, .int .i64 (x.bi : Nat), .int .i64 (x.bk : Nat)]) rfl (fun w hw => by have a0 := hw.cell y0; have a1 := hw.cell y1; have a2 := hw.cell y2; have a3 := hw.cell y3; go_simp) (Sw.drew wr w.heap.size) ?_
   refine .tp 2 (.slice a Rw.length k) (Sw.drew wr w.heap.size) ?_
   refine .on 3 rfl rfl fun K hK => ?_
   go_simp
   first | refine tr2 ?_ | refine tr1 ?_
   refine (FC _).mono ?_
   clear FC
   rintro en V1 ⟨⟨qf, kf, rfl, hIf⟩, hlf, hB1⟩
   have B1 := ((Below.refl _ wr).drew).trans (hB1.mono (Nat.le_refl _))
   have SC := fun m => (callsIn_wide (n := m)).2 (SCL.out V1 qf (O.fold (Rw.map (·.t))) kf (HP.out.wk.on B1) hlf hIf)
   refine hK _ _ (B1.block _ HP.out.bh.lt) ?_
   clear hK K
   show Any _ _ _ _ _ _ 1 _ ⟨#[_,_,_,_,_,_,_,_,_,_,_,_,_,_,_,_,_,_,_,_,_,_,_,_,_,_,_,_,_,_,_,_,_,_,_,_,_,_,_,_,_,_,_,_,_,_,_,_,_,_,_,_,_,_,_,_,_,_,_,_], []⟩ V1
   refine .on 4 rfl rfl fun K hK => ?_
   go_simp
   first | refine tr2 ?_ | refine tr1 ?_
   refine (SC _).mono ?_
   clear SC
   rintro en V2 ⟨⟨v2, rfl⟩, hk2, hw2⟩
   refine hK _ _ ((HP.out.bh.on B1).kee hk2 |>.trans (show _ = _ from HP.out.bh).symm) ?_
   clear hK K
   show Any _ _ _ _ _ _ 0 _ ⟨#[_,_,_,_,_,_,_,_,_,_,_,_,_,_,_,_,_,_,_,_,_,_,_,_,_,_,_,_,_,_,_,_,_,_,_,_,_,_,_,_,_,_,_,_,_,_,_,_,_,_,_,_,_,_,_,_,_,_,_,_], []⟩ V2
   refine Any.done (by kernel_rfl) ?_
   simp only [nrm]
   go_end0
   exact ⟨⟨_, rfl⟩, (HP.out.ke.trans (Kee.of B1)).trans hk2, hw2⟩
  | true =>
   obtain ⟨q, f, rfl, rfl, hqo, hord, hpl, hff⟩ := hst1 rfl
   clear hst0 hst1
   obtain ⟨mm, hmm⟩ : ∃ mm, O.pEnd wf (rst E.L q) = mm := ⟨_, rfl⟩
   have hmmle : mm <= (rst E.L q).length := by rw [<- hmm]; exact O.pEnd_le _ _
   have hq2 : Okp E (q.plus mm) := hqo.more hmmle
   have hqi : q.i < E.M.length := by obtain ⟨z, hz, -⟩ := hqo; exact (List.getElem?_eq_some_iff.1 hz).1
   have hl2 := hf.l2
   have hqk := hqo.lek hf
   have hrs := rest_small hf hqo
   have hmi : (mm : Int) <= 1300 := by omega
   obtain ⟨ff, rfl⟩ : ∃ ff, f = ff + 1 := ⟨f - 1, by omega⟩
   have HFF : Hid (E.M.length + 1 <= ff + 1 + q.i) := hff
   have HMM : Hid (bxI wr (.pointer (some ⟨b, 0, none⟩)) = q.i) := by show _ = _; rw [bxI_of hpt.bx]; simp
   rw [plnF, hmm] at hpl
   clear hff
   by_cases h0 : Rw.length = 0
   ·obtain rfl : Rw = [] := List.eq_nil_of_length_eq_zero h0
    simp only [List.map_nil, List.length_nil, if_true, List.nil_append] at hpl
    have HPL : Hid ((match furW O E.L E.n wf (q.plus mm) with | none => ([List.take mm (rst E.L q)], q.plus mm) | some q2 => plnF O E.L E.n wf ff (q.plus mm) q2 [List.take mm (rst E.L q)]) = RES) := hpl
    have HMP : Hid (([] : List Row).map (·.t) = []) := rfl
    have HLN : Hid (([] : List Row).length <= q.i) := Nat.zero_le _
    have hrl9 : ([] : List Row).length + 1 <= 1073741824 := by decide
    clear hpl h0 hrl hord
    have RS := fun m => (callsIn_wide (n := m)).2 (rest_any hpt.wk hf hqo)
    obtain ⟨y0, y1, c4, c5, -⟩ := hpt.cells
    have HP0 : Hid _ := hpt
    clear hpt
    gi_wp2
    first | refine tr2 ?_ | refine tr1 ?_
    gi_at_call 54
    refine (RS _).mono ?_
    clear RS
    rintro en1 V1 ⟨rfl, hB1⟩
    have P1 := HP0.out.on hB1
    have PE := fun m => (callsIn_wide (n := m)).2 (LP.pEnd wf (rq E q) (rst E.L q) (rc E q) V1 (rest_small hf hqo) (rest_is P1.wk.lin hf hqo).1)
    rw [hmm] at PE
    have HP1 : Hid _ := P1
    clear HP0 hB1 P1 y0 y1 c4 c5
    gi_wp2
    first | refine tr2 ?_ | refine tr1 ?_
    gi_at_call 117
    refine (PE _).mono ?_
    clear PE
    rintro en2 V2 ⟨rfl, hB2⟩
    have P2 := HP1.out.on hB2
    have RS2 := fun m => (callsIn_wide (n := m)).2 (rest_any P2.wk hf hqo)
    obtain ⟨y0, y1, c4, c5, -⟩ := P2.cells
    have HP2 : Hid _ := P2
    clear HP1 hB2 P2
    gi_wp2
    first | refine tr2 ?_ | refine tr1 ?_
    gi_at_call 54
    refine (RS2 _).mono ?_
    clear RS2
    rintro en3 V3 ⟨rfl, hB3⟩
    have P3 := HP2.out.on hB3
    obtain ⟨gr, cr, V4, hrun4, ho4, hg4, -⟩ := pushR P3.ow P3.sz hrl9 ⟨rq E q, (rst E.L q).take mm, rc E q⟩
    have P4' : Pt w V4 wb E s ov tv x pp (q.i : Nat) (q.k : Nat) b (some ⟨gr, 0, none⟩) cr (([] : List Row) ++ [⟨rq E q, (rst E.L q).take mm, rc E q⟩]) := by
     refine Pt.grow h (P3.on (below_alloc V3 _)) hg4 (by rw [show (([] : List Row) ++ [(⟨rq E q, (rst E.L q).take mm, rc E q⟩ : Row)]).length = ([] : List Row).length + 1 by simp]; exact ho4) (P3.rw.push ?_)
     have hri := rest_is h.lin hf hqo
     exact ⟨by rw [List.length_take]; have := hri.2.1; show min mm _ <= rc E q; omega, hri.2.2.1, hri.1.take mm, fun aa e h0 => hri.2.2.2.2 aa e (by rw [List.length_take] at h0; omega)⟩
    have e9 : min mm (rst E.L q).length = mm := by omega
    simp only [rwV, List.length_take, e9] at hrun4
    have HSL : Hid (∀ w2, (Instr.slice 41 (.slice (rq E q) (rst E.L q).length (rc E q)) none (some (.int .i64 (mm : Nat))) none).run Tryz.prog w2 = .ok (.slice (rq E q) mm (rc E q)) w2) := slice_to (rq E q) (rst E.L q).length (rc E q) mm (by have := (rest_is h.lin hf hqo).2.1; omega)
    have hsl := HSL.out
    obtain ⟨d0, d1, d4, d5, f4, f5, -⟩ := P4'.cells
    have PLU := fun m V => (callsIn_wide (n := m)).2 (plus_any q mm V (by omega))
    simp only [Pl.plus] at PLU
    have HP4 : Hid _ := P4'
    clear HP2 hB3 P3 ho4 hg4 y0 y1 c4 c5 P4' e9
    gi_wp2_with (first | (gi_at_builtin; refine wpListIn_append_run rfl _ _ 73 rfl rfl rfl hrun4 ?_; clear hrun4))
    first | refine tr2 ?_ | refine tr1 ?_
    gi_at_call 36
    refine (PLU _ _).mono ?_
    clear PLU hsl HSL
    rintro en5 V5 ⟨rfl, hB5⟩
    have P5 := HP4.out.on hB5
    clear d0 d1 d4 d5 f4 f5
    obtain ⟨d0, d1, d4, d5, f4, f5, -⟩ := P5.cells
    have P6 := P5.setP h (q.plus mm)
    obtain ⟨u0, u1, u4, u5, -⟩ := P6.cells
    have P7 := P6.box (q.i : Nat) (q.k : Nat)
    have hsz6 : ((V5.setCell ⟨wb, 4, none⟩ (.int .i64 ((q.plus mm).i : Nat))).setCell ⟨wb, 5, none⟩ (.int .i64 ((q.plus mm).k : Nat))).heap.size = V5.heap.size := by simp [World.setCell]
    rw [hsz6] at P7
    simp only [Pl.plus] at P6 P7 u4 u5 u0 u1
    clear hsz6
    obtain ⟨t0, t1, -, -, -, -, f6, f7⟩ := P7.cells
    have FU := fun m => (callsIn_wide (n := m)).2 (further_any LW.c LW.l LP P7.wk hf hq2 wf)
    have HP7 : Hid _ := P7
    clear HP4 hB5 P5 P6 P7
    gi_wp2
    first | refine tr2 ?_ | refine tr1 ?_
    gi_at_call 116
    refine (FU _).mono ?_
    clear FU d0 d1 d4 d5 f4 f5 u0 u1 u4 u5 t0 t1 f6 f7
    rintro en8 V8 ⟨⟨fi, fk, fst, rfl, hfu⟩, hB8⟩
    change furOk (furW O E.L E.n wf (q.plus mm)) fi fk fst at hfu
    have P8 := HP7.out.on hB8
    obtain ⟨t0, t1, -, -, -, -, f6, f7⟩ := P8.cells
    have P9 := P8.put h fi fk
    have HF : Hid (Pli O w ((V8.setCell ⟨(V5.heap.size), 0, none⟩ (.int .i64 fi)).setCell ⟨(V5.heap.size), 1, none⟩ (.int .i64 fk)) wb E s ov tv x wf RES (some ⟨gr, 0, none⟩) cr (([] : List Row) ++ [⟨rq E q, (rst E.L q).take mm, rc E q⟩]) (V5.heap.size) fst /\ (fst = true -> q.i < fi.toNat /\ fi.toNat < E.M.length) /\ Bx ((V8.setCell ⟨(V5.heap.size), 0, none⟩ (.int .i64 fi)).setCell ⟨(V5.heap.size), 1, none⟩ (.int .i64 fk)) (V5.heap.size) fi fk) := by
     refine ⟨⟨q.plus mm, fi, fk, P9, hq2, by show (([] : List Row) ++ [_]).length <= q.i + 1; rw [List.length_append]; exact Nat.succ_le_succ HLN.out, fun e => ?_, fun e => ?_⟩, fun e => ?_, P9.bx⟩
     ·subst e
      have hn : furW O E.L E.n wf (q.plus mm) = none := by
       cases hx : furW O E.L E.n wf (q.plus mm) with
       | none => rfl
       | some q2 => rw [hx] at hfu; exact absurd hfu.2.2 (by decide)
      have := HPL.out
      rw [hn] at this
      rw [<- this, List.map_append, HMP.out]
      rfl
     ·subst e
      cases hx : furW O E.L E.n wf (q.plus mm) with
      | none => rw [hx] at hfu; exact absurd (show true = false from hfu) (by decide)
      | some q2 =>
       rw [hx] at hfu
       obtain ⟨rfl, rfl, -⟩ := hfu
       have hl2 := furW_line hx
       have := HPL.out
       rw [hx] at this
       refine ⟨q2, ff, rfl, rfl, (furF_goes _ _ _ hq2.okL hx).1.okp, .inr hl2, ?_, by have h9 : q.i < q2.i := hl2; have := HFF.out; omega⟩
       rw [<- this, List.map_append, HMP.out]
       rfl
     ·subst e
      cases hx : furW O E.L E.n wf (q.plus mm) with
      | none => rw [hx] at hfu; exact absurd (show true = false from hfu) (by decide)
      | some q2 =>
       rw [hx] at hfu
       obtain ⟨rfl, rfl, -⟩ := hfu
       have hl2' := furW_line hx
       have hl2 : q.i < q2.i := hl2'
       obtain ⟨z, hz, -⟩ := (furF_goes _ _ _ hq2.okL hx).1.okp
       have := (List.getElem?_eq_some_iff.1 hz).1
       exact ⟨by simpa using hl2, by simpa using this⟩
    clear HP7 hB8 P8 P9 hfu
    gi_wp2
    go_roundw
    case rel => exact ⟨_, _, _, _, _, by simp, rfl, rfl, HF.out.1⟩
    case measure =>
     obtain ⟨-, h8, h9⟩ := HF.out
     have m1 := bxI_of h9
     have m2 := HMM.out
     cases fst with
     | false => simp [isT]
     | true =>
      have := h8 rfl
      simp only [isT, if_true] at m1 m2 |-
      rw [m1, m2]
      omega
   ·have hlt : pp.i < q.i := by
     rcases hord with rfl | hord
     ·exact absurd rfl h0
     ·exact hord
    rw [if_neg (by rw [List.length_map]; exact h0)] at hpl
    obtain ⟨zz, hzz⟩ : ∃ zz, q.i - pp.i - 1 = zz := ⟨_, rfl⟩
    rw [hzz] at hpl
    obtain ⟨gz, cz, wz, hrun, hoz, hgz, -⟩ := pushZ (w := wr.drew) (row_on hpt.ow ((Below.refl _ wr).drew)) (by omega) zz hpt.sz (by omega)
    have ptz : Pt w wz wb E s ov tv x pp (q.i : Nat) (q.k : Nat) b (some ⟨gz, 0, none⟩) cz (Rw ++ List.replicate zz nilR) := by
     refine Pt.grow h (hpt.on ((Below.refl _ wr).drew)) hgz (by rw [show (Rw ++ List.replicate zz nilR).length = Rw.length + zz by simp]; exact hoz) (fun r hr => ?_)
     rcases List.mem_append.1 hr with hr | hr
     ·exact hpt.rw r hr
     ·rw [List.eq_of_mem_replicate hr]
      exact ⟨Nat.le_refl _, Nat.zero_le _, .inl rfl, fun aa e => by cases e⟩
    have HPL : Hid ((match furW O E.L E.n wf (q.plus mm) with | none => (Rw.map (·.t) ++ List.replicate zz [] ++ [List.take mm (rst E.L q)], q.plus mm) | some q2 => plnF O E.L E.n wf ff (q.plus mm) q2 (Rw.map (·.t) ++ List.replicate zz [] ++ [List.take mm (rst E.L q)])) = RES) := hpl
    have HMP : Hid ((Rw ++ List.replicate zz nilR).map (·.t) = Rw.map (·.t) ++ List.replicate zz []) := by show _ = _; simp [nilR]
    have HLN : Hid ((Rw ++ List.replicate zz nilR).length <= q.i) := by show _ <= _; simp; omega
    have hlen2 : (Rw ++ List.replicate zz nilR).length = Rw.length + zz := by simp
    obtain ⟨y0, y1, c4, c5, -⟩ := hpt.cells
    have HW1 : Hid (IntKind.i64.wrap ((q.i : Int) - (pp.i : Int)) = (q.i : Int) - (pp.i : Int)) := wrapS (by omega) (by omega)
    have HW2 : Hid (IntKind.i64.wrap ((q.i : Int) - (pp.i : Int) - 1) = ((zz : Nat) : Int)) := by show _ = _; rw [wrapS (by omega) (by omega)]; omega
    have hlI : (0 : Int) < (Rw.length : Int) := by omega
    have hlJ : (Rw.length : Int) <= 601 := by omega
    have h0' : ¬ (Rw.length : Int) = 0 := by omega
    have HRL : Hid (Rw.length + zz + 1 <= 1073741824) := by show _ <= _; omega
    have T0 : Tw wr wb b wr.drew := ⟨rfl, rfl⟩
    have hown : ∀ g, (Value.slice a Rw.length k).ownBlock = some g -> wb ≠ g /\ b ≠ g := fun g e => by
     obtain ⟨h8, cur, h9⟩ := row_type hpt.ow e
     exact ⟨by omega, fun e2 => by rw [<- e2, show wr.heap[b]? = _ from hpt.bx] at h9; cases h9⟩
    have TZ : Tw wr wb b wz := ⟨hgz.block wb (by have := hpt.wk.lt; exact this) (fun e => (hown wb e.symm).1 rfl), hgz.block b hpt.bx.lt (fun e => (hown b e.symm).2 rfl)⟩
    clear hpl hpt h0 hrl hord hlt hzz hoz hgz hown
    gi_wp2
    refine region_pickN (Tw wr wb b) (by kernel_rfl) ?_
    show Any _ _ _ _ _ _ 12 _ ⟨#[_,_,_,_,_,_,_,_,_,_,_,_,_,_,_,_,_,_,_,_,_,_,_,_,_,_,_,_,_,_,_,_,_,_,_,_,_,_,_,_,_,_,_,_,_,_,_,_,_,_,_,_,_,_,_,_,_,_,_,_], []⟩ wr.drew
    refine .tp 0 (.slice a Rw.length k) T0 ?_
    refine .tp 1 (.pointer (some ⟨b, 0, none⟩)) T0 ?_
    refine .tl 2 (.int .i64 (q.i : Nat)) rfl (fun w hw => by have a1 := hw.box y0; go_simp) T0 ?_
    refine .tp 3 (.pointer (some ⟨wb, 0, none⟩)) T0 ?_
    refine .tp 4 (.pointer (some ⟨wb, 0, none⟩)) T0 ?_
    refine .tp 5 (.pointer (some ⟨wb, 4, none⟩)) T0 ?_
    show Any _ _ _ _ _ _ 6 _ ⟨#[_,_,_,_,_,_,_,_,_,_,_,_,_,_,_,_,_,_,_,_,_,_,_,_,_,_,_,_,_,_,_,_,_,_,_,_,_,_,_,_,_,_,_,_,_,_,_,_,_,_,_,_,_,_,_,_,_,_,_,_], []⟩ _
    refine .tp 6 (.pointer (some ⟨wb, 4, none⟩)) T0 ?_
    refine .tl 7 (.int .i64 (pp.i : Nat)) rfl (fun w hw => by have a1 := hw.cell c4; go_simp) T0 ?_
    refine .tl 8 (.int .i64 ((q.i : Int) - (pp.i : Int))) rfl (fun w _ => by have hw1 := HW1.out; go_simp) T0 ?_
    refine .tl 9 (.int .i64 ((zz : Nat) : Int)) rfl (fun w _ => by have hw2 := HW2.out; go_simp) T0 ?_
    refine .on 10 rfl rfl fun K hK => ?_
    refine opIn_append_run2 _ _ 73 3 rfl rfl rfl hrun ?_
    refine hK _ _ TZ ?_
    clear hK K
    show Any _ _ _ _ _ _ 1 _ ⟨#[_,_,_,_,_,_,_,_,_,_,_,_,_,_,_,_,_,_,_,_,_,_,_,_,_,_,_,_,_,_,_,_,_,_,_,_,_,_,_,_,_,_,_,_,_,_,_,_,_,_,_,_,_,_,_,_,_,_,_,_], []⟩ wz
    refine .tp 11 (.slice (some ⟨gz, 0, none⟩) (Rw.length + zz) cz) TZ ?_
    refine Any.done (by kernel_rfl) ?_
    rename_i Kb hKb hcond
    refine hKb _ _ ?_
    clear hKb T0 TZ
    clear hrun y0 y1 c4 c5 HW1 HW2
    rw [<- hlen2]
    have hrl9 : (Rw ++ List.replicate zz nilR).length + 1 <= 1073741824 := by rw [hlen2]; exact HRL.out
    clear hcond hlI hlJ h0'
    obtain ⟨Rz, hRZ⟩ : ∃ Rz, Rw ++ List.replicate zz nilR = Rz := ⟨_, rfl⟩
    rw [hRZ] at ptz HMP HLN hrl9 |-
    clear hRZ hlen2 HRL
    have RS := fun m => (callsIn_wide (n := m)).2 (rest_any ptz.wk hf hqo)
    obtain ⟨y0, y1, c4, c5, -⟩ := ptz.cells
    have HP0 : Hid _ := ptz
    clear ptz
    gi_wp2
    first | refine tr2 ?_ | refine tr1 ?_
    gi_at_call 54
    refine (RS _).mono ?_
    clear RS
    rintro en1 V1 ⟨rfl, hB1⟩
    have P1 := HP0.out.on hB1
    have PE := fun m => (callsIn_wide (n := m)).2 (LP.pEnd wf (rq E q) (rst E.L q) (rc E q) V1 (rest_small hf hqo) (rest_is P1.wk.lin hf hqo).1)
    rw [hmm] at PE
    have HP1 : Hid _ := P1
    clear HP0 hB1 P1 y0 y1 c4 c5
    gi_wp2
    first | refine tr2 ?_ | refine tr1 ?_
    gi_at_call 117
    refine (PE _).mono ?_
    clear PE
    rintro en2 V2 ⟨rfl, hB2⟩
    have P2 := HP1.out.on hB2
    have RS2 := fun m => (callsIn_wide (n := m)).2 (rest_any P2.wk hf hqo)
    obtain ⟨y0, y1, c4, c5, -⟩ := P2.cells
    have HP2 : Hid _ := P2
    clear HP1 hB2 P2
    gi_wp2
    first | refine tr2 ?_ | refine tr1 ?_
    gi_at_call 54
    refine (RS2 _).mono ?_
    clear RS2
    rintro en3 V3 ⟨rfl, hB3⟩
    have P3 := HP2.out.on hB3
    obtain ⟨gr, cr, V4, hrun4, ho4, hg4, -⟩ := pushR P3.ow P3.sz hrl9 ⟨rq E q, (rst E.L q).take mm, rc E q⟩
    have P4' : Pt w V4 wb E s ov tv x pp (q.i : Nat) (q.k : Nat) b (some ⟨gr, 0, none⟩) cr (Rz ++ [⟨rq E q, (rst E.L q).take mm, rc E q⟩]) := by
     refine Pt.grow h (P3.on (below_alloc V3 _)) hg4 (by rw [show (Rz ++ [(⟨rq E q, (rst E.L q).take mm, rc E q⟩ : Row)]).length = Rz.length + 1 by simp]; exact ho4) (P3.rw.push ?_)
     have hri := rest_is h.lin hf hqo
     exact ⟨by rw [List.length_take]; have := hri.2.1; show min mm _ <= rc E q; omega, hri.2.2.1, hri.1.take mm, fun aa e h0 => hri.2.2.2.2 aa e (by rw [List.length_take] at h0; omega)⟩
    have e9 : min mm (rst E.L q).length = mm := by omega
    simp only [rwV, List.length_take, e9] at hrun4
    have HSL : Hid (∀ w2, (Instr.slice 41 (.slice (rq E q) (rst E.L q).length (rc E q)) none (some (.int .i64 (mm : Nat))) none).run Tryz.prog w2 = .ok (.slice (rq E q) mm (rc E q)) w2) := slice_to (rq E q) (rst E.L q).length (rc E q) mm (by have := (rest_is h.lin hf hqo).2.1; omega)
    have hsl := HSL.out
    obtain ⟨d0, d1, d4, d5, f4, f5, -⟩ := P4'.cells
    have PLU := fun m V => (callsIn_wide (n := m)).2 (plus_any q mm V (by omega))
    simp only [Pl.plus] at PLU
    have HP4 : Hid _ := P4'
    clear HP2 hB3 P3 ho4 hg4 y0 y1 c4 c5 P4' e9
    gi_wp2_with (first | (gi_at_builtin; refine wpListIn_append_run rfl _ _ 73 rfl rfl rfl hrun4 ?_; clear hrun4))
    first | refine tr2 ?_ | refine tr1 ?_
    gi_at_call 36
    refine (PLU _ _).mono ?_
    clear PLU hsl HSL
    rintro en5 V5 ⟨rfl, hB5⟩
    have P5 := HP4.out.on hB5
    clear d0 d1 d4 d5 f4 f5
    obtain ⟨d0, d1, d4, d5, f4, f5, -⟩ := P5.cells
    have P6 := P5.setP h (q.plus mm)
    obtain ⟨u0, u1, u4, u5, -⟩ := P6.cells
    have P7 := P6.box (q.i : Nat) (q.k : Nat)
    have hsz6 : ((V5.setCell ⟨wb, 4, none⟩ (.int .i64 ((q.plus mm).i : Nat))).setCell ⟨wb, 5, none⟩ (.int .i64 ((q.plus mm).k : Nat))).heap.size = V5.heap.size := by simp [World.setCell]
    rw [hsz6] at P7
    simp only [Pl.plus] at P6 P7 u4 u5 u0 u1
    clear hsz6
    obtain ⟨t0, t1, -, -, -, -, f6, f7⟩ := P7.cells
    have FU := fun m => (callsIn_wide (n := m)).2 (further_any LW.c LW.l LP P7.wk hf hq2 wf)
    have HP7 : Hid _ := P7
    clear HP4 hB5 P5 P6 P7
    gi_wp2
    first | refine tr2 ?_ | refine tr1 ?_
    gi_at_call 116
    refine (FU _).mono ?_
    clear FU d0 d1 d4 d5 f4 f5 u0 u1 u4 u5 t0 t1 f6 f7
    rintro en8 V8 ⟨⟨fi, fk, fst, rfl, hfu⟩, hB8⟩
    change furOk (furW O E.L E.n wf (q.plus mm)) fi fk fst at hfu
    have P8 := HP7.out.on hB8
    obtain ⟨t0, t1, -, -, -, -, f6, f7⟩ := P8.cells
    have P9 := P8.put h fi fk
    have HF : Hid (Pli O w ((V8.setCell ⟨(V5.heap.size), 0, none⟩ (.int .i64 fi)).setCell ⟨(V5.heap.size), 1, none⟩ (.int .i64 fk)) wb E s ov tv x wf RES (some ⟨gr, 0, none⟩) cr (Rz ++ [⟨rq E q, (rst E.L q).take mm, rc E q⟩]) (V5.heap.size) fst /\ (fst = true -> q.i < fi.toNat /\ fi.toNat < E.M.length) /\ Bx ((V8.setCell ⟨(V5.heap.size), 0, none⟩ (.int .i64 fi)).setCell ⟨(V5.heap.size), 1, none⟩ (.int .i64 fk)) (V5.heap.size) fi fk) := by
     refine ⟨⟨q.plus mm, fi, fk, P9, hq2, by show (Rz ++ [_]).length <= q.i + 1; rw [List.length_append]; exact Nat.succ_le_succ HLN.out, fun e => ?_, fun e => ?_⟩, fun e => ?_, P9.bx⟩
     ·subst e
      have hn : furW O E.L E.n wf (q.plus mm) = none := by
       cases hx : furW O E.L E.n wf (q.plus mm) with
       | none => rfl
       | some q2 => rw [hx] at hfu; exact absurd hfu.2.2 (by decide)
      have := HPL.out
      rw [hn] at this
      rw [<- this, List.map_append, HMP.out]
      rfl
     ·subst e
      cases hx : furW O E.L E.n wf (q.plus mm) with
      | none => rw [hx] at hfu; exact absurd (show true = false from hfu) (by decide)
      | some q2 =>
       rw [hx] at hfu
       obtain ⟨rfl, rfl, -⟩ := hfu
       have hl2 := furW_line hx
       have := HPL.out
       rw [hx] at this
       refine ⟨q2, ff, rfl, rfl, (furF_goes _ _ _ hq2.okL hx).1.okp, .inr hl2, ?_, by have h9 : q.i < q2.i := hl2; have := HFF.out; omega⟩
       rw [<- this, List.map_append, HMP.out]
       rfl
     ·subst e
      cases hx : furW O E.L E.n wf (q.plus mm) with
      | none => rw [hx] at hfu; exact absurd (show true = false from hfu) (by decide)
      | some q2 =>
       rw [hx] at hfu
       obtain ⟨rfl, rfl, -⟩ := hfu
       have hl2' := furW_line hx
       have hl2 : q.i < q2.i := hl2'
       obtain ⟨z, hz, -⟩ := (furF_goes _ _ _ hq2.okL hx).1.okp
       have := (List.getElem?_eq_some_iff.1 hz).1
       exact ⟨by simpa using hl2, by simpa using this⟩
    clear HP7 hB8 P8 P9 hfu
    gi_wp2
    go_roundw
    case rel => exact ⟨_, _, _, _, _, by simp, rfl, rfl, HF.out.1⟩
    case measure =>
     obtain ⟨-, h8, h9⟩ := HF.out
     have m1 := bxI_of h9
     have m2 := HMM.out
     cases fst with
     | false => simp [isT]
     | true =>
      have := h8 rfl
      simp only [isT, if_true] at m1 m2 |-
      rw [m1, m2]
      omega
end
end Go.Proofs.YtipbhdhiklmieaaGreatDoor
