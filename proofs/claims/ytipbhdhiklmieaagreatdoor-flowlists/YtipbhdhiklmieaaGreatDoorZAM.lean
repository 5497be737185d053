/- The walk: question. -/
import Derived.Test.YtipbhdhiklmieaaGreatDoorZAL
import Derived.Test.YtipbhdhiklmieaaGreatDoorZAJ
set_option linter.all false
set_option maxRecDepth 100000
set_option maxHeartbeats 8000000
namespace Go.Proofs.YtipbhdhiklmieaaGreatDoor
open Go.RowKit Go.Shelf
attribute [local go_sem] Oper.semAt_some
section
variable {w : World} {wb : Nat} {E : Env} {s : St} {ov tv : Value} {O : Orc} {Tb : World -> Prop} {l : Lv} {r : List Lv}
theorem told_push0 (h : Wk w wb E s ov tv) (hn : s.to.length <= 1073741824) (x : Ev) :
  ∃ g cap w1, (Builtin.append_ #[27, 27] 27 #[tv, .slice (some ⟨w.heap.size, 0, none⟩) 1 1]).run Tryz.prog (w.alloc (.cells x.c.toArray 50)) = .ok (.slice (some ⟨g, 0, none⟩) (s.to.length + 1) cap) w1 /\ w1.frozen? ⟨wb, 7, none⟩ = false /\ w1.cell? ⟨wb, 7, none⟩ = some tv /\
   Kee wb w (w1.setCell ⟨wb, 7, none⟩ (.slice (some ⟨g, 0, none⟩) (s.to.length + 1) cap)) /\ Wk (w1.setCell ⟨wb, 7, none⟩ (.slice (some ⟨g, 0, none⟩) (s.to.length + 1) cap)) wb E { s with to := s.to ++ [x] } ov (.slice (some ⟨g, 0, none⟩) (s.to.length + 1) cap) := by
 have hwl := h.lt
 obtain ⟨g, cap, w1, hr, ho, hg⟩ := pushE h.to (by omega) hn x
 have hov : ∀ g, tv.ownBlock = some g -> wb < g /\ g < w.heap.size /\ ∃ cur, w.heap[g]? = some (.cells cur 50 (0, 0)) := fun g e => by
  obtain ⟨a1, cur, a2⟩ := row_type h.to e
  exact ⟨a1, (Array.getElem?_eq_some_iff.1 a2).1, cur, a2⟩
 have hgn : ∀ b, b < w.heap.size -> some b ≠ tv.ownBlock -> w1.heap[b]? = w.heap[b]? := fun b hb hne => (hg.block b (by simp; omega) hne).trans (Below.heap_alloc w _ b hb)
 have hnw : some wb ≠ tv.ownBlock := fun e => by have := (hov wb e.symm).1; omega
 have hbl : w1.heap[wb]? = some (.cells #[.slice E.q E.M.length E.c, .int .i64 E.n, .int .i64 E.d, .bool E.b, .int .i64 (s.p.i : Nat), .int .i64 (s.p.k : Nat), ov, tv, .int .i64 (s.ta : Nat)] 67) := (hgn wb hwl hnw).trans h.blk
 have kk : Kee wb w w1 := (Kee.of (below_alloc w (.cells x.c.toArray 50))).trans (Kee.grown hg fun g e => by
  obtain ⟨a1, a2, cur, a3⟩ := hov g e
  exact ⟨by omega, cur, 50, (0, 0), (Below.heap_alloc _ _ _ a2).trans a3, .inr (.inr rfl)⟩)
 have hop : w1.ownsRow (wb + 1) 97 7 ov s.op.length (flL s.op.reverse) := row_same h.op fun g e => by
  obtain ⟨a1, cur, a2⟩ := row_type h.op e
  exact hgn g (Array.getElem?_eq_some_iff.1 a2).1 (fun e2 => by obtain ⟨-, -, cur2, a4⟩ := hov g e2.symm; rw [a2] at a4; cases a4)
 refine ⟨g, cap, w1, hr, by simp [World.frozen?, hbl], ?_, kk.trans (Kee.set hbl (.inl rfl) (Nat.le_refl _) _ _), ?_, ?_, wk_rows hop _ _, ?_⟩
 ·show (match w1.heap[wb]? with | some (.cells c _ _) => c[7]? | _ => none) = _
  rw [hbl]
  rfl
 ·simp only [World.setCell, Array.getElem?_modify, hbl, if_true, Option.map_some]
  rfl
 ·exact h.lin.on ((kk.below (Nat.le_of_lt hwl)).setCell (p := ⟨wb, 7, none⟩) (Nat.le_refl _) _)
 ·have := wk_rows ho 7 (.slice (some ⟨g, 0, none⟩) (s.to.length + 1) cap)
  rw [show (s.to ++ [x]).length = s.to.length + 1 by simp, flE_app, show flE [x] = x.c by simp [flE]]
  exact this
structure Kw (w V : World) (wb : Nat) (E : Env) (s : St) (ov tv : Value) : Prop where
 k : Kee wb w V
 w : Wk V wb E s ov tv
theorem Kw.on {V V' : World} (h : Kw w V wb E s ov tv) (hb : Below V.heap.size V V') : Kw w V' wb E s ov tv := ⟨h.k.trans (Kee.of hb), h.w.on hb⟩
theorem Kw.kee {V V' : World} {s' : St} {ov' tv' : Value} (h : Kw w V wb E s ov tv) (hk : Kee wb V V') (hw : Wk V' wb E s' ov' tv') : Kw w V' wb E s' ov' tv' := ⟨h.k.trans hk, hw⟩
theorem Kw.setK {V : World} (h : Kw w V wb E s ov tv) : Kw w (V.setCell ⟨wb, 5, none⟩ (.int .i64 ((s.p.k : Int) + 1))) wb E { s with p := s.p.plus 1 } ov tv := by
 have a := h.w.setK (s.p.k + 1)
 have b := h.w.kee 5 (.int .i64 ((s.p.k + 1 : Nat) : Int))
 rw [show ((s.p.k + 1 : Nat) : Int) = (s.p.k : Int) + 1 by omega] at a b
 exact ⟨h.k.trans b, a⟩
theorem Kw.cells {V : World} (h : Kw w V wb E s ov tv) : V.cell? ⟨wb, 4, none⟩ = some (.int .i64 (s.p.i : Nat)) /\ V.cell? ⟨wb, 5, none⟩ = some (.int .i64 (s.p.k : Nat)) /\ V.cell? ⟨wb, 7, none⟩ = some tv /\ V.cell? ⟨wb, 8, none⟩ = some (.int .i64 (s.ta : Nat)) /\ V.frozen? ⟨wb, 5, none⟩ = false := by
 have c4 := h.w.cell 4
 have c5 := h.w.cell 5
 have c7 := h.w.cell 7
 have c8 := h.w.cell 8
 simp at c4 c5 c7 c8
 exact ⟨c4, c5, c7, c8, h.w.frozen 5⟩
theorem Kw.setL {V : World} {l' : Lv} {g cap j : Nat} {x : Value} (h : Kw w V wb E s (.slice (some ⟨g, 0, none⟩) (r.length + 1) cap) tv) (hop : s.op = l :: r) (hj : j < 7) (hc : l.c.set j x = l'.c) :
  Kw w (V.setCell ⟨g, r.length * 7 + j, none⟩ x) wb E { s with op := l' :: r } (.slice (some ⟨g, 0, none⟩) (r.length + 1) cap) tv := by
 obtain ⟨h1, h2⟩ := h.w.setL hop hj hc
 exact ⟨h.k.trans h2, h1⟩
theorem question_any (LW : Low O Tb) (BG : Begs O Tb wb E) (h : Wk w wb E s ov tv) (hs : Smx s) (hf : Fine E) (hp : Okp E s.p) (h0 : 0 < (rst E.L s.p).length) (hop : s.op = l :: r) (ht : Tb w) (h1 : 0 < wb) :
  Calls Tryz.prog 121 #[(.pointer (some ⟨wb, 0, none⟩))] w fun en w' => Post wb E w (askW O E.L E.n E.d E.b s l) en w' := by
 obtain ⟨g, cap, rfl, -⟩ := h.top hop
 have TC := top_any (l := l) h (hs.sml.rl hop)
 have HQ0 : Hid (Kw w w wb E s (.slice (some ⟨g, 0, none⟩) (r.length + 1) cap) tv) := ⟨Kee.refl _ _, h⟩
 have hwl := h.lt
 have hp1 := hp.more (m := 1) (by omega)
 have hpk := hp.lek hf
 have hpk2 : (s.p.k : Int) + 1 <= 9223372036854775807 := by omega
 unfold askW
 by_cases h93 : l.cl = 93
 ·have TDP : Hid (∀ V, Kw w V wb E s (.slice (some ⟨g, 0, none⟩) (r.length + 1) cap) tv -> Calls Tryz.prog 111 #[(.pointer (some ⟨wb, 0, none⟩)), .int .i64 0] V fun en w' => en = .returned (.bool (deeW E.d s 0)) /\ Below V.heap.size V w') := fun V hV => tooDeep_any hV.w hf (by have := hs.op; omega) 0 (by decide)
  cases hd : deeW E.d s 0 with
  | true =>
   rw [hd] at TDP
   rw [if_pos ⟨h93, rfl⟩]
   clear h BG
   go_enter Tryz.func121, Tryz.ntmps121
   go_wp2_with (first | (go_at_call 73; refine TC.mono ?_; clear TC; rintro en V1 ⟨rfl, hB1⟩; have hq1 := HQ0.out.on hB1; obtain ⟨t0, t1, t2, t3, t4, t5, t6⟩ := hq1.w.tops hop; rw [h93] at t0; have DC := TDP.out _ hq1; have HQ1 : Hid _ := hq1; clear hq1) | (go_at_call 111; refine DC.mono ?_; clear DC; rintro en V2 ⟨rfl, hB2⟩; have hq2 := HQ1.out.on hB2; have HQ2 : Hid _ := hq2; clear hq2))
   go_ret
   exact ⟨HQ2.out.k, rfl⟩
  | false =>
   rw [hd] at TDP
   rw [if_neg (by rintro ⟨-, e⟩; cases e)]
   simp only [if_pos h93]
   have hto : s.to.length <= 1073741824 := by have := hs.to; omega
   have hPS : paiS { s with to := s.to ++ [evP] } 0 = { s with op := (⟨93, true, 2, 0, 0, 0, 0⟩ : Lv) :: ({ l with nx := 4 } :: r), to := (s.to ++ [evP]) } := by unfold paiS topS; simp only [hop]
   have hsp : Sml { s with to := s.to ++ [evP] } := ⟨by show (s.to ++ [evP]).length <= _; have := hs.to; simp; omega, by have := hs.op; show s.op.length <= _; omega, by have := hs.ta; show s.ta <= _; omega, fun y hy => by have := hs.la y hy; omega⟩
   have OPP : Hid (∀ (g1 cap1 : Nat) V, Kw w V wb E { s with to := s.to ++ [evP] } (.slice (some ⟨g, 0, none⟩) (r.length + 1) cap) (.slice (some ⟨g1, 0, none⟩) (s.to.length + 1) cap1) -> Calls Tryz.prog 123 #[(.pointer (some ⟨wb, 0, none⟩)), .int .i64 0] V fun en w' => (∃ v, en = .returned v) /\ Kee wb V w' /\ ∃ ov', Wk w' wb E (paiS { s with to := s.to ++ [evP] } 0) ov' (.slice (some ⟨g1, 0, none⟩) (s.to.length + 1) cap1)) := fun g1 cap1 V hV => openPair_any hV.w hsp (l := l) (r := r) hop 0
   simp only [hPS]
   have GO : Hid (∀ (g1 cap1 g2 cap2 : Nat) V, Kw w V wb E { s with p := s.p.plus 1, op := (⟨93, true, 2, 0, 0, 0, 0⟩ : Lv) :: ({ l with nx := 4 } :: r), to := (s.to ++ [evP]) } (.slice (some ⟨g2, 0, none⟩) ((r.length + 1) + 1) cap2) (.slice (some ⟨g1, 0, none⟩) (s.to.length + 1) cap1) -> Calls Tryz.prog 119 #[.pointer (some ⟨wb, 0, none⟩)] V fun en w' => Kee wb V w' /\ match gonW O E.L E.n (s.p.plus 1) with | .ok q' => en = .returned (.int .i64 0) /\ Wk w' wb E { s with p := q', op := (⟨93, true, 2, 0, 0, 0, 0⟩ : Lv) :: ({ l with nx := 4 } :: r), to := (s.to ++ [evP]) } (.slice (some ⟨g2, 0, none⟩) ((r.length + 1) + 1) cap2) (.slice (some ⟨g1, 0, none⟩) (s.to.length + 1) cap1) | .error c => en = .returned (.int .i64 c) /\ c ≠ 0) := fun g1 cap1 g2 cap2 V hV => goOn_any (s := { s with p := s.p.plus 1, op := (⟨93, true, 2, 0, 0, 0, 0⟩ : Lv) :: ({ l with nx := 4 } :: r), to := (s.to ++ [evP]) }) LW.c LW.l hV.w hf hp1
   cases hg : gonW O E.L E.n (s.p.plus 1) with
   | error c =>
    have h0 : c ≠ 0 := gonW_ne hg
    have e1 : (c == 0) = false := by rw [beq_eq_false_iff_ne]; exact h0
    have e2 : (c != 0) = true := by simp [h0]
    rw [hg] at GO
    dsimp only at GO |-
    clear h BG hg
    go_enter Tryz.func121, Tryz.ntmps121
    go_wp2_with (first | (go_at_call 73; refine TC.mono ?_; clear TC; rintro en V1 ⟨rfl, hB1⟩; have hq1 := HQ0.out.on hB1; obtain ⟨t0, t1, t2, t3, t4, t5, t6⟩ := hq1.w.tops hop; rw [h93] at t0; have DC := TDP.out _ hq1; have HQ1 : Hid _ := hq1; clear hq1) | (go_at_call 111; refine DC.mono ?_; clear DC; rintro en V2 ⟨rfl, hB2⟩; have hq2 := HQ1.out.on hB2; obtain ⟨w4, w5, w7, w8, w9⟩ := hq2.cells; obtain ⟨g1, cap1, W2, hr2, f2, c2, kk2, wk2⟩ := told_push0 hq2.w hto evP; simp only [Ev.c, evP] at hr2; have hq3 := hq2.kee kk2 wk2; have OC := OPP.out _ _ _ hq3; have HQ3 : Hid _ := hq3; clear hq2 hq3 kk2 wk2) | (at_builtin; refine wpList_append_run rfl _ _ 27 rfl rfl rfl hr2 ?_; clear hr2) | (go_at_call 123; refine OC.mono ?_; clear OC; rintro en V4 ⟨⟨v4, rfl⟩, hk4, ov4, hw4⟩; rw [hPS] at hw4; obtain ⟨g2, cap2, rfl, -⟩ := hw4.top rfl; have hq4 := HQ3.out.kee hk4 hw4; have hq5 := hq4.setK; obtain ⟨y4, y5, y7, y8, y9⟩ := hq4.cells; have GC := GO.out g1 cap1 g2 cap2 _ hq5; have HQ5 : Hid _ := hq5; clear hq4 hq5) | (go_at_call 119; refine GC.mono ?_; clear GC; rintro en V6 ⟨hk6, rfl, -⟩))
    go_ret
    exact ⟨HQ5.out.k.trans hk6, rfl⟩
   | ok q =>
    obtain ⟨r1, r2, r3⟩ := gonW_goes hp1.okL hg
    have hqo := r1.okp
    rw [hg] at GO
    dsimp only at GO |-
    have hS2 : (topS { s with p := q, op := (⟨93, true, 2, 0, 0, 0, 0⟩ : Lv) :: ({ l with nx := 4 } :: r), to := (s.to ++ [evP]) } fun l => { l with nx := 2 }) = { s with p := q, op := (⟨93, true, 2, 0, 0, 0, 0⟩ : Lv) :: ({ l with nx := 4 } :: r), to := (s.to ++ [evP]) } := rfl
    rw [hS2]
    have hss : Sml { s with p := q, op := (⟨93, true, 2, 0, 0, 0, 0⟩ : Lv) :: ({ l with nx := 4 } :: r), to := (s.to ++ [evP]) } := ⟨by show (s.to ++ [evP]).length <= _; have := hs.to; simp; omega, by have := hs.op; rw [hop] at this; simp at this |-; omega, by have := hs.ta; show s.ta <= _; omega, fun y hy => by
     rcases List.mem_cons.1 hy with rfl | hy
     ·exact Nat.zero_le _
     ·rcases List.mem_cons.1 hy with rfl | hy
      ·have := hs.la l (by rw [hop]; exact List.mem_cons_self); show l.ta <= _; omega
      ·have := hs.la y (by rw [hop]; exact List.mem_cons_of_mem _ hy); omega⟩
    have hrl2 : (r.length + 1) <= 1073741824 := by have := hs.op; rw [hop] at this; simp at this |-; omega
    have TP2 : Hid (∀ (g1 cap1 g2 cap2 : Nat) V, Kw w V wb E { s with p := q, op := (⟨93, true, 2, 0, 0, 0, 0⟩ : Lv) :: ({ l with nx := 4 } :: r), to := (s.to ++ [evP]) } (.slice (some ⟨g2, 0, none⟩) ((r.length + 1) + 1) cap2) (.slice (some ⟨g1, 0, none⟩) (s.to.length + 1) cap1) -> Calls Tryz.prog 73 #[.pointer (some ⟨wb, 6, none⟩)] V fun en w' => en = .returned (.pointer (some ⟨g2, (r.length + 1) * 7, none⟩)) /\ Below V.heap.size V w') := fun g1 cap1 g2 cap2 V hV => top_any (l := (⟨93, true, 2, 0, 0, 0, 0⟩ : Lv)) (r := ({ l with nx := 4 } :: r)) hV.w hrl2
    have HL : Hid (∀ (g1 cap1 g2 cap2 : Nat) V, Kw w V wb E { s with p := q, op := (⟨93, true, 2, 0, 0, 0, 0⟩ : Lv) :: ({ l with nx := 4 } :: r), to := (s.to ++ [evP]) } (.slice (some ⟨g2, 0, none⟩) ((r.length + 1) + 1) cap2) (.slice (some ⟨g1, 0, none⟩) (s.to.length + 1) cap1) -> Kw w (V.setCell ⟨g2, (r.length + 1) * 7 + 2, none⟩ (.int .u8 2)) wb E { s with p := q, op := (⟨93, true, 2, 0, 0, 0, 0⟩ : Lv) :: ({ l with nx := 4 } :: r), to := (s.to ++ [evP]) } (.slice (some ⟨g2, 0, none⟩) ((r.length + 1) + 1) cap2) (.slice (some ⟨g1, 0, none⟩) (s.to.length + 1) cap1)) := fun g1 cap1 g2 cap2 V hV => Kw.setL (r := ({ l with nx := 4 } :: r)) (l := (⟨93, true, 2, 0, 0, 0, 0⟩ : Lv)) (l' := (⟨93, true, 2, 0, 0, 0, 0⟩ : Lv)) (j := 2) (x := .int .u8 2) hV rfl (by decide) rfl
    have EE : Hid (∀ (g1 cap1 g2 cap2 : Nat) V, Kw w V wb E { s with p := q, op := (⟨93, true, 2, 0, 0, 0, 0⟩ : Lv) :: ({ l with nx := 4 } :: r), to := (s.to ++ [evP]) } (.slice (some ⟨g2, 0, none⟩) ((r.length + 1) + 1) cap2) (.slice (some ⟨g1, 0, none⟩) (s.to.length + 1) cap1) -> Calls Tryz.prog 124 #[(.pointer (some ⟨wb, 0, none⟩))] V fun en w' => en = .returned (.bool (entEnds E.L { s with p := q, op := (⟨93, true, 2, 0, 0, 0, 0⟩ : Lv) :: ({ l with nx := 4 } :: r), to := (s.to ++ [evP]) } 93)) /\ Below V.heap.size V w') := fun g1 cap1 g2 cap2 V hV => entryEnds_any hV.w hss hf hqo (l := (⟨93, true, 2, 0, 0, 0, 0⟩ : Lv)) rfl
    have AL : Hid (∀ (g1 cap1 g2 cap2 : Nat) V, Kw w V wb E { s with p := q, op := (⟨93, true, 2, 0, 0, 0, 0⟩ : Lv) :: ({ l with nx := 4 } :: r), to := (s.to ++ [evP]) } (.slice (some ⟨g2, 0, none⟩) ((r.length + 1) + 1) cap2) (.slice (some ⟨g1, 0, none⟩) (s.to.length + 1) cap1) -> Calls Tryz.prog 120 #[(.pointer (some ⟨wb, 0, none⟩)), q.v, .int .i64 58] V fun en w' => en = .returned (.bool (aloW O E.L q 58)) /\ Below V.heap.size V w') := fun g1 cap1 g2 cap2 V hV => alone_any LW.c hV.w hf hqo 58
    have EM : Hid (∀ (g1 cap1 g2 cap2 : Nat) V, Kw w V wb E { s with p := q, op := (⟨93, true, 2, 0, 0, 0, 0⟩ : Lv) :: ({ l with nx := 4 } :: r), to := (s.to ++ [evP]) } (.slice (some ⟨g2, 0, none⟩) ((r.length + 1) + 1) cap2) (.slice (some ⟨g1, 0, none⟩) (s.to.length + 1) cap1) -> Calls Tryz.prog 103 #[(.pointer (some ⟨wb, 0, none⟩)), hs0.v] V fun en w' => (∃ v, en = .returned v) /\ Kee wb V w' /\ ∃ ov' tv', Wk w' wb E (empW O { s with p := q, op := (⟨93, true, 2, 0, 0, 0, 0⟩ : Lv) :: ({ l with nx := 4 } :: r), to := (s.to ++ [evP]) } hs0) ov' tv') := fun g1 cap1 g2 cap2 V hV => empty_any LW.t hV.w hss hs0
    simp only [Hs.v, hs0] at EM
    have BB : Hid (∀ (g1 cap1 g2 cap2 : Nat) V, Kw w V wb E { s with p := q, op := (⟨93, true, 2, 0, 0, 0, 0⟩ : Lv) :: ({ l with nx := 4 } :: r), to := (s.to ++ [evP]) } (.slice (some ⟨g2, 0, none⟩) ((r.length + 1) + 1) cap2) (.slice (some ⟨g1, 0, none⟩) (s.to.length + 1) cap1) -> Calls Tryz.prog 40 #[(.pointer (some ⟨wb, 0, none⟩))] V fun en w' => Post wb E V (begW O E.L E.n E.d E.b { s with p := q, op := (⟨93, true, 2, 0, 0, 0, 0⟩ : Lv) :: ({ l with nx := 4 } :: r), to := (s.to ++ [evP]) }) en w') := fun g1 cap1 g2 cap2 V hV => BG V _ _ _ (LW.keep ht hV.k (by omega) h1) hV.w hss hqo
    rw [show entEnds E.L { s with p := q, op := (⟨93, true, 2, 0, 0, 0, 0⟩ : Lv) :: ({ l with nx := 4 } :: r), to := (s.to ++ [evP]) } l.cl = entEnds E.L { s with p := q, op := (⟨93, true, 2, 0, 0, 0, 0⟩ : Lv) :: ({ l with nx := 4 } :: r), to := (s.to ++ [evP]) } 93 from congrArg _ h93]
    cases hee : entEnds E.L { s with p := q, op := (⟨93, true, 2, 0, 0, 0, 0⟩ : Lv) :: ({ l with nx := 4 } :: r), to := (s.to ++ [evP]) } 93 with
    | true =>
     rw [hee] at EE
     rw [Bool.true_or, if_pos rfl]
     clear h BG hg BB AL
     go_enter Tryz.func121, Tryz.ntmps121
     go_wp2_with (first | (go_at_call 73; refine TC.mono ?_; clear TC; rintro en V1 ⟨rfl, hB1⟩; have hq1 := HQ0.out.on hB1; obtain ⟨t0, t1, t2, t3, t4, t5, t6⟩ := hq1.w.tops hop; rw [h93] at t0; have DC := TDP.out _ hq1; have HQ1 : Hid _ := hq1; clear hq1) | (go_at_call 111; refine DC.mono ?_; clear DC; rintro en V2 ⟨rfl, hB2⟩; have hq2 := HQ1.out.on hB2; obtain ⟨w4, w5, w7, w8, w9⟩ := hq2.cells; obtain ⟨g1, cap1, W2, hr2, f2, c2, kk2, wk2⟩ := told_push0 hq2.w hto evP; simp only [Ev.c, evP] at hr2; have hq3 := hq2.kee kk2 wk2; have OC := OPP.out _ _ _ hq3; have HQ3 : Hid _ := hq3; clear hq2 hq3 kk2 wk2) | (at_builtin; refine wpList_append_run rfl _ _ 27 rfl rfl rfl hr2 ?_; clear hr2) | (go_at_call 123; refine OC.mono ?_; clear OC; rintro en V4 ⟨⟨v4, rfl⟩, hk4, ov4, hw4⟩; rw [hPS] at hw4; obtain ⟨g2, cap2, rfl, -⟩ := hw4.top rfl; have hq4 := HQ3.out.kee hk4 hw4; have hq5 := hq4.setK; obtain ⟨y4, y5, y7, y8, y9⟩ := hq4.cells; have GC := GO.out g1 cap1 g2 cap2 _ hq5; have HQ5 : Hid _ := hq5; clear hq4 hq5) | (go_at_call 119; refine GC.mono ?_; clear GC; rintro en V6 ⟨hk6, rfl, hw6⟩; have hq6 := HQ5.out.kee hk6 hw6; have TD2 := TP2.out g1 cap1 g2 cap2 _ hq6; have HQ6 : Hid _ := hq6; clear hq6 hk6 hw6) | (go_at_call 73; refine TD2.mono ?_; clear TD2; rintro en V7 ⟨rfl, hB7⟩; have hq7 := HQ6.out.on hB7; obtain ⟨u0, u1, u2, u3, u4, u5, u6⟩ := Wk.tops (r := ({ l with nx := 4 } :: r)) hq7.w rfl; (try (simp only [List.length_cons] at u2)); have f7 := u6 ((r.length + 1) * 7 + 2); have hq8 := HL.out g1 cap1 g2 cap2 _ hq7; obtain ⟨x4, x5, x7, x8, x9⟩ := hq8.cells; have EC := EE.out g1 cap1 g2 cap2 _ hq8; have HQ8 : Hid _ := hq8; clear hq7 hq8) | (go_at_call 124; refine EC.mono ?_; clear EC; rintro en V9 ⟨rfl, hB9⟩; have hq9 := HQ8.out.on hB9; have MC := EM.out g1 cap1 g2 cap2 _ hq9; have HQ9 : Hid _ := hq9; clear hq9) | (go_at_call 103; refine MC.mono ?_; clear MC; rintro en V10 ⟨⟨v10, rfl⟩, hk10, hw10⟩))
     go_ret
     exact ⟨HQ9.out.k.trans hk10, rfl, hw10⟩
    | false =>
     rw [hee] at EE
     rw [Bool.false_or]
     cases hal : aloW O E.L q 58 with
     | true =>
      rw [hal] at AL
      rw [if_pos rfl]
      clear h BG hg BB
      go_enter Tryz.func121, Tryz.ntmps121
      go_wp2_with (first | (go_at_call 73; refine TC.mono ?_; clear TC; rintro en V1 ⟨rfl, hB1⟩; have hq1 := HQ0.out.on hB1; obtain ⟨t0, t1, t2, t3, t4, t5, t6⟩ := hq1.w.tops hop; rw [h93] at t0; have DC := TDP.out _ hq1; have HQ1 : Hid _ := hq1; clear hq1) | (go_at_call 111; refine DC.mono ?_; clear DC; rintro en V2 ⟨rfl, hB2⟩; have hq2 := HQ1.out.on hB2; obtain ⟨w4, w5, w7, w8, w9⟩ := hq2.cells; obtain ⟨g1, cap1, W2, hr2, f2, c2, kk2, wk2⟩ := told_push0 hq2.w hto evP; simp only [Ev.c, evP] at hr2; have hq3 := hq2.kee kk2 wk2; have OC := OPP.out _ _ _ hq3; have HQ3 : Hid _ := hq3; clear hq2 hq3 kk2 wk2) | (at_builtin; refine wpList_append_run rfl _ _ 27 rfl rfl rfl hr2 ?_; clear hr2) | (go_at_call 123; refine OC.mono ?_; clear OC; rintro en V4 ⟨⟨v4, rfl⟩, hk4, ov4, hw4⟩; rw [hPS] at hw4; obtain ⟨g2, cap2, rfl, -⟩ := hw4.top rfl; have hq4 := HQ3.out.kee hk4 hw4; have hq5 := hq4.setK; obtain ⟨y4, y5, y7, y8, y9⟩ := hq4.cells; have GC := GO.out g1 cap1 g2 cap2 _ hq5; have HQ5 : Hid _ := hq5; clear hq4 hq5) | (go_at_call 119; refine GC.mono ?_; clear GC; rintro en V6 ⟨hk6, rfl, hw6⟩; have hq6 := HQ5.out.kee hk6 hw6; have TD2 := TP2.out g1 cap1 g2 cap2 _ hq6; have HQ6 : Hid _ := hq6; clear hq6 hk6 hw6) | (go_at_call 73; refine TD2.mono ?_; clear TD2; rintro en V7 ⟨rfl, hB7⟩; have hq7 := HQ6.out.on hB7; obtain ⟨u0, u1, u2, u3, u4, u5, u6⟩ := Wk.tops (r := ({ l with nx := 4 } :: r)) hq7.w rfl; (try (simp only [List.length_cons] at u2)); have f7 := u6 ((r.length + 1) * 7 + 2); have hq8 := HL.out g1 cap1 g2 cap2 _ hq7; obtain ⟨x4, x5, x7, x8, x9⟩ := hq8.cells; have EC := EE.out g1 cap1 g2 cap2 _ hq8; have HQ8 : Hid _ := hq8; clear hq7 hq8) | (go_at_call 124; refine EC.mono ?_; clear EC; rintro en V9 ⟨rfl, hB9⟩; have hq9 := HQ8.out.on hB9; obtain ⟨z4, z5, z7, z8, z9⟩ := hq9.cells; have AC := AL.out g1 cap1 g2 cap2 _ hq9; have HQ9 : Hid _ := hq9; clear hq9) | (go_at_call 120; refine AC.mono ?_; clear AC; rintro en V10 ⟨rfl, hB10⟩; have hq10 := HQ9.out.on hB10; have MC := EM.out g1 cap1 g2 cap2 _ hq10; have HQ10 : Hid _ := hq10; clear hq10) | (go_at_call 103; refine MC.mono ?_; clear MC; rintro en V11 ⟨⟨v11, rfl⟩, hk11, hw11⟩))
      go_ret
      exact ⟨HQ10.out.k.trans hk11, rfl, hw11⟩
     | false =>
      rw [hal] at AL
      rw [if_neg (by decide)]
      generalize begW O E.L E.n E.d E.b { s with p := q, op := (⟨93, true, 2, 0, 0, 0, 0⟩ : Lv) :: ({ l with nx := 4 } :: r), to := (s.to ++ [evP]) } = RR at BB |-
      clear h BG hg EM
      go_enter Tryz.func121, Tryz.ntmps121
      go_wp2_with (first | (go_at_call 73; refine TC.mono ?_; clear TC; rintro en V1 ⟨rfl, hB1⟩; have hq1 := HQ0.out.on hB1; obtain ⟨t0, t1, t2, t3, t4, t5, t6⟩ := hq1.w.tops hop; rw [h93] at t0; have DC := TDP.out _ hq1; have HQ1 : Hid _ := hq1; clear hq1) | (go_at_call 111; refine DC.mono ?_; clear DC; rintro en V2 ⟨rfl, hB2⟩; have hq2 := HQ1.out.on hB2; obtain ⟨w4, w5, w7, w8, w9⟩ := hq2.cells; obtain ⟨g1, cap1, W2, hr2, f2, c2, kk2, wk2⟩ := told_push0 hq2.w hto evP; simp only [Ev.c, evP] at hr2; have hq3 := hq2.kee kk2 wk2; have OC := OPP.out _ _ _ hq3; have HQ3 : Hid _ := hq3; clear hq2 hq3 kk2 wk2) | (at_builtin; refine wpList_append_run rfl _ _ 27 rfl rfl rfl hr2 ?_; clear hr2) | (go_at_call 123; refine OC.mono ?_; clear OC; rintro en V4 ⟨⟨v4, rfl⟩, hk4, ov4, hw4⟩; rw [hPS] at hw4; obtain ⟨g2, cap2, rfl, -⟩ := hw4.top rfl; have hq4 := HQ3.out.kee hk4 hw4; have hq5 := hq4.setK; obtain ⟨y4, y5, y7, y8, y9⟩ := hq4.cells; have GC := GO.out g1 cap1 g2 cap2 _ hq5; have HQ5 : Hid _ := hq5; clear hq4 hq5) | (go_at_call 119; refine GC.mono ?_; clear GC; rintro en V6 ⟨hk6, rfl, hw6⟩; have hq6 := HQ5.out.kee hk6 hw6; have TD2 := TP2.out g1 cap1 g2 cap2 _ hq6; have HQ6 : Hid _ := hq6; clear hq6 hk6 hw6) | (go_at_call 73; refine TD2.mono ?_; clear TD2; rintro en V7 ⟨rfl, hB7⟩; have hq7 := HQ6.out.on hB7; obtain ⟨u0, u1, u2, u3, u4, u5, u6⟩ := Wk.tops (r := ({ l with nx := 4 } :: r)) hq7.w rfl; (try (simp only [List.length_cons] at u2)); have f7 := u6 ((r.length + 1) * 7 + 2); have hq8 := HL.out g1 cap1 g2 cap2 _ hq7; obtain ⟨x4, x5, x7, x8, x9⟩ := hq8.cells; have EC := EE.out g1 cap1 g2 cap2 _ hq8; have HQ8 : Hid _ := hq8; clear hq7 hq8) | (go_at_call 124; refine EC.mono ?_; clear EC; rintro en V9 ⟨rfl, hB9⟩; have hq9 := HQ8.out.on hB9; obtain ⟨z4, z5, z7, z8, z9⟩ := hq9.cells; have AC := AL.out g1 cap1 g2 cap2 _ hq9; have HQ9 : Hid _ := hq9; clear hq9) | (go_at_call 120; refine AC.mono ?_; clear AC; rintro en V10 ⟨rfl, hB10⟩; have hq10 := HQ9.out.on hB10; have MC := BB.out g1 cap1 g2 cap2 _ hq10; have HQ10 : Hid _ := hq10; clear hq10) | (go_at_call 40; refine MC.mono ?_; clear MC; rintro en V11 hpo; have HP := hpo.pre HQ10.out.k; obtain ⟨e11, rfl⟩ := hpo.ret; clear hpo))
      go_ret
      exact HP
 ·have e93 : (l.cl == 93) = false := by rw [beq_eq_false_iff_ne]; exact h93
  rw [if_neg (fun e => h93 e.1)]
  simp only [if_neg h93]
  have GO : Hid (∀ V, Kw w V wb E { s with p := s.p.plus 1 } (.slice (some ⟨g, 0, none⟩) (r.length + 1) cap) tv -> Calls Tryz.prog 119 #[.pointer (some ⟨wb, 0, none⟩)] V fun en w' => Kee wb V w' /\ match gonW O E.L E.n (s.p.plus 1) with | .ok q' => en = .returned (.int .i64 0) /\ Wk w' wb E { s with p := q' } (.slice (some ⟨g, 0, none⟩) (r.length + 1) cap) tv | .error c => en = .returned (.int .i64 c) /\ c ≠ 0) := fun V hV => goOn_any (s := { s with p := s.p.plus 1 }) LW.c LW.l hV.w hf hp1
  cases hg : gonW O E.L E.n (s.p.plus 1) with
  | error c =>
   have h0 : c ≠ 0 := gonW_ne hg
   have e1 : (c == 0) = false := by rw [beq_eq_false_iff_ne]; exact h0
   have e2 : (c != 0) = true := by simp [h0]
   rw [hg] at GO
   dsimp only at GO |-
   clear h BG hg
   go_enter Tryz.func121, Tryz.ntmps121
   go_wp2_with (first | (go_at_call 73; refine TC.mono ?_; clear TC; rintro en V1 ⟨rfl, hB1⟩; have hq4 := HQ0.out.on hB1; obtain ⟨t0, t1, t2, t3, t4, t5, t6⟩ := hq4.w.tops hop; have hq5 := hq4.setK; obtain ⟨y4, y5, y7, y8, y9⟩ := hq4.cells; have GC := GO.out _ hq5; have HQ5 : Hid _ := hq5; clear hq4 hq5) | (go_at_call 119; refine GC.mono ?_; clear GC; rintro en V6 ⟨hk6, rfl, -⟩))
   go_ret
   exact ⟨HQ5.out.k.trans hk6, rfl⟩
  | ok q =>
   obtain ⟨r1, r2, r3⟩ := gonW_goes hp1.okL hg
   have hqo := r1.okp
   rw [hg] at GO
   dsimp only at GO |-
   have hS2 : (topS { s with p := q } fun l => { l with nx := 2 }) = { s with p := q, op := { l with nx := 2 } :: r, to := s.to } := by unfold topS; simp only [hop]
   rw [hS2]
   have hss : Sml { s with p := q, op := { l with nx := 2 } :: r, to := s.to } := (hs.setTop (l' := { l with nx := 2 }) hop rfl q).sml
   have hrl2 : r.length <= 1073741824 := by have := hs.op; rw [hop] at this; simp at this |-; omega
   have TP2 : Hid (∀ V, Kw w V wb E { s with p := q } (.slice (some ⟨g, 0, none⟩) (r.length + 1) cap) tv -> Calls Tryz.prog 73 #[.pointer (some ⟨wb, 6, none⟩)] V fun en w' => en = .returned (.pointer (some ⟨g, r.length * 7, none⟩)) /\ Below V.heap.size V w') := fun V hV => top_any (l := l) (r := r) hV.w hrl2
   have HL : Hid (∀ V, Kw w V wb E { s with p := q } (.slice (some ⟨g, 0, none⟩) (r.length + 1) cap) tv -> Kw w (V.setCell ⟨g, r.length * 7 + 2, none⟩ (.int .u8 2)) wb E { s with p := q, op := { l with nx := 2 } :: r, to := s.to } (.slice (some ⟨g, 0, none⟩) (r.length + 1) cap) tv) := fun V hV => Kw.setL (r := r) (l := l) (l' := { l with nx := 2 }) (j := 2) (x := .int .u8 2) hV hop (by decide) rfl
   have EE : Hid (∀ V, Kw w V wb E { s with p := q, op := { l with nx := 2 } :: r, to := s.to } (.slice (some ⟨g, 0, none⟩) (r.length + 1) cap) tv -> Calls Tryz.prog 124 #[(.pointer (some ⟨wb, 0, none⟩))] V fun en w' => en = .returned (.bool (entEnds E.L { s with p := q, op := { l with nx := 2 } :: r, to := s.to } l.cl)) /\ Below V.heap.size V w') := fun V hV => entryEnds_any hV.w hss hf hqo (l := { l with nx := 2 }) rfl
   have AL : Hid (∀ V, Kw w V wb E { s with p := q, op := { l with nx := 2 } :: r, to := s.to } (.slice (some ⟨g, 0, none⟩) (r.length + 1) cap) tv -> Calls Tryz.prog 120 #[(.pointer (some ⟨wb, 0, none⟩)), q.v, .int .i64 58] V fun en w' => en = .returned (.bool (aloW O E.L q 58)) /\ Below V.heap.size V w') := fun V hV => alone_any LW.c hV.w hf hqo 58
   have EM : Hid (∀ V, Kw w V wb E { s with p := q, op := { l with nx := 2 } :: r, to := s.to } (.slice (some ⟨g, 0, none⟩) (r.length + 1) cap) tv -> Calls Tryz.prog 103 #[(.pointer (some ⟨wb, 0, none⟩)), hs0.v] V fun en w' => (∃ v, en = .returned v) /\ Kee wb V w' /\ ∃ ov' tv', Wk w' wb E (empW O { s with p := q, op := { l with nx := 2 } :: r, to := s.to } hs0) ov' tv') := fun V hV => empty_any LW.t hV.w hss hs0
   simp only [Hs.v, hs0] at EM
   have BB : Hid (∀ V, Kw w V wb E { s with p := q, op := { l with nx := 2 } :: r, to := s.to } (.slice (some ⟨g, 0, none⟩) (r.length + 1) cap) tv -> Calls Tryz.prog 40 #[(.pointer (some ⟨wb, 0, none⟩))] V fun en w' => Post wb E V (begW O E.L E.n E.d E.b { s with p := q, op := { l with nx := 2 } :: r, to := s.to }) en w') := fun V hV => BG V _ _ _ (LW.keep ht hV.k (by omega) h1) hV.w hss hqo
   skip
   cases hee : entEnds E.L { s with p := q, op := { l with nx := 2 } :: r, to := s.to } l.cl with
   | true =>
    rw [hee] at EE
    rw [Bool.true_or, if_pos rfl]
    clear h BG hg BB AL
    go_enter Tryz.func121, Tryz.ntmps121
    go_wp2_with (first | (go_at_call 73; refine TC.mono ?_; clear TC; rintro en V1 ⟨rfl, hB1⟩; have hq4 := HQ0.out.on hB1; obtain ⟨t0, t1, t2, t3, t4, t5, t6⟩ := hq4.w.tops hop; have hq5 := hq4.setK; obtain ⟨y4, y5, y7, y8, y9⟩ := hq4.cells; have GC := GO.out _ hq5; have HQ5 : Hid _ := hq5; clear hq4 hq5) | (go_at_call 119; refine GC.mono ?_; clear GC; rintro en V6 ⟨hk6, rfl, hw6⟩; have hq6 := HQ5.out.kee hk6 hw6; have TD2 := TP2.out _ hq6; have HQ6 : Hid _ := hq6; clear hq6 hk6 hw6) | (go_at_call 73; refine TD2.mono ?_; clear TD2; rintro en V7 ⟨rfl, hB7⟩; have hq7 := HQ6.out.on hB7; obtain ⟨u0, u1, u2, u3, u4, u5, u6⟩ := Wk.tops (r := r) hq7.w hop; (try (simp only [List.length_cons] at u2)); have f7 := u6 (r.length * 7 + 2); have hq8 := HL.out _ hq7; obtain ⟨x4, x5, x7, x8, x9⟩ := hq8.cells; have EC := EE.out _ hq8; have HQ8 : Hid _ := hq8; clear hq7 hq8) | (go_at_call 124; refine EC.mono ?_; clear EC; rintro en V9 ⟨rfl, hB9⟩; have hq9 := HQ8.out.on hB9; have MC := EM.out _ hq9; have HQ9 : Hid _ := hq9; clear hq9) | (go_at_call 103; refine MC.mono ?_; clear MC; rintro en V10 ⟨⟨v10, rfl⟩, hk10, hw10⟩))
    go_ret
    exact ⟨HQ9.out.k.trans hk10, rfl, hw10⟩
   | false =>
    rw [hee] at EE
    rw [Bool.false_or]
    cases hal : aloW O E.L q 58 with
    | true =>
     rw [hal] at AL
     rw [if_pos rfl]
     clear h BG hg BB
     go_enter Tryz.func121, Tryz.ntmps121
     go_wp2_with (first | (go_at_call 73; refine TC.mono ?_; clear TC; rintro en V1 ⟨rfl, hB1⟩; have hq4 := HQ0.out.on hB1; obtain ⟨t0, t1, t2, t3, t4, t5, t6⟩ := hq4.w.tops hop; have hq5 := hq4.setK; obtain ⟨y4, y5, y7, y8, y9⟩ := hq4.cells; have GC := GO.out _ hq5; have HQ5 : Hid _ := hq5; clear hq4 hq5) | (go_at_call 119; refine GC.mono ?_; clear GC; rintro en V6 ⟨hk6, rfl, hw6⟩; have hq6 := HQ5.out.kee hk6 hw6; have TD2 := TP2.out _ hq6; have HQ6 : Hid _ := hq6; clear hq6 hk6 hw6) | (go_at_call 73; refine TD2.mono ?_; clear TD2; rintro en V7 ⟨rfl, hB7⟩; have hq7 := HQ6.out.on hB7; obtain ⟨u0, u1, u2, u3, u4, u5, u6⟩ := Wk.tops (r := r) hq7.w hop; (try (simp only [List.length_cons] at u2)); have f7 := u6 (r.length * 7 + 2); have hq8 := HL.out _ hq7; obtain ⟨x4, x5, x7, x8, x9⟩ := hq8.cells; have EC := EE.out _ hq8; have HQ8 : Hid _ := hq8; clear hq7 hq8) | (go_at_call 124; refine EC.mono ?_; clear EC; rintro en V9 ⟨rfl, hB9⟩; have hq9 := HQ8.out.on hB9; obtain ⟨z4, z5, z7, z8, z9⟩ := hq9.cells; have AC := AL.out _ hq9; have HQ9 : Hid _ := hq9; clear hq9) | (go_at_call 120; refine AC.mono ?_; clear AC; rintro en V10 ⟨rfl, hB10⟩; have hq10 := HQ9.out.on hB10; have MC := EM.out _ hq10; have HQ10 : Hid _ := hq10; clear hq10) | (go_at_call 103; refine MC.mono ?_; clear MC; rintro en V11 ⟨⟨v11, rfl⟩, hk11, hw11⟩))
     go_ret
     exact ⟨HQ10.out.k.trans hk11, rfl, hw11⟩
    | false =>
     rw [hal] at AL
     rw [if_neg (by decide)]
     generalize begW O E.L E.n E.d E.b { s with p := q, op := { l with nx := 2 } :: r, to := s.to } = RR at BB |-
     clear h BG hg EM
     go_enter Tryz.func121, Tryz.ntmps121
     go_wp2_with (first | (go_at_call 73; refine TC.mono ?_; clear TC; rintro en V1 ⟨rfl, hB1⟩; have hq4 := HQ0.out.on hB1; obtain ⟨t0, t1, t2, t3, t4, t5, t6⟩ := hq4.w.tops hop; have hq5 := hq4.setK; obtain ⟨y4, y5, y7, y8, y9⟩ := hq4.cells; have GC := GO.out _ hq5; have HQ5 : Hid _ := hq5; clear hq4 hq5) | (go_at_call 119; refine GC.mono ?_; clear GC; rintro en V6 ⟨hk6, rfl, hw6⟩; have hq6 := HQ5.out.kee hk6 hw6; have TD2 := TP2.out _ hq6; have HQ6 : Hid _ := hq6; clear hq6 hk6 hw6) | (go_at_call 73; refine TD2.mono ?_; clear TD2; rintro en V7 ⟨rfl, hB7⟩; have hq7 := HQ6.out.on hB7; obtain ⟨u0, u1, u2, u3, u4, u5, u6⟩ := Wk.tops (r := r) hq7.w hop; (try (simp only [List.length_cons] at u2)); have f7 := u6 (r.length * 7 + 2); have hq8 := HL.out _ hq7; obtain ⟨x4, x5, x7, x8, x9⟩ := hq8.cells; have EC := EE.out _ hq8; have HQ8 : Hid _ := hq8; clear hq7 hq8) | (go_at_call 124; refine EC.mono ?_; clear EC; rintro en V9 ⟨rfl, hB9⟩; have hq9 := HQ8.out.on hB9; obtain ⟨z4, z5, z7, z8, z9⟩ := hq9.cells; have AC := AL.out _ hq9; have HQ9 : Hid _ := hq9; clear hq9) | (go_at_call 120; refine AC.mono ?_; clear AC; rintro en V10 ⟨rfl, hB10⟩; have hq10 := HQ9.out.on hB10; have MC := BB.out _ hq10; have HQ10 : Hid _ := hq10; clear hq10) | (go_at_call 40; refine MC.mono ?_; clear MC; rintro en V11 hpo; have HP := hpo.pre HQ10.out.k; obtain ⟨e11, rfl⟩ := hpo.ret; clear hpo))
     go_ret
     exact HP
end
end Go.Proofs.YtipbhdhiklmieaaGreatDoor
namespace Go.Proofs.YtipbhdhiklmieaaGreatDoor.P8
open Go.RowKit Go.Shelf
attribute [local go_sem] Oper.semAt_some
def tAt (R : List Row) (i : Nat) : List Int := (R[i]?.map (·.t)).getD []
theorem tAt_at {R : List Row} {i : Nat} {r : Row} (h : R[i]? = some r) : tAt R i = r.t := by simp [tAt, h]
def trimG (R : List Row) (i : Nat) : List Int := trimF (decide (0 < i)) (decide (i + 1 < R.length)) (tAt R i)
def PcOk (R : List Row) (g : Nat -> List Int) (E : Nat -> Prop) (x : Nat × Value) : Prop := E x.1 /\ ∃ (r : Row) (q : Option Addr) (c : Nat), R[x.1]? = some r /\ x.2 = .slice q (g x.1).length c /\ Sub r.q r.t q (g x.1)
abbrev Pc (R : List Row) (g : Nat -> List Int) (E : Nat -> Prop) : Type := { x : Nat × Value // PcOk R g E x }
def encP {R : List Row} {g : Nat -> List Int} {E : Nat -> Prop} (x : Pc R g E) : Array Value := #[.int .i64 (x.1.1 : Nat), x.1.2]
def places {R : List Row} {g : Nat -> List Int} {E : Nat -> Prop} (ys : List (Pc R g E)) : List Nat := ys.map (·.1.1)
theorem places_snoc {R : List Row} {g : Nat -> List Int} {E : Nat -> Prop} (ys : List (Pc R g E)) (y : Pc R g E) : places (ys ++ [y]) = places ys ++ [y.1.1] := by simp [places]
def told (s : Nat -> Bool) (k : Nat) : List Nat := (List.range k).filter s
theorem told_yes {s : Nat -> Bool} {k : Nat} (h : s k = true) : told s (k + 1) = told s k ++ [k] := by unfold told; rw [List.range_succ, List.filter_append]; simp [h]
theorem told_no {s : Nat -> Bool} {k : Nat} (h : s k = false) : told s (k + 1) = told s k := by unfold told; rw [List.range_succ, List.filter_append]; simp [h]
theorem told_len (s : Nat -> Bool) (k : Nat) : (told s k).length <= k := by
 unfold told
 exact Nat.le_trans (List.length_filter_le _ _) (by simp)
def tellF (R : List Row) (i : Nat) : Bool := !(decide (0 < i) && decide (i + 1 < R.length) && decide ((trimG R i).length = 0))
def Kp (n0 Bb : Nat) (A B : World) : Prop := Below n0 A B /\ B.heap[Bb]? = A.heap[Bb]?
theorem Kp.cellB {n0 Bb : Nat} {A B : World} (h : Kp n0 Bb A B) (o : Nat) : B.cell? ⟨Bb, o, none⟩ = A.cell? ⟨Bb, o, none⟩ := World.cell?_of_block h.2
theorem Kp.trans {n0 Bb : Nat} {A B C : World} (h : Kp n0 Bb A B) (k : Kp n0 Bb B C) : Kp n0 Bb A C := ⟨h.1.trans k.1, k.2.trans h.2⟩
theorem Kp.refl (n0 Bb : Nat) (A : World) : Kp n0 Bb A A := ⟨Below.refl _ _, rfl⟩
theorem hKb1 {w : World} {n0 Bb : Nat} (hb : Bb < w.heap.size) (hn : n0 <= w.heap.size) (W : World) (l : Nat) (o o' : Obj) (hl : w.heap.size <= l) (h : W.heap[l]? = some o) (h1 : o.isCells = false) (h2 : o.isWalk = false) : Kp n0 Bb W (W.putObj l o') :=
 ⟨belowK_b hn W l o o' hl h h1 h2, World.putObj_heap_other (by omega)⟩
def MtB (n0 : Nat) (w : World) (p : Option Addr) (R : List Row) : Prop :=
 Mt w p R /\ (∀ a, p = some a -> 0 < R.length -> a.block < n0) /\ ∀ (j : Nat) (r : Row), R[j]? = some r -> ∀ a, r.q = some a -> 0 < r.t.length -> a.block < n0
theorem MtB.on {n0 : Nat} {A B : World} {p : Option Addr} {R : List Row} (h : MtB n0 A p R) (hb : Below n0 A B) : MtB n0 B p R := by
 obtain ⟨⟨h1, h2⟩, h3, h4⟩ := h
 refine ⟨⟨fun j r hr => ⟨(h1 j r hr).1, (h1 j r hr).2.1, (h1 j r hr).2.2.below (h4 j r hr) hb⟩, ?_⟩, h3, h4⟩
 rcases h2 with e | ⟨b, o, e, hc⟩
 ·exact .inl e
 ·refine .inr ⟨b, o, e, fun j r hr => (hb.cell (p := ⟨b, o + j, none⟩) ?_).trans (hc j r hr)⟩
  exact h3 ⟨b, o, none⟩ e (by have := (List.getElem?_eq_some_iff.1 hr).1; omega)
theorem Mt.b {w : World} {p : Option Addr} {R : List Row} (h : Mt w p R) : MtB w.heap.size w p R := ⟨h, h.lt, fun j r hr => (h.1 j r hr).2.2.lt⟩
theorem tlines_in (n : Nat) (p : Option Addr) (len cap : Nat) (w : World) :
  CallsIn Fence.wide n Tryz.prog 186 #[.slice p len cap] w fun e w' => e = .returned (.func (.func 200) #[] #[.pointer (some ⟨w.heap.size, 0, none⟩)]) /\ w' = w.alloc (.cells #[.slice p len cap] 73) := by
 refine callsIn_of_wp Tryz.func186 rfl trivial ?_ rfl
 simp only [Tryz.ntmps186, frm, Nat.reduceAdd, Nat.reduceSub]
 gi_wp2
 go_ret
 exact ⟨rfl, rfl⟩
theorem tl1_in (n : Nat) (hn : 1 <= n) (l Bb n0 cap : Nat) (p : Option Addr) (R : List Row) (hl : R.length <= 1099511627776)
  (J Jx : List (Pc R (trimG R) (fun _ => True)) -> World -> Prop) (W : World) (hn0 : n0 <= W.heap.size) (hJ : AbidesFrom W.heap.size J)
  (hY : ∀ pre x W1, J pre W1 -> pre.length < R.length -> YieldAt Fence.wide (n - 1) Tryz.prog l (encP x) W1 fun e W' =>
   (e = .returned (.bool true) /\ J (pre ++ [x]) W' /\ Kp n0 Bb W1 W') \/ (e = .returned (.bool false) /\ Jx (pre ++ [x]) W'))
  (hBb : W.cell? ⟨Bb, 0, none⟩ = some (.slice p R.length cap)) (hM : MtB n0 W p R) (h0 : J [] W) :
  CallsIn Fence.wide n Tryz.prog 200 #[.func (.yield l) #[] #[], .pointer (some ⟨Bb, 0, none⟩)] W fun e W' => (∃ v, e = .returned v) /\
   ((∃ ys : List (Pc R (trimG R) (fun _ => True)), places ys = told (tellF R) R.length /\ J ys W') \/ (∃ pre : List (Pc R (trimG R) (fun _ => True)), True /\ Jx pre W')) := by
 refine callsIn_of_wp Tryz.func200 rfl trivial ?_ rfl
 simp only [Tryz.ntmps200, frm, Nat.reduceAdd, Nat.reduceSub]
 gi_wp2
 gi_loopw [12] (fun iv wr => ∃ (k : Nat) (pre : List (Pc R (trimG R) (fun _ => True))), k <= R.length /\ iv = .int .i64 k /\ Hid (places pre = told (tellF R) k) /\ J pre wr /\ Kp n0 Bb W wr)
  (fun iv _ => R.length - (intOf iv).toNat)
 case atStart => exact ⟨0, [], Nat.zero_le _, rfl, rfl, h0, Kp.refl _ _ _⟩
 case round =>
  obtain ⟨k, pre, hk, rfl, Hs, hJs, hK⟩ := hrel
  have cB := (hK.cellB 0).trans hBb
  by_cases hlt : k < R.length
  ·have hli : (k : Int) < R.length := by omega
   obtain ⟨r, hr⟩ : ∃ r, R[k]? = some r := ⟨_, List.getElem?_eq_getElem hlt⟩
   have hMr := (hM.on hK.1).1
   have hpl : pre.length < R.length := by
    have h1 := told_len (tellF R) k
    have h2 := congrArg List.length Hs.out
    simp [places] at h2
    omega
   have hG : trimF (decide (0 < k)) (decide (k + 1 < R.length)) r.t = trimG R k := by unfold trimG; rw [tAt_at hr]
   have C : ∀ n, CallsIn Fence.wide n Tryz.prog 201 #[.slice p R.length cap, .int .i64 k] wr fun e w' => Piece r.q r.t (trimG R k) e /\ w' = wr := fun n => by
    have := trimmed_any p R cap k r wr hMr hr hl
    rw [hG] at this
    exact callsIn_wide.2 this
   have YY := fun y => hY pre y wr hJs hpl
   have HR : Hid (R[k]? = some r) := hr
   obtain ⟨u, hu⟩ : ∃ u, trimG R k = u := ⟨_, rfl⟩
   have HU : Hid (trimG R k = u) := hu
   rw [hu] at C
   clear hY hJ hMr hG hr hM hu
   by_cases h0k : 0 < k
   ·have h0k' : (0 : Int) < k := by omega
    by_cases h1k : k + 1 < R.length
    ·have h1k' : (k : Int) < (R.length : Int) - 1 := by omega
     by_cases hu0 : u.length = 0
     ·obtain rfl : u = [] := List.eq_nil_of_length_eq_zero hu0
      have HS : Hid (places pre = told (tellF R) (k + 1)) := by
       show _ = _
       rw [told_no (by unfold tellF; rw [HU.out]; simp [h0k, h1k])]; exact Hs.out
      clear YY
      gi_wp2_with (first | (refine ⟨trivial, ?_⟩; gi_at_call 201; refine (C _).mono ?_; rintro e w' ⟨⟨q, c, rfl, hcq, hsb⟩, rfl⟩))
      go_roundw
      case rel => exact ⟨k + 1, pre, by omega, by go_num, HS, hJs, hK⟩
      case measure => simp [intOf]; omega
     ·have hu0' : ¬ (u.length : Int) = 0 := by omega
      have HS : Hid (told (tellF R) (k + 1) = told (tellF R) k ++ [k]) := told_yes (by unfold tellF; rw [HU.out]; simp [hu0])
      gi_wp2_with (first | (refine ⟨trivial, ?_⟩; gi_at_call 201; refine (C _).mono ?_; rintro e w' ⟨⟨q, c, rfl, hcq, hsb⟩, rfl⟩; obtain ⟨y, hy1⟩ : ∃ y : Pc R (trimG R) (fun _ => True), y.1 = (k, .slice q u.length c) := ⟨⟨(k, .slice q u.length c), trivial, r, q, c, HR.out, by rw [HU.out], by rw [HU.out]; exact hsb⟩, rfl⟩; have Y := YY y; simp only [encP, hy1] at Y; obtain ⟨fn, tmps, assign, body, hy, hR⟩ := Y))
      refine hR.mono ?_
      rintro e3 W3 (⟨rfl, hJ3, hk3⟩ | ⟨rfl, hJx3⟩)
      ·clear hR hy
       gi_wp2
       go_roundw
       case rel => exact ⟨k + 1, pre ++ [y], by omega, by go_num, (by show _ = _; rw [places_snoc, HS.out, Hs.out, hy1]), hJ3, hK.trans hk3⟩
       case measure => simp [intOf]; omega
      ·gi_wp2
       refine bodyPost_ret (results_none rfl _ _ _) rfl ?_
       exact ⟨⟨_, rfl⟩, .inr ⟨_, trivial, hJx3⟩⟩
    ·have h1k' : ¬ (k : Int) < (R.length : Int) - 1 := by omega
     have HS : Hid (told (tellF R) (k + 1) = told (tellF R) k ++ [k]) := told_yes (by unfold tellF; simp [h1k])
     gi_wp2_with (first | (refine ⟨trivial, ?_⟩; gi_at_call 201; refine (C _).mono ?_; rintro e w' ⟨⟨q, c, rfl, hcq, hsb⟩, rfl⟩; obtain ⟨y, hy1⟩ : ∃ y : Pc R (trimG R) (fun _ => True), y.1 = (k, .slice q u.length c) := ⟨⟨(k, .slice q u.length c), trivial, r, q, c, HR.out, by rw [HU.out], by rw [HU.out]; exact hsb⟩, rfl⟩; have Y := YY y; simp only [encP, hy1] at Y; obtain ⟨fn, tmps, assign, body, hy, hR⟩ := Y))
     refine hR.mono ?_
     rintro e3 W3 (⟨rfl, hJ3, hk3⟩ | ⟨rfl, hJx3⟩)
     ·clear hR hy
      gi_wp2
      go_roundw
      case rel => exact ⟨k + 1, pre ++ [y], by omega, by go_num, (by show _ = _; rw [places_snoc, HS.out, Hs.out, hy1]), hJ3, hK.trans hk3⟩
      case measure => simp [intOf]; omega
     ·gi_wp2
      refine bodyPost_ret (results_none rfl _ _ _) rfl ?_
      exact ⟨⟨_, rfl⟩, .inr ⟨_, trivial, hJx3⟩⟩
   ·obtain rfl : k = 0 := by omega
    have HS : Hid (told (tellF R) (0 + 1) = told (tellF R) 0 ++ [0]) := told_yes (by unfold tellF; simp)
    gi_wp2_with (first | (refine ⟨trivial, ?_⟩; gi_at_call 201; refine (C _).mono ?_; rintro e w' ⟨⟨q, c, rfl, hcq, hsb⟩, rfl⟩; obtain ⟨y, hy1⟩ : ∃ y : Pc R (trimG R) (fun _ => True), y.1 = (0, .slice q u.length c) := ⟨⟨(0, .slice q u.length c), trivial, r, q, c, HR.out, by rw [HU.out], by rw [HU.out]; exact hsb⟩, rfl⟩; have Y := YY y; simp only [encP, hy1] at Y; rw [show ((0 : Nat) : Int) = 0 from rfl] at Y; obtain ⟨fn, tmps, assign, body, hy, hR⟩ := Y))
    refine hR.mono ?_
    rintro e3 W3 (⟨rfl, hJ3, hk3⟩ | ⟨rfl, hJx3⟩)
    ·clear hR hy
     gi_wp2
     go_roundw
     case rel => exact ⟨0 + 1, pre ++ [y], by omega, by go_num, (by show _ = _; rw [places_snoc, HS.out, Hs.out, hy1]), hJ3, hK.trans hk3⟩
     case measure => simp [intOf]; omega
    ·gi_wp2
     refine bodyPost_ret (results_none rfl _ _ _) rfl ?_
     exact ⟨⟨_, rfl⟩, .inr ⟨_, trivial, hJx3⟩⟩
  ·obtain rfl : k = R.length := by omega
   clear hY hJ
   gi_wp2
   go_end0
   exact ⟨⟨_, rfl⟩, .inl ⟨pre, Hs.out, hJs⟩⟩
theorem tl_stops (n : Nat) (hn : 1 <= n) (Bb n0 cap : Nat) (p : Option Addr) (R : List Row) (hl : R.length <= 1099511627776) (w : World) (hBb : Bb < w.heap.size) (hn0 : n0 <= w.heap.size)
  (cB : w.cell? ⟨Bb, 0, none⟩ = some (.slice p R.length cap)) (hM : MtB n0 w p R) :
  SeqStopsK Fence.wide n Tryz.prog 200 #[.pointer (some ⟨Bb, 0, none⟩)] (encP (R := R) (g := (trimG R)) (E := (fun _ => True))) (Kp n0 Bb) (fun ys => places ys = told (tellF R) R.length) (fun _ => True) R.length w := fun l J Jx W hW hJ _ hY h0 =>
 tl1_in n hn l Bb n0 cap p R hl J Jx W (Nat.le_trans hn0 hW.size) hJ hY ((hW.cell (p := ⟨Bb, 0, none⟩) hBb).trans cB) (hM.on (hW.mono hn0)) h0
theorem folded_in (n : Nat) (e : Int) (w : World) :
  CallsIn Fence.wide n Tryz.prog 188 #[.int .i64 e] w fun r w' => r = .returned (foldV e) /\ w.grownBy w' none := by
 refine callsIn_of_wp Tryz.func188 rfl trivial ?_ rfl
 simp only [Tryz.ntmps188, frm, Nat.reduceAdd, Nat.reduceSub]
 have z := Tryz.zeroValue229
 have s := Tryz.sizeOf229
 by_cases h : e = 0
 ·subst h
  gi_wp2
  exact bodyPost_ret (v := foldV 0) (by simp [results, Tryz.results188, go_sem, foldV]) rfl ⟨rfl, World.grownBy_alloc _ _ none⟩
 ·have t : (e == 0) = false := by simpa using h
  gi_wp2
  exact bodyPost_ret (v := foldV e) (by simp [results, Tryz.results188, go_sem, foldV, h]) rfl ⟨rfl, World.grownBy_alloc _ _ none⟩
theorem foldV_form (e : Int) : ∃ x y, foldV e = .agg #[.int .i64 x, .int .i64 y] := by
 unfold foldV
 split
 ·exact ⟨_, _, rfl⟩
 ·exact ⟨_, _, rfl⟩
end Go.Proofs.YtipbhdhiklmieaaGreatDoor.P8
