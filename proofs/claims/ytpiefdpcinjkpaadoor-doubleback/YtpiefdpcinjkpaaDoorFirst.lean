/- first: which escape the signs behind a backslash are. -/
import Derived.Test.YtpiefdpcinjkpaaDoorTab
set_option linter.unusedVariables false
set_option linter.unusedSimpArgs false
namespace Go.Proofs.YtpiefdpcinjkpaaDoor
open Go.RowKit

theorem grown_drewN (w : World) (k : Nat) : w.grownBy (w.drewN k) none := ⟨rfl, rfl, rfl, Nat.le_refl _, fun _ _ _ => rfl⟩
theorem grown_drew (w : World) : w.grownBy w.drew none := ⟨rfl, rfl, rfl, Nat.le_refl _, fun _ _ _ => rfl⟩
theorem Is.grown {w W : World} {q : Option Addr} {t : List Int} (h : Is w q t) (hg : w.grownBy W none) : Is W q t := h.on (grown_below hg)

theorem put3_load {W : World} {g : Nat} {a0 a1 a2 : Value} (r0 : W.cell? ⟨g, 0, none⟩ = some a0) (r1 : W.cell? ⟨g, 1, none⟩ = some a1) (r2 : W.cell? ⟨g, 2, none⟩ = some a2) (b0 b1 b2 : Value) :
    (loadVar 60 ⟨g, 0, none⟩).run Tryd.prog (put3 W g b0 b1 b2) = .ok (.agg #[b0, b1, b2]) (put3 W g b0 b1 b2) := by
  unfold put3
  simp [go_sem, r0, r1, r2]
theorem put3_results {fn : Func} {p : Tmp} (h : fn.results = #[.cell p 60]) {tmps : Array Value} {W : World} {g : Nat} {a0 a1 a2 : Value} (hp : tmps.getD p undef = .pointer (some ⟨g, 0, none⟩))
    (r0 : W.cell? ⟨g, 0, none⟩ = some a0) (r1 : W.cell? ⟨g, 1, none⟩ = some a1) (r2 : W.cell? ⟨g, 2, none⟩ = some a2) (b0 b1 b2 : Value) :
    (results fn tmps).run Tryd.prog (put3 W g b0 b1 b2) = .ok (.agg #[b0, b1, b2]) (put3 W g b0 b1 b2) := by
  have hp' : tmps[p]?.getD undef = .pointer (some ⟨g, 0, none⟩) := by simpa using hp
  simp [results, h, hp', asAddr, put3_load r0 r1 r2]

/-- The variable of three cells that a call has made lies as it lay. -/
theorem box3 {w W : World} {c0 c1 c2 : Value} {t : TypeId} (hg : (w.alloc (.cells #[c0, c1, c2] t)).grownBy W none) :
    W.cell? ⟨w.heap.size, 0, none⟩ = some c0 ∧ W.cell? ⟨w.heap.size, 1, none⟩ = some c1 ∧ W.cell? ⟨w.heap.size, 2, none⟩ = some c2 ∧
    W.frozen? ⟨w.heap.size, 0, none⟩ = false ∧ W.frozen? ⟨w.heap.size, 1, none⟩ = false ∧ W.frozen? ⟨w.heap.size, 2, none⟩ = false := by
  have hB := grown_below hg
  have hb : ∀ i, (⟨w.heap.size, i, none⟩ : Addr).block < (w.alloc (.cells #[c0, c1, c2] t)).heap.size := fun i => by simp
  refine ⟨?_, ?_, ?_, ?_, ?_, ?_⟩
  all_goals first | rw [hB.cell (hb _)] | rw [hB.frozen (hb _)]
  all_goals simp

theorem wpList_load_tab {ops : Array Oper} {rest : List Oper} {op : Oper} {a : Act} {w : World} {Q : Exit → Act → World → Prop} (hgd : op.guard = none) (x : Operand) (ho : op.op = .load 66 x)
    (hx : a.eval x = .pointer (some ⟨0, 0, none⟩)) (hT : Tab w) (h : wpList Tryd.prog ops Q rest (a.put op.dst tabV) w) : wpList Tryd.prog ops Q (op :: rest) a w :=
  wpList_load_mid hgd 66 x ho 0 0 hx _ _ (tab_range hT) Tryd.underlying66 rfl (by kernel_rfl) h

theorem short_none {c : Int} (h : ∀ i, i < 18 → sgn i ≠ c) : shortAt c = none := by
  have h0 := h 0 (by decide); have h1 := h 1 (by decide); have h2 := h 2 (by decide); have h3 := h 3 (by decide); have h4 := h 4 (by decide); have h5 := h 5 (by decide)
  have h6 := h 6 (by decide); have h7 := h 7 (by decide); have h8 := h 8 (by decide); have h9 := h 9 (by decide); have h10 := h 10 (by decide); have h11 := h 11 (by decide)
  have h12 := h 12 (by decide); have h13 := h 13 (by decide); have h14 := h 14 (by decide); have h15 := h 15 (by decide); have h16 := h 16 (by decide); have h17 := h 17 (by decide)
  simp [sgn, shortsL] at h0 h1 h2 h3 h4 h5 h6 h7 h8 h9 h10 h11 h12 h13 h14 h15 h16 h17
  simp [shortAt, shortsL, *]
theorem short_some (j : Nat) (hj : j < 18) : shortAt (sgn j) = some (pnt j) := by
  match j, hj with
  | 0, _ => decide
  | 1, _ => decide
  | 2, _ => decide
  | 3, _ => decide
  | 4, _ => decide
  | 5, _ => decide
  | 6, _ => decide
  | 7, _ => decide
  | 8, _ => decide
  | 9, _ => decide
  | 10, _ => decide
  | 11, _ => decide
  | 12, _ => decide
  | 13, _ => decide
  | 14, _ => decide
  | 15, _ => decide
  | 16, _ => decide
  | 17, _ => decide
  | j + 18, h => omega

set_option maxRecDepth 100000 in
set_option maxHeartbeats 1000000 in
theorem first_any (q : Option Addr) (t : List Int) (c : Nat) (last : Bool) (w : World) (hc : t.length ≤ c) (hm : c ≤ maxLen) (hI : Is w q t) (hT : Tab w) :
    Calls Tryd.prog 37 #[.slice q t.length c, .bool last] w fun e w' => e = .returned (escV (firstP t last)) ∧ w.grownBy w' none := by
  have hm2 : (c : Int) ≤ 9223372036854775807 := by unfold maxLen at hm; omega
  have hc2 : (t.length : Int) ≤ c := by omega
  cases t with
  | nil =>
    cases last with
    | true =>
      go_enter Tryd.func37, Tryd.ntmps37
      go_wp2
      refine bodyPost_ret (v := escV (firstP [] true)) (by simp [results, Tryd.results37, go_sem, escV, firstP]) rfl ⟨rfl, ?_⟩
      exact grown_new _ _
    | false =>
      go_enter Tryd.func37, Tryd.ntmps37
      go_wp2
      refine bodyPost_ret (v := escV (firstP [] false)) (by simp [results, Tryd.results37, go_sem, escV, firstP]) rfl ⟨rfl, ?_⟩
      exact grown_new _ _
  | cons x r =>
    obtain ⟨t, ht⟩ : ∃ t, t = x :: r := ⟨_, rfl⟩
    have hl : 0 < t.length := by rw [ht]; simp
    have hl' : (0 : Int) < t.length := by omega
    have hne : ¬ t = [] := by intro e; rw [e] at hl; simp at hl
    have hne2 : ((t.length : Int) == 0) = false := by simpa using hne
    have hne3 : ¬ (t.length : Int) = 0 := by omega
    have hx : iAt t 0 = x := by rw [ht]; rfl
    have hr : t.drop 1 = r := by rw [ht]; rfl
    rw [← ht] at hc hc2 hI ⊢
    have HP : Hid (firstP t last = if 0 < countP x then numbP r (countP x) else match shortAt x with | some p => ⟨2, p, 0⟩ | none => ⟨0, 0, 2⟩) := by
      show _ = _
      rw [ht]; rfl
    have hI1 := hI.alloc (.cells #[.int .i64 0, .int .i64 0, .int .i64 0] 60)
    have hT1 := hT.grown (grown_new w (.cells #[.int .i64 0, .int .i64 0, .int .i64 0] 60))
    obtain ⟨b, o, rfl, hu⟩ := hI1.at hl
    have d0 := hu 0 hl
    rw [Nat.add_zero, hx] at d0
    have CN := count_any x
    by_cases hcp : 0 < countP x
    · have hcp' : (0 : Int) < (countP x : Nat) := by omega
      have S : ∀ w2, (Instr.slice 25 (.slice (some ⟨b, o, none⟩) t.length c) (some (.int .i64 1)) none none).run Tryd.prog w2 = .ok (.slice (if c = 1 then (some (⟨b, o, none⟩ : Addr)) else (some (⟨b, o, none⟩ : Addr)).map (·.add 1)) (t.length - 1) (c - 1)) w2 := slice_from (some ⟨b, o, none⟩) t.length c 1 (by omega) hc
      have hI2 := Is.from hI1 c 1 hc
      rw [hr] at hI2
      have hrl : t.length - 1 = r.length := by rw [ht]; simp
      generalize (if c = 1 then (some (⟨b, o, none⟩ : Addr)) else (some (⟨b, o, none⟩ : Addr)).map (·.add 1)) = q' at S hI2
      have NB := numb_any q' r (c - 1) (countP x) _ (by omega) (by omega) (countP_le x) hI2
      rw [hrl] at S
      rw [if_pos hcp] at HP
      generalize countP x = k at *
      generalize firstP t last = E at HP ⊢
      rw [← HP.out] at NB
      clear hu hT hT1 hI hI1 hI2 HP ht hx hr hrl
      go_enter Tryd.func37, Tryd.ntmps37
      go_wp2_with (first | (go_at_call 34; refine (CN _).mono ?_; rintro e w' ⟨rfl, rfl⟩) | (go_at_call 43; refine NB.mono ?_; rintro e w' ⟨rfl, hg⟩; obtain ⟨r0, r1, r2, f0, f1, f2⟩ := box3 hg; simp only [escV]))
      refine bodyPost_ret (v := escV E) (put3_results rfl rfl r0 r1 r2 _ _ _) rfl ⟨rfl, put3_grown (grown_of_alloc hg) (Nat.le_refl _) _ _ _⟩
    · have hcp0 : countP x = 0 := by omega
      rw [if_neg hcp] at HP
      rw [hcp0] at CN
      have HL : Hid (Tab (w.alloc (.cells #[.int .i64 0, .int .i64 0, .int .i64 0] 60))) := hT1
      have G0 := grown_new w (.cells #[.int .i64 0, .int .i64 0, .int .i64 0] 60)
      generalize firstP t last = E at HP ⊢
      clear hu ht hx hr hcp hcp0
      have HG : Hid (∀ W, (w.alloc (.cells #[.int .i64 0, .int .i64 0, .int .i64 0] 60)).grownBy W none → _ ∧ _ ∧ _ ∧ _ ∧ _ ∧ _) := fun W h => box3 h
      have HI : Hid (Is (w.alloc (.cells #[.int .i64 0, .int .i64 0, .int .i64 0] 60)) (some ⟨b, o, none⟩) t) := hI1
      have HD : Hid ((w.alloc (.cells #[.int .i64 0, .int .i64 0, .int .i64 0] 60)).cell? ⟨b, o, none⟩ = some (.int .i64 x)) := d0
      clear hI hI1 hT hT1
      go_enter Tryd.func37, Tryd.ntmps37
      go_wp2_with (first | (go_at_call 34; refine (CN _).mono ?_; rintro e w' ⟨rfl, rfl⟩) | (refine wpList_load_tab rfl _ rfl rfl HL.out ?_))
      clear HL d0
      generalize w.alloc (.cells #[.int .i64 0, .int .i64 0, .int .i64 0] 60) = W1 at HG HI HD G0
      go_loopw [31] (fun iv wr => ∃ (j : Nat), j ≤ 18 ∧ iv = .int .i64 j ∧ Hid (W1.grownBy wr none) ∧ Hid (∀ i, i < j → sgn i ≠ x)) (fun iv _ => 18 - (intOf iv).toNat)
      case atStart => exact ⟨0, by omega, rfl, grown_refl _, fun i h => by omega⟩
      case round =>
        obtain ⟨j, hj, rfl, Hg, Hn⟩ := hrel
        by_cases hlt : j < 18
        · have hlt' : (j : Int) < 18 := by omega
          have IX := index_tab j hlt
          have d0 := (grown_below Hg.out).cell (p := ⟨b, o, none⟩) (World.block_lt_of_cell? W1 _ HD.out)
          rw [HD.out] at d0
          have hbl := World.block_lt_of_cell? wr _ d0
          have hS : Hid (sgn j = x → E = ⟨2, pnt j, 0⟩) := fun e => by rw [HP.out, ← e, short_some j hlt]
          have HN1 : Hid (sgn j ≠ x → ∀ i, i < j + 1 → sgn i ≠ x) := fun h i hi => by
            by_cases e : i = j
            · subst e; exact h
            · exact Hn.out i (by omega)
          generalize sgn j = sj at IX hS HN1
          generalize pnt j = pj at IX hS
          have d1 : (wr.alloc (.cells #[.int .i64 sj, .int .i64 pj] 65)).cell? ⟨b, o, none⟩ = some (.int .i64 x) := ((Below.refl _ wr).alloc (Nat.le_refl _) _).cell (p := ⟨b, o, none⟩) hbl |>.trans d0
          have G1 : Hid (W1.grownBy (wr.alloc (.cells #[.int .i64 sj, .int .i64 pj] 65)) none) := grown_trans Hg.out (grown_new _ _)
          by_cases he : sj = x
          · subst he
            obtain ⟨r0, r1, r2, f0, f1, f2⟩ := HG.out _ G1.out
            have hb0 : (wr.alloc (.cells #[.int .i64 sj, .int .i64 pj] 65)).heap[w.heap.size]? = (wr.alloc (.cells #[.int .i64 sj, .int .i64 pj] 65)).heap[w.heap.size]? := rfl
            clear HG HN1 Hn HP hb0
            go_wp2
            go_quiet (fail)
            go_wp2
            rw [hS.out (by trivial)]
            exact bodyPost_ret (v := escV ⟨2, pj, 0⟩) (put3_results (W := World.drewN _ _) rfl rfl (by simpa using r0) (by simpa using r1) (by simpa using r2) _ _ _) rfl ⟨rfl, put3_grown (grown_trans (grown_trans G0 G1.out) (grown_drewN _ _)) (Nat.le_refl _) _ _ _⟩
          · have he' : (sj == x) = false := by simpa using he
            clear HG
            go_wp2
            go_quiet (fail)
            go_wp2
            go_roundw
            case rel => exact ⟨j + 1, by omega, by go_num, grown_trans G1.out (grown_drewN _ _), HN1.out he⟩
            case measure => simp [intOf]; omega
        · obtain rfl : j = 18 := by omega
          have hE : Hid (E = ⟨0, 0, 2⟩) := by
            show _ = _
            rw [HP.out, short_none Hn.out]
          obtain ⟨r0, r1, r2, f0, f1, f2⟩ := HG.out _ Hg.out
          clear HG HP
          go_wp2
          rw [hE.out]
          exact bodyPost_ret (v := escV ⟨0, 0, 2⟩) (put3_results rfl rfl r0 r1 r2 _ _ _) rfl ⟨rfl, put3_grown (grown_trans G0 Hg.out) (Nat.le_refl _) _ _ _⟩
end Go.Proofs.YtpiefdpcinjkpaaDoor
