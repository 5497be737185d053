/- The document's Head, as it runs. -/
import Derived.Test.YtgmcomfeggidnaaHea
set_option linter.unusedVariables false
set_option linter.unusedSimpArgs false
namespace Go.Proofs.Ytgmcomfeggidnaa
open Go.RowKit

theorem run_past : ∀ t : List Int, run blankP t = pastN t
  | [] => rfl
  | x :: t => by unfold run pastN; rw [run_past t]
theorem close_eq (t : List Int) : closesP t = !(decide (pastN t < t.length) && (decide (iAt t (pastN t) ≠ 35) || decide (pastN t = 0))) := by
  unfold closesP bareP emptyP
  rw [run_past]
  have hle := pastN_le t
  cases t with
  | nil => rfl
  | cons x r =>
    have e0 : decide ((x :: r).length = 0) = false := by simp
    rw [e0, Bool.false_or]
    by_cases hb : blankP x = true
    · have h1 : pastN (x :: r) = pastN r + 1 := by rw [pastN, if_pos hb]
      have h2 : blankP (iAt (x :: r) 0) = true := hb
      rw [h2, Bool.true_and]
      by_cases hl : pastN (x :: r) < (x :: r).length
      · rw [decide_eq_true hl, decide_eq_false (by omega : ¬ pastN (x :: r) = (x :: r).length), decide_eq_false (by omega : ¬ pastN (x :: r) = 0)]
        by_cases h5 : iAt (x :: r) (pastN (x :: r)) = 35 <;> simp [h5]
      · rw [decide_eq_false hl, decide_eq_true (by omega : pastN (x :: r) = (x :: r).length)]
        simp
    · have h1 : pastN (x :: r) = 0 := by rw [pastN, if_neg hb]
      have h2 : blankP (iAt (x :: r) 0) = false := by simpa [iAt] using hb
      rw [h2, h1]
      simp

set_option maxRecDepth 100000 in
set_option maxHeartbeats 800000 in
theorem rHead_first (p : Option Addr) (l : List Int) (cap : Nat) (w : World) (hl : l.length ≤ 1000) (h : Is w p l) (h0 : l.length = 0 ∨ (iAt l 0 ≠ 124 ∧ iAt l 0 ≠ 62)) :
    Calls Try.prog 9 #[.slice p l.length cap] w fun e w' => e = .returned (headV l.length none) ∧ Below w.heap.size w w' := by
  by_cases hz : l.length = 0
  · have hz' : (l.length : Int) = 0 := by omega
    clear h h0 hl
    go_enter Try.func9, Try.ntmps9
    go_wp2
    exact bodyPost_ret (v := headV l.length none) (by simp [results, Try.results9, go_sem, headV]) rfl ⟨rfl, ((Below.refl _ w).alloc (Nat.le_refl _) _).alloc (by simp) _⟩
  · obtain ⟨b, o, rfl, hc⟩ := h.at (by omega)
    have c0 := hc 0 (by omega)
    rw [Nat.add_zero] at c0
    have hz' : (0 : Int) < l.length := by omega
    have hz2 : ((l.length : Int) == 0) = false := by simpa using (by omega : ¬ (l.length : Int) = 0)
    obtain ⟨h1, h2⟩ := h0.resolve_left hz
    have hbl := World.block_lt_of_cell? w _ c0
    dsimp only at hbl
    generalize iAt l 0 = x at c0 h1 h2
    have h1' : (x != 124) = true := by simpa using h1
    have h2' : (x != 62) = true := by simpa using h2
    clear h hc h1 h2 hz
    go_enter Try.func9, Try.ntmps9
    go_wp2
    exact bodyPost_ret (v := headV l.length none) (by simp [results, Try.results9, go_sem, headV]) rfl ⟨rfl, ((Below.refl _ w).alloc (Nat.le_refl _) _).alloc (by simp) _⟩

set_option maxRecDepth 100000 in
set_option maxHeartbeats 4000000 in
theorem rHead_bar (b o : Nat) (l : List Int) (cap : Nat) (w : World) (hl : l.length ≤ 1000) (hc : l.length ≤ cap) (hm : cap ≤ maxLen) (h : Is w (some ⟨b, o, none⟩) l) (hz : 0 < l.length) (h0 : iAt l 0 = 124) :
    Calls Try.prog 9 #[.slice (some ⟨b, o, none⟩) l.length cap] w fun e w' => e = .returned (headV l.length (headP l)) ∧ Below w.heap.size w w' := by
  have hh : headP l = if closesP (l.drop (1 + (scanP 0 0 (l.drop 1)).2.2)) = true then some (false, (scanP 0 0 (l.drop 1)).1, (scanP 0 0 (l.drop 1)).2.1) else none := by
    unfold headP
    rw [if_neg (by rw [h0]; omega), h0]
    rfl
  rw [hh]
  clear hh
  obtain ⟨s, hs⟩ : ∃ s, scanP 0 0 (l.drop 1) = s := ⟨_, rfl⟩
  have HS : Hid (scanP 0 0 (l.drop 1) = s) := hs
  rw [hs]
  clear hs
  obtain ⟨Rv, hRv⟩ : ∃ Rv, headV l.length (if closesP (l.drop (1 + s.2.2)) = true then some (false, s.1, s.2.1) else none) = Rv := ⟨_, rfl⟩
  rw [hRv]
  have HRv : Hid (headV l.length (if closesP (l.drop (1 + s.2.2)) = true then some (false, s.1, s.2.1) else none) = Rv) := hRv
  clear hRv
  obtain ⟨b', o', e, hcl⟩ := h.at hz
  cases e
  have c0 := hcl 0 hz
  rw [Nat.add_zero, h0] at c0
  have hbl := World.block_lt_of_cell? w _ c0
  dsimp only at hbl
  have hz' : (0 : Int) < l.length := by omega
  have hz2 : ((l.length : Int) == 0) = false := by simpa using (by omega : ¬ (l.length : Int) = 0)
  have hl' : (l.length : Int) ≤ 1000 := by omega
  have HB2 : Hid (Below w.heap.size w ((w.alloc (.cells #[.bool false, .int .i64 0, .int .i64 0] 29)).alloc (.cells #[.bool false, .int .i64 0, .int .i64 0] 29))) := ((Below.refl _ w).alloc (Nat.le_refl _) _).alloc (by simp) _
  have HH1 : Hid (Hb ((w.alloc (.cells #[.bool false, .int .i64 0, .int .i64 0] 29)).alloc (.cells #[.bool false, .int .i64 0, .int .i64 0] 29)) w.heap.size 29 false 0 0) := (Hb.new w 29 false 0 0).on ((Below.refl _ _).alloc (Nat.le_refl _) _)
  have HH2 : Hid (Hb ((w.alloc (.cells #[.bool false, .int .i64 0, .int .i64 0] 29)).alloc (.cells #[.bool false, .int .i64 0, .int .i64 0] 29)) (w.heap.size + 1) 29 false 0 0) := by
    have := Hb.new (w.alloc (.cells #[.bool false, .int .i64 0, .int .i64 0] 29)) 29 false 0 0
    exact (by simpa using this : Hb _ _ _ _ _ _)
  clear h0
  go_enter Try.func9, Try.ntmps9
  go_wp2
  go_loopw [6, 7, 8] (fun kv cv yv wr => ∃ (k : Nat) (ch i : Int), 1 ≤ k ∧ k ≤ l.length ∧ kv = .int .i64 k ∧ cv = .bool (decide (ch ≠ 0)) ∧ Hid (s = ((scanP ch i (l.drop k)).1, (scanP ch i (l.drop k)).2.1, (scanP ch i (l.drop k)).2.2 + (k - 1))) ∧ Hb wr w.heap.size 29 false 0 0 ∧ Hb wr (w.heap.size + 1) 29 false ch i ∧ Below w.heap.size w wr) (fun kv _ _ _ => l.length - (intOf kv).toNat)
  case atStart =>
    refine ⟨1, 0, 0, Nat.le_refl _, hz, rfl, rfl, ?_, HH1.out, HH2.out, HB2.out⟩
    show s = _
    rw [HS.out]
    rfl
  case round =>
    obtain ⟨k, ch, i, hk1, hk, rfl, rfl, HK, K1, K2, hb⟩ := hrel
    obtain ⟨m0, m1, m2⟩ := K2.cells
    have g1 := K2.frozen 1
    have g2 := K2.frozen 2
    by_cases hlt : k < l.length
    · have hli : (k : Int) < l.length := by omega
      have ck : wr.cell? ⟨b, o + k, none⟩ = some (.int .i64 (iAt l k)) := (hb.cell (p := ⟨b, o + k, none⟩) hbl).trans (hcl k hlt)
      cases ht : takeP ch i (iAt l k) with
      | some y =>
        obtain ⟨ch', i'⟩ := y
        have HK' : Hid (s = ((scanP ch' i' (l.drop (k + 1))).1, (scanP ch' i' (l.drop (k + 1))).2.1, (scanP ch' i' (l.drop (k + 1))).2.2 + (k + 1 - 1))) := by
          show s = _
          rw [HK.out, scan_yes hlt ht]
          simp
          omega
        generalize iAt l k = y at ck ht
        unfold takeP at ht
        clear hcl HK
        by_cases h1 : i = 0 ∧ 49 ≤ y ∧ y ≤ 57
        · rw [if_pos h1] at ht
          cases ht
          obtain ⟨rfl, h2, h3⟩ := h1
          go_wp2
          go_roundw
          case rel => exact ⟨k + 1, ch, y - 48, by omega, by omega, by go_num, rfl, HK', K1.grown (grown_set _ _ _ _) (by simp), K2.set2 _, hb.grown (grown_set _ _ _ _) hb.size (fun j e => by cases e; omega)⟩
          case measure => simp [intOf]; omega
        · rw [if_neg h1] at ht
          by_cases h4 : ch = 0 ∧ y = 45
          · rw [if_pos h4] at ht
            cases ht
            obtain ⟨rfl, rfl⟩ := h4
            clear h1
            go_wp2
            go_roundw
            case rel => exact ⟨k + 1, 1, i, by omega, by omega, by go_num, rfl, HK', K1.grown (grown_set _ _ _ _) (by simp), K2.set1 _, hb.grown (grown_set _ _ _ _) hb.size (fun j e => by cases e; omega)⟩
            case measure => simp [intOf]; omega
          · rw [if_neg h4] at ht
            by_cases h5 : ch = 0 ∧ y = 43
            · rw [if_pos h5] at ht
              cases ht
              obtain ⟨rfl, rfl⟩ := h5
              clear h1 h4
              have K3 := K2.set1 1
              have g3 := K3.frozen 1
              obtain ⟨m30, m31, m32⟩ := K3.cells
              go_wp2
              go_roundw
              case rel => exact ⟨k + 1, 2, i, by omega, by omega, by go_num, rfl, HK', (K1.grown (grown_set _ _ _ _) (by simp)).grown (grown_set _ _ _ _) (by simp), K3.set1 _, (hb.grown (grown_set _ _ _ _) hb.size (fun j e => by cases e; omega)).grown (grown_set _ _ _ _) (by have := hb.size; simp; omega) (fun j e => by cases e; omega)⟩
              case measure => simp [intOf]; omega
            · rw [if_neg h5] at ht
              cases ht
      | none =>
        have HE : Hid (s = (ch, i, k - 1)) := by show s = _; rw [HK.out, scan_no hlt ht]; simp
        clear HK HS
        generalize iAt l k = y at ck ht
        unfold takeP at ht
        by_cases h1 : i = 0 ∧ 49 ≤ y ∧ y ≤ 57
        · rw [if_pos h1] at ht; cases ht
        · rw [if_neg h1] at ht
          by_cases h4 : ch = 0 ∧ y = 45
          · rw [if_pos h4] at ht; cases ht
          · rw [if_neg h4] at ht
            by_cases h5 : ch = 0 ∧ y = 43
            · rw [if_pos h5] at ht; cases ht
            · clear ht
              by_cases r1 : 49 ≤ y
              · by_cases r2 : y ≤ 57
                · have r3 : (i == 0) = false := by simpa using (by omega : ¬ i = 0)
                  have r4 : (y == 45) = false := by simpa using (by omega : ¬ y = 45)
                  have r5 : (y == 43) = false := by simpa using (by omega : ¬ y = 43)
                  clear h1 h4 h5
                  have SF := slice_from (some ⟨b, o, none⟩) l.length cap k (by omega) hc
                  have hnl := pastN_le (l.drop k)
                  rw [List.length_drop] at hnl
                  have PA := past_any (if cap = k then some ⟨b, o, none⟩ else (some (⟨b, o, none⟩ : Addr)).map (·.add k)) (l.drop k) (cap - k) wr (by simp; omega) ((h.on hb).from cap k hc)
                  have CE := close_eq (l.drop k)
                  rw [List.length_drop] at PA CE
                  generalize (if cap = k then some (⟨b, o, none⟩ : Addr) else (some (⟨b, o, none⟩ : Addr)).map (·.add k)) = q at SF PA
                  have hkk : 1 + (k - 1) = k := by omega
                  have hat : ∀ n, iAt (l.drop k) n = iAt l (k + n) := fun n => by simp [iAt]
                  rw [hat] at CE
                  generalize pastN (l.drop k) = n at hnl PA CE
                  obtain ⟨a0, a1, a2⟩ := K1.cells
                  obtain ⟨d0, d1, d2⟩ := K2.cells
                  have f0 := K1.frozen 0
                  have f1 := K1.frozen 1
                  have f2 := K1.frozen 2
                  by_cases hn : n < l.length - k
                  · have hni : (k : Int) + n < l.length := by omega
                    have cn : wr.cell? ⟨b, o + (k + n), none⟩ = some (.int .i64 (iAt l (k + n))) := (hb.cell (p := ⟨b, o + (k + n), none⟩) hbl).trans (hcl (k + n) (by omega))
                    rw [decide_eq_true hn, Bool.true_and] at CE
                    by_cases h35 : iAt l (k + n) = 35
                    · rw [decide_eq_false (by simpa using h35), Bool.false_or] at CE
                      rw [h35] at cn
                      by_cases hn0 : n = 0
                      · subst hn0
                        have CE' : closesP (l.drop k) = false := CE
                        rw [Nat.add_zero] at cn
                        have HZ : Hid _ := CE'
                        clear CE CE' hat hcl h35
                        go_wp2_with (first | (go_at_call 18; refine PA.mono ?_; rintro e wr ⟨rfl, rfl⟩))
                        all_goals
                          have HX := Hb_set3 K1 false 0 0
                          have hbX : Below w.heap.size w (((wr.setCell ⟨w.heap.size, 0, none⟩ (.bool false)).setCell ⟨w.heap.size, 1, none⟩ (.int .i64 0)).setCell ⟨w.heap.size, 2, none⟩ (.int .i64 0)) := ((hb.setCell (p := ⟨w.heap.size, 0, none⟩) (Nat.le_refl _) _).setCell (p := ⟨w.heap.size, 1, none⟩) (Nat.le_refl _) _).setCell (p := ⟨w.heap.size, 2, none⟩) (Nat.le_refl _) _
                          generalize ((wr.setCell ⟨w.heap.size, 0, none⟩ (.bool false)).setCell ⟨w.heap.size, 1, none⟩ (.int .i64 0)).setCell ⟨w.heap.size, 2, none⟩ (.int .i64 0) = WX at HX hbX ⊢
                          obtain ⟨z0, z1, z2⟩ := HX.cells
                          exact bodyPost_ret (v := headV l.length none) (by simp [results, Try.results9, go_sem, headV, z0, z1, z2]) rfl ⟨by rw [← HRv.out, HE.out]; dsimp only; rw [hkk, HZ.out]; rfl, hbX⟩
                      · have hne : ((k : Int) + n == (k : Int)) = false := by rw [beq_eq_false_iff_ne]; omega
                        rw [decide_eq_false hn0] at CE
                        have HZ : Hid (closesP (l.drop k) = true) := CE
                        clear CE hat hcl h35
                        go_wp2_with (first | (go_at_call 18; refine PA.mono ?_; rintro e wr ⟨rfl, rfl⟩))
                        have HX := Hb_set3 K1 false ch i
                        have hbX : Below w.heap.size w (((wr.setCell ⟨w.heap.size, 0, none⟩ (.bool false)).setCell ⟨w.heap.size, 1, none⟩ (.int .i64 ch)).setCell ⟨w.heap.size, 2, none⟩ (.int .i64 i)) := ((hb.setCell (p := ⟨w.heap.size, 0, none⟩) (Nat.le_refl _) _).setCell (p := ⟨w.heap.size, 1, none⟩) (Nat.le_refl _) _).setCell (p := ⟨w.heap.size, 2, none⟩) (Nat.le_refl _) _
                        generalize ((wr.setCell ⟨w.heap.size, 0, none⟩ (.bool false)).setCell ⟨w.heap.size, 1, none⟩ (.int .i64 ch)).setCell ⟨w.heap.size, 2, none⟩ (.int .i64 i) = WX at HX hbX ⊢
                        obtain ⟨z0, z1, z2⟩ := HX.cells
                        exact bodyPost_ret (v := headV l.length (some (false, ch, i))) (by simp [results, Try.results9, go_sem, headV, z0, z1, z2]) rfl ⟨by rw [← HRv.out, HE.out]; dsimp only; rw [hkk, HZ.out]; rfl, hbX⟩
                    · rw [decide_eq_true h35, Bool.true_or] at CE
                      have HZ : Hid (closesP (l.drop k) = false) := CE
                      generalize iAt l (k + n) = y at cn h35
                      have h35' : (y != 35) = true := by simpa using h35
                      clear CE hat hcl h35
                      go_wp2_with (first | (go_at_call 18; refine PA.mono ?_; rintro e wr ⟨rfl, rfl⟩))
                      have HX := Hb_set3 K1 false 0 0
                      have hbX : Below w.heap.size w (((wr.setCell ⟨w.heap.size, 0, none⟩ (.bool false)).setCell ⟨w.heap.size, 1, none⟩ (.int .i64 0)).setCell ⟨w.heap.size, 2, none⟩ (.int .i64 0)) := ((hb.setCell (p := ⟨w.heap.size, 0, none⟩) (Nat.le_refl _) _).setCell (p := ⟨w.heap.size, 1, none⟩) (Nat.le_refl _) _).setCell (p := ⟨w.heap.size, 2, none⟩) (Nat.le_refl _) _
                      generalize ((wr.setCell ⟨w.heap.size, 0, none⟩ (.bool false)).setCell ⟨w.heap.size, 1, none⟩ (.int .i64 0)).setCell ⟨w.heap.size, 2, none⟩ (.int .i64 0) = WX at HX hbX ⊢
                      obtain ⟨z0, z1, z2⟩ := HX.cells
                      exact bodyPost_ret (v := headV l.length none) (by simp [results, Try.results9, go_sem, headV, z0, z1, z2]) rfl ⟨by rw [← HRv.out, HE.out]; dsimp only; rw [hkk, HZ.out]; rfl, hbX⟩
                  · have hni : ¬ (k : Int) + n < l.length := by omega
                    rw [decide_eq_false hn, Bool.false_and] at CE
                    have HZ : Hid (closesP (l.drop k) = true) := CE
                    clear CE hat hcl
                    go_wp2_with (first | (go_at_call 18; refine PA.mono ?_; rintro e wr ⟨rfl, rfl⟩))
                    have HX := Hb_set3 K1 false ch i
                    have hbX : Below w.heap.size w (((wr.setCell ⟨w.heap.size, 0, none⟩ (.bool false)).setCell ⟨w.heap.size, 1, none⟩ (.int .i64 ch)).setCell ⟨w.heap.size, 2, none⟩ (.int .i64 i)) := ((hb.setCell (p := ⟨w.heap.size, 0, none⟩) (Nat.le_refl _) _).setCell (p := ⟨w.heap.size, 1, none⟩) (Nat.le_refl _) _).setCell (p := ⟨w.heap.size, 2, none⟩) (Nat.le_refl _) _
                    generalize ((wr.setCell ⟨w.heap.size, 0, none⟩ (.bool false)).setCell ⟨w.heap.size, 1, none⟩ (.int .i64 ch)).setCell ⟨w.heap.size, 2, none⟩ (.int .i64 i) = WX at HX hbX ⊢
                    obtain ⟨z0, z1, z2⟩ := HX.cells
                    exact bodyPost_ret (v := headV l.length (some (false, ch, i))) (by simp [results, Try.results9, go_sem, headV, z0, z1, z2]) rfl ⟨by rw [← HRv.out, HE.out]; dsimp only; rw [hkk, HZ.out]; rfl, hbX⟩
                · have r4 : (y == 45) = false := by simpa using (by omega : ¬ y = 45)
                  have r5 : (y == 43) = false := by simpa using (by omega : ¬ y = 43)
                  clear h1 h4 h5
                  have SF := slice_from (some ⟨b, o, none⟩) l.length cap k (by omega) hc
                  have hnl := pastN_le (l.drop k)
                  rw [List.length_drop] at hnl
                  have PA := past_any (if cap = k then some ⟨b, o, none⟩ else (some (⟨b, o, none⟩ : Addr)).map (·.add k)) (l.drop k) (cap - k) wr (by simp; omega) ((h.on hb).from cap k hc)
                  have CE := close_eq (l.drop k)
                  rw [List.length_drop] at PA CE
                  generalize (if cap = k then some (⟨b, o, none⟩ : Addr) else (some (⟨b, o, none⟩ : Addr)).map (·.add k)) = q at SF PA
                  have hkk : 1 + (k - 1) = k := by omega
                  have hat : ∀ n, iAt (l.drop k) n = iAt l (k + n) := fun n => by simp [iAt]
                  rw [hat] at CE
                  generalize pastN (l.drop k) = n at hnl PA CE
                  obtain ⟨a0, a1, a2⟩ := K1.cells
                  obtain ⟨d0, d1, d2⟩ := K2.cells
                  have f0 := K1.frozen 0
                  have f1 := K1.frozen 1
                  have f2 := K1.frozen 2
                  by_cases hn : n < l.length - k
                  · have hni : (k : Int) + n < l.length := by omega
                    have cn : wr.cell? ⟨b, o + (k + n), none⟩ = some (.int .i64 (iAt l (k + n))) := (hb.cell (p := ⟨b, o + (k + n), none⟩) hbl).trans (hcl (k + n) (by omega))
                    rw [decide_eq_true hn, Bool.true_and] at CE
                    by_cases h35 : iAt l (k + n) = 35
                    · rw [decide_eq_false (by simpa using h35), Bool.false_or] at CE
                      rw [h35] at cn
                      by_cases hn0 : n = 0
                      · subst hn0
                        have CE' : closesP (l.drop k) = false := CE
                        rw [Nat.add_zero] at cn
                        have HZ : Hid _ := CE'
                        clear CE CE' hat hcl h35
                        go_wp2_with (first | (go_at_call 18; refine PA.mono ?_; rintro e wr ⟨rfl, rfl⟩))
                        all_goals
                          have HX := Hb_set3 K1 false 0 0
                          have hbX : Below w.heap.size w (((wr.setCell ⟨w.heap.size, 0, none⟩ (.bool false)).setCell ⟨w.heap.size, 1, none⟩ (.int .i64 0)).setCell ⟨w.heap.size, 2, none⟩ (.int .i64 0)) := ((hb.setCell (p := ⟨w.heap.size, 0, none⟩) (Nat.le_refl _) _).setCell (p := ⟨w.heap.size, 1, none⟩) (Nat.le_refl _) _).setCell (p := ⟨w.heap.size, 2, none⟩) (Nat.le_refl _) _
                          generalize ((wr.setCell ⟨w.heap.size, 0, none⟩ (.bool false)).setCell ⟨w.heap.size, 1, none⟩ (.int .i64 0)).setCell ⟨w.heap.size, 2, none⟩ (.int .i64 0) = WX at HX hbX ⊢
                          obtain ⟨z0, z1, z2⟩ := HX.cells
                          exact bodyPost_ret (v := headV l.length none) (by simp [results, Try.results9, go_sem, headV, z0, z1, z2]) rfl ⟨by rw [← HRv.out, HE.out]; dsimp only; rw [hkk, HZ.out]; rfl, hbX⟩
                      · have hne : ((k : Int) + n == (k : Int)) = false := by rw [beq_eq_false_iff_ne]; omega
                        rw [decide_eq_false hn0] at CE
                        have HZ : Hid (closesP (l.drop k) = true) := CE
                        clear CE hat hcl h35
                        go_wp2_with (first | (go_at_call 18; refine PA.mono ?_; rintro e wr ⟨rfl, rfl⟩))
                        have HX := Hb_set3 K1 false ch i
                        have hbX : Below w.heap.size w (((wr.setCell ⟨w.heap.size, 0, none⟩ (.bool false)).setCell ⟨w.heap.size, 1, none⟩ (.int .i64 ch)).setCell ⟨w.heap.size, 2, none⟩ (.int .i64 i)) := ((hb.setCell (p := ⟨w.heap.size, 0, none⟩) (Nat.le_refl _) _).setCell (p := ⟨w.heap.size, 1, none⟩) (Nat.le_refl _) _).setCell (p := ⟨w.heap.size, 2, none⟩) (Nat.le_refl _) _
                        generalize ((wr.setCell ⟨w.heap.size, 0, none⟩ (.bool false)).setCell ⟨w.heap.size, 1, none⟩ (.int .i64 ch)).setCell ⟨w.heap.size, 2, none⟩ (.int .i64 i) = WX at HX hbX ⊢
                        obtain ⟨z0, z1, z2⟩ := HX.cells
                        exact bodyPost_ret (v := headV l.length (some (false, ch, i))) (by simp [results, Try.results9, go_sem, headV, z0, z1, z2]) rfl ⟨by rw [← HRv.out, HE.out]; dsimp only; rw [hkk, HZ.out]; rfl, hbX⟩
                    · rw [decide_eq_true h35, Bool.true_or] at CE
                      have HZ : Hid (closesP (l.drop k) = false) := CE
                      generalize iAt l (k + n) = y at cn h35
                      have h35' : (y != 35) = true := by simpa using h35
                      clear CE hat hcl h35
                      go_wp2_with (first | (go_at_call 18; refine PA.mono ?_; rintro e wr ⟨rfl, rfl⟩))
                      have HX := Hb_set3 K1 false 0 0
                      have hbX : Below w.heap.size w (((wr.setCell ⟨w.heap.size, 0, none⟩ (.bool false)).setCell ⟨w.heap.size, 1, none⟩ (.int .i64 0)).setCell ⟨w.heap.size, 2, none⟩ (.int .i64 0)) := ((hb.setCell (p := ⟨w.heap.size, 0, none⟩) (Nat.le_refl _) _).setCell (p := ⟨w.heap.size, 1, none⟩) (Nat.le_refl _) _).setCell (p := ⟨w.heap.size, 2, none⟩) (Nat.le_refl _) _
                      generalize ((wr.setCell ⟨w.heap.size, 0, none⟩ (.bool false)).setCell ⟨w.heap.size, 1, none⟩ (.int .i64 0)).setCell ⟨w.heap.size, 2, none⟩ (.int .i64 0) = WX at HX hbX ⊢
                      obtain ⟨z0, z1, z2⟩ := HX.cells
                      exact bodyPost_ret (v := headV l.length none) (by simp [results, Try.results9, go_sem, headV, z0, z1, z2]) rfl ⟨by rw [← HRv.out, HE.out]; dsimp only; rw [hkk, HZ.out]; rfl, hbX⟩
                  · have hni : ¬ (k : Int) + n < l.length := by omega
                    rw [decide_eq_false hn, Bool.false_and] at CE
                    have HZ : Hid (closesP (l.drop k) = true) := CE
                    clear CE hat hcl
                    go_wp2_with (first | (go_at_call 18; refine PA.mono ?_; rintro e wr ⟨rfl, rfl⟩))
                    have HX := Hb_set3 K1 false ch i
                    have hbX : Below w.heap.size w (((wr.setCell ⟨w.heap.size, 0, none⟩ (.bool false)).setCell ⟨w.heap.size, 1, none⟩ (.int .i64 ch)).setCell ⟨w.heap.size, 2, none⟩ (.int .i64 i)) := ((hb.setCell (p := ⟨w.heap.size, 0, none⟩) (Nat.le_refl _) _).setCell (p := ⟨w.heap.size, 1, none⟩) (Nat.le_refl _) _).setCell (p := ⟨w.heap.size, 2, none⟩) (Nat.le_refl _) _
                    generalize ((wr.setCell ⟨w.heap.size, 0, none⟩ (.bool false)).setCell ⟨w.heap.size, 1, none⟩ (.int .i64 ch)).setCell ⟨w.heap.size, 2, none⟩ (.int .i64 i) = WX at HX hbX ⊢
                    obtain ⟨z0, z1, z2⟩ := HX.cells
                    exact bodyPost_ret (v := headV l.length (some (false, ch, i))) (by simp [results, Try.results9, go_sem, headV, z0, z1, z2]) rfl ⟨by rw [← HRv.out, HE.out]; dsimp only; rw [hkk, HZ.out]; rfl, hbX⟩
              · by_cases r4 : y = 45
                · subst r4
                  have r5 : decide (ch = 0) = false := decide_eq_false (by omega)
                  clear h1 h4 h5
                  have SF := slice_from (some ⟨b, o, none⟩) l.length cap k (by omega) hc
                  have hnl := pastN_le (l.drop k)
                  rw [List.length_drop] at hnl
                  have PA := past_any (if cap = k then some ⟨b, o, none⟩ else (some (⟨b, o, none⟩ : Addr)).map (·.add k)) (l.drop k) (cap - k) wr (by simp; omega) ((h.on hb).from cap k hc)
                  have CE := close_eq (l.drop k)
                  rw [List.length_drop] at PA CE
                  generalize (if cap = k then some (⟨b, o, none⟩ : Addr) else (some (⟨b, o, none⟩ : Addr)).map (·.add k)) = q at SF PA
                  have hkk : 1 + (k - 1) = k := by omega
                  have hat : ∀ n, iAt (l.drop k) n = iAt l (k + n) := fun n => by simp [iAt]
                  rw [hat] at CE
                  generalize pastN (l.drop k) = n at hnl PA CE
                  obtain ⟨a0, a1, a2⟩ := K1.cells
                  obtain ⟨d0, d1, d2⟩ := K2.cells
                  have f0 := K1.frozen 0
                  have f1 := K1.frozen 1
                  have f2 := K1.frozen 2
                  by_cases hn : n < l.length - k
                  · have hni : (k : Int) + n < l.length := by omega
                    have cn : wr.cell? ⟨b, o + (k + n), none⟩ = some (.int .i64 (iAt l (k + n))) := (hb.cell (p := ⟨b, o + (k + n), none⟩) hbl).trans (hcl (k + n) (by omega))
                    rw [decide_eq_true hn, Bool.true_and] at CE
                    by_cases h35 : iAt l (k + n) = 35
                    · rw [decide_eq_false (by simpa using h35), Bool.false_or] at CE
                      rw [h35] at cn
                      by_cases hn0 : n = 0
                      · subst hn0
                        have CE' : closesP (l.drop k) = false := CE
                        rw [Nat.add_zero] at cn
                        have HZ : Hid _ := CE'
                        clear CE CE' hat hcl h35
                        go_wp2_with (first | (go_at_call 18; refine PA.mono ?_; rintro e wr ⟨rfl, rfl⟩))
                        all_goals
                          have HX := Hb_set3 K1 false 0 0
                          have hbX : Below w.heap.size w (((wr.setCell ⟨w.heap.size, 0, none⟩ (.bool false)).setCell ⟨w.heap.size, 1, none⟩ (.int .i64 0)).setCell ⟨w.heap.size, 2, none⟩ (.int .i64 0)) := ((hb.setCell (p := ⟨w.heap.size, 0, none⟩) (Nat.le_refl _) _).setCell (p := ⟨w.heap.size, 1, none⟩) (Nat.le_refl _) _).setCell (p := ⟨w.heap.size, 2, none⟩) (Nat.le_refl _) _
                          generalize ((wr.setCell ⟨w.heap.size, 0, none⟩ (.bool false)).setCell ⟨w.heap.size, 1, none⟩ (.int .i64 0)).setCell ⟨w.heap.size, 2, none⟩ (.int .i64 0) = WX at HX hbX ⊢
                          obtain ⟨z0, z1, z2⟩ := HX.cells
                          exact bodyPost_ret (v := headV l.length none) (by simp [results, Try.results9, go_sem, headV, z0, z1, z2]) rfl ⟨by rw [← HRv.out, HE.out]; dsimp only; rw [hkk, HZ.out]; rfl, hbX⟩
                      · have hne : ((k : Int) + n == (k : Int)) = false := by rw [beq_eq_false_iff_ne]; omega
                        rw [decide_eq_false hn0] at CE
                        have HZ : Hid (closesP (l.drop k) = true) := CE
                        clear CE hat hcl h35
                        go_wp2_with (first | (go_at_call 18; refine PA.mono ?_; rintro e wr ⟨rfl, rfl⟩))
                        have HX := Hb_set3 K1 false ch i
                        have hbX : Below w.heap.size w (((wr.setCell ⟨w.heap.size, 0, none⟩ (.bool false)).setCell ⟨w.heap.size, 1, none⟩ (.int .i64 ch)).setCell ⟨w.heap.size, 2, none⟩ (.int .i64 i)) := ((hb.setCell (p := ⟨w.heap.size, 0, none⟩) (Nat.le_refl _) _).setCell (p := ⟨w.heap.size, 1, none⟩) (Nat.le_refl _) _).setCell (p := ⟨w.heap.size, 2, none⟩) (Nat.le_refl _) _
                        generalize ((wr.setCell ⟨w.heap.size, 0, none⟩ (.bool false)).setCell ⟨w.heap.size, 1, none⟩ (.int .i64 ch)).setCell ⟨w.heap.size, 2, none⟩ (.int .i64 i) = WX at HX hbX ⊢
                        obtain ⟨z0, z1, z2⟩ := HX.cells
                        exact bodyPost_ret (v := headV l.length (some (false, ch, i))) (by simp [results, Try.results9, go_sem, headV, z0, z1, z2]) rfl ⟨by rw [← HRv.out, HE.out]; dsimp only; rw [hkk, HZ.out]; rfl, hbX⟩
                    · rw [decide_eq_true h35, Bool.true_or] at CE
                      have HZ : Hid (closesP (l.drop k) = false) := CE
                      generalize iAt l (k + n) = y at cn h35
                      have h35' : (y != 35) = true := by simpa using h35
                      clear CE hat hcl h35
                      go_wp2_with (first | (go_at_call 18; refine PA.mono ?_; rintro e wr ⟨rfl, rfl⟩))
                      have HX := Hb_set3 K1 false 0 0
                      have hbX : Below w.heap.size w (((wr.setCell ⟨w.heap.size, 0, none⟩ (.bool false)).setCell ⟨w.heap.size, 1, none⟩ (.int .i64 0)).setCell ⟨w.heap.size, 2, none⟩ (.int .i64 0)) := ((hb.setCell (p := ⟨w.heap.size, 0, none⟩) (Nat.le_refl _) _).setCell (p := ⟨w.heap.size, 1, none⟩) (Nat.le_refl _) _).setCell (p := ⟨w.heap.size, 2, none⟩) (Nat.le_refl _) _
                      generalize ((wr.setCell ⟨w.heap.size, 0, none⟩ (.bool false)).setCell ⟨w.heap.size, 1, none⟩ (.int .i64 0)).setCell ⟨w.heap.size, 2, none⟩ (.int .i64 0) = WX at HX hbX ⊢
                      obtain ⟨z0, z1, z2⟩ := HX.cells
                      exact bodyPost_ret (v := headV l.length none) (by simp [results, Try.results9, go_sem, headV, z0, z1, z2]) rfl ⟨by rw [← HRv.out, HE.out]; dsimp only; rw [hkk, HZ.out]; rfl, hbX⟩
                  · have hni : ¬ (k : Int) + n < l.length := by omega
                    rw [decide_eq_false hn, Bool.false_and] at CE
                    have HZ : Hid (closesP (l.drop k) = true) := CE
                    clear CE hat hcl
                    go_wp2_with (first | (go_at_call 18; refine PA.mono ?_; rintro e wr ⟨rfl, rfl⟩))
                    have HX := Hb_set3 K1 false ch i
                    have hbX : Below w.heap.size w (((wr.setCell ⟨w.heap.size, 0, none⟩ (.bool false)).setCell ⟨w.heap.size, 1, none⟩ (.int .i64 ch)).setCell ⟨w.heap.size, 2, none⟩ (.int .i64 i)) := ((hb.setCell (p := ⟨w.heap.size, 0, none⟩) (Nat.le_refl _) _).setCell (p := ⟨w.heap.size, 1, none⟩) (Nat.le_refl _) _).setCell (p := ⟨w.heap.size, 2, none⟩) (Nat.le_refl _) _
                    generalize ((wr.setCell ⟨w.heap.size, 0, none⟩ (.bool false)).setCell ⟨w.heap.size, 1, none⟩ (.int .i64 ch)).setCell ⟨w.heap.size, 2, none⟩ (.int .i64 i) = WX at HX hbX ⊢
                    obtain ⟨z0, z1, z2⟩ := HX.cells
                    exact bodyPost_ret (v := headV l.length (some (false, ch, i))) (by simp [results, Try.results9, go_sem, headV, z0, z1, z2]) rfl ⟨by rw [← HRv.out, HE.out]; dsimp only; rw [hkk, HZ.out]; rfl, hbX⟩
                · by_cases r5 : y = 43
                  · subst r5
                    have r6 : decide (ch = 0) = false := decide_eq_false (by omega)
                    clear h1 h4 h5 r4
                    have SF := slice_from (some ⟨b, o, none⟩) l.length cap k (by omega) hc
                    have hnl := pastN_le (l.drop k)
                    rw [List.length_drop] at hnl
                    have PA := past_any (if cap = k then some ⟨b, o, none⟩ else (some (⟨b, o, none⟩ : Addr)).map (·.add k)) (l.drop k) (cap - k) wr (by simp; omega) ((h.on hb).from cap k hc)
                    have CE := close_eq (l.drop k)
                    rw [List.length_drop] at PA CE
                    generalize (if cap = k then some (⟨b, o, none⟩ : Addr) else (some (⟨b, o, none⟩ : Addr)).map (·.add k)) = q at SF PA
                    have hkk : 1 + (k - 1) = k := by omega
                    have hat : ∀ n, iAt (l.drop k) n = iAt l (k + n) := fun n => by simp [iAt]
                    rw [hat] at CE
                    generalize pastN (l.drop k) = n at hnl PA CE
                    obtain ⟨a0, a1, a2⟩ := K1.cells
                    obtain ⟨d0, d1, d2⟩ := K2.cells
                    have f0 := K1.frozen 0
                    have f1 := K1.frozen 1
                    have f2 := K1.frozen 2
                    by_cases hn : n < l.length - k
                    · have hni : (k : Int) + n < l.length := by omega
                      have cn : wr.cell? ⟨b, o + (k + n), none⟩ = some (.int .i64 (iAt l (k + n))) := (hb.cell (p := ⟨b, o + (k + n), none⟩) hbl).trans (hcl (k + n) (by omega))
                      rw [decide_eq_true hn, Bool.true_and] at CE
                      by_cases h35 : iAt l (k + n) = 35
                      · rw [decide_eq_false (by simpa using h35), Bool.false_or] at CE
                        rw [h35] at cn
                        by_cases hn0 : n = 0
                        · subst hn0
                          have CE' : closesP (l.drop k) = false := CE
                          rw [Nat.add_zero] at cn
                          have HZ : Hid _ := CE'
                          clear CE CE' hat hcl h35
                          go_wp2_with (first | (go_at_call 18; refine PA.mono ?_; rintro e wr ⟨rfl, rfl⟩))
                          all_goals
                            have HX := Hb_set3 K1 false 0 0
                            have hbX : Below w.heap.size w (((wr.setCell ⟨w.heap.size, 0, none⟩ (.bool false)).setCell ⟨w.heap.size, 1, none⟩ (.int .i64 0)).setCell ⟨w.heap.size, 2, none⟩ (.int .i64 0)) := ((hb.setCell (p := ⟨w.heap.size, 0, none⟩) (Nat.le_refl _) _).setCell (p := ⟨w.heap.size, 1, none⟩) (Nat.le_refl _) _).setCell (p := ⟨w.heap.size, 2, none⟩) (Nat.le_refl _) _
                            generalize ((wr.setCell ⟨w.heap.size, 0, none⟩ (.bool false)).setCell ⟨w.heap.size, 1, none⟩ (.int .i64 0)).setCell ⟨w.heap.size, 2, none⟩ (.int .i64 0) = WX at HX hbX ⊢
                            obtain ⟨z0, z1, z2⟩ := HX.cells
                            exact bodyPost_ret (v := headV l.length none) (by simp [results, Try.results9, go_sem, headV, z0, z1, z2]) rfl ⟨by rw [← HRv.out, HE.out]; dsimp only; rw [hkk, HZ.out]; rfl, hbX⟩
                        · have hne : ((k : Int) + n == (k : Int)) = false := by rw [beq_eq_false_iff_ne]; omega
                          rw [decide_eq_false hn0] at CE
                          have HZ : Hid (closesP (l.drop k) = true) := CE
                          clear CE hat hcl h35
                          go_wp2_with (first | (go_at_call 18; refine PA.mono ?_; rintro e wr ⟨rfl, rfl⟩))
                          have HX := Hb_set3 K1 false ch i
                          have hbX : Below w.heap.size w (((wr.setCell ⟨w.heap.size, 0, none⟩ (.bool false)).setCell ⟨w.heap.size, 1, none⟩ (.int .i64 ch)).setCell ⟨w.heap.size, 2, none⟩ (.int .i64 i)) := ((hb.setCell (p := ⟨w.heap.size, 0, none⟩) (Nat.le_refl _) _).setCell (p := ⟨w.heap.size, 1, none⟩) (Nat.le_refl _) _).setCell (p := ⟨w.heap.size, 2, none⟩) (Nat.le_refl _) _
                          generalize ((wr.setCell ⟨w.heap.size, 0, none⟩ (.bool false)).setCell ⟨w.heap.size, 1, none⟩ (.int .i64 ch)).setCell ⟨w.heap.size, 2, none⟩ (.int .i64 i) = WX at HX hbX ⊢
                          obtain ⟨z0, z1, z2⟩ := HX.cells
                          exact bodyPost_ret (v := headV l.length (some (false, ch, i))) (by simp [results, Try.results9, go_sem, headV, z0, z1, z2]) rfl ⟨by rw [← HRv.out, HE.out]; dsimp only; rw [hkk, HZ.out]; rfl, hbX⟩
                      · rw [decide_eq_true h35, Bool.true_or] at CE
                        have HZ : Hid (closesP (l.drop k) = false) := CE
                        generalize iAt l (k + n) = y at cn h35
                        have h35' : (y != 35) = true := by simpa using h35
                        clear CE hat hcl h35
                        go_wp2_with (first | (go_at_call 18; refine PA.mono ?_; rintro e wr ⟨rfl, rfl⟩))
                        have HX := Hb_set3 K1 false 0 0
                        have hbX : Below w.heap.size w (((wr.setCell ⟨w.heap.size, 0, none⟩ (.bool false)).setCell ⟨w.heap.size, 1, none⟩ (.int .i64 0)).setCell ⟨w.heap.size, 2, none⟩ (.int .i64 0)) := ((hb.setCell (p := ⟨w.heap.size, 0, none⟩) (Nat.le_refl _) _).setCell (p := ⟨w.heap.size, 1, none⟩) (Nat.le_refl _) _).setCell (p := ⟨w.heap.size, 2, none⟩) (Nat.le_refl _) _
                        generalize ((wr.setCell ⟨w.heap.size, 0, none⟩ (.bool false)).setCell ⟨w.heap.size, 1, none⟩ (.int .i64 0)).setCell ⟨w.heap.size, 2, none⟩ (.int .i64 0) = WX at HX hbX ⊢
                        obtain ⟨z0, z1, z2⟩ := HX.cells
                        exact bodyPost_ret (v := headV l.length none) (by simp [results, Try.results9, go_sem, headV, z0, z1, z2]) rfl ⟨by rw [← HRv.out, HE.out]; dsimp only; rw [hkk, HZ.out]; rfl, hbX⟩
                    · have hni : ¬ (k : Int) + n < l.length := by omega
                      rw [decide_eq_false hn, Bool.false_and] at CE
                      have HZ : Hid (closesP (l.drop k) = true) := CE
                      clear CE hat hcl
                      go_wp2_with (first | (go_at_call 18; refine PA.mono ?_; rintro e wr ⟨rfl, rfl⟩))
                      have HX := Hb_set3 K1 false ch i
                      have hbX : Below w.heap.size w (((wr.setCell ⟨w.heap.size, 0, none⟩ (.bool false)).setCell ⟨w.heap.size, 1, none⟩ (.int .i64 ch)).setCell ⟨w.heap.size, 2, none⟩ (.int .i64 i)) := ((hb.setCell (p := ⟨w.heap.size, 0, none⟩) (Nat.le_refl _) _).setCell (p := ⟨w.heap.size, 1, none⟩) (Nat.le_refl _) _).setCell (p := ⟨w.heap.size, 2, none⟩) (Nat.le_refl _) _
                      generalize ((wr.setCell ⟨w.heap.size, 0, none⟩ (.bool false)).setCell ⟨w.heap.size, 1, none⟩ (.int .i64 ch)).setCell ⟨w.heap.size, 2, none⟩ (.int .i64 i) = WX at HX hbX ⊢
                      obtain ⟨z0, z1, z2⟩ := HX.cells
                      exact bodyPost_ret (v := headV l.length (some (false, ch, i))) (by simp [results, Try.results9, go_sem, headV, z0, z1, z2]) rfl ⟨by rw [← HRv.out, HE.out]; dsimp only; rw [hkk, HZ.out]; rfl, hbX⟩
                  · have r4' : (y == 45) = false := by simpa using r4
                    have r5' : (y == 43) = false := by simpa using r5
                    clear h1 h4 h5 r4 r5
                    have SF := slice_from (some ⟨b, o, none⟩) l.length cap k (by omega) hc
                    have hnl := pastN_le (l.drop k)
                    rw [List.length_drop] at hnl
                    have PA := past_any (if cap = k then some ⟨b, o, none⟩ else (some (⟨b, o, none⟩ : Addr)).map (·.add k)) (l.drop k) (cap - k) wr (by simp; omega) ((h.on hb).from cap k hc)
                    have CE := close_eq (l.drop k)
                    rw [List.length_drop] at PA CE
                    generalize (if cap = k then some (⟨b, o, none⟩ : Addr) else (some (⟨b, o, none⟩ : Addr)).map (·.add k)) = q at SF PA
                    have hkk : 1 + (k - 1) = k := by omega
                    have hat : ∀ n, iAt (l.drop k) n = iAt l (k + n) := fun n => by simp [iAt]
                    rw [hat] at CE
                    generalize pastN (l.drop k) = n at hnl PA CE
                    obtain ⟨a0, a1, a2⟩ := K1.cells
                    obtain ⟨d0, d1, d2⟩ := K2.cells
                    have f0 := K1.frozen 0
                    have f1 := K1.frozen 1
                    have f2 := K1.frozen 2
                    by_cases hn : n < l.length - k
                    · have hni : (k : Int) + n < l.length := by omega
                      have cn : wr.cell? ⟨b, o + (k + n), none⟩ = some (.int .i64 (iAt l (k + n))) := (hb.cell (p := ⟨b, o + (k + n), none⟩) hbl).trans (hcl (k + n) (by omega))
                      rw [decide_eq_true hn, Bool.true_and] at CE
                      by_cases h35 : iAt l (k + n) = 35
                      · rw [decide_eq_false (by simpa using h35), Bool.false_or] at CE
                        rw [h35] at cn
                        by_cases hn0 : n = 0
                        · subst hn0
                          have CE' : closesP (l.drop k) = false := CE
                          rw [Nat.add_zero] at cn
                          have HZ : Hid _ := CE'
                          clear CE CE' hat hcl h35
                          go_wp2_with (first | (go_at_call 18; refine PA.mono ?_; rintro e wr ⟨rfl, rfl⟩))
                          all_goals
                            have HX := Hb_set3 K1 false 0 0
                            have hbX : Below w.heap.size w (((wr.setCell ⟨w.heap.size, 0, none⟩ (.bool false)).setCell ⟨w.heap.size, 1, none⟩ (.int .i64 0)).setCell ⟨w.heap.size, 2, none⟩ (.int .i64 0)) := ((hb.setCell (p := ⟨w.heap.size, 0, none⟩) (Nat.le_refl _) _).setCell (p := ⟨w.heap.size, 1, none⟩) (Nat.le_refl _) _).setCell (p := ⟨w.heap.size, 2, none⟩) (Nat.le_refl _) _
                            generalize ((wr.setCell ⟨w.heap.size, 0, none⟩ (.bool false)).setCell ⟨w.heap.size, 1, none⟩ (.int .i64 0)).setCell ⟨w.heap.size, 2, none⟩ (.int .i64 0) = WX at HX hbX ⊢
                            obtain ⟨z0, z1, z2⟩ := HX.cells
                            exact bodyPost_ret (v := headV l.length none) (by simp [results, Try.results9, go_sem, headV, z0, z1, z2]) rfl ⟨by rw [← HRv.out, HE.out]; dsimp only; rw [hkk, HZ.out]; rfl, hbX⟩
                        · have hne : ((k : Int) + n == (k : Int)) = false := by rw [beq_eq_false_iff_ne]; omega
                          rw [decide_eq_false hn0] at CE
                          have HZ : Hid (closesP (l.drop k) = true) := CE
                          clear CE hat hcl h35
                          go_wp2_with (first | (go_at_call 18; refine PA.mono ?_; rintro e wr ⟨rfl, rfl⟩))
                          have HX := Hb_set3 K1 false ch i
                          have hbX : Below w.heap.size w (((wr.setCell ⟨w.heap.size, 0, none⟩ (.bool false)).setCell ⟨w.heap.size, 1, none⟩ (.int .i64 ch)).setCell ⟨w.heap.size, 2, none⟩ (.int .i64 i)) := ((hb.setCell (p := ⟨w.heap.size, 0, none⟩) (Nat.le_refl _) _).setCell (p := ⟨w.heap.size, 1, none⟩) (Nat.le_refl _) _).setCell (p := ⟨w.heap.size, 2, none⟩) (Nat.le_refl _) _
                          generalize ((wr.setCell ⟨w.heap.size, 0, none⟩ (.bool false)).setCell ⟨w.heap.size, 1, none⟩ (.int .i64 ch)).setCell ⟨w.heap.size, 2, none⟩ (.int .i64 i) = WX at HX hbX ⊢
                          obtain ⟨z0, z1, z2⟩ := HX.cells
                          exact bodyPost_ret (v := headV l.length (some (false, ch, i))) (by simp [results, Try.results9, go_sem, headV, z0, z1, z2]) rfl ⟨by rw [← HRv.out, HE.out]; dsimp only; rw [hkk, HZ.out]; rfl, hbX⟩
                      · rw [decide_eq_true h35, Bool.true_or] at CE
                        have HZ : Hid (closesP (l.drop k) = false) := CE
                        generalize iAt l (k + n) = y at cn h35
                        have h35' : (y != 35) = true := by simpa using h35
                        clear CE hat hcl h35
                        go_wp2_with (first | (go_at_call 18; refine PA.mono ?_; rintro e wr ⟨rfl, rfl⟩))
                        have HX := Hb_set3 K1 false 0 0
                        have hbX : Below w.heap.size w (((wr.setCell ⟨w.heap.size, 0, none⟩ (.bool false)).setCell ⟨w.heap.size, 1, none⟩ (.int .i64 0)).setCell ⟨w.heap.size, 2, none⟩ (.int .i64 0)) := ((hb.setCell (p := ⟨w.heap.size, 0, none⟩) (Nat.le_refl _) _).setCell (p := ⟨w.heap.size, 1, none⟩) (Nat.le_refl _) _).setCell (p := ⟨w.heap.size, 2, none⟩) (Nat.le_refl _) _
                        generalize ((wr.setCell ⟨w.heap.size, 0, none⟩ (.bool false)).setCell ⟨w.heap.size, 1, none⟩ (.int .i64 0)).setCell ⟨w.heap.size, 2, none⟩ (.int .i64 0) = WX at HX hbX ⊢
                        obtain ⟨z0, z1, z2⟩ := HX.cells
                        exact bodyPost_ret (v := headV l.length none) (by simp [results, Try.results9, go_sem, headV, z0, z1, z2]) rfl ⟨by rw [← HRv.out, HE.out]; dsimp only; rw [hkk, HZ.out]; rfl, hbX⟩
                    · have hni : ¬ (k : Int) + n < l.length := by omega
                      rw [decide_eq_false hn, Bool.false_and] at CE
                      have HZ : Hid (closesP (l.drop k) = true) := CE
                      clear CE hat hcl
                      go_wp2_with (first | (go_at_call 18; refine PA.mono ?_; rintro e wr ⟨rfl, rfl⟩))
                      have HX := Hb_set3 K1 false ch i
                      have hbX : Below w.heap.size w (((wr.setCell ⟨w.heap.size, 0, none⟩ (.bool false)).setCell ⟨w.heap.size, 1, none⟩ (.int .i64 ch)).setCell ⟨w.heap.size, 2, none⟩ (.int .i64 i)) := ((hb.setCell (p := ⟨w.heap.size, 0, none⟩) (Nat.le_refl _) _).setCell (p := ⟨w.heap.size, 1, none⟩) (Nat.le_refl _) _).setCell (p := ⟨w.heap.size, 2, none⟩) (Nat.le_refl _) _
                      generalize ((wr.setCell ⟨w.heap.size, 0, none⟩ (.bool false)).setCell ⟨w.heap.size, 1, none⟩ (.int .i64 ch)).setCell ⟨w.heap.size, 2, none⟩ (.int .i64 i) = WX at HX hbX ⊢
                      obtain ⟨z0, z1, z2⟩ := HX.cells
                      exact bodyPost_ret (v := headV l.length (some (false, ch, i))) (by simp [results, Try.results9, go_sem, headV, z0, z1, z2]) rfl ⟨by rw [← HRv.out, HE.out]; dsimp only; rw [hkk, HZ.out]; rfl, hbX⟩
    · obtain rfl : k = l.length := by omega
      have HE : Hid (s = (ch, i, l.length - 1)) := by show s = _; rw [HK.out, scan_end (Nat.le_refl _)]; simp
      clear HK HS
      have SF := slice_from (some ⟨b, o, none⟩) l.length cap l.length (by omega) hc
      have PA := past_any (if cap = l.length then some ⟨b, o, none⟩ else (some (⟨b, o, none⟩ : Addr)).map (·.add l.length)) (l.drop l.length) (cap - l.length) wr (by simp) ((h.on hb).from cap l.length hc)
      rw [List.length_drop, List.drop_eq_nil_of_le (Nat.le_refl _)] at PA
      generalize (if cap = l.length then some (⟨b, o, none⟩ : Addr) else (some (⟨b, o, none⟩ : Addr)).map (·.add l.length)) = q at SF PA
      have hkk : 1 + (l.length - 1) = l.length := by omega
      have HZ : Hid (closesP (l.drop l.length) = true) := by show _ = _; rw [List.drop_eq_nil_of_le (Nat.le_refl _)]; rfl
      simp only [Nat.sub_self, pastN] at SF PA
      obtain ⟨a0, a1, a2⟩ := K1.cells
      have f0 := K1.frozen 0
      have f1 := K1.frozen 1
      have f2 := K1.frozen 2
      clear hcl
      go_wp2_with (first | (go_at_call 18; refine PA.mono ?_; rintro e wr ⟨rfl, rfl⟩))
      have HX := Hb_set3 K1 false ch i
      have hbX : Below w.heap.size w (((wr.setCell ⟨w.heap.size, 0, none⟩ (.bool false)).setCell ⟨w.heap.size, 1, none⟩ (.int .i64 ch)).setCell ⟨w.heap.size, 2, none⟩ (.int .i64 i)) := ((hb.setCell (p := ⟨w.heap.size, 0, none⟩) (Nat.le_refl _) _).setCell (p := ⟨w.heap.size, 1, none⟩) (Nat.le_refl _) _).setCell (p := ⟨w.heap.size, 2, none⟩) (Nat.le_refl _) _
      generalize ((wr.setCell ⟨w.heap.size, 0, none⟩ (.bool false)).setCell ⟨w.heap.size, 1, none⟩ (.int .i64 ch)).setCell ⟨w.heap.size, 2, none⟩ (.int .i64 i) = WX at HX hbX ⊢
      obtain ⟨z0, z1, z2⟩ := HX.cells
      exact bodyPost_ret (v := headV l.length (some (false, ch, i))) (by simp [results, Try.results9, go_sem, headV, z0, z1, z2]) rfl ⟨by rw [← HRv.out, HE.out]; dsimp only; rw [hkk, HZ.out]; rfl, hbX⟩

set_option maxRecDepth 100000 in
set_option maxHeartbeats 4000000 in
theorem rHead_gt (b o : Nat) (l : List Int) (cap : Nat) (w : World) (hl : l.length ≤ 1000) (hc : l.length ≤ cap) (hm : cap ≤ maxLen) (h : Is w (some ⟨b, o, none⟩) l) (hz : 0 < l.length) (h0 : iAt l 0 = 62) :
    Calls Try.prog 9 #[.slice (some ⟨b, o, none⟩) l.length cap] w fun e w' => e = .returned (headV l.length (headP l)) ∧ Below w.heap.size w w' := by
  have hh : headP l = if closesP (l.drop (1 + (scanP 0 0 (l.drop 1)).2.2)) = true then some (true, (scanP 0 0 (l.drop 1)).1, (scanP 0 0 (l.drop 1)).2.1) else none := by
    unfold headP
    rw [if_neg (by rw [h0]; omega), h0]
    rfl
  rw [hh]
  clear hh
  obtain ⟨s, hs⟩ : ∃ s, scanP 0 0 (l.drop 1) = s := ⟨_, rfl⟩
  have HS : Hid (scanP 0 0 (l.drop 1) = s) := hs
  rw [hs]
  clear hs
  obtain ⟨Rv, hRv⟩ : ∃ Rv, headV l.length (if closesP (l.drop (1 + s.2.2)) = true then some (true, s.1, s.2.1) else none) = Rv := ⟨_, rfl⟩
  rw [hRv]
  have HRv : Hid (headV l.length (if closesP (l.drop (1 + s.2.2)) = true then some (true, s.1, s.2.1) else none) = Rv) := hRv
  clear hRv
  obtain ⟨b', o', e, hcl⟩ := h.at hz
  cases e
  have c0 := hcl 0 hz
  rw [Nat.add_zero, h0] at c0
  have hbl := World.block_lt_of_cell? w _ c0
  dsimp only at hbl
  have hz' : (0 : Int) < l.length := by omega
  have hz2 : ((l.length : Int) == 0) = false := by simpa using (by omega : ¬ (l.length : Int) = 0)
  have hl' : (l.length : Int) ≤ 1000 := by omega
  have HB2 : Hid (Below w.heap.size w ((w.alloc (.cells #[.bool false, .int .i64 0, .int .i64 0] 29)).alloc (.cells #[.bool true, .int .i64 0, .int .i64 0] 29))) := ((Below.refl _ w).alloc (Nat.le_refl _) _).alloc (by simp) _
  have HH1 : Hid (Hb ((w.alloc (.cells #[.bool false, .int .i64 0, .int .i64 0] 29)).alloc (.cells #[.bool true, .int .i64 0, .int .i64 0] 29)) w.heap.size 29 false 0 0) := (Hb.new w 29 false 0 0).on ((Below.refl _ _).alloc (Nat.le_refl _) _)
  have HH2 : Hid (Hb ((w.alloc (.cells #[.bool false, .int .i64 0, .int .i64 0] 29)).alloc (.cells #[.bool true, .int .i64 0, .int .i64 0] 29)) (w.heap.size + 1) 29 true 0 0) := by
    have := Hb.new (w.alloc (.cells #[.bool false, .int .i64 0, .int .i64 0] 29)) 29 true 0 0
    exact (by simpa using this : Hb _ _ _ _ _ _)
  clear h0
  go_enter Try.func9, Try.ntmps9
  go_wp2
  go_loopw [6, 7, 8] (fun kv cv yv wr => ∃ (k : Nat) (ch i : Int), 1 ≤ k ∧ k ≤ l.length ∧ kv = .int .i64 k ∧ cv = .bool (decide (ch ≠ 0)) ∧ Hid (s = ((scanP ch i (l.drop k)).1, (scanP ch i (l.drop k)).2.1, (scanP ch i (l.drop k)).2.2 + (k - 1))) ∧ Hb wr w.heap.size 29 false 0 0 ∧ Hb wr (w.heap.size + 1) 29 true ch i ∧ Below w.heap.size w wr) (fun kv _ _ _ => l.length - (intOf kv).toNat)
  case atStart =>
    refine ⟨1, 0, 0, Nat.le_refl _, hz, rfl, rfl, ?_, HH1.out, HH2.out, HB2.out⟩
    show s = _
    rw [HS.out]
    rfl
  case round =>
    obtain ⟨k, ch, i, hk1, hk, rfl, rfl, HK, K1, K2, hb⟩ := hrel
    obtain ⟨m0, m1, m2⟩ := K2.cells
    have g1 := K2.frozen 1
    have g2 := K2.frozen 2
    by_cases hlt : k < l.length
    · have hli : (k : Int) < l.length := by omega
      have ck : wr.cell? ⟨b, o + k, none⟩ = some (.int .i64 (iAt l k)) := (hb.cell (p := ⟨b, o + k, none⟩) hbl).trans (hcl k hlt)
      cases ht : takeP ch i (iAt l k) with
      | some y =>
        obtain ⟨ch', i'⟩ := y
        have HK' : Hid (s = ((scanP ch' i' (l.drop (k + 1))).1, (scanP ch' i' (l.drop (k + 1))).2.1, (scanP ch' i' (l.drop (k + 1))).2.2 + (k + 1 - 1))) := by
          show s = _
          rw [HK.out, scan_yes hlt ht]
          simp
          omega
        generalize iAt l k = y at ck ht
        unfold takeP at ht
        clear hcl HK
        by_cases h1 : i = 0 ∧ 49 ≤ y ∧ y ≤ 57
        · rw [if_pos h1] at ht
          cases ht
          obtain ⟨rfl, h2, h3⟩ := h1
          go_wp2
          go_roundw
          case rel => exact ⟨k + 1, ch, y - 48, by omega, by omega, by go_num, rfl, HK', K1.grown (grown_set _ _ _ _) (by simp), K2.set2 _, hb.grown (grown_set _ _ _ _) hb.size (fun j e => by cases e; omega)⟩
          case measure => simp [intOf]; omega
        · rw [if_neg h1] at ht
          by_cases h4 : ch = 0 ∧ y = 45
          · rw [if_pos h4] at ht
            cases ht
            obtain ⟨rfl, rfl⟩ := h4
            clear h1
            go_wp2
            go_roundw
            case rel => exact ⟨k + 1, 1, i, by omega, by omega, by go_num, rfl, HK', K1.grown (grown_set _ _ _ _) (by simp), K2.set1 _, hb.grown (grown_set _ _ _ _) hb.size (fun j e => by cases e; omega)⟩
            case measure => simp [intOf]; omega
          · rw [if_neg h4] at ht
            by_cases h5 : ch = 0 ∧ y = 43
            · rw [if_pos h5] at ht
              cases ht
              obtain ⟨rfl, rfl⟩ := h5
              clear h1 h4
              have K3 := K2.set1 1
              have g3 := K3.frozen 1
              obtain ⟨m30, m31, m32⟩ := K3.cells
              go_wp2
              go_roundw
              case rel => exact ⟨k + 1, 2, i, by omega, by omega, by go_num, rfl, HK', (K1.grown (grown_set _ _ _ _) (by simp)).grown (grown_set _ _ _ _) (by simp), K3.set1 _, (hb.grown (grown_set _ _ _ _) hb.size (fun j e => by cases e; omega)).grown (grown_set _ _ _ _) (by have := hb.size; simp; omega) (fun j e => by cases e; omega)⟩
              case measure => simp [intOf]; omega
            · rw [if_neg h5] at ht
              cases ht
      | none =>
        have HE : Hid (s = (ch, i, k - 1)) := by show s = _; rw [HK.out, scan_no hlt ht]; simp
        clear HK HS
        generalize iAt l k = y at ck ht
        unfold takeP at ht
        by_cases h1 : i = 0 ∧ 49 ≤ y ∧ y ≤ 57
        · rw [if_pos h1] at ht; cases ht
        · rw [if_neg h1] at ht
          by_cases h4 : ch = 0 ∧ y = 45
          · rw [if_pos h4] at ht; cases ht
          · rw [if_neg h4] at ht
            by_cases h5 : ch = 0 ∧ y = 43
            · rw [if_pos h5] at ht; cases ht
            · clear ht
              by_cases r1 : 49 ≤ y
              · by_cases r2 : y ≤ 57
                · have r3 : (i == 0) = false := by simpa using (by omega : ¬ i = 0)
                  have r4 : (y == 45) = false := by simpa using (by omega : ¬ y = 45)
                  have r5 : (y == 43) = false := by simpa using (by omega : ¬ y = 43)
                  clear h1 h4 h5
                  have SF := slice_from (some ⟨b, o, none⟩) l.length cap k (by omega) hc
                  have hnl := pastN_le (l.drop k)
                  rw [List.length_drop] at hnl
                  have PA := past_any (if cap = k then some ⟨b, o, none⟩ else (some (⟨b, o, none⟩ : Addr)).map (·.add k)) (l.drop k) (cap - k) wr (by simp; omega) ((h.on hb).from cap k hc)
                  have CE := close_eq (l.drop k)
                  rw [List.length_drop] at PA CE
                  generalize (if cap = k then some (⟨b, o, none⟩ : Addr) else (some (⟨b, o, none⟩ : Addr)).map (·.add k)) = q at SF PA
                  have hkk : 1 + (k - 1) = k := by omega
                  have hat : ∀ n, iAt (l.drop k) n = iAt l (k + n) := fun n => by simp [iAt]
                  rw [hat] at CE
                  generalize pastN (l.drop k) = n at hnl PA CE
                  obtain ⟨a0, a1, a2⟩ := K1.cells
                  obtain ⟨d0, d1, d2⟩ := K2.cells
                  have f0 := K1.frozen 0
                  have f1 := K1.frozen 1
                  have f2 := K1.frozen 2
                  by_cases hn : n < l.length - k
                  · have hni : (k : Int) + n < l.length := by omega
                    have cn : wr.cell? ⟨b, o + (k + n), none⟩ = some (.int .i64 (iAt l (k + n))) := (hb.cell (p := ⟨b, o + (k + n), none⟩) hbl).trans (hcl (k + n) (by omega))
                    rw [decide_eq_true hn, Bool.true_and] at CE
                    by_cases h35 : iAt l (k + n) = 35
                    · rw [decide_eq_false (by simpa using h35), Bool.false_or] at CE
                      rw [h35] at cn
                      by_cases hn0 : n = 0
                      · subst hn0
                        have CE' : closesP (l.drop k) = false := CE
                        rw [Nat.add_zero] at cn
                        have HZ : Hid _ := CE'
                        clear CE CE' hat hcl h35
                        go_wp2_with (first | (go_at_call 18; refine PA.mono ?_; rintro e wr ⟨rfl, rfl⟩))
                        all_goals
                          have HX := Hb_set3 K1 false 0 0
                          have hbX : Below w.heap.size w (((wr.setCell ⟨w.heap.size, 0, none⟩ (.bool false)).setCell ⟨w.heap.size, 1, none⟩ (.int .i64 0)).setCell ⟨w.heap.size, 2, none⟩ (.int .i64 0)) := ((hb.setCell (p := ⟨w.heap.size, 0, none⟩) (Nat.le_refl _) _).setCell (p := ⟨w.heap.size, 1, none⟩) (Nat.le_refl _) _).setCell (p := ⟨w.heap.size, 2, none⟩) (Nat.le_refl _) _
                          generalize ((wr.setCell ⟨w.heap.size, 0, none⟩ (.bool false)).setCell ⟨w.heap.size, 1, none⟩ (.int .i64 0)).setCell ⟨w.heap.size, 2, none⟩ (.int .i64 0) = WX at HX hbX ⊢
                          obtain ⟨z0, z1, z2⟩ := HX.cells
                          exact bodyPost_ret (v := headV l.length none) (by simp [results, Try.results9, go_sem, headV, z0, z1, z2]) rfl ⟨by rw [← HRv.out, HE.out]; dsimp only; rw [hkk, HZ.out]; rfl, hbX⟩
                      · have hne : ((k : Int) + n == (k : Int)) = false := by rw [beq_eq_false_iff_ne]; omega
                        rw [decide_eq_false hn0] at CE
                        have HZ : Hid (closesP (l.drop k) = true) := CE
                        clear CE hat hcl h35
                        go_wp2_with (first | (go_at_call 18; refine PA.mono ?_; rintro e wr ⟨rfl, rfl⟩))
                        have HX := Hb_set3 K1 true ch i
                        have hbX : Below w.heap.size w (((wr.setCell ⟨w.heap.size, 0, none⟩ (.bool true)).setCell ⟨w.heap.size, 1, none⟩ (.int .i64 ch)).setCell ⟨w.heap.size, 2, none⟩ (.int .i64 i)) := ((hb.setCell (p := ⟨w.heap.size, 0, none⟩) (Nat.le_refl _) _).setCell (p := ⟨w.heap.size, 1, none⟩) (Nat.le_refl _) _).setCell (p := ⟨w.heap.size, 2, none⟩) (Nat.le_refl _) _
                        generalize ((wr.setCell ⟨w.heap.size, 0, none⟩ (.bool true)).setCell ⟨w.heap.size, 1, none⟩ (.int .i64 ch)).setCell ⟨w.heap.size, 2, none⟩ (.int .i64 i) = WX at HX hbX ⊢
                        obtain ⟨z0, z1, z2⟩ := HX.cells
                        exact bodyPost_ret (v := headV l.length (some (true, ch, i))) (by simp [results, Try.results9, go_sem, headV, z0, z1, z2]) rfl ⟨by rw [← HRv.out, HE.out]; dsimp only; rw [hkk, HZ.out]; rfl, hbX⟩
                    · rw [decide_eq_true h35, Bool.true_or] at CE
                      have HZ : Hid (closesP (l.drop k) = false) := CE
                      generalize iAt l (k + n) = y at cn h35
                      have h35' : (y != 35) = true := by simpa using h35
                      clear CE hat hcl h35
                      go_wp2_with (first | (go_at_call 18; refine PA.mono ?_; rintro e wr ⟨rfl, rfl⟩))
                      have HX := Hb_set3 K1 false 0 0
                      have hbX : Below w.heap.size w (((wr.setCell ⟨w.heap.size, 0, none⟩ (.bool false)).setCell ⟨w.heap.size, 1, none⟩ (.int .i64 0)).setCell ⟨w.heap.size, 2, none⟩ (.int .i64 0)) := ((hb.setCell (p := ⟨w.heap.size, 0, none⟩) (Nat.le_refl _) _).setCell (p := ⟨w.heap.size, 1, none⟩) (Nat.le_refl _) _).setCell (p := ⟨w.heap.size, 2, none⟩) (Nat.le_refl _) _
                      generalize ((wr.setCell ⟨w.heap.size, 0, none⟩ (.bool false)).setCell ⟨w.heap.size, 1, none⟩ (.int .i64 0)).setCell ⟨w.heap.size, 2, none⟩ (.int .i64 0) = WX at HX hbX ⊢
                      obtain ⟨z0, z1, z2⟩ := HX.cells
                      exact bodyPost_ret (v := headV l.length none) (by simp [results, Try.results9, go_sem, headV, z0, z1, z2]) rfl ⟨by rw [← HRv.out, HE.out]; dsimp only; rw [hkk, HZ.out]; rfl, hbX⟩
                  · have hni : ¬ (k : Int) + n < l.length := by omega
                    rw [decide_eq_false hn, Bool.false_and] at CE
                    have HZ : Hid (closesP (l.drop k) = true) := CE
                    clear CE hat hcl
                    go_wp2_with (first | (go_at_call 18; refine PA.mono ?_; rintro e wr ⟨rfl, rfl⟩))
                    have HX := Hb_set3 K1 true ch i
                    have hbX : Below w.heap.size w (((wr.setCell ⟨w.heap.size, 0, none⟩ (.bool true)).setCell ⟨w.heap.size, 1, none⟩ (.int .i64 ch)).setCell ⟨w.heap.size, 2, none⟩ (.int .i64 i)) := ((hb.setCell (p := ⟨w.heap.size, 0, none⟩) (Nat.le_refl _) _).setCell (p := ⟨w.heap.size, 1, none⟩) (Nat.le_refl _) _).setCell (p := ⟨w.heap.size, 2, none⟩) (Nat.le_refl _) _
                    generalize ((wr.setCell ⟨w.heap.size, 0, none⟩ (.bool true)).setCell ⟨w.heap.size, 1, none⟩ (.int .i64 ch)).setCell ⟨w.heap.size, 2, none⟩ (.int .i64 i) = WX at HX hbX ⊢
                    obtain ⟨z0, z1, z2⟩ := HX.cells
                    exact bodyPost_ret (v := headV l.length (some (true, ch, i))) (by simp [results, Try.results9, go_sem, headV, z0, z1, z2]) rfl ⟨by rw [← HRv.out, HE.out]; dsimp only; rw [hkk, HZ.out]; rfl, hbX⟩
                · have r4 : (y == 45) = false := by simpa using (by omega : ¬ y = 45)
                  have r5 : (y == 43) = false := by simpa using (by omega : ¬ y = 43)
                  clear h1 h4 h5
                  have SF := slice_from (some ⟨b, o, none⟩) l.length cap k (by omega) hc
                  have hnl := pastN_le (l.drop k)
                  rw [List.length_drop] at hnl
                  have PA := past_any (if cap = k then some ⟨b, o, none⟩ else (some (⟨b, o, none⟩ : Addr)).map (·.add k)) (l.drop k) (cap - k) wr (by simp; omega) ((h.on hb).from cap k hc)
                  have CE := close_eq (l.drop k)
                  rw [List.length_drop] at PA CE
                  generalize (if cap = k then some (⟨b, o, none⟩ : Addr) else (some (⟨b, o, none⟩ : Addr)).map (·.add k)) = q at SF PA
                  have hkk : 1 + (k - 1) = k := by omega
                  have hat : ∀ n, iAt (l.drop k) n = iAt l (k + n) := fun n => by simp [iAt]
                  rw [hat] at CE
                  generalize pastN (l.drop k) = n at hnl PA CE
                  obtain ⟨a0, a1, a2⟩ := K1.cells
                  obtain ⟨d0, d1, d2⟩ := K2.cells
                  have f0 := K1.frozen 0
                  have f1 := K1.frozen 1
                  have f2 := K1.frozen 2
                  by_cases hn : n < l.length - k
                  · have hni : (k : Int) + n < l.length := by omega
                    have cn : wr.cell? ⟨b, o + (k + n), none⟩ = some (.int .i64 (iAt l (k + n))) := (hb.cell (p := ⟨b, o + (k + n), none⟩) hbl).trans (hcl (k + n) (by omega))
                    rw [decide_eq_true hn, Bool.true_and] at CE
                    by_cases h35 : iAt l (k + n) = 35
                    · rw [decide_eq_false (by simpa using h35), Bool.false_or] at CE
                      rw [h35] at cn
                      by_cases hn0 : n = 0
                      · subst hn0
                        have CE' : closesP (l.drop k) = false := CE
                        rw [Nat.add_zero] at cn
                        have HZ : Hid _ := CE'
                        clear CE CE' hat hcl h35
                        go_wp2_with (first | (go_at_call 18; refine PA.mono ?_; rintro e wr ⟨rfl, rfl⟩))
                        all_goals
                          have HX := Hb_set3 K1 false 0 0
                          have hbX : Below w.heap.size w (((wr.setCell ⟨w.heap.size, 0, none⟩ (.bool false)).setCell ⟨w.heap.size, 1, none⟩ (.int .i64 0)).setCell ⟨w.heap.size, 2, none⟩ (.int .i64 0)) := ((hb.setCell (p := ⟨w.heap.size, 0, none⟩) (Nat.le_refl _) _).setCell (p := ⟨w.heap.size, 1, none⟩) (Nat.le_refl _) _).setCell (p := ⟨w.heap.size, 2, none⟩) (Nat.le_refl _) _
                          generalize ((wr.setCell ⟨w.heap.size, 0, none⟩ (.bool false)).setCell ⟨w.heap.size, 1, none⟩ (.int .i64 0)).setCell ⟨w.heap.size, 2, none⟩ (.int .i64 0) = WX at HX hbX ⊢
                          obtain ⟨z0, z1, z2⟩ := HX.cells
                          exact bodyPost_ret (v := headV l.length none) (by simp [results, Try.results9, go_sem, headV, z0, z1, z2]) rfl ⟨by rw [← HRv.out, HE.out]; dsimp only; rw [hkk, HZ.out]; rfl, hbX⟩
                      · have hne : ((k : Int) + n == (k : Int)) = false := by rw [beq_eq_false_iff_ne]; omega
                        rw [decide_eq_false hn0] at CE
                        have HZ : Hid (closesP (l.drop k) = true) := CE
                        clear CE hat hcl h35
                        go_wp2_with (first | (go_at_call 18; refine PA.mono ?_; rintro e wr ⟨rfl, rfl⟩))
                        have HX := Hb_set3 K1 true ch i
                        have hbX : Below w.heap.size w (((wr.setCell ⟨w.heap.size, 0, none⟩ (.bool true)).setCell ⟨w.heap.size, 1, none⟩ (.int .i64 ch)).setCell ⟨w.heap.size, 2, none⟩ (.int .i64 i)) := ((hb.setCell (p := ⟨w.heap.size, 0, none⟩) (Nat.le_refl _) _).setCell (p := ⟨w.heap.size, 1, none⟩) (Nat.le_refl _) _).setCell (p := ⟨w.heap.size, 2, none⟩) (Nat.le_refl _) _
                        generalize ((wr.setCell ⟨w.heap.size, 0, none⟩ (.bool true)).setCell ⟨w.heap.size, 1, none⟩ (.int .i64 ch)).setCell ⟨w.heap.size, 2, none⟩ (.int .i64 i) = WX at HX hbX ⊢
                        obtain ⟨z0, z1, z2⟩ := HX.cells
                        exact bodyPost_ret (v := headV l.length (some (true, ch, i))) (by simp [results, Try.results9, go_sem, headV, z0, z1, z2]) rfl ⟨by rw [← HRv.out, HE.out]; dsimp only; rw [hkk, HZ.out]; rfl, hbX⟩
                    · rw [decide_eq_true h35, Bool.true_or] at CE
                      have HZ : Hid (closesP (l.drop k) = false) := CE
                      generalize iAt l (k + n) = y at cn h35
                      have h35' : (y != 35) = true := by simpa using h35
                      clear CE hat hcl h35
                      go_wp2_with (first | (go_at_call 18; refine PA.mono ?_; rintro e wr ⟨rfl, rfl⟩))
                      have HX := Hb_set3 K1 false 0 0
                      have hbX : Below w.heap.size w (((wr.setCell ⟨w.heap.size, 0, none⟩ (.bool false)).setCell ⟨w.heap.size, 1, none⟩ (.int .i64 0)).setCell ⟨w.heap.size, 2, none⟩ (.int .i64 0)) := ((hb.setCell (p := ⟨w.heap.size, 0, none⟩) (Nat.le_refl _) _).setCell (p := ⟨w.heap.size, 1, none⟩) (Nat.le_refl _) _).setCell (p := ⟨w.heap.size, 2, none⟩) (Nat.le_refl _) _
                      generalize ((wr.setCell ⟨w.heap.size, 0, none⟩ (.bool false)).setCell ⟨w.heap.size, 1, none⟩ (.int .i64 0)).setCell ⟨w.heap.size, 2, none⟩ (.int .i64 0) = WX at HX hbX ⊢
                      obtain ⟨z0, z1, z2⟩ := HX.cells
                      exact bodyPost_ret (v := headV l.length none) (by simp [results, Try.results9, go_sem, headV, z0, z1, z2]) rfl ⟨by rw [← HRv.out, HE.out]; dsimp only; rw [hkk, HZ.out]; rfl, hbX⟩
                  · have hni : ¬ (k : Int) + n < l.length := by omega
                    rw [decide_eq_false hn, Bool.false_and] at CE
                    have HZ : Hid (closesP (l.drop k) = true) := CE
                    clear CE hat hcl
                    go_wp2_with (first | (go_at_call 18; refine PA.mono ?_; rintro e wr ⟨rfl, rfl⟩))
                    have HX := Hb_set3 K1 true ch i
                    have hbX : Below w.heap.size w (((wr.setCell ⟨w.heap.size, 0, none⟩ (.bool true)).setCell ⟨w.heap.size, 1, none⟩ (.int .i64 ch)).setCell ⟨w.heap.size, 2, none⟩ (.int .i64 i)) := ((hb.setCell (p := ⟨w.heap.size, 0, none⟩) (Nat.le_refl _) _).setCell (p := ⟨w.heap.size, 1, none⟩) (Nat.le_refl _) _).setCell (p := ⟨w.heap.size, 2, none⟩) (Nat.le_refl _) _
                    generalize ((wr.setCell ⟨w.heap.size, 0, none⟩ (.bool true)).setCell ⟨w.heap.size, 1, none⟩ (.int .i64 ch)).setCell ⟨w.heap.size, 2, none⟩ (.int .i64 i) = WX at HX hbX ⊢
                    obtain ⟨z0, z1, z2⟩ := HX.cells
                    exact bodyPost_ret (v := headV l.length (some (true, ch, i))) (by simp [results, Try.results9, go_sem, headV, z0, z1, z2]) rfl ⟨by rw [← HRv.out, HE.out]; dsimp only; rw [hkk, HZ.out]; rfl, hbX⟩
              · by_cases r4 : y = 45
                · subst r4
                  have r5 : decide (ch = 0) = false := decide_eq_false (by omega)
                  clear h1 h4 h5
                  have SF := slice_from (some ⟨b, o, none⟩) l.length cap k (by omega) hc
                  have hnl := pastN_le (l.drop k)
                  rw [List.length_drop] at hnl
                  have PA := past_any (if cap = k then some ⟨b, o, none⟩ else (some (⟨b, o, none⟩ : Addr)).map (·.add k)) (l.drop k) (cap - k) wr (by simp; omega) ((h.on hb).from cap k hc)
                  have CE := close_eq (l.drop k)
                  rw [List.length_drop] at PA CE
                  generalize (if cap = k then some (⟨b, o, none⟩ : Addr) else (some (⟨b, o, none⟩ : Addr)).map (·.add k)) = q at SF PA
                  have hkk : 1 + (k - 1) = k := by omega
                  have hat : ∀ n, iAt (l.drop k) n = iAt l (k + n) := fun n => by simp [iAt]
                  rw [hat] at CE
                  generalize pastN (l.drop k) = n at hnl PA CE
                  obtain ⟨a0, a1, a2⟩ := K1.cells
                  obtain ⟨d0, d1, d2⟩ := K2.cells
                  have f0 := K1.frozen 0
                  have f1 := K1.frozen 1
                  have f2 := K1.frozen 2
                  by_cases hn : n < l.length - k
                  · have hni : (k : Int) + n < l.length := by omega
                    have cn : wr.cell? ⟨b, o + (k + n), none⟩ = some (.int .i64 (iAt l (k + n))) := (hb.cell (p := ⟨b, o + (k + n), none⟩) hbl).trans (hcl (k + n) (by omega))
                    rw [decide_eq_true hn, Bool.true_and] at CE
                    by_cases h35 : iAt l (k + n) = 35
                    · rw [decide_eq_false (by simpa using h35), Bool.false_or] at CE
                      rw [h35] at cn
                      by_cases hn0 : n = 0
                      · subst hn0
                        have CE' : closesP (l.drop k) = false := CE
                        rw [Nat.add_zero] at cn
                        have HZ : Hid _ := CE'
                        clear CE CE' hat hcl h35
                        go_wp2_with (first | (go_at_call 18; refine PA.mono ?_; rintro e wr ⟨rfl, rfl⟩))
                        all_goals
                          have HX := Hb_set3 K1 false 0 0
                          have hbX : Below w.heap.size w (((wr.setCell ⟨w.heap.size, 0, none⟩ (.bool false)).setCell ⟨w.heap.size, 1, none⟩ (.int .i64 0)).setCell ⟨w.heap.size, 2, none⟩ (.int .i64 0)) := ((hb.setCell (p := ⟨w.heap.size, 0, none⟩) (Nat.le_refl _) _).setCell (p := ⟨w.heap.size, 1, none⟩) (Nat.le_refl _) _).setCell (p := ⟨w.heap.size, 2, none⟩) (Nat.le_refl _) _
                          generalize ((wr.setCell ⟨w.heap.size, 0, none⟩ (.bool false)).setCell ⟨w.heap.size, 1, none⟩ (.int .i64 0)).setCell ⟨w.heap.size, 2, none⟩ (.int .i64 0) = WX at HX hbX ⊢
                          obtain ⟨z0, z1, z2⟩ := HX.cells
                          exact bodyPost_ret (v := headV l.length none) (by simp [results, Try.results9, go_sem, headV, z0, z1, z2]) rfl ⟨by rw [← HRv.out, HE.out]; dsimp only; rw [hkk, HZ.out]; rfl, hbX⟩
                      · have hne : ((k : Int) + n == (k : Int)) = false := by rw [beq_eq_false_iff_ne]; omega
                        rw [decide_eq_false hn0] at CE
                        have HZ : Hid (closesP (l.drop k) = true) := CE
                        clear CE hat hcl h35
                        go_wp2_with (first | (go_at_call 18; refine PA.mono ?_; rintro e wr ⟨rfl, rfl⟩))
                        have HX := Hb_set3 K1 true ch i
                        have hbX : Below w.heap.size w (((wr.setCell ⟨w.heap.size, 0, none⟩ (.bool true)).setCell ⟨w.heap.size, 1, none⟩ (.int .i64 ch)).setCell ⟨w.heap.size, 2, none⟩ (.int .i64 i)) := ((hb.setCell (p := ⟨w.heap.size, 0, none⟩) (Nat.le_refl _) _).setCell (p := ⟨w.heap.size, 1, none⟩) (Nat.le_refl _) _).setCell (p := ⟨w.heap.size, 2, none⟩) (Nat.le_refl _) _
                        generalize ((wr.setCell ⟨w.heap.size, 0, none⟩ (.bool true)).setCell ⟨w.heap.size, 1, none⟩ (.int .i64 ch)).setCell ⟨w.heap.size, 2, none⟩ (.int .i64 i) = WX at HX hbX ⊢
                        obtain ⟨z0, z1, z2⟩ := HX.cells
                        exact bodyPost_ret (v := headV l.length (some (true, ch, i))) (by simp [results, Try.results9, go_sem, headV, z0, z1, z2]) rfl ⟨by rw [← HRv.out, HE.out]; dsimp only; rw [hkk, HZ.out]; rfl, hbX⟩
                    · rw [decide_eq_true h35, Bool.true_or] at CE
                      have HZ : Hid (closesP (l.drop k) = false) := CE
                      generalize iAt l (k + n) = y at cn h35
                      have h35' : (y != 35) = true := by simpa using h35
                      clear CE hat hcl h35
                      go_wp2_with (first | (go_at_call 18; refine PA.mono ?_; rintro e wr ⟨rfl, rfl⟩))
                      have HX := Hb_set3 K1 false 0 0
                      have hbX : Below w.heap.size w (((wr.setCell ⟨w.heap.size, 0, none⟩ (.bool false)).setCell ⟨w.heap.size, 1, none⟩ (.int .i64 0)).setCell ⟨w.heap.size, 2, none⟩ (.int .i64 0)) := ((hb.setCell (p := ⟨w.heap.size, 0, none⟩) (Nat.le_refl _) _).setCell (p := ⟨w.heap.size, 1, none⟩) (Nat.le_refl _) _).setCell (p := ⟨w.heap.size, 2, none⟩) (Nat.le_refl _) _
                      generalize ((wr.setCell ⟨w.heap.size, 0, none⟩ (.bool false)).setCell ⟨w.heap.size, 1, none⟩ (.int .i64 0)).setCell ⟨w.heap.size, 2, none⟩ (.int .i64 0) = WX at HX hbX ⊢
                      obtain ⟨z0, z1, z2⟩ := HX.cells
                      exact bodyPost_ret (v := headV l.length none) (by simp [results, Try.results9, go_sem, headV, z0, z1, z2]) rfl ⟨by rw [← HRv.out, HE.out]; dsimp only; rw [hkk, HZ.out]; rfl, hbX⟩
                  · have hni : ¬ (k : Int) + n < l.length := by omega
                    rw [decide_eq_false hn, Bool.false_and] at CE
                    have HZ : Hid (closesP (l.drop k) = true) := CE
                    clear CE hat hcl
                    go_wp2_with (first | (go_at_call 18; refine PA.mono ?_; rintro e wr ⟨rfl, rfl⟩))
                    have HX := Hb_set3 K1 true ch i
                    have hbX : Below w.heap.size w (((wr.setCell ⟨w.heap.size, 0, none⟩ (.bool true)).setCell ⟨w.heap.size, 1, none⟩ (.int .i64 ch)).setCell ⟨w.heap.size, 2, none⟩ (.int .i64 i)) := ((hb.setCell (p := ⟨w.heap.size, 0, none⟩) (Nat.le_refl _) _).setCell (p := ⟨w.heap.size, 1, none⟩) (Nat.le_refl _) _).setCell (p := ⟨w.heap.size, 2, none⟩) (Nat.le_refl _) _
                    generalize ((wr.setCell ⟨w.heap.size, 0, none⟩ (.bool true)).setCell ⟨w.heap.size, 1, none⟩ (.int .i64 ch)).setCell ⟨w.heap.size, 2, none⟩ (.int .i64 i) = WX at HX hbX ⊢
                    obtain ⟨z0, z1, z2⟩ := HX.cells
                    exact bodyPost_ret (v := headV l.length (some (true, ch, i))) (by simp [results, Try.results9, go_sem, headV, z0, z1, z2]) rfl ⟨by rw [← HRv.out, HE.out]; dsimp only; rw [hkk, HZ.out]; rfl, hbX⟩
                · by_cases r5 : y = 43
                  · subst r5
                    have r6 : decide (ch = 0) = false := decide_eq_false (by omega)
                    clear h1 h4 h5 r4
                    have SF := slice_from (some ⟨b, o, none⟩) l.length cap k (by omega) hc
                    have hnl := pastN_le (l.drop k)
                    rw [List.length_drop] at hnl
                    have PA := past_any (if cap = k then some ⟨b, o, none⟩ else (some (⟨b, o, none⟩ : Addr)).map (·.add k)) (l.drop k) (cap - k) wr (by simp; omega) ((h.on hb).from cap k hc)
                    have CE := close_eq (l.drop k)
                    rw [List.length_drop] at PA CE
                    generalize (if cap = k then some (⟨b, o, none⟩ : Addr) else (some (⟨b, o, none⟩ : Addr)).map (·.add k)) = q at SF PA
                    have hkk : 1 + (k - 1) = k := by omega
                    have hat : ∀ n, iAt (l.drop k) n = iAt l (k + n) := fun n => by simp [iAt]
                    rw [hat] at CE
                    generalize pastN (l.drop k) = n at hnl PA CE
                    obtain ⟨a0, a1, a2⟩ := K1.cells
                    obtain ⟨d0, d1, d2⟩ := K2.cells
                    have f0 := K1.frozen 0
                    have f1 := K1.frozen 1
                    have f2 := K1.frozen 2
                    by_cases hn : n < l.length - k
                    · have hni : (k : Int) + n < l.length := by omega
                      have cn : wr.cell? ⟨b, o + (k + n), none⟩ = some (.int .i64 (iAt l (k + n))) := (hb.cell (p := ⟨b, o + (k + n), none⟩) hbl).trans (hcl (k + n) (by omega))
                      rw [decide_eq_true hn, Bool.true_and] at CE
                      by_cases h35 : iAt l (k + n) = 35
                      · rw [decide_eq_false (by simpa using h35), Bool.false_or] at CE
                        rw [h35] at cn
                        by_cases hn0 : n = 0
                        · subst hn0
                          have CE' : closesP (l.drop k) = false := CE
                          rw [Nat.add_zero] at cn
                          have HZ : Hid _ := CE'
                          clear CE CE' hat hcl h35
                          go_wp2_with (first | (go_at_call 18; refine PA.mono ?_; rintro e wr ⟨rfl, rfl⟩))
                          all_goals
                            have HX := Hb_set3 K1 false 0 0
                            have hbX : Below w.heap.size w (((wr.setCell ⟨w.heap.size, 0, none⟩ (.bool false)).setCell ⟨w.heap.size, 1, none⟩ (.int .i64 0)).setCell ⟨w.heap.size, 2, none⟩ (.int .i64 0)) := ((hb.setCell (p := ⟨w.heap.size, 0, none⟩) (Nat.le_refl _) _).setCell (p := ⟨w.heap.size, 1, none⟩) (Nat.le_refl _) _).setCell (p := ⟨w.heap.size, 2, none⟩) (Nat.le_refl _) _
                            generalize ((wr.setCell ⟨w.heap.size, 0, none⟩ (.bool false)).setCell ⟨w.heap.size, 1, none⟩ (.int .i64 0)).setCell ⟨w.heap.size, 2, none⟩ (.int .i64 0) = WX at HX hbX ⊢
                            obtain ⟨z0, z1, z2⟩ := HX.cells
                            exact bodyPost_ret (v := headV l.length none) (by simp [results, Try.results9, go_sem, headV, z0, z1, z2]) rfl ⟨by rw [← HRv.out, HE.out]; dsimp only; rw [hkk, HZ.out]; rfl, hbX⟩
                        · have hne : ((k : Int) + n == (k : Int)) = false := by rw [beq_eq_false_iff_ne]; omega
                          rw [decide_eq_false hn0] at CE
                          have HZ : Hid (closesP (l.drop k) = true) := CE
                          clear CE hat hcl h35
                          go_wp2_with (first | (go_at_call 18; refine PA.mono ?_; rintro e wr ⟨rfl, rfl⟩))
                          have HX := Hb_set3 K1 true ch i
                          have hbX : Below w.heap.size w (((wr.setCell ⟨w.heap.size, 0, none⟩ (.bool true)).setCell ⟨w.heap.size, 1, none⟩ (.int .i64 ch)).setCell ⟨w.heap.size, 2, none⟩ (.int .i64 i)) := ((hb.setCell (p := ⟨w.heap.size, 0, none⟩) (Nat.le_refl _) _).setCell (p := ⟨w.heap.size, 1, none⟩) (Nat.le_refl _) _).setCell (p := ⟨w.heap.size, 2, none⟩) (Nat.le_refl _) _
                          generalize ((wr.setCell ⟨w.heap.size, 0, none⟩ (.bool true)).setCell ⟨w.heap.size, 1, none⟩ (.int .i64 ch)).setCell ⟨w.heap.size, 2, none⟩ (.int .i64 i) = WX at HX hbX ⊢
                          obtain ⟨z0, z1, z2⟩ := HX.cells
                          exact bodyPost_ret (v := headV l.length (some (true, ch, i))) (by simp [results, Try.results9, go_sem, headV, z0, z1, z2]) rfl ⟨by rw [← HRv.out, HE.out]; dsimp only; rw [hkk, HZ.out]; rfl, hbX⟩
                      · rw [decide_eq_true h35, Bool.true_or] at CE
                        have HZ : Hid (closesP (l.drop k) = false) := CE
                        generalize iAt l (k + n) = y at cn h35
                        have h35' : (y != 35) = true := by simpa using h35
                        clear CE hat hcl h35
                        go_wp2_with (first | (go_at_call 18; refine PA.mono ?_; rintro e wr ⟨rfl, rfl⟩))
                        have HX := Hb_set3 K1 false 0 0
                        have hbX : Below w.heap.size w (((wr.setCell ⟨w.heap.size, 0, none⟩ (.bool false)).setCell ⟨w.heap.size, 1, none⟩ (.int .i64 0)).setCell ⟨w.heap.size, 2, none⟩ (.int .i64 0)) := ((hb.setCell (p := ⟨w.heap.size, 0, none⟩) (Nat.le_refl _) _).setCell (p := ⟨w.heap.size, 1, none⟩) (Nat.le_refl _) _).setCell (p := ⟨w.heap.size, 2, none⟩) (Nat.le_refl _) _
                        generalize ((wr.setCell ⟨w.heap.size, 0, none⟩ (.bool false)).setCell ⟨w.heap.size, 1, none⟩ (.int .i64 0)).setCell ⟨w.heap.size, 2, none⟩ (.int .i64 0) = WX at HX hbX ⊢
                        obtain ⟨z0, z1, z2⟩ := HX.cells
                        exact bodyPost_ret (v := headV l.length none) (by simp [results, Try.results9, go_sem, headV, z0, z1, z2]) rfl ⟨by rw [← HRv.out, HE.out]; dsimp only; rw [hkk, HZ.out]; rfl, hbX⟩
                    · have hni : ¬ (k : Int) + n < l.length := by omega
                      rw [decide_eq_false hn, Bool.false_and] at CE
                      have HZ : Hid (closesP (l.drop k) = true) := CE
                      clear CE hat hcl
                      go_wp2_with (first | (go_at_call 18; refine PA.mono ?_; rintro e wr ⟨rfl, rfl⟩))
                      have HX := Hb_set3 K1 true ch i
                      have hbX : Below w.heap.size w (((wr.setCell ⟨w.heap.size, 0, none⟩ (.bool true)).setCell ⟨w.heap.size, 1, none⟩ (.int .i64 ch)).setCell ⟨w.heap.size, 2, none⟩ (.int .i64 i)) := ((hb.setCell (p := ⟨w.heap.size, 0, none⟩) (Nat.le_refl _) _).setCell (p := ⟨w.heap.size, 1, none⟩) (Nat.le_refl _) _).setCell (p := ⟨w.heap.size, 2, none⟩) (Nat.le_refl _) _
                      generalize ((wr.setCell ⟨w.heap.size, 0, none⟩ (.bool true)).setCell ⟨w.heap.size, 1, none⟩ (.int .i64 ch)).setCell ⟨w.heap.size, 2, none⟩ (.int .i64 i) = WX at HX hbX ⊢
                      obtain ⟨z0, z1, z2⟩ := HX.cells
                      exact bodyPost_ret (v := headV l.length (some (true, ch, i))) (by simp [results, Try.results9, go_sem, headV, z0, z1, z2]) rfl ⟨by rw [← HRv.out, HE.out]; dsimp only; rw [hkk, HZ.out]; rfl, hbX⟩
                  · have r4' : (y == 45) = false := by simpa using r4
                    have r5' : (y == 43) = false := by simpa using r5
                    clear h1 h4 h5 r4 r5
                    have SF := slice_from (some ⟨b, o, none⟩) l.length cap k (by omega) hc
                    have hnl := pastN_le (l.drop k)
                    rw [List.length_drop] at hnl
                    have PA := past_any (if cap = k then some ⟨b, o, none⟩ else (some (⟨b, o, none⟩ : Addr)).map (·.add k)) (l.drop k) (cap - k) wr (by simp; omega) ((h.on hb).from cap k hc)
                    have CE := close_eq (l.drop k)
                    rw [List.length_drop] at PA CE
                    generalize (if cap = k then some (⟨b, o, none⟩ : Addr) else (some (⟨b, o, none⟩ : Addr)).map (·.add k)) = q at SF PA
                    have hkk : 1 + (k - 1) = k := by omega
                    have hat : ∀ n, iAt (l.drop k) n = iAt l (k + n) := fun n => by simp [iAt]
                    rw [hat] at CE
                    generalize pastN (l.drop k) = n at hnl PA CE
                    obtain ⟨a0, a1, a2⟩ := K1.cells
                    obtain ⟨d0, d1, d2⟩ := K2.cells
                    have f0 := K1.frozen 0
                    have f1 := K1.frozen 1
                    have f2 := K1.frozen 2
                    by_cases hn : n < l.length - k
                    · have hni : (k : Int) + n < l.length := by omega
                      have cn : wr.cell? ⟨b, o + (k + n), none⟩ = some (.int .i64 (iAt l (k + n))) := (hb.cell (p := ⟨b, o + (k + n), none⟩) hbl).trans (hcl (k + n) (by omega))
                      rw [decide_eq_true hn, Bool.true_and] at CE
                      by_cases h35 : iAt l (k + n) = 35
                      · rw [decide_eq_false (by simpa using h35), Bool.false_or] at CE
                        rw [h35] at cn
                        by_cases hn0 : n = 0
                        · subst hn0
                          have CE' : closesP (l.drop k) = false := CE
                          rw [Nat.add_zero] at cn
                          have HZ : Hid _ := CE'
                          clear CE CE' hat hcl h35
                          go_wp2_with (first | (go_at_call 18; refine PA.mono ?_; rintro e wr ⟨rfl, rfl⟩))
                          all_goals
                            have HX := Hb_set3 K1 false 0 0
                            have hbX : Below w.heap.size w (((wr.setCell ⟨w.heap.size, 0, none⟩ (.bool false)).setCell ⟨w.heap.size, 1, none⟩ (.int .i64 0)).setCell ⟨w.heap.size, 2, none⟩ (.int .i64 0)) := ((hb.setCell (p := ⟨w.heap.size, 0, none⟩) (Nat.le_refl _) _).setCell (p := ⟨w.heap.size, 1, none⟩) (Nat.le_refl _) _).setCell (p := ⟨w.heap.size, 2, none⟩) (Nat.le_refl _) _
                            generalize ((wr.setCell ⟨w.heap.size, 0, none⟩ (.bool false)).setCell ⟨w.heap.size, 1, none⟩ (.int .i64 0)).setCell ⟨w.heap.size, 2, none⟩ (.int .i64 0) = WX at HX hbX ⊢
                            obtain ⟨z0, z1, z2⟩ := HX.cells
                            exact bodyPost_ret (v := headV l.length none) (by simp [results, Try.results9, go_sem, headV, z0, z1, z2]) rfl ⟨by rw [← HRv.out, HE.out]; dsimp only; rw [hkk, HZ.out]; rfl, hbX⟩
                        · have hne : ((k : Int) + n == (k : Int)) = false := by rw [beq_eq_false_iff_ne]; omega
                          rw [decide_eq_false hn0] at CE
                          have HZ : Hid (closesP (l.drop k) = true) := CE
                          clear CE hat hcl h35
                          go_wp2_with (first | (go_at_call 18; refine PA.mono ?_; rintro e wr ⟨rfl, rfl⟩))
                          have HX := Hb_set3 K1 true ch i
                          have hbX : Below w.heap.size w (((wr.setCell ⟨w.heap.size, 0, none⟩ (.bool true)).setCell ⟨w.heap.size, 1, none⟩ (.int .i64 ch)).setCell ⟨w.heap.size, 2, none⟩ (.int .i64 i)) := ((hb.setCell (p := ⟨w.heap.size, 0, none⟩) (Nat.le_refl _) _).setCell (p := ⟨w.heap.size, 1, none⟩) (Nat.le_refl _) _).setCell (p := ⟨w.heap.size, 2, none⟩) (Nat.le_refl _) _
                          generalize ((wr.setCell ⟨w.heap.size, 0, none⟩ (.bool true)).setCell ⟨w.heap.size, 1, none⟩ (.int .i64 ch)).setCell ⟨w.heap.size, 2, none⟩ (.int .i64 i) = WX at HX hbX ⊢
                          obtain ⟨z0, z1, z2⟩ := HX.cells
                          exact bodyPost_ret (v := headV l.length (some (true, ch, i))) (by simp [results, Try.results9, go_sem, headV, z0, z1, z2]) rfl ⟨by rw [← HRv.out, HE.out]; dsimp only; rw [hkk, HZ.out]; rfl, hbX⟩
                      · rw [decide_eq_true h35, Bool.true_or] at CE
                        have HZ : Hid (closesP (l.drop k) = false) := CE
                        generalize iAt l (k + n) = y at cn h35
                        have h35' : (y != 35) = true := by simpa using h35
                        clear CE hat hcl h35
                        go_wp2_with (first | (go_at_call 18; refine PA.mono ?_; rintro e wr ⟨rfl, rfl⟩))
                        have HX := Hb_set3 K1 false 0 0
                        have hbX : Below w.heap.size w (((wr.setCell ⟨w.heap.size, 0, none⟩ (.bool false)).setCell ⟨w.heap.size, 1, none⟩ (.int .i64 0)).setCell ⟨w.heap.size, 2, none⟩ (.int .i64 0)) := ((hb.setCell (p := ⟨w.heap.size, 0, none⟩) (Nat.le_refl _) _).setCell (p := ⟨w.heap.size, 1, none⟩) (Nat.le_refl _) _).setCell (p := ⟨w.heap.size, 2, none⟩) (Nat.le_refl _) _
                        generalize ((wr.setCell ⟨w.heap.size, 0, none⟩ (.bool false)).setCell ⟨w.heap.size, 1, none⟩ (.int .i64 0)).setCell ⟨w.heap.size, 2, none⟩ (.int .i64 0) = WX at HX hbX ⊢
                        obtain ⟨z0, z1, z2⟩ := HX.cells
                        exact bodyPost_ret (v := headV l.length none) (by simp [results, Try.results9, go_sem, headV, z0, z1, z2]) rfl ⟨by rw [← HRv.out, HE.out]; dsimp only; rw [hkk, HZ.out]; rfl, hbX⟩
                    · have hni : ¬ (k : Int) + n < l.length := by omega
                      rw [decide_eq_false hn, Bool.false_and] at CE
                      have HZ : Hid (closesP (l.drop k) = true) := CE
                      clear CE hat hcl
                      go_wp2_with (first | (go_at_call 18; refine PA.mono ?_; rintro e wr ⟨rfl, rfl⟩))
                      have HX := Hb_set3 K1 true ch i
                      have hbX : Below w.heap.size w (((wr.setCell ⟨w.heap.size, 0, none⟩ (.bool true)).setCell ⟨w.heap.size, 1, none⟩ (.int .i64 ch)).setCell ⟨w.heap.size, 2, none⟩ (.int .i64 i)) := ((hb.setCell (p := ⟨w.heap.size, 0, none⟩) (Nat.le_refl _) _).setCell (p := ⟨w.heap.size, 1, none⟩) (Nat.le_refl _) _).setCell (p := ⟨w.heap.size, 2, none⟩) (Nat.le_refl _) _
                      generalize ((wr.setCell ⟨w.heap.size, 0, none⟩ (.bool true)).setCell ⟨w.heap.size, 1, none⟩ (.int .i64 ch)).setCell ⟨w.heap.size, 2, none⟩ (.int .i64 i) = WX at HX hbX ⊢
                      obtain ⟨z0, z1, z2⟩ := HX.cells
                      exact bodyPost_ret (v := headV l.length (some (true, ch, i))) (by simp [results, Try.results9, go_sem, headV, z0, z1, z2]) rfl ⟨by rw [← HRv.out, HE.out]; dsimp only; rw [hkk, HZ.out]; rfl, hbX⟩
    · obtain rfl : k = l.length := by omega
      have HE : Hid (s = (ch, i, l.length - 1)) := by show s = _; rw [HK.out, scan_end (Nat.le_refl _)]; simp
      clear HK HS
      have SF := slice_from (some ⟨b, o, none⟩) l.length cap l.length (by omega) hc
      have PA := past_any (if cap = l.length then some ⟨b, o, none⟩ else (some (⟨b, o, none⟩ : Addr)).map (·.add l.length)) (l.drop l.length) (cap - l.length) wr (by simp) ((h.on hb).from cap l.length hc)
      rw [List.length_drop, List.drop_eq_nil_of_le (Nat.le_refl _)] at PA
      generalize (if cap = l.length then some (⟨b, o, none⟩ : Addr) else (some (⟨b, o, none⟩ : Addr)).map (·.add l.length)) = q at SF PA
      have hkk : 1 + (l.length - 1) = l.length := by omega
      have HZ : Hid (closesP (l.drop l.length) = true) := by show _ = _; rw [List.drop_eq_nil_of_le (Nat.le_refl _)]; rfl
      simp only [Nat.sub_self, pastN] at SF PA
      obtain ⟨a0, a1, a2⟩ := K1.cells
      have f0 := K1.frozen 0
      have f1 := K1.frozen 1
      have f2 := K1.frozen 2
      clear hcl
      go_wp2_with (first | (go_at_call 18; refine PA.mono ?_; rintro e wr ⟨rfl, rfl⟩))
      have HX := Hb_set3 K1 true ch i
      have hbX : Below w.heap.size w (((wr.setCell ⟨w.heap.size, 0, none⟩ (.bool true)).setCell ⟨w.heap.size, 1, none⟩ (.int .i64 ch)).setCell ⟨w.heap.size, 2, none⟩ (.int .i64 i)) := ((hb.setCell (p := ⟨w.heap.size, 0, none⟩) (Nat.le_refl _) _).setCell (p := ⟨w.heap.size, 1, none⟩) (Nat.le_refl _) _).setCell (p := ⟨w.heap.size, 2, none⟩) (Nat.le_refl _) _
      generalize ((wr.setCell ⟨w.heap.size, 0, none⟩ (.bool true)).setCell ⟨w.heap.size, 1, none⟩ (.int .i64 ch)).setCell ⟨w.heap.size, 2, none⟩ (.int .i64 i) = WX at HX hbX ⊢
      obtain ⟨z0, z1, z2⟩ := HX.cells
      exact bodyPost_ret (v := headV l.length (some (true, ch, i))) (by simp [results, Try.results9, go_sem, headV, z0, z1, z2]) rfl ⟨by rw [← HRv.out, HE.out]; dsimp only; rw [hkk, HZ.out]; rfl, hbX⟩

theorem rHead_any (p : Option Addr) (l : List Int) (cap : Nat) (w : World) (hl : l.length ≤ 1000) (hc : l.length ≤ cap) (hm : cap ≤ maxLen) (h : Is w p l) :
    Calls Try.prog 9 #[.slice p l.length cap] w fun e w' => e = .returned (headV l.length (headP l)) ∧ Below w.heap.size w w' := by
  by_cases h0 : l.length = 0 ∨ (iAt l 0 ≠ 124 ∧ iAt l 0 ≠ 62)
  · rw [show headP l = none from by unfold headP; rw [if_pos h0]]
    exact rHead_first p l cap w hl h h0
  · obtain ⟨b, o, rfl, -⟩ := h.at (by omega)
    by_cases h1 : iAt l 0 = 124
    · exact rHead_bar b o l cap w hl hc hm h (by omega) h1
    · exact rHead_gt b o l cap w hl hc hm h (by omega) (by omega)
end Go.Proofs.Ytgmcomfeggidnaa
