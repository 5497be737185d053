/- Head, as it runs. -/
import Derived.Test.YtgmcomfeggidnaaHed
set_option linter.unusedVariables false
set_option linter.unusedSimpArgs false
namespace Go.Proofs.Ytgmcomfeggidnaa
open Go.RowKit

theorem Hb_set3 {w : World} {b : Nat} {t : TypeId} {f0 : Bool} {c0 i0 : Int} (h : Hb w b t f0 c0 i0) (f : Bool) (ch i : Int) : Hb (((w.setCell ⟨b, 0, none⟩ (.bool f)).setCell ⟨b, 1, none⟩ (.int .i64 ch)).setCell ⟨b, 2, none⟩ (.int .i64 i)) b t f ch i := by
  have h1 : Hb (w.setCell ⟨b, 0, none⟩ (.bool f)) b t f c0 i0 := heap_setCell_same w b 0 _ t _ h
  exact (h1.set1 ch).set2 i

set_option maxRecDepth 100000 in
set_option maxHeartbeats 800000 in
theorem Head_bar (b o : Nat) (l : List Int) (cap : Nat) (w : World) (hl : l.length ≤ 1000) (hc : l.length ≤ cap) (hm : cap ≤ maxLen) (h : Is w (some ⟨b, o, none⟩) l) (hz : 0 < l.length) (h0 : iAt l 0 = 124) :
    Calls Try.prog 8 #[.slice (some ⟨b, o, none⟩) l.length cap] w fun e w' => e = .returned (headV l.length (headP l)) ∧ Below w.heap.size w w' := by
  have hh : headP l = if closesP (l.drop (1 + (scanP 0 0 (l.drop 1)).2.2)) = true then some (false, (scanP 0 0 (l.drop 1)).1, (scanP 0 0 (l.drop 1)).2.1) else none := by
    unfold headP
    rw [if_neg (by rw [h0]; omega), h0]
    rfl
  rw [hh]
  clear hh
  obtain ⟨s, hs⟩ : ∃ s, scanP 0 0 (l.drop 1) = s := ⟨_, rfl⟩
  have HS : Hid (scanP 0 0 (l.drop 1) = s) := hs
  rw [hs]
  clear hs
  obtain ⟨Rv, hRv⟩ : ∃ Rv, headV l.length (if closesP (l.drop (1 + s.2.2)) = true then some (false, s.1, s.2.1) else none) = Rv := ⟨_, rfl⟩
  rw [hRv]
  have HRv : Hid (headV l.length (if closesP (l.drop (1 + s.2.2)) = true then some (false, s.1, s.2.1) else none) = Rv) := hRv
  clear hRv
  obtain ⟨b', o', e, hcl⟩ := h.at hz
  cases e
  have c0 := hcl 0 hz
  rw [Nat.add_zero, h0] at c0
  have hbl := World.block_lt_of_cell? w _ c0
  dsimp only at hbl
  have hz' : (0 : Int) < l.length := by omega
  have hz2 : ((l.length : Int) == 0) = false := by simpa using (by omega : ¬ (l.length : Int) = 0)
  have hl' : (l.length : Int) ≤ 1000 := by omega
  have HB2 : Hid (Below w.heap.size w ((w.alloc (.cells #[.bool false, .int .i64 0, .int .i64 0] 25)).alloc (.cells #[.bool false, .int .i64 0, .int .i64 0] 25))) := ((Below.refl _ w).alloc (Nat.le_refl _) _).alloc (by simp) _
  have HH1 : Hid (Hb ((w.alloc (.cells #[.bool false, .int .i64 0, .int .i64 0] 25)).alloc (.cells #[.bool false, .int .i64 0, .int .i64 0] 25)) w.heap.size 25 false 0 0) := (Hb.new w 25 false 0 0).on ((Below.refl _ _).alloc (Nat.le_refl _) _)
  have HH2 : Hid (Hb ((w.alloc (.cells #[.bool false, .int .i64 0, .int .i64 0] 25)).alloc (.cells #[.bool false, .int .i64 0, .int .i64 0] 25)) (w.heap.size + 1) 25 false 0 0) := by
    have := Hb.new (w.alloc (.cells #[.bool false, .int .i64 0, .int .i64 0] 25)) 25 false 0 0
    exact (by simpa using this : Hb _ _ _ _ _ _)
  clear h0
  go_enter Try.func8, Try.ntmps8
  go_wp2
  go_loopw [6] (fun kv wr => ∃ (k : Nat) (ch i : Int), 1 ≤ k ∧ k ≤ l.length ∧ kv = .int .i64 k ∧ Hid (s = ((scanP ch i (l.drop k)).1, (scanP ch i (l.drop k)).2.1, (scanP ch i (l.drop k)).2.2 + (k - 1))) ∧ Hb wr w.heap.size 25 false 0 0 ∧ Hb wr (w.heap.size + 1) 25 false ch i ∧ Below w.heap.size w wr) (fun kv _ => l.length - (intOf kv).toNat)
  case atStart =>
    refine ⟨1, 0, 0, Nat.le_refl _, hz, rfl, ?_, HH1.out, HH2.out, HB2.out⟩
    show s = _
    rw [HS.out]
    rfl
  case round =>
    obtain ⟨k, ch, i, hk1, hk, rfl, HK, K1, K2, hb⟩ := hrel
    by_cases hlt : k < l.length
    · have hli : (k : Int) < l.length := by omega
      have ck : wr.cell? ⟨b, o + k, none⟩ = some (.int .i64 (iAt l k)) := (hb.cell (p := ⟨b, o + k, none⟩) hbl).trans (hcl k hlt)
      cases ht : takeP ch i (iAt l k) with
      | some y =>
        obtain ⟨ch', i'⟩ := y
        have TK := take_yes (w.heap.size + 1) false ch i (iAt l k) ch' i' wr K2 ht
        have HK' : Hid (s = ((scanP ch' i' (l.drop (k + 1))).1, (scanP ch' i' (l.drop (k + 1))).2.1, (scanP ch' i' (l.drop (k + 1))).2.2 + (k + 1 - 1))) := by
          show s = _
          rw [HK.out, scan_yes hlt ht]
          simp
          omega
        generalize iAt l k = y at ck TK
        clear ht hcl
        go_wp2_with (first | (go_at_call 16; refine TK.mono ?_; rintro e w2 ⟨rfl, T2, hg2⟩))
        go_roundw
        case rel => exact ⟨k + 1, ch', i', by omega, by omega, by go_num, HK', K1.grown hg2 (by simp), T2, hb.grown hg2 hb.size (fun j e => by cases e; omega)⟩
        case measure => simp [intOf]; omega
      | none =>
        have TK := take_no (w.heap.size + 1) false ch i (iAt l k) wr K2 ht
        have HE : Hid (s = (ch, i, k - 1)) := by show s = _; rw [HK.out, scan_no hlt ht]; simp
        have SF := slice_from (some ⟨b, o, none⟩) l.length cap k (by omega) hc
        have CL := closes_any (if cap = k then some ⟨b, o, none⟩ else (some (⟨b, o, none⟩ : Addr)).map (·.add k)) (l.drop k) (cap - k) wr (by simp; omega) (by unfold maxLen at hm; omega) ((h.on hb).from cap k hc)
        rw [List.length_drop] at CL
        generalize (if cap = k then some (⟨b, o, none⟩ : Addr) else (some (⟨b, o, none⟩ : Addr)).map (·.add k)) = q at SF CL
        have hkk : 1 + (k - 1) = k := by omega
        generalize iAt l k = y at ck TK
        clear ht hcl HK HS
        cases hcz : closesP (l.drop k) with
        | true =>
          rw [hcz] at CL
          have HZ : Hid (closesP (l.drop k) = true) := hcz
          clear hcz
          go_wp2_with (first | (go_at_call 16; refine TK.mono ?_; rintro e w2 ⟨rfl, rfl⟩) | (go_at_call 17; refine CL.mono ?_; rintro e w3 ⟨rfl, hb3⟩; obtain ⟨a0, a1, a2⟩ := (K1.on hb3).cells; obtain ⟨d0, d1, d2⟩ := (K2.on hb3).cells; have f0 := (K1.on hb3).frozen 0; have f1 := (K1.on hb3).frozen 1; have f2 := (K1.on hb3).frozen 2))
          have HX := Hb_set3 (K1.on hb3) false ch i
          have hbX : Below w.heap.size w (((w3.setCell ⟨w.heap.size, 0, none⟩ (.bool false)).setCell ⟨w.heap.size, 1, none⟩ (.int .i64 ch)).setCell ⟨w.heap.size, 2, none⟩ (.int .i64 i)) := ((((hb.trans (hb3.mono hb.size)).setCell (p := ⟨w.heap.size, 0, none⟩) (Nat.le_refl _) _).setCell (p := ⟨w.heap.size, 1, none⟩) (Nat.le_refl _) _).setCell (p := ⟨w.heap.size, 2, none⟩) (Nat.le_refl _) _)
          generalize ((w3.setCell ⟨w.heap.size, 0, none⟩ (.bool false)).setCell ⟨w.heap.size, 1, none⟩ (.int .i64 ch)).setCell ⟨w.heap.size, 2, none⟩ (.int .i64 i) = WX at HX hbX ⊢
          obtain ⟨z0, z1, z2⟩ := HX.cells
          exact bodyPost_ret (v := headV l.length (some (false, ch, i))) (by simp [results, Try.results8, go_sem, headV, z0, z1, z2]) rfl ⟨by rw [← HRv.out, HE.out]; dsimp only; rw [hkk, HZ.out]; rfl, hbX⟩
        | false =>
          rw [hcz] at CL
          have HZ : Hid (closesP (l.drop k) = false) := hcz
          clear hcz
          go_wp2_with (first | (go_at_call 16; refine TK.mono ?_; rintro e w2 ⟨rfl, rfl⟩) | (go_at_call 17; refine CL.mono ?_; rintro e w3 ⟨rfl, hb3⟩; obtain ⟨a0, a1, a2⟩ := (K1.on hb3).cells; obtain ⟨d0, d1, d2⟩ := (K2.on hb3).cells; have f0 := (K1.on hb3).frozen 0; have f1 := (K1.on hb3).frozen 1; have f2 := (K1.on hb3).frozen 2))
          have HX := Hb_set3 (K1.on hb3) false 0 0
          have hbX : Below w.heap.size w (((w3.setCell ⟨w.heap.size, 0, none⟩ (.bool false)).setCell ⟨w.heap.size, 1, none⟩ (.int .i64 0)).setCell ⟨w.heap.size, 2, none⟩ (.int .i64 0)) := ((((hb.trans (hb3.mono hb.size)).setCell (p := ⟨w.heap.size, 0, none⟩) (Nat.le_refl _) _).setCell (p := ⟨w.heap.size, 1, none⟩) (Nat.le_refl _) _).setCell (p := ⟨w.heap.size, 2, none⟩) (Nat.le_refl _) _)
          generalize ((w3.setCell ⟨w.heap.size, 0, none⟩ (.bool false)).setCell ⟨w.heap.size, 1, none⟩ (.int .i64 0)).setCell ⟨w.heap.size, 2, none⟩ (.int .i64 0) = WX at HX hbX ⊢
          obtain ⟨z0, z1, z2⟩ := HX.cells
          exact bodyPost_ret (v := headV l.length none) (by simp [results, Try.results8, go_sem, headV, z0, z1, z2]) rfl ⟨by rw [← HRv.out, HE.out]; dsimp only; rw [hkk, HZ.out]; rfl, hbX⟩
    · obtain rfl : k = l.length := by omega
      have HE : Hid (s = (ch, i, l.length - 1)) := by show s = _; rw [HK.out, scan_end (Nat.le_refl _)]; simp
      have SF := slice_from (some ⟨b, o, none⟩) l.length cap l.length (by omega) hc
      have CL := closes_any (if cap = l.length then some ⟨b, o, none⟩ else (some (⟨b, o, none⟩ : Addr)).map (·.add l.length)) (l.drop l.length) (cap - l.length) wr (by simp) (by unfold maxLen at hm; omega) ((h.on hb).from cap l.length hc)
      rw [List.length_drop] at CL
      generalize (if cap = l.length then some (⟨b, o, none⟩ : Addr) else (some (⟨b, o, none⟩ : Addr)).map (·.add l.length)) = q at SF CL
      have hkk : 1 + (l.length - 1) = l.length := by omega
      clear hcl HK HS
      have HZ : Hid (closesP (l.drop l.length) = true) := by show _ = _; rw [List.drop_eq_nil_of_le (Nat.le_refl _)]; rfl
      rw [HZ.out] at CL
      simp only [Nat.sub_self] at SF CL
      go_wp2_with (first | (go_at_call 17; refine CL.mono ?_; rintro e w3 ⟨rfl, hb3⟩; obtain ⟨a0, a1, a2⟩ := (K1.on hb3).cells; obtain ⟨d0, d1, d2⟩ := (K2.on hb3).cells; have f0 := (K1.on hb3).frozen 0; have f1 := (K1.on hb3).frozen 1; have f2 := (K1.on hb3).frozen 2))
      have HX := Hb_set3 (K1.on hb3) false ch i
      have hbX : Below w.heap.size w (((w3.setCell ⟨w.heap.size, 0, none⟩ (.bool false)).setCell ⟨w.heap.size, 1, none⟩ (.int .i64 ch)).setCell ⟨w.heap.size, 2, none⟩ (.int .i64 i)) := ((((hb.trans (hb3.mono hb.size)).setCell (p := ⟨w.heap.size, 0, none⟩) (Nat.le_refl _) _).setCell (p := ⟨w.heap.size, 1, none⟩) (Nat.le_refl _) _).setCell (p := ⟨w.heap.size, 2, none⟩) (Nat.le_refl _) _)
      generalize ((w3.setCell ⟨w.heap.size, 0, none⟩ (.bool false)).setCell ⟨w.heap.size, 1, none⟩ (.int .i64 ch)).setCell ⟨w.heap.size, 2, none⟩ (.int .i64 i) = WX at HX hbX ⊢
      obtain ⟨z0, z1, z2⟩ := HX.cells
      exact bodyPost_ret (v := headV l.length (some (false, ch, i))) (by simp [results, Try.results8, go_sem, headV, z0, z1, z2]) rfl ⟨by rw [← HRv.out, HE.out]; dsimp only; rw [hkk, HZ.out]; rfl, hbX⟩

set_option maxRecDepth 100000 in
set_option maxHeartbeats 800000 in
theorem Head_gt (b o : Nat) (l : List Int) (cap : Nat) (w : World) (hl : l.length ≤ 1000) (hc : l.length ≤ cap) (hm : cap ≤ maxLen) (h : Is w (some ⟨b, o, none⟩) l) (hz : 0 < l.length) (h0 : iAt l 0 = 62) :
    Calls Try.prog 8 #[.slice (some ⟨b, o, none⟩) l.length cap] w fun e w' => e = .returned (headV l.length (headP l)) ∧ Below w.heap.size w w' := by
  have hh : headP l = if closesP (l.drop (1 + (scanP 0 0 (l.drop 1)).2.2)) = true then some (true, (scanP 0 0 (l.drop 1)).1, (scanP 0 0 (l.drop 1)).2.1) else none := by
    unfold headP
    rw [if_neg (by rw [h0]; omega), h0]
    rfl
  rw [hh]
  clear hh
  obtain ⟨s, hs⟩ : ∃ s, scanP 0 0 (l.drop 1) = s := ⟨_, rfl⟩
  have HS : Hid (scanP 0 0 (l.drop 1) = s) := hs
  rw [hs]
  clear hs
  obtain ⟨Rv, hRv⟩ : ∃ Rv, headV l.length (if closesP (l.drop (1 + s.2.2)) = true then some (true, s.1, s.2.1) else none) = Rv := ⟨_, rfl⟩
  rw [hRv]
  have HRv : Hid (headV l.length (if closesP (l.drop (1 + s.2.2)) = true then some (true, s.1, s.2.1) else none) = Rv) := hRv
  clear hRv
  obtain ⟨b', o', e, hcl⟩ := h.at hz
  cases e
  have c0 := hcl 0 hz
  rw [Nat.add_zero, h0] at c0
  have hbl := World.block_lt_of_cell? w _ c0
  dsimp only at hbl
  have hz' : (0 : Int) < l.length := by omega
  have hz2 : ((l.length : Int) == 0) = false := by simpa using (by omega : ¬ (l.length : Int) = 0)
  have hl' : (l.length : Int) ≤ 1000 := by omega
  have HB2 : Hid (Below w.heap.size w ((w.alloc (.cells #[.bool false, .int .i64 0, .int .i64 0] 25)).alloc (.cells #[.bool true, .int .i64 0, .int .i64 0] 25))) := ((Below.refl _ w).alloc (Nat.le_refl _) _).alloc (by simp) _
  have HH1 : Hid (Hb ((w.alloc (.cells #[.bool false, .int .i64 0, .int .i64 0] 25)).alloc (.cells #[.bool true, .int .i64 0, .int .i64 0] 25)) w.heap.size 25 false 0 0) := (Hb.new w 25 false 0 0).on ((Below.refl _ _).alloc (Nat.le_refl _) _)
  have HH2 : Hid (Hb ((w.alloc (.cells #[.bool false, .int .i64 0, .int .i64 0] 25)).alloc (.cells #[.bool true, .int .i64 0, .int .i64 0] 25)) (w.heap.size + 1) 25 true 0 0) := by
    have := Hb.new (w.alloc (.cells #[.bool false, .int .i64 0, .int .i64 0] 25)) 25 true 0 0
    exact (by simpa using this : Hb _ _ _ _ _ _)
  clear h0
  go_enter Try.func8, Try.ntmps8
  go_wp2
  go_loopw [6] (fun kv wr => ∃ (k : Nat) (ch i : Int), 1 ≤ k ∧ k ≤ l.length ∧ kv = .int .i64 k ∧ Hid (s = ((scanP ch i (l.drop k)).1, (scanP ch i (l.drop k)).2.1, (scanP ch i (l.drop k)).2.2 + (k - 1))) ∧ Hb wr w.heap.size 25 false 0 0 ∧ Hb wr (w.heap.size + 1) 25 true ch i ∧ Below w.heap.size w wr) (fun kv _ => l.length - (intOf kv).toNat)
  case atStart =>
    refine ⟨1, 0, 0, Nat.le_refl _, hz, rfl, ?_, HH1.out, HH2.out, HB2.out⟩
    show s = _
    rw [HS.out]
    rfl
  case round =>
    obtain ⟨k, ch, i, hk1, hk, rfl, HK, K1, K2, hb⟩ := hrel
    by_cases hlt : k < l.length
    · have hli : (k : Int) < l.length := by omega
      have ck : wr.cell? ⟨b, o + k, none⟩ = some (.int .i64 (iAt l k)) := (hb.cell (p := ⟨b, o + k, none⟩) hbl).trans (hcl k hlt)
      cases ht : takeP ch i (iAt l k) with
      | some y =>
        obtain ⟨ch', i'⟩ := y
        have TK := take_yes (w.heap.size + 1) true ch i (iAt l k) ch' i' wr K2 ht
        have HK' : Hid (s = ((scanP ch' i' (l.drop (k + 1))).1, (scanP ch' i' (l.drop (k + 1))).2.1, (scanP ch' i' (l.drop (k + 1))).2.2 + (k + 1 - 1))) := by
          show s = _
          rw [HK.out, scan_yes hlt ht]
          simp
          omega
        generalize iAt l k = y at ck TK
        clear ht hcl
        go_wp2_with (first | (go_at_call 16; refine TK.mono ?_; rintro e w2 ⟨rfl, T2, hg2⟩))
        go_roundw
        case rel => exact ⟨k + 1, ch', i', by omega, by omega, by go_num, HK', K1.grown hg2 (by simp), T2, hb.grown hg2 hb.size (fun j e => by cases e; omega)⟩
        case measure => simp [intOf]; omega
      | none =>
        have TK := take_no (w.heap.size + 1) true ch i (iAt l k) wr K2 ht
        have HE : Hid (s = (ch, i, k - 1)) := by show s = _; rw [HK.out, scan_no hlt ht]; simp
        have SF := slice_from (some ⟨b, o, none⟩) l.length cap k (by omega) hc
        have CL := closes_any (if cap = k then some ⟨b, o, none⟩ else (some (⟨b, o, none⟩ : Addr)).map (·.add k)) (l.drop k) (cap - k) wr (by simp; omega) (by unfold maxLen at hm; omega) ((h.on hb).from cap k hc)
        rw [List.length_drop] at CL
        generalize (if cap = k then some (⟨b, o, none⟩ : Addr) else (some (⟨b, o, none⟩ : Addr)).map (·.add k)) = q at SF CL
        have hkk : 1 + (k - 1) = k := by omega
        generalize iAt l k = y at ck TK
        clear ht hcl HK HS
        cases hcz : closesP (l.drop k) with
        | true =>
          rw [hcz] at CL
          have HZ : Hid (closesP (l.drop k) = true) := hcz
          clear hcz
          go_wp2_with (first | (go_at_call 16; refine TK.mono ?_; rintro e w2 ⟨rfl, rfl⟩) | (go_at_call 17; refine CL.mono ?_; rintro e w3 ⟨rfl, hb3⟩; obtain ⟨a0, a1, a2⟩ := (K1.on hb3).cells; obtain ⟨d0, d1, d2⟩ := (K2.on hb3).cells; have f0 := (K1.on hb3).frozen 0; have f1 := (K1.on hb3).frozen 1; have f2 := (K1.on hb3).frozen 2))
          have HX := Hb_set3 (K1.on hb3) true ch i
          have hbX : Below w.heap.size w (((w3.setCell ⟨w.heap.size, 0, none⟩ (.bool true)).setCell ⟨w.heap.size, 1, none⟩ (.int .i64 ch)).setCell ⟨w.heap.size, 2, none⟩ (.int .i64 i)) := ((((hb.trans (hb3.mono hb.size)).setCell (p := ⟨w.heap.size, 0, none⟩) (Nat.le_refl _) _).setCell (p := ⟨w.heap.size, 1, none⟩) (Nat.le_refl _) _).setCell (p := ⟨w.heap.size, 2, none⟩) (Nat.le_refl _) _)
          generalize ((w3.setCell ⟨w.heap.size, 0, none⟩ (.bool true)).setCell ⟨w.heap.size, 1, none⟩ (.int .i64 ch)).setCell ⟨w.heap.size, 2, none⟩ (.int .i64 i) = WX at HX hbX ⊢
          obtain ⟨z0, z1, z2⟩ := HX.cells
          exact bodyPost_ret (v := headV l.length (some (true, ch, i))) (by simp [results, Try.results8, go_sem, headV, z0, z1, z2]) rfl ⟨by rw [← HRv.out, HE.out]; dsimp only; rw [hkk, HZ.out]; rfl, hbX⟩
        | false =>
          rw [hcz] at CL
          have HZ : Hid (closesP (l.drop k) = false) := hcz
          clear hcz
          go_wp2_with (first | (go_at_call 16; refine TK.mono ?_; rintro e w2 ⟨rfl, rfl⟩) | (go_at_call 17; refine CL.mono ?_; rintro e w3 ⟨rfl, hb3⟩; obtain ⟨a0, a1, a2⟩ := (K1.on hb3).cells; obtain ⟨d0, d1, d2⟩ := (K2.on hb3).cells; have f0 := (K1.on hb3).frozen 0; have f1 := (K1.on hb3).frozen 1; have f2 := (K1.on hb3).frozen 2))
          have HX := Hb_set3 (K1.on hb3) false 0 0
          have hbX : Below w.heap.size w (((w3.setCell ⟨w.heap.size, 0, none⟩ (.bool false)).setCell ⟨w.heap.size, 1, none⟩ (.int .i64 0)).setCell ⟨w.heap.size, 2, none⟩ (.int .i64 0)) := ((((hb.trans (hb3.mono hb.size)).setCell (p := ⟨w.heap.size, 0, none⟩) (Nat.le_refl _) _).setCell (p := ⟨w.heap.size, 1, none⟩) (Nat.le_refl _) _).setCell (p := ⟨w.heap.size, 2, none⟩) (Nat.le_refl _) _)
          generalize ((w3.setCell ⟨w.heap.size, 0, none⟩ (.bool false)).setCell ⟨w.heap.size, 1, none⟩ (.int .i64 0)).setCell ⟨w.heap.size, 2, none⟩ (.int .i64 0) = WX at HX hbX ⊢
          obtain ⟨z0, z1, z2⟩ := HX.cells
          exact bodyPost_ret (v := headV l.length none) (by simp [results, Try.results8, go_sem, headV, z0, z1, z2]) rfl ⟨by rw [← HRv.out, HE.out]; dsimp only; rw [hkk, HZ.out]; rfl, hbX⟩
    · obtain rfl : k = l.length := by omega
      have HE : Hid (s = (ch, i, l.length - 1)) := by show s = _; rw [HK.out, scan_end (Nat.le_refl _)]; simp
      have SF := slice_from (some ⟨b, o, none⟩) l.length cap l.length (by omega) hc
      have CL := closes_any (if cap = l.length then some ⟨b, o, none⟩ else (some (⟨b, o, none⟩ : Addr)).map (·.add l.length)) (l.drop l.length) (cap - l.length) wr (by simp) (by unfold maxLen at hm; omega) ((h.on hb).from cap l.length hc)
      rw [List.length_drop] at CL
      generalize (if cap = l.length then some (⟨b, o, none⟩ : Addr) else (some (⟨b, o, none⟩ : Addr)).map (·.add l.length)) = q at SF CL
      have hkk : 1 + (l.length - 1) = l.length := by omega
      clear hcl HK HS
      have HZ : Hid (closesP (l.drop l.length) = true) := by show _ = _; rw [List.drop_eq_nil_of_le (Nat.le_refl _)]; rfl
      rw [HZ.out] at CL
      simp only [Nat.sub_self] at SF CL
      go_wp2_with (first | (go_at_call 17; refine CL.mono ?_; rintro e w3 ⟨rfl, hb3⟩; obtain ⟨a0, a1, a2⟩ := (K1.on hb3).cells; obtain ⟨d0, d1, d2⟩ := (K2.on hb3).cells; have f0 := (K1.on hb3).frozen 0; have f1 := (K1.on hb3).frozen 1; have f2 := (K1.on hb3).frozen 2))
      have HX := Hb_set3 (K1.on hb3) true ch i
      have hbX : Below w.heap.size w (((w3.setCell ⟨w.heap.size, 0, none⟩ (.bool true)).setCell ⟨w.heap.size, 1, none⟩ (.int .i64 ch)).setCell ⟨w.heap.size, 2, none⟩ (.int .i64 i)) := ((((hb.trans (hb3.mono hb.size)).setCell (p := ⟨w.heap.size, 0, none⟩) (Nat.le_refl _) _).setCell (p := ⟨w.heap.size, 1, none⟩) (Nat.le_refl _) _).setCell (p := ⟨w.heap.size, 2, none⟩) (Nat.le_refl _) _)
      generalize ((w3.setCell ⟨w.heap.size, 0, none⟩ (.bool true)).setCell ⟨w.heap.size, 1, none⟩ (.int .i64 ch)).setCell ⟨w.heap.size, 2, none⟩ (.int .i64 i) = WX at HX hbX ⊢
      obtain ⟨z0, z1, z2⟩ := HX.cells
      exact bodyPost_ret (v := headV l.length (some (true, ch, i))) (by simp [results, Try.results8, go_sem, headV, z0, z1, z2]) rfl ⟨by rw [← HRv.out, HE.out]; dsimp only; rw [hkk, HZ.out]; rfl, hbX⟩

theorem Head_any (p : Option Addr) (l : List Int) (cap : Nat) (w : World) (hl : l.length ≤ 1000) (hc : l.length ≤ cap) (hm : cap ≤ maxLen) (h : Is w p l) :
    Calls Try.prog 8 #[.slice p l.length cap] w fun e w' => e = .returned (headV l.length (headP l)) ∧ Below w.heap.size w w' := by
  by_cases h0 : l.length = 0 ∨ (iAt l 0 ≠ 124 ∧ iAt l 0 ≠ 62)
  · rw [show headP l = none from by unfold headP; rw [if_pos h0]]
    exact Head_first p l cap w hl h h0
  · obtain ⟨b, o, rfl, -⟩ := h.at (by omega)
    by_cases h1 : iAt l 0 = 124
    · exact Head_bar b o l cap w hl hc hm h (by omega) h1
    · exact Head_gt b o l cap w hl hc hm h (by omega) (by omega)
end Go.Proofs.Ytgmcomfeggidnaa
