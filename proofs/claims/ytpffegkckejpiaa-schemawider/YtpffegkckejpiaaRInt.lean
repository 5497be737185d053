/- The document's own: Begins, signed, Int. -/
import Derived.Test.YtpffegkckejpiaaInt2
set_option linter.unusedVariables false
set_option linter.unusedSimpArgs false
set_option maxRecDepth 100000
namespace Go.Proofs.Ytpffegkckejpiaa
open Go.RowKit

set_option maxHeartbeats 400000 in
theorem begins_any (s p : ByteArray) (w : World) :
    Calls Try.prog 34 #[.string s, .string p] w fun e w' => e = .returned (.bool (Lib.hasPrefix s.data.toList p.data.toList)) ∧ w' = w := by
  rw [← Lib.hasPrefix_of_take, ← Lib.size_eq, ← Lib.size_eq]
  go_enter Try.func34, Try.ntmps34
  go_wp2
  · rename_i h
    go_ret
    refine ⟨?_, rfl⟩
    show Ending.returned (Value.bool ((s.extract 0 p.size).toList == p.toList)) = _
    rw [Lib.extract_toList, Lib.toList_data]
    simp [h]
  · rename_i h
    go_ret
    refine ⟨?_, rfl⟩
    show Ending.returned (Value.bool false) = _
    simp [h]

theorem pre1 (s : ByteArray) (c : UInt8) : Lib.hasPrefix s.data.toList [c] = (s.data.toList.head? == some c) := by
  unfold Lib.hasPrefix
  cases h : s.data.toList with
  | nil => rfl
  | cons a t =>
    simp [List.isPrefixOf]
    exact BEq.comm
theorem beginsM (s : ByteArray) (w : World) : Calls Try.prog 34 #[.string s, .string ⟨#[45]⟩] w fun e w' => e = .returned (.bool (s.data.toList.head? == some 45)) ∧ w' = w := by
  have := begins_any s ⟨#[45]⟩ w
  rwa [pre1] at this
theorem beginsP (s : ByteArray) (w : World) : Calls Try.prog 34 #[.string s, .string ⟨#[43]⟩] w fun e w' => e = .returned (.bool (s.data.toList.head? == some 43)) ∧ w' = w := by
  have := begins_any s ⟨#[43]⟩ w
  rwa [pre1] at this
theorem beginsO (s : ByteArray) (w : World) : Calls Try.prog 34 #[.string s, .string ⟨#[48, 111]⟩] w fun e w' => e = .returned (.bool (preO s)) ∧ w' = w := begins_any s ⟨#[48, 111]⟩ w
theorem beginsX (s : ByteArray) (w : World) : Calls Try.prog 34 #[.string s, .string ⟨#[48, 120]⟩] w fun e w' => e = .returned (.bool (preX s)) ∧ w' = w := begins_any s ⟨#[48, 120]⟩ w

set_option maxRecDepth 100000 in
set_option maxHeartbeats 400000 in
theorem rsigned_any (s : ByteArray) (w : World) :
    Calls Try.prog 41 #[.string s] w fun e w' => e = .returned (.tuple #[.string (restB s), .bool (negB s)]) ∧ Below w.heap.size w w' := by
  have BM := fun w => beginsM s w
  have BP := fun w => beginsP s w
  by_cases h : s.size = 0
  · have hr := sg_empty h
    rw [hr.1, hr.2]
    have e : s.data.toList = [] := List.eq_nil_of_length_eq_zero (by rw [← h]; exact size_list s)
    rw [e] at BM BP
    clear h hr e
    go_enter Try.func41, Try.ntmps41
    go_wp2_with fail
    refine (BM _).mono ?_
    rintro e w1 ⟨rfl, rfl⟩
    go_wp2_with fail
    refine (BP _).mono ?_
    rintro e w1 ⟨rfl, rfl⟩
    go_wp2
    go_ret2
    exact ⟨rfl, Below.refl _ _⟩
  · have hs : 0 < s.size := by omega
    have hi : (0 : Int) < s.size := by omega
    have hi1 : (1 : Int) ≤ s.size := by omega
    rw [head_of hs] at BM BP
    by_cases h0 : (s[0].toNat : Int) = 45
    · have hr := sg_minus hs h0
      rw [hr.1, hr.2]
      have e : s[0] = 45 := byte_eq (k := 45) (by decide) h0
      rw [e] at BM
      clear hr h e BP
      go_enter Try.func41, Try.ntmps41
      go_wp2_with fail
      refine (BM _).mono ?_
      rintro e w1 ⟨rfl, rfl⟩
      go_wp2
      go_quiet (fail)
      go_wp2
      go_ret2
      exact ⟨rfl, below_drewN (Below.refl _ _) _⟩
    · have e0 : (some s[0] == some (45 : UInt8)) = false := by
        have : ¬ s[0] = 45 := fun e => h0 (by rw [e]; rfl)
        simpa using this
      rw [e0] at BM
      by_cases h1 : (s[0].toNat : Int) = 43
      · have hr := sg_plus hs h1
        rw [hr.1, hr.2]
        have e : s[0] = 43 := byte_eq (k := 43) (by decide) h1
        rw [e] at BP
        clear hr h e e0
        go_enter Try.func41, Try.ntmps41
        go_wp2_with fail
        refine (BM _).mono ?_
        rintro e w1 ⟨rfl, rfl⟩
        go_wp2_with fail
        refine (BP _).mono ?_
        rintro e w1 ⟨rfl, rfl⟩
        go_wp2
        go_quiet (fail)
        go_wp2
        go_ret2
        exact ⟨rfl, below_drewN (Below.refl _ _) _⟩
      · have hr := sg_none hs h0 h1
        rw [hr.1, hr.2]
        have e1 : (some s[0] == some (43 : UInt8)) = false := by
          have : ¬ s[0] = 43 := fun e => h1 (by rw [e]; rfl)
          simpa using this
        rw [e1] at BP
        clear hr h h0 h1 e0 e1
        go_enter Try.func41, Try.ntmps41
        go_wp2_with fail
        refine (BM _).mono ?_
        rintro e w1 ⟨rfl, rfl⟩
        go_wp2_with fail
        refine (BP _).mono ?_
        rintro e w1 ⟨rfl, rfl⟩
        go_wp2
        go_ret2
        exact ⟨rfl, Below.refl _ _⟩

theorem pre_size {s : ByteArray} {a b : UInt8} (h : Lib.hasPrefix s.data.toList [a, b] = true) : (2 : Int) ≤ s.size := by
  unfold Lib.hasPrefix at h
  have := (List.isPrefixOf_iff_prefix.1 h).length_le
  rw [← Lib.size_eq] at this
  simp at this
  omega
theorem preOX {s : ByteArray} (h : preO s = true) : preX s = false := by
  unfold preO preX Lib.hasPrefix at *
  cases e : s.data.toList with
  | nil => rfl
  | cons a t =>
    cases t with
    | nil => simp [List.isPrefixOf]
    | cons b t =>
      rw [e] at h
      simp [List.isPrefixOf] at h ⊢
      rintro rfl
      rw [← h.2]
      decide

theorem dec_pos (n : Nat) : 0 < (decB n).size := by
  rw [dec_sz]
  unfold dl
  split
  · simp
  · rw [carP_pos (by decide) (by omega)]; simp

set_option maxRecDepth 100000 in
set_option maxHeartbeats 400000 in
theorem rInt_yesO (s : ByteArray) (w : World) (h1 : preO s = true) (hok : okS (tail2 s) 8 = true) :
    Calls Try.prog 26 #[.string s] w fun e w' => e = .returned (.tuple #[numV (negB s && decide (numB (tail2 s) 8 ≠ 0)) (numB (tail2 s) 8) 0, .bool true]) ∧ Below w.heap.size w w' := by
  have PL : ∀ w, Calls Try.prog 42 #[.string (tail2 s), .int .i64 8] w fun e w' => e = .returned (.tuple #[.string (decB (numB (tail2 s) 8)), .bool true]) ∧ Below w.heap.size w w' := fun w => PlainDigits_yes (tail2 s) 8 w hok
  have hb := dec_bound (base := 8) hok
  have hb0 : 0 < (decB (numB (tail2 s) 8)).size := dec_pos _
  have NB := fun (b : Bool) (w : World) => tidy_any b (decB (numB (tail2 s) 8)) 0 w (dec_isD _) hb0 hb (by decide) (by decide)
  rw [valD_dec] at NB
  have hne := dec_ne (numB (tail2 s) 8)
  clear hok
  generalize numB (tail2 s) 8 = n at *
  obtain ⟨T, hT⟩ : ∃ T, decB n = T := ⟨_, rfl⟩
  rw [hT] at PL NB hne
  clear hT hb hb0
  have HN : Hid (∀ (b : Bool) (w : World), _) := NB
  clear NB
  have h2 := preOX h1
  have hz := pre_size h1
  have S := fun w => rsigned_any s w
  generalize decide (n ≠ 0) = d at hne ⊢
  cases hneg : negB s
  · rw [hneg] at S
    rw [Bool.false_and]
    go_enter Try.func26, Try.ntmps26
    go_wp2_with fail
    refine (S _).mono ?_
    rintro e w1 ⟨rfl, hB1⟩
    rw [size1] at hB1
    go_wp2_with fail
    refine (beginsO s _).mono ?_
    rintro e w1 ⟨rfl, rfl⟩
    rw [h1]
    go_wp2_with fail
    refine (beginsX s _).mono ?_
    rintro e w1 ⟨rfl, rfl⟩
    rw [h2]
    go_wp2_with fail
    refine (PL _).mono ?_
    rintro e w2 ⟨rfl, hB2⟩
    go_wp2_with fail
    refine (HN.out _ _).mono ?_
    rintro e w3 ⟨rfl, hB3⟩
    have hBB : Below (w.heap.size + 1) (w.alloc zC) w3 := (hB1.trans (hB2.mono (by have := hB1.size; rw [size1] at this; omega))).trans (hB3.mono (by have := hB1.size; have := hB2.size; rw [size1] at *; omega))
    obtain ⟨r0, r1, r2, r3, f0, f1, f2, f3⟩ := res_cells hBB
    have hw := zC_below hBB
    obtain ⟨D, E, hV⟩ := numV_form false n 0
    rw [hV]
    have HV : Hid _ := hV
    clear hV S PL HN
    go_wp2
    exact bodyPost_ret (v := .tuple #[.agg #[.bool false, .string D, .int .i64 E, .int .i64 0], .bool true]) (put4_results2 Try.results26 rfl rfl r0 r1 r2 r3 _ _ _ _) rfl ⟨by rw [HV.out], put4_below hw (Nat.le_refl _) _ _ _ _⟩
  · rw [hneg] at S
    rw [Bool.true_and]
    go_enter Try.func26, Try.ntmps26
    go_wp2_with fail
    refine (S _).mono ?_
    rintro e w1 ⟨rfl, hB1⟩
    rw [size1] at hB1
    go_wp2_with fail
    refine (beginsO s _).mono ?_
    rintro e w1 ⟨rfl, rfl⟩
    rw [h1]
    go_wp2_with fail
    refine (beginsX s _).mono ?_
    rintro e w1 ⟨rfl, rfl⟩
    rw [h2]
    go_wp2_with fail
    refine (PL _).mono ?_
    rintro e w2 ⟨rfl, hB2⟩
    go_wp2_with fail
    refine (HN.out _ _).mono ?_
    rintro e w3 ⟨rfl, hB3⟩
    have hBB : Below (w.heap.size + 1) (w.alloc zC) w3 := (hB1.trans (hB2.mono (by have := hB1.size; rw [size1] at this; omega))).trans (hB3.mono (by have := hB1.size; have := hB2.size; rw [size1] at *; omega))
    obtain ⟨r0, r1, r2, r3, f0, f1, f2, f3⟩ := res_cells hBB
    have hw := zC_below hBB
    obtain ⟨D, E, hV⟩ := numV_form d n 0
    rw [hV]
    have HV : Hid _ := hV
    clear hV S PL HN
    go_wp2
    exact bodyPost_ret (v := .tuple #[.agg #[.bool d, .string D, .int .i64 E, .int .i64 0], .bool true]) (put4_results2 Try.results26 rfl rfl r0 r1 r2 r3 _ _ _ _) rfl ⟨by rw [HV.out], put4_below hw (Nat.le_refl _) _ _ _ _⟩

set_option maxRecDepth 100000 in
set_option maxHeartbeats 400000 in
theorem rInt_noO (s : ByteArray) (w : World) (h1 : preO s = true) (hok : okS (tail2 s) 8 = false) :
    Calls Try.prog 26 #[.string s] w fun e w' => e = .returned (.tuple #[zV, .bool false]) ∧ Below w.heap.size w w' := by
  have PL := fun w => PlainDigits_no (tail2 s) 8 w hok
  clear hok
  have h2 := preOX h1
  have hz := pre_size h1
  have S := fun w => rsigned_any s w
  generalize negB s = ng at S
  go_enter Try.func26, Try.ntmps26
  go_wp2_with fail
  refine (S _).mono ?_
  rintro e w1 ⟨rfl, hB1⟩
  rw [size1] at hB1
  go_wp2_with fail
  refine (beginsO s _).mono ?_
  rintro e w1 ⟨rfl, rfl⟩
  rw [h1]
  go_wp2_with fail
  refine (beginsX s _).mono ?_
  rintro e w1 ⟨rfl, rfl⟩
  rw [h2]
  go_wp2_with fail
  refine (PL _).mono ?_
  rintro e w2 ⟨rfl, hB2⟩
  have hBB : Below (w.heap.size + 1) (w.alloc zC) w2 := hB1.trans (hB2.mono (by have := hB1.size; rw [size1] at this; omega))
  obtain ⟨r0, r1, r2, r3, f0, f1, f2, f3⟩ := res_cells hBB
  have hw := zC_below hBB
  clear S PL
  go_wp2
  exact bodyPost_ret (v := .tuple #[zV, .bool false]) (put4_results2 Try.results26 rfl rfl r0 r1 r2 r3 _ _ _ _) rfl ⟨rfl, put4_below hw (Nat.le_refl _) _ _ _ _⟩

set_option maxRecDepth 100000 in
set_option maxHeartbeats 400000 in
theorem rInt_yesX (s : ByteArray) (w : World) (h1 : preO s = false) (h2 : preX s = true) (hok : okS (tail2 s) 16 = true) :
    Calls Try.prog 26 #[.string s] w fun e w' => e = .returned (.tuple #[numV (negB s && decide (numB (tail2 s) 16 ≠ 0)) (numB (tail2 s) 16) 0, .bool true]) ∧ Below w.heap.size w w' := by
  have PL : ∀ w, Calls Try.prog 42 #[.string (tail2 s), .int .i64 16] w fun e w' => e = .returned (.tuple #[.string (decB (numB (tail2 s) 16)), .bool true]) ∧ Below w.heap.size w w' := fun w => PlainDigits_yes (tail2 s) 16 w hok
  have hb := dec_bound (base := 16) hok
  have hb0 : 0 < (decB (numB (tail2 s) 16)).size := dec_pos _
  have NB := fun (b : Bool) (w : World) => tidy_any b (decB (numB (tail2 s) 16)) 0 w (dec_isD _) hb0 hb (by decide) (by decide)
  rw [valD_dec] at NB
  have hne := dec_ne (numB (tail2 s) 16)
  clear hok
  generalize numB (tail2 s) 16 = n at *
  obtain ⟨T, hT⟩ : ∃ T, decB n = T := ⟨_, rfl⟩
  rw [hT] at PL NB hne
  clear hT hb hb0
  have HN : Hid (∀ (b : Bool) (w : World), _) := NB
  clear NB
  have hz := pre_size h2
  have S := fun w => rsigned_any s w
  generalize decide (n ≠ 0) = d at hne ⊢
  cases hneg : negB s
  · rw [hneg] at S
    rw [Bool.false_and]
    go_enter Try.func26, Try.ntmps26
    go_wp2_with fail
    refine (S _).mono ?_
    rintro e w1 ⟨rfl, hB1⟩
    rw [size1] at hB1
    go_wp2_with fail
    refine (beginsO s _).mono ?_
    rintro e w1 ⟨rfl, rfl⟩
    rw [h1]
    go_wp2_with fail
    refine (beginsX s _).mono ?_
    rintro e w1 ⟨rfl, rfl⟩
    rw [h2]
    go_wp2_with fail
    refine (PL _).mono ?_
    rintro e w2 ⟨rfl, hB2⟩
    go_wp2_with fail
    refine (HN.out _ _).mono ?_
    rintro e w3 ⟨rfl, hB3⟩
    have hBB : Below (w.heap.size + 1) (w.alloc zC) w3 := (hB1.trans (hB2.mono (by have := hB1.size; rw [size1] at this; omega))).trans (hB3.mono (by have := hB1.size; have := hB2.size; rw [size1] at *; omega))
    obtain ⟨r0, r1, r2, r3, f0, f1, f2, f3⟩ := res_cells hBB
    have hw := zC_below hBB
    obtain ⟨D, E, hV⟩ := numV_form false n 0
    rw [hV]
    have HV : Hid _ := hV
    clear hV S PL HN
    go_wp2
    exact bodyPost_ret (v := .tuple #[.agg #[.bool false, .string D, .int .i64 E, .int .i64 0], .bool true]) (put4_results2 Try.results26 rfl rfl r0 r1 r2 r3 _ _ _ _) rfl ⟨by rw [HV.out], put4_below hw (Nat.le_refl _) _ _ _ _⟩
  · rw [hneg] at S
    rw [Bool.true_and]
    go_enter Try.func26, Try.ntmps26
    go_wp2_with fail
    refine (S _).mono ?_
    rintro e w1 ⟨rfl, hB1⟩
    rw [size1] at hB1
    go_wp2_with fail
    refine (beginsO s _).mono ?_
    rintro e w1 ⟨rfl, rfl⟩
    rw [h1]
    go_wp2_with fail
    refine (beginsX s _).mono ?_
    rintro e w1 ⟨rfl, rfl⟩
    rw [h2]
    go_wp2_with fail
    refine (PL _).mono ?_
    rintro e w2 ⟨rfl, hB2⟩
    go_wp2_with fail
    refine (HN.out _ _).mono ?_
    rintro e w3 ⟨rfl, hB3⟩
    have hBB : Below (w.heap.size + 1) (w.alloc zC) w3 := (hB1.trans (hB2.mono (by have := hB1.size; rw [size1] at this; omega))).trans (hB3.mono (by have := hB1.size; have := hB2.size; rw [size1] at *; omega))
    obtain ⟨r0, r1, r2, r3, f0, f1, f2, f3⟩ := res_cells hBB
    have hw := zC_below hBB
    obtain ⟨D, E, hV⟩ := numV_form d n 0
    rw [hV]
    have HV : Hid _ := hV
    clear hV S PL HN
    go_wp2
    exact bodyPost_ret (v := .tuple #[.agg #[.bool d, .string D, .int .i64 E, .int .i64 0], .bool true]) (put4_results2 Try.results26 rfl rfl r0 r1 r2 r3 _ _ _ _) rfl ⟨by rw [HV.out], put4_below hw (Nat.le_refl _) _ _ _ _⟩

set_option maxRecDepth 100000 in
set_option maxHeartbeats 400000 in
theorem rInt_noX (s : ByteArray) (w : World) (h1 : preO s = false) (h2 : preX s = true) (hok : okS (tail2 s) 16 = false) :
    Calls Try.prog 26 #[.string s] w fun e w' => e = .returned (.tuple #[zV, .bool false]) ∧ Below w.heap.size w w' := by
  have PL := fun w => PlainDigits_no (tail2 s) 16 w hok
  clear hok
  have hz := pre_size h2
  have S := fun w => rsigned_any s w
  generalize negB s = ng at S
  go_enter Try.func26, Try.ntmps26
  go_wp2_with fail
  refine (S _).mono ?_
  rintro e w1 ⟨rfl, hB1⟩
  rw [size1] at hB1
  go_wp2_with fail
  refine (beginsO s _).mono ?_
  rintro e w1 ⟨rfl, rfl⟩
  rw [h1]
  go_wp2_with fail
  refine (beginsX s _).mono ?_
  rintro e w1 ⟨rfl, rfl⟩
  rw [h2]
  go_wp2_with fail
  refine (PL _).mono ?_
  rintro e w2 ⟨rfl, hB2⟩
  have hBB : Below (w.heap.size + 1) (w.alloc zC) w2 := hB1.trans (hB2.mono (by have := hB1.size; rw [size1] at this; omega))
  obtain ⟨r0, r1, r2, r3, f0, f1, f2, f3⟩ := res_cells hBB
  have hw := zC_below hBB
  clear S PL
  go_wp2
  exact bodyPost_ret (v := .tuple #[zV, .bool false]) (put4_results2 Try.results26 rfl rfl r0 r1 r2 r3 _ _ _ _) rfl ⟨rfl, put4_below hw (Nat.le_refl _) _ _ _ _⟩

set_option maxRecDepth 100000 in
set_option maxHeartbeats 400000 in
theorem rInt_yesN (s : ByteArray) (w : World) (h1 : preO s = false) (h2 : preX s = false) (hok : okS (restB s) 10 = true) :
    Calls Try.prog 26 #[.string s] w fun e w' => e = .returned (.tuple #[numV (negB s && decide (numB (restB s) 10 ≠ 0)) (numB (restB s) 10) 0, .bool true]) ∧ Below w.heap.size w w' := by
  have PL : ∀ w, Calls Try.prog 42 #[.string (restB s), .int .i64 10] w fun e w' => e = .returned (.tuple #[.string (decB (numB (restB s) 10)), .bool true]) ∧ Below w.heap.size w w' := fun w => PlainDigits_yes (restB s) 10 w hok
  have hb := dec_bound (base := 10) hok
  have hb0 : 0 < (decB (numB (restB s) 10)).size := dec_pos _
  have NB := fun (b : Bool) (w : World) => tidy_any b (decB (numB (restB s) 10)) 0 w (dec_isD _) hb0 hb (by decide) (by decide)
  rw [valD_dec] at NB
  have hne := dec_ne (numB (restB s) 10)
  clear hok
  generalize numB (restB s) 10 = n at *
  obtain ⟨T, hT⟩ : ∃ T, decB n = T := ⟨_, rfl⟩
  rw [hT] at PL NB hne
  clear hT hb hb0
  have HN : Hid (∀ (b : Bool) (w : World), _) := NB
  clear NB
  have S := fun w => rsigned_any s w
  generalize decide (n ≠ 0) = d at hne ⊢
  cases hneg : negB s
  · rw [hneg] at S
    rw [Bool.false_and]
    go_enter Try.func26, Try.ntmps26
    go_wp2_with fail
    refine (S _).mono ?_
    rintro e w1 ⟨rfl, hB1⟩
    rw [size1] at hB1
    go_wp2_with fail
    refine (beginsO s _).mono ?_
    rintro e w1 ⟨rfl, rfl⟩
    rw [h1]
    go_wp2_with fail
    refine (beginsX s _).mono ?_
    rintro e w1 ⟨rfl, rfl⟩
    rw [h2]
    go_wp2_with fail
    refine (PL _).mono ?_
    rintro e w2 ⟨rfl, hB2⟩
    go_wp2_with fail
    refine (HN.out _ _).mono ?_
    rintro e w3 ⟨rfl, hB3⟩
    have hBB : Below (w.heap.size + 1) (w.alloc zC) w3 := (hB1.trans (hB2.mono (by have := hB1.size; rw [size1] at this; omega))).trans (hB3.mono (by have := hB1.size; have := hB2.size; rw [size1] at *; omega))
    obtain ⟨r0, r1, r2, r3, f0, f1, f2, f3⟩ := res_cells hBB
    have hw := zC_below hBB
    obtain ⟨D, E, hV⟩ := numV_form false n 0
    rw [hV]
    have HV : Hid _ := hV
    clear hV S PL HN
    go_wp2
    exact bodyPost_ret (v := .tuple #[.agg #[.bool false, .string D, .int .i64 E, .int .i64 0], .bool true]) (put4_results2 Try.results26 rfl rfl r0 r1 r2 r3 _ _ _ _) rfl ⟨by rw [HV.out], put4_below hw (Nat.le_refl _) _ _ _ _⟩
  · rw [hneg] at S
    rw [Bool.true_and]
    go_enter Try.func26, Try.ntmps26
    go_wp2_with fail
    refine (S _).mono ?_
    rintro e w1 ⟨rfl, hB1⟩
    rw [size1] at hB1
    go_wp2_with fail
    refine (beginsO s _).mono ?_
    rintro e w1 ⟨rfl, rfl⟩
    rw [h1]
    go_wp2_with fail
    refine (beginsX s _).mono ?_
    rintro e w1 ⟨rfl, rfl⟩
    rw [h2]
    go_wp2_with fail
    refine (PL _).mono ?_
    rintro e w2 ⟨rfl, hB2⟩
    go_wp2_with fail
    refine (HN.out _ _).mono ?_
    rintro e w3 ⟨rfl, hB3⟩
    have hBB : Below (w.heap.size + 1) (w.alloc zC) w3 := (hB1.trans (hB2.mono (by have := hB1.size; rw [size1] at this; omega))).trans (hB3.mono (by have := hB1.size; have := hB2.size; rw [size1] at *; omega))
    obtain ⟨r0, r1, r2, r3, f0, f1, f2, f3⟩ := res_cells hBB
    have hw := zC_below hBB
    obtain ⟨D, E, hV⟩ := numV_form d n 0
    rw [hV]
    have HV : Hid _ := hV
    clear hV S PL HN
    go_wp2
    exact bodyPost_ret (v := .tuple #[.agg #[.bool d, .string D, .int .i64 E, .int .i64 0], .bool true]) (put4_results2 Try.results26 rfl rfl r0 r1 r2 r3 _ _ _ _) rfl ⟨by rw [HV.out], put4_below hw (Nat.le_refl _) _ _ _ _⟩

set_option maxRecDepth 100000 in
set_option maxHeartbeats 400000 in
theorem rInt_noN (s : ByteArray) (w : World) (h1 : preO s = false) (h2 : preX s = false) (hok : okS (restB s) 10 = false) :
    Calls Try.prog 26 #[.string s] w fun e w' => e = .returned (.tuple #[zV, .bool false]) ∧ Below w.heap.size w w' := by
  have PL := fun w => PlainDigits_no (restB s) 10 w hok
  clear hok
  have S := fun w => rsigned_any s w
  generalize negB s = ng at S
  go_enter Try.func26, Try.ntmps26
  go_wp2_with fail
  refine (S _).mono ?_
  rintro e w1 ⟨rfl, hB1⟩
  rw [size1] at hB1
  go_wp2_with fail
  refine (beginsO s _).mono ?_
  rintro e w1 ⟨rfl, rfl⟩
  rw [h1]
  go_wp2_with fail
  refine (beginsX s _).mono ?_
  rintro e w1 ⟨rfl, rfl⟩
  rw [h2]
  go_wp2_with fail
  refine (PL _).mono ?_
  rintro e w2 ⟨rfl, hB2⟩
  have hBB : Below (w.heap.size + 1) (w.alloc zC) w2 := hB1.trans (hB2.mono (by have := hB1.size; rw [size1] at this; omega))
  obtain ⟨r0, r1, r2, r3, f0, f1, f2, f3⟩ := res_cells hBB
  have hw := zC_below hBB
  clear S PL
  go_wp2
  exact bodyPost_ret (v := .tuple #[zV, .bool false]) (put4_results2 Try.results26 rfl rfl r0 r1 r2 r3 _ _ _ _) rfl ⟨rfl, put4_below hw (Nat.le_refl _) _ _ _ _⟩

theorem rInt_any (s : ByteArray) (w : World) :
    Calls Try.prog 26 #[.string s] w fun e w' => e = .returned (intV s) ∧ Below w.heap.size w w' := by
  unfold intV bodyOf baseOf
  cases h1 : preO s
  · cases h2 : preX s
    · simp only [Bool.false_eq_true, if_false]
      cases hok : okS (restB s) ((10 : Nat) : Int)
      · exact rInt_noN s w h1 h2 hok
      · exact rInt_yesN s w h1 h2 hok
    · simp only [Bool.false_eq_true, if_false, if_true]
      cases hok : okS (tail2 s) ((16 : Nat) : Int)
      · exact rInt_noX s w h1 h2 hok
      · exact rInt_yesX s w h1 h2 hok
  · simp only [if_true]
    cases hok : okS (tail2 s) ((8 : Nat) : Int)
    · exact rInt_noO s w h1 hok
    · exact rInt_yesO s w h1 hok
end Go.Proofs.Ytpffegkckejpiaa
