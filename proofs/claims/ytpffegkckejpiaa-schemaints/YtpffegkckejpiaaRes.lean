/- The tag that Core tells; a float; Default. -/
import Derived.Test.YtpffegkckejpiaaRdg
import Derived.Test.YtpffegkckejpiaaRFltC
import Derived.Test.YtpffegkckejpiaaReads
set_option linter.unusedVariables false
set_option linter.unusedSimpArgs false
set_option maxRecDepth 100000
namespace Go.Proofs.Ytpffegkckejpiaa
open Go.RowKit

theorem below_step {B : Nat} {w w1 w2 : World} (h1 : Below B w w1) (hb : B ≤ w1.heap.size) (h2 : Below w1.heap.size w1 w2) : Below B w w2 := h1.trans (h2.mono hb)
theorem below_alloc {B : Nat} {w w1 : World} (h1 : Below B w w1) (hb : B ≤ w1.heap.size) (o : Obj) : Below B w (w1.alloc o) := h1.alloc hb o
theorem Int_v (s : ByteArray) (w : World) : Calls Try.prog 24 #[.string s] w fun e w' => e = .returned (.tuple #[intN s, .bool (intOk s)]) ∧ Below w.heap.size w w' := by
  have := Int_any s w
  rwa [intV_eq] at this
theorem rInt_v (s : ByteArray) (w : World) : Calls Try.prog 26 #[.string s] w fun e w' => e = .returned (.tuple #[intN s, .bool (intOk s)]) ∧ Below w.heap.size w w' := by
  have := rInt_any s w
  rwa [intV_eq] at this
theorem Float_v (s : ByteArray) (w : World) (hs : s.size ≤ 100000) : Calls Try.prog 40 #[.string s] w fun e w' => e = .returned (.tuple #[fltN s, .bool (fltOk s)]) ∧ Below w.heap.size w w' := by
  have := Float_any s w hs
  rwa [fltV_eq] at this
theorem rFloat_v (s : ByteArray) (w : World) (hs : s.size ≤ 100000) : Calls Try.prog 27 #[.string s] w fun e w' => e = .returned (.tuple #[fltN s, .bool (fltOk s)]) ∧ Below w.heap.size w w' := by
  have := rFloat_any s w hs
  rwa [fltV_eq] at this
theorem isNull_v (s : ByteArray) (w : World) : Calls Try.prog 22 #[.string s] w fun e w' => e = .returned (.bool (isNul s)) ∧ w' = w := isNull_any s w
theorem boolean_v (s : ByteArray) (w : World) : Calls Try.prog 23 #[.string s] w fun e w' => e = .returned (.tuple #[.bool (isYes s), .bool (isYes s || isNo s)]) ∧ w' = w := boolean_any s w
theorem default_any (k : Int) (w : World) : Calls Try.prog 11 #[.int .i64 k] w fun e w' => e = .returned (.string (defB k)) ∧ w' = w := by
  unfold defB
  by_cases h1 : k = 1
  · rw [if_pos h1]
    go_enter Try.func11, Try.ntmps11
    go_wp2
    go_ret
    exact ⟨rfl, rfl⟩
  · rw [if_neg h1]
    by_cases h2 : k = 2
    · rw [if_pos h2]
      go_enter Try.func11, Try.ntmps11
      go_wp2
      go_ret
      exact ⟨rfl, rfl⟩
    · rw [if_neg h2]
      by_cases h3 : k = 3
      · rw [if_pos h3]
        go_enter Try.func11, Try.ntmps11
        go_wp2
        go_ret
        exact ⟨rfl, rfl⟩
      · rw [if_neg h3]
        go_enter Try.func11, Try.ntmps11
        go_wp2
        go_ret
        exact ⟨rfl, rfl⟩
theorem clone_any (s : ByteArray) (w : World) (hs : s.size ≤ 100000) : Calls Try.prog 17 #[.string s] w fun e w' => e = .returned (.string s) ∧ Below w.heap.size w w' := by
  have C := fun w => Try.stringslite_Clone s w (by omega)
  go_enter Try.func17, Try.ntmps17
  go_wp2_with fail
  refine (C _).mono ?_
  rintro e w1 ⟨rfl, hB⟩
  go_wp2
  go_ret
  exact ⟨rfl, hB⟩

set_option maxHeartbeats 1000000 in
theorem core_any (s : ByteArray) (w : World) (hs : s.size ≤ 100000) : Calls Try.prog 32 #[.string s] w fun e w' => e = .returned (.string (coreT s)) ∧ Below w.heap.size w w' := by
  have NU := fun w => isNull_v s w
  have BO := fun w => boolean_v s w
  have IN := fun w => Int_v s w
  have FL := fun w => Float_v s w hs
  unfold coreT
  cases h1 : isNul s
  · rw [h1] at NU
    cases h2 : isYes s || isNo s
    · rw [h2] at BO
      cases h3 : intOk s
      · rw [h3] at IN
        obtain ⟨b, d, x, k, hv⟩ := intN_F s
        rw [hv] at IN
        cases h4 : fltOk s
        · rw [h4] at FL
          obtain ⟨b', d', x', k', hv'⟩ := fltN_F s
          rw [hv'] at FL
          clear hv hv'
          show Calls Try.prog 32 #[.string s] w fun e w' => e = .returned (.string strT) ∧ Below w.heap.size w w'
          go_enter Try.func32, Try.ntmps32
          go_wp2_with fail
          refine (NU _).mono ?_
          rintro e w1 ⟨rfl, rfl⟩
          go_wp2_with fail
          refine (BO _).mono ?_
          rintro e w1 ⟨rfl, rfl⟩
          go_wp2_with fail
          refine (IN _).mono ?_
          rintro e w2 ⟨rfl, hB2⟩
          go_wp2_with fail
          refine (FL _).mono ?_
          rintro e w3 ⟨rfl, hB3⟩
          go_wp2
          go_ret
          have c1 := below_alloc hB2 hB2.size (.cells #[.bool b, .string d, .int .i64 x, .int .i64 k] 27)
          have c2 := below_step c1 c1.size hB3
          exact ⟨rfl, below_alloc c2 c2.size _⟩
        · rw [h4] at FL
          obtain ⟨b', d', x', k', hv'⟩ := fltN_F s
          rw [hv'] at FL
          clear hv hv'
          show Calls Try.prog 32 #[.string s] w fun e w' => e = .returned (.string floatT) ∧ Below w.heap.size w w'
          go_enter Try.func32, Try.ntmps32
          go_wp2_with fail
          refine (NU _).mono ?_
          rintro e w1 ⟨rfl, rfl⟩
          go_wp2_with fail
          refine (BO _).mono ?_
          rintro e w1 ⟨rfl, rfl⟩
          go_wp2_with fail
          refine (IN _).mono ?_
          rintro e w2 ⟨rfl, hB2⟩
          go_wp2_with fail
          refine (FL _).mono ?_
          rintro e w3 ⟨rfl, hB3⟩
          go_wp2
          go_ret
          have c1 := below_alloc hB2 hB2.size (.cells #[.bool b, .string d, .int .i64 x, .int .i64 k] 27)
          have c2 := below_step c1 c1.size hB3
          exact ⟨rfl, below_alloc c2 c2.size _⟩
      · rw [h3] at IN
        obtain ⟨b, d, x, k, hv⟩ := intN_F s
        rw [hv] at IN
        clear hv
        show Calls Try.prog 32 #[.string s] w fun e w' => e = .returned (.string intT) ∧ Below w.heap.size w w'
        go_enter Try.func32, Try.ntmps32
        go_wp2_with fail
        refine (NU _).mono ?_
        rintro e w1 ⟨rfl, rfl⟩
        go_wp2_with fail
        refine (BO _).mono ?_
        rintro e w1 ⟨rfl, rfl⟩
        go_wp2_with fail
        refine (IN _).mono ?_
        rintro e w2 ⟨rfl, hB2⟩
        go_wp2
        go_ret
        exact ⟨rfl, below_alloc hB2 hB2.size _⟩
    · rw [h2] at BO
      show Calls Try.prog 32 #[.string s] w fun e w' => e = .returned (.string boolT) ∧ Below w.heap.size w w'
      go_enter Try.func32, Try.ntmps32
      go_wp2_with fail
      refine (NU _).mono ?_
      rintro e w1 ⟨rfl, rfl⟩
      go_wp2_with fail
      refine (BO _).mono ?_
      rintro e w1 ⟨rfl, rfl⟩
      go_wp2
      go_ret
      exact ⟨rfl, Below.refl _ _⟩
  · rw [h1] at NU
    show Calls Try.prog 32 #[.string s] w fun e w' => e = .returned (.string nullT) ∧ Below w.heap.size w w'
    go_enter Try.func32, Try.ntmps32
    go_wp2_with fail
    refine (NU _).mono ?_
    rintro e w1 ⟨rfl, rfl⟩
    go_wp2
    go_ret
    exact ⟨rfl, Below.refl _ _⟩
theorem resolved_any (s : ByteArray) (which : Int) (w : World) (hs : s.size ≤ 100000) : Calls Try.prog 18 #[.string s, .int .i64 which] w fun e w' => e = .returned (.string (plainT s which)) ∧ Below w.heap.size w w' := by
  unfold plainT
  by_cases h2 : which = 2
  · rw [if_pos h2]
    go_enter Try.func18, Try.ntmps18
    go_wp2_with fail
    refine (core_any s _ hs).mono ?_
    rintro e w1 ⟨rfl, hB⟩
    go_wp2
    go_ret
    exact ⟨rfl, hB⟩
  · rw [if_neg h2]
    by_cases h1 : which = 1
    · rw [if_pos h1]
      go_enter Try.func18, Try.ntmps18
      go_wp2_with fail
      refine (json_any s _).mono ?_
      rintro e w1 ⟨rfl, rfl⟩
      go_wp2
      go_ret
      exact ⟨rfl, Below.refl _ _⟩
    · rw [if_neg h1]
      go_enter Try.func18, Try.ntmps18
      go_wp2
      go_ret
      exact ⟨rfl, Below.refl _ _⟩
end Go.Proofs.Ytpffegkckejpiaa
set_option maxRecDepth 100000
namespace Go.Proofs.Ytpffegkckejpiaa
open Go.RowKit

set_option maxHeartbeats 1000000 in
theorem float_any (s : ByteArray) (w : World) (hs : s.size ≤ 100000) : Calls Try.prog 25 #[.string s] w fun e w' => e = .returned (.tuple #[numC s, .bool (numOk s)]) ∧ Below w.heap.size w w' := by
  have IN := fun w => Int_v s w
  have FL := fun w => Float_v s w hs
  unfold numC numOk
  obtain ⟨b', d', x', k', hv'⟩ := fltN_F s
  rw [hv'] at FL ⊢
  clear hv'
  cases h4 : fltOk s
  · rw [h4] at FL
    obtain ⟨b, d, x, k, hv⟩ := intN_F s
    rw [hv] at IN ⊢
    clear hv
    cases h3 : intOk s
    all_goals
      rw [h3] at IN
      simp only [Bool.false_or]
      go_enter Try.func25, Try.ntmps25
      go_wp2_with fail
      refine (FL _).mono ?_
      rintro e w1 ⟨rfl, hB1⟩
      rw [size1] at hB1
      go_wp2_with fail
      refine (IN _).mono ?_
      rintro e w2 ⟨rfl, hB2⟩
      have hlt : w.heap.size + 1 ≤ w1.heap.size := by have := hB1.size; rw [size1] at this; exact this
      have hB3 := hB1.trans (below_step (below_alloc (Below.refl w1.heap.size w1) (Nat.le_refl _) _) (by rw [size1]; exact Nat.le_succ _) hB2 |>.mono hlt)
      obtain ⟨r0, r1, r2, r3, f0, f1, f2, f3⟩ := res_cells hB3
      have hw := zC_below hB3
      go_wp2
    · exact bodyPost_ret (v := .tuple #[.agg #[.bool b, .string d, .int .i64 x, .int .i64 k], .bool false]) (put4_results2 Try.results25 rfl rfl r0 r1 r2 r3 _ _ _ _) rfl ⟨rfl, put4_below hw (Nat.le_refl _) _ _ _ _⟩
    · exact bodyPost_ret (v := .tuple #[.agg #[.bool b, .string d, .int .i64 x, .int .i64 k], .bool true]) (put4_results2 Try.results25 rfl rfl r0 r1 r2 r3 _ _ _ _) rfl ⟨rfl, put4_below hw (Nat.le_refl _) _ _ _ _⟩
  · rw [h4] at FL
    clear IN
    show Calls Try.prog 25 #[.string s] w fun e w' => e = .returned (.tuple #[.agg #[.bool b', .string d', .int .i64 x', .int .i64 k'], .bool true]) ∧ Below w.heap.size w w'
    go_enter Try.func25, Try.ntmps25
    go_wp2_with fail
    refine (FL _).mono ?_
    rintro e w1 ⟨rfl, hB1⟩
    rw [size1] at hB1
    have hlt : w.heap.size < w1.heap.size := by have := hB1.size; rw [size1] at this; exact this
    have hne : ¬ w.heap.size = w1.heap.size := Nat.ne_of_lt hlt
    have hne2 : ¬ w1.heap.size = w.heap.size := fun e => hne e.symm
    obtain ⟨r0, r1, r2, r3, f0, f1, f2, f3⟩ := res_cells hB1
    have hw := zC_below hB1
    have hB4 := below_alloc hB1 (by omega) (.cells #[.bool b', .string d', .int .i64 x', .int .i64 k'] 27)
    have R := res_cells hB4
    have HR : Hid _ := R
    have hw4 := zC_below hB4
    have HE : Hid (put4 (w1.alloc (.cells #[.bool b', .string d', .int .i64 x', .int .i64 k'] 27)) w.heap.size (.bool b') (.string d') (.int .i64 x') (.int .i64 k') = (put4 w1 w.heap.size (.bool b') (.string d') (.int .i64 x') (.int .i64 k')).alloc (.cells #[.bool b', .string d', .int .i64 x', .int .i64 k'] 27)) := by
      show put4 _ _ _ _ _ _ = _
      unfold put4
      simp [go_sem, hlt]
    clear R
    go_wp2
    obtain ⟨q0, q1, q2, q3, -⟩ := HR.out
    show bodyPost _ _ _ _ _ ((put4 w1 w.heap.size (.bool b') (.string d') (.int .i64 x') (.int .i64 k')).alloc (.cells #[.bool b', .string d', .int .i64 x', .int .i64 k'] 27))
    rw [← HE.out]
    exact bodyPost_ret (v := .tuple #[.agg #[.bool b', .string d', .int .i64 x', .int .i64 k'], .bool true]) (put4_results2 Try.results25 rfl rfl q0 q1 q2 q3 _ _ _ _) rfl ⟨rfl, put4_below hw4 (Nat.le_refl _) _ _ _ _⟩

theorem z7_below {w W : World} (hB : Below (w.heap.size + 1) (w.alloc z7) W) : Below w.heap.size w W := ((Below.refl _ w).alloc (Nat.le_refl _) _).trans (hB.mono (by omega))
theorem judged_yes (k x y : Int) (t b : Bool) (d z : ByteArray) (w : World) : Calls Try.prog 21 #[.agg #[.int .i64 k, .bool t, .bool b, .string d, .int .i64 x, .int .i64 y, .string z], .bool true] w fun e w' => e = .returned (.tuple #[.agg #[.int .i64 k, .bool t, .bool b, .string d, .int .i64 x, .int .i64 y, .string z], .int .i64 0]) ∧ Below w.heap.size w w' := judged_any k x y t b true d z w
theorem judged_no (k x y : Int) (t b : Bool) (d z : ByteArray) (w : World) : Calls Try.prog 21 #[.agg #[.int .i64 k, .bool t, .bool b, .string d, .int .i64 x, .int .i64 y, .string z], .bool false] w fun e w' => e = .returned (.tuple #[.agg #[.int .i64 0, .bool false, .bool false, .string ⟨#[]⟩, .int .i64 0, .int .i64 0, .string ⟨#[]⟩], .int .i64 15]) ∧ Below w.heap.size w w' := judged_any k x y t b false d z w
set_option maxHeartbeats 1000000 in
theorem val_null_yes (tag s : ByteArray) (w : World) (hs : s.size ≤ 100000) (t_null : (tag.toList == [116, 97, 103, 58, 121, 97, 109, 108, 46, 111, 114, 103, 44, 50, 48, 48, 50, 58, 110, 117, 108, 108]) = true) (hk : isNul s = true) :
    Calls Try.prog 13 #[.string tag, .string s] w fun e w' => e = .returned (.tuple #[.agg #[.int .i64 1, .bool false, .bool false, .string ⟨#[]⟩, .int .i64 0, .int .i64 0, .string ⟨#[]⟩], .int .i64 0]) ∧ Below w.heap.size w w' := by
  have C := fun w => isNull_v s w
  rw [hk] at C
  go_enter Try.func13, Try.ntmps13
  go_wp2_with fail
  refine (C _).mono ?_
  rintro e w1 ⟨rfl, rfl⟩
  go_wp2_with fail
  refine (judged_yes _ _ _ _ _ _ _ _).mono ?_
  rintro e w2 ⟨rfl, hB⟩
  rw [size1] at hB
  have R := res7 hB
  have HR : Hid _ := R
  obtain ⟨⟨r0, r1, r2, r3, r4, r5, r6⟩, f0, f1, f2, f3, f4, f5, f6⟩ := R
  have hw := z7_below hB
  go_wp2
  exact bodyPost_ret (v := .tuple #[.agg #[.int .i64 1, .bool false, .bool false, .string ⟨#[]⟩, .int .i64 0, .int .i64 0, .string ⟨#[]⟩], .int .i64 0]) (put7_results2 Try.results13 rfl rfl HR.out.1 _ _ _ _ _ _ _) rfl ⟨rfl, put7_below hw (Nat.le_refl _) _ _ _ _ _ _ _⟩
set_option maxHeartbeats 1000000 in
theorem val_null_no (tag s : ByteArray) (w : World) (hs : s.size ≤ 100000) (t_null : (tag.toList == [116, 97, 103, 58, 121, 97, 109, 108, 46, 111, 114, 103, 44, 50, 48, 48, 50, 58, 110, 117, 108, 108]) = true) (hk : isNul s = false) :
    Calls Try.prog 13 #[.string tag, .string s] w fun e w' => e = .returned (.tuple #[.agg #[.int .i64 0, .bool false, .bool false, .string ⟨#[]⟩, .int .i64 0, .int .i64 0, .string ⟨#[]⟩], .int .i64 15]) ∧ Below w.heap.size w w' := by
  have C := fun w => isNull_v s w
  rw [hk] at C
  go_enter Try.func13, Try.ntmps13
  go_wp2_with fail
  refine (C _).mono ?_
  rintro e w1 ⟨rfl, rfl⟩
  go_wp2_with fail
  refine (judged_no _ _ _ _ _ _ _ _).mono ?_
  rintro e w2 ⟨rfl, hB⟩
  rw [size1] at hB
  have R := res7 hB
  have HR : Hid _ := R
  obtain ⟨⟨r0, r1, r2, r3, r4, r5, r6⟩, f0, f1, f2, f3, f4, f5, f6⟩ := R
  have hw := z7_below hB
  go_wp2
  exact bodyPost_ret (v := .tuple #[.agg #[.int .i64 0, .bool false, .bool false, .string ⟨#[]⟩, .int .i64 0, .int .i64 0, .string ⟨#[]⟩], .int .i64 15]) (put7_results2 Try.results13 rfl rfl HR.out.1 _ _ _ _ _ _ _) rfl ⟨rfl, put7_below hw (Nat.le_refl _) _ _ _ _ _ _ _⟩
set_option maxHeartbeats 1000000 in
theorem val_bool_yes (tag s : ByteArray) (w : World) (hs : s.size ≤ 100000) (t_null : (tag.toList == [116, 97, 103, 58, 121, 97, 109, 108, 46, 111, 114, 103, 44, 50, 48, 48, 50, 58, 110, 117, 108, 108]) = false) (t_bool : (tag.toList == [116, 97, 103, 58, 121, 97, 109, 108, 46, 111, 114, 103, 44, 50, 48, 48, 50, 58, 98, 111, 111, 108]) = true) (hk : (isYes s || isNo s) = true) :
    Calls Try.prog 13 #[.string tag, .string s] w fun e w' => e = .returned (.tuple #[.agg #[.int .i64 2, .bool (isYes s), .bool false, .string ⟨#[]⟩, .int .i64 0, .int .i64 0, .string ⟨#[]⟩], .int .i64 0]) ∧ Below w.heap.size w w' := by
  have C := fun w => boolean_v s w
  rw [hk] at C
  generalize isYes s = yy at C ⊢
  go_enter Try.func13, Try.ntmps13
  go_wp2_with fail
  refine (C _).mono ?_
  rintro e w1 ⟨rfl, rfl⟩
  go_wp2_with fail
  refine (judged_yes _ _ _ _ _ _ _ _).mono ?_
  rintro e w2 ⟨rfl, hB⟩
  rw [size1] at hB
  have R := res7 hB
  have HR : Hid _ := R
  obtain ⟨⟨r0, r1, r2, r3, r4, r5, r6⟩, f0, f1, f2, f3, f4, f5, f6⟩ := R
  have hw := z7_below hB
  go_wp2
  exact bodyPost_ret (v := .tuple #[.agg #[.int .i64 2, .bool (yy), .bool false, .string ⟨#[]⟩, .int .i64 0, .int .i64 0, .string ⟨#[]⟩], .int .i64 0]) (put7_results2 Try.results13 rfl rfl HR.out.1 _ _ _ _ _ _ _) rfl ⟨rfl, put7_below hw (Nat.le_refl _) _ _ _ _ _ _ _⟩
set_option maxHeartbeats 1000000 in
theorem val_bool_no (tag s : ByteArray) (w : World) (hs : s.size ≤ 100000) (t_null : (tag.toList == [116, 97, 103, 58, 121, 97, 109, 108, 46, 111, 114, 103, 44, 50, 48, 48, 50, 58, 110, 117, 108, 108]) = false) (t_bool : (tag.toList == [116, 97, 103, 58, 121, 97, 109, 108, 46, 111, 114, 103, 44, 50, 48, 48, 50, 58, 98, 111, 111, 108]) = true) (hk : (isYes s || isNo s) = false) :
    Calls Try.prog 13 #[.string tag, .string s] w fun e w' => e = .returned (.tuple #[.agg #[.int .i64 0, .bool false, .bool false, .string ⟨#[]⟩, .int .i64 0, .int .i64 0, .string ⟨#[]⟩], .int .i64 15]) ∧ Below w.heap.size w w' := by
  have C := fun w => boolean_v s w
  rw [hk] at C
  generalize isYes s = yy at C
  go_enter Try.func13, Try.ntmps13
  go_wp2_with fail
  refine (C _).mono ?_
  rintro e w1 ⟨rfl, rfl⟩
  go_wp2_with fail
  refine (judged_no _ _ _ _ _ _ _ _).mono ?_
  rintro e w2 ⟨rfl, hB⟩
  rw [size1] at hB
  have R := res7 hB
  have HR : Hid _ := R
  obtain ⟨⟨r0, r1, r2, r3, r4, r5, r6⟩, f0, f1, f2, f3, f4, f5, f6⟩ := R
  have hw := z7_below hB
  go_wp2
  exact bodyPost_ret (v := .tuple #[.agg #[.int .i64 0, .bool false, .bool false, .string ⟨#[]⟩, .int .i64 0, .int .i64 0, .string ⟨#[]⟩], .int .i64 15]) (put7_results2 Try.results13 rfl rfl HR.out.1 _ _ _ _ _ _ _) rfl ⟨rfl, put7_below hw (Nat.le_refl _) _ _ _ _ _ _ _⟩
set_option maxHeartbeats 1000000 in
theorem val_int_yes (tag s : ByteArray) (w : World) (hs : s.size ≤ 100000) (t_null : (tag.toList == [116, 97, 103, 58, 121, 97, 109, 108, 46, 111, 114, 103, 44, 50, 48, 48, 50, 58, 110, 117, 108, 108]) = false) (t_bool : (tag.toList == [116, 97, 103, 58, 121, 97, 109, 108, 46, 111, 114, 103, 44, 50, 48, 48, 50, 58, 98, 111, 111, 108]) = false) (t_int : (tag.toList == [116, 97, 103, 58, 121, 97, 109, 108, 46, 111, 114, 103, 44, 50, 48, 48, 50, 58, 105, 110, 116]) = true) (hk : intOk s = true) {b : Bool} {d : ByteArray} {x k : Int} (hv : intN s = .agg #[.bool b, .string d, .int .i64 x, .int .i64 k]) :
    Calls Try.prog 13 #[.string tag, .string s] w fun e w' => e = .returned (.tuple #[.agg #[.int .i64 3, .bool false, .bool b, .string d, .int .i64 x, .int .i64 k, .string ⟨#[]⟩], .int .i64 0]) ∧ Below w.heap.size w w' := by
  have C := fun w => Int_v s w
  rw [hk, hv] at C
  go_enter Try.func13, Try.ntmps13
  go_wp2_with fail
  refine (C _).mono ?_
  rintro e w1 ⟨rfl, hB1⟩
  rw [size1] at hB1
  go_wp2_with fail
  refine (judged_yes _ _ _ _ _ _ _ _).mono ?_
  rintro e w2 ⟨rfl, hB2⟩
  have hlt : w.heap.size + 1 ≤ w1.heap.size := by have := hB1.size; rw [size1] at this; exact this
  have hB := hB1.trans (below_step (below_alloc (Below.refl w1.heap.size w1) (Nat.le_refl _) _) (by rw [size1]; exact Nat.le_succ _) hB2 |>.mono hlt)
  have R := res7 hB
  have HR : Hid _ := R
  obtain ⟨⟨r0, r1, r2, r3, r4, r5, r6⟩, f0, f1, f2, f3, f4, f5, f6⟩ := R
  have hw := z7_below hB
  go_wp2
  exact bodyPost_ret (v := .tuple #[.agg #[.int .i64 3, .bool false, .bool b, .string d, .int .i64 x, .int .i64 k, .string ⟨#[]⟩], .int .i64 0]) (put7_results2 Try.results13 rfl rfl HR.out.1 _ _ _ _ _ _ _) rfl ⟨rfl, put7_below hw (Nat.le_refl _) _ _ _ _ _ _ _⟩
set_option maxHeartbeats 1000000 in
theorem val_int_no (tag s : ByteArray) (w : World) (hs : s.size ≤ 100000) (t_null : (tag.toList == [116, 97, 103, 58, 121, 97, 109, 108, 46, 111, 114, 103, 44, 50, 48, 48, 50, 58, 110, 117, 108, 108]) = false) (t_bool : (tag.toList == [116, 97, 103, 58, 121, 97, 109, 108, 46, 111, 114, 103, 44, 50, 48, 48, 50, 58, 98, 111, 111, 108]) = false) (t_int : (tag.toList == [116, 97, 103, 58, 121, 97, 109, 108, 46, 111, 114, 103, 44, 50, 48, 48, 50, 58, 105, 110, 116]) = true) (hk : intOk s = false) {b : Bool} {d : ByteArray} {x k : Int} (hv : intN s = .agg #[.bool b, .string d, .int .i64 x, .int .i64 k]) :
    Calls Try.prog 13 #[.string tag, .string s] w fun e w' => e = .returned (.tuple #[.agg #[.int .i64 0, .bool false, .bool false, .string ⟨#[]⟩, .int .i64 0, .int .i64 0, .string ⟨#[]⟩], .int .i64 15]) ∧ Below w.heap.size w w' := by
  have C := fun w => Int_v s w
  rw [hk, hv] at C
  go_enter Try.func13, Try.ntmps13
  go_wp2_with fail
  refine (C _).mono ?_
  rintro e w1 ⟨rfl, hB1⟩
  rw [size1] at hB1
  go_wp2_with fail
  refine (judged_no _ _ _ _ _ _ _ _).mono ?_
  rintro e w2 ⟨rfl, hB2⟩
  have hlt : w.heap.size + 1 ≤ w1.heap.size := by have := hB1.size; rw [size1] at this; exact this
  have hB := hB1.trans (below_step (below_alloc (Below.refl w1.heap.size w1) (Nat.le_refl _) _) (by rw [size1]; exact Nat.le_succ _) hB2 |>.mono hlt)
  have R := res7 hB
  have HR : Hid _ := R
  obtain ⟨⟨r0, r1, r2, r3, r4, r5, r6⟩, f0, f1, f2, f3, f4, f5, f6⟩ := R
  have hw := z7_below hB
  go_wp2
  exact bodyPost_ret (v := .tuple #[.agg #[.int .i64 0, .bool false, .bool false, .string ⟨#[]⟩, .int .i64 0, .int .i64 0, .string ⟨#[]⟩], .int .i64 15]) (put7_results2 Try.results13 rfl rfl HR.out.1 _ _ _ _ _ _ _) rfl ⟨rfl, put7_below hw (Nat.le_refl _) _ _ _ _ _ _ _⟩
set_option maxHeartbeats 1000000 in
theorem val_float_yes (tag s : ByteArray) (w : World) (hs : s.size ≤ 100000) (t_null : (tag.toList == [116, 97, 103, 58, 121, 97, 109, 108, 46, 111, 114, 103, 44, 50, 48, 48, 50, 58, 110, 117, 108, 108]) = false) (t_bool : (tag.toList == [116, 97, 103, 58, 121, 97, 109, 108, 46, 111, 114, 103, 44, 50, 48, 48, 50, 58, 98, 111, 111, 108]) = false) (t_int : (tag.toList == [116, 97, 103, 58, 121, 97, 109, 108, 46, 111, 114, 103, 44, 50, 48, 48, 50, 58, 105, 110, 116]) = false) (t_float : (tag.toList == [116, 97, 103, 58, 121, 97, 109, 108, 46, 111, 114, 103, 44, 50, 48, 48, 50, 58, 102, 108, 111, 97, 116]) = true) (hk : numOk s = true) {b : Bool} {d : ByteArray} {x k : Int} (hv : numC s = .agg #[.bool b, .string d, .int .i64 x, .int .i64 k]) :
    Calls Try.prog 13 #[.string tag, .string s] w fun e w' => e = .returned (.tuple #[.agg #[.int .i64 4, .bool false, .bool b, .string d, .int .i64 x, .int .i64 k, .string ⟨#[]⟩], .int .i64 0]) ∧ Below w.heap.size w w' := by
  have C := fun w => float_any s w hs
  rw [hk, hv] at C
  go_enter Try.func13, Try.ntmps13
  go_wp2_with fail
  refine (C _).mono ?_
  rintro e w1 ⟨rfl, hB1⟩
  rw [size1] at hB1
  go_wp2_with fail
  refine (judged_yes _ _ _ _ _ _ _ _).mono ?_
  rintro e w2 ⟨rfl, hB2⟩
  have hlt : w.heap.size + 1 ≤ w1.heap.size := by have := hB1.size; rw [size1] at this; exact this
  have hB := hB1.trans (below_step (below_alloc (Below.refl w1.heap.size w1) (Nat.le_refl _) _) (by rw [size1]; exact Nat.le_succ _) hB2 |>.mono hlt)
  have R := res7 hB
  have HR : Hid _ := R
  obtain ⟨⟨r0, r1, r2, r3, r4, r5, r6⟩, f0, f1, f2, f3, f4, f5, f6⟩ := R
  have hw := z7_below hB
  go_wp2
  exact bodyPost_ret (v := .tuple #[.agg #[.int .i64 4, .bool false, .bool b, .string d, .int .i64 x, .int .i64 k, .string ⟨#[]⟩], .int .i64 0]) (put7_results2 Try.results13 rfl rfl HR.out.1 _ _ _ _ _ _ _) rfl ⟨rfl, put7_below hw (Nat.le_refl _) _ _ _ _ _ _ _⟩
set_option maxHeartbeats 1000000 in
theorem val_float_no (tag s : ByteArray) (w : World) (hs : s.size ≤ 100000) (t_null : (tag.toList == [116, 97, 103, 58, 121, 97, 109, 108, 46, 111, 114, 103, 44, 50, 48, 48, 50, 58, 110, 117, 108, 108]) = false) (t_bool : (tag.toList == [116, 97, 103, 58, 121, 97, 109, 108, 46, 111, 114, 103, 44, 50, 48, 48, 50, 58, 98, 111, 111, 108]) = false) (t_int : (tag.toList == [116, 97, 103, 58, 121, 97, 109, 108, 46, 111, 114, 103, 44, 50, 48, 48, 50, 58, 105, 110, 116]) = false) (t_float : (tag.toList == [116, 97, 103, 58, 121, 97, 109, 108, 46, 111, 114, 103, 44, 50, 48, 48, 50, 58, 102, 108, 111, 97, 116]) = true) (hk : numOk s = false) {b : Bool} {d : ByteArray} {x k : Int} (hv : numC s = .agg #[.bool b, .string d, .int .i64 x, .int .i64 k]) :
    Calls Try.prog 13 #[.string tag, .string s] w fun e w' => e = .returned (.tuple #[.agg #[.int .i64 0, .bool false, .bool false, .string ⟨#[]⟩, .int .i64 0, .int .i64 0, .string ⟨#[]⟩], .int .i64 15]) ∧ Below w.heap.size w w' := by
  have C := fun w => float_any s w hs
  rw [hk, hv] at C
  go_enter Try.func13, Try.ntmps13
  go_wp2_with fail
  refine (C _).mono ?_
  rintro e w1 ⟨rfl, hB1⟩
  rw [size1] at hB1
  go_wp2_with fail
  refine (judged_no _ _ _ _ _ _ _ _).mono ?_
  rintro e w2 ⟨rfl, hB2⟩
  have hlt : w.heap.size + 1 ≤ w1.heap.size := by have := hB1.size; rw [size1] at this; exact this
  have hB := hB1.trans (below_step (below_alloc (Below.refl w1.heap.size w1) (Nat.le_refl _) _) (by rw [size1]; exact Nat.le_succ _) hB2 |>.mono hlt)
  have R := res7 hB
  have HR : Hid _ := R
  obtain ⟨⟨r0, r1, r2, r3, r4, r5, r6⟩, f0, f1, f2, f3, f4, f5, f6⟩ := R
  have hw := z7_below hB
  go_wp2
  exact bodyPost_ret (v := .tuple #[.agg #[.int .i64 0, .bool false, .bool false, .string ⟨#[]⟩, .int .i64 0, .int .i64 0, .string ⟨#[]⟩], .int .i64 15]) (put7_results2 Try.results13 rfl rfl HR.out.1 _ _ _ _ _ _ _) rfl ⟨rfl, put7_below hw (Nat.le_refl _) _ _ _ _ _ _ _⟩
set_option maxHeartbeats 1000000 in
theorem val_str (tag s : ByteArray) (w : World) (hs : s.size ≤ 100000) (t_null : (tag.toList == [116, 97, 103, 58, 121, 97, 109, 108, 46, 111, 114, 103, 44, 50, 48, 48, 50, 58, 110, 117, 108, 108]) = false) (t_bool : (tag.toList == [116, 97, 103, 58, 121, 97, 109, 108, 46, 111, 114, 103, 44, 50, 48, 48, 50, 58, 98, 111, 111, 108]) = false) (t_int : (tag.toList == [116, 97, 103, 58, 121, 97, 109, 108, 46, 111, 114, 103, 44, 50, 48, 48, 50, 58, 105, 110, 116]) = false) (t_float : (tag.toList == [116, 97, 103, 58, 121, 97, 109, 108, 46, 111, 114, 103, 44, 50, 48, 48, 50, 58, 102, 108, 111, 97, 116]) = false) :
    Calls Try.prog 13 #[.string tag, .string s] w fun e w' => e = .returned (.tuple #[.agg #[.int .i64 5, .bool false, .bool false, .string ⟨#[]⟩, .int .i64 0, .int .i64 0, .string s], .int .i64 0]) ∧ Below w.heap.size w w' := by
  have C := fun w => clone_any s w hs
  go_enter Try.func13, Try.ntmps13
  go_wp2_with fail
  refine (C _).mono ?_
  rintro e w1 ⟨rfl, hB⟩
  rw [size1] at hB
  have R := res7 hB
  have HR : Hid _ := R
  obtain ⟨⟨r0, r1, r2, r3, r4, r5, r6⟩, f0, f1, f2, f3, f4, f5, f6⟩ := R
  have hw := z7_below hB
  go_wp2
  exact bodyPost_ret (v := .tuple #[.agg #[.int .i64 5, .bool false, .bool false, .string ⟨#[]⟩, .int .i64 0, .int .i64 0, .string s], .int .i64 0]) (put7_results2 Try.results13 rfl rfl HR.out.1 _ _ _ _ _ _ _) rfl ⟨rfl, put7_below hw (Nat.le_refl _) _ _ _ _ _ _ _⟩

theorem nullT_list : nullT.toList = [116, 97, 103, 58, 121, 97, 109, 108, 46, 111, 114, 103, 44, 50, 48, 48, 50, 58, 110, 117, 108, 108] := by rw [Lib.toList_data]; rfl
theorem boolT_list : boolT.toList = [116, 97, 103, 58, 121, 97, 109, 108, 46, 111, 114, 103, 44, 50, 48, 48, 50, 58, 98, 111, 111, 108] := by rw [Lib.toList_data]; rfl
theorem intT_list : intT.toList = [116, 97, 103, 58, 121, 97, 109, 108, 46, 111, 114, 103, 44, 50, 48, 48, 50, 58, 105, 110, 116] := by rw [Lib.toList_data]; rfl
theorem floatT_list : floatT.toList = [116, 97, 103, 58, 121, 97, 109, 108, 46, 111, 114, 103, 44, 50, 48, 48, 50, 58, 102, 108, 111, 97, 116] := by rw [Lib.toList_data]; rfl
theorem strT_list : strT.toList = [116, 97, 103, 58, 121, 97, 109, 108, 46, 111, 114, 103, 44, 50, 48, 48, 50, 58, 115, 116, 114] := by rw [Lib.toList_data]; rfl
theorem seqT_list : seqT.toList = [116, 97, 103, 58, 121, 97, 109, 108, 46, 111, 114, 103, 44, 50, 48, 48, 50, 58, 115, 101, 113] := by rw [Lib.toList_data]; rfl
theorem mapT_list : mapT.toList = [116, 97, 103, 58, 121, 97, 109, 108, 46, 111, 114, 103, 44, 50, 48, 48, 50, 58, 109, 97, 112] := by rw [Lib.toList_data]; rfl
theorem Value_any (tag s : ByteArray) (w : World) (hs : s.size ≤ 100000) : Calls Try.prog 13 #[.string tag, .string s] w fun e w' => e = .returned (valV tag s) ∧ Below w.heap.size w w' := by
  unfold valV noV
  rw [nullT_list, boolT_list, intT_list, floatT_list]
  cases t1 : tag.toList == [116, 97, 103, 58, 121, 97, 109, 108, 46, 111, 114, 103, 44, 50, 48, 48, 50, 58, 110, 117, 108, 108]
  · cases t2 : tag.toList == [116, 97, 103, 58, 121, 97, 109, 108, 46, 111, 114, 103, 44, 50, 48, 48, 50, 58, 98, 111, 111, 108]
    · cases t3 : tag.toList == [116, 97, 103, 58, 121, 97, 109, 108, 46, 111, 114, 103, 44, 50, 48, 48, 50, 58, 105, 110, 116]
      · cases t4 : tag.toList == [116, 97, 103, 58, 121, 97, 109, 108, 46, 111, 114, 103, 44, 50, 48, 48, 50, 58, 102, 108, 111, 97, 116]
        · exact val_str tag s w hs t1 t2 t3 t4
        · obtain ⟨b, d, x, k, hv⟩ := numC_F s
          cases hk : numOk s
          · exact val_float_no tag s w hs t1 t2 t3 t4 hk hv
          · rw [hv]; exact val_float_yes tag s w hs t1 t2 t3 t4 hk hv
      · obtain ⟨b, d, x, k, hv⟩ := intN_F s
        cases hk : intOk s
        · exact val_int_no tag s w hs t1 t2 t3 hk hv
        · rw [hv]; exact val_int_yes tag s w hs t1 t2 t3 hk hv
    · cases hk : isYes s || isNo s
      · exact val_bool_no tag s w hs t1 t2 hk
      · exact val_bool_yes tag s w hs t1 t2 hk
  · cases hk : isNul s
    · exact val_null_no tag s w hs t1 hk
    · exact val_null_yes tag s w hs t1 hk
end Go.Proofs.Ytpffegkckejpiaa
set_option maxRecDepth 100000
namespace Go.Proofs.Ytpffegkckejpiaa
open Go.RowKit

theorem resT_eq (kind : Int) (tag s : ByteArray) (plain : Bool) (which : Int) : resT kind tag s plain which = if tag.toList == [] then (if kind = 1 ∧ plain = true then plainT s which else defB kind) else if tag.toList == [33] then defB kind else tag := by
  unfold resT
  cases h1 : tag.toList == []
  · have h1' : ¬ tag.toList = [] := by simpa using h1
    cases h2 : tag.toList == [33]
    · have h2' : ¬ tag.toList = [33] := by simpa using h2
      rw [if_pos ⟨h1', h2'⟩]
      rfl
    · have h2' : tag.toList = [33] := by simpa using h2
      rw [if_neg (fun e => e.2 h2'), if_neg (fun e => h1' e.1)]
      rfl
  · have h1' : tag.toList = [] := by simpa using h1
    rw [if_neg (fun e => e.1 h1')]
    by_cases h : kind = 1 ∧ plain = true
    · rw [if_pos ⟨h1', h⟩, if_pos h]; rfl
    · rw [if_neg (fun e => h e.2), if_neg h]; rfl
set_option maxHeartbeats 8000000 in
theorem Resolve_any (kind which : Int) (tag s : ByteArray) (plain : Bool) (w : World) (ht : tag.size ≤ 100000) (hs : s.size ≤ 100000) :
    Calls Try.prog 9 #[.int .i64 kind, .string tag, .string s, .bool plain, .int .i64 which] w fun e w' => e = .returned (.string (resT kind tag s plain which)) ∧ Below w.heap.size w w' := by
  rw [resT_eq]
  have DE := fun w => default_any kind w
  have RS := fun w => resolved_any s which w hs
  have CL := fun w => clone_any tag w ht
  cases h1 : tag.toList == []
  · cases h2 : tag.toList == [33]
    · have n1 : (tag.toList != []) = true := by rw [bne, h1]; rfl
      have n2 : (tag.toList != [33]) = true := by rw [bne, h2]; rfl
      show Calls Try.prog 9 _ w fun e w' => e = .returned (.string tag) ∧ Below w.heap.size w w'
      go_enter Try.func9, Try.ntmps9
      go_wp2_with fail
      refine (CL _).mono ?_
      rintro e w1 ⟨rfl, hB⟩
      go_wp2
      go_ret
      exact ⟨rfl, hB⟩
    · have n1 : (tag.toList != []) = true := by rw [bne, h1]; rfl
      have n2 : (tag.toList != [33]) = false := by rw [bne, h2]; rfl
      show Calls Try.prog 9 _ w fun e w' => e = .returned (.string (defB kind)) ∧ Below w.heap.size w w'
      go_enter Try.func9, Try.ntmps9
      go_wp2_with fail
      refine (DE _).mono ?_
      rintro e w1 ⟨rfl, rfl⟩
      go_wp2
      go_ret
      exact ⟨rfl, Below.refl _ _⟩
  · have n1 : (tag.toList != []) = false := by rw [bne, h1]; rfl
    rw [if_pos rfl]
    by_cases hk : kind = 1
    · subst hk
      cases plain
      · rw [if_neg (fun e => absurd e.2 (by decide))]
        go_enter Try.func9, Try.ntmps9
        go_wp2_with fail
        refine (DE _).mono ?_
        rintro e w1 ⟨rfl, rfl⟩
        go_wp2
        go_ret
        exact ⟨rfl, Below.refl _ _⟩
      · rw [if_pos ⟨rfl, rfl⟩]
        go_enter Try.func9, Try.ntmps9
        go_wp2_with fail
        refine (RS _).mono ?_
        rintro e w1 ⟨rfl, hB⟩
        go_wp2
        go_ret
        exact ⟨rfl, hB⟩
    · rw [if_neg (fun e => hk e.1)]
      go_enter Try.func9, Try.ntmps9
      go_wp2_with fail
      refine (DE _).mono ?_
      rintro e w1 ⟨rfl, rfl⟩
      go_wp2
      go_ret
      exact ⟨rfl, Below.refl _ _⟩

def exT : ByteArray := ⟨#[48, 120, 49, 70]⟩
theorem ex_res : resT 1 ⟨#[]⟩ exT true 2 = intT := by decide +kernel
theorem ex_def : defB 3 = mapT := by decide +kernel
set_option maxHeartbeats 400000 in
theorem alive_any (w : World) : Calls Try.prog 8 #[] w fun e w' => e = .returned (.bool true) ∧ Below w.heap.size w w' := by
  have RE := fun w => Resolve_any 1 2 ⟨#[]⟩ exT true w (by decide) (by decide)
  rw [ex_res] at RE
  have DE := fun w => default_any 3 w
  rw [ex_def] at DE
  unfold exT at RE
  unfold intT at RE
  unfold mapT at DE
  go_enter Try.func8, Try.ntmps8
  go_wp2_with fail
  refine (RE _).mono ?_
  rintro e w1 ⟨rfl, hB⟩
  go_wp2_with fail
  refine (DE _).mono ?_
  rintro e w1 ⟨rfl, rfl⟩
  go_wp2
  go_ret
  exact ⟨rfl, hB⟩
end Go.Proofs.Ytpffegkckejpiaa
