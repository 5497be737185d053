/- The tag that the document tells. -/
import Derived.Test.YtpffegkckejpiaaAmo
import Derived.Test.YtpffegkckejpiaaRes
set_option linter.unusedVariables false
set_option linter.unusedSimpArgs false
set_option maxRecDepth 100000
namespace Go.Proofs.Ytpffegkckejpiaa
open Go.RowKit

set_option maxHeartbeats 1000000 in
theorem rjson_any (s : ByteArray) (w : World) (hs : s.size ≤ 5000) : Calls Try.prog 20 #[.string s] w fun e w' => e = .returned (.string (jsT s)) ∧ w' = w := by
  unfold jsT
  cases h1 : s.toList == [110, 117, 108, 108]
  · cases h2 : s.toList == []
    · cases h3 : s.toList == [116, 114, 117, 101]
      · cases h4 : s.toList == [102, 97, 108, 115, 101]
        · rw [if_neg (show ¬ 5000 < s.size by omega)]
          have := rjson_num s w (by omega) h1 h2 h3 h4
          rw [← jsN_I] at this
          exact this
        · show Calls Try.prog 20 #[.string s] w fun e w' => e = .returned (.string boolT) ∧ w' = w
          go_enter Try.func20, Try.ntmps20
          go_wp2
          go_ret
          exact ⟨rfl, rfl⟩
      · show Calls Try.prog 20 #[.string s] w fun e w' => e = .returned (.string boolT) ∧ w' = w
        go_enter Try.func20, Try.ntmps20
        go_wp2
        go_ret
        exact ⟨rfl, rfl⟩
    · show Calls Try.prog 20 #[.string s] w fun e w' => e = .returned (.string nullT) ∧ w' = w
      go_enter Try.func20, Try.ntmps20
      go_wp2
      go_ret
      exact ⟨rfl, rfl⟩
  · show Calls Try.prog 20 #[.string s] w fun e w' => e = .returned (.string nullT) ∧ w' = w
    go_enter Try.func20, Try.ntmps20
    go_wp2
    go_ret
    exact ⟨rfl, rfl⟩
theorem rdefault_any (k : Int) (w : World) : Calls Try.prog 12 #[.int .i64 k] w fun e w' => e = .returned (.string (defB k)) ∧ w' = w := by
  unfold defB
  by_cases h1 : k = 1
  · rw [if_pos h1]
    go_enter Try.func12, Try.ntmps12
    go_wp2
    go_ret
    exact ⟨rfl, rfl⟩
  · rw [if_neg h1]
    by_cases h2 : k = 2
    · rw [if_pos h2]
      go_enter Try.func12, Try.ntmps12
      go_wp2
      go_ret
      exact ⟨rfl, rfl⟩
    · rw [if_neg h2]
      by_cases h3 : k = 3
      · rw [if_pos h3]
        go_enter Try.func12, Try.ntmps12
        go_wp2
        go_ret
        exact ⟨rfl, rfl⟩
      · rw [if_neg h3]
        go_enter Try.func12, Try.ntmps12
        go_wp2
        go_ret
        exact ⟨rfl, rfl⟩
set_option maxHeartbeats 4000000 in
theorem rcore_any (s : ByteArray) (w : World) (hs : s.size ≤ 100000) : Calls Try.prog 19 #[.string s] w fun e w' => e = .returned (.string (coreT s)) ∧ Below w.heap.size w w' := by
  have NU := fun w => null_any s w
  have YE := fun w => yes_any s w
  have NO := fun w => no_any s w
  have IN := fun w => rInt_v s w
  have FL := fun w => rFloat_v s w hs
  obtain ⟨b, d, x, k, hv⟩ := intN_F s
  rw [hv] at IN
  obtain ⟨b', d', x', k', hv'⟩ := fltN_F s
  rw [hv'] at FL
  unfold coreT
  clear hv hv'
  generalize intOk s = io at IN ⊢
  generalize fltOk s = fo at FL ⊢
  generalize isNul s = nu at NU ⊢
  generalize isYes s = ye at YE ⊢
  generalize isNo s = no at NO ⊢
  cases nu
  · cases ye
    · cases no
      · cases io
        · cases fo
          · show Calls Try.prog 19 #[.string s] w fun e w' => e = .returned (.string strT) ∧ Below w.heap.size w w'
            go_enter Try.func19, Try.ntmps19
            go_wp2_with fail
            refine (IN _).mono ?_
            rintro e w1 ⟨rfl, hB1⟩
            go_wp2_with fail
            refine (FL _).mono ?_
            rintro e w2 ⟨rfl, hB2⟩
            have c := below_step (below_alloc hB1 hB1.size _) (below_alloc hB1 hB1.size _).size hB2
            have c := below_alloc c c.size (.cells #[.bool b', .string d', .int .i64 x', .int .i64 k'] 27)
            go_wp2_with fail
            refine (NU _).mono ?_
            rintro e w3 ⟨rfl, hC3⟩
            have c := below_step c c.size hC3
            go_wp2_with fail
            refine (YE _).mono ?_
            rintro e w4 ⟨rfl, hC4⟩
            have c := below_step c c.size hC4
            go_wp2_with fail
            refine (NO _).mono ?_
            rintro e w5 ⟨rfl, hC5⟩
            have c := below_step c c.size hC5
            go_wp2
            go_ret
            exact ⟨rfl, c⟩
          · show Calls Try.prog 19 #[.string s] w fun e w' => e = .returned (.string floatT) ∧ Below w.heap.size w w'
            go_enter Try.func19, Try.ntmps19
            go_wp2_with fail
            refine (IN _).mono ?_
            rintro e w1 ⟨rfl, hB1⟩
            go_wp2_with fail
            refine (FL _).mono ?_
            rintro e w2 ⟨rfl, hB2⟩
            have c := below_step (below_alloc hB1 hB1.size _) (below_alloc hB1 hB1.size _).size hB2
            have c := below_alloc c c.size (.cells #[.bool b', .string d', .int .i64 x', .int .i64 k'] 27)
            go_wp2_with fail
            refine (NU _).mono ?_
            rintro e w3 ⟨rfl, hC3⟩
            have c := below_step c c.size hC3
            go_wp2_with fail
            refine (YE _).mono ?_
            rintro e w4 ⟨rfl, hC4⟩
            have c := below_step c c.size hC4
            go_wp2_with fail
            refine (NO _).mono ?_
            rintro e w5 ⟨rfl, hC5⟩
            have c := below_step c c.size hC5
            go_wp2
            go_ret
            exact ⟨rfl, c⟩
        · show Calls Try.prog 19 #[.string s] w fun e w' => e = .returned (.string intT) ∧ Below w.heap.size w w'
          go_enter Try.func19, Try.ntmps19
          go_wp2_with fail
          refine (IN _).mono ?_
          rintro e w1 ⟨rfl, hB1⟩
          go_wp2_with fail
          refine (FL _).mono ?_
          rintro e w2 ⟨rfl, hB2⟩
          have c := below_step (below_alloc hB1 hB1.size _) (below_alloc hB1 hB1.size _).size hB2
          have c := below_alloc c c.size (.cells #[.bool b', .string d', .int .i64 x', .int .i64 k'] 27)
          go_wp2_with fail
          refine (NU _).mono ?_
          rintro e w3 ⟨rfl, hC3⟩
          have c := below_step c c.size hC3
          go_wp2_with fail
          refine (YE _).mono ?_
          rintro e w4 ⟨rfl, hC4⟩
          have c := below_step c c.size hC4
          go_wp2_with fail
          refine (NO _).mono ?_
          rintro e w5 ⟨rfl, hC5⟩
          have c := below_step c c.size hC5
          go_wp2
          go_ret
          exact ⟨rfl, c⟩
      · show Calls Try.prog 19 #[.string s] w fun e w' => e = .returned (.string boolT) ∧ Below w.heap.size w w'
        go_enter Try.func19, Try.ntmps19
        go_wp2_with fail
        refine (IN _).mono ?_
        rintro e w1 ⟨rfl, hB1⟩
        go_wp2_with fail
        refine (FL _).mono ?_
        rintro e w2 ⟨rfl, hB2⟩
        have c := below_step (below_alloc hB1 hB1.size _) (below_alloc hB1 hB1.size _).size hB2
        have c := below_alloc c c.size (.cells #[.bool b', .string d', .int .i64 x', .int .i64 k'] 27)
        go_wp2_with fail
        refine (NU _).mono ?_
        rintro e w3 ⟨rfl, hC3⟩
        have c := below_step c c.size hC3
        go_wp2_with fail
        refine (YE _).mono ?_
        rintro e w4 ⟨rfl, hC4⟩
        have c := below_step c c.size hC4
        go_wp2_with fail
        refine (NO _).mono ?_
        rintro e w5 ⟨rfl, hC5⟩
        have c := below_step c c.size hC5
        go_wp2
        go_ret
        exact ⟨rfl, c⟩
    · show Calls Try.prog 19 #[.string s] w fun e w' => e = .returned (.string boolT) ∧ Below w.heap.size w w'
      go_enter Try.func19, Try.ntmps19
      go_wp2_with fail
      refine (IN _).mono ?_
      rintro e w1 ⟨rfl, hB1⟩
      go_wp2_with fail
      refine (FL _).mono ?_
      rintro e w2 ⟨rfl, hB2⟩
      have c := below_step (below_alloc hB1 hB1.size _) (below_alloc hB1 hB1.size _).size hB2
      have c := below_alloc c c.size (.cells #[.bool b', .string d', .int .i64 x', .int .i64 k'] 27)
      go_wp2_with fail
      refine (NU _).mono ?_
      rintro e w3 ⟨rfl, hC3⟩
      have c := below_step c c.size hC3
      go_wp2_with fail
      refine (YE _).mono ?_
      rintro e w4 ⟨rfl, hC4⟩
      have c := below_step c c.size hC4
      go_wp2
      go_ret
      exact ⟨rfl, c⟩
  · show Calls Try.prog 19 #[.string s] w fun e w' => e = .returned (.string nullT) ∧ Below w.heap.size w w'
    go_enter Try.func19, Try.ntmps19
    go_wp2_with fail
    refine (IN _).mono ?_
    rintro e w1 ⟨rfl, hB1⟩
    go_wp2_with fail
    refine (FL _).mono ?_
    rintro e w2 ⟨rfl, hB2⟩
    have c := below_step (below_alloc hB1 hB1.size _) (below_alloc hB1 hB1.size _).size hB2
    have c := below_alloc c c.size (.cells #[.bool b', .string d', .int .i64 x', .int .i64 k'] 27)
    go_wp2_with fail
    refine (NU _).mono ?_
    rintro e w3 ⟨rfl, hC3⟩
    have c := below_step c c.size hC3
    go_wp2
    go_ret
    exact ⟨rfl, c⟩
set_option maxHeartbeats 8000000 in
theorem rResolve_any (kind which : Int) (tag s : ByteArray) (plain : Bool) (w : World) (hs : s.size ≤ 5000) :
    Calls Try.prog 10 #[.int .i64 kind, .string tag, .string s, .bool plain, .int .i64 which] w fun e w' => e = .returned (.string (resT kind tag s plain which)) ∧ Below w.heap.size w w' := by
  rw [resT_eq]
  have DE := fun w => rdefault_any kind w
  have CO := fun w => rcore_any s w (by omega)
  have JS := fun w => rjson_any s w hs
  cases h1 : tag.toList == []
  · cases h2 : tag.toList == [33]
    · have n1 : (tag.toList != []) = true := by rw [bne, h1]; rfl
      have n2 : (tag.toList != [33]) = true := by rw [bne, h2]; rfl
      show Calls Try.prog 10 _ w fun e w' => e = .returned (.string tag) ∧ Below w.heap.size w w'
      go_enter Try.func10, Try.ntmps10
      go_wp2
      go_ret
      exact ⟨rfl, Below.refl _ _⟩
    · have n1 : (tag.toList != []) = true := by rw [bne, h1]; rfl
      have n2 : (tag.toList != [33]) = false := by rw [bne, h2]; rfl
      show Calls Try.prog 10 _ w fun e w' => e = .returned (.string (defB kind)) ∧ Below w.heap.size w w'
      go_enter Try.func10, Try.ntmps10
      go_wp2_with fail
      refine (DE _).mono ?_
      rintro e w1 ⟨rfl, rfl⟩
      go_wp2
      go_ret
      exact ⟨rfl, Below.refl _ _⟩
  · have n1 : (tag.toList != []) = false := by rw [bne, h1]; rfl
    have h2 : (tag.toList == [33]) = false := by
      rw [beq_iff_eq.1 h1]; rfl
    rw [if_pos rfl]
    by_cases hk : kind = 1
    · subst hk
      cases plain
      · rw [if_neg (fun e => absurd e.2 (by decide))]
        go_enter Try.func10, Try.ntmps10
        go_wp2_with fail
        refine (DE _).mono ?_
        rintro e w1 ⟨rfl, rfl⟩
        go_wp2
        go_ret
        exact ⟨rfl, Below.refl _ _⟩
      · rw [if_pos ⟨rfl, rfl⟩]
        unfold plainT
        by_cases w2 : which = 2
        · subst w2
          rw [if_pos rfl]
          go_enter Try.func10, Try.ntmps10
          go_wp2_with fail
          refine (CO _).mono ?_
          rintro e w1 ⟨rfl, hB⟩
          go_wp2
          go_ret
          exact ⟨rfl, hB⟩
        · rw [if_neg w2]
          by_cases w1 : which = 1
          · subst w1
            rw [if_pos rfl]
            go_enter Try.func10, Try.ntmps10
            go_wp2_with fail
            refine (JS _).mono ?_
            rintro e w1 ⟨rfl, rfl⟩
            go_wp2
            go_ret
            exact ⟨rfl, Below.refl _ _⟩
          · rw [if_neg w1]
            go_enter Try.func10, Try.ntmps10
            go_wp2_with fail
            refine (DE _).mono ?_
            rintro e w1 ⟨rfl, rfl⟩
            go_wp2
            go_ret
            exact ⟨rfl, Below.refl _ _⟩
    · rw [if_neg (fun e => hk e.1)]
      have hkb : (kind != 1) = true := by simpa using hk
      go_enter Try.func10, Try.ntmps10
      go_wp2_with fail
      refine (DE _).mono ?_
      rintro e w1 ⟨rfl, rfl⟩
      go_wp2
      go_ret
      exact ⟨rfl, Below.refl _ _⟩
theorem num_any (n : Int) (w : World) : Calls Try.prog 15 #[.int .i64 n] w fun e w' => e = .returned (.int .i64 n) ∧ w' = w := by
  go_enter Try.func15, Try.ntmps15
  go_wp2
  go_ret
  exact ⟨rfl, rfl⟩
end Go.Proofs.Ytpffegkckejpiaa
set_option maxRecDepth 100000
namespace Go.Proofs.Ytpffegkckejpiaa
open Go.RowKit

theorem put7_comm {W : World} {g : Nat} (h : g < W.heap.size) (o : Obj) (b0 b1 b2 b3 b4 b5 b6 : Value) : put7 (W.alloc o) g b0 b1 b2 b3 b4 b5 b6 = (put7 W g b0 b1 b2 b3 b4 b5 b6).alloc o := by
  unfold put7
  simp [go_sem, h]
/-- What both numbers of a text are. -/
structure Two (s : ByteArray) (b : Bool) (d : ByteArray) (x k : Int) (b' : Bool) (d' : ByteArray) (x' k' : Int) (io fo : Bool) : Prop where
  i : intN s = .agg #[.bool b, .string d, .int .i64 x, .int .i64 k]
  f : fltN s = .agg #[.bool b', .string d', .int .i64 x', .int .i64 k']
  io : intOk s = io
  fo : fltOk s = fo
set_option maxHeartbeats 4000000 in
theorem rval_null_yes (tag s : ByteArray) (w : World) (hs : s.size ≤ 100000) {b : Bool} {d : ByteArray} {x k : Int} {b' : Bool} {d' : ByteArray} {x' k' : Int} {io fo : Bool} (T : Two s b d x k b' d' x' k' io fo) (t_null : (tag.toList == [116, 97, 103, 58, 121, 97, 109, 108, 46, 111, 114, 103, 44, 50, 48, 48, 50, 58, 110, 117, 108, 108]) = true) (hn : isNul s = true) :
    Calls Try.prog 14 #[.string tag, .string s] w fun e w' => e = .returned (.tuple #[.agg #[.int .i64 1, .bool false, .bool false, .string ⟨#[]⟩, .int .i64 0, .int .i64 0, .string ⟨#[]⟩], .int .i64 0]) ∧ Below w.heap.size w w' := by
  have IN := fun w => rInt_v s w
  rw [T.i, T.io] at IN
  have FL := fun w => rFloat_v s w hs
  rw [T.f, T.fo] at FL
  clear T
  have NU := fun w => null_any s w
  rw [hn] at NU
  go_enter Try.func14, Try.ntmps14
  go_wp2_with fail
  refine (IN _).mono ?_
  rintro e w1 ⟨rfl, hB1⟩
  rw [size1] at hB1
  have hlt1 : w.heap.size + 1 ≤ w1.heap.size := by have := hB1.size; rw [size1] at this; exact this
  go_wp2_with fail
  refine (FL _).mono ?_
  rintro e w2 ⟨rfl, hB2⟩
  rw [size1] at hB2
  have hlt2 : w1.heap.size + 1 ≤ w2.heap.size := by have := hB2.size; rw [size1] at this; exact this
  have hA : Below (w.heap.size + 1) (w.alloc z7) w2 := hB1.trans (below_step (below_alloc (Below.refl w1.heap.size w1) (Nat.le_refl _) _) (by rw [size1]; omega) (hB2.mono (by rw [size1]; exact Nat.le_refl _)) |>.mono hlt1)
  have c := below_alloc hA (by omega) (.cells #[.bool b', .string d', .int .i64 x', .int .i64 k'] 27)
  go_wp2_with fail
  refine (NU _).mono ?_
  rintro e w3 ⟨rfl, hC3⟩
  have c := below_step c (by have := c.size; rw [size1] at this; exact this) hC3
  have R := res7 c
  have HR : Hid _ := R
  obtain ⟨⟨r0, r1, r2, r3, r4, r5, r6⟩, f0, f1, f2, f3, f4, f5, f6⟩ := R
  have hw := z7_below c
  go_wp2
  exact bodyPost_ret (v := .tuple #[.agg #[.int .i64 1, .bool false, .bool false, .string ⟨#[]⟩, .int .i64 0, .int .i64 0, .string ⟨#[]⟩], .int .i64 0]) (put7_results2 Try.results14 rfl rfl HR.out.1 _ _ _ _ _ _ _) rfl ⟨rfl, put7_below hw (Nat.le_refl _) _ _ _ _ _ _ _⟩
set_option maxHeartbeats 4000000 in
theorem rval_null_no (tag s : ByteArray) (w : World) (hs : s.size ≤ 100000) {b : Bool} {d : ByteArray} {x k : Int} {b' : Bool} {d' : ByteArray} {x' k' : Int} {io fo : Bool} (T : Two s b d x k b' d' x' k' io fo) (t_null : (tag.toList == [116, 97, 103, 58, 121, 97, 109, 108, 46, 111, 114, 103, 44, 50, 48, 48, 50, 58, 110, 117, 108, 108]) = true) (hn : isNul s = false) :
    Calls Try.prog 14 #[.string tag, .string s] w fun e w' => e = .returned (.tuple #[.agg #[.int .i64 0, .bool false, .bool false, .string ⟨#[]⟩, .int .i64 0, .int .i64 0, .string ⟨#[]⟩], .int .i64 15]) ∧ Below w.heap.size w w' := by
  have IN := fun w => rInt_v s w
  rw [T.i, T.io] at IN
  have FL := fun w => rFloat_v s w hs
  rw [T.f, T.fo] at FL
  clear T
  have NU := fun w => null_any s w
  rw [hn] at NU
  go_enter Try.func14, Try.ntmps14
  go_wp2_with fail
  refine (IN _).mono ?_
  rintro e w1 ⟨rfl, hB1⟩
  rw [size1] at hB1
  have hlt1 : w.heap.size + 1 ≤ w1.heap.size := by have := hB1.size; rw [size1] at this; exact this
  go_wp2_with fail
  refine (FL _).mono ?_
  rintro e w2 ⟨rfl, hB2⟩
  rw [size1] at hB2
  have hlt2 : w1.heap.size + 1 ≤ w2.heap.size := by have := hB2.size; rw [size1] at this; exact this
  have hA : Below (w.heap.size + 1) (w.alloc z7) w2 := hB1.trans (below_step (below_alloc (Below.refl w1.heap.size w1) (Nat.le_refl _) _) (by rw [size1]; omega) (hB2.mono (by rw [size1]; exact Nat.le_refl _)) |>.mono hlt1)
  have c := below_alloc hA (by omega) (.cells #[.bool b', .string d', .int .i64 x', .int .i64 k'] 27)
  go_wp2_with fail
  refine (NU _).mono ?_
  rintro e w3 ⟨rfl, hC3⟩
  have c := below_step c (by have := c.size; rw [size1] at this; exact this) hC3
  have R := res7 c
  have HR : Hid _ := R
  obtain ⟨⟨r0, r1, r2, r3, r4, r5, r6⟩, f0, f1, f2, f3, f4, f5, f6⟩ := R
  have hw := z7_below c
  go_wp2
  exact bodyPost_ret (v := .tuple #[.agg #[.int .i64 0, .bool false, .bool false, .string ⟨#[]⟩, .int .i64 0, .int .i64 0, .string ⟨#[]⟩], .int .i64 15]) (put7_results2 Try.results14 rfl rfl HR.out.1 _ _ _ _ _ _ _) rfl ⟨rfl, put7_below hw (Nat.le_refl _) _ _ _ _ _ _ _⟩
set_option maxHeartbeats 4000000 in
theorem rval_bool_yes (tag s : ByteArray) (w : World) (hs : s.size ≤ 100000) {b : Bool} {d : ByteArray} {x k : Int} {b' : Bool} {d' : ByteArray} {x' k' : Int} {io fo : Bool} (T : Two s b d x k b' d' x' k' io fo) (t_null : (tag.toList == [116, 97, 103, 58, 121, 97, 109, 108, 46, 111, 114, 103, 44, 50, 48, 48, 50, 58, 110, 117, 108, 108]) = false) (t_bool : (tag.toList == [116, 97, 103, 58, 121, 97, 109, 108, 46, 111, 114, 103, 44, 50, 48, 48, 50, 58, 98, 111, 111, 108]) = true) (hy : isYes s = true) :
    Calls Try.prog 14 #[.string tag, .string s] w fun e w' => e = .returned (.tuple #[.agg #[.int .i64 2, .bool true, .bool false, .string ⟨#[]⟩, .int .i64 0, .int .i64 0, .string ⟨#[]⟩], .int .i64 0]) ∧ Below w.heap.size w w' := by
  have IN := fun w => rInt_v s w
  rw [T.i, T.io] at IN
  have FL := fun w => rFloat_v s w hs
  rw [T.f, T.fo] at FL
  clear T
  have YE := fun w => yes_any s w
  rw [hy] at YE
  go_enter Try.func14, Try.ntmps14
  go_wp2_with fail
  refine (IN _).mono ?_
  rintro e w1 ⟨rfl, hB1⟩
  rw [size1] at hB1
  have hlt1 : w.heap.size + 1 ≤ w1.heap.size := by have := hB1.size; rw [size1] at this; exact this
  go_wp2_with fail
  refine (FL _).mono ?_
  rintro e w2 ⟨rfl, hB2⟩
  rw [size1] at hB2
  have hlt2 : w1.heap.size + 1 ≤ w2.heap.size := by have := hB2.size; rw [size1] at this; exact this
  have hA : Below (w.heap.size + 1) (w.alloc z7) w2 := hB1.trans (below_step (below_alloc (Below.refl w1.heap.size w1) (Nat.le_refl _) _) (by rw [size1]; omega) (hB2.mono (by rw [size1]; exact Nat.le_refl _)) |>.mono hlt1)
  have c := below_alloc hA (by omega) (.cells #[.bool b', .string d', .int .i64 x', .int .i64 k'] 27)
  go_wp2_with fail
  refine (YE _).mono ?_
  rintro e w3 ⟨rfl, hC3⟩
  have c := below_step c (by have := c.size; rw [size1] at this; exact this) hC3
  go_wp2_with fail
  refine (YE _).mono ?_
  rintro e w4 ⟨rfl, hC4⟩
  have c := below_step c (by have := c.size; rw [size1] at this; exact this) hC4
  have R := res7 c
  have HR : Hid _ := R
  obtain ⟨⟨r0, r1, r2, r3, r4, r5, r6⟩, f0, f1, f2, f3, f4, f5, f6⟩ := R
  have hw := z7_below c
  go_wp2
  exact bodyPost_ret (v := .tuple #[.agg #[.int .i64 2, .bool true, .bool false, .string ⟨#[]⟩, .int .i64 0, .int .i64 0, .string ⟨#[]⟩], .int .i64 0]) (put7_results2 Try.results14 rfl rfl HR.out.1 _ _ _ _ _ _ _) rfl ⟨rfl, put7_below hw (Nat.le_refl _) _ _ _ _ _ _ _⟩
set_option maxHeartbeats 4000000 in
theorem rval_bool_no (tag s : ByteArray) (w : World) (hs : s.size ≤ 100000) {b : Bool} {d : ByteArray} {x k : Int} {b' : Bool} {d' : ByteArray} {x' k' : Int} {io fo : Bool} (T : Two s b d x k b' d' x' k' io fo) (t_null : (tag.toList == [116, 97, 103, 58, 121, 97, 109, 108, 46, 111, 114, 103, 44, 50, 48, 48, 50, 58, 110, 117, 108, 108]) = false) (t_bool : (tag.toList == [116, 97, 103, 58, 121, 97, 109, 108, 46, 111, 114, 103, 44, 50, 48, 48, 50, 58, 98, 111, 111, 108]) = true) (hy : isYes s = false) (hno : isNo s = true) :
    Calls Try.prog 14 #[.string tag, .string s] w fun e w' => e = .returned (.tuple #[.agg #[.int .i64 2, .bool false, .bool false, .string ⟨#[]⟩, .int .i64 0, .int .i64 0, .string ⟨#[]⟩], .int .i64 0]) ∧ Below w.heap.size w w' := by
  have IN := fun w => rInt_v s w
  rw [T.i, T.io] at IN
  have FL := fun w => rFloat_v s w hs
  rw [T.f, T.fo] at FL
  clear T
  have YE := fun w => yes_any s w
  rw [hy] at YE
  have NO := fun w => no_any s w
  rw [hno] at NO
  go_enter Try.func14, Try.ntmps14
  go_wp2_with fail
  refine (IN _).mono ?_
  rintro e w1 ⟨rfl, hB1⟩
  rw [size1] at hB1
  have hlt1 : w.heap.size + 1 ≤ w1.heap.size := by have := hB1.size; rw [size1] at this; exact this
  go_wp2_with fail
  refine (FL _).mono ?_
  rintro e w2 ⟨rfl, hB2⟩
  rw [size1] at hB2
  have hlt2 : w1.heap.size + 1 ≤ w2.heap.size := by have := hB2.size; rw [size1] at this; exact this
  have hA : Below (w.heap.size + 1) (w.alloc z7) w2 := hB1.trans (below_step (below_alloc (Below.refl w1.heap.size w1) (Nat.le_refl _) _) (by rw [size1]; omega) (hB2.mono (by rw [size1]; exact Nat.le_refl _)) |>.mono hlt1)
  have c := below_alloc hA (by omega) (.cells #[.bool b', .string d', .int .i64 x', .int .i64 k'] 27)
  go_wp2_with fail
  refine (YE _).mono ?_
  rintro e w3 ⟨rfl, hC3⟩
  have c := below_step c (by have := c.size; rw [size1] at this; exact this) hC3
  go_wp2_with fail
  refine (NO _).mono ?_
  rintro e w4 ⟨rfl, hC4⟩
  have c := below_step c (by have := c.size; rw [size1] at this; exact this) hC4
  go_wp2_with fail
  refine (YE _).mono ?_
  rintro e w5 ⟨rfl, hC5⟩
  have c := below_step c (by have := c.size; rw [size1] at this; exact this) hC5
  have R := res7 c
  have HR : Hid _ := R
  obtain ⟨⟨r0, r1, r2, r3, r4, r5, r6⟩, f0, f1, f2, f3, f4, f5, f6⟩ := R
  have hw := z7_below c
  go_wp2
  exact bodyPost_ret (v := .tuple #[.agg #[.int .i64 2, .bool false, .bool false, .string ⟨#[]⟩, .int .i64 0, .int .i64 0, .string ⟨#[]⟩], .int .i64 0]) (put7_results2 Try.results14 rfl rfl HR.out.1 _ _ _ _ _ _ _) rfl ⟨rfl, put7_below hw (Nat.le_refl _) _ _ _ _ _ _ _⟩
set_option maxHeartbeats 4000000 in
theorem rval_bool_none (tag s : ByteArray) (w : World) (hs : s.size ≤ 100000) {b : Bool} {d : ByteArray} {x k : Int} {b' : Bool} {d' : ByteArray} {x' k' : Int} {io fo : Bool} (T : Two s b d x k b' d' x' k' io fo) (t_null : (tag.toList == [116, 97, 103, 58, 121, 97, 109, 108, 46, 111, 114, 103, 44, 50, 48, 48, 50, 58, 110, 117, 108, 108]) = false) (t_bool : (tag.toList == [116, 97, 103, 58, 121, 97, 109, 108, 46, 111, 114, 103, 44, 50, 48, 48, 50, 58, 98, 111, 111, 108]) = true) (hy : isYes s = false) (hno : isNo s = false) :
    Calls Try.prog 14 #[.string tag, .string s] w fun e w' => e = .returned (.tuple #[.agg #[.int .i64 0, .bool false, .bool false, .string ⟨#[]⟩, .int .i64 0, .int .i64 0, .string ⟨#[]⟩], .int .i64 15]) ∧ Below w.heap.size w w' := by
  have IN := fun w => rInt_v s w
  rw [T.i, T.io] at IN
  have FL := fun w => rFloat_v s w hs
  rw [T.f, T.fo] at FL
  clear T
  have YE := fun w => yes_any s w
  rw [hy] at YE
  have NO := fun w => no_any s w
  rw [hno] at NO
  go_enter Try.func14, Try.ntmps14
  go_wp2_with fail
  refine (IN _).mono ?_
  rintro e w1 ⟨rfl, hB1⟩
  rw [size1] at hB1
  have hlt1 : w.heap.size + 1 ≤ w1.heap.size := by have := hB1.size; rw [size1] at this; exact this
  go_wp2_with fail
  refine (FL _).mono ?_
  rintro e w2 ⟨rfl, hB2⟩
  rw [size1] at hB2
  have hlt2 : w1.heap.size + 1 ≤ w2.heap.size := by have := hB2.size; rw [size1] at this; exact this
  have hA : Below (w.heap.size + 1) (w.alloc z7) w2 := hB1.trans (below_step (below_alloc (Below.refl w1.heap.size w1) (Nat.le_refl _) _) (by rw [size1]; omega) (hB2.mono (by rw [size1]; exact Nat.le_refl _)) |>.mono hlt1)
  have c := below_alloc hA (by omega) (.cells #[.bool b', .string d', .int .i64 x', .int .i64 k'] 27)
  go_wp2_with fail
  refine (YE _).mono ?_
  rintro e w3 ⟨rfl, hC3⟩
  have c := below_step c (by have := c.size; rw [size1] at this; exact this) hC3
  go_wp2_with fail
  refine (NO _).mono ?_
  rintro e w4 ⟨rfl, hC4⟩
  have c := below_step c (by have := c.size; rw [size1] at this; exact this) hC4
  have R := res7 c
  have HR : Hid _ := R
  obtain ⟨⟨r0, r1, r2, r3, r4, r5, r6⟩, f0, f1, f2, f3, f4, f5, f6⟩ := R
  have hw := z7_below c
  go_wp2
  exact bodyPost_ret (v := .tuple #[.agg #[.int .i64 0, .bool false, .bool false, .string ⟨#[]⟩, .int .i64 0, .int .i64 0, .string ⟨#[]⟩], .int .i64 15]) (put7_results2 Try.results14 rfl rfl HR.out.1 _ _ _ _ _ _ _) rfl ⟨rfl, put7_below hw (Nat.le_refl _) _ _ _ _ _ _ _⟩
set_option maxHeartbeats 4000000 in
theorem rval_int_yes (tag s : ByteArray) (w : World) (hs : s.size ≤ 100000) {b : Bool} {d : ByteArray} {x k : Int} {b' : Bool} {d' : ByteArray} {x' k' : Int} {fo : Bool} (T : Two s b d x k b' d' x' k' true fo) (t_null : (tag.toList == [116, 97, 103, 58, 121, 97, 109, 108, 46, 111, 114, 103, 44, 50, 48, 48, 50, 58, 110, 117, 108, 108]) = false) (t_bool : (tag.toList == [116, 97, 103, 58, 121, 97, 109, 108, 46, 111, 114, 103, 44, 50, 48, 48, 50, 58, 98, 111, 111, 108]) = false) (t_int : (tag.toList == [116, 97, 103, 58, 121, 97, 109, 108, 46, 111, 114, 103, 44, 50, 48, 48, 50, 58, 105, 110, 116]) = true) :
    Calls Try.prog 14 #[.string tag, .string s] w fun e w' => e = .returned (.tuple #[.agg #[.int .i64 3, .bool false, .bool b, .string d, .int .i64 x, .int .i64 k, .string ⟨#[]⟩], .int .i64 0]) ∧ Below w.heap.size w w' := by
  have IN := fun w => rInt_v s w
  rw [T.i, T.io] at IN
  have FL := fun w => rFloat_v s w hs
  rw [T.f, T.fo] at FL
  clear T
  go_enter Try.func14, Try.ntmps14
  go_wp2_with fail
  refine (IN _).mono ?_
  rintro e w1 ⟨rfl, hB1⟩
  rw [size1] at hB1
  have hlt1 : w.heap.size + 1 ≤ w1.heap.size := by have := hB1.size; rw [size1] at this; exact this
  go_wp2_with fail
  refine (FL _).mono ?_
  rintro e w2 ⟨rfl, hB2⟩
  rw [size1] at hB2
  have hlt2 : w1.heap.size + 1 ≤ w2.heap.size := by have := hB2.size; rw [size1] at this; exact this
  have hA : Below (w.heap.size + 1) (w.alloc z7) w2 := hB1.trans (below_step (below_alloc (Below.refl w1.heap.size w1) (Nat.le_refl _) _) (by rw [size1]; omega) (hB2.mono (by rw [size1]; exact Nat.le_refl _)) |>.mono hlt1)
  have hg : w.heap.size < w2.heap.size := by omega
  have hne1 : ¬ w.heap.size = w2.heap.size := by omega
  have hne2 : ¬ w2.heap.size = w.heap.size := by omega
  have hk1 : w1.heap.size < w2.heap.size := by omega
  have hk2 : ¬ w1.heap.size = w2.heap.size := by omega
  have hk3 : ¬ w2.heap.size = w1.heap.size := by omega
  have R := res7 hA
  obtain ⟨⟨r0, r1, r2, r3, r4, r5, r6⟩, f0, f1, f2, f3, f4, f5, f6⟩ := R
  obtain ⟨q0, q1, q2, q3, g0, g1, g2, g3⟩ := res_cells hB2
  have c := below_alloc hA (by omega) (.cells #[.bool b', .string d', .int .i64 x', .int .i64 k'] 27)
  have R := res7 c
  have HR : Hid _ := R
  clear R
  have hw := z7_below c
  have HE : Hid _ := @put7_comm w2 w.heap.size hg (.cells #[.bool b', .string d', .int .i64 x', .int .i64 k'] 27)
  go_wp2
  show bodyPost _ _ _ _ _ ((put7 w2 w.heap.size (.int .i64 3) (.bool false) (.bool b) (.string d) (.int .i64 x) (.int .i64 k) (.string ⟨#[]⟩)).alloc (.cells #[.bool b', .string d', .int .i64 x', .int .i64 k'] 27))
  rw [← HE.out]
  exact bodyPost_ret (v := .tuple #[.agg #[.int .i64 3, .bool false, .bool b, .string d, .int .i64 x, .int .i64 k, .string ⟨#[]⟩], .int .i64 0]) (put7_results2 Try.results14 rfl rfl HR.out.1 _ _ _ _ _ _ _) rfl ⟨rfl, put7_below hw (Nat.le_refl _) _ _ _ _ _ _ _⟩
set_option maxHeartbeats 4000000 in
theorem rval_int_no (tag s : ByteArray) (w : World) (hs : s.size ≤ 100000) {b : Bool} {d : ByteArray} {x k : Int} {b' : Bool} {d' : ByteArray} {x' k' : Int} {fo : Bool} (T : Two s b d x k b' d' x' k' false fo) (t_null : (tag.toList == [116, 97, 103, 58, 121, 97, 109, 108, 46, 111, 114, 103, 44, 50, 48, 48, 50, 58, 110, 117, 108, 108]) = false) (t_bool : (tag.toList == [116, 97, 103, 58, 121, 97, 109, 108, 46, 111, 114, 103, 44, 50, 48, 48, 50, 58, 98, 111, 111, 108]) = false) (t_int : (tag.toList == [116, 97, 103, 58, 121, 97, 109, 108, 46, 111, 114, 103, 44, 50, 48, 48, 50, 58, 105, 110, 116]) = true) :
    Calls Try.prog 14 #[.string tag, .string s] w fun e w' => e = .returned (.tuple #[.agg #[.int .i64 0, .bool false, .bool false, .string ⟨#[]⟩, .int .i64 0, .int .i64 0, .string ⟨#[]⟩], .int .i64 15]) ∧ Below w.heap.size w w' := by
  have IN := fun w => rInt_v s w
  rw [T.i, T.io] at IN
  have FL := fun w => rFloat_v s w hs
  rw [T.f, T.fo] at FL
  clear T
  go_enter Try.func14, Try.ntmps14
  go_wp2_with fail
  refine (IN _).mono ?_
  rintro e w1 ⟨rfl, hB1⟩
  rw [size1] at hB1
  have hlt1 : w.heap.size + 1 ≤ w1.heap.size := by have := hB1.size; rw [size1] at this; exact this
  go_wp2_with fail
  refine (FL _).mono ?_
  rintro e w2 ⟨rfl, hB2⟩
  rw [size1] at hB2
  have hlt2 : w1.heap.size + 1 ≤ w2.heap.size := by have := hB2.size; rw [size1] at this; exact this
  have hA : Below (w.heap.size + 1) (w.alloc z7) w2 := hB1.trans (below_step (below_alloc (Below.refl w1.heap.size w1) (Nat.le_refl _) _) (by rw [size1]; omega) (hB2.mono (by rw [size1]; exact Nat.le_refl _)) |>.mono hlt1)
  have hg : w.heap.size < w2.heap.size := by omega
  have hne1 : ¬ w.heap.size = w2.heap.size := by omega
  have hne2 : ¬ w2.heap.size = w.heap.size := by omega
  have hk1 : w1.heap.size < w2.heap.size := by omega
  have hk2 : ¬ w1.heap.size = w2.heap.size := by omega
  have hk3 : ¬ w2.heap.size = w1.heap.size := by omega
  have R := res7 hA
  obtain ⟨⟨r0, r1, r2, r3, r4, r5, r6⟩, f0, f1, f2, f3, f4, f5, f6⟩ := R
  obtain ⟨q0, q1, q2, q3, g0, g1, g2, g3⟩ := res_cells hB2
  have c := below_alloc hA (by omega) (.cells #[.bool b', .string d', .int .i64 x', .int .i64 k'] 27)
  have R := res7 c
  have HR : Hid _ := R
  clear R
  have hw := z7_below c
  have HE : Hid _ := @put7_comm w2 w.heap.size hg (.cells #[.bool b', .string d', .int .i64 x', .int .i64 k'] 27)
  go_wp2
  show bodyPost _ _ _ _ _ ((put7 w2 w.heap.size (.int .i64 0) (.bool false) (.bool false) (.string ⟨#[]⟩) (.int .i64 0) (.int .i64 0) (.string ⟨#[]⟩)).alloc (.cells #[.bool b', .string d', .int .i64 x', .int .i64 k'] 27))
  rw [← HE.out]
  exact bodyPost_ret (v := .tuple #[.agg #[.int .i64 0, .bool false, .bool false, .string ⟨#[]⟩, .int .i64 0, .int .i64 0, .string ⟨#[]⟩], .int .i64 15]) (put7_results2 Try.results14 rfl rfl HR.out.1 _ _ _ _ _ _ _) rfl ⟨rfl, put7_below hw (Nat.le_refl _) _ _ _ _ _ _ _⟩
set_option maxHeartbeats 4000000 in
theorem rval_float_yes (tag s : ByteArray) (w : World) (hs : s.size ≤ 100000) {b : Bool} {d : ByteArray} {x k : Int} {b' : Bool} {d' : ByteArray} {x' k' : Int} {io : Bool} (T : Two s b d x k b' d' x' k' io true) (t_null : (tag.toList == [116, 97, 103, 58, 121, 97, 109, 108, 46, 111, 114, 103, 44, 50, 48, 48, 50, 58, 110, 117, 108, 108]) = false) (t_bool : (tag.toList == [116, 97, 103, 58, 121, 97, 109, 108, 46, 111, 114, 103, 44, 50, 48, 48, 50, 58, 98, 111, 111, 108]) = false) (t_int : (tag.toList == [116, 97, 103, 58, 121, 97, 109, 108, 46, 111, 114, 103, 44, 50, 48, 48, 50, 58, 105, 110, 116]) = false) (t_float : (tag.toList == [116, 97, 103, 58, 121, 97, 109, 108, 46, 111, 114, 103, 44, 50, 48, 48, 50, 58, 102, 108, 111, 97, 116]) = true) :
    Calls Try.prog 14 #[.string tag, .string s] w fun e w' => e = .returned (.tuple #[.agg #[.int .i64 4, .bool false, .bool b', .string d', .int .i64 x', .int .i64 k', .string ⟨#[]⟩], .int .i64 0]) ∧ Below w.heap.size w w' := by
  have IN := fun w => rInt_v s w
  rw [T.i, T.io] at IN
  have FL := fun w => rFloat_v s w hs
  rw [T.f, T.fo] at FL
  clear T
  go_enter Try.func14, Try.ntmps14
  go_wp2_with fail
  refine (IN _).mono ?_
  rintro e w1 ⟨rfl, hB1⟩
  rw [size1] at hB1
  have hlt1 : w.heap.size + 1 ≤ w1.heap.size := by have := hB1.size; rw [size1] at this; exact this
  go_wp2_with fail
  refine (FL _).mono ?_
  rintro e w2 ⟨rfl, hB2⟩
  rw [size1] at hB2
  have hlt2 : w1.heap.size + 1 ≤ w2.heap.size := by have := hB2.size; rw [size1] at this; exact this
  have hA : Below (w.heap.size + 1) (w.alloc z7) w2 := hB1.trans (below_step (below_alloc (Below.refl w1.heap.size w1) (Nat.le_refl _) _) (by rw [size1]; omega) (hB2.mono (by rw [size1]; exact Nat.le_refl _)) |>.mono hlt1)
  have hg : w.heap.size < w2.heap.size := by omega
  have hne1 : ¬ w.heap.size = w2.heap.size := by omega
  have hne2 : ¬ w2.heap.size = w.heap.size := by omega
  have hk1 : w1.heap.size < w2.heap.size := by omega
  have hk2 : ¬ w1.heap.size = w2.heap.size := by omega
  have hk3 : ¬ w2.heap.size = w1.heap.size := by omega
  have R := res7 hA
  obtain ⟨⟨r0, r1, r2, r3, r4, r5, r6⟩, f0, f1, f2, f3, f4, f5, f6⟩ := R
  obtain ⟨q0, q1, q2, q3, g0, g1, g2, g3⟩ := res_cells hB2
  have c := below_alloc hA (by omega) (.cells #[.bool b', .string d', .int .i64 x', .int .i64 k'] 27)
  have R := res7 c
  have HR : Hid _ := R
  clear R
  have hw := z7_below c
  have HE : Hid _ := @put7_comm w2 w.heap.size hg (.cells #[.bool b', .string d', .int .i64 x', .int .i64 k'] 27)
  go_wp2
  show bodyPost _ _ _ _ _ ((put7 w2 w.heap.size (.int .i64 4) (.bool false) (.bool b') (.string d') (.int .i64 x') (.int .i64 k') (.string ⟨#[]⟩)).alloc (.cells #[.bool b', .string d', .int .i64 x', .int .i64 k'] 27))
  rw [← HE.out]
  exact bodyPost_ret (v := .tuple #[.agg #[.int .i64 4, .bool false, .bool b', .string d', .int .i64 x', .int .i64 k', .string ⟨#[]⟩], .int .i64 0]) (put7_results2 Try.results14 rfl rfl HR.out.1 _ _ _ _ _ _ _) rfl ⟨rfl, put7_below hw (Nat.le_refl _) _ _ _ _ _ _ _⟩
set_option maxHeartbeats 4000000 in
theorem rval_float_int (tag s : ByteArray) (w : World) (hs : s.size ≤ 100000) {b : Bool} {d : ByteArray} {x k : Int} {b' : Bool} {d' : ByteArray} {x' k' : Int} (T : Two s b d x k b' d' x' k' true false) (t_null : (tag.toList == [116, 97, 103, 58, 121, 97, 109, 108, 46, 111, 114, 103, 44, 50, 48, 48, 50, 58, 110, 117, 108, 108]) = false) (t_bool : (tag.toList == [116, 97, 103, 58, 121, 97, 109, 108, 46, 111, 114, 103, 44, 50, 48, 48, 50, 58, 98, 111, 111, 108]) = false) (t_int : (tag.toList == [116, 97, 103, 58, 121, 97, 109, 108, 46, 111, 114, 103, 44, 50, 48, 48, 50, 58, 105, 110, 116]) = false) (t_float : (tag.toList == [116, 97, 103, 58, 121, 97, 109, 108, 46, 111, 114, 103, 44, 50, 48, 48, 50, 58, 102, 108, 111, 97, 116]) = true) :
    Calls Try.prog 14 #[.string tag, .string s] w fun e w' => e = .returned (.tuple #[.agg #[.int .i64 4, .bool false, .bool b, .string d, .int .i64 x, .int .i64 k, .string ⟨#[]⟩], .int .i64 0]) ∧ Below w.heap.size w w' := by
  have IN := fun w => rInt_v s w
  rw [T.i, T.io] at IN
  have FL := fun w => rFloat_v s w hs
  rw [T.f, T.fo] at FL
  clear T
  go_enter Try.func14, Try.ntmps14
  go_wp2_with fail
  refine (IN _).mono ?_
  rintro e w1 ⟨rfl, hB1⟩
  rw [size1] at hB1
  have hlt1 : w.heap.size + 1 ≤ w1.heap.size := by have := hB1.size; rw [size1] at this; exact this
  go_wp2_with fail
  refine (FL _).mono ?_
  rintro e w2 ⟨rfl, hB2⟩
  rw [size1] at hB2
  have hlt2 : w1.heap.size + 1 ≤ w2.heap.size := by have := hB2.size; rw [size1] at this; exact this
  have hA : Below (w.heap.size + 1) (w.alloc z7) w2 := hB1.trans (below_step (below_alloc (Below.refl w1.heap.size w1) (Nat.le_refl _) _) (by rw [size1]; omega) (hB2.mono (by rw [size1]; exact Nat.le_refl _)) |>.mono hlt1)
  have hg : w.heap.size < w2.heap.size := by omega
  have hne1 : ¬ w.heap.size = w2.heap.size := by omega
  have hne2 : ¬ w2.heap.size = w.heap.size := by omega
  have hk1 : w1.heap.size < w2.heap.size := by omega
  have hk2 : ¬ w1.heap.size = w2.heap.size := by omega
  have hk3 : ¬ w2.heap.size = w1.heap.size := by omega
  have R := res7 hA
  obtain ⟨⟨r0, r1, r2, r3, r4, r5, r6⟩, f0, f1, f2, f3, f4, f5, f6⟩ := R
  obtain ⟨q0, q1, q2, q3, g0, g1, g2, g3⟩ := res_cells hB2
  have c := below_alloc hA (by omega) (.cells #[.bool b', .string d', .int .i64 x', .int .i64 k'] 27)
  have R := res7 c
  have HR : Hid _ := R
  clear R
  have hw := z7_below c
  have HE : Hid _ := @put7_comm w2 w.heap.size hg (.cells #[.bool b', .string d', .int .i64 x', .int .i64 k'] 27)
  go_wp2
  show bodyPost _ _ _ _ _ ((put7 w2 w.heap.size (.int .i64 4) (.bool false) (.bool b) (.string d) (.int .i64 x) (.int .i64 k) (.string ⟨#[]⟩)).alloc (.cells #[.bool b', .string d', .int .i64 x', .int .i64 k'] 27))
  rw [← HE.out]
  exact bodyPost_ret (v := .tuple #[.agg #[.int .i64 4, .bool false, .bool b, .string d, .int .i64 x, .int .i64 k, .string ⟨#[]⟩], .int .i64 0]) (put7_results2 Try.results14 rfl rfl HR.out.1 _ _ _ _ _ _ _) rfl ⟨rfl, put7_below hw (Nat.le_refl _) _ _ _ _ _ _ _⟩
set_option maxHeartbeats 4000000 in
theorem rval_float_no (tag s : ByteArray) (w : World) (hs : s.size ≤ 100000) {b : Bool} {d : ByteArray} {x k : Int} {b' : Bool} {d' : ByteArray} {x' k' : Int} (T : Two s b d x k b' d' x' k' false false) (t_null : (tag.toList == [116, 97, 103, 58, 121, 97, 109, 108, 46, 111, 114, 103, 44, 50, 48, 48, 50, 58, 110, 117, 108, 108]) = false) (t_bool : (tag.toList == [116, 97, 103, 58, 121, 97, 109, 108, 46, 111, 114, 103, 44, 50, 48, 48, 50, 58, 98, 111, 111, 108]) = false) (t_int : (tag.toList == [116, 97, 103, 58, 121, 97, 109, 108, 46, 111, 114, 103, 44, 50, 48, 48, 50, 58, 105, 110, 116]) = false) (t_float : (tag.toList == [116, 97, 103, 58, 121, 97, 109, 108, 46, 111, 114, 103, 44, 50, 48, 48, 50, 58, 102, 108, 111, 97, 116]) = true) :
    Calls Try.prog 14 #[.string tag, .string s] w fun e w' => e = .returned (.tuple #[.agg #[.int .i64 0, .bool false, .bool false, .string ⟨#[]⟩, .int .i64 0, .int .i64 0, .string ⟨#[]⟩], .int .i64 15]) ∧ Below w.heap.size w w' := by
  have IN := fun w => rInt_v s w
  rw [T.i, T.io] at IN
  have FL := fun w => rFloat_v s w hs
  rw [T.f, T.fo] at FL
  clear T
  go_enter Try.func14, Try.ntmps14
  go_wp2_with fail
  refine (IN _).mono ?_
  rintro e w1 ⟨rfl, hB1⟩
  rw [size1] at hB1
  have hlt1 : w.heap.size + 1 ≤ w1.heap.size := by have := hB1.size; rw [size1] at this; exact this
  go_wp2_with fail
  refine (FL _).mono ?_
  rintro e w2 ⟨rfl, hB2⟩
  rw [size1] at hB2
  have hlt2 : w1.heap.size + 1 ≤ w2.heap.size := by have := hB2.size; rw [size1] at this; exact this
  have hA : Below (w.heap.size + 1) (w.alloc z7) w2 := hB1.trans (below_step (below_alloc (Below.refl w1.heap.size w1) (Nat.le_refl _) _) (by rw [size1]; omega) (hB2.mono (by rw [size1]; exact Nat.le_refl _)) |>.mono hlt1)
  have hg : w.heap.size < w2.heap.size := by omega
  have hne1 : ¬ w.heap.size = w2.heap.size := by omega
  have hne2 : ¬ w2.heap.size = w.heap.size := by omega
  have hk1 : w1.heap.size < w2.heap.size := by omega
  have hk2 : ¬ w1.heap.size = w2.heap.size := by omega
  have hk3 : ¬ w2.heap.size = w1.heap.size := by omega
  have R := res7 hA
  obtain ⟨⟨r0, r1, r2, r3, r4, r5, r6⟩, f0, f1, f2, f3, f4, f5, f6⟩ := R
  obtain ⟨q0, q1, q2, q3, g0, g1, g2, g3⟩ := res_cells hB2
  have c := below_alloc hA (by omega) (.cells #[.bool b', .string d', .int .i64 x', .int .i64 k'] 27)
  have R := res7 c
  have HR : Hid _ := R
  clear R
  have hw := z7_below c
  have HE : Hid _ := @put7_comm w2 w.heap.size hg (.cells #[.bool b', .string d', .int .i64 x', .int .i64 k'] 27)
  go_wp2
  show bodyPost _ _ _ _ _ ((put7 w2 w.heap.size (.int .i64 0) (.bool false) (.bool false) (.string ⟨#[]⟩) (.int .i64 0) (.int .i64 0) (.string ⟨#[]⟩)).alloc (.cells #[.bool b', .string d', .int .i64 x', .int .i64 k'] 27))
  rw [← HE.out]
  exact bodyPost_ret (v := .tuple #[.agg #[.int .i64 0, .bool false, .bool false, .string ⟨#[]⟩, .int .i64 0, .int .i64 0, .string ⟨#[]⟩], .int .i64 15]) (put7_results2 Try.results14 rfl rfl HR.out.1 _ _ _ _ _ _ _) rfl ⟨rfl, put7_below hw (Nat.le_refl _) _ _ _ _ _ _ _⟩
set_option maxHeartbeats 4000000 in
theorem rval_str (tag s : ByteArray) (w : World) (hs : s.size ≤ 100000) {b : Bool} {d : ByteArray} {x k : Int} {b' : Bool} {d' : ByteArray} {x' k' : Int} {io fo : Bool} (T : Two s b d x k b' d' x' k' io fo) (t_null : (tag.toList == [116, 97, 103, 58, 121, 97, 109, 108, 46, 111, 114, 103, 44, 50, 48, 48, 50, 58, 110, 117, 108, 108]) = false) (t_bool : (tag.toList == [116, 97, 103, 58, 121, 97, 109, 108, 46, 111, 114, 103, 44, 50, 48, 48, 50, 58, 98, 111, 111, 108]) = false) (t_int : (tag.toList == [116, 97, 103, 58, 121, 97, 109, 108, 46, 111, 114, 103, 44, 50, 48, 48, 50, 58, 105, 110, 116]) = false) (t_float : (tag.toList == [116, 97, 103, 58, 121, 97, 109, 108, 46, 111, 114, 103, 44, 50, 48, 48, 50, 58, 102, 108, 111, 97, 116]) = false) :
    Calls Try.prog 14 #[.string tag, .string s] w fun e w' => e = .returned (.tuple #[.agg #[.int .i64 5, .bool false, .bool false, .string ⟨#[]⟩, .int .i64 0, .int .i64 0, .string s], .int .i64 0]) ∧ Below w.heap.size w w' := by
  have IN := fun w => rInt_v s w
  rw [T.i, T.io] at IN
  have FL := fun w => rFloat_v s w hs
  rw [T.f, T.fo] at FL
  clear T
  go_enter Try.func14, Try.ntmps14
  go_wp2_with fail
  refine (IN _).mono ?_
  rintro e w1 ⟨rfl, hB1⟩
  rw [size1] at hB1
  have hlt1 : w.heap.size + 1 ≤ w1.heap.size := by have := hB1.size; rw [size1] at this; exact this
  go_wp2_with fail
  refine (FL _).mono ?_
  rintro e w2 ⟨rfl, hB2⟩
  rw [size1] at hB2
  have hlt2 : w1.heap.size + 1 ≤ w2.heap.size := by have := hB2.size; rw [size1] at this; exact this
  have hA : Below (w.heap.size + 1) (w.alloc z7) w2 := hB1.trans (below_step (below_alloc (Below.refl w1.heap.size w1) (Nat.le_refl _) _) (by rw [size1]; omega) (hB2.mono (by rw [size1]; exact Nat.le_refl _)) |>.mono hlt1)
  have hg : w.heap.size < w2.heap.size := by omega
  have hne1 : ¬ w.heap.size = w2.heap.size := by omega
  have hne2 : ¬ w2.heap.size = w.heap.size := by omega
  have hk1 : w1.heap.size < w2.heap.size := by omega
  have hk2 : ¬ w1.heap.size = w2.heap.size := by omega
  have hk3 : ¬ w2.heap.size = w1.heap.size := by omega
  have R := res7 hA
  obtain ⟨⟨r0, r1, r2, r3, r4, r5, r6⟩, f0, f1, f2, f3, f4, f5, f6⟩ := R
  obtain ⟨q0, q1, q2, q3, g0, g1, g2, g3⟩ := res_cells hB2
  have c := below_alloc hA (by omega) (.cells #[.bool b', .string d', .int .i64 x', .int .i64 k'] 27)
  have R := res7 c
  have HR : Hid _ := R
  clear R
  have hw := z7_below c
  have HE : Hid _ := @put7_comm w2 w.heap.size hg (.cells #[.bool b', .string d', .int .i64 x', .int .i64 k'] 27)
  go_wp2
  show bodyPost _ _ _ _ _ ((put7 w2 w.heap.size (.int .i64 5) (.bool false) (.bool false) (.string ⟨#[]⟩) (.int .i64 0) (.int .i64 0) (.string s)).alloc (.cells #[.bool b', .string d', .int .i64 x', .int .i64 k'] 27))
  rw [← HE.out]
  exact bodyPost_ret (v := .tuple #[.agg #[.int .i64 5, .bool false, .bool false, .string ⟨#[]⟩, .int .i64 0, .int .i64 0, .string s], .int .i64 0]) (put7_results2 Try.results14 rfl rfl HR.out.1 _ _ _ _ _ _ _) rfl ⟨rfl, put7_below hw (Nat.le_refl _) _ _ _ _ _ _ _⟩
theorem rValue_any (tag s : ByteArray) (w : World) (hs : s.size ≤ 100000) : Calls Try.prog 14 #[.string tag, .string s] w fun e w' => e = .returned (valV tag s) ∧ Below w.heap.size w w' := by
  obtain ⟨b, d, x, k, hv⟩ := intN_F s
  obtain ⟨b', d', x', k', hv'⟩ := fltN_F s
  have T : ∀ {io fo : Bool}, intOk s = io → fltOk s = fo → Two s b d x k b' d' x' k' io fo := fun h1 h2 => ⟨hv, hv', h1, h2⟩
  unfold valV noV
  rw [nullT_list, boolT_list, intT_list, floatT_list]
  cases t1 : tag.toList == [116, 97, 103, 58, 121, 97, 109, 108, 46, 111, 114, 103, 44, 50, 48, 48, 50, 58, 110, 117, 108, 108]
  · cases t2 : tag.toList == [116, 97, 103, 58, 121, 97, 109, 108, 46, 111, 114, 103, 44, 50, 48, 48, 50, 58, 98, 111, 111, 108]
    · cases t3 : tag.toList == [116, 97, 103, 58, 121, 97, 109, 108, 46, 111, 114, 103, 44, 50, 48, 48, 50, 58, 105, 110, 116]
      · cases t4 : tag.toList == [116, 97, 103, 58, 121, 97, 109, 108, 46, 111, 114, 103, 44, 50, 48, 48, 50, 58, 102, 108, 111, 97, 116]
        · exact rval_str tag s w hs (T rfl rfl) t1 t2 t3 t4
        · unfold numOk numC
          cases hf : fltOk s
          · cases hi : intOk s
            · exact rval_float_no tag s w hs (T hi hf) t1 t2 t3 t4
            · rw [hv]; exact rval_float_int tag s w hs (T hi hf) t1 t2 t3 t4
          · rw [hv']; exact rval_float_yes tag s w hs (T rfl hf) t1 t2 t3 t4
      · cases hi : intOk s
        · exact rval_int_no tag s w hs (T hi rfl) t1 t2 t3
        · rw [hv]; exact rval_int_yes tag s w hs (T hi rfl) t1 t2 t3
    · cases hy : isYes s
      · cases hn : isNo s
        · exact rval_bool_none tag s w hs (T rfl rfl) t1 t2 hy hn
        · exact rval_bool_no tag s w hs (T rfl rfl) t1 t2 hy hn
      · exact rval_bool_yes tag s w hs (T rfl rfl) t1 t2 hy
  · cases hn : isNul s
    · exact rval_null_no tag s w hs (T rfl rfl) t1 hn
    · exact rval_null_yes tag s w hs (T rfl rfl) t1 hn
end Go.Proofs.Ytpffegkckejpiaa
