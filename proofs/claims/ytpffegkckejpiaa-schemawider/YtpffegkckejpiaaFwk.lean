/- The walk of SchemaFits. -/
import Derived.Test.YtpffegkckejpiaaVwk
set_option linter.unusedVariables false
set_option linter.unusedSimpArgs false
set_option maxRecDepth 100000
namespace Go.Proofs.Ytpffegkckejpiaa
open Go.RowKit

theorem resT_plain (s : ByteArray) (which : Int) : resT 1 ⟨#[]⟩ s true which = plainT s which := by
  rw [resT_eq]
  have h : ((⟨#[]⟩ : ByteArray).toList == []) = true := by rw [Lib.toList_data]; rfl
  rw [if_pos h, if_pos ⟨rfl, rfl⟩]
theorem js_null {s : ByteArray} (h : (s.toList == [110, 117, 108, 108] || s.toList == []) = true) : isNul s = true := by
  unfold isNul
  rcases Bool.or_eq_true_iff.1 h with h | h
  · rw [h]; rfl
  · rw [h]; simp
theorem js_bool {s : ByteArray} (h : (s.toList == [116, 114, 117, 101] || s.toList == [102, 97, 108, 115, 101]) = true) : (isYes s || isNo s) = true := by
  unfold isYes isNo
  rcases Bool.or_eq_true_iff.1 h with h | h
  · rw [h]; rfl
  · rw [h]; simp
def Fit (s T : ByteArray) : Prop := (T = nullT ∧ isNul s = true) ∨ (T = boolT ∧ (isYes s || isNo s) = true) ∨ (T = intT ∧ intOk s = true) ∨ (T = floatT ∧ fltOk s = true) ∨ T = strT
theorem core_fit (s : ByteArray) : Fit s (coreT s) := by
  unfold coreT Fit
  split
  · rename_i h; exact .inl ⟨rfl, h⟩
  · split
    · rename_i h; exact .inr (.inl ⟨rfl, h⟩)
    · split
      · rename_i h; exact .inr (.inr (.inl ⟨rfl, h⟩))
      · split
        · rename_i h; exact .inr (.inr (.inr (.inl ⟨rfl, h⟩)))
        · exact .inr (.inr (.inr (.inr rfl)))
theorem js_fit (s : ByteArray) : Fit s (jsT s) := by
  unfold jsT Fit
  split
  · rename_i h; exact .inl ⟨rfl, js_null h⟩
  · split
    · rename_i h; exact .inr (.inl ⟨rfl, js_bool h⟩)
    · split
      · exact .inr (.inr (.inr (.inr rfl)))
      · rename_i hs
        split
        · rename_i h; exact .inr (.inr (.inl ⟨rfl, js_intOk (by omega) h⟩))
        · split
          · rename_i h; exact .inr (.inr (.inr (.inl ⟨rfl, (js_fltOk (by omega) h).1⟩)))
          · exact .inr (.inr (.inr (.inr rfl)))
theorem plain_fit (s : ByteArray) (which : Int) : Fit s (plainT s which) := by
  unfold plainT
  split
  · exact core_fit s
  · split
    · exact js_fit s
    · exact .inr (.inr (.inr (.inr rfl)))
set_option maxHeartbeats 8000000 in
theorem fits_null (s T : ByteArray) (which : Int) (t b : Bool) (d : ByteArray) (x k : Int) (W : World) (hs : ¬ (300 : Int) < s.size) (g0 : ¬ which < 0) (g2 : ¬ 2 < which)
    (P : ∀ w, Calls Try.prog 9 #[.int .i64 1, .string ⟨#[]⟩, .string s, .bool true, .int .i64 which] w fun e w' => e = .returned (.string T) ∧ Below w.heap.size w w')
    (V : ∀ w, Calls Try.prog 13 #[.string T, .string s] w fun e w' => e = .returned (.tuple #[.agg #[.int .i64 1, .bool t, .bool b, .string d, .int .i64 x, .int .i64 k, .string ⟨#[]⟩], .int .i64 0]) ∧ Below w.heap.size w w') (t_null : (T.toList == [116, 97, 103, 58, 121, 97, 109, 108, 46, 111, 114, 103, 44, 50, 48, 48, 50, 58, 110, 117, 108, 108]) = true) :
    Calls Try.prog 5 #[.string s, .int .i64 which] W fun e W' => e = .returned (.bool true) ∧ Below W.heap.size W W' := by
  go_enter Try.func5, Try.ntmps5
  go_wp2_with fail
  refine (alive_any _).mono ?_
  rintro e w1 ⟨rfl, c1⟩
  go_wp2_with fail
  refine (P _).mono ?_
  rintro e w2 ⟨rfl, hB2⟩
  have c2 := below_step c1 c1.size hB2
  go_wp2_with fail
  refine (V _).mono ?_
  rintro e w3 ⟨rfl, hB3⟩
  have c3 := below_step c2 c2.size hB3
  have c4 := below_alloc c3 c3.size (.cells #[.int .i64 1, .bool t, .bool b, .string d, .int .i64 x, .int .i64 k, .string ⟨#[]⟩] 29)
  go_wp2_with fail
  refine (num_any _ _).mono ?_
  rintro e w4 ⟨rfl, rfl⟩
  go_wp2
  go_ret
  exact ⟨rfl, c4⟩
set_option maxHeartbeats 8000000 in
theorem fits_bool (s T : ByteArray) (which : Int) (t b : Bool) (d : ByteArray) (x k : Int) (W : World) (hs : ¬ (300 : Int) < s.size) (g0 : ¬ which < 0) (g2 : ¬ 2 < which)
    (P : ∀ w, Calls Try.prog 9 #[.int .i64 1, .string ⟨#[]⟩, .string s, .bool true, .int .i64 which] w fun e w' => e = .returned (.string T) ∧ Below w.heap.size w w')
    (V : ∀ w, Calls Try.prog 13 #[.string T, .string s] w fun e w' => e = .returned (.tuple #[.agg #[.int .i64 2, .bool t, .bool b, .string d, .int .i64 x, .int .i64 k, .string ⟨#[]⟩], .int .i64 0]) ∧ Below w.heap.size w w') (t_null : (T.toList == [116, 97, 103, 58, 121, 97, 109, 108, 46, 111, 114, 103, 44, 50, 48, 48, 50, 58, 110, 117, 108, 108]) = false) (t_bool : (T.toList == [116, 97, 103, 58, 121, 97, 109, 108, 46, 111, 114, 103, 44, 50, 48, 48, 50, 58, 98, 111, 111, 108]) = true) :
    Calls Try.prog 5 #[.string s, .int .i64 which] W fun e W' => e = .returned (.bool true) ∧ Below W.heap.size W W' := by
  go_enter Try.func5, Try.ntmps5
  go_wp2_with fail
  refine (alive_any _).mono ?_
  rintro e w1 ⟨rfl, c1⟩
  go_wp2_with fail
  refine (P _).mono ?_
  rintro e w2 ⟨rfl, hB2⟩
  have c2 := below_step c1 c1.size hB2
  go_wp2_with fail
  refine (V _).mono ?_
  rintro e w3 ⟨rfl, hB3⟩
  have c3 := below_step c2 c2.size hB3
  have c4 := below_alloc c3 c3.size (.cells #[.int .i64 2, .bool t, .bool b, .string d, .int .i64 x, .int .i64 k, .string ⟨#[]⟩] 29)
  go_wp2_with fail
  refine (num_any _ _).mono ?_
  rintro e w4 ⟨rfl, rfl⟩
  go_wp2
  go_ret
  exact ⟨rfl, c4⟩
set_option maxHeartbeats 8000000 in
theorem fits_int (s T : ByteArray) (which : Int) (t b : Bool) (d : ByteArray) (x k : Int) (W : World) (hs : ¬ (300 : Int) < s.size) (g0 : ¬ which < 0) (g2 : ¬ 2 < which)
    (P : ∀ w, Calls Try.prog 9 #[.int .i64 1, .string ⟨#[]⟩, .string s, .bool true, .int .i64 which] w fun e w' => e = .returned (.string T) ∧ Below w.heap.size w w')
    (V : ∀ w, Calls Try.prog 13 #[.string T, .string s] w fun e w' => e = .returned (.tuple #[.agg #[.int .i64 3, .bool t, .bool b, .string d, .int .i64 x, .int .i64 k, .string ⟨#[]⟩], .int .i64 0]) ∧ Below w.heap.size w w') (t_null : (T.toList == [116, 97, 103, 58, 121, 97, 109, 108, 46, 111, 114, 103, 44, 50, 48, 48, 50, 58, 110, 117, 108, 108]) = false) (t_bool : (T.toList == [116, 97, 103, 58, 121, 97, 109, 108, 46, 111, 114, 103, 44, 50, 48, 48, 50, 58, 98, 111, 111, 108]) = false) (t_int : (T.toList == [116, 97, 103, 58, 121, 97, 109, 108, 46, 111, 114, 103, 44, 50, 48, 48, 50, 58, 105, 110, 116]) = true) :
    Calls Try.prog 5 #[.string s, .int .i64 which] W fun e W' => e = .returned (.bool true) ∧ Below W.heap.size W W' := by
  go_enter Try.func5, Try.ntmps5
  go_wp2_with fail
  refine (alive_any _).mono ?_
  rintro e w1 ⟨rfl, c1⟩
  go_wp2_with fail
  refine (P _).mono ?_
  rintro e w2 ⟨rfl, hB2⟩
  have c2 := below_step c1 c1.size hB2
  go_wp2_with fail
  refine (V _).mono ?_
  rintro e w3 ⟨rfl, hB3⟩
  have c3 := below_step c2 c2.size hB3
  have c4 := below_alloc c3 c3.size (.cells #[.int .i64 3, .bool t, .bool b, .string d, .int .i64 x, .int .i64 k, .string ⟨#[]⟩] 29)
  go_wp2_with fail
  refine (num_any _ _).mono ?_
  rintro e w4 ⟨rfl, rfl⟩
  go_wp2
  go_ret
  exact ⟨rfl, c4⟩
set_option maxHeartbeats 8000000 in
theorem fits_float (s T : ByteArray) (which : Int) (t b : Bool) (d : ByteArray) (x k : Int) (W : World) (hs : ¬ (300 : Int) < s.size) (g0 : ¬ which < 0) (g2 : ¬ 2 < which)
    (P : ∀ w, Calls Try.prog 9 #[.int .i64 1, .string ⟨#[]⟩, .string s, .bool true, .int .i64 which] w fun e w' => e = .returned (.string T) ∧ Below w.heap.size w w')
    (V : ∀ w, Calls Try.prog 13 #[.string T, .string s] w fun e w' => e = .returned (.tuple #[.agg #[.int .i64 4, .bool t, .bool b, .string d, .int .i64 x, .int .i64 k, .string ⟨#[]⟩], .int .i64 0]) ∧ Below w.heap.size w w') (t_null : (T.toList == [116, 97, 103, 58, 121, 97, 109, 108, 46, 111, 114, 103, 44, 50, 48, 48, 50, 58, 110, 117, 108, 108]) = false) (t_bool : (T.toList == [116, 97, 103, 58, 121, 97, 109, 108, 46, 111, 114, 103, 44, 50, 48, 48, 50, 58, 98, 111, 111, 108]) = false) (t_int : (T.toList == [116, 97, 103, 58, 121, 97, 109, 108, 46, 111, 114, 103, 44, 50, 48, 48, 50, 58, 105, 110, 116]) = false) (t_float : (T.toList == [116, 97, 103, 58, 121, 97, 109, 108, 46, 111, 114, 103, 44, 50, 48, 48, 50, 58, 102, 108, 111, 97, 116]) = true) :
    Calls Try.prog 5 #[.string s, .int .i64 which] W fun e W' => e = .returned (.bool true) ∧ Below W.heap.size W W' := by
  go_enter Try.func5, Try.ntmps5
  go_wp2_with fail
  refine (alive_any _).mono ?_
  rintro e w1 ⟨rfl, c1⟩
  go_wp2_with fail
  refine (P _).mono ?_
  rintro e w2 ⟨rfl, hB2⟩
  have c2 := below_step c1 c1.size hB2
  go_wp2_with fail
  refine (V _).mono ?_
  rintro e w3 ⟨rfl, hB3⟩
  have c3 := below_step c2 c2.size hB3
  have c4 := below_alloc c3 c3.size (.cells #[.int .i64 4, .bool t, .bool b, .string d, .int .i64 x, .int .i64 k, .string ⟨#[]⟩] 29)
  go_wp2_with fail
  refine (num_any _ _).mono ?_
  rintro e w4 ⟨rfl, rfl⟩
  go_wp2
  go_ret
  exact ⟨rfl, c4⟩
set_option maxHeartbeats 8000000 in
theorem fits_str (s T : ByteArray) (which : Int) (t b : Bool) (d : ByteArray) (x k : Int) (W : World) (hs : ¬ (300 : Int) < s.size) (g0 : ¬ which < 0) (g2 : ¬ 2 < which)
    (P : ∀ w, Calls Try.prog 9 #[.int .i64 1, .string ⟨#[]⟩, .string s, .bool true, .int .i64 which] w fun e w' => e = .returned (.string T) ∧ Below w.heap.size w w')
    (V : ∀ w, Calls Try.prog 13 #[.string T, .string s] w fun e w' => e = .returned (.tuple #[.agg #[.int .i64 5, .bool t, .bool b, .string d, .int .i64 x, .int .i64 k, .string s], .int .i64 0]) ∧ Below w.heap.size w w') (t_null : (T.toList == [116, 97, 103, 58, 121, 97, 109, 108, 46, 111, 114, 103, 44, 50, 48, 48, 50, 58, 110, 117, 108, 108]) = false) (t_bool : (T.toList == [116, 97, 103, 58, 121, 97, 109, 108, 46, 111, 114, 103, 44, 50, 48, 48, 50, 58, 98, 111, 111, 108]) = false) (t_int : (T.toList == [116, 97, 103, 58, 121, 97, 109, 108, 46, 111, 114, 103, 44, 50, 48, 48, 50, 58, 105, 110, 116]) = false) (t_float : (T.toList == [116, 97, 103, 58, 121, 97, 109, 108, 46, 111, 114, 103, 44, 50, 48, 48, 50, 58, 102, 108, 111, 97, 116]) = false) (t_str : (T.toList == [116, 97, 103, 58, 121, 97, 109, 108, 46, 111, 114, 103, 44, 50, 48, 48, 50, 58, 115, 116, 114]) = true) :
    Calls Try.prog 5 #[.string s, .int .i64 which] W fun e W' => e = .returned (.bool true) ∧ Below W.heap.size W W' := by
  go_enter Try.func5, Try.ntmps5
  go_wp2_with fail
  refine (alive_any _).mono ?_
  rintro e w1 ⟨rfl, c1⟩
  go_wp2_with fail
  refine (P _).mono ?_
  rintro e w2 ⟨rfl, hB2⟩
  have c2 := below_step c1 c1.size hB2
  go_wp2_with fail
  refine (V _).mono ?_
  rintro e w3 ⟨rfl, hB3⟩
  have c3 := below_step c2 c2.size hB3
  have c4 := below_alloc c3 c3.size (.cells #[.int .i64 5, .bool t, .bool b, .string d, .int .i64 x, .int .i64 k, .string s] 29)
  go_wp2_with fail
  refine (num_any _ _).mono ?_
  rintro e w4 ⟨rfl, rfl⟩
  go_wp2
  go_ret
  exact ⟨rfl, c4⟩
theorem tag_diff : nullT.toList = [116, 97, 103, 58, 121, 97, 109, 108, 46, 111, 114, 103, 44, 50, 48, 48, 50, 58, 110, 117, 108, 108] ∧ boolT.toList = [116, 97, 103, 58, 121, 97, 109, 108, 46, 111, 114, 103, 44, 50, 48, 48, 50, 58, 98, 111, 111, 108] ∧ intT.toList = [116, 97, 103, 58, 121, 97, 109, 108, 46, 111, 114, 103, 44, 50, 48, 48, 50, 58, 105, 110, 116] ∧ floatT.toList = [116, 97, 103, 58, 121, 97, 109, 108, 46, 111, 114, 103, 44, 50, 48, 48, 50, 58, 102, 108, 111, 97, 116] ∧ strT.toList = [116, 97, 103, 58, 121, 97, 109, 108, 46, 111, 114, 103, 44, 50, 48, 48, 50, 58, 115, 116, 114] := ⟨nullT_list, boolT_list, intT_list, floatT_list, strT_list⟩
theorem fits_walk (s : ByteArray) (which : Int) (W : World) (hs : ¬ (300 : Int) < s.size) (g0 : ¬ which < 0) (g2 : ¬ 2 < which) :
    Calls Try.prog 5 #[.string s, .int .i64 which] W fun e W' => e = .returned (.bool true) ∧ Below W.heap.size W W' := by
  have P := fun w => Resolve_any 1 which ⟨#[]⟩ s true w (by decide) (by omega)
  rw [resT_plain] at P
  have V := fun w => Value_any (plainT s which) s w (by omega)
  have F := plain_fit s which
  generalize plainT s which = T at P V F
  rcases F with ⟨rfl, h⟩ | ⟨rfl, h⟩ | ⟨rfl, h⟩ | ⟨rfl, h⟩ | rfl
  · have e : valV nullT s = .tuple #[v7 1 false zV ⟨#[]⟩, .int .i64 0] := by
      unfold valV
      rw [if_pos (show (nullT.toList == nullT.toList) = true by simp)]
      rw [if_pos (show isNul s = true by exact h)]
    rw [e] at V
    obtain ⟨b, d, x, k, hv⟩ := zV_F
    rw [hv] at V
    exact fits_null s nullT which _ b d x k W hs g0 g2 P V (by rw [nullT_list]; decide)
  · have e : valV boolT s = .tuple #[v7 2 (isYes s) zV ⟨#[]⟩, .int .i64 0] := by
      unfold valV
      rw [if_neg (show ¬ (boolT.toList == nullT.toList) = true by rw [boolT_list, nullT_list]; decide)]
      rw [if_pos (show (boolT.toList == boolT.toList) = true by simp)]
      rw [if_pos (show (isYes s || isNo s) = true by exact h)]
    rw [e] at V
    obtain ⟨b, d, x, k, hv⟩ := zV_F
    rw [hv] at V
    exact fits_bool s boolT which _ b d x k W hs g0 g2 P V (by rw [boolT_list]; decide) (by rw [boolT_list]; decide)
  · have e : valV intT s = .tuple #[v7 3 false (intN s) ⟨#[]⟩, .int .i64 0] := by
      unfold valV
      rw [if_neg (show ¬ (intT.toList == nullT.toList) = true by rw [intT_list, nullT_list]; decide)]
      rw [if_neg (show ¬ (intT.toList == boolT.toList) = true by rw [intT_list, boolT_list]; decide)]
      rw [if_pos (show (intT.toList == intT.toList) = true by simp)]
      rw [if_pos (show intOk s = true by exact h)]
    rw [e] at V
    obtain ⟨b, d, x, k, hv⟩ := intN_F s
    rw [hv] at V
    exact fits_int s intT which _ b d x k W hs g0 g2 P V (by rw [intT_list]; decide) (by rw [intT_list]; decide) (by rw [intT_list]; decide)
  · have e : valV floatT s = .tuple #[v7 4 false (numC s) ⟨#[]⟩, .int .i64 0] := by
      unfold valV
      rw [if_neg (show ¬ (floatT.toList == nullT.toList) = true by rw [floatT_list, nullT_list]; decide)]
      rw [if_neg (show ¬ (floatT.toList == boolT.toList) = true by rw [floatT_list, boolT_list]; decide)]
      rw [if_neg (show ¬ (floatT.toList == intT.toList) = true by rw [floatT_list, intT_list]; decide)]
      rw [if_pos (show (floatT.toList == floatT.toList) = true by simp)]
      rw [if_pos (show numOk s = true by unfold numOk; rw [h]; rfl)]
    rw [e] at V
    obtain ⟨b, d, x, k, hv⟩ := numC_F s
    rw [hv] at V
    exact fits_float s floatT which _ b d x k W hs g0 g2 P V (by rw [floatT_list]; decide) (by rw [floatT_list]; decide) (by rw [floatT_list]; decide) (by rw [floatT_list]; decide)
  · have e : valV strT s = .tuple #[v7 5 false zV s, .int .i64 0] := by
      unfold valV
      rw [if_neg (show ¬ (strT.toList == nullT.toList) = true by rw [strT_list, nullT_list]; decide)]
      rw [if_neg (show ¬ (strT.toList == boolT.toList) = true by rw [strT_list, boolT_list]; decide)]
      rw [if_neg (show ¬ (strT.toList == intT.toList) = true by rw [strT_list, intT_list]; decide)]
      rw [if_neg (show ¬ (strT.toList == floatT.toList) = true by rw [strT_list, floatT_list]; decide)]
    rw [e] at V
    obtain ⟨b, d, x, k, hv⟩ := zV_F
    rw [hv] at V
    exact fits_str s strT which _ b d x k W hs g0 g2 P V (by rw [strT_list]; decide) (by rw [strT_list]; decide) (by rw [strT_list]; decide) (by rw [strT_list]; decide) (by rw [strT_list]; decide)
end Go.Proofs.Ytpffegkckejpiaa
