/- The walk of SchemaWider. -/
import Derived.Test.YtpffegkckejpiaaFwk
set_option linter.unusedVariables false
set_option linter.unusedSimpArgs false
set_option maxRecDepth 100000
namespace Go.Proofs.Ytpffegkckejpiaa
open Go.RowKit

theorem js_word {s : ByteArray} (l : List UInt8) (hl : jsN l = 0) (h : (s.toList == l) = true) : jsN s.data.toList = 0 := by
  have e := beq_iff_eq.1 h
  rw [Lib.toList_data] at e
  rw [e]; exact hl
theorem js_nul {s : ByteArray} (h : isNul s = true) : jsN s.data.toList = 0 := by
  unfold isNul at h
  rcases Bool.or_eq_true_iff.1 h with h | h
  · rcases Bool.or_eq_true_iff.1 h with h | h
    · rcases Bool.or_eq_true_iff.1 h with h | h
      · rcases Bool.or_eq_true_iff.1 h with h | h
        · exact js_word _ (by decide +kernel) h
        · exact js_word _ (by decide +kernel) h
      · exact js_word _ (by decide +kernel) h
    · exact js_word _ (by decide +kernel) h
  · exact js_word _ (by decide +kernel) h
theorem js_yn {s : ByteArray} (h : (isYes s || isNo s) = true) : jsN s.data.toList = 0 := by
  unfold isYes isNo at h
  rcases Bool.or_eq_true_iff.1 h with h | h
  all_goals
    rcases Bool.or_eq_true_iff.1 h with h | h
    · rcases Bool.or_eq_true_iff.1 h with h | h
      · exact js_word _ (by decide +kernel) h
      · exact js_word _ (by decide +kernel) h
    · exact js_word _ (by decide +kernel) h
theorem nul_yn {s : ByteArray} (h : (s.toList == [116, 114, 117, 101] || s.toList == [102, 97, 108, 115, 101]) = true) : isNul s = false := by
  unfold isNul
  rcases Bool.or_eq_true_iff.1 h with h | h
  all_goals
    rw [beq_iff_eq.1 h]
    decide
theorem js_wide (s : ByteArray) : jsT s = strT ∨ jsT s = coreT s := by
  unfold jsT coreT
  split
  · rename_i h; right; rw [if_pos (js_null h)]
  · split
    · rename_i h; right; rw [nul_yn h, js_bool h]; rfl
    · split
      · exact .inl rfl
      · rename_i hs
        split
        · rename_i h
          right
          have n1 : isNul s = false := by cases e : isNul s; rfl; rw [js_nul e] at h; cases h
          have n2 : (isYes s || isNo s) = false := by cases e : (isYes s || isNo s); rfl; rw [js_yn e] at h; cases h
          rw [n1, n2, js_intOk (by omega) h]; rfl
        · split
          · rename_i h
            right
            have n1 : isNul s = false := by cases e : isNul s; rfl; rw [js_nul e] at h; cases h
            have n2 : (isYes s || isNo s) = false := by cases e : (isYes s || isNo s); rfl; rw [js_yn e] at h; cases h
            obtain ⟨f1, f2⟩ := js_fltOk (by omega) h
            rw [n1, n2, f2, f1]; rfl
          · exact .inl rfl
theorem res_fail (s : ByteArray) : resT 1 ⟨#[]⟩ s true 0 = strT := by rw [resT_plain]; rfl
theorem res_quoted (s : ByteArray) : resT 1 ⟨#[]⟩ s false 2 = strT := by
  rw [resT_eq]
  have h : ((⟨#[]⟩ : ByteArray).toList == []) = true := by rw [Lib.toList_data]; rfl
  rw [if_pos h, if_neg (fun e => absurd e.2 (by decide))]
  rfl
theorem res_bang (s : ByteArray) : resT 1 ⟨#[33]⟩ s true 2 = strT := by
  rw [resT_eq]
  have h : ((⟨#[33]⟩ : ByteArray).toList == []) = false := by rw [Lib.toList_data]; rfl
  have h2 : ((⟨#[33]⟩ : ByteArray).toList == [33]) = true := by rw [Lib.toList_data]; rfl
  rw [h, if_neg (by decide), if_pos h2]
  rfl
set_option maxHeartbeats 8000000 in
theorem wider_walk (s : ByteArray) (W : World) (hs : ¬ (300 : Int) < s.size) :
    Calls Try.prog 6 #[.string s] W fun e W' => e = .returned (.bool true) ∧ Below W.heap.size W W' := by
  have P1 := fun w => Resolve_any 1 1 ⟨#[]⟩ s true w (by decide) (by omega)
  have P2 := fun w => Resolve_any 1 2 ⟨#[]⟩ s true w (by decide) (by omega)
  have P3 := fun w => Resolve_any 1 0 ⟨#[]⟩ s true w (by decide) (by omega)
  have P4 := fun w => Resolve_any 1 2 ⟨#[]⟩ s false w (by decide) (by omega)
  have P5 := fun w => Resolve_any 1 2 ⟨#[33]⟩ s true w (by decide) (by omega)
  rw [resT_plain, show plainT s 1 = jsT s from rfl] at P1
  rw [resT_plain, show plainT s 2 = coreT s from rfl] at P2
  rw [res_fail] at P3
  rw [res_quoted] at P4
  rw [res_bang] at P5
  have t3 : (strT.toList == [116, 97, 103, 58, 121, 97, 109, 108, 46, 111, 114, 103, 44, 50, 48, 48, 50, 58, 115, 116, 114]) = true := by rw [strT_list]; decide
  have hd := js_wide s
  generalize jsT s = A at P1 hd
  generalize coreT s = B at P2 hd
  have hd2 : (A.toList == [116, 97, 103, 58, 121, 97, 109, 108, 46, 111, 114, 103, 44, 50, 48, 48, 50, 58, 115, 116, 114]) = true ∨ ((A.toList == [116, 97, 103, 58, 121, 97, 109, 108, 46, 111, 114, 103, 44, 50, 48, 48, 50, 58, 115, 116, 114]) = false ∧ A = B) := by
    rcases hd with rfl | rfl
    · exact .inl t3
    · cases e : A.toList == [116, 97, 103, 58, 121, 97, 109, 108, 46, 111, 114, 103, 44, 50, 48, 48, 50, 58, 115, 116, 114]
      · exact .inr ⟨rfl, rfl⟩
      · exact .inl rfl
  generalize strT = S at P3 P4 P5 t3
  clear hd
  rcases hd2 with hd | ⟨hd, rfl⟩
  all_goals
    go_enter Try.func6, Try.ntmps6
    go_wp2_with fail
    refine (alive_any _).mono ?_
    rintro e w1 ⟨rfl, c1⟩
    go_wp2_with fail
    refine (P1 _).mono ?_
    rintro e w2 ⟨rfl, hB⟩
    have c2 := below_step c1 c1.size hB
    clear hB
    go_wp2_with fail
    refine (P2 _).mono ?_
    rintro e w3 ⟨rfl, hB⟩
    have c3 := below_step c2 c2.size hB
    clear hB
    go_wp2_with fail
    refine (P3 _).mono ?_
    rintro e w4 ⟨rfl, hB⟩
    have c4 := below_step c3 c3.size hB
    clear hB
    go_wp2_with fail
    refine (P4 _).mono ?_
    rintro e w5 ⟨rfl, hB⟩
    have c5 := below_step c4 c4.size hB
    clear hB
    go_wp2_with fail
    refine (P5 _).mono ?_
    rintro e w6 ⟨rfl, hB⟩
    have c6 := below_step c5 c5.size hB
    clear hB
    go_wp2
    go_ret
    exact ⟨rfl, c6⟩
end Go.Proofs.Ytpffegkckejpiaa
