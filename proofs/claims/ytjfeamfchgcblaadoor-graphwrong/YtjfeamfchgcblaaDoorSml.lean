/- What small functions answer: words, digits of sixteens, URI signs. -/
import Derived.Test.YtjfeamfchgcblaaDoorRun
set_option linter.unusedVariables false
set_option linter.unusedSimpArgs false
namespace Go.Proofs.YtjfeamfchgcblaaDoor
open Go.RowKit

theorem span_not {n a b : Int} : span n a b = false ↔ ¬ (a ≤ n ∧ n ≤ b) := by rw [← span_iff]; simp
def hexP (c : Int) : Int := if 48 ≤ c ∧ c ≤ 57 then c - 48 else if 97 ≤ c ∧ c ≤ 102 then c - 87 else if 65 ≤ c ∧ c ≤ 70 then c - 55 else -1
def hexOk (c : Int) : Bool := decide (0 ≤ hexP c)
theorem hexOk_iff (c : Int) : hexOk c = true ↔ (48 ≤ c ∧ c ≤ 57) ∨ (97 ≤ c ∧ c ≤ 102) ∨ (65 ≤ c ∧ c ≤ 70) := by
  unfold hexOk hexP
  rw [decide_eq_true_iff]
  repeat' split
  all_goals omega
def wordP (c : Int) : Bool := decide ((48 ≤ c ∧ c ≤ 57) ∨ (97 ≤ c ∧ c ≤ 122) ∨ (65 ≤ c ∧ c ≤ 90) ∨ c = 45)
def digitP (c : Int) : Bool := decide (48 ≤ c ∧ c ≤ 57)
def otherP (c : Int) : Bool := decide (c = 35 ∨ c = 59 ∨ c = 47 ∨ c = 63 ∨ c = 58 ∨ c = 64 ∨ c = 38 ∨ c = 61 ∨ c = 43 ∨ c = 36 ∨ c = 44 ∨ c = 95 ∨ c = 46 ∨ c = 33 ∨ c = 126 ∨ c = 42 ∨ c = 39 ∨ c = 40 ∨ c = 41 ∨ c = 91 ∨ c = 93)
def uriP (c : Int) : Bool := wordP c || otherP c
theorem has_uri (c : Int) : has ⟨#[35, 59, 47, 63, 58, 64, 38, 61, 43, 36, 44, 95, 46, 33, 126, 42, 39, 40, 41, 91, 93]⟩ c = otherP c := by
  rw [Bool.eq_iff_iff]
  unfold has otherP
  simp
  omega

set_option maxRecDepth 100000 in
set_option maxHeartbeats 1000000 in
theorem hex_any (c : Int) (w : World) :
    Calls Tryd.prog 53 #[.int .i64 c] w fun e w' => e = .returned (.int .i64 (hexP c)) ∧ w' = w := by
  go_enter Tryd.func53, Tryd.ntmps53
  go_wp2_with (go_at_call 55; refine (within_any _ _ _ _).mono ?_; rintro e w' ⟨rfl, rfl⟩)
  all_goals
    go_ret
    refine ⟨ret_int ?_, rfl⟩
    unfold hexP
    try unfold wrap64
    simp only [span_iff, span_not] at *
    repeat' split
    all_goals omega

set_option maxRecDepth 100000 in
set_option maxHeartbeats 1000000 in
theorem rhex_any (c : Int) (w : World) :
    Calls Tryd.prog 46 #[.int .i64 c] w fun e w' => e = .returned (.int .i64 (hexP c)) ∧ w' = w := by
  go_enter Tryd.func46, Tryd.ntmps46
  go_wp2
  all_goals
    go_ret
    refine ⟨ret_int ?_, rfl⟩
    unfold hexP
    repeat' split
    all_goals omega

set_option maxRecDepth 100000 in
set_option maxHeartbeats 1000000 in
theorem word_any (c : Int) (w : World) :
    Calls Tryd.prog 54 #[.int .i64 c] w fun e w' => e = .returned (.bool (wordP c)) ∧ w' = w := by
  go_enter Tryd.func54, Tryd.ntmps54
  go_wp2_with (first | (go_at_call 55; refine (within_any _ _ _ _).mono ?_; rintro e w' ⟨rfl, rfl⟩))
  all_goals
    go_ret
    refine ⟨ret_bool ?_, rfl⟩
    unfold wordP
    rw [Bool.eq_iff_iff]
    simp only [span_iff, span_not, beq_iff_eq, beq_eq_false_iff_ne, bne_iff_ne, decide_eq_true_eq, Bool.or_eq_true, Bool.and_eq_true, Bool.not_eq_true', Bool.not_eq_eq_eq_not, Bool.not_true, Bool.not_false, Bool.false_eq_true, decide_eq_false_iff_not, ne_eq, iff_false, false_iff, true_iff, iff_true] at *
    try omega

set_option maxRecDepth 100000 in
set_option maxHeartbeats 1000000 in
theorem rword_any (c : Int) (w : World) :
    Calls Tryd.prog 44 #[.int .i64 c] w fun e w' => e = .returned (.bool (wordP c)) ∧ w' = w := by
  go_enter Tryd.func44, Tryd.ntmps44
  go_wp2
  all_goals
    go_ret
    refine ⟨ret_bool ?_, rfl⟩
    unfold wordP
    rw [Bool.eq_iff_iff]
    simp only [span_iff, span_not, beq_iff_eq, beq_eq_false_iff_ne, bne_iff_ne, decide_eq_true_eq, Bool.or_eq_true, Bool.and_eq_true, Bool.not_eq_true', Bool.not_eq_eq_eq_not, Bool.not_true, Bool.not_false, Bool.false_eq_true, decide_eq_false_iff_not, ne_eq, iff_false, false_iff, true_iff, iff_true] at *
    try omega

def noBlank (c : Int) : Bool := !blankP c
set_option maxRecDepth 100000 in
set_option maxHeartbeats 1000000 in
theorem stands_any (c : Int) (w : World) :
    Calls Tryd.prog 52 #[.int .i64 c] w fun e w' => e = .returned (.bool (uriP c)) ∧ w' = w := by
  have WD := word_any c
  obtain ⟨V, hV⟩ : ∃ V, uriP c = V := ⟨_, rfl⟩
  have hV' : Hid (uriP c = V) := hV
  rw [hV]
  clear hV
  obtain ⟨U, hU⟩ : ∃ U, wordP c = U := ⟨_, rfl⟩
  rw [hU] at WD
  have hU' : Hid (wordP c = U) := hU
  clear hU
  go_enter Tryd.func52, Tryd.ntmps52
  go_wp2_with (first | (go_at_call 54; refine (WD _).mono ?_; rintro e w' ⟨rfl, rfl⟩))
  all_goals
    go_ret
    refine ⟨ret_bool ?_, rfl⟩
    rw [← hV'.out]
    unfold uriP otherP
    try rw [hU'.out]
    simp_all
end Go.Proofs.YtjfeamfchgcblaaDoor
