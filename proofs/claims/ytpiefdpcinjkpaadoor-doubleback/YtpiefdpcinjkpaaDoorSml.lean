/- The small functions of chars and double, and the document's own ones: what they answer for every number. -/
import Derived.Test.YtpiefdpcinjkpaaDoorTrm
set_option linter.unusedVariables false
set_option linter.unusedSimpArgs false
namespace Go.Proofs.YtpiefdpcinjkpaaDoor
open Go.RowKit

def span (n a b : Int) : Bool := decide (a ≤ n) && decide (n ≤ b)
theorem span_iff {n a b : Int} : span n a b = true ↔ a ≤ n ∧ n ≤ b := by unfold span; simp
theorem span_not {n a b : Int} : span n a b = false ↔ ¬ (a ≤ n ∧ n ≤ b) := by unfold span; simp

set_option maxHeartbeats 400000 in
theorem within_any (n a b : Int) (w : World) :
    Calls Tryd.prog 42 #[.int .i64 n, .int .i64 a, .int .i64 b] w fun e w' => e = .returned (.bool (span n a b)) ∧ w' = w := by
  go_enter Tryd.func42, Tryd.ntmps42
  go_wp2
  all_goals
    go_ret
    exact ⟨ret_bool (by unfold span; simp [*] <;> omega), rfl⟩

def printP (c : Int) : Bool := decide (c = 9 ∨ c = 10 ∨ c = 13 ∨ (32 ≤ c ∧ c ≤ 126) ∨ c = 133 ∨ (160 ≤ c ∧ c ≤ 55295) ∨ (57344 ≤ c ∧ c ≤ 65533) ∨ (65536 ≤ c ∧ c ≤ 1114111))
def hexP (c : Int) : Int := if 48 ≤ c ∧ c ≤ 57 then c - 48 else if 97 ≤ c ∧ c ≤ 102 then c - 87 else if 65 ≤ c ∧ c ≤ 70 then c - 55 else -1
def pointP (c : Int) : Bool := decide (0 ≤ c ∧ c ≤ 1114111 ∧ ¬ (55296 ≤ c ∧ c ≤ 57343))
def countP (c : Int) : Nat := if c = 120 then 2 else if c = 117 then 4 else if c = 85 then 8 else 0
def oddP (c : Int) : Bool := decide (c = 34 ∨ c = 92 ∨ c = 9 ∨ c = 10 ∨ c = 13 ∨ c = 133 ∨ c = 8232 ∨ c = 8233 ∨ c = 65279)
def standsP (c : Int) : Bool := !oddP c && printP c

set_option maxRecDepth 100000 in
set_option maxHeartbeats 1000000 in
theorem print_any (c : Int) (w : World) :
    Calls Tryd.prog 32 #[.int .i64 c] w fun e w' => e = .returned (.bool (printP c)) ∧ w' = w := by
  go_enter Tryd.func32, Tryd.ntmps32
  go_wp2_with (first | (go_at_call 42; refine (within_any _ _ _ _).mono ?_; rintro e w' ⟨rfl, rfl⟩))
  all_goals
    go_ret
    refine ⟨ret_bool ?_, rfl⟩
    unfold printP
    rw [Bool.eq_iff_iff]
    simp only [span_iff, beq_iff_eq, beq_eq_false_iff_ne, bne_iff_ne, decide_eq_true_eq, Bool.or_eq_true, Bool.and_eq_true, Bool.not_eq_true', Bool.not_eq_eq_eq_not, Bool.not_true, Bool.not_false, Bool.false_eq_true, decide_eq_false_iff_not, ne_eq, iff_false, false_iff, true_iff, iff_true] at *
    try omega

set_option maxRecDepth 100000 in
set_option maxHeartbeats 1000000 in
theorem rprint_any (c : Int) (w : World) :
    Calls Tryd.prog 18 #[.int .i64 c] w fun e w' => e = .returned (.bool (printP c)) ∧ w' = w := by
  go_enter Tryd.func18, Tryd.ntmps18
  go_wp2
  all_goals
    go_ret
    refine ⟨ret_bool ?_, rfl⟩
    unfold printP
    rw [Bool.eq_iff_iff]
    simp only [span_iff, beq_iff_eq, beq_eq_false_iff_ne, bne_iff_ne, decide_eq_true_eq, Bool.or_eq_true, Bool.and_eq_true, Bool.not_eq_true', Bool.not_eq_eq_eq_not, Bool.not_true, Bool.not_false, Bool.false_eq_true, decide_eq_false_iff_not, ne_eq, iff_false, false_iff, true_iff, iff_true] at *
    try omega

set_option maxRecDepth 100000 in
set_option maxHeartbeats 1000000 in
theorem isPoint_any (c : Int) (w : World) :
    Calls Tryd.prog 23 #[.int .i64 c] w fun e w' => e = .returned (.bool (pointP c)) ∧ w' = w := by
  go_enter Tryd.func23, Tryd.ntmps23
  go_wp2
  all_goals
    go_ret
    refine ⟨ret_bool ?_, rfl⟩
    unfold pointP
    rw [Bool.eq_iff_iff]
    simp only [span_iff, beq_iff_eq, beq_eq_false_iff_ne, bne_iff_ne, decide_eq_true_eq, Bool.or_eq_true, Bool.and_eq_true, Bool.not_eq_true', Bool.not_eq_eq_eq_not, Bool.not_true, Bool.not_false, Bool.false_eq_true, decide_eq_false_iff_not, ne_eq, iff_false, false_iff, true_iff, iff_true] at *
    try omega

set_option maxRecDepth 100000 in
set_option maxHeartbeats 1000000 in
theorem right_any (c : Int) (w : World) :
    Calls Tryd.prog 41 #[.int .i64 c] w fun e w' => e = .returned (.bool (pointP c)) ∧ w' = w := by
  go_enter Tryd.func41, Tryd.ntmps41
  go_wp2
  all_goals
    go_ret
    refine ⟨ret_bool ?_, rfl⟩
    unfold pointP
    rw [Bool.eq_iff_iff]
    simp only [span_iff, beq_iff_eq, beq_eq_false_iff_ne, bne_iff_ne, decide_eq_true_eq, Bool.or_eq_true, Bool.and_eq_true, Bool.not_eq_true', Bool.not_eq_eq_eq_not, Bool.not_true, Bool.not_false, Bool.false_eq_true, decide_eq_false_iff_not, ne_eq, iff_false, false_iff, true_iff, iff_true] at *
    try omega

set_option maxRecDepth 100000 in
set_option maxHeartbeats 1000000 in
theorem stands_any (c : Int) (w : World) :
    Calls Tryd.prog 24 #[.int .i64 c] w fun e w' => e = .returned (.bool (standsP c)) ∧ w' = w := by
  go_enter Tryd.func24, Tryd.ntmps24
  go_wp2_with (first | (go_at_call 32; refine (print_any _ _).mono ?_; rintro e w' ⟨rfl, rfl⟩))
  all_goals
    go_ret
    refine ⟨ret_bool ?_, rfl⟩
    unfold standsP oddP
    rw [Bool.eq_iff_iff]
    simp only [span_iff, beq_iff_eq, beq_eq_false_iff_ne, bne_iff_ne, decide_eq_true_eq, Bool.or_eq_true, Bool.and_eq_true, Bool.not_eq_true', Bool.not_eq_eq_eq_not, Bool.not_true, Bool.not_false, Bool.false_eq_true, decide_eq_false_iff_not, ne_eq, iff_false, false_iff, true_iff, iff_true] at *
    try (first | omega | (constructor <;> intro h <;> first | exact h.2 | exact ⟨by omega, h⟩))

set_option maxRecDepth 100000 in
set_option maxHeartbeats 1000000 in
theorem count_any (c : Int) (w : World) :
    Calls Tryd.prog 34 #[.int .i64 c] w fun e w' => e = .returned (.int .i64 (countP c : Nat)) ∧ w' = w := by
  go_enter Tryd.func34, Tryd.ntmps34
  go_wp2
  all_goals
    go_ret
    refine ⟨ret_int ?_, rfl⟩
    unfold countP
    simp only [beq_iff_eq, beq_eq_false_iff_ne, ne_eq] at *
    simp [*]

set_option maxRecDepth 100000 in
set_option maxHeartbeats 1000000 in
theorem hex_any (c : Int) (w : World) :
    Calls Tryd.prog 49 #[.int .i64 c] w fun e w' => e = .returned (.int .i64 (hexP c)) ∧ w' = w := by
  go_enter Tryd.func49, Tryd.ntmps49
  go_wp2_with (go_at_call 42; refine (within_any _ _ _ _).mono ?_; rintro e w' ⟨rfl, rfl⟩)
  all_goals
    go_ret
    refine ⟨ret_int ?_, rfl⟩
    unfold hexP
    try unfold wrap64
    simp only [span_iff, span_not] at *
    repeat' split
    all_goals omega

set_option maxRecDepth 100000 in
set_option maxHeartbeats 1000000 in
theorem rhex_any (c : Int) (w : World) :
    Calls Tryd.prog 40 #[.int .i64 c] w fun e w' => e = .returned (.int .i64 (hexP c)) ∧ w' = w := by
  go_enter Tryd.func40, Tryd.ntmps40
  go_wp2
  all_goals
    go_ret
    refine ⟨ret_int ?_, rfl⟩
    unfold hexP
    try unfold wrap64
    repeat' split
    all_goals omega

set_option maxHeartbeats 400000 in
theorem num_any (c : Int) (w : World) :
    Calls Tryd.prog 13 #[.int .i64 c] w fun e w' => e = .returned (.int .i64 c) ∧ w' = w := by
  go_enter Tryd.func13, Tryd.ntmps13
  go_wp2
  go_ret
  exact ⟨rfl, rfl⟩

set_option maxRecDepth 100000 in
set_option maxHeartbeats 1000000 in
/-- The document's soft. -/
theorem soft_any (c : Int) (h : Bool) (w : World) :
    Calls Tryd.prog 22 #[.agg #[.int .i64 c, .bool h]] w fun e w' => e = .returned (.bool (!h && blankP c)) ∧ w' = w.alloc (.cells #[.int .i64 c, .bool h] 50) := by
  cases h with
  | true =>
    go_enter Tryd.func22, Tryd.ntmps22
    go_wp2
    go_ret
    exact ⟨rfl, rfl⟩
  | false =>
    go_enter Tryd.func22, Tryd.ntmps22
    go_wp2_with (first | (go_at_call 31; refine (rblank_any _ _).mono ?_; rintro e w' ⟨rfl, rfl⟩))
    go_ret
    exact ⟨rfl, rfl⟩

set_option maxRecDepth 100000 in
set_option maxHeartbeats 1000000 in
/-- withoutIndent. -/
theorem indent_any (q : Option Addr) (t : List Int) (c : Nat) (w : World) (hc : t.length ≤ c) (hm : c ≤ maxLen) (hI : Is w q t) :
    Calls Tryd.prog 27 #[.slice q t.length c] w fun e w' => (∃ (q' : Option Addr) (c' : Nat), e = .returned (.slice q' (dropF t).length c') ∧ (dropF t).length ≤ c' ∧ c' ≤ maxLen ∧ Sub q t q' (dropF t)) ∧ w' = w := by
  have hsub := Sub.refl hI
  obtain ⟨T, hT⟩ : ∃ T, dropF t = T := ⟨_, rfl⟩
  rw [hT]
  have HT : Hid (dropF t = T) := hT
  clear hT
  go_enter Tryd.func27, Tryd.ntmps27
  go_wp2
  go_loop [0] (fun v => ∃ (q' : Option Addr) (u : List Int) (c' : Nat), v = .slice q' u.length c' ∧ Sub q t q' u ∧ u.length ≤ c' ∧ c' ≤ maxLen ∧ Hid (dropF u = T)) (fun v => slen v)
  case atStart => exact ⟨q, t, c, rfl, hsub, hc, hm, HT⟩
  case round =>
    obtain ⟨q', u, c', rfl, hs, hc1, hm1, HD⟩ := hrel
    have hm2 : (c' : Int) ≤ 9223372036854775807 := by unfold maxLen at hm1; omega
    have hc2 : (u.length : Int) ≤ c' := by omega
    by_cases hl : 0 < u.length
    · have hl' : (0 : Int) < u.length := by omega
      obtain ⟨b, o, rfl, hu⟩ := (hs.is hI).at hl
      have d0 := hu 0 hl
      rw [Nat.add_zero] at d0
      cases hb : blankP (iAt u 0) with
      | true =>
        have S : ∀ w2, (Instr.slice 25 (.slice (some ⟨b, o, none⟩) u.length c') (some (.int .i64 1)) none none).run Tryd.prog w2 = .ok (.slice (if c' = 1 then (some (⟨b, o, none⟩ : Addr)) else (some (⟨b, o, none⟩ : Addr)).map (·.add 1)) (u.length - 1) (c' - 1)) w2 := slice_from (some ⟨b, o, none⟩) u.length c' 1 (by omega) hc1
        have hs' := hs.tail c' hc1
        have HD' : Hid (dropF (u.drop 1) = T) := by
          show _ = _
          rw [dropF_more hl hb]; exact HD.out
        have BL := blank_any (iAt u 0)
        rw [hb] at BL
        generalize (if c' = 1 then (some (⟨b, o, none⟩ : Addr)) else (some (⟨b, o, none⟩ : Addr)).map (·.add 1)) = q'' at S hs'
        have hlen : (u.drop 1).length = u.length - 1 := by simp
        generalize iAt u 0 = x at d0 BL
        clear hu hb HD
        go_wp2_with (go_at_call 35; refine (BL _).mono ?_; rintro e w' ⟨rfl, rfl⟩)
        go_round
        case rel => exact ⟨q'', u.drop 1, c' - 1, by rw [hlen], hs', by rw [hlen]; omega, by omega, HD'⟩
        case measure => simp [slen]; omega
      | false =>
        have HE1 : Hid (u = T) := by
          show _ = _
          rw [← HD.out, dropF_stop (fun _ => hb)]
        have BL := blank_any (iAt u 0)
        rw [hb] at BL
        generalize iAt u 0 = x at d0 BL
        clear hu hb HD
        go_wp2_with (go_at_call 35; refine (BL _).mono ?_; rintro e w' ⟨rfl, rfl⟩)
        go_ret
        have e := HE1.out
        subst e
        exact ⟨⟨_, _, rfl, hc1, hm1, hs⟩, rfl⟩
    · have e0 : u = [] := List.eq_nil_of_length_eq_zero (by omega)
      subst e0
      have e : T = [] := HD.out.symm
      subst e
      go_wp2
      go_ret
      exact ⟨⟨_, _, rfl, hm1, hs⟩, rfl⟩
end Go.Proofs.YtpiefdpcinjkpaaDoor
