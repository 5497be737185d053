/- Which code points may stand between single quotes on one line: the small functions, and the document's own. -/
import Derived.Test.YtgmcomfeggidnaaTrm
set_option linter.unusedVariables false
set_option linter.unusedSimpArgs false
namespace Go.Proofs.Ytgmcomfeggidnaa
open Go.RowKit

def span (n a b : Int) : Bool := decide (a ≤ n) && decide (n ≤ b)
theorem span_iff {n a b : Int} : span n a b = true ↔ a ≤ n ∧ n ≤ b := by unfold span; simp

def printP (c : Int) : Bool := decide (c = 9 ∨ c = 10 ∨ c = 13 ∨ (32 ≤ c ∧ c ≤ 126) ∨ c = 133 ∨ (160 ≤ c ∧ c ≤ 55295) ∨ (57344 ≤ c ∧ c ≤ 65533) ∨ (65536 ≤ c ∧ c ≤ 1114111))
def stP (c : Int) : Bool := decide (c ≠ 10) && decide (c ≠ 13) && decide (c ≠ 65279) && printP c
def mayP (t : List Int) : Bool := t.all stP

set_option maxRecDepth 100000 in
set_option maxHeartbeats 1000000 in
theorem rprint_any (c : Int) (w : World) :
    Calls Try.prog 14 #[.int .i64 c] w fun e w' => e = .returned (.bool (printP c)) ∧ w' = w := by
  go_enter Try.func14, Try.ntmps14
  go_wp2
  all_goals
    go_ret
    refine ⟨ret_bool ?_, rfl⟩
    unfold printP
    rw [Bool.eq_iff_iff]
    simp only [span_iff, beq_iff_eq, beq_eq_false_iff_ne, bne_iff_ne, decide_eq_true_eq, Bool.or_eq_true, Bool.and_eq_true, Bool.not_eq_true', Bool.not_eq_eq_eq_not, Bool.not_true, Bool.not_false, Bool.false_eq_true, decide_eq_false_iff_not, ne_eq, iff_false, false_iff, true_iff, iff_true] at *
    try omega

theorem st_not {c : Int} (h : stP c = false) : printP c = false ∨ c = 10 ∨ c = 13 ∨ c = 65279 := by
  unfold stP at h
  cases hp : printP c with
  | false => exact .inl rfl
  | true =>
    rw [hp] at h
    simp at h
    omega
theorem st_yes {c : Int} (h : stP c = true) : printP c = true ∧ c ≠ 10 ∧ c ≠ 13 ∧ c ≠ 65279 := by
  unfold stP at h
  simp at h
  exact ⟨h.2, h.1.1.1, h.1.1.2, h.1.2⟩

theorem may_no {t : List Int} {k : Nat} (h : k < t.length) (hs : stP (iAt t k) = false) : mayP t = false := by
  unfold mayP
  rw [List.all_eq_false]
  refine ⟨iAt t k, ?_, by simp [hs]⟩
  simp [iAt, h]
theorem may_all {t : List Int} (h : ∀ j, j < t.length → stP (iAt t j) = true) : mayP t = true := by
  unfold mayP
  rw [List.all_eq_true]
  intro x hx
  obtain ⟨j, hj, rfl⟩ := List.mem_iff_getElem.1 hx
  simpa [iAt, hj] using h j hj
theorem may_at {t : List Int} (h : mayP t = true) {k : Nat} (hk : k < t.length) : stP (iAt t k) = true := by
  cases hs : stP (iAt t k) with
  | true => rfl
  | false => rw [may_no hk hs] at h; cases h

set_option maxRecDepth 100000 in
set_option maxHeartbeats 1000000 in
theorem refMay_any (q : Option Addr) (t : List Int) (c : Nat) (w : World) (hn : t.length ≤ 1099511627776) (hI : Is w q t) :
    Calls Try.prog 19 #[.slice q t.length c] w fun e w' => e = .returned (.bool (mayP t)) ∧ w' = w := by
  obtain ⟨E, hE⟩ : ∃ E, mayP t = E := ⟨_, rfl⟩
  rw [hE]
  have HE : Hid (mayP t = E) := hE
  have hn2 : (t.length : Int) ≤ 1099511627776 := by omega
  clear hE
  go_enter Try.func19, Try.ntmps19
  go_wp2
  go_loop [3] (fun iv => ∃ (k : Nat), k ≤ t.length ∧ iv = .int .i64 k ∧ Hid (∀ j, j < k → stP (iAt t j) = true)) (fun iv => t.length - (intOf iv).toNat)
  case atStart => exact ⟨0, by omega, rfl, fun j hj => by omega⟩
  case round =>
    obtain ⟨k, hk, rfl, Hs⟩ := hrel
    by_cases hlt : k < t.length
    · have hli : (k : Int) < t.length := by omega
      obtain ⟨b, o, rfl, hu⟩ := hI.at (by omega)
      have c0 := hu k hlt
      have ST := rprint_any (iAt t k)
      cases hs : stP (iAt t k) with
      | true =>
        have Hs' : Hid (∀ j, j < k + 1 → stP (iAt t j) = true) := fun j hj => by
          by_cases e : j = k
          · subst e; exact hs
          · exact Hs.out j (by omega)
        obtain ⟨hp, h1, h2, h3⟩ := st_yes hs
        rw [hp] at ST
        generalize iAt t k = x at c0 ST h1 h2 h3
        have h1' : (x == 10) = false := by simpa using h1
        have h2' : (x == 13) = false := by simpa using h2
        have h3' : (x == 65279) = false := by simpa using h3
        clear hu hs hp
        go_wp2_with (first | (go_at_call 14; refine (ST _).mono ?_; rintro e w' ⟨rfl, rfl⟩))
        go_round
        case rel => exact ⟨k + 1, by omega, by go_num, Hs'⟩
        case measure => simp [intOf]; omega
      | false =>
        have hE : E = false := by rw [← HE.out]; exact may_no hlt hs
        subst hE
        have hd := st_not hs
        generalize iAt t k = x at c0 ST hd
        clear hu hs
        rcases hd with hd | hd | hd | hd
        · rw [hd] at ST
          clear hd
          go_wp2_with (first | (go_at_call 14; refine (ST _).mono ?_; rintro e w' ⟨rfl, rfl⟩))
          go_ret
          exact ⟨rfl, rfl⟩
        · subst hd
          rw [show printP 10 = true from by decide] at ST
          go_wp2_with (first | (go_at_call 14; refine (ST _).mono ?_; rintro e w' ⟨rfl, rfl⟩))
          go_ret
          exact ⟨rfl, rfl⟩
        · subst hd
          rw [show printP 13 = true from by decide] at ST
          go_wp2_with (first | (go_at_call 14; refine (ST _).mono ?_; rintro e w' ⟨rfl, rfl⟩))
          go_ret
          exact ⟨rfl, rfl⟩
        · subst hd
          rw [show printP 65279 = true from by decide] at ST
          go_wp2_with (first | (go_at_call 14; refine (ST _).mono ?_; rintro e w' ⟨rfl, rfl⟩))
          go_ret
          exact ⟨rfl, rfl⟩
    · obtain rfl : k = t.length := by omega
      have hE : E = true := by rw [← HE.out]; exact may_all Hs.out
      subst hE
      go_wp2
      go_ret
      exact ⟨rfl, rfl⟩
end Go.Proofs.Ytgmcomfeggidnaa
