/- slices.IndexFunc and slices.ContainsFunc, over any function that only tells of a number whether it is so. -/
import Derived.Test.YtcijjbnkdjmklaaTell
set_option linter.unusedVariables false
set_option linter.unusedSimpArgs false
namespace Go.Proofs.Ytcijjbnkdjmklaa
open Go.RowKit

/-- How many stand ahead of the first that is so. -/
def upTo (p : Int → Bool) (l : List Int) : Nat := run (fun c => !p c) l
/-- Where the first is that is so; -1: none is. -/
def firstOf (p : Int → Bool) (l : List Int) : Int := if upTo p l < l.length then (upTo p l : Nat) else -1

set_option maxRecDepth 100000 in
set_option maxHeartbeats 1000000 in
theorem indexEnd_any (p : Option Addr) (l : List Int) (cap : Nat) (w : World) (hm : (l.length : Int) ≤ 9223372036854775807) (h : Is w p l) :
    Calls Try.prog 30 #[.slice p l.length cap, .func (.func 31) #[] #[]] w fun e w' => e = .returned (.int .i64 (firstOf endP l)) ∧ w' = w := by
  obtain ⟨r, hR⟩ : ∃ r, firstOf endP l = r := ⟨_, rfl⟩
  rw [hR]
  have HR : Hid (firstOf endP l = r) := hR
  clear hR
  go_enter Try.func30, Try.ntmps30
  go_wp2
  go_loop [8] (fun i => ∃ (k : Nat), k ≤ l.length ∧ i = .int .i64 k ∧ Hid (∀ j, j < k → (!endP (iAt l j)) = true)) (fun i => l.length - (intOf i).toNat)
  case atStart => exact ⟨0, Nat.zero_le _, rfl, fun j hj => by omega⟩
  case round =>
    obtain ⟨k, hk, rfl, HE⟩ := hrel
    by_cases hlt : k < l.length
    · obtain ⟨b, o, rfl, hb⟩ := h.at (by omega)
      have c0 := hb k hlt
      clear hb h
      cases hx : endP (iAt l k)
      · have HE' : Hid (∀ j, j < k + 1 → (!endP (iAt l j)) = true) := by
          intro j hj
          by_cases e : j = k
          · rw [e, hx]; rfl
          · exact HE.out j (by omega)
        generalize iAt l k = x at c0 hx
        go_wp2_with (first | (go_at_call 31; refine (ends_any _ _).mono ?_; rintro e w' ⟨rfl, rfl⟩))
        go_round
        case rel => exact ⟨k + 1, by omega, by go_num, HE'⟩
        case measure => simp [intOf]; omega
      · have hr : r = k := by
          have : upTo endP l = k := run_eq _ l k hk HE.out (fun _ => by rw [hx]; rfl)
          rw [← HR.out]
          unfold firstOf
          rw [this, if_pos hlt]
        generalize iAt l k = x at c0 hx
        subst hr
        go_wp2_with (first | (go_at_call 31; refine (ends_any _ _).mono ?_; rintro e w' ⟨rfl, rfl⟩))
        go_ret
        exact ⟨rfl, rfl⟩
    · obtain rfl : k = l.length := by omega
      have hr : r = -1 := by
        have : upTo endP l = l.length := run_eq _ l _ hk HE.out (fun h => by omega)
        rw [← HR.out]
        unfold firstOf
        rw [this, if_neg (by omega)]
      subst hr
      go_wp2
      go_ret
      exact ⟨rfl, rfl⟩

set_option maxRecDepth 100000 in
set_option maxHeartbeats 1000000 in
theorem indexBad_any (p : Option Addr) (l : List Int) (cap : Nat) (w : World) (hm : (l.length : Int) ≤ 9223372036854775807) (h : Is w p l) :
    Calls Try.prog 30 #[.slice p l.length cap, .func (.func 20) #[] #[]] w fun e w' => e = .returned (.int .i64 (firstOf badP l)) ∧ w' = w := by
  obtain ⟨r, hR⟩ : ∃ r, firstOf badP l = r := ⟨_, rfl⟩
  rw [hR]
  have HR : Hid (firstOf badP l = r) := hR
  clear hR
  go_enter Try.func30, Try.ntmps30
  go_wp2
  go_loop [8] (fun i => ∃ (k : Nat), k ≤ l.length ∧ i = .int .i64 k ∧ Hid (∀ j, j < k → (!badP (iAt l j)) = true)) (fun i => l.length - (intOf i).toNat)
  case atStart => exact ⟨0, Nat.zero_le _, rfl, fun j hj => by omega⟩
  case round =>
    obtain ⟨k, hk, rfl, HE⟩ := hrel
    by_cases hlt : k < l.length
    · obtain ⟨b, o, rfl, hb⟩ := h.at (by omega)
      have c0 := hb k hlt
      clear hb h
      cases hx : badP (iAt l k)
      · have HE' : Hid (∀ j, j < k + 1 → (!badP (iAt l j)) = true) := by
          intro j hj
          by_cases e : j = k
          · rw [e, hx]; rfl
          · exact HE.out j (by omega)
        generalize iAt l k = x at c0 hx
        go_wp2_with (first | (go_at_call 20; refine (bad_any _ _).mono ?_; rintro e w' ⟨rfl, rfl⟩))
        go_round
        case rel => exact ⟨k + 1, by omega, by go_num, HE'⟩
        case measure => simp [intOf]; omega
      · have hr : r = k := by
          have : upTo badP l = k := run_eq _ l k hk HE.out (fun _ => by rw [hx]; rfl)
          rw [← HR.out]
          unfold firstOf
          rw [this, if_pos hlt]
        generalize iAt l k = x at c0 hx
        subst hr
        go_wp2_with (first | (go_at_call 20; refine (bad_any _ _).mono ?_; rintro e w' ⟨rfl, rfl⟩))
        go_ret
        exact ⟨rfl, rfl⟩
    · obtain rfl : k = l.length := by omega
      have hr : r = -1 := by
        have : upTo badP l = l.length := run_eq _ l _ hk HE.out (fun h => by omega)
        rw [← HR.out]
        unfold firstOf
        rw [this, if_neg (by omega)]
      subst hr
      go_wp2
      go_ret
      exact ⟨rfl, rfl⟩

theorem any_iff (p : Int → Bool) (l : List Int) : l.any p = true ↔ upTo p l < l.length := by
  unfold upTo
  induction l with
  | nil => simp [run]
  | cons x t ih =>
    rw [List.any_cons, Bool.or_eq_true, ih, List.length_cons]
    cases hx : p x
    · rw [show run (fun c => !p c) (x :: t) = run (fun c => !p c) t + 1 from by simp [run, hx]]
      simp
    · rw [show run (fun c => !p c) (x :: t) = 0 from by simp [run, hx]]
      simp

theorem any_of_first (p : Int → Bool) (l : List Int) : l.any p = decide (0 ≤ firstOf p l) := by
  rw [Bool.eq_iff_iff, any_iff, decide_eq_true_iff]
  unfold firstOf
  split <;> omega

set_option maxRecDepth 100000 in
set_option maxHeartbeats 1000000 in
theorem contains_any (p : Option Addr) (l : List Int) (cap : Nat) (w : World) (hm : (l.length : Int) ≤ 9223372036854775807) (h : Is w p l) :
    Calls Try.prog 19 #[.slice p l.length cap, .func (.func 20) #[] #[]] w fun e w' => e = .returned (.bool (l.any badP)) ∧ w' = w := by
  rw [any_of_first]
  go_enter Try.func19, Try.ntmps19
  go_wp2_with (first | (go_at_call 30; refine (indexBad_any _ _ _ _ hm h).mono ?_; rintro e w' ⟨rfl, rfl⟩))
  go_ret
  exact ⟨rfl, rfl⟩
end Go.Proofs.Ytcijjbnkdjmklaa
