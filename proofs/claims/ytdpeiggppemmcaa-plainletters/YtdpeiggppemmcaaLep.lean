/- Words of letters with one blank between, in plain terms: where they end, whatever stands behind them. -/
import Derived.Test.YtdpeiggppemmcaaPln
set_option linter.unusedVariables false
set_option linter.unusedSimpArgs false
namespace Go.Proofs.Ytdpeiggppemmcaa
open Go.RowKit

/-- Letters, and blanks within. -/
def okL (t : List Int) (j : Nat) : Prop := (97 ≤ iAt t j ∧ iAt t j ≤ 122) ∨ (iAt t j = 32 ∧ 0 < j ∧ j + 1 < t.length)
def tlP : Nat → List Int
  | 0 => []
  | 1 => [58]
  | 2 => [58, 32, 120]
  | 3 => [32, 58]
  | 4 => [32, 35, 120]
  | 5 => [44, 120]
  | 6 => [35, 120]
  | _ => [58, 120]
def enK (n : Nat) (fl : Bool) : Nat → Nat
  | 0 => n
  | 1 => n
  | 2 => n
  | 3 => n
  | 4 => n
  | 5 => if fl then n else n + 2
  | _ => n + 2
def kyK (n : Nat) : Nat → Int
  | 0 => -1
  | 1 => n
  | 2 => n
  | 3 => n + 1
  | _ => -1

theorem iAt_left {t u : List Int} {j : Nat} (h : j < t.length) : iAt (t ++ u) j = iAt t j := by unfold iAt; rw [List.getElem?_append_left h]
theorem iAt_right (t u : List Int) (i : Nat) : iAt (t ++ u) (t.length + i) = iAt u i := by unfold iAt; rw [List.getElem?_append_right (by omega)]; congr 2; omega
theorem ah_first {t : List Int} (u : List Int) (h : 0 < t.length) : ahP (t ++ u) (t.length + 0) = iAt t (t.length - 1) := by
  unfold ahP
  rw [if_pos (by omega), iAt_left (by omega)]
  rfl
theorem ah_next (t u : List Int) (i : Nat) : ahP (t ++ u) (t.length + (i + 1)) = iAt u i := by
  unfold ahP
  rw [if_pos (by omega), show t.length + (i + 1) - 1 = t.length + i by omega, iAt_right]
theorem bh_in (t : List Int) {u : List Int} {i : Nat} (h : i + 1 < u.length) : bhP (t ++ u) (t.length + i) = iAt u (i + 1) := by
  unfold bhP
  rw [if_pos (by rw [List.length_append]; omega), show t.length + i + 1 = t.length + (i + 1) by omega, iAt_right]
theorem bh_end (t : List Int) {u : List Int} {i : Nat} (h : ¬ i + 1 < u.length) : bhP (t ++ u) (t.length + i) = 10 := by
  unfold bhP
  rw [if_neg (by rw [List.length_append]; omega)]

theorem ok_not {a c b : Int} {fl : Bool} (h : (97 ≤ c ∧ c ≤ 122) ∨ c = 32) : enP a c b fl = false := by
  unfold enP
  rw [if_neg (by omega), if_neg (by omega)]
  have : flowP c = false := by
    unfold flowP
    apply decide_eq_false
    omega
  rw [this]
  cases fl <;> rfl
theorem ok_either {t : List Int} {j : Nat} (h : okL t j) : (97 ≤ iAt t j ∧ iAt t j ≤ 122) ∨ iAt t j = 32 := h.imp id (fun h => h.1)
theorem ok_last {t : List Int} (h0 : 0 < t.length) (h : ∀ j, j < t.length → okL t j) : 97 ≤ iAt t (t.length - 1) ∧ iAt t (t.length - 1) ≤ 122 := by
  rcases h (t.length - 1) (by omega) with h | h
  · exact h
  · omega
theorem ok_first {t : List Int} (h0 : 0 < t.length) (h : ∀ j, j < t.length → okL t j) : 97 ≤ iAt t 0 ∧ iAt t 0 ≤ 122 := by
  rcases h 0 h0 with h | h
  · exact h
  · omega
theorem let_blank {c : Int} (h : 97 ≤ c ∧ c ≤ 122) : blankP c = false := by unfold blankP; apply decide_eq_false; omega
theorem let_safe {c : Int} (fl : Bool) (h : 97 ≤ c ∧ c ≤ 122) : safeP c fl = true := by
  have : nameP c = true := by
    rw [nameP_iff]
    refine ⟨?_, let_blank h, ?_, by omega, by omega, by omega⟩
    · unfold printP; apply decide_eq_true; omega
    · unfold flowP; apply decide_eq_false; omega
  unfold safeP
  rw [this]
  rfl
theorem let_sign {c : Int} (h : 97 ≤ c ∧ c ≤ 122) : signP c = false := by unfold signP; apply decide_eq_false; omega

theorem beg_let {t : List Int} (u : List Int) (fl : Bool) (h0 : 0 < t.length) (h : ∀ j, j < t.length → okL t j) : begP (t ++ u) fl = true := by
  have hf := ok_first h0 h
  unfold begP
  rw [iAt_left h0, decide_eq_true (by rw [List.length_append]; omega), let_safe fl hf, if_neg (by omega), let_sign hf]
  rfl

/-- A blank at the end is left off. -/
theorem trim_last {t : List Int} (u : List Int) (h0 : 0 < t.length) (h : ∀ j, j < t.length → okL t j) : trimP (t ++ u) t.length = t.length := by
  cases e : t.length with
  | zero => omega
  | succ k =>
    have hl := ok_last h0 h
    rw [e, Nat.add_sub_cancel] at hl
    rw [trimP, iAt_left (by omega), let_blank hl]
    rfl
theorem trim_not1 {a : List Int} {n : Nat} (h : blankP (iAt a n) = false) : trimP a (n + 1) = n + 1 := by rw [trimP, h]; rfl
theorem trim_yes1 {a : List Int} {n : Nat} (h : blankP (iAt a n) = true) : trimP a (n + 1) = trimP a n := by rw [trimP, h]; rfl

theorem left_not {t : List Int} (h : ∀ j, j < t.length → okL t j) (fl : Bool) (u : List Int) : ∀ j, j < t.length → enAt (t ++ u) fl j = false := fun j hj => by
  unfold enAt
  rw [iAt_left hj]
  exact ok_not (ok_either (h j hj))
/-- It stops where the tail's i-th is. -/
theorem stop_tail {t : List Int} (h : ∀ j, j < t.length → okL t j) (fl : Bool) {u : List Int} {i : Nat} (hi : i ≤ u.length) (h1 : ∀ j, j < i → enAt (t ++ u) fl (t.length + j) = false) (h2 : i < u.length → enAt (t ++ u) fl (t.length + i) = true) : stopP (t ++ u) fl = t.length + i := by
  refine stop_eq (by rw [List.length_append]; omega) (fun j hj => ?_) (fun hh => h2 (by rw [List.length_append] at hh; omega))
  by_cases e : j < t.length
  · exact left_not h fl u j e
  · have := h1 (j - t.length) (by omega)
    rwa [show t.length + (j - t.length) = j by omega] at this

/-- Where it stops, for each tail. -/
def stK (fl : Bool) : Nat → Nat
  | 0 => 0
  | 1 => 0
  | 2 => 0
  | 3 => 1
  | 4 => 1
  | 5 => if fl then 0 else 2
  | _ => 2
theorem let_stop {t : List Int} (h0 : 0 < t.length) (h : ∀ j, j < t.length → okL t j) (fl : Bool) : ∀ k, stopP (t ++ tlP k) fl = t.length + stK fl k
  | 0 => stop_tail h fl (by simp [stK]) (fun j hj => by simp [stK] at hj) (fun hh => by simp [stK, tlP] at hh)
  | 1 => stop_tail h fl (by simp [stK]) (fun j hj => by simp [stK] at hj) (fun _ => by
      show enAt (t ++ [58]) fl (t.length + 0) = true
      unfold enAt
      rw [iAt_right, bh_end t (by simp)]
      cases fl <;> rfl)
  | 2 => stop_tail h fl (by simp [stK]) (fun j hj => by simp [stK] at hj) (fun _ => by
      show enAt (t ++ [58, 32, 120]) fl (t.length + 0) = true
      unfold enAt
      rw [iAt_right, bh_in t (by simp)]
      cases fl <;> rfl)
  | 3 => stop_tail h fl (by simp [stK, tlP]) (fun j hj => by
      obtain rfl : j = 0 := by simp [stK] at hj; omega
      show enAt (t ++ [32, 58]) fl (t.length + 0) = false
      unfold enAt
      rw [iAt_right]
      exact ok_not (.inr rfl)) (fun _ => by
      show enAt (t ++ [32, 58]) fl (t.length + (0 + 1)) = true
      unfold enAt
      rw [iAt_right, bh_end t (by simp)]
      cases fl <;> rfl)
  | 4 => stop_tail h fl (by simp [stK, tlP]) (fun j hj => by
      obtain rfl : j = 0 := by simp [stK] at hj; omega
      show enAt (t ++ [32, 35, 120]) fl (t.length + 0) = false
      unfold enAt
      rw [iAt_right]
      exact ok_not (.inr rfl)) (fun _ => by
      show enAt (t ++ [32, 35, 120]) fl (t.length + (0 + 1)) = true
      unfold enAt
      rw [iAt_right, ah_next]
      rfl)
  | 5 => by
    cases fl with
    | true =>
      exact stop_tail h true (by simp [stK]) (fun j hj => by simp [stK] at hj) (fun _ => by
        show enAt (t ++ [44, 120]) true (t.length + 0) = true
        unfold enAt
        rw [iAt_right]
        rfl)
    | false =>
      exact stop_tail h false (by simp [stK, tlP]) (fun j hj => by
        have hj : j = 0 ∨ j = 1 := by simp [stK] at hj; omega
        show enAt (t ++ [44, 120]) false (t.length + j) = false
        unfold enAt
        rw [iAt_right]
        rcases hj with rfl | rfl
        · rfl
        · exact ok_not (.inl (by decide))) (fun hh => by simp [stK, tlP] at hh)
  | 6 => stop_tail h fl (by simp [stK, tlP]) (fun j hj => by
      have hj : j = 0 ∨ j = 1 := by simp [stK] at hj; omega
      show enAt (t ++ [35, 120]) fl (t.length + j) = false
      unfold enAt
      rw [iAt_right]
      rcases hj with rfl | rfl
      · rw [ah_first _ h0]
        exact let_blank (ok_last h0 h)
      · exact ok_not (.inl (by decide))) (fun hh => by simp [stK, tlP] at hh)
  | k + 7 => stop_tail h fl (by simp [stK, tlP]) (fun j hj => by
      have hj : j = 0 ∨ j = 1 := by simp [stK] at hj; omega
      show enAt (t ++ [58, 120]) fl (t.length + j) = false
      unfold enAt
      rw [iAt_right]
      rcases hj with rfl | rfl
      · rw [bh_in t (by simp)]
        generalize ahP (t ++ [58, 120]) (t.length + 0) = a
        cases fl <;> rfl
      · exact ok_not (.inl (by decide))) (fun hh => by simp [stK, tlP] at hh)

theorem let_end {t : List Int} (h0 : 0 < t.length) (h : ∀ j, j < t.length → okL t j) (fl : Bool) (k : Nat) : endP (t ++ tlP k) fl = enK t.length fl k := by
  unfold endP
  rw [let_stop h0 h fl k]
  have T0 : ∀ u, trimP (t ++ u) (t.length + 0) = t.length := fun u => trim_last u h0 h
  have T1 : ∀ u, blankP (iAt u 0) = true → trimP (t ++ u) (t.length + 1) = t.length := fun u hu => (trim_yes1 (by have := iAt_right t u 0; rw [Nat.add_zero] at this; rw [this]; exact hu)).trans (trim_last u h0 h)
  have T2 : ∀ u, blankP (iAt u 1) = false → trimP (t ++ u) (t.length + 2) = t.length + 2 := fun u hu => trim_not1 (by have := iAt_right t u 1; rw [this]; exact hu)
  match k with
  | 0 => exact T0 _
  | 1 => exact T0 _
  | 2 => exact T0 _
  | 3 => exact T1 _ rfl
  | 4 => exact T1 _ rfl
  | 5 =>
    cases fl with
    | true => exact T0 _
    | false => exact T2 _ rfl
  | 6 => exact T2 _ rfl
  | k + 7 => exact T2 _ rfl

theorem let_key {t : List Int} (h0 : 0 < t.length) (h : ∀ j, j < t.length → okL t j) (fl : Bool) (k : Nat) : keyP (t ++ tlP k) fl = kyK t.length k := by
  unfold keyP
  rw [let_stop h0 h fl k]
  have Y : ∀ i u, i < u.length → iAt u i = 58 → (if t.length + i < (t ++ u).length ∧ iAt (t ++ u) (t.length + i) = 58 then ((t.length + i : Nat) : Int) else -1) = ((t.length + i : Nat) : Int) := fun i u hi hu =>
    if_pos ⟨by rw [List.length_append]; omega, by rw [iAt_right]; exact hu⟩
  have Z : ∀ i u, (i < u.length → iAt u i ≠ 58) → (if t.length + i < (t ++ u).length ∧ iAt (t ++ u) (t.length + i) = 58 then ((t.length + i : Nat) : Int) else -1) = -1 := fun i u hu =>
    if_neg (fun hh => by
      have h1 := hh.1
      rw [List.length_append] at h1
      have h2 := hh.2
      rw [iAt_right] at h2
      exact hu (by omega) h2)
  match k with
  | 0 => exact Z 0 [] (fun hh => by simp at hh)
  | 1 => exact Y 0 [58] (by simp) rfl
  | 2 => exact Y 0 [58, 32, 120] (by simp) rfl
  | 3 => exact (Y 1 [32, 58] (by simp) rfl).trans (by show ((t.length + 1 : Nat) : Int) = (t.length : Int) + 1; omega)
  | 4 => exact Z 1 [32, 35, 120] (fun _ => by decide)
  | 5 =>
    cases fl with
    | true => exact Z 0 [44, 120] (fun _ => by decide)
    | false => exact Z 2 [44, 120] (fun hh => by simp at hh)
  | 6 => exact Z 2 [35, 120] (fun hh => by simp at hh)
  | k + 7 => exact Z 2 [58, 120] (fun hh => by simp at hh)
end Go.Proofs.Ytdpeiggppemmcaa
