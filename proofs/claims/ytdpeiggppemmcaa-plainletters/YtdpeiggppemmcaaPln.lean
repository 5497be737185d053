/- Texts without quotes, in plain terms: what is safe, where such a text ends, and by what; the laws of these terms. -/
import Derived.Test.YtdpeiggppemmcaaKinds
set_option linter.unusedVariables false
set_option linter.unusedSimpArgs false
namespace Go.Proofs.Ytdpeiggppemmcaa
open Go.RowKit

def safeP (c : Int) (fl : Bool) : Bool := nameP c || (!fl && flowP c)

theorem flow_named {c : Int} (h : flowP c = true) : printP c = true ∧ blankP c = false ∧ ¬ c = 10 ∧ ¬ c = 13 ∧ ¬ c = 65279 := by
  unfold flowP at h
  have h := of_decide_eq_true h
  rcases h with rfl | rfl | rfl | rfl | rfl <;> decide

/-- The document's own word. -/
theorem safeP_doc (c : Int) (fl : Bool) : safeP c fl = (printP c && !blankP c && decide (c ≠ 10) && decide (c ≠ 13) && decide (c ≠ 65279) && !(fl && flowP c)) := by
  unfold safeP
  cases hf : flowP c with
  | true =>
    obtain ⟨h1, h2, h3, h4, h5⟩ := flow_named hf
    unfold nameP
    rw [h1, h2, hf]
    cases fl <;> simp [h3, h4, h5]
  | false =>
    unfold nameP
    rw [hf, Bool.eq_iff_iff]
    cases fl <;> simp <;> (constructor <;> (intro h; simp_all))

theorem safe_less {c : Int} (h : safeP c true = true) : safeP c false = true := by
  unfold safeP at *
  simp at h
  simp [h]
theorem safe_ten (fl : Bool) : safeP 10 fl = false := by cases fl <;> decide

/-- What stands ahead of a sign, and behind it. -/
def ahP (t : List Int) (i : Nat) : Int := if 0 < i then iAt t (i - 1) else 10
def bhP (t : List Int) (i : Nat) : Int := if i + 1 < t.length then iAt t (i + 1) else 10
/-- Does a text end at a sign? -/
def enP (a c b : Int) (fl : Bool) : Bool := if c = 58 then !safeP b fl else if c = 35 then blankP a else fl && flowP c
def enAt (t : List Int) (fl : Bool) (i : Nat) : Bool := enP (ahP t i) (iAt t i) (bhP t i) fl

def stopF (t : List Int) (fl : Bool) : Nat → Nat → Nat
  | k, 0 => k
  | k, n + 1 => if enAt t fl k = true then k else stopF t fl (k + 1) n
/-- Where it ends, with the blanks at its end. -/
def stopP (t : List Int) (fl : Bool) : Nat := stopF t fl 0 t.length

theorem stopF_spec (t : List Int) (fl : Bool) : ∀ (n k : Nat), k ≤ stopF t fl k n ∧ stopF t fl k n ≤ k + n ∧ (∀ j, k ≤ j → j < stopF t fl k n → enAt t fl j = false) ∧ (stopF t fl k n < k + n → enAt t fl (stopF t fl k n) = true)
  | 0, k => by
    refine ⟨Nat.le_refl _, Nat.le_refl _, fun j h1 h2 => ?_, fun h => ?_⟩
    · simp [stopF] at h2; omega
    · simp [stopF] at h
  | n + 1, k => by
    rw [stopF]
    split
    · rename_i h
      exact ⟨Nat.le_refl _, by omega, fun j h1 h2 => by omega, fun _ => h⟩
    · rename_i h
      obtain ⟨h1, h2, h3, h4⟩ := stopF_spec t fl n (k + 1)
      refine ⟨by omega, by omega, fun j a b => ?_, fun a => h4 (by omega)⟩
      by_cases e : j = k
      · subst e; simpa using h
      · exact h3 j (by omega) b
theorem stop_le (t : List Int) (fl : Bool) : stopP t fl ≤ t.length := by have := (stopF_spec t fl t.length 0).2.1; unfold stopP; omega
theorem stop_not {t : List Int} {fl : Bool} {j : Nat} (h : j < stopP t fl) : enAt t fl j = false := (stopF_spec t fl t.length 0).2.2.1 j (Nat.zero_le _) h
theorem stop_at {t : List Int} {fl : Bool} (h : stopP t fl < t.length) : enAt t fl (stopP t fl) = true := (stopF_spec t fl t.length 0).2.2.2 (by unfold stopP at h; omega)
theorem stop_eq {t : List Int} {fl : Bool} {s : Nat} (h1 : s ≤ t.length) (h2 : ∀ j, j < s → enAt t fl j = false) (h3 : s < t.length → enAt t fl s = true) : stopP t fl = s := by
  rcases Nat.lt_trichotomy (stopP t fl) s with h | h | h
  · have := stop_at (t := t) (fl := fl) (by omega)
    rw [h2 _ h] at this
    cases this
  · exact h
  · have := h3 (by have := stop_le t fl; omega)
    rw [stop_not h] at this
    cases this

/-- Without the blanks ahead of n. -/
def trimP (t : List Int) : Nat → Nat
  | 0 => 0
  | n + 1 => if blankP (iAt t n) = true then trimP t n else n + 1
theorem trim_le (t : List Int) : ∀ n, trimP t n ≤ n
  | 0 => Nat.le_refl _
  | n + 1 => by rw [trimP]; split; have := trim_le t n; omega; omega
theorem trim_not (t : List Int) : ∀ n k, trimP t n = k + 1 → blankP (iAt t k) = false
  | 0, k, h => by simp [trimP] at h
  | n + 1, k, h => by
    rw [trimP] at h
    split at h
    · exact trim_not t n k h
    · rename_i hb
      obtain rfl : n = k := by omega
      simpa using hb
theorem trim_mono (t : List Int) {m : Nat} : ∀ n, m ≤ n → trimP t m ≤ trimP t n
  | 0, h => by obtain rfl : m = 0 := by omega
               exact Nat.le_refl _
  | n + 1, h => by
    by_cases e : m = n + 1
    · subst e; exact Nat.le_refl _
    · have := trim_mono t (m := m) n (by omega)
      have h2 := trim_le t m
      rw [trimP]
      split
      · exact this
      · omega

def endP (t : List Int) (fl : Bool) : Nat := trimP t (stopP t fl)
def keyP (t : List Int) (fl : Bool) : Int := if stopP t fl < t.length ∧ iAt t (stopP t fl) = 58 then stopP t fl else -1
def begP (t : List Int) (fl : Bool) : Bool :=
  decide (0 < t.length) && safeP (iAt t 0) fl && (if iAt t 0 = 45 ∨ iAt t 0 = 63 ∨ iAt t 0 = 58 then safeP (bhP t 0) fl else !signP (iAt t 0))

theorem end_le (t : List Int) (fl : Bool) : endP t fl ≤ t.length := Nat.le_trans (trim_le _ _) (stop_le _ _)
theorem key_is (t : List Int) (fl : Bool) : keyP t fl = -1 ∨ ∃ k : Nat, keyP t fl = k ∧ k < t.length ∧ endP t fl ≤ k ∧ iAt t k = 58 := by
  unfold keyP
  split
  · rename_i h
    exact .inr ⟨_, rfl, h.1, trim_le _ _, h.2⟩
  · exact .inl rfl

/-- What ends a text without brackets ends it within them. -/
theorem en_flow {a c b : Int} (h : enP a c b false = true) : enP a c b true = true := by
  unfold enP at *
  split at h
  · rename_i e
    rw [if_pos e]
    cases hs : safeP b true with
    | false => rfl
    | true => rw [safe_less hs] at h; cases h
  · rename_i e
    rw [if_neg e]
    split at h
    · rename_i e2; rw [if_pos e2]; exact h
    · cases h
theorem stop_flow (t : List Int) : stopP t true ≤ stopP t false := by
  apply Nat.le_of_not_lt
  intro h
  have h1 := stop_at (t := t) (fl := false) (by have := stop_le t true; omega)
  have h2 := stop_not h
  unfold enAt at h1 h2
  rw [en_flow h1] at h2
  cases h2
theorem end_flow (t : List Int) : endP t true ≤ endP t false := trim_mono t _ (stop_flow t)
theorem beg_flow {t : List Int} (h : begP t true = true) : begP t false = true := by
  unfold begP at *
  rw [Bool.and_eq_true, Bool.and_eq_true] at *
  refine ⟨⟨h.1.1, safe_less h.1.2⟩, ?_⟩
  have h2 := h.2
  split at h2
  · rename_i e; rw [if_pos e]; exact safe_less h2
  · rename_i e; rw [if_neg e]; exact h2

theorem iAt_take {t : List Int} {n j : Nat} (h : j < n) : iAt (t.take n) j = iAt t j := by
  unfold iAt
  rw [List.getElem?_take, if_pos h]
/-- What a text is, up to its end, goes to its end. -/
theorem again_stop {t : List Int} {fl : Bool} (h : ∀ k, endP t fl = k + 1 → iAt t k ≠ 58) : stopP (t.take (endP t fl)) fl = endP t fl := by
  have hl : (t.take (endP t fl)).length = endP t fl := by rw [List.length_take]; have := end_le t fl; omega
  refine stop_eq (by omega) (fun j hj => ?_) (fun hh => by omega)
  have h0 : enAt t fl j = false := stop_not (Nat.lt_of_lt_of_le hj (trim_le _ _))
  have h1 : iAt (t.take (endP t fl)) j = iAt t j := iAt_take hj
  have h2 : ahP (t.take (endP t fl)) j = ahP t j := by
    unfold ahP
    split
    · exact iAt_take (by omega)
    · rfl
  unfold enAt at *
  rw [h1, h2]
  by_cases e : j + 1 < endP t fl
  · have h3 : bhP (t.take (endP t fl)) j = bhP t j := by
      unfold bhP
      rw [if_pos (by omega), if_pos (by have := end_le t fl; omega)]
      exact iAt_take e
    rw [h3]
    exact h0
  · have hc := h j (by omega)
    unfold enP at *
    rw [if_neg hc] at h0 ⊢
    exact h0
theorem again_end {t : List Int} {fl : Bool} (h : ∀ k, endP t fl = k + 1 → iAt t k ≠ 58) : endP (t.take (endP t fl)) fl = endP t fl := by
  show trimP _ (stopP (t.take (endP t fl)) fl) = _
  rw [again_stop h]
  cases e : endP t fl with
  | zero => rfl
  | succ k =>
    rw [trimP, iAt_take (by omega), trim_not t _ k e]
    rfl
theorem again_key {t : List Int} {fl : Bool} (h : ∀ k, endP t fl = k + 1 → iAt t k ≠ 58) : keyP (t.take (endP t fl)) fl = -1 := by
  unfold keyP
  rw [again_stop h, if_neg]
  intro hh
  have := hh.1
  rw [List.length_take] at this
  omega
end Go.Proofs.Ytdpeiggppemmcaa
