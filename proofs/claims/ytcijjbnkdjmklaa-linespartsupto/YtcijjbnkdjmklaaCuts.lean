/- In plain terms: where the lines of any code points begin and how long they are; what is wrong in the whole is wrong in a line. -/
import Derived.Test.YtcijjbnkdjmklaaLine
set_option linter.unusedVariables false
set_option linter.unusedSimpArgs false
namespace Go.Proofs.Ytcijjbnkdjmklaa
open Go.RowKit

theorem endSz_pos (l : List Int) : 1 ≤ endSz l ∧ endSz l ≤ 2 := by unfold endSz; split <;> omega
theorem endSz_le (l : List Int) (h : 0 < l.length) : endSz l ≤ l.length := by unfold endSz; split <;> omega

/-- Where lines begin from k on, and how long they are; f: no more than so many. -/
def cutsF (l : List Int) : Nat → Nat → List (Nat × Nat)
  | 0, _ => []
  | f + 1, k => if k < l.length then (k, upTo endP (l.drop k)) :: (if k + upTo endP (l.drop k) < l.length then cutsF l f (k + upTo endP (l.drop k) + endSz (l.drop (k + upTo endP (l.drop k)))) else []) else []
def cutsAt (l : List Int) (k : Nat) : List (Nat × Nat) := cutsF l (l.length - k) k
theorem cutsF_same (l : List Int) : ∀ f g k, l.length - k ≤ f → l.length - k ≤ g → cutsF l f k = cutsF l g k
  | 0, 0, _, _, _ => rfl
  | 0, g + 1, k, h, _ => by rw [cutsF, cutsF, if_neg (by omega)]
  | f + 1, 0, k, _, h => by rw [cutsF, cutsF, if_neg (by omega)]
  | f + 1, g + 1, k, h1, h2 => by
    have hz := endSz_pos (l.drop (k + upTo endP (l.drop k)))
    rw [cutsF, cutsF]
    by_cases hk : k < l.length
    · rw [if_pos hk, if_pos hk]
      by_cases hs : k + upTo endP (l.drop k) < l.length
      · rw [if_pos hs, if_pos hs, cutsF_same l f g _ (by omega) (by omega)]
      · rw [if_neg hs, if_neg hs]
    · rw [if_neg hk, if_neg hk]

theorem upTo_le (l : List Int) (k : Nat) : upTo endP (l.drop k) ≤ l.length - k := by
  have := run_le (fun c => !endP c) (l.drop k)
  rw [List.length_drop] at this
  exact this

theorem cuts_end {l : List Int} {k : Nat} (h : ¬ k < l.length) : cutsAt l k = [] := by
  unfold cutsAt
  rw [show l.length - k = 0 by omega, cutsF]
theorem cuts_last {l : List Int} {k : Nat} (h : k < l.length) (hs : ¬ k + upTo endP (l.drop k) < l.length) : cutsAt l k = [(k, l.length - k)] := by
  have := upTo_le l k
  unfold cutsAt
  obtain ⟨m, hm⟩ : ∃ m, l.length - k = m + 1 := ⟨l.length - k - 1, by omega⟩
  rw [hm, cutsF, if_pos h, if_neg hs, show upTo endP (l.drop k) = m + 1 by omega]
theorem cuts_more {l : List Int} {k s : Nat} (h : k < l.length) (e : upTo endP (l.drop k) = s) (hs : k + s < l.length) : cutsAt l k = (k, s) :: cutsAt l (k + s + endSz (l.drop (k + s))) := by
  have hz := endSz_pos (l.drop (k + s))
  unfold cutsAt
  obtain ⟨m, hm⟩ : ∃ m, l.length - k = m + 1 := ⟨l.length - k - 1, by omega⟩
  rw [hm, cutsF, if_pos h, e, if_pos hs, cutsF_same l m _ _ (by omega) (Nat.le_refl _)]

def pieceOf (l : List Int) (x : Nat × Nat) : List Int := (l.drop x.1).take x.2
def lineP (t : List Int) : Nat × List Int := (inP t, t.drop (inP t))
def linesP (l : List Int) : List (Nat × List Int) := (cutsAt l 0).map fun x => lineP (pieceOf l x)

theorem cuts_in (l : List Int) : ∀ n k, l.length - k ≤ n → ∀ x, x ∈ cutsAt l k → x.1 < l.length ∧ x.1 + x.2 ≤ l.length := by
  intro n
  induction n with
  | zero => intro k hk x hx; rw [cuts_end (by omega)] at hx; cases hx
  | succ n ih =>
    intro k hk x hx
    by_cases h : k < l.length
    · by_cases hs : k + upTo endP (l.drop k) < l.length
      · rw [cuts_more h rfl hs] at hx
        rcases List.mem_cons.1 hx with rfl | hx
        · exact ⟨h, by simp; omega⟩
        · exact ih _ (by have := endSz_pos (l.drop (k + upTo endP (l.drop k))); omega) x hx
      · rw [cuts_last h hs] at hx
        simp at hx
        subst hx
        exact ⟨h, by simp; omega⟩
    · rw [cuts_end h] at hx
      cases hx

theorem cuts_count (l : List Int) : ∀ n k, l.length - k ≤ n → (cutsAt l k).length ≤ l.length - k := by
  intro n
  induction n with
  | zero => intro k hk; rw [cuts_end (by omega)]; simp
  | succ n ih =>
    intro k hk
    by_cases h : k < l.length
    · by_cases hs : k + upTo endP (l.drop k) < l.length
      · rw [cuts_more h rfl hs]
        have h1 := endSz_pos (l.drop (k + upTo endP (l.drop k)))
        have := ih (k + upTo endP (l.drop k) + endSz (l.drop (k + upTo endP (l.drop k)))) (by omega)
        simp
        omega
      · rw [cuts_last h hs]; simp; omega
    · rw [cuts_end h]; simp

theorem bad_ends : badP 10 = false ∧ badP 13 = false := by decide

theorem any_split (p : Int → Bool) (m : List Int) (s : Nat) : m.any p = ((m.take s).any p || (m.drop s).any p) := by
  rw [← List.any_append, List.take_append_drop]

theorem bad_skip (m : List Int) (h : 0 < m.length) (he : endP (iAt m 0) = true) : m.any badP = (m.drop (endSz m)).any badP := by
  cases m with
  | nil => simp at h
  | cons x t =>
    have hx : badP x = false := by
      have : x = 10 ∨ x = 13 := by unfold endP at he; simpa [iAt] using he
      rcases this with rfl | rfl
      · exact bad_ends.1
      · exact bad_ends.2
    by_cases hc : 1 < (x :: t).length ∧ iAt (x :: t) 0 = 13 ∧ iAt (x :: t) 1 = 10
    · cases t with
      | nil => simp at hc
      | cons y u =>
        have hy : y = 10 := by have := hc.2.2; simpa [iAt] using this
        have : endSz (x :: y :: u) = 2 := by unfold endSz; rw [if_pos hc]
        rw [this]
        simp [hx, hy, bad_ends.1]
    · have : endSz (x :: t) = 1 := by unfold endSz; rw [if_neg hc]
      rw [this]
      simp [hx]

theorem bad_cuts (l : List Int) : ∀ n k, l.length - k ≤ n → (l.drop k).any badP = (cutsAt l k).any fun x => (pieceOf l x).any badP := by
  intro n
  induction n with
  | zero => intro k hk; rw [cuts_end (by omega), List.drop_eq_nil_of_le (by omega)]; simp
  | succ n ih =>
    intro k hk
    by_cases h : k < l.length
    · by_cases hs : k + upTo endP (l.drop k) < l.length
      · have h1 := endSz_pos (l.drop (k + upTo endP (l.drop k)))
        have hst := run_stop (fun c => !endP c) (l.drop k) (by rw [List.length_drop]; show upTo endP (l.drop k) < _; omega)
        have he : endP (iAt (l.drop (k + upTo endP (l.drop k))) 0) = true := by
          have : iAt (l.drop (k + upTo endP (l.drop k))) 0 = iAt (l.drop k) (upTo endP (l.drop k)) := by simp [iAt]
          rw [this]
          simpa [upTo] using hst
        rw [cuts_more h rfl hs, List.any_cons, ← ih _ (by omega), any_split badP (l.drop k) (upTo endP (l.drop k)), List.drop_drop,
          bad_skip (l.drop (k + upTo endP (l.drop k))) (by rw [List.length_drop]; omega) he, List.drop_drop]
        rfl
      · rw [cuts_last h hs]
        simp only [pieceOf, List.any_cons, List.any_nil, Bool.or_false]
        rw [List.take_of_length_le (by rw [List.length_drop]; omega)]
    · rw [cuts_end h, List.drop_eq_nil_of_le (by omega)]
      simp

theorem bad_whole (l : List Int) : l.any badP = (cutsAt l 0).any fun x => (pieceOf l x).any badP := by
  have := bad_cuts l l.length 0 (by omega)
  simpa using this
end Go.Proofs.Ytcijjbnkdjmklaa
