/- In plain terms: how far steps go in a list. -/
import Derived.Test.YtjfeamfchgcblaaDoorKinds
set_option linter.unusedVariables false
set_option linter.unusedSimpArgs false
namespace Go.Proofs.YtjfeamfchgcblaaDoor
open Go.RowKit

def runF (n : Nat → Nat) : Nat → Nat → Nat
  | 0, k => k
  | f + 1, k => if n k = 0 then k else runF n f (k + n k)
/-- Where steps from k on end, in a list of L. -/
def runE (n : Nat → Nat) (L k : Nat) : Nat := runF n (L - k) k
/-- No step leads beyond L. -/
def Bd (n : Nat → Nat) (L : Nat) : Prop := ∀ k, n k = 0 ∨ k + n k ≤ L

theorem runF_more {n : Nat → Nat} {L : Nat} (hb : Bd n L) : ∀ f g k, L - k ≤ f → L - k ≤ g → runF n f k = runF n g k := by
  intro f
  induction f with
  | zero =>
    intro g k h1 h2
    have h0 : n k = 0 := by rcases hb k with h | h <;> omega
    cases g with
    | zero => rfl
    | succ g => rw [runF, runF, if_pos h0]
  | succ f ih =>
    intro g k h1 h2
    by_cases h0 : n k = 0
    · rw [runF, if_pos h0]
      cases g with
      | zero => rfl
      | succ g => rw [runF, if_pos h0]
    · have h3 : k + n k ≤ L := by rcases hb k with h | h <;> omega
      cases g with
      | zero => omega
      | succ g =>
        rw [runF, runF, if_neg h0, if_neg h0]
        exact ih g (k + n k) (by omega) (by omega)

theorem runE_step {n : Nat → Nat} {L k : Nat} (hb : Bd n L) (h : n k ≠ 0) : runE n L (k + n k) = runE n L k := by
  have h3 : k + n k ≤ L := by rcases hb k with h | h <;> omega
  unfold runE
  obtain ⟨m, hm⟩ : ∃ m, L - k = m + 1 := ⟨L - k - 1, by omega⟩
  rw [hm, runF, if_neg h]
  exact runF_more hb _ _ _ (Nat.le_refl _) (by omega)
theorem runE_stop {n : Nat → Nat} {L k : Nat} (h : n k = 0) : runE n L k = k := by
  unfold runE
  cases L - k with
  | zero => rfl
  | succ m => rw [runF, if_pos h]
theorem runF_ge (n : Nat → Nat) : ∀ f k, k ≤ runF n f k := by
  intro f
  induction f with
  | zero => intro k; exact Nat.le_refl _
  | succ f ih =>
    intro k
    rw [runF]
    split
    · exact Nat.le_refl _
    · exact Nat.le_trans (Nat.le_add_right _ _) (ih _)
theorem runE_ge (n : Nat → Nat) (L k : Nat) : k ≤ runE n L k := runF_ge n _ k
theorem runF_le {n : Nat → Nat} {L : Nat} (hb : Bd n L) : ∀ f k, k ≤ L → runF n f k ≤ L := by
  intro f
  induction f with
  | zero => intro k h; exact h
  | succ f ih =>
    intro k h
    rw [runF]
    split
    · exact h
    · refine ih _ ?_
      rcases hb k with h | h <;> omega
theorem runE_le {n : Nat → Nat} {L k : Nat} (hb : Bd n L) (h : k ≤ L) : runE n L k ≤ L := runF_le hb _ k h
theorem runF_zero {n : Nat → Nat} {L : Nat} (hb : Bd n L) : ∀ f k, L - k ≤ f → n (runF n f k) = 0 := by
  intro f
  induction f with
  | zero =>
    intro k h
    rw [runF]
    rcases hb k with h | h <;> omega
  | succ f ih =>
    intro k h
    rw [runF]
    by_cases h0 : n k = 0
    · rw [if_pos h0]; exact h0
    · rw [if_neg h0]
      exact ih _ (by omega)
theorem runE_zero {n : Nat → Nat} {L k : Nat} (hb : Bd n L) : n (runE n L k) = 0 := runF_zero hb _ k (Nat.le_refl _)
theorem runF_shift {n n' : Nat → Nat} {a : Nat} (h : ∀ j, n' j = n (a + j)) : ∀ f k, runF n f (a + k) = a + runF n' f k := by
  intro f
  induction f with
  | zero => intro k; rfl
  | succ f ih =>
    intro k
    rw [runF, runF, h k]
    split
    · rfl
    · rw [Nat.add_assoc]; exact ih _
theorem runE_shift {n n' : Nat → Nat} {a L k : Nat} (h : ∀ j, n' j = n (a + j)) : runE n L (a + k) = a + runE n' (L - a) k := by
  unfold runE
  rw [runF_shift h, Nat.sub_add_eq]

/-- One step for each that is so. -/
def st (P : Int → Bool) (t : List Int) (k : Nat) : Nat := if k < t.length ∧ P (iAt t k) = true then 1 else 0
theorem st_bd (P : Int → Bool) (t : List Int) : Bd (st P t) t.length := by
  intro k
  unfold st
  split <;> omega
theorem iAt_drop (t : List Int) (a j : Nat) : iAt (t.drop a) j = iAt t (a + j) := by simp [iAt]
theorem st_drop (P : Int → Bool) (t : List Int) (a j : Nat) : st P (t.drop a) j = st P t (a + j) := by
  unfold st
  rw [iAt_drop, List.length_drop]
  by_cases h : a + j < t.length
  · have h1 : j < t.length - a := by omega
    simp only [h, h1, true_and]
  · rw [if_neg (by omega), if_neg (by omega)]
/-- How many are so at the beginning. -/
def cnt (P : Int → Bool) (t : List Int) : Nat := runE (st P t) t.length 0
theorem cnt_drop (P : Int → Bool) (t : List Int) (a : Nat) : runE (st P t) t.length a = a + cnt P (t.drop a) := by
  unfold cnt
  rw [List.length_drop]
  exact runE_shift (k := 0) (st_drop P t a)
theorem cnt_le (P : Int → Bool) (t : List Int) : cnt P t ≤ t.length := runE_le (st_bd P t) (Nat.zero_le _)
theorem st_one {P : Int → Bool} {t : List Int} {k : Nat} (h : k < t.length) (hp : P (iAt t k) = true) : st P t k = 1 := if_pos ⟨h, hp⟩
theorem st_none {P : Int → Bool} {t : List Int} {k : Nat} (h : k < t.length → P (iAt t k) = false) : st P t k = 0 := if_neg (fun ⟨h1, h2⟩ => by rw [h h1] at h2; cases h2)
theorem cnt_nil (P : Int → Bool) : cnt P [] = 0 := rfl
theorem cnt_cons (P : Int → Bool) (c : Int) (t : List Int) : cnt P (c :: t) = if P c = true then cnt P t + 1 else 0 := by
  split
  · rename_i h
    have h1 : st P (c :: t) 0 = 1 := st_one (by simp) (by simpa [iAt] using h)
    have h2 := runE_step (L := (c :: t).length) (st_bd P (c :: t)) (k := 0) (by rw [h1]; omega)
    rw [h1] at h2
    unfold cnt
    rw [← h2]
    have := cnt_drop P (c :: t) 1
    rw [show (c :: t).drop 1 = t from rfl] at this
    rw [show 0 + 1 = 1 from rfl, this]
    unfold cnt
    omega
  · rename_i h
    exact runE_stop (st_none (fun _ => by simpa [iAt] using h))
theorem cnt_eq (P : Int → Bool) : ∀ t : List Int, cnt P t = (t.takeWhile P).length := by
  intro t
  induction t with
  | nil => rfl
  | cons c t ih =>
    rw [cnt_cons, ih, List.takeWhile_cons]
    split <;> simp
end Go.Proofs.YtjfeamfchgcblaaDoor
