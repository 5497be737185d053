/- What is told of lines when one more stands behind them. -/
import Derived.Test.YtjidbgdblgchlaaBld
set_option linter.unusedVariables false
set_option linter.unusedSimpArgs false
namespace Go.Proofs.Ytjidbgdblgchlaa
open Go.RowKit Go.Shelf

theorem tAt_app {R S : List Row} {i : Nat} (h : i < R.length) : tAt (R ++ S) i = tAt R i := by unfold tAt; rw [List.getElem?_append_left h]
theorem tAt_new (R : List Row) (r : Row) : tAt (R ++ [r]) R.length = r.t := by unfold tAt; simp
theorem wJ_app (P : List Int → Bool) (R S : List Row) : ∀ k, k ≤ R.length → wJ P (R ++ S) k = wJ P R k
  | 0, _ => rfl
  | k + 1, hk => by
    have ih := wJ_app P R S k (by omega)
    have hlt := wJ_lt P R k
    have ht := tAt_app (R := R) (S := S) (i := k) (by omega)
    by_cases h : 0 < (tAt R k).length
    · rw [wJ_yes (by rw [ht]; exact h), wJ_yes h, ih, ht]
      have hs : sepW P (tAt (R ++ S)) (wJ P R k).2 k = sepW P (tAt R) (wJ P R k).2 k := by
        unfold sepW
        by_cases hb : (wJ P R k).2 < 0
        · rw [if_pos hb, if_pos hb]
        · rw [if_neg hb, if_neg hb, ht, tAt_app (by omega)]
      rw [hs]
    · rw [wJ_no (by rw [ht]; omega), wJ_no (by omega), ih]
/-- All that is told. -/
abbrev allJ (P : List Int → Bool) (R : List Row) : List Int × Int := wJ P R R.length
theorem allJ_no {P : List Int → Bool} {R : List Row} {r : Row} (h : r.t = []) : allJ P (R ++ [r]) = allJ P R := by
  unfold allJ
  rw [List.length_append, List.length_singleton, wJ_no (by rw [tAt_new, h]; rfl), wJ_app _ _ _ _ (Nat.le_refl _)]
theorem allJ_yes {P : List Int → Bool} {R : List Row} {r : Row} (h : 0 < r.t.length) : allJ P (R ++ [r]) = ((allJ P R).1 ++ sepW P (tAt (R ++ [r])) (allJ P R).2 R.length ++ r.t, (R.length : Int)) := by
  unfold allJ
  rw [List.length_append, List.length_singleton, wJ_yes (by rw [tAt_new]; exact h), wJ_app _ _ _ _ (Nat.le_refl _), tAt_new]
theorem allJ_lt (P : List Int → Bool) (R : List Row) : -1 ≤ (allJ P R).2 ∧ (allJ P R).2 < R.length := wJ_lt P R R.length

/-- Stripped, and clipped, where the last line is not empty. -/
theorem whole_last (P : List Int → Bool) {R : List Row} (h : 0 < (tAt R (R.length - 1)).length) : wholeT P R 1 = (allJ P R).1 ∧ wholeT P R 0 = (allJ P R).1 ++ [10] := by
  have hn : 0 < R.length := by
    by_cases h0 : 0 < R.length
    · exact h0
    · have e : R = [] := List.eq_nil_of_length_eq_zero (by omega)
      subst e
      simp [tAt] at h
  have hw : wN R R.length = R.length := by
    obtain ⟨m, hm⟩ : ∃ m, R.length = m + 1 := ⟨R.length - 1, by omega⟩
    rw [hm] at h ⊢
    rw [wN, if_neg (by rw [show m + 1 - 1 = m by omega] at h; omega)]
  rw [whole_chomp, whole_chomp, hw]
  constructor
  · rw [show chN R.length R.length 1 = 0 from by unfold chN; rw [if_neg (by decide), if_neg (by simp)]]
    simp
  · rw [show chN R.length R.length 0 = 1 from by unfold chN; rw [if_neg (by decide), if_pos ⟨hn, by decide⟩]]
    rfl
end Go.Proofs.Ytjidbgdblgchlaa
