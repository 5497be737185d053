/- The document's own FoldFlow: the same text. -/
import Derived.Test.YtgmcomfeggidnaaRefA
set_option linter.unusedVariables false
set_option linter.unusedSimpArgs false
namespace Go.Proofs.Ytgmcomfeggidnaa
open Go.RowKit Go.Shelf

def sepR (k e : Nat) : List Int := if 0 < k ∧ e = 0 then [32] else List.replicate e 10
/-- Behind the first k lines: the text, and how many empty ones stand last. -/
def flS (R : List Row) : Nat → List Int × Nat
  | 0 => ([], 0)
  | k + 1 => if tellF R k then ((flS R k).1 ++ sepR k (flS R k).2 ++ trimG R k, 0) else ((flS R k).1, (flS R k).2 + 1)

theorem flS_join (R : List Row) : ∀ k, (joinT sepFl (trimG R) (told (tellF R) k)).1 = (flS R k).1 ∧ (joinT sepFl (trimG R) (told (tellF R) k)).2 = (k : Int) - 1 - (flS R k).2 ∧ (flS R k).2 + (if k = 0 then 0 else 1) ≤ k
  | 0 => ⟨rfl, rfl, by simp [flS]⟩
  | k + 1 => by
    obtain ⟨h1, h2, h3⟩ := flS_join R k
    cases ht : tellF R k with
    | true =>
      rw [told_yes ht, joinT_snoc, h1, h2]
      rw [show flS R (k + 1) = ((flS R k).1 ++ sepR k (flS R k).2 ++ trimG R k, 0) from by rw [flS, ht]; rfl]
      refine ⟨?_, by dsimp only; omega, by simp⟩
      dsimp only
      have hs : sepFl ((k : Int) - 1 - (flS R k).2) k = sepR k (flS R k).2 := by
        generalize (flS R k).2 = e at h3
        unfold sepFl sepR sepI
        by_cases hk : k = 0
        · subst hk
          simp at h3
          subst h3
          rfl
        · rw [if_neg hk] at h3
          rw [if_neg (by omega), show (k : Int) - ((k : Int) - 1 - e) - 1 = e by omega]
          by_cases he : e = 0
          · subst he; rw [if_pos (by rfl), if_pos ⟨by omega, rfl⟩]
          · rw [if_neg (by omega), if_neg (by omega), Int.toNat_natCast]
      rw [hs]
    | false =>
      have hk : k ≠ 0 := by rintro rfl; simp [tellF] at ht
      rw [told_no ht, h1, h2]
      rw [show flS R (k + 1) = ((flS R k).1, (flS R k).2 + 1) from by rw [flS, ht]; rfl]
      rw [if_neg hk] at h3
      refine ⟨rfl, by dsimp only; omega, ?_⟩
      dsimp only
      rw [if_neg (by omega)]
      omega

theorem flowT_flS (R : List Row) : flowT R = (flS R R.length).1 := (flS_join R R.length).1
theorem flS_len (R : List Row) (hS : Sized R) (k : Nat) (hk : k ≤ R.length) : (flS R k).1.length ≤ 2199025352704 := by
  rw [← (flS_join R k).1]
  have h1 := joinT_len sepFl (trimG R) 1048576 R.length (fun i => Nat.le_trans (trimF_le _ _ _) (hS.2 i)) (fun b i hb hi => sepFl_len _ b i hb hi) (told (tellF R) k) (fun i hi => by
    unfold told at hi
    have := List.mem_range.1 (List.mem_filter.1 hi).1
    omega)
  have h2 := told_len (tellF R) k
  have h3 := hS.1
  have : (told (tellF R) k).length * (1048576 + R.length + 1) ≤ 1048576 * 2097153 := Nat.mul_le_mul (by omega) (by omega)
  omega

end Go.Proofs.Ytgmcomfeggidnaa
