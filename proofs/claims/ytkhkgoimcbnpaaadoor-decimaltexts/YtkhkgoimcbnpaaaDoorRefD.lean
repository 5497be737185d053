/- The document's AddDigits, LessDigits, TimesDigits, PlainDigits. -/
import Derived.Test.YtkhkgoimcbnpaaaDoorRefC
import Derived.Test.YtkhkgoimcbnpaaaDoorPlus
set_option linter.unusedVariables false
set_option linter.unusedSimpArgs false
namespace Go.Proofs.YtkhkgoimcbnpaaaDoor
open Go.RowKit

/-- The digits that are written of a number, the least first. -/
def dl (n : Nat) : List Nat := if n = 0 then [0] else carP 10 n
theorem dl_val (n : Nat) : val 10 (dl n) = n := by
  unfold dl
  split
  · rename_i h; rw [h]; rfl
  · exact carP_val (by decide) n
theorem dl_dg (n : Nat) : Dg 10 (dl n) := by
  unfold dl
  split
  · intro d h; simp at h; omega
  · exact carP_dg (by decide) n
theorem dec_list (n : Nat) : (decB n).data.toList = (dl n).reverse.map fun d => UInt8.ofNat (48 + d) := by
  unfold dl decB
  split
  · rename_i h; rw [h, carP_zero]; rfl
  · rename_i h
    unfold textB
    rw [if_neg (by rw [carP_pos (by decide) (by omega)]; simp)]
theorem dec_sz (n : Nat) : (decB n).size = (dl n).length := by
  have := congrArg List.length (dec_list n)
  simpa using this
theorem dl_short {m n : Nat} (h : (dl m).length < (dl n).length) : m < n := by
  have h1 := val_lt (b := 10) (by decide) (dl_dg m)
  rw [dl_val] at h1
  have hm : 1 ≤ (dl m).length := by
    unfold dl
    split
    · simp
    · rw [carP_pos (by decide) (by omega)]; simp
  have hn : n ≠ 0 := by
    rintro rfl
    rw [show dl 0 = [0] from rfl, List.length_singleton] at h
    omega
  have e : dl n = carP 10 n := by unfold dl; rw [if_neg hn]
  have h2 := canon_low (b := 10) (by decide) (canon_carP (b := 10) (by decide) n) (by rw [carP_pos (b := 10) (by decide) (by omega)]; simp)
  rw [carP_val (by decide), ← e] at h2
  have h3 : 10 ^ (dl m).length ≤ 10 ^ ((dl n).length - 1) := Nat.pow_le_pow_right (by decide) (by omega)
  omega
end Go.Proofs.YtkhkgoimcbnpaaaDoor
