/- The document's Digits: a number as Go prints it. -/
import Derived.Test.YtkhkgoimcbnpaaaDoorLeaf
import Derived.Laws.Concat
set_option linter.unusedVariables false
set_option linter.unusedSimpArgs false
namespace Go.Proofs.YtkhkgoimcbnpaaaDoor
open Go.RowKit

theorem dec_small {n : Nat} (h : n ≤ 9) : decB n = ⟨#[UInt8.ofNat (48 + n)]⟩ := by
  by_cases h0 : n = 0
  · subst h0; unfold decB; rw [carP_zero]; rfl
  · unfold decB
    rw [carP_pos (by decide) (by omega), Nat.div_eq_of_lt (by omega), carP_zero, Nat.mod_eq_of_lt (by omega)]
    simp [textB]
theorem dec_more {n : Nat} (h : 9 < n) : decB n = decB (n / 10) ++ ⟨#[UInt8.ofNat (48 + n % 10)]⟩ := by
  unfold decB
  rw [carP_pos (by decide) (show 0 < n by omega)]
  have hne : carP 10 (n / 10) ≠ [] := by rw [carP_pos (by decide) (by omega)]; simp
  unfold textB
  rw [if_neg hne, if_neg (by simp)]
  apply ByteArray.ext
  simp
theorem dec_size (n : Nat) (h : n < 18446744073709551616) : (decB n).size ≤ 64 := by
  have := carP_len (b := 10) (by decide) 64 n h
  unfold decB textB
  split
  · decide
  · simpa [ByteArray.size] using this

theorem one_digit (d : Nat) (h : d < 10) : (⟨#[48, 49, 50, 51, 52, 53, 54, 55, 56, 57]⟩ : ByteArray).extract d (d + 1) = ⟨#[UInt8.ofNat (48 + d)]⟩ := by
  have hd : d = 0 ∨ d = 1 ∨ d = 2 ∨ d = 3 ∨ d = 4 ∨ d = 5 ∨ d = 6 ∨ d = 7 ∨ d = 8 ∨ d = 9 := by omega
  rcases hd with rfl | rfl | rfl | rfl | rfl | rfl | rfl | rfl | rfl | rfl <;> rfl

set_option maxRecDepth 100000 in
set_option maxHeartbeats 1000000 in
theorem digits_any (n : Nat) (w : World) (hn : (n : Int) ≤ 9223372036854775807) :
    Calls Tryd.prog 21 #[.int .i64 n] w fun e w' => e = .returned (.string (decB n)) ∧ w' = w := by
  induction n using Nat.strongRecOn with
  | ind n ih =>
    have hx : ((n % 10 : Nat) : Int) = (n : Int) % 10 := by omega
    have S := one_digit (n % 10) (by omega)
    have ho : (⟨#[UInt8.ofNat (48 + n % 10)]⟩ : ByteArray).size = 1 := rfl
    by_cases h9 : (9 : Int) < n
    · have R := ih (n / 10) (by omega) (by omega)
      have hq : ((n / 10 : Nat) : Int) = (n : Int) / 10 := by omega
      rw [hq] at R
      have hs := dec_size (n / 10) (by omega)
      have A := run_string_add_sum (P := Tryd.prog) w (decB (n / 10)) ⟨#[UInt8.ofNat (48 + n % 10)]⟩ (by omega)
      rw [← dec_more (by omega)] at A
      generalize UInt8.ofNat (48 + n % 10) = x at S A
      clear ih hx hq ho
      go_enter Tryd.func21, Tryd.ntmps21
      go_wp2_with (first | (go_at_call 21; refine R.mono ?_; rintro e w ⟨rfl, rfl⟩))
      go_ret
      exact ⟨rfl, rfl⟩
    · have hd := dec_small (n := n) (by omega)
      have hm : n % 10 = n := by omega
      rw [hm, ← hd] at S
      have hm' : (n : Int) % 10 = n := by omega
      clear ih hx hd hm ho
      go_enter Tryd.func21, Tryd.ntmps21
      go_wp2
      go_ret
      exact ⟨rfl, rfl⟩
end Go.Proofs.YtkhkgoimcbnpaaaDoor
