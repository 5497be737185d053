/- plus: the sum of two lists. -/
import Derived.Test.YtpffegkckejpiaaTimes
set_option linter.unusedVariables false
set_option linter.unusedSimpArgs false
namespace Go.Proofs.Ytpffegkckejpiaa
open Go.RowKit

theorem add_step {i c k S : Nat} {out : List Nat} (h : val 10 out + 10 ^ i * c = S) (ho : out.length = i) : val 10 (out ++ [(c + k) % 10]) + 10 ^ (i + 1) * ((c + k) / 10) = S + 10 ^ i * k := by
  rw [val_snoc, ho, Nat.pow_succ]
  have h1 := Nat.mod_add_div (c + k) 10
  generalize (c + k) % 10 = r at *
  generalize (c + k) / 10 = q at *
  have e1 : 10 ^ i * r + 10 ^ i * 10 * q = 10 ^ i * c + 10 ^ i * k := by rw [← Nat.mul_add, ← h1, Nat.mul_add, Nat.mul_assoc]
  omega
theorem val_take_succ (b : Nat) {l : List Nat} {i : Nat} (h : i < l.length) : val b (l.take (i + 1)) = val b (l.take i) + b ^ i * nAt l i := by
  rw [take_snoc h, val_snoc, List.length_take, Nat.min_eq_left (by omega)]
theorem take_whole {l : List Nat} {i : Nat} (h : l.length ≤ i) : l.take i = l := List.take_of_length_le h

end Go.Proofs.Ytpffegkckejpiaa
