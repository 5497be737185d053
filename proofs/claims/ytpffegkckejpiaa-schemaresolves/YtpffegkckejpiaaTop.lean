/- digits.Add, digits.Less, digits.Times. -/
import Derived.Test.YtpffegkckejpiaaRead
import Derived.Test.YtpffegkckejpiaaWrit
set_option linter.unusedVariables false
set_option linter.unusedSimpArgs false
namespace Go.Proofs.Ytpffegkckejpiaa
open Go.RowKit Go.Shelf

theorem dec_of {l : List Nat} {n : Nat} (hd : Dg 10 l) (hc : Canon l) (hv : val 10 l = n) : textB l = decB n := by rw [← hv]; exact text_dec hd hc
theorem ret_str {a b : ByteArray} (h : a = b) : Ending.returned (.string a) = .returned (.string b) := by rw [h]

theorem dec_zero : decB 0 = ⟨#[48]⟩ := by unfold decB; rw [carP_zero]; rfl

end Go.Proofs.Ytpffegkckejpiaa
