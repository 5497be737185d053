/- props.count with each kind that it is called with; the text of code points. -/
import Derived.Test.YtjfeamfchgcblaaDoorSml
import Derived.Test.YtjfeamfchgcblaaDoorByt
set_option linter.unusedVariables false
set_option linter.unusedSimpArgs false
namespace Go.Proofs.YtjfeamfchgcblaaDoor
open Go.RowKit Go.Shelf

theorem cnt_of {P : Int → Bool} {t : List Int} {k : Nat} (h : k = t.length ∨ (k < t.length ∧ P (iAt t k) = false)) (hr : runE (st P t) t.length k = cnt P t) : k = cnt P t := by
  rw [← hr, runE_stop]
  rcases h with rfl | ⟨h1, h2⟩
  · exact st_none (fun h => by omega)
  · exact st_none (fun _ => h2)
theorem cnt_next {P : Int → Bool} {t : List Int} {k : Nat} (h1 : k < t.length) (h2 : P (iAt t k) = true) (hr : runE (st P t) t.length k = cnt P t) : runE (st P t) t.length (k + 1) = cnt P t := by
  have h3 := st_one h1 h2
  have := runE_step (L := t.length) (st_bd P t) (k := k) (by rw [h3]; omega)
  rw [h3] at this
  rw [this, hr]

end Go.Proofs.YtjfeamfchgcblaaDoor
