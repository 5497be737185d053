/- The call of function 81 at the example. -/
import Derived.Test.YteeanpfhngoobaaGreatZXad
set_option linter.all false
set_option maxRecDepth 100000
namespace Go.Proofs.YteeanpfhngoobaaGreat.Xk
open Go.RowKit

theorem leaf_reckoned : (match exC Tryz.prog noneK 81 leafA leafH with | some (u, g) => sameV u leafV && sameH g leafG | none => false) = true := by kernel_rfl
theorem leaf_ok : HC Tryz.prog (known 81 leafA leafH leafV leafG) := known_ok (exC_ok none_ok) leaf_reckoned
end Go.Proofs.YteeanpfhngoobaaGreat.Xk
