/- The call of function 78 at the example. -/
import Derived.Test.YteeanpfhngoobaaGreatZXad
set_option linter.all false
set_option maxRecDepth 100000
namespace Go.Proofs.YteeanpfhngoobaaGreat.Xk
open Go.RowKit

theorem key_reckoned : (match exC Tryz.prog noneK 78 keyA keyH with | some (u, g) => sameV u keyV && sameH g keyG | none => false) = true := by kernel_rfl
theorem key_ok : HC Tryz.prog (known 78 keyA keyH keyV keyG) := known_ok (exC_ok none_ok) key_reckoned
end Go.Proofs.YteeanpfhngoobaaGreat.Xk
