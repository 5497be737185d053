/- The document's own times and written. -/
import Derived.Test.YtkhkgoimcbnpaaaDoorTimes
import Derived.Test.YtkhkgoimcbnpaaaDoorText
set_option linter.unusedVariables false
set_option linter.unusedSimpArgs false
namespace Go.Proofs.YtkhkgoimcbnpaaaDoor
open Go.RowKit

/-- A list that is not empty, of decimal digits. -/
theorem own_one (w : World) (B : Nat) (hB : B ≤ w.heap.size) : Own .i64 3 B (w.alloc (.cells #[.int .i64 0] 3)) (.slice (some ⟨w.heap.size, 0, none⟩) 1 1) [0] :=
  World.ownsRow_lit w #[.int .i64 0] 1 hB (by unfold maxLen; omega) rfl

end Go.Proofs.YtkhkgoimcbnpaaaDoor
