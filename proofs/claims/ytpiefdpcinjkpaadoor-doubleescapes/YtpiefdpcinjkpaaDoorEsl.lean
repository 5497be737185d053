/- DoubleEscapes, as it runs. -/
import Derived.Test.YtpiefdpcinjkpaaDoorEsaf
import Derived.Test.YtpiefdpcinjkpaaDoorEsat
import Derived.Test.YtpiefdpcinjkpaaDoorEsbf
import Derived.Test.YtpiefdpcinjkpaaDoorEsbt
import Derived.Test.YtpiefdpcinjkpaaDoorEscf
import Derived.Test.YtpiefdpcinjkpaaDoorEsct
set_option linter.unusedVariables false
set_option linter.unusedSimpArgs false
namespace Go.Proofs.YtpiefdpcinjkpaaDoor
open Go.RowKit Go.Shelf

set_option maxRecDepth 100000 in
set_option maxHeartbeats 2000000 in
theorem escapes_law (c wh : Int) (up : Bool) (w : World) (hT : Tab w) :
    Calls Tryd.prog 7 #[.int .i64 c, .int .i64 wh, .bool up] w fun e w' => e = .returned (.bool true) ∧ Below w.heap.size w w' := by
  by_cases h0 : wh < 0
  · have AL := alive_any w hT
    go_enter Tryd.func7, Tryd.ntmps7
    go_wp2_with (first | (go_at_call 9; refine AL.mono ?_; rintro e W1 ⟨rfl, hb⟩))
    go_ret
    exact ⟨rfl, hb.alloc hb.size _⟩
  by_cases h2 : 2 < wh
  · have AL := alive_any w hT
    go_enter Tryd.func7, Tryd.ntmps7
    go_wp2_with (first | (go_at_call 9; refine AL.mono ?_; rintro e W1 ⟨rfl, hb⟩))
    go_ret
    exact ⟨rfl, hb.alloc hb.size _⟩
  have h : wh = 0 ∨ wh = 1 ∨ wh = 2 := by omega
  rcases h with rfl | rfl | rfl
  · cases up
    · exact esc_law_0f c w hT
    · exact esc_law_0t c w hT
  · cases up
    · exact esc_law_1f c w hT
    · exact esc_law_1t c w hT
  · cases up
    · exact esc_law_2f c w hT
    · exact esc_law_2t c w hT
end Go.Proofs.YtpiefdpcinjkpaaDoor
