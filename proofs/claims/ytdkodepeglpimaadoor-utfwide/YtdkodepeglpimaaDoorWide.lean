/- UtfWide's walk: all its variants together. -/
import Derived.Test.YtdkodepeglpimaaDoorWideTT
import Derived.Test.YtdkodepeglpimaaDoorWideTF
import Derived.Test.YtdkodepeglpimaaDoorWideFT
import Derived.Test.YtdkodepeglpimaaDoorWideFF
set_option linter.unusedVariables false
set_option linter.unusedSimpArgs false
namespace Go.Proofs.YtdkodepeglpimaaDoor
open Go.RowKit Go.Shelf

set_option maxRecDepth 100000 in
set_option maxHeartbeats 1000000 in
theorem wide_long (p : Option Addr) (n cap : Nat) (four great : Bool) (w : World) (hn : 300 < (n : Int)) (hT : Lib.Utf8Tabs 0 1 w) (h1 : 1 < w.heap.size) :
    Calls Tryd.prog 5 #[.slice p n cap, .bool four, .bool great] w fun e w' => e = .returned (.bool true) ∧ Below w.heap.size w w' := by
  have A := alive_any w hT h1
  clear hT
  go_enter Tryd.func5, Tryd.ntmps5
  go_wp2_with (go_at_call 8; refine A.mono ?_; rintro e w1 ⟨rfl, hb⟩)
  go_ret
  exact ⟨rfl, hb⟩

theorem wide_any (p : Option Addr) (l : List Int) (cap : Nat) (four great : Bool) (w : World) (h : Is w p l) (hpa : ∀ a, p = some a → 0 < l.length → a.block < w.heap.size) (hcap : cap ≤ maxLen) (hlc : l.length ≤ cap) (hT : Lib.Utf8Tabs 0 1 w) (h1 : 1 < w.heap.size) :
    Calls Tryd.prog 5 #[.slice p l.length cap, .bool four, .bool great] w fun e w' => e = .returned (.bool true) ∧ Below w.heap.size w w' := by
  by_cases hn : (l.length : Int) ≤ 300
  · cases four <;> cases great
    · exact wide_ff p l cap w hn h hpa hcap hlc hT h1
    · exact wide_ft p l cap w hn h hpa hcap hlc hT h1
    · exact wide_tf p l cap w hn h hpa hcap hlc hT h1
    · exact wide_tt p l cap w hn h hpa hcap hlc hT h1
  · exact wide_long p l.length cap four great w (by omega) hT h1
end Go.Proofs.YtdkodepeglpimaaDoor
