/- FoldWords' walk: for every two lists of numbers. -/
import Derived.Test.YtjidbgdblgchlaaWdsB
set_option linter.unusedVariables false
set_option linter.unusedSimpArgs false
namespace Go.Proofs.Ytjidbgdblgchlaa
open Go.RowKit Go.Shelf

set_option maxRecDepth 100000 in
set_option maxHeartbeats 2000000 in
theorem words_out (n g : Nat) (qa qg : Option Addr) (ca cg : Nat) (b : Bool) (w : World) (hn : n ≤ maxLen) (hg : g ≤ maxLen) (h : (n : Int) < 1 ∨ (20 : Int) < n ∨ (g : Int) < n) :
    Calls Try.prog 7 #[.slice qa n ca, .slice qg g cg, .bool b] w fun e w' => e = .returned (.bool true) ∧ Below w.heap.size w w' := by
  have hn' : (n : Int) ≤ 9223372036854775807 := by unfold maxLen at hn; omega
  have hg' : (g : Int) ≤ 9223372036854775807 := by unfold maxLen at hg; omega
  by_cases h1 : (n : Int) < 1
  · go_enter Try.func7, Try.ntmps7
    go_wp2_with (first | (go_at_call 9; refine (alive_any _).mono ?_; rintro e W ⟨rfl, hB⟩))
    go_ret
    exact ⟨rfl, hB⟩
  · by_cases h2 : (20 : Int) < n
    · go_enter Try.func7, Try.ntmps7
      go_wp2_with (first | (go_at_call 9; refine (alive_any _).mono ?_; rintro e W ⟨rfl, hB⟩))
      go_ret
      exact ⟨rfl, hB⟩
    · have h3 : (g : Int) < n := by omega
      go_enter Try.func7, Try.ntmps7
      go_wp2_with (first | (go_at_call 9; refine (alive_any _).mono ?_; rintro e W ⟨rfl, hB⟩))
      go_ret
      exact ⟨rfl, hB⟩

theorem words_law (qa qg : Option Addr) (ws gs : List Int) (ca cg : Nat) (b : Bool) (w : World) (h1 : ws.length ≤ ca) (h2 : ca ≤ maxLen) (h3 : gs.length ≤ cg) (h4 : cg ≤ maxLen) (hIa : Is w qa ws) (hIg : Is w qg gs) :
    Calls Try.prog 7 #[.slice qa ws.length ca, .slice qg gs.length cg, .bool b] w fun e w' => e = .returned (.bool true) ∧ Below w.heap.size w w' := by
  by_cases h : (ws.length : Int) < 1 ∨ (20 : Int) < ws.length ∨ (gs.length : Int) < ws.length
  · exact words_out _ _ qa qg ca cg b w (by omega) (by omega) h
  · cases b with
    | false => exact words_plain _ _ qa qg ws gs ca cg w rfl rfl (by omega) (by omega) (by omega) (by omega) hIa hIg
    | true => exact words_blank _ _ qa qg ws gs ca cg w rfl rfl (by omega) (by omega) (by omega) (by omega) hIa hIg
end Go.Proofs.Ytjidbgdblgchlaa
