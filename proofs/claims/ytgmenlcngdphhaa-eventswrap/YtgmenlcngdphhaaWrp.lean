/- EventsWrap's walk, whatever the flag. -/
import Derived.Test.YtgmenlcngdphhaaWrf
import Derived.Test.YtgmenlcngdphhaaWrt
set_option linter.unusedVariables false
set_option linter.unusedSimpArgs false
namespace Go.Proofs.Ytgmenlcngdphhaa
open Go.RowKit Go.Shelf

theorem wrap_law (w : World) (q : Option Addr) (L : List Ev) (c : Nat) (hlm : L.length ≤ maxLen) (hcl : L.length ≤ c) (hcm : c ≤ maxLen) (hE : Es w q L) (f : Bool) :
    Calls Try.prog 5 #[.slice q L.length c, .bool f] w fun e w' => e = .returned (.bool true) ∧ Below w.heap.size w w' := by
  cases f with
  | false => exact wrap_false w q L c hlm hcl hcm hE
  | true => exact wrap_true w q L c hlm hcl hcm hE
end Go.Proofs.Ytgmenlcngdphhaa
