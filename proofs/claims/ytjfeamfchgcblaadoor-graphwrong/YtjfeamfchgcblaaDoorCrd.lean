/- What all cards of this seat share: the two tables of unicode/utf8 as they are laid, and a world for the witness. -/
import Derived.Test.YtjfeamfchgcblaaDoorCards
import Derived.Test.YtjfeamfchgcblaaDoorTie
import Derived.Test.YtjfeamfchgcblaaDoorVld
import Derived.Test.YtjfeamfchgcblaaDoorOpg
import Derived.WalkKit
import Derived.ProofKit
import Derived.OpenShut
import Derived.Deep.DeepHandedRow
import Derived.Lib.LaidTab
import Derived.Lib.LaidU8T
import Derived.Lib.LaidIn
import Derived.LaidSub
set_option linter.all false
namespace Go.Proofs.YtjfeamfchgcblaaDoor
open Go.ChangeShapes Go.WideShapes Go.ChangeAt Go.RowKit Go.Shelf

theorem own : ownKnob Tryd.prog.godebug = none := by kernel_rfl
theorem laidOut : laidOutB Tryd.prog = true := by kernel_rfl
def lst : List (String × DataW Unit) := [("unicode/utf8.acceptRanges", Rows.laid_unicode_utf8_acceptRanges), ("unicode/utf8.first", Rows.laid_unicode_utf8_first)]
theorem first_is : Rows.laid_unicode_utf8_first = Lib.firstData := by kernel_rfl
theorem accept_is : (Rows.laid_unicode_utf8_acceptRanges : DataW Unit) = Lib.acceptData := by kernel_rfl
theorem u8Types : U8Types Tryd.prog vldRen := U8Types.of196 vldLays
theorem u8Extra : U8Extra Tryd.prog vldRen := { n3 := by kernel_rfl, n4 := by kernel_rfl, y3 := by kernel_rfl, y4 := by kernel_rfl, c5 := by kernel_rfl, c119 := by kernel_rfl, c138 := by kernel_rfl }
theorem tabs_laid {W : World} (h : laidMet Tryd.prog lst W) : Tabs W := by
  have h4 := Lib.laidMet.reads h (n := "unicode/utf8.acceptRanges") (.head _)
  have h3 := Lib.laidMet.reads h (n := "unicode/utf8.first") (.tail _ (.head _))
  rw [first_is] at h3
  rw [accept_is] at h4
  exact utf8Tabs_of_readsT u8Types u8Extra h3 h4
/-- A WORLD FOR THE WITNESS: the settled one, the two tables holding what is laid. -/
def laidWorldOf (P : Program) (os : Os) : World :=
  let w0 := World.holding P os ⟨#[], #[], []⟩
  let put (h : Array Obj) (g : Nat) (cs : Array Value) : Array Obj := h.modify g fun
    | .cells _ t frozen => .cells cs t frozen
    | o => o
  let h1 := put w0.heap 0 (Lib.firstTab.map fun z => Value.int .u8 z).toArray
  let h2 := put h1 1 ((List.range 16).flatMap fun i => [Value.int .u8 (Lib.accLo i), Value.int .u8 (Lib.accHi i)]).toArray
  { w0 with heap := h2 }
theorem laid_in (os : Os) (args : Array Value) : LaidIn Tryd.prog ((laidWorldOf Tryd.prog os).forCall (fun _ _ => 0) ⟨#[], args, []⟩).memory [("unicode/utf8.acceptRanges", Lib.acceptData), ("unicode/utf8.first", Lib.firstData)] [1, 0] :=
  LaidIn.of_run [1, 0] 8 (by kernel_rfl) (by kernel_rfl) (by kernel_rfl) (by kernel_rfl)
theorem laid_met (os : Os) (args : Array Value) : laidMet Tryd.prog lst ((laidWorldOf Tryd.prog os).forCall (fun _ _ => 0) ⟨#[], args, []⟩).memory := by
  unfold lst
  rw [first_is, accept_is]
  exact (laid_in os args).met
end Go.Proofs.YtjfeamfchgcblaaDoor
