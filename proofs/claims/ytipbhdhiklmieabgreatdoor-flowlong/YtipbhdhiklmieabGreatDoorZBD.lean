/- FlowProps' walk, each way. -/
import Derived.Test.YtipbhdhiklmieabGreatDoorZBC
import Derived.Test.YtipbhdhiklmieabGreatDoorCards
import Derived.Test.YtipbhdhiklmieabGreatDoorTie
import Derived.WalkKit
import Derived.ChangeOld
import Derived.Below
import Derived.Test.YtipbhdhiklmieabGreatDoorZAU
import Derived.ProofKit
import Derived.OpenShut
import Derived.Deep.DeepHandedRow
import Derived.Lib.LaidU8
import Derived.Lib.LaidIn
import Derived.LaidSub
set_option linter.unusedVariables false
set_option linter.unusedSimpArgs false
namespace Go.Proofs.YtipbhdhiklmieabGreatDoor
open Go.RowKit Go.Shelf
end Go.Proofs.YtipbhdhiklmieabGreatDoor
namespace Go.Proofs.YtipbhdhiklmieabGreatDoor
open P7 (sgn pnt shortsL Tab)
open Go.ChangeShapes Go.WideShapes Go.ChangeAt Go.RowKit Go.Shelf
theorem own : ownKnob Tryz.prog.godebug = none := by kernel_rfl
theorem laidOut : laidOutB Tryz.prog = true := by kernel_rfl
def lst : List (String × DataW Unit) := [("marginalia/double.shorts", Rows.laid_marginalia_double_shorts)]
theorem shorts_is : (Rows.laid_marginalia_double_shorts : DataW Unit) = .agg ((List.range 18).map fun i => .agg ([sgn i, pnt i].map fun z => .lit (.int .i64 z))) := by kernel_rfl
theorem cells242 : Tryz.prog.cellsOf 180 = 2 := by kernel_rfl
theorem cells3 : Tryz.prog.cellsOf 3 = 1 := by kernel_rfl
theorem tab_laid {W : World} (h : laidMet Tryz.prog lst W) : Tab W := by
 have h4 := Lib.laidMet.reads h (n := "marginalia/double.shorts") (.head _)
 rw [shorts_is] at h4
 intro i hi
 obtain ⟨g, t, cs, fuel, p, hg, hty, hvar, hd⟩ := h4
 obtain rfl := Option.some.inj ((show Tryz.prog.globalNamed "marginalia/double.shorts" = some 0 by kernel_rfl).symm.trans hg)
 obtain rfl := Option.some.inj ((show (Tryz.prog.globals[0]?).map (·.type) = some 181 by kernel_rfl).symm.trans hty)
 obtain ⟨fuel', d, q, hdi, he⟩ := Lib.array_elem Tryz.underlying181 hd i hi
 simp only [List.getElem?_map, List.getElem?_range hi, Option.map_some, Option.some.injEq] at hdi
 subst hdi
 rw [cells242] at he
 have hcs := Lib.ints_of_struct Tryz.underlying180 (fun j f hj => by
  match j, hj with
  | 0, hj => simp at hj; subst hj; exact ⟨Tryz.underlying3, rfl, cells3⟩
  | 1, hj => simp at hj; subst hj; exact ⟨Tryz.underlying3, rfl, cells3⟩
  | j + 2, hj => simp at hj) (by rw [cells242]; rfl) he
 have e0 := congrArg (·[0]?) hcs
 have e1 := congrArg (·[1]?) hcs
 simp only [List.getElem?_take, List.getElem?_drop] at e0 e1
 constructor
 ·rw [World.var?_cell hg hvar (2 * i), ← Array.getElem?_toList]
  simpa [Nat.mul_comm] using e0
 ·rw [World.var?_cell hg hvar (2 * i + 1), ← Array.getElem?_toList]
  simpa [Nat.mul_comm] using e1
def laidWorldOf (P : Program) (os : Os) : World :=
 let w0 := World.holding P os ⟨#[], #[], []⟩
 { w0 with heap := w0.heap.modify 0 fun
  | .cells _ t frozen => .cells (shortsL.flatMap fun x => [Value.int .i64 x.1, Value.int .i64 x.2]).toArray t frozen
  | o => o }
theorem laid_met (os : Os) (args : Array Value) : laidMet Tryz.prog lst ((laidWorldOf Tryz.prog os).forCall (fun _ _ => 0) ⟨#[], args, []⟩).memory :=
 (LaidIn.of_run [0] 8 (by kernel_rfl) (by kernel_rfl) (by kernel_rfl) (by kernel_rfl)).met
end Go.Proofs.YtipbhdhiklmieabGreatDoor
