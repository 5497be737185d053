/- FlowProps' walk, each way. -/
import Derived.Test.YtipbhdhiklmieabGreatDoorPwa
import Derived.Test.YtipbhdhiklmieabGreatDoorPwb
import Derived.Test.YtipbhdhiklmieabGreatDoorPwc
import Derived.Test.YtipbhdhiklmieabGreatDoorCards
import Derived.Test.YtipbhdhiklmieabGreatDoorTie
import Derived.WalkKit
import Derived.ChangeOld
import Derived.Below
import Derived.Test.YtipbhdhiklmieabGreatDoorZAU
import Derived.ProofKit
import Derived.OpenShut
import Derived.Deep.DeepHandedRow
import Derived.Lib.LaidU8
import Derived.Lib.LaidIn
import Derived.LaidSub
set_option linter.unusedVariables false
set_option linter.unusedSimpArgs false
namespace Go.Proofs.YtipbhdhiklmieabGreatDoor
open Go.RowKit Go.Shelf
set_option maxRecDepth 100000 in
set_option maxHeartbeats 4000000 in
theorem props_out (a b : Int) (first both : Bool) (w : World) (h : ¬ (0 ≤ a ∧ a < 7 ∧ 0 ≤ b ∧ b < 4)) (hT : P7.Tab w) : Calls Tryz.prog 4 #[.int .i64 a, .int .i64 b, .bool first, .bool both] w fun e w' => e = .returned (.bool true) ∧ Below w.heap.size w w' := by
 have AL := alive_any w hT
 clear hT
 have hc : a < 0 ∨ (¬ a < 0 ∧ 7 ≤ a) ∨ (¬ a < 0 ∧ ¬ 7 ≤ a ∧ b < 0) ∨ (¬ a < 0 ∧ ¬ 7 ≤ a ∧ ¬ b < 0 ∧ 4 ≤ b) := by omega
 clear h
 rcases hc with h0 | ⟨h0, h1⟩ | ⟨h0, h1, h2⟩ | ⟨h0, h1, h2, h3⟩
 all_goals
  go_enter Tryz.func4, Tryz.ntmps4
  go_wp2_with fail
  refine AL.mono ?_
  clear AL
  rintro e w1 ⟨rfl, hB1⟩
  have hz : w.heap.size ≤ w1.heap.size := hB1.size
  go_wp2
  go_ret
  exact ⟨rfl, (hB1.alloc hz _).alloc (by simp; omega) _⟩
theorem FlowProps_any (a b : Int) (first both : Bool) (w : World) (hT : P7.Tab w) : Calls Tryz.prog 4 #[.int .i64 a, .int .i64 b, .bool first, .bool both] w fun e w' => e = .returned (.bool true) ∧ Below w.heap.size w w' := by
 by_cases h : 0 ≤ a ∧ a < 7 ∧ 0 ≤ b ∧ b < 4
 ·obtain ⟨i, rfl⟩ := Int.eq_ofNat_of_zero_le h.1
  obtain ⟨j, rfl⟩ := Int.eq_ofNat_of_zero_le h.2.2.1
  cases first <;> cases both
  ·exact props_xf false i j w (by omega) (by omega) hT
  ·exact props_ft i j w (by omega) (by omega) hT
  ·exact props_xf true i j w (by omega) (by omega) hT
  ·exact props_tt i j w (by omega) (by omega) hT
 ·exact props_out a b first both w h hT
end Go.Proofs.YtipbhdhiklmieabGreatDoor
namespace Go.Proofs.YtipbhdhiklmieabGreatDoor
open Go.Proofs.YtipbhdhiklmieabGreatDoor.P7 (sgn pnt shortsL Tab)
open Go.ChangeShapes Go.WideShapes Go.ChangeAt Go.RowKit Go.Shelf
theorem own : ownKnob Tryz.prog.godebug = none := by kernel_rfl
theorem laidOut : laidOutB Tryz.prog = true := by kernel_rfl
def lst : List (String × DataW Unit) := [("marginalia/double.shorts", Rows.laid_marginalia_double_shorts)]
theorem shorts_is : (Rows.laid_marginalia_double_shorts : DataW Unit) = .agg ((List.range 18).map fun i => .agg ([sgn i, pnt i].map fun z => .lit (.int .i64 z))) := by kernel_rfl
theorem cells242 : Tryz.prog.cellsOf 180 = 2 := by kernel_rfl
theorem cells3 : Tryz.prog.cellsOf 3 = 1 := by kernel_rfl
theorem tab_laid {W : World} (h : laidMet Tryz.prog lst W) : Tab W := by
 have h4 := Lib.laidMet.reads h (n := "marginalia/double.shorts") (.head _)
 rw [shorts_is] at h4
 intro i hi
 obtain ⟨g, t, cs, fuel, p, hg, hty, hvar, hd⟩ := h4
 obtain rfl := Option.some.inj ((show Tryz.prog.globalNamed "marginalia/double.shorts" = some 0 by kernel_rfl).symm.trans hg)
 obtain rfl := Option.some.inj ((show (Tryz.prog.globals[0]?).map (·.type) = some 181 by kernel_rfl).symm.trans hty)
 obtain ⟨fuel', d, q, hdi, he⟩ := Lib.array_elem Tryz.underlying181 hd i hi
 simp only [List.getElem?_map, List.getElem?_range hi, Option.map_some, Option.some.injEq] at hdi
 subst hdi
 rw [cells242] at he
 have hcs := Lib.ints_of_struct Tryz.underlying180 (fun j f hj => by
  match j, hj with
  | 0, hj => simp at hj; subst hj; exact ⟨Tryz.underlying3, rfl, cells3⟩
  | 1, hj => simp at hj; subst hj; exact ⟨Tryz.underlying3, rfl, cells3⟩
  | j + 2, hj => simp at hj) (by rw [cells242]; rfl) he
 have e0 := congrArg (·[0]?) hcs
 have e1 := congrArg (·[1]?) hcs
 simp only [List.getElem?_take, List.getElem?_drop] at e0 e1
 constructor
 ·rw [World.var?_cell hg hvar (2 * i), ← Array.getElem?_toList]
  simpa [Nat.mul_comm] using e0
 ·rw [World.var?_cell hg hvar (2 * i + 1), ← Array.getElem?_toList]
  simpa [Nat.mul_comm] using e1
def laidWorldOf (P : Program) (os : Os) : World :=
 let w0 := World.holding P os ⟨#[], #[], []⟩
 { w0 with heap := w0.heap.modify 0 fun
  | .cells _ t frozen => .cells (shortsL.flatMap fun x => [Value.int .i64 x.1, Value.int .i64 x.2]).toArray t frozen
  | o => o }
theorem laid_met (os : Os) (args : Array Value) : laidMet Tryz.prog lst ((laidWorldOf Tryz.prog os).forCall (fun _ _ => 0) ⟨#[], args, []⟩).memory :=
 (LaidIn.of_run [0] 8 (by kernel_rfl) (by kernel_rfl) (by kernel_rfl) (by kernel_rfl)).met
end Go.Proofs.YtipbhdhiklmieabGreatDoor
