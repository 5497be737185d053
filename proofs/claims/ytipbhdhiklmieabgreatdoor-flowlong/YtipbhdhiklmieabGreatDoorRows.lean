/-
  NARROWER THAN 'FOR EVERY INPUT', by the rows' own cells (each row's printed sentence says how): FlowPairs: laid · FlowProps: laid · FlowLong: laid.
  DERIVED. THE GIVEN ROWS OF THIS SEAT. 3 by the template 'for every input the law returns true; each argument reads behind the call as it read before'; 0 by the template 'total and deterministic' (their statements: YtipbhdhiklmieabGreatDoorTotals.lean).
  GIVEN WITH THE SEED: the statements are not yours to turn. If you find one false, say at which input.
  Laid BY PROGRAM, IN A SANDBOX (cutbox-rows.mjs): the forced cells as the released guide's own fill.sh prints them over the translation f730346d34e198d9… (all of the seat's roots in one cut). By AI agents, Wed Nov 11 2026. No macro, syntax, notation, axiom, sorry.
-/
import Derived.Test.YtipbhdhiklmieabGreatDoorChecked
import GoSem.Claim
import GoSem.ClaimJoined
import GoSem.ClaimMapViews
import Derived.JoinedTies
import Derived.KernelRfl
namespace Go.Proofs.YtipbhdhiklmieabGreatDoor
/- THE CELL 'sum', in the pinned program and in every row, IS THE sha256 OF THE DUMP (.gsa) THAT YtipbhdhiklmieabGreatDoorProg.lean LOADS. Nothing in Lean hashes anything: it is a label: what it is worth is what the hold of that sum in a sandbox is worth. -/
noncomputable def Tryz.pinned : Pinned := { name := "ytipbhdhiklmieabgreatdoor", sum := "f730346d34e198d9fb904d84a13e9d89f82dcca3a64d8cf1d24db62fc4411c4a", checked := Tryz.checked }
namespace Rows
def none {H : Type} : Left H := { results := [], args := [] }

/- WHAT THE LISTED PACKAGE-LEVEL VARIABLES READ AS WHEN THE CALL BEGINS. Each datum BY PROGRAM (the guide's laid-datum.mjs) off the statement by which the dump's own 'gosem.cut.vars' lays the variable. In a bare row this is a premise. The card (YtipbhdhiklmieabGreatDoorCards.lean) ties it to the program's text. -/
def laid_marginalia_double_shorts {H : Type} : DataW H := .agg [.agg [.lit (.int .i64 48), .lit (.int .i64 0)], .agg [.lit (.int .i64 97), .lit (.int .i64 7)], .agg [.lit (.int .i64 98), .lit (.int .i64 8)], .agg [.lit (.int .i64 116), .lit (.int .i64 9)], .agg [.lit (.int .i64 9), .lit (.int .i64 9)], .agg [.lit (.int .i64 110), .lit (.int .i64 10)], .agg [.lit (.int .i64 118), .lit (.int .i64 11)], .agg [.lit (.int .i64 102), .lit (.int .i64 12)], .agg [.lit (.int .i64 114), .lit (.int .i64 13)], .agg [.lit (.int .i64 101), .lit (.int .i64 27)], .agg [.lit (.int .i64 32), .lit (.int .i64 32)], .agg [.lit (.int .i64 34), .lit (.int .i64 34)], .agg [.lit (.int .i64 47), .lit (.int .i64 47)], .agg [.lit (.int .i64 92), .lit (.int .i64 92)], .agg [.lit (.int .i64 78), .lit (.int .i64 133)], .agg [.lit (.int .i64 95), .lit (.int .i64 160)], .agg [.lit (.int .i64 76), .lit (.int .i64 8232)], .agg [.lit (.int .i64 80), .lit (.int .i64 8233)]]

/-- 'marginalialaw13.FlowPairs': WHATEVER THE INPUT: true; the input reads as it did. -/
def flowPairsSpec : ChangeSpec := { name := "flowPairs", fn := fun _ => fun
  | [d] => { results := [.lit (.bool true)], args := [d] }
  | _ => none }
def flowPairsRow : OpenClaim := { program := "ytipbhdhiklmieabgreatdoor", sum := "f730346d34e198d9fb904d84a13e9d89f82dcca3a64d8cf1d24db62fc4411c4a", func := "marginalia/marginalialaw13.FlowPairs", spec := "flowPairs", unfollowed := true, recurses := true, named := ["marginalia/double.shorts"], apart := false, laid := [("marginalia/double.shorts", laid_marginalia_double_shorts)] }
def FlowPairsSaid : Prop := flowPairsRow.holds Tryz.pinned (OpenSpec.ofChange flowPairsSpec)

/-- ITS FALSE NEIGHBOUR: 'it returns false'. Refute it at one input. -/
def flowPairsWrong : ChangeSpec := { name := "flowPairs", fn := fun _ => fun
  | [d] => { results := [.lit (.bool false)], args := [d] }
  | _ => none }
def FlowPairsWrongFalsely : Prop := flowPairsRow.holds Tryz.pinned (OpenSpec.ofChange flowPairsWrong)

/-- 'marginalialaw13.FlowProps': WHATEVER THE INPUT: true; the input reads as it did. -/
def flowPropsSpec : ChangeSpec := { name := "flowProps", fn := fun _ => fun
  | [d1, d2, d3, d4] => { results := [.lit (.bool true)], args := [d1, d2, d3, d4] }
  | _ => none }
def flowPropsRow : OpenClaim := { program := "ytipbhdhiklmieabgreatdoor", sum := "f730346d34e198d9fb904d84a13e9d89f82dcca3a64d8cf1d24db62fc4411c4a", func := "marginalia/marginalialaw13.FlowProps", spec := "flowProps", unfollowed := true, recurses := true, named := ["marginalia/double.shorts"], apart := false, laid := [("marginalia/double.shorts", laid_marginalia_double_shorts)] }
def FlowPropsSaid : Prop := flowPropsRow.holds Tryz.pinned (OpenSpec.ofChange flowPropsSpec)

/-- ITS FALSE NEIGHBOUR: 'it returns false'. Refute it at one input. -/
def flowPropsWrong : ChangeSpec := { name := "flowProps", fn := fun _ => fun
  | [d1, d2, d3, d4] => { results := [.lit (.bool false)], args := [d1, d2, d3, d4] }
  | _ => none }
def FlowPropsWrongFalsely : Prop := flowPropsRow.holds Tryz.pinned (OpenSpec.ofChange flowPropsWrong)

/-- 'marginalialaw13.FlowLong': WHATEVER THE INPUT: true; the input reads as it did. -/
def flowLongSpec : ChangeSpec := { name := "flowLong", fn := fun _ => fun
  | [d] => { results := [.lit (.bool true)], args := [d] }
  | _ => none }
def flowLongRow : OpenClaim := { program := "ytipbhdhiklmieabgreatdoor", sum := "f730346d34e198d9fb904d84a13e9d89f82dcca3a64d8cf1d24db62fc4411c4a", func := "marginalia/marginalialaw13.FlowLong", spec := "flowLong", unfollowed := true, recurses := true, named := ["marginalia/double.shorts"], apart := false, laid := [("marginalia/double.shorts", laid_marginalia_double_shorts)] }
def FlowLongSaid : Prop := flowLongRow.holds Tryz.pinned (OpenSpec.ofChange flowLongSpec)

/-- ITS FALSE NEIGHBOUR: 'it returns false'. Refute it at one input. -/
def flowLongWrong : ChangeSpec := { name := "flowLong", fn := fun _ => fun
  | [d] => { results := [.lit (.bool false)], args := [d] }
  | _ => none }
def FlowLongWrongFalsely : Prop := flowLongRow.holds Tryz.pinned (OpenSpec.ofChange flowLongWrong)

/- THE SECOND FORM. 'bulk': how many values and letters a reading holds, each counted each time it is reached (what is shared counts as often as it is met; a slice's spare places count too). A statement '..UptoSaid' is the law's where the arguments, and the package variables that the reading takes, are together of bulk at most 1048576: NARROWER than '..Said'. Prove '..Said' where nothing that the law and all that it calls make is longer than what came in: it says more and counts as full. Else prove '..UptoSaid'. A law counts once. -/
mutual
def uptoBulk {H : Type} : DataW H → Nat
  | .lit (.string bytes) => bytes.length + 1
  | .lit _ => 1
  | .nil => 1
  | .ptr d => uptoBulk d + 1
  | .slice elems spare => uptoBulkAll elems + uptoBulkAll spare + 1
  | .agg parts => uptoBulkAll parts + 1
  | .iface _ d => uptoBulk d + 1
  | .map entries => uptoBulkEntries entries + 1
  | .held _ => 1
def uptoBulkAll {H : Type} : List (DataW H) → Nat
  | [] => 0
  | d :: r => uptoBulk d + uptoBulkAll r
def uptoBulkEntries {H : Type} : List (Lit × DataW H) → Nat
  | [] => 0
  | x :: r => uptoBulkEntry x + uptoBulkEntries r
def uptoBulkEntry {H : Type} : Lit × DataW H → Nat
  | (.string bytes, d) => bytes.length + uptoBulk d + 1
  | (_, d) => uptoBulk d + 1
 end
def uptoSmall : (H : Type) → List (DataW H) → Bool := fun _ ds => decide (uptoBulkAll ds ≤ 1048576)
def OpenSpec.upto (s : _root_.Go.ChangeSpec) : _root_.Go.OpenSpec := { _root_.Go.OpenSpec.ofChange s with cond := some uptoSmall }

/-- 'marginalialaw13.FlowPairs', WHERE WHAT IT READS IS OF BULK AT MOST 1048576: true; the input reads as it did. -/
def flowPairsUptoRow : OpenClaim := { program := "ytipbhdhiklmieabgreatdoor", sum := "f730346d34e198d9fb904d84a13e9d89f82dcca3a64d8cf1d24db62fc4411c4a", func := "marginalia/marginalialaw13.FlowPairs", spec := "flowPairs", unfollowed := true, recurses := true, named := ["marginalia/double.shorts"], apart := false, laid := [("marginalia/double.shorts", laid_marginalia_double_shorts)], narrowed := true }
def FlowPairsUptoSaid : Prop := flowPairsUptoRow.holds Tryz.pinned (OpenSpec.upto flowPairsSpec)

/-- 'marginalialaw13.FlowProps', WHERE WHAT IT READS IS OF BULK AT MOST 1048576: true; the input reads as it did. -/
def flowPropsUptoRow : OpenClaim := { program := "ytipbhdhiklmieabgreatdoor", sum := "f730346d34e198d9fb904d84a13e9d89f82dcca3a64d8cf1d24db62fc4411c4a", func := "marginalia/marginalialaw13.FlowProps", spec := "flowProps", unfollowed := true, recurses := true, named := ["marginalia/double.shorts"], apart := false, laid := [("marginalia/double.shorts", laid_marginalia_double_shorts)], narrowed := true }
def FlowPropsUptoSaid : Prop := flowPropsUptoRow.holds Tryz.pinned (OpenSpec.upto flowPropsSpec)

/-- 'marginalialaw13.FlowLong', WHERE WHAT IT READS IS OF BULK AT MOST 1048576: true; the input reads as it did. -/
def flowLongUptoRow : OpenClaim := { program := "ytipbhdhiklmieabgreatdoor", sum := "f730346d34e198d9fb904d84a13e9d89f82dcca3a64d8cf1d24db62fc4411c4a", func := "marginalia/marginalialaw13.FlowLong", spec := "flowLong", unfollowed := true, recurses := true, named := ["marginalia/double.shorts"], apart := false, laid := [("marginalia/double.shorts", laid_marginalia_double_shorts)], narrowed := true }
def FlowLongUptoSaid : Prop := flowLongUptoRow.holds Tryz.pinned (OpenSpec.upto flowLongSpec)

end Rows
end Go.Proofs.YtipbhdhiklmieabGreatDoor
