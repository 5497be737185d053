/-
  NARROWER THAN 'FOR EVERY INPUT', by the rows' own cells (each row's printed sentence says how): DoubleFolds: laid · DoubleNames: laid.
  DERIVED. THE GIVEN ROWS OF THIS SEAT. 2 by the template 'for every input the law returns true; each argument reads behind the call as it read before'; 0 by the template 'total and deterministic' (their statements: YtpiefdpcinjkpabDoorTotals.lean).
  GIVEN WITH THE SEED: the statements are not yours to turn. If you find one false, say at which input.
  Laid BY PROGRAM, IN A SANDBOX (cutbox-rows.mjs): the forced cells as the released guide's own fill.sh prints them over the translation e2a5e1b9f41ea4f2… (all of the seat's roots in one cut). By AI agents, Wed Nov 11 2026. No macro, syntax, notation, axiom, sorry.
-/
import Derived.Test.YtpiefdpcinjkpabDoorChecked
import GoSem.Claim
import GoSem.ClaimJoined
import GoSem.ClaimMapViews
import Derived.JoinedTies
import Derived.KernelRfl
namespace Go.Proofs.YtpiefdpcinjkpabDoor
/- THE CELL 'sum', in the pinned program and in every row, IS THE sha256 OF THE DUMP (.gsa) THAT YtpiefdpcinjkpabDoorProg.lean LOADS. Nothing in Lean hashes anything: it is a label: what it is worth is what the hold of that sum in a sandbox is worth. -/
noncomputable def Tryd.pinned : Pinned := { name := "ytpiefdpcinjkpabdoor", sum := "e2a5e1b9f41ea4f24de48dd5d89faed3591e31e1f31cc92a357167aa4cc31a05", checked := Tryd.checked }
namespace Rows
def none {H : Type} : Left H := { results := [], args := [] }

/- WHAT THE LISTED PACKAGE-LEVEL VARIABLES READ AS WHEN THE CALL BEGINS. Each datum BY PROGRAM (the guide's laid-datum.mjs) off the statement by which the dump's own 'gosem.cut.vars' lays the variable. In a bare row this is a premise. The card (YtpiefdpcinjkpabDoorCards.lean) ties it to the program's text. -/
def laid_marginalia_double_shorts {H : Type} : DataW H := .agg [.agg [.lit (.int .i64 48), .lit (.int .i64 0)], .agg [.lit (.int .i64 97), .lit (.int .i64 7)], .agg [.lit (.int .i64 98), .lit (.int .i64 8)], .agg [.lit (.int .i64 116), .lit (.int .i64 9)], .agg [.lit (.int .i64 9), .lit (.int .i64 9)], .agg [.lit (.int .i64 110), .lit (.int .i64 10)], .agg [.lit (.int .i64 118), .lit (.int .i64 11)], .agg [.lit (.int .i64 102), .lit (.int .i64 12)], .agg [.lit (.int .i64 114), .lit (.int .i64 13)], .agg [.lit (.int .i64 101), .lit (.int .i64 27)], .agg [.lit (.int .i64 32), .lit (.int .i64 32)], .agg [.lit (.int .i64 34), .lit (.int .i64 34)], .agg [.lit (.int .i64 47), .lit (.int .i64 47)], .agg [.lit (.int .i64 92), .lit (.int .i64 92)], .agg [.lit (.int .i64 78), .lit (.int .i64 133)], .agg [.lit (.int .i64 95), .lit (.int .i64 160)], .agg [.lit (.int .i64 76), .lit (.int .i64 8232)], .agg [.lit (.int .i64 80), .lit (.int .i64 8233)]]

/-- 'marginalialaw7.DoubleFolds': WHATEVER THE INPUT: true; the input reads as it did. -/
def doubleFoldsSpec : ChangeSpec := { name := "doubleFolds", fn := fun _ => fun
  | [d] => { results := [.lit (.bool true)], args := [d] }
  | _ => none }
def doubleFoldsRow : OpenClaim := { program := "ytpiefdpcinjkpabdoor", sum := "e2a5e1b9f41ea4f24de48dd5d89faed3591e31e1f31cc92a357167aa4cc31a05", func := "marginalia/marginalialaw7.DoubleFolds", spec := "doubleFolds", unfollowed := true, recurses := true, named := ["marginalia/double.shorts"], apart := false, laid := [("marginalia/double.shorts", laid_marginalia_double_shorts)] }
def DoubleFoldsSaid : Prop := doubleFoldsRow.holds Tryd.pinned (OpenSpec.ofChange doubleFoldsSpec)

/-- ITS FALSE NEIGHBOUR: 'it returns false'. Refute it at one input. -/
def doubleFoldsWrong : ChangeSpec := { name := "doubleFolds", fn := fun _ => fun
  | [d] => { results := [.lit (.bool false)], args := [d] }
  | _ => none }
def DoubleFoldsWrongFalsely : Prop := doubleFoldsRow.holds Tryd.pinned (OpenSpec.ofChange doubleFoldsWrong)

/-- 'marginalialaw7.DoubleNames': WHATEVER THE INPUT: true; the input reads as it did. -/
def doubleNamesSpec : ChangeSpec := { name := "doubleNames", fn := fun _ => fun
  | [d] => { results := [.lit (.bool true)], args := [d] }
  | _ => none }
def doubleNamesRow : OpenClaim := { program := "ytpiefdpcinjkpabdoor", sum := "e2a5e1b9f41ea4f24de48dd5d89faed3591e31e1f31cc92a357167aa4cc31a05", func := "marginalia/marginalialaw7.DoubleNames", spec := "doubleNames", unfollowed := true, recurses := true, named := ["marginalia/double.shorts"], apart := false, laid := [("marginalia/double.shorts", laid_marginalia_double_shorts)] }
def DoubleNamesSaid : Prop := doubleNamesRow.holds Tryd.pinned (OpenSpec.ofChange doubleNamesSpec)

/-- ITS FALSE NEIGHBOUR: 'it returns false'. Refute it at one input. -/
def doubleNamesWrong : ChangeSpec := { name := "doubleNames", fn := fun _ => fun
  | [d] => { results := [.lit (.bool false)], args := [d] }
  | _ => none }
def DoubleNamesWrongFalsely : Prop := doubleNamesRow.holds Tryd.pinned (OpenSpec.ofChange doubleNamesWrong)

/- THE SECOND FORM. 'bulk': how many values and letters a reading holds, each counted each time it is reached (what is shared counts as often as it is met; a slice's spare places count too). A statement '..UptoSaid' is the law's where the arguments, and the package variables that the reading takes, are together of bulk at most 1048576: NARROWER than '..Said'. Prove '..Said' where nothing that the law and all that it calls make is longer than what came in: it says more and counts as full. Else prove '..UptoSaid'. A law counts once. -/
mutual
def uptoBulk {H : Type} : DataW H → Nat
  | .lit (.string bytes) => bytes.length + 1
  | .lit _ => 1
  | .nil => 1
  | .ptr d => uptoBulk d + 1
  | .slice elems spare => uptoBulkAll elems + uptoBulkAll spare + 1
  | .agg parts => uptoBulkAll parts + 1
  | .iface _ d => uptoBulk d + 1
  | .map entries => uptoBulkEntries entries + 1
  | .held _ => 1
def uptoBulkAll {H : Type} : List (DataW H) → Nat
  | [] => 0
  | d :: r => uptoBulk d + uptoBulkAll r
def uptoBulkEntries {H : Type} : List (Lit × DataW H) → Nat
  | [] => 0
  | x :: r => uptoBulkEntry x + uptoBulkEntries r
def uptoBulkEntry {H : Type} : Lit × DataW H → Nat
  | (.string bytes, d) => bytes.length + uptoBulk d + 1
  | (_, d) => uptoBulk d + 1
 end
def uptoSmall : (H : Type) → List (DataW H) → Bool := fun _ ds => decide (uptoBulkAll ds ≤ 1048576)
def OpenSpec.upto (s : _root_.Go.ChangeSpec) : _root_.Go.OpenSpec := { _root_.Go.OpenSpec.ofChange s with cond := some uptoSmall }

/-- 'marginalialaw7.DoubleFolds', WHERE WHAT IT READS IS OF BULK AT MOST 1048576: true; the input reads as it did. -/
def doubleFoldsUptoRow : OpenClaim := { program := "ytpiefdpcinjkpabdoor", sum := "e2a5e1b9f41ea4f24de48dd5d89faed3591e31e1f31cc92a357167aa4cc31a05", func := "marginalia/marginalialaw7.DoubleFolds", spec := "doubleFolds", unfollowed := true, recurses := true, named := ["marginalia/double.shorts"], apart := false, laid := [("marginalia/double.shorts", laid_marginalia_double_shorts)], narrowed := true }
def DoubleFoldsUptoSaid : Prop := doubleFoldsUptoRow.holds Tryd.pinned (OpenSpec.upto doubleFoldsSpec)

/-- 'marginalialaw7.DoubleNames', WHERE WHAT IT READS IS OF BULK AT MOST 1048576: true; the input reads as it did. -/
def doubleNamesUptoRow : OpenClaim := { program := "ytpiefdpcinjkpabdoor", sum := "e2a5e1b9f41ea4f24de48dd5d89faed3591e31e1f31cc92a357167aa4cc31a05", func := "marginalia/marginalialaw7.DoubleNames", spec := "doubleNames", unfollowed := true, recurses := true, named := ["marginalia/double.shorts"], apart := false, laid := [("marginalia/double.shorts", laid_marginalia_double_shorts)], narrowed := true }
def DoubleNamesUptoSaid : Prop := doubleNamesUptoRow.holds Tryd.pinned (OpenSpec.upto doubleNamesSpec)

end Rows
end Go.Proofs.YtpiefdpcinjkpabDoor
