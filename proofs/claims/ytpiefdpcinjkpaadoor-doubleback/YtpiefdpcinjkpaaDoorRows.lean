/-
  NARROWER THAN 'FOR EVERY INPUT', by the rows' own cells (each row's printed sentence says how): DoubleReads: laid · DoubleEnds: laid · DoubleBack: laid · DoublePlain: laid · DoubleEscapes: laid · DoubleJoins: laid.
  DERIVED. THE GIVEN ROWS OF THIS SEAT. 6 by the template 'for every input the law returns true; each argument reads behind the call as it read before'; 0 by the template 'total and deterministic' (their statements: YtpiefdpcinjkpaaDoorTotals.lean).
  GIVEN WITH THE SEED: the statements are not yours to turn. If you find one false, say at which input.
  Laid BY PROGRAM, IN A SANDBOX (cutbox-rows.mjs): the forced cells as the released guide's own fill.sh prints them over the translation 2e3e7e82994c7ee7… (all of the seat's roots in one cut). By AI agents, Wed Nov 11 2026. No macro, syntax, notation, axiom, sorry.
-/
import Derived.Test.YtpiefdpcinjkpaaDoorChecked
import GoSem.Claim
import GoSem.ClaimJoined
import GoSem.ClaimMapViews
import Derived.JoinedTies
import Derived.KernelRfl
namespace Go.Proofs.YtpiefdpcinjkpaaDoor
/- THE CELL 'sum', in the pinned program and in every row, IS THE sha256 OF THE DUMP (.gsa) THAT YtpiefdpcinjkpaaDoorProg.lean LOADS. Nothing in Lean hashes anything: it is a label: what it is worth is what the hold of that sum in a sandbox is worth. -/
noncomputable def Tryd.pinned : Pinned := { name := "ytpiefdpcinjkpaadoor", sum := "2e3e7e82994c7ee7d319da8e7d0a999e38c56d4f6480834395ca03d70dae652c", checked := Tryd.checked }
namespace Rows
def none {H : Type} : Left H := { results := [], args := [] }

/- WHAT THE LISTED PACKAGE-LEVEL VARIABLES READ AS WHEN THE CALL BEGINS. Each datum BY PROGRAM (the guide's laid-datum.mjs) off the statement by which the dump's own 'gosem.cut.vars' lays the variable. In a bare row this is a premise. The card (YtpiefdpcinjkpaaDoorCards.lean) ties it to the program's text. -/
def laid_marginalia_double_shorts {H : Type} : DataW H := .agg [.agg [.lit (.int .i64 48), .lit (.int .i64 0)], .agg [.lit (.int .i64 97), .lit (.int .i64 7)], .agg [.lit (.int .i64 98), .lit (.int .i64 8)], .agg [.lit (.int .i64 116), .lit (.int .i64 9)], .agg [.lit (.int .i64 9), .lit (.int .i64 9)], .agg [.lit (.int .i64 110), .lit (.int .i64 10)], .agg [.lit (.int .i64 118), .lit (.int .i64 11)], .agg [.lit (.int .i64 102), .lit (.int .i64 12)], .agg [.lit (.int .i64 114), .lit (.int .i64 13)], .agg [.lit (.int .i64 101), .lit (.int .i64 27)], .agg [.lit (.int .i64 32), .lit (.int .i64 32)], .agg [.lit (.int .i64 34), .lit (.int .i64 34)], .agg [.lit (.int .i64 47), .lit (.int .i64 47)], .agg [.lit (.int .i64 92), .lit (.int .i64 92)], .agg [.lit (.int .i64 78), .lit (.int .i64 133)], .agg [.lit (.int .i64 95), .lit (.int .i64 160)], .agg [.lit (.int .i64 76), .lit (.int .i64 8232)], .agg [.lit (.int .i64 80), .lit (.int .i64 8233)]]

/-- 'marginalialaw7.DoubleReads': WHATEVER THE INPUT: true; the input reads as it did. -/
def doubleReadsSpec : ChangeSpec := { name := "doubleReads", fn := fun _ => fun
  | [d] => { results := [.lit (.bool true)], args := [d] }
  | _ => none }
def doubleReadsRow : OpenClaim := { program := "ytpiefdpcinjkpaadoor", sum := "2e3e7e82994c7ee7d319da8e7d0a999e38c56d4f6480834395ca03d70dae652c", func := "marginalia/marginalialaw7.DoubleReads", spec := "doubleReads", unfollowed := true, recurses := true, named := ["marginalia/double.shorts"], apart := false, laid := [("marginalia/double.shorts", laid_marginalia_double_shorts)] }
def DoubleReadsSaid : Prop := doubleReadsRow.holds Tryd.pinned (OpenSpec.ofChange doubleReadsSpec)

/-- ITS FALSE NEIGHBOUR: 'it returns false'. Refute it at one input. -/
def doubleReadsWrong : ChangeSpec := { name := "doubleReads", fn := fun _ => fun
  | [d] => { results := [.lit (.bool false)], args := [d] }
  | _ => none }
def DoubleReadsWrongFalsely : Prop := doubleReadsRow.holds Tryd.pinned (OpenSpec.ofChange doubleReadsWrong)

/-- 'marginalialaw7.DoubleEnds': WHATEVER THE INPUT: true; the input reads as it did. -/
def doubleEndsSpec : ChangeSpec := { name := "doubleEnds", fn := fun _ => fun
  | [d] => { results := [.lit (.bool true)], args := [d] }
  | _ => none }
def doubleEndsRow : OpenClaim := { program := "ytpiefdpcinjkpaadoor", sum := "2e3e7e82994c7ee7d319da8e7d0a999e38c56d4f6480834395ca03d70dae652c", func := "marginalia/marginalialaw7.DoubleEnds", spec := "doubleEnds", unfollowed := true, recurses := true, named := ["marginalia/double.shorts"], apart := false, laid := [("marginalia/double.shorts", laid_marginalia_double_shorts)] }
def DoubleEndsSaid : Prop := doubleEndsRow.holds Tryd.pinned (OpenSpec.ofChange doubleEndsSpec)

/-- ITS FALSE NEIGHBOUR: 'it returns false'. Refute it at one input. -/
def doubleEndsWrong : ChangeSpec := { name := "doubleEnds", fn := fun _ => fun
  | [d] => { results := [.lit (.bool false)], args := [d] }
  | _ => none }
def DoubleEndsWrongFalsely : Prop := doubleEndsRow.holds Tryd.pinned (OpenSpec.ofChange doubleEndsWrong)

/-- 'marginalialaw7.DoubleBack': WHATEVER THE INPUT: true; the input reads as it did. -/
def doubleBackSpec : ChangeSpec := { name := "doubleBack", fn := fun _ => fun
  | [d] => { results := [.lit (.bool true)], args := [d] }
  | _ => none }
def doubleBackRow : OpenClaim := { program := "ytpiefdpcinjkpaadoor", sum := "2e3e7e82994c7ee7d319da8e7d0a999e38c56d4f6480834395ca03d70dae652c", func := "marginalia/marginalialaw7.DoubleBack", spec := "doubleBack", unfollowed := true, recurses := true, named := ["marginalia/double.shorts"], apart := false, laid := [("marginalia/double.shorts", laid_marginalia_double_shorts)] }
def DoubleBackSaid : Prop := doubleBackRow.holds Tryd.pinned (OpenSpec.ofChange doubleBackSpec)

/-- ITS FALSE NEIGHBOUR: 'it returns false'. Refute it at one input. -/
def doubleBackWrong : ChangeSpec := { name := "doubleBack", fn := fun _ => fun
  | [d] => { results := [.lit (.bool false)], args := [d] }
  | _ => none }
def DoubleBackWrongFalsely : Prop := doubleBackRow.holds Tryd.pinned (OpenSpec.ofChange doubleBackWrong)

/-- 'marginalialaw7.DoublePlain': WHATEVER THE INPUT: true; the input reads as it did. -/
def doublePlainSpec : ChangeSpec := { name := "doublePlain", fn := fun _ => fun
  | [d] => { results := [.lit (.bool true)], args := [d] }
  | _ => none }
def doublePlainRow : OpenClaim := { program := "ytpiefdpcinjkpaadoor", sum := "2e3e7e82994c7ee7d319da8e7d0a999e38c56d4f6480834395ca03d70dae652c", func := "marginalia/marginalialaw7.DoublePlain", spec := "doublePlain", unfollowed := true, recurses := true, named := ["marginalia/double.shorts"], apart := false, laid := [("marginalia/double.shorts", laid_marginalia_double_shorts)] }
def DoublePlainSaid : Prop := doublePlainRow.holds Tryd.pinned (OpenSpec.ofChange doublePlainSpec)

/-- ITS FALSE NEIGHBOUR: 'it returns false'. Refute it at one input. -/
def doublePlainWrong : ChangeSpec := { name := "doublePlain", fn := fun _ => fun
  | [d] => { results := [.lit (.bool false)], args := [d] }
  | _ => none }
def DoublePlainWrongFalsely : Prop := doublePlainRow.holds Tryd.pinned (OpenSpec.ofChange doublePlainWrong)

/-- 'marginalialaw7.DoubleEscapes': WHATEVER THE INPUT: true; the input reads as it did. -/
def doubleEscapesSpec : ChangeSpec := { name := "doubleEscapes", fn := fun _ => fun
  | [d1, d2, d3] => { results := [.lit (.bool true)], args := [d1, d2, d3] }
  | _ => none }
def doubleEscapesRow : OpenClaim := { program := "ytpiefdpcinjkpaadoor", sum := "2e3e7e82994c7ee7d319da8e7d0a999e38c56d4f6480834395ca03d70dae652c", func := "marginalia/marginalialaw7.DoubleEscapes", spec := "doubleEscapes", unfollowed := true, recurses := true, named := ["marginalia/double.shorts"], apart := false, laid := [("marginalia/double.shorts", laid_marginalia_double_shorts)] }
def DoubleEscapesSaid : Prop := doubleEscapesRow.holds Tryd.pinned (OpenSpec.ofChange doubleEscapesSpec)

/-- ITS FALSE NEIGHBOUR: 'it returns false'. Refute it at one input. -/
def doubleEscapesWrong : ChangeSpec := { name := "doubleEscapes", fn := fun _ => fun
  | [d1, d2, d3] => { results := [.lit (.bool false)], args := [d1, d2, d3] }
  | _ => none }
def DoubleEscapesWrongFalsely : Prop := doubleEscapesRow.holds Tryd.pinned (OpenSpec.ofChange doubleEscapesWrong)

/-- 'marginalialaw7.DoubleJoins': WHATEVER THE INPUT: true; the input reads as it did. -/
def doubleJoinsSpec : ChangeSpec := { name := "doubleJoins", fn := fun _ => fun
  | [d1, d2, d3] => { results := [.lit (.bool true)], args := [d1, d2, d3] }
  | _ => none }
def doubleJoinsRow : OpenClaim := { program := "ytpiefdpcinjkpaadoor", sum := "2e3e7e82994c7ee7d319da8e7d0a999e38c56d4f6480834395ca03d70dae652c", func := "marginalia/marginalialaw7.DoubleJoins", spec := "doubleJoins", unfollowed := true, recurses := true, named := ["marginalia/double.shorts"], apart := false, laid := [("marginalia/double.shorts", laid_marginalia_double_shorts)] }
def DoubleJoinsSaid : Prop := doubleJoinsRow.holds Tryd.pinned (OpenSpec.ofChange doubleJoinsSpec)

/-- ITS FALSE NEIGHBOUR: 'it returns false'. Refute it at one input. -/
def doubleJoinsWrong : ChangeSpec := { name := "doubleJoins", fn := fun _ => fun
  | [d1, d2, d3] => { results := [.lit (.bool false)], args := [d1, d2, d3] }
  | _ => none }
def DoubleJoinsWrongFalsely : Prop := doubleJoinsRow.holds Tryd.pinned (OpenSpec.ofChange doubleJoinsWrong)

/- THE SECOND FORM. 'bulk': how many values and letters a reading holds, each counted each time it is reached (what is shared counts as often as it is met; a slice's spare places count too). A statement '..UptoSaid' is the law's where the arguments, and the package variables that the reading takes, are together of bulk at most 1048576: NARROWER than '..Said'. Prove '..Said' where nothing that the law and all that it calls make is longer than what came in: it says more and counts as full. Else prove '..UptoSaid'. A law counts once. -/
mutual
def uptoBulk {H : Type} : DataW H → Nat
  | .lit (.string bytes) => bytes.length + 1
  | .lit _ => 1
  | .nil => 1
  | .ptr d => uptoBulk d + 1
  | .slice elems spare => uptoBulkAll elems + uptoBulkAll spare + 1
  | .agg parts => uptoBulkAll parts + 1
  | .iface _ d => uptoBulk d + 1
  | .map entries => uptoBulkEntries entries + 1
  | .held _ => 1
def uptoBulkAll {H : Type} : List (DataW H) → Nat
  | [] => 0
  | d :: r => uptoBulk d + uptoBulkAll r
def uptoBulkEntries {H : Type} : List (Lit × DataW H) → Nat
  | [] => 0
  | x :: r => uptoBulkEntry x + uptoBulkEntries r
def uptoBulkEntry {H : Type} : Lit × DataW H → Nat
  | (.string bytes, d) => bytes.length + uptoBulk d + 1
  | (_, d) => uptoBulk d + 1
 end
def uptoSmall : (H : Type) → List (DataW H) → Bool := fun _ ds => decide (uptoBulkAll ds ≤ 1048576)
def OpenSpec.upto (s : _root_.Go.ChangeSpec) : _root_.Go.OpenSpec := { _root_.Go.OpenSpec.ofChange s with cond := some uptoSmall }

/-- 'marginalialaw7.DoubleReads', WHERE WHAT IT READS IS OF BULK AT MOST 1048576: true; the input reads as it did. -/
def doubleReadsUptoRow : OpenClaim := { program := "ytpiefdpcinjkpaadoor", sum := "2e3e7e82994c7ee7d319da8e7d0a999e38c56d4f6480834395ca03d70dae652c", func := "marginalia/marginalialaw7.DoubleReads", spec := "doubleReads", unfollowed := true, recurses := true, named := ["marginalia/double.shorts"], apart := false, laid := [("marginalia/double.shorts", laid_marginalia_double_shorts)], narrowed := true }
def DoubleReadsUptoSaid : Prop := doubleReadsUptoRow.holds Tryd.pinned (OpenSpec.upto doubleReadsSpec)

/-- 'marginalialaw7.DoubleEnds', WHERE WHAT IT READS IS OF BULK AT MOST 1048576: true; the input reads as it did. -/
def doubleEndsUptoRow : OpenClaim := { program := "ytpiefdpcinjkpaadoor", sum := "2e3e7e82994c7ee7d319da8e7d0a999e38c56d4f6480834395ca03d70dae652c", func := "marginalia/marginalialaw7.DoubleEnds", spec := "doubleEnds", unfollowed := true, recurses := true, named := ["marginalia/double.shorts"], apart := false, laid := [("marginalia/double.shorts", laid_marginalia_double_shorts)], narrowed := true }
def DoubleEndsUptoSaid : Prop := doubleEndsUptoRow.holds Tryd.pinned (OpenSpec.upto doubleEndsSpec)

/-- 'marginalialaw7.DoubleBack', WHERE WHAT IT READS IS OF BULK AT MOST 1048576: true; the input reads as it did. -/
def doubleBackUptoRow : OpenClaim := { program := "ytpiefdpcinjkpaadoor", sum := "2e3e7e82994c7ee7d319da8e7d0a999e38c56d4f6480834395ca03d70dae652c", func := "marginalia/marginalialaw7.DoubleBack", spec := "doubleBack", unfollowed := true, recurses := true, named := ["marginalia/double.shorts"], apart := false, laid := [("marginalia/double.shorts", laid_marginalia_double_shorts)], narrowed := true }
def DoubleBackUptoSaid : Prop := doubleBackUptoRow.holds Tryd.pinned (OpenSpec.upto doubleBackSpec)

/-- 'marginalialaw7.DoublePlain', WHERE WHAT IT READS IS OF BULK AT MOST 1048576: true; the input reads as it did. -/
def doublePlainUptoRow : OpenClaim := { program := "ytpiefdpcinjkpaadoor", sum := "2e3e7e82994c7ee7d319da8e7d0a999e38c56d4f6480834395ca03d70dae652c", func := "marginalia/marginalialaw7.DoublePlain", spec := "doublePlain", unfollowed := true, recurses := true, named := ["marginalia/double.shorts"], apart := false, laid := [("marginalia/double.shorts", laid_marginalia_double_shorts)], narrowed := true }
def DoublePlainUptoSaid : Prop := doublePlainUptoRow.holds Tryd.pinned (OpenSpec.upto doublePlainSpec)

/-- 'marginalialaw7.DoubleEscapes', WHERE WHAT IT READS IS OF BULK AT MOST 1048576: true; the input reads as it did. -/
def doubleEscapesUptoRow : OpenClaim := { program := "ytpiefdpcinjkpaadoor", sum := "2e3e7e82994c7ee7d319da8e7d0a999e38c56d4f6480834395ca03d70dae652c", func := "marginalia/marginalialaw7.DoubleEscapes", spec := "doubleEscapes", unfollowed := true, recurses := true, named := ["marginalia/double.shorts"], apart := false, laid := [("marginalia/double.shorts", laid_marginalia_double_shorts)], narrowed := true }
def DoubleEscapesUptoSaid : Prop := doubleEscapesUptoRow.holds Tryd.pinned (OpenSpec.upto doubleEscapesSpec)

/-- 'marginalialaw7.DoubleJoins', WHERE WHAT IT READS IS OF BULK AT MOST 1048576: true; the input reads as it did. -/
def doubleJoinsUptoRow : OpenClaim := { program := "ytpiefdpcinjkpaadoor", sum := "2e3e7e82994c7ee7d319da8e7d0a999e38c56d4f6480834395ca03d70dae652c", func := "marginalia/marginalialaw7.DoubleJoins", spec := "doubleJoins", unfollowed := true, recurses := true, named := ["marginalia/double.shorts"], apart := false, laid := [("marginalia/double.shorts", laid_marginalia_double_shorts)], narrowed := true }
def DoubleJoinsUptoSaid : Prop := doubleJoinsUptoRow.holds Tryd.pinned (OpenSpec.upto doubleJoinsSpec)

end Rows
end Go.Proofs.YtpiefdpcinjkpaaDoor
