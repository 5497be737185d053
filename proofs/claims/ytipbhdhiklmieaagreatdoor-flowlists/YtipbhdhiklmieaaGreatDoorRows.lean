/-
  NARROWER THAN 'FOR EVERY INPUT', by the rows' own cells (each row's printed sentence says how): FlowNodes: laid · FlowTexts: laid · FlowKeys: laid · FlowLists: laid · FlowDeep: laid · FlowWrong: laid.
  DERIVED. THE GIVEN ROWS OF THIS SEAT. 6 by the template 'for every input the law returns true; each argument reads behind the call as it read before'; 0 by the template 'total and deterministic' (their statements: YtipbhdhiklmieaaGreatDoorTotals.lean).
  GIVEN WITH THE SEED: the statements are not yours to turn. If you find one false, say at which input.
  Laid BY PROGRAM, IN A SANDBOX (cutbox-rows.mjs): the forced cells as the released guide's own fill.sh prints them over the translation 0a247cf1ff817674… (all of the seat's roots in one cut). By AI agents, Wed Nov 11 2026. No macro, syntax, notation, axiom, sorry.
-/
import Derived.Test.YtipbhdhiklmieaaGreatDoorChecked
import GoSem.Claim
import GoSem.ClaimJoined
import GoSem.ClaimMapViews
import Derived.JoinedTies
import Derived.KernelRfl
namespace Go.Proofs.YtipbhdhiklmieaaGreatDoor
/- THE CELL 'sum', in the pinned program and in every row, IS THE sha256 OF THE DUMP (.gsa) THAT YtipbhdhiklmieaaGreatDoorProg.lean LOADS. Nothing in Lean hashes anything: it is a label: what it is worth is what the hold of that sum in a sandbox is worth. -/
noncomputable def Tryz.pinned : Pinned := { name := "ytipbhdhiklmieaagreatdoor", sum := "0a247cf1ff81767491d47764e3e135c214623361e4c0952c03aba4dfe3e93d25", checked := Tryz.checked }
namespace Rows
def none {H : Type} : Left H := { results := [], args := [] }

/- WHAT THE LISTED PACKAGE-LEVEL VARIABLES READ AS WHEN THE CALL BEGINS. Each datum BY PROGRAM (the guide's laid-datum.mjs) off the statement by which the dump's own 'gosem.cut.vars' lays the variable. In a bare row this is a premise. The card (YtipbhdhiklmieaaGreatDoorCards.lean) ties it to the program's text. -/
def laid_marginalia_double_shorts {H : Type} : DataW H := .agg [.agg [.lit (.int .i64 48), .lit (.int .i64 0)], .agg [.lit (.int .i64 97), .lit (.int .i64 7)], .agg [.lit (.int .i64 98), .lit (.int .i64 8)], .agg [.lit (.int .i64 116), .lit (.int .i64 9)], .agg [.lit (.int .i64 9), .lit (.int .i64 9)], .agg [.lit (.int .i64 110), .lit (.int .i64 10)], .agg [.lit (.int .i64 118), .lit (.int .i64 11)], .agg [.lit (.int .i64 102), .lit (.int .i64 12)], .agg [.lit (.int .i64 114), .lit (.int .i64 13)], .agg [.lit (.int .i64 101), .lit (.int .i64 27)], .agg [.lit (.int .i64 32), .lit (.int .i64 32)], .agg [.lit (.int .i64 34), .lit (.int .i64 34)], .agg [.lit (.int .i64 47), .lit (.int .i64 47)], .agg [.lit (.int .i64 92), .lit (.int .i64 92)], .agg [.lit (.int .i64 78), .lit (.int .i64 133)], .agg [.lit (.int .i64 95), .lit (.int .i64 160)], .agg [.lit (.int .i64 76), .lit (.int .i64 8232)], .agg [.lit (.int .i64 80), .lit (.int .i64 8233)]]

/-- 'marginalialaw13.FlowNodes': WHATEVER THE INPUT: true; the input reads as it did. -/
def flowNodesSpec : ChangeSpec := { name := "flowNodes", fn := fun _ => fun
  | [d1, d2, d3, d4, d5] => { results := [.lit (.bool true)], args := [d1, d2, d3, d4, d5] }
  | _ => none }
def flowNodesRow : OpenClaim := { program := "ytipbhdhiklmieaagreatdoor", sum := "0a247cf1ff81767491d47764e3e135c214623361e4c0952c03aba4dfe3e93d25", func := "marginalia/marginalialaw13.FlowNodes", spec := "flowNodes", unfollowed := true, recurses := true, named := ["marginalia/double.shorts"], apart := false, laid := [("marginalia/double.shorts", laid_marginalia_double_shorts)] }
def FlowNodesSaid : Prop := flowNodesRow.holds Tryz.pinned (OpenSpec.ofChange flowNodesSpec)

/-- ITS FALSE NEIGHBOUR: 'it returns false'. Refute it at one input. -/
def flowNodesWrong : ChangeSpec := { name := "flowNodes", fn := fun _ => fun
  | [d1, d2, d3, d4, d5] => { results := [.lit (.bool false)], args := [d1, d2, d3, d4, d5] }
  | _ => none }
def FlowNodesWrongFalsely : Prop := flowNodesRow.holds Tryz.pinned (OpenSpec.ofChange flowNodesWrong)

/-- 'marginalialaw13.FlowTexts': WHATEVER THE INPUT: true; the input reads as it did. -/
def flowTextsSpec : ChangeSpec := { name := "flowTexts", fn := fun _ => fun
  | [d] => { results := [.lit (.bool true)], args := [d] }
  | _ => none }
def flowTextsRow : OpenClaim := { program := "ytipbhdhiklmieaagreatdoor", sum := "0a247cf1ff81767491d47764e3e135c214623361e4c0952c03aba4dfe3e93d25", func := "marginalia/marginalialaw13.FlowTexts", spec := "flowTexts", unfollowed := true, recurses := true, named := ["marginalia/double.shorts"], apart := false, laid := [("marginalia/double.shorts", laid_marginalia_double_shorts)] }
def FlowTextsSaid : Prop := flowTextsRow.holds Tryz.pinned (OpenSpec.ofChange flowTextsSpec)

/-- ITS FALSE NEIGHBOUR: 'it returns false'. Refute it at one input. -/
def flowTextsWrong : ChangeSpec := { name := "flowTexts", fn := fun _ => fun
  | [d] => { results := [.lit (.bool false)], args := [d] }
  | _ => none }
def FlowTextsWrongFalsely : Prop := flowTextsRow.holds Tryz.pinned (OpenSpec.ofChange flowTextsWrong)

/-- 'marginalialaw13.FlowKeys': WHATEVER THE INPUT: true; the input reads as it did. -/
def flowKeysSpec : ChangeSpec := { name := "flowKeys", fn := fun _ => fun
  | [d1, d2, d3] => { results := [.lit (.bool true)], args := [d1, d2, d3] }
  | _ => none }
def flowKeysRow : OpenClaim := { program := "ytipbhdhiklmieaagreatdoor", sum := "0a247cf1ff81767491d47764e3e135c214623361e4c0952c03aba4dfe3e93d25", func := "marginalia/marginalialaw13.FlowKeys", spec := "flowKeys", unfollowed := true, recurses := true, named := ["marginalia/double.shorts"], apart := false, laid := [("marginalia/double.shorts", laid_marginalia_double_shorts)] }
def FlowKeysSaid : Prop := flowKeysRow.holds Tryz.pinned (OpenSpec.ofChange flowKeysSpec)

/-- ITS FALSE NEIGHBOUR: 'it returns false'. Refute it at one input. -/
def flowKeysWrong : ChangeSpec := { name := "flowKeys", fn := fun _ => fun
  | [d1, d2, d3] => { results := [.lit (.bool false)], args := [d1, d2, d3] }
  | _ => none }
def FlowKeysWrongFalsely : Prop := flowKeysRow.holds Tryz.pinned (OpenSpec.ofChange flowKeysWrong)

/-- 'marginalialaw13.FlowLists': WHATEVER THE INPUT: true; the input reads as it did. -/
def flowListsSpec : ChangeSpec := { name := "flowLists", fn := fun _ => fun
  | [d1, d2, d3, d4] => { results := [.lit (.bool true)], args := [d1, d2, d3, d4] }
  | _ => none }
def flowListsRow : OpenClaim := { program := "ytipbhdhiklmieaagreatdoor", sum := "0a247cf1ff81767491d47764e3e135c214623361e4c0952c03aba4dfe3e93d25", func := "marginalia/marginalialaw13.FlowLists", spec := "flowLists", unfollowed := true, recurses := true, named := ["marginalia/double.shorts"], apart := false, laid := [("marginalia/double.shorts", laid_marginalia_double_shorts)] }
def FlowListsSaid : Prop := flowListsRow.holds Tryz.pinned (OpenSpec.ofChange flowListsSpec)

/-- ITS FALSE NEIGHBOUR: 'it returns false'. Refute it at one input. -/
def flowListsWrong : ChangeSpec := { name := "flowLists", fn := fun _ => fun
  | [d1, d2, d3, d4] => { results := [.lit (.bool false)], args := [d1, d2, d3, d4] }
  | _ => none }
def FlowListsWrongFalsely : Prop := flowListsRow.holds Tryz.pinned (OpenSpec.ofChange flowListsWrong)

/-- 'marginalialaw13.FlowDeep': WHATEVER THE INPUT: true; the input reads as it did. -/
def flowDeepSpec : ChangeSpec := { name := "flowDeep", fn := fun _ => fun
  | [d1, d2, d3] => { results := [.lit (.bool true)], args := [d1, d2, d3] }
  | _ => none }
def flowDeepRow : OpenClaim := { program := "ytipbhdhiklmieaagreatdoor", sum := "0a247cf1ff81767491d47764e3e135c214623361e4c0952c03aba4dfe3e93d25", func := "marginalia/marginalialaw13.FlowDeep", spec := "flowDeep", unfollowed := true, recurses := true, named := ["marginalia/double.shorts"], apart := false, laid := [("marginalia/double.shorts", laid_marginalia_double_shorts)] }
def FlowDeepSaid : Prop := flowDeepRow.holds Tryz.pinned (OpenSpec.ofChange flowDeepSpec)

/-- ITS FALSE NEIGHBOUR: 'it returns false'. Refute it at one input. -/
def flowDeepWrong : ChangeSpec := { name := "flowDeep", fn := fun _ => fun
  | [d1, d2, d3] => { results := [.lit (.bool false)], args := [d1, d2, d3] }
  | _ => none }
def FlowDeepWrongFalsely : Prop := flowDeepRow.holds Tryz.pinned (OpenSpec.ofChange flowDeepWrong)

/-- 'marginalialaw13.FlowWrong': WHATEVER THE INPUT: true; the input reads as it did. -/
def flowWrongSpec : ChangeSpec := { name := "flowWrong", fn := fun _ => fun
  | [d] => { results := [.lit (.bool true)], args := [d] }
  | _ => none }
def flowWrongRow : OpenClaim := { program := "ytipbhdhiklmieaagreatdoor", sum := "0a247cf1ff81767491d47764e3e135c214623361e4c0952c03aba4dfe3e93d25", func := "marginalia/marginalialaw13.FlowWrong", spec := "flowWrong", unfollowed := true, recurses := true, named := ["marginalia/double.shorts"], apart := false, laid := [("marginalia/double.shorts", laid_marginalia_double_shorts)] }
def FlowWrongSaid : Prop := flowWrongRow.holds Tryz.pinned (OpenSpec.ofChange flowWrongSpec)

/-- ITS FALSE NEIGHBOUR: 'it returns false'. Refute it at one input. -/
def flowWrongWrong : ChangeSpec := { name := "flowWrong", fn := fun _ => fun
  | [d] => { results := [.lit (.bool false)], args := [d] }
  | _ => none }
def FlowWrongWrongFalsely : Prop := flowWrongRow.holds Tryz.pinned (OpenSpec.ofChange flowWrongWrong)

/- THE SECOND FORM. 'bulk': how many values and letters a reading holds, each counted each time it is reached (what is shared counts as often as it is met; a slice's spare places count too). A statement '..UptoSaid' is the law's where the arguments, and the package variables that the reading takes, are together of bulk at most 1048576: NARROWER than '..Said'. Prove '..Said' where nothing that the law and all that it calls make is longer than what came in: it says more and counts as full. Else prove '..UptoSaid'. A law counts once. -/
mutual
def uptoBulk {H : Type} : DataW H → Nat
  | .lit (.string bytes) => bytes.length + 1
  | .lit _ => 1
  | .nil => 1
  | .ptr d => uptoBulk d + 1
  | .slice elems spare => uptoBulkAll elems + uptoBulkAll spare + 1
  | .agg parts => uptoBulkAll parts + 1
  | .iface _ d => uptoBulk d + 1
  | .map entries => uptoBulkEntries entries + 1
  | .held _ => 1
def uptoBulkAll {H : Type} : List (DataW H) → Nat
  | [] => 0
  | d :: r => uptoBulk d + uptoBulkAll r
def uptoBulkEntries {H : Type} : List (Lit × DataW H) → Nat
  | [] => 0
  | x :: r => uptoBulkEntry x + uptoBulkEntries r
def uptoBulkEntry {H : Type} : Lit × DataW H → Nat
  | (.string bytes, d) => bytes.length + uptoBulk d + 1
  | (_, d) => uptoBulk d + 1
 end
def uptoSmall : (H : Type) → List (DataW H) → Bool := fun _ ds => decide (uptoBulkAll ds ≤ 1048576)
def OpenSpec.upto (s : _root_.Go.ChangeSpec) : _root_.Go.OpenSpec := { _root_.Go.OpenSpec.ofChange s with cond := some uptoSmall }

/-- 'marginalialaw13.FlowNodes', WHERE WHAT IT READS IS OF BULK AT MOST 1048576: true; the input reads as it did. -/
def flowNodesUptoRow : OpenClaim := { program := "ytipbhdhiklmieaagreatdoor", sum := "0a247cf1ff81767491d47764e3e135c214623361e4c0952c03aba4dfe3e93d25", func := "marginalia/marginalialaw13.FlowNodes", spec := "flowNodes", unfollowed := true, recurses := true, named := ["marginalia/double.shorts"], apart := false, laid := [("marginalia/double.shorts", laid_marginalia_double_shorts)], narrowed := true }
def FlowNodesUptoSaid : Prop := flowNodesUptoRow.holds Tryz.pinned (OpenSpec.upto flowNodesSpec)

/-- 'marginalialaw13.FlowTexts', WHERE WHAT IT READS IS OF BULK AT MOST 1048576: true; the input reads as it did. -/
def flowTextsUptoRow : OpenClaim := { program := "ytipbhdhiklmieaagreatdoor", sum := "0a247cf1ff81767491d47764e3e135c214623361e4c0952c03aba4dfe3e93d25", func := "marginalia/marginalialaw13.FlowTexts", spec := "flowTexts", unfollowed := true, recurses := true, named := ["marginalia/double.shorts"], apart := false, laid := [("marginalia/double.shorts", laid_marginalia_double_shorts)], narrowed := true }
def FlowTextsUptoSaid : Prop := flowTextsUptoRow.holds Tryz.pinned (OpenSpec.upto flowTextsSpec)

/-- 'marginalialaw13.FlowKeys', WHERE WHAT IT READS IS OF BULK AT MOST 1048576: true; the input reads as it did. -/
def flowKeysUptoRow : OpenClaim := { program := "ytipbhdhiklmieaagreatdoor", sum := "0a247cf1ff81767491d47764e3e135c214623361e4c0952c03aba4dfe3e93d25", func := "marginalia/marginalialaw13.FlowKeys", spec := "flowKeys", unfollowed := true, recurses := true, named := ["marginalia/double.shorts"], apart := false, laid := [("marginalia/double.shorts", laid_marginalia_double_shorts)], narrowed := true }
def FlowKeysUptoSaid : Prop := flowKeysUptoRow.holds Tryz.pinned (OpenSpec.upto flowKeysSpec)

/-- 'marginalialaw13.FlowLists', WHERE WHAT IT READS IS OF BULK AT MOST 1048576: true; the input reads as it did. -/
def flowListsUptoRow : OpenClaim := { program := "ytipbhdhiklmieaagreatdoor", sum := "0a247cf1ff81767491d47764e3e135c214623361e4c0952c03aba4dfe3e93d25", func := "marginalia/marginalialaw13.FlowLists", spec := "flowLists", unfollowed := true, recurses := true, named := ["marginalia/double.shorts"], apart := false, laid := [("marginalia/double.shorts", laid_marginalia_double_shorts)], narrowed := true }
def FlowListsUptoSaid : Prop := flowListsUptoRow.holds Tryz.pinned (OpenSpec.upto flowListsSpec)

/-- 'marginalialaw13.FlowDeep', WHERE WHAT IT READS IS OF BULK AT MOST 1048576: true; the input reads as it did. -/
def flowDeepUptoRow : OpenClaim := { program := "ytipbhdhiklmieaagreatdoor", sum := "0a247cf1ff81767491d47764e3e135c214623361e4c0952c03aba4dfe3e93d25", func := "marginalia/marginalialaw13.FlowDeep", spec := "flowDeep", unfollowed := true, recurses := true, named := ["marginalia/double.shorts"], apart := false, laid := [("marginalia/double.shorts", laid_marginalia_double_shorts)], narrowed := true }
def FlowDeepUptoSaid : Prop := flowDeepUptoRow.holds Tryz.pinned (OpenSpec.upto flowDeepSpec)

/-- 'marginalialaw13.FlowWrong', WHERE WHAT IT READS IS OF BULK AT MOST 1048576: true; the input reads as it did. -/
def flowWrongUptoRow : OpenClaim := { program := "ytipbhdhiklmieaagreatdoor", sum := "0a247cf1ff81767491d47764e3e135c214623361e4c0952c03aba4dfe3e93d25", func := "marginalia/marginalialaw13.FlowWrong", spec := "flowWrong", unfollowed := true, recurses := true, named := ["marginalia/double.shorts"], apart := false, laid := [("marginalia/double.shorts", laid_marginalia_double_shorts)], narrowed := true }
def FlowWrongUptoSaid : Prop := flowWrongUptoRow.holds Tryz.pinned (OpenSpec.upto flowWrongSpec)

end Rows
end Go.Proofs.YtipbhdhiklmieaaGreatDoor
