/-
  No cell of these rows narrows 'for every input' (looked for: loops, veiled, ifaces, maps, wideKeys, modest, calm, conditions, laid).
  DERIVED. THE GIVEN ROWS OF THIS SEAT. 6 by the template 'for every input the law returns true; each argument reads behind the call as it read before'; 0 by the template 'total and deterministic' (their statements: YtjidbgdblgchlaaTotals.lean).
  GIVEN WITH THE SEED: the statements are not yours to turn. If you find one false, say at which input.
  Laid BY PROGRAM, IN A SANDBOX (cutbox-rows.mjs): the forced cells as the released guide's own fill.sh prints them over the translation 0233b60dfff5a01f… (all of the seat's roots in one cut). By AI agents, Wed Nov 11 2026. No macro, syntax, notation, axiom, sorry.
-/
import Derived.Test.YtjidbgdblgchlaaChecked
import GoSem.Claim
import GoSem.ClaimJoined
import GoSem.ClaimMapViews
import Derived.JoinedTies
import Derived.KernelRfl
namespace Go.Proofs.Ytjidbgdblgchlaa
/- THE CELL 'sum', in the pinned program and in every row, IS THE sha256 OF THE DUMP (.gsa) THAT YtjidbgdblgchlaaProg.lean LOADS. Nothing in Lean hashes anything: it is a label: what it is worth is what the hold of that sum in a sandbox is worth. -/
noncomputable def Try.pinned : Pinned := { name := "ytjidbgdblgchlaa", sum := "0233b60dfff5a01fb7d8a2f7c777f4442877ef4a1036ed42596c2ceb48f1fd3c", checked := Try.checked }
namespace Rows
def none {H : Type} : Left H := { results := [], args := [] }

/-- 'marginalialaw6.FoldFlows': WHATEVER THE INPUT: true; the input reads as it did. -/
def foldFlowsSpec : ChangeSpec := { name := "foldFlows", fn := fun _ => fun
  | [d] => { results := [.lit (.bool true)], args := [d] }
  | _ => none }
def foldFlowsRow : OpenClaim := { program := "ytjidbgdblgchlaa", sum := "0233b60dfff5a01fb7d8a2f7c777f4442877ef4a1036ed42596c2ceb48f1fd3c", func := "marginalia/marginalialaw6.FoldFlows", spec := "foldFlows", unfollowed := true, recurses := true, apart := false }
def FoldFlowsSaid : Prop := foldFlowsRow.holds Try.pinned (OpenSpec.ofChange foldFlowsSpec)

/-- ITS FALSE NEIGHBOUR: 'it returns false'. Refute it at one input. -/
def foldFlowsWrong : ChangeSpec := { name := "foldFlows", fn := fun _ => fun
  | [d] => { results := [.lit (.bool false)], args := [d] }
  | _ => none }
def FoldFlowsWrongFalsely : Prop := foldFlowsRow.holds Try.pinned (OpenSpec.ofChange foldFlowsWrong)

/-- 'marginalialaw6.FoldBlocks': WHATEVER THE INPUT: true; the input reads as it did. -/
def foldBlocksSpec : ChangeSpec := { name := "foldBlocks", fn := fun _ => fun
  | [d1, d2] => { results := [.lit (.bool true)], args := [d1, d2] }
  | _ => none }
def foldBlocksRow : OpenClaim := { program := "ytjidbgdblgchlaa", sum := "0233b60dfff5a01fb7d8a2f7c777f4442877ef4a1036ed42596c2ceb48f1fd3c", func := "marginalia/marginalialaw6.FoldBlocks", spec := "foldBlocks", unfollowed := true, recurses := true, apart := false }
def FoldBlocksSaid : Prop := foldBlocksRow.holds Try.pinned (OpenSpec.ofChange foldBlocksSpec)

/-- ITS FALSE NEIGHBOUR: 'it returns false'. Refute it at one input. -/
def foldBlocksWrong : ChangeSpec := { name := "foldBlocks", fn := fun _ => fun
  | [d1, d2] => { results := [.lit (.bool false)], args := [d1, d2] }
  | _ => none }
def FoldBlocksWrongFalsely : Prop := foldBlocksRow.holds Try.pinned (OpenSpec.ofChange foldBlocksWrong)

/-- 'marginalialaw6.FoldChomps': WHATEVER THE INPUT: true; the input reads as it did. -/
def foldChompsSpec : ChangeSpec := { name := "foldChomps", fn := fun _ => fun
  | [d1, d2] => { results := [.lit (.bool true)], args := [d1, d2] }
  | _ => none }
def foldChompsRow : OpenClaim := { program := "ytjidbgdblgchlaa", sum := "0233b60dfff5a01fb7d8a2f7c777f4442877ef4a1036ed42596c2ceb48f1fd3c", func := "marginalia/marginalialaw6.FoldChomps", spec := "foldChomps", unfollowed := true, recurses := true, apart := false }
def FoldChompsSaid : Prop := foldChompsRow.holds Try.pinned (OpenSpec.ofChange foldChompsSpec)

/-- ITS FALSE NEIGHBOUR: 'it returns false'. Refute it at one input. -/
def foldChompsWrong : ChangeSpec := { name := "foldChomps", fn := fun _ => fun
  | [d1, d2] => { results := [.lit (.bool false)], args := [d1, d2] }
  | _ => none }
def FoldChompsWrongFalsely : Prop := foldChompsRow.holds Try.pinned (OpenSpec.ofChange foldChompsWrong)

/-- 'marginalialaw6.FoldLines': WHATEVER THE INPUT: true; the input reads as it did. -/
def foldLinesSpec : ChangeSpec := { name := "foldLines", fn := fun _ => fun
  | [d] => { results := [.lit (.bool true)], args := [d] }
  | _ => none }
def foldLinesRow : OpenClaim := { program := "ytjidbgdblgchlaa", sum := "0233b60dfff5a01fb7d8a2f7c777f4442877ef4a1036ed42596c2ceb48f1fd3c", func := "marginalia/marginalialaw6.FoldLines", spec := "foldLines", unfollowed := true, recurses := true, apart := false }
def FoldLinesSaid : Prop := foldLinesRow.holds Try.pinned (OpenSpec.ofChange foldLinesSpec)

/-- ITS FALSE NEIGHBOUR: 'it returns false'. Refute it at one input. -/
def foldLinesWrong : ChangeSpec := { name := "foldLines", fn := fun _ => fun
  | [d] => { results := [.lit (.bool false)], args := [d] }
  | _ => none }
def FoldLinesWrongFalsely : Prop := foldLinesRow.holds Try.pinned (OpenSpec.ofChange foldLinesWrong)

/-- 'marginalialaw6.FoldWords': WHATEVER THE INPUT: true; the input reads as it did. -/
def foldWordsSpec : ChangeSpec := { name := "foldWords", fn := fun _ => fun
  | [d1, d2, d3] => { results := [.lit (.bool true)], args := [d1, d2, d3] }
  | _ => none }
def foldWordsRow : OpenClaim := { program := "ytjidbgdblgchlaa", sum := "0233b60dfff5a01fb7d8a2f7c777f4442877ef4a1036ed42596c2ceb48f1fd3c", func := "marginalia/marginalialaw6.FoldWords", spec := "foldWords", unfollowed := true, recurses := true, apart := false }
def FoldWordsSaid : Prop := foldWordsRow.holds Try.pinned (OpenSpec.ofChange foldWordsSpec)

/-- ITS FALSE NEIGHBOUR: 'it returns false'. Refute it at one input. -/
def foldWordsWrong : ChangeSpec := { name := "foldWords", fn := fun _ => fun
  | [d1, d2, d3] => { results := [.lit (.bool false)], args := [d1, d2, d3] }
  | _ => none }
def FoldWordsWrongFalsely : Prop := foldWordsRow.holds Try.pinned (OpenSpec.ofChange foldWordsWrong)

/-- 'marginalialaw6.FoldSpaced': WHATEVER THE INPUT: true; the input reads as it did. -/
def foldSpacedSpec : ChangeSpec := { name := "foldSpaced", fn := fun _ => fun
  | [d1, d2] => { results := [.lit (.bool true)], args := [d1, d2] }
  | _ => none }
def foldSpacedRow : OpenClaim := { program := "ytjidbgdblgchlaa", sum := "0233b60dfff5a01fb7d8a2f7c777f4442877ef4a1036ed42596c2ceb48f1fd3c", func := "marginalia/marginalialaw6.FoldSpaced", spec := "foldSpaced", unfollowed := true, recurses := true, apart := false }
def FoldSpacedSaid : Prop := foldSpacedRow.holds Try.pinned (OpenSpec.ofChange foldSpacedSpec)

/-- ITS FALSE NEIGHBOUR: 'it returns false'. Refute it at one input. -/
def foldSpacedWrong : ChangeSpec := { name := "foldSpaced", fn := fun _ => fun
  | [d1, d2] => { results := [.lit (.bool false)], args := [d1, d2] }
  | _ => none }
def FoldSpacedWrongFalsely : Prop := foldSpacedRow.holds Try.pinned (OpenSpec.ofChange foldSpacedWrong)

/- THE SECOND FORM. 'bulk': how many values and letters a reading holds, each counted each time it is reached (what is shared counts as often as it is met; a slice's spare places count too). A statement '..UptoSaid' is the law's where the arguments, and the package variables that the reading takes, are together of bulk at most 1048576: NARROWER than '..Said'. Prove '..Said' where nothing that the law and all that it calls make is longer than what came in: it says more and counts as full. Else prove '..UptoSaid'. A law counts once. -/
mutual
def uptoBulk {H : Type} : DataW H → Nat
  | .lit (.string bytes) => bytes.length + 1
  | .lit _ => 1
  | .nil => 1
  | .ptr d => uptoBulk d + 1
  | .slice elems spare => uptoBulkAll elems + uptoBulkAll spare + 1
  | .agg parts => uptoBulkAll parts + 1
  | .iface _ d => uptoBulk d + 1
  | .map entries => uptoBulkEntries entries + 1
  | .held _ => 1
def uptoBulkAll {H : Type} : List (DataW H) → Nat
  | [] => 0
  | d :: r => uptoBulk d + uptoBulkAll r
def uptoBulkEntries {H : Type} : List (Lit × DataW H) → Nat
  | [] => 0
  | x :: r => uptoBulkEntry x + uptoBulkEntries r
def uptoBulkEntry {H : Type} : Lit × DataW H → Nat
  | (.string bytes, d) => bytes.length + uptoBulk d + 1
  | (_, d) => uptoBulk d + 1
 end
def uptoSmall : (H : Type) → List (DataW H) → Bool := fun _ ds => decide (uptoBulkAll ds ≤ 1048576)
def OpenSpec.upto (s : _root_.Go.ChangeSpec) : _root_.Go.OpenSpec := { _root_.Go.OpenSpec.ofChange s with cond := some uptoSmall }

/-- 'marginalialaw6.FoldFlows', WHERE WHAT IT READS IS OF BULK AT MOST 1048576: true; the input reads as it did. -/
def foldFlowsUptoRow : OpenClaim := { program := "ytjidbgdblgchlaa", sum := "0233b60dfff5a01fb7d8a2f7c777f4442877ef4a1036ed42596c2ceb48f1fd3c", func := "marginalia/marginalialaw6.FoldFlows", spec := "foldFlows", unfollowed := true, recurses := true, apart := false, narrowed := true }
def FoldFlowsUptoSaid : Prop := foldFlowsUptoRow.holds Try.pinned (OpenSpec.upto foldFlowsSpec)

/-- 'marginalialaw6.FoldBlocks', WHERE WHAT IT READS IS OF BULK AT MOST 1048576: true; the input reads as it did. -/
def foldBlocksUptoRow : OpenClaim := { program := "ytjidbgdblgchlaa", sum := "0233b60dfff5a01fb7d8a2f7c777f4442877ef4a1036ed42596c2ceb48f1fd3c", func := "marginalia/marginalialaw6.FoldBlocks", spec := "foldBlocks", unfollowed := true, recurses := true, apart := false, narrowed := true }
def FoldBlocksUptoSaid : Prop := foldBlocksUptoRow.holds Try.pinned (OpenSpec.upto foldBlocksSpec)

/-- 'marginalialaw6.FoldChomps', WHERE WHAT IT READS IS OF BULK AT MOST 1048576: true; the input reads as it did. -/
def foldChompsUptoRow : OpenClaim := { program := "ytjidbgdblgchlaa", sum := "0233b60dfff5a01fb7d8a2f7c777f4442877ef4a1036ed42596c2ceb48f1fd3c", func := "marginalia/marginalialaw6.FoldChomps", spec := "foldChomps", unfollowed := true, recurses := true, apart := false, narrowed := true }
def FoldChompsUptoSaid : Prop := foldChompsUptoRow.holds Try.pinned (OpenSpec.upto foldChompsSpec)

/-- 'marginalialaw6.FoldLines', WHERE WHAT IT READS IS OF BULK AT MOST 1048576: true; the input reads as it did. -/
def foldLinesUptoRow : OpenClaim := { program := "ytjidbgdblgchlaa", sum := "0233b60dfff5a01fb7d8a2f7c777f4442877ef4a1036ed42596c2ceb48f1fd3c", func := "marginalia/marginalialaw6.FoldLines", spec := "foldLines", unfollowed := true, recurses := true, apart := false, narrowed := true }
def FoldLinesUptoSaid : Prop := foldLinesUptoRow.holds Try.pinned (OpenSpec.upto foldLinesSpec)

/-- 'marginalialaw6.FoldWords', WHERE WHAT IT READS IS OF BULK AT MOST 1048576: true; the input reads as it did. -/
def foldWordsUptoRow : OpenClaim := { program := "ytjidbgdblgchlaa", sum := "0233b60dfff5a01fb7d8a2f7c777f4442877ef4a1036ed42596c2ceb48f1fd3c", func := "marginalia/marginalialaw6.FoldWords", spec := "foldWords", unfollowed := true, recurses := true, apart := false, narrowed := true }
def FoldWordsUptoSaid : Prop := foldWordsUptoRow.holds Try.pinned (OpenSpec.upto foldWordsSpec)

/-- 'marginalialaw6.FoldSpaced', WHERE WHAT IT READS IS OF BULK AT MOST 1048576: true; the input reads as it did. -/
def foldSpacedUptoRow : OpenClaim := { program := "ytjidbgdblgchlaa", sum := "0233b60dfff5a01fb7d8a2f7c777f4442877ef4a1036ed42596c2ceb48f1fd3c", func := "marginalia/marginalialaw6.FoldSpaced", spec := "foldSpaced", unfollowed := true, recurses := true, apart := false, narrowed := true }
def FoldSpacedUptoSaid : Prop := foldSpacedUptoRow.holds Try.pinned (OpenSpec.upto foldSpacedSpec)

end Rows
end Go.Proofs.Ytjidbgdblgchlaa
