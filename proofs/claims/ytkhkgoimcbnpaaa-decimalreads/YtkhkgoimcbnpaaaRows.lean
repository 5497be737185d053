/-
  No cell of these rows narrows 'for every input' (looked for: loops, veiled, ifaces, maps, wideKeys, modest, calm, conditions, laid).
  DERIVED. THE GIVEN ROWS OF THIS SEAT. 4 by the template 'for every input the law returns true; each argument reads behind the call as it read before'; 0 by the template 'total and deterministic' (their statements: YtkhkgoimcbnpaaaTotals.lean).
  GIVEN WITH THE SEED: the statements are not yours to turn. If you find one false, say at which input.
  Laid BY PROGRAM, IN A SANDBOX (cutbox-rows.mjs): the forced cells as the released guide's own fill.sh prints them over the translation 7bb53c1ac6a68db9… (all of the seat's roots in one cut). By AI agents, Wed Nov 11 2026. No macro, syntax, notation, axiom, sorry.
-/
import Derived.Test.YtkhkgoimcbnpaaaChecked
import GoSem.Claim
import GoSem.ClaimJoined
import GoSem.ClaimMapViews
import Derived.JoinedTies
import Derived.KernelRfl
namespace Go.Proofs.Ytkhkgoimcbnpaaa
/- THE CELL 'sum', in the pinned program and in every row, IS THE sha256 OF THE DUMP (.gsa) THAT YtkhkgoimcbnpaaaProg.lean LOADS. Nothing in Lean hashes anything: it is a label: what it is worth is what the hold of that sum in a sandbox is worth. -/
noncomputable def Try.pinned : Pinned := { name := "ytkhkgoimcbnpaaa", sum := "7bb53c1ac6a68db971f5270412f1b75fc18f9ab5dae7c56bcafca23ff26616d9", checked := Try.checked }
namespace Rows
def none {H : Type} : Left H := { results := [], args := [] }

/-- 'marginalialaw5.DecimalReads': WHATEVER THE INPUT: true; the input reads as it did. -/
def decimalReadsSpec : ChangeSpec := { name := "decimalReads", fn := fun _ => fun
  | [d] => { results := [.lit (.bool true)], args := [d] }
  | _ => none }
def decimalReadsRow : OpenClaim := { program := "ytkhkgoimcbnpaaa", sum := "7bb53c1ac6a68db971f5270412f1b75fc18f9ab5dae7c56bcafca23ff26616d9", func := "marginalia/marginalialaw5.DecimalReads", spec := "decimalReads", inPlace := ["internal/bytealg.IndexByteString", "internal/bytealg.IndexString"], unfollowed := true, recurses := true, named := ["internal/bytealg.MaxLen"], apart := false }
def DecimalReadsSaid : Prop := decimalReadsRow.holds Try.pinned (OpenSpec.ofChange decimalReadsSpec)

/-- ITS FALSE NEIGHBOUR: 'it returns false'. Refute it at one input. -/
def decimalReadsWrong : ChangeSpec := { name := "decimalReads", fn := fun _ => fun
  | [d] => { results := [.lit (.bool false)], args := [d] }
  | _ => none }
def DecimalReadsWrongFalsely : Prop := decimalReadsRow.holds Try.pinned (OpenSpec.ofChange decimalReadsWrong)

/-- 'marginalialaw5.DecimalInts': WHATEVER THE INPUT: true; the input reads as it did. -/
def decimalIntsSpec : ChangeSpec := { name := "decimalInts", fn := fun _ => fun
  | [d1, d2, d3] => { results := [.lit (.bool true)], args := [d1, d2, d3] }
  | _ => none }
def decimalIntsRow : OpenClaim := { program := "ytkhkgoimcbnpaaa", sum := "7bb53c1ac6a68db971f5270412f1b75fc18f9ab5dae7c56bcafca23ff26616d9", func := "marginalia/marginalialaw5.DecimalInts", spec := "decimalInts", inPlace := ["internal/bytealg.IndexByteString", "internal/bytealg.IndexString"], unfollowed := true, recurses := true, named := ["internal/bytealg.MaxLen"], apart := false }
def DecimalIntsSaid : Prop := decimalIntsRow.holds Try.pinned (OpenSpec.ofChange decimalIntsSpec)

/-- ITS FALSE NEIGHBOUR: 'it returns false'. Refute it at one input. -/
def decimalIntsWrong : ChangeSpec := { name := "decimalInts", fn := fun _ => fun
  | [d1, d2, d3] => { results := [.lit (.bool false)], args := [d1, d2, d3] }
  | _ => none }
def DecimalIntsWrongFalsely : Prop := decimalIntsRow.holds Try.pinned (OpenSpec.ofChange decimalIntsWrong)

/-- 'marginalialaw5.DecimalMoves': WHATEVER THE INPUT: true; the input reads as it did. -/
def decimalMovesSpec : ChangeSpec := { name := "decimalMoves", fn := fun _ => fun
  | [d1, d2, d3, d4] => { results := [.lit (.bool true)], args := [d1, d2, d3, d4] }
  | _ => none }
def decimalMovesRow : OpenClaim := { program := "ytkhkgoimcbnpaaa", sum := "7bb53c1ac6a68db971f5270412f1b75fc18f9ab5dae7c56bcafca23ff26616d9", func := "marginalia/marginalialaw5.DecimalMoves", spec := "decimalMoves", inPlace := ["internal/bytealg.IndexByteString", "internal/bytealg.IndexString"], unfollowed := true, recurses := true, named := ["internal/bytealg.MaxLen"], apart := false }
def DecimalMovesSaid : Prop := decimalMovesRow.holds Try.pinned (OpenSpec.ofChange decimalMovesSpec)

/-- ITS FALSE NEIGHBOUR: 'it returns false'. Refute it at one input. -/
def decimalMovesWrong : ChangeSpec := { name := "decimalMoves", fn := fun _ => fun
  | [d1, d2, d3, d4] => { results := [.lit (.bool false)], args := [d1, d2, d3, d4] }
  | _ => none }
def DecimalMovesWrongFalsely : Prop := decimalMovesRow.holds Try.pinned (OpenSpec.ofChange decimalMovesWrong)

/-- 'marginalialaw5.DecimalWrong': WHATEVER THE INPUT: true; the input reads as it did. -/
def decimalWrongSpec : ChangeSpec := { name := "decimalWrong", fn := fun _ => fun
  | [d] => { results := [.lit (.bool true)], args := [d] }
  | _ => none }
def decimalWrongRow : OpenClaim := { program := "ytkhkgoimcbnpaaa", sum := "7bb53c1ac6a68db971f5270412f1b75fc18f9ab5dae7c56bcafca23ff26616d9", func := "marginalia/marginalialaw5.DecimalWrong", spec := "decimalWrong", inPlace := ["internal/bytealg.IndexByteString", "internal/bytealg.IndexString"], unfollowed := true, recurses := true, named := ["internal/bytealg.MaxLen"], apart := false }
def DecimalWrongSaid : Prop := decimalWrongRow.holds Try.pinned (OpenSpec.ofChange decimalWrongSpec)

/-- ITS FALSE NEIGHBOUR: 'it returns false'. Refute it at one input. -/
def decimalWrongWrong : ChangeSpec := { name := "decimalWrong", fn := fun _ => fun
  | [d] => { results := [.lit (.bool false)], args := [d] }
  | _ => none }
def DecimalWrongWrongFalsely : Prop := decimalWrongRow.holds Try.pinned (OpenSpec.ofChange decimalWrongWrong)

/- THE SECOND FORM. 'bulk': how many values and letters a reading holds, each counted each time it is reached (what is shared counts as often as it is met; a slice's spare places count too). A statement '..UptoSaid' is the law's where the arguments, and the package variables that the reading takes, are together of bulk at most 1048576: NARROWER than '..Said'. Prove '..Said' where nothing that the law and all that it calls make is longer than what came in: it says more and counts as full. Else prove '..UptoSaid'. A law counts once. -/
mutual
def uptoBulk {H : Type} : DataW H → Nat
  | .lit (.string bytes) => bytes.length + 1
  | .lit _ => 1
  | .nil => 1
  | .ptr d => uptoBulk d + 1
  | .slice elems spare => uptoBulkAll elems + uptoBulkAll spare + 1
  | .agg parts => uptoBulkAll parts + 1
  | .iface _ d => uptoBulk d + 1
  | .map entries => uptoBulkEntries entries + 1
  | .held _ => 1
def uptoBulkAll {H : Type} : List (DataW H) → Nat
  | [] => 0
  | d :: r => uptoBulk d + uptoBulkAll r
def uptoBulkEntries {H : Type} : List (Lit × DataW H) → Nat
  | [] => 0
  | x :: r => uptoBulkEntry x + uptoBulkEntries r
def uptoBulkEntry {H : Type} : Lit × DataW H → Nat
  | (.string bytes, d) => bytes.length + uptoBulk d + 1
  | (_, d) => uptoBulk d + 1
 end
def uptoSmall : (H : Type) → List (DataW H) → Bool := fun _ ds => decide (uptoBulkAll ds ≤ 1048576)
def OpenSpec.upto (s : _root_.Go.ChangeSpec) : _root_.Go.OpenSpec := { _root_.Go.OpenSpec.ofChange s with cond := some uptoSmall }

/-- 'marginalialaw5.DecimalReads', WHERE WHAT IT READS IS OF BULK AT MOST 1048576: true; the input reads as it did. -/
def decimalReadsUptoRow : OpenClaim := { program := "ytkhkgoimcbnpaaa", sum := "7bb53c1ac6a68db971f5270412f1b75fc18f9ab5dae7c56bcafca23ff26616d9", func := "marginalia/marginalialaw5.DecimalReads", spec := "decimalReads", inPlace := ["internal/bytealg.IndexByteString", "internal/bytealg.IndexString"], unfollowed := true, recurses := true, named := ["internal/bytealg.MaxLen"], apart := false, narrowed := true }
def DecimalReadsUptoSaid : Prop := decimalReadsUptoRow.holds Try.pinned (OpenSpec.upto decimalReadsSpec)

/-- 'marginalialaw5.DecimalInts', WHERE WHAT IT READS IS OF BULK AT MOST 1048576: true; the input reads as it did. -/
def decimalIntsUptoRow : OpenClaim := { program := "ytkhkgoimcbnpaaa", sum := "7bb53c1ac6a68db971f5270412f1b75fc18f9ab5dae7c56bcafca23ff26616d9", func := "marginalia/marginalialaw5.DecimalInts", spec := "decimalInts", inPlace := ["internal/bytealg.IndexByteString", "internal/bytealg.IndexString"], unfollowed := true, recurses := true, named := ["internal/bytealg.MaxLen"], apart := false, narrowed := true }
def DecimalIntsUptoSaid : Prop := decimalIntsUptoRow.holds Try.pinned (OpenSpec.upto decimalIntsSpec)

/-- 'marginalialaw5.DecimalMoves', WHERE WHAT IT READS IS OF BULK AT MOST 1048576: true; the input reads as it did. -/
def decimalMovesUptoRow : OpenClaim := { program := "ytkhkgoimcbnpaaa", sum := "7bb53c1ac6a68db971f5270412f1b75fc18f9ab5dae7c56bcafca23ff26616d9", func := "marginalia/marginalialaw5.DecimalMoves", spec := "decimalMoves", inPlace := ["internal/bytealg.IndexByteString", "internal/bytealg.IndexString"], unfollowed := true, recurses := true, named := ["internal/bytealg.MaxLen"], apart := false, narrowed := true }
def DecimalMovesUptoSaid : Prop := decimalMovesUptoRow.holds Try.pinned (OpenSpec.upto decimalMovesSpec)

/-- 'marginalialaw5.DecimalWrong', WHERE WHAT IT READS IS OF BULK AT MOST 1048576: true; the input reads as it did. -/
def decimalWrongUptoRow : OpenClaim := { program := "ytkhkgoimcbnpaaa", sum := "7bb53c1ac6a68db971f5270412f1b75fc18f9ab5dae7c56bcafca23ff26616d9", func := "marginalia/marginalialaw5.DecimalWrong", spec := "decimalWrong", inPlace := ["internal/bytealg.IndexByteString", "internal/bytealg.IndexString"], unfollowed := true, recurses := true, named := ["internal/bytealg.MaxLen"], apart := false, narrowed := true }
def DecimalWrongUptoSaid : Prop := decimalWrongUptoRow.holds Try.pinned (OpenSpec.upto decimalWrongSpec)

end Rows
end Go.Proofs.Ytkhkgoimcbnpaaa
