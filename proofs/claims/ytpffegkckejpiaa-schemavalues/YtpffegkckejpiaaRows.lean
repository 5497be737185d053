/-
  No cell of these rows narrows 'for every input' (looked for: loops, veiled, ifaces, maps, wideKeys, modest, calm, conditions, laid).
  DERIVED. THE GIVEN ROWS OF THIS SEAT. 5 by the template 'for every input the law returns true; each argument reads behind the call as it read before'; 0 by the template 'total and deterministic' (their statements: YtpffegkckejpiaaTotals.lean).
  GIVEN WITH THE SEED: the statements are not yours to turn. If you find one false, say at which input.
  Laid BY PROGRAM, IN A SANDBOX (cutbox-rows.mjs): the forced cells as the released guide's own fill.sh prints them over the translation d80ff40378fcd30f… (all of the seat's roots in one cut). By AI agents, Wed Nov 11 2026. No macro, syntax, notation, axiom, sorry.
-/
import Derived.Test.YtpffegkckejpiaaChecked
import GoSem.Claim
import GoSem.ClaimJoined
import GoSem.ClaimMapViews
import Derived.JoinedTies
import Derived.KernelRfl
namespace Go.Proofs.Ytpffegkckejpiaa
/- THE CELL 'sum', in the pinned program and in every row, IS THE sha256 OF THE DUMP (.gsa) THAT YtpffegkckejpiaaProg.lean LOADS. Nothing in Lean hashes anything: it is a label: what it is worth is what the hold of that sum in a sandbox is worth. -/
noncomputable def Try.pinned : Pinned := { name := "ytpffegkckejpiaa", sum := "d80ff40378fcd30f1a222374c6e081bbe08de44324352726e8c296db0244c310", checked := Try.checked }
namespace Rows
def none {H : Type} : Left H := { results := [], args := [] }

/-- 'marginalialaw19.SchemaResolves': WHATEVER THE INPUT: true; the input reads as it did. -/
def schemaResolvesSpec : ChangeSpec := { name := "schemaResolves", fn := fun _ => fun
  | [d1, d2, d3, d4, d5] => { results := [.lit (.bool true)], args := [d1, d2, d3, d4, d5] }
  | _ => none }
def schemaResolvesRow : OpenClaim := { program := "ytpffegkckejpiaa", sum := "d80ff40378fcd30f1a222374c6e081bbe08de44324352726e8c296db0244c310", func := "marginalia/marginalialaw19.SchemaResolves", spec := "schemaResolves", inPlace := ["internal/bytealg.IndexByteString", "internal/bytealg.IndexString"], unfollowed := true, recurses := true, named := ["internal/bytealg.MaxLen"], apart := false }
def SchemaResolvesSaid : Prop := schemaResolvesRow.holds Try.pinned (OpenSpec.ofChange schemaResolvesSpec)

/-- ITS FALSE NEIGHBOUR: 'it returns false'. Refute it at one input. -/
def schemaResolvesWrong : ChangeSpec := { name := "schemaResolves", fn := fun _ => fun
  | [d1, d2, d3, d4, d5] => { results := [.lit (.bool false)], args := [d1, d2, d3, d4, d5] }
  | _ => none }
def SchemaResolvesWrongFalsely : Prop := schemaResolvesRow.holds Try.pinned (OpenSpec.ofChange schemaResolvesWrong)

/-- 'marginalialaw19.SchemaValues': WHATEVER THE INPUT: true; the input reads as it did. -/
def schemaValuesSpec : ChangeSpec := { name := "schemaValues", fn := fun _ => fun
  | [d1, d2] => { results := [.lit (.bool true)], args := [d1, d2] }
  | _ => none }
def schemaValuesRow : OpenClaim := { program := "ytpffegkckejpiaa", sum := "d80ff40378fcd30f1a222374c6e081bbe08de44324352726e8c296db0244c310", func := "marginalia/marginalialaw19.SchemaValues", spec := "schemaValues", inPlace := ["internal/bytealg.IndexByteString", "internal/bytealg.IndexString"], unfollowed := true, recurses := true, named := ["internal/bytealg.MaxLen"], apart := false }
def SchemaValuesSaid : Prop := schemaValuesRow.holds Try.pinned (OpenSpec.ofChange schemaValuesSpec)

/-- ITS FALSE NEIGHBOUR: 'it returns false'. Refute it at one input. -/
def schemaValuesWrong : ChangeSpec := { name := "schemaValues", fn := fun _ => fun
  | [d1, d2] => { results := [.lit (.bool false)], args := [d1, d2] }
  | _ => none }
def SchemaValuesWrongFalsely : Prop := schemaValuesRow.holds Try.pinned (OpenSpec.ofChange schemaValuesWrong)

/-- 'marginalialaw19.SchemaFits': WHATEVER THE INPUT: true; the input reads as it did. -/
def schemaFitsSpec : ChangeSpec := { name := "schemaFits", fn := fun _ => fun
  | [d1, d2] => { results := [.lit (.bool true)], args := [d1, d2] }
  | _ => none }
def schemaFitsRow : OpenClaim := { program := "ytpffegkckejpiaa", sum := "d80ff40378fcd30f1a222374c6e081bbe08de44324352726e8c296db0244c310", func := "marginalia/marginalialaw19.SchemaFits", spec := "schemaFits", inPlace := ["internal/bytealg.IndexByteString", "internal/bytealg.IndexString"], unfollowed := true, recurses := true, named := ["internal/bytealg.MaxLen"], apart := false }
def SchemaFitsSaid : Prop := schemaFitsRow.holds Try.pinned (OpenSpec.ofChange schemaFitsSpec)

/-- ITS FALSE NEIGHBOUR: 'it returns false'. Refute it at one input. -/
def schemaFitsWrong : ChangeSpec := { name := "schemaFits", fn := fun _ => fun
  | [d1, d2] => { results := [.lit (.bool false)], args := [d1, d2] }
  | _ => none }
def SchemaFitsWrongFalsely : Prop := schemaFitsRow.holds Try.pinned (OpenSpec.ofChange schemaFitsWrong)

/-- 'marginalialaw19.SchemaWider': WHATEVER THE INPUT: true; the input reads as it did. -/
def schemaWiderSpec : ChangeSpec := { name := "schemaWider", fn := fun _ => fun
  | [d] => { results := [.lit (.bool true)], args := [d] }
  | _ => none }
def schemaWiderRow : OpenClaim := { program := "ytpffegkckejpiaa", sum := "d80ff40378fcd30f1a222374c6e081bbe08de44324352726e8c296db0244c310", func := "marginalia/marginalialaw19.SchemaWider", spec := "schemaWider", inPlace := ["internal/bytealg.IndexByteString", "internal/bytealg.IndexString"], unfollowed := true, recurses := true, named := ["internal/bytealg.MaxLen"], apart := false }
def SchemaWiderSaid : Prop := schemaWiderRow.holds Try.pinned (OpenSpec.ofChange schemaWiderSpec)

/-- ITS FALSE NEIGHBOUR: 'it returns false'. Refute it at one input. -/
def schemaWiderWrong : ChangeSpec := { name := "schemaWider", fn := fun _ => fun
  | [d] => { results := [.lit (.bool false)], args := [d] }
  | _ => none }
def SchemaWiderWrongFalsely : Prop := schemaWiderRow.holds Try.pinned (OpenSpec.ofChange schemaWiderWrong)

/-- 'marginalialaw19.SchemaInts': WHATEVER THE INPUT: true; the input reads as it did. -/
def schemaIntsSpec : ChangeSpec := { name := "schemaInts", fn := fun _ => fun
  | [d1, d2] => { results := [.lit (.bool true)], args := [d1, d2] }
  | _ => none }
def schemaIntsRow : OpenClaim := { program := "ytpffegkckejpiaa", sum := "d80ff40378fcd30f1a222374c6e081bbe08de44324352726e8c296db0244c310", func := "marginalia/marginalialaw19.SchemaInts", spec := "schemaInts", inPlace := ["internal/bytealg.IndexByteString", "internal/bytealg.IndexString"], unfollowed := true, recurses := true, named := ["internal/bytealg.MaxLen"], apart := false }
def SchemaIntsSaid : Prop := schemaIntsRow.holds Try.pinned (OpenSpec.ofChange schemaIntsSpec)

/-- ITS FALSE NEIGHBOUR: 'it returns false'. Refute it at one input. -/
def schemaIntsWrong : ChangeSpec := { name := "schemaInts", fn := fun _ => fun
  | [d1, d2] => { results := [.lit (.bool false)], args := [d1, d2] }
  | _ => none }
def SchemaIntsWrongFalsely : Prop := schemaIntsRow.holds Try.pinned (OpenSpec.ofChange schemaIntsWrong)

/- THE SECOND FORM. 'bulk': how many values and letters a reading holds, each counted each time it is reached (what is shared counts as often as it is met; a slice's spare places count too). A statement '..UptoSaid' is the law's where the arguments, and the package variables that the reading takes, are together of bulk at most 1048576: NARROWER than '..Said'. Prove '..Said' where nothing that the law and all that it calls make is longer than what came in: it says more and counts as full. Else prove '..UptoSaid'. A law counts once. -/
mutual
def uptoBulk {H : Type} : DataW H → Nat
  | .lit (.string bytes) => bytes.length + 1
  | .lit _ => 1
  | .nil => 1
  | .ptr d => uptoBulk d + 1
  | .slice elems spare => uptoBulkAll elems + uptoBulkAll spare + 1
  | .agg parts => uptoBulkAll parts + 1
  | .iface _ d => uptoBulk d + 1
  | .map entries => uptoBulkEntries entries + 1
  | .held _ => 1
def uptoBulkAll {H : Type} : List (DataW H) → Nat
  | [] => 0
  | d :: r => uptoBulk d + uptoBulkAll r
def uptoBulkEntries {H : Type} : List (Lit × DataW H) → Nat
  | [] => 0
  | x :: r => uptoBulkEntry x + uptoBulkEntries r
def uptoBulkEntry {H : Type} : Lit × DataW H → Nat
  | (.string bytes, d) => bytes.length + uptoBulk d + 1
  | (_, d) => uptoBulk d + 1
 end
def uptoSmall : (H : Type) → List (DataW H) → Bool := fun _ ds => decide (uptoBulkAll ds ≤ 1048576)
def OpenSpec.upto (s : _root_.Go.ChangeSpec) : _root_.Go.OpenSpec := { _root_.Go.OpenSpec.ofChange s with cond := some uptoSmall }

/-- 'marginalialaw19.SchemaResolves', WHERE WHAT IT READS IS OF BULK AT MOST 1048576: true; the input reads as it did. -/
def schemaResolvesUptoRow : OpenClaim := { program := "ytpffegkckejpiaa", sum := "d80ff40378fcd30f1a222374c6e081bbe08de44324352726e8c296db0244c310", func := "marginalia/marginalialaw19.SchemaResolves", spec := "schemaResolves", inPlace := ["internal/bytealg.IndexByteString", "internal/bytealg.IndexString"], unfollowed := true, recurses := true, named := ["internal/bytealg.MaxLen"], apart := false, narrowed := true }
def SchemaResolvesUptoSaid : Prop := schemaResolvesUptoRow.holds Try.pinned (OpenSpec.upto schemaResolvesSpec)

/-- 'marginalialaw19.SchemaValues', WHERE WHAT IT READS IS OF BULK AT MOST 1048576: true; the input reads as it did. -/
def schemaValuesUptoRow : OpenClaim := { program := "ytpffegkckejpiaa", sum := "d80ff40378fcd30f1a222374c6e081bbe08de44324352726e8c296db0244c310", func := "marginalia/marginalialaw19.SchemaValues", spec := "schemaValues", inPlace := ["internal/bytealg.IndexByteString", "internal/bytealg.IndexString"], unfollowed := true, recurses := true, named := ["internal/bytealg.MaxLen"], apart := false, narrowed := true }
def SchemaValuesUptoSaid : Prop := schemaValuesUptoRow.holds Try.pinned (OpenSpec.upto schemaValuesSpec)

/-- 'marginalialaw19.SchemaFits', WHERE WHAT IT READS IS OF BULK AT MOST 1048576: true; the input reads as it did. -/
def schemaFitsUptoRow : OpenClaim := { program := "ytpffegkckejpiaa", sum := "d80ff40378fcd30f1a222374c6e081bbe08de44324352726e8c296db0244c310", func := "marginalia/marginalialaw19.SchemaFits", spec := "schemaFits", inPlace := ["internal/bytealg.IndexByteString", "internal/bytealg.IndexString"], unfollowed := true, recurses := true, named := ["internal/bytealg.MaxLen"], apart := false, narrowed := true }
def SchemaFitsUptoSaid : Prop := schemaFitsUptoRow.holds Try.pinned (OpenSpec.upto schemaFitsSpec)

/-- 'marginalialaw19.SchemaWider', WHERE WHAT IT READS IS OF BULK AT MOST 1048576: true; the input reads as it did. -/
def schemaWiderUptoRow : OpenClaim := { program := "ytpffegkckejpiaa", sum := "d80ff40378fcd30f1a222374c6e081bbe08de44324352726e8c296db0244c310", func := "marginalia/marginalialaw19.SchemaWider", spec := "schemaWider", inPlace := ["internal/bytealg.IndexByteString", "internal/bytealg.IndexString"], unfollowed := true, recurses := true, named := ["internal/bytealg.MaxLen"], apart := false, narrowed := true }
def SchemaWiderUptoSaid : Prop := schemaWiderUptoRow.holds Try.pinned (OpenSpec.upto schemaWiderSpec)

/-- 'marginalialaw19.SchemaInts', WHERE WHAT IT READS IS OF BULK AT MOST 1048576: true; the input reads as it did. -/
def schemaIntsUptoRow : OpenClaim := { program := "ytpffegkckejpiaa", sum := "d80ff40378fcd30f1a222374c6e081bbe08de44324352726e8c296db0244c310", func := "marginalia/marginalialaw19.SchemaInts", spec := "schemaInts", inPlace := ["internal/bytealg.IndexByteString", "internal/bytealg.IndexString"], unfollowed := true, recurses := true, named := ["internal/bytealg.MaxLen"], apart := false, narrowed := true }
def SchemaIntsUptoSaid : Prop := schemaIntsUptoRow.holds Try.pinned (OpenSpec.upto schemaIntsSpec)

end Rows
end Go.Proofs.Ytpffegkckejpiaa
