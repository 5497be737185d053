/-
  No cell of these rows narrows 'for every input' (looked for: loops, veiled, ifaces, maps, wideKeys, modest, calm, conditions, laid).
  DERIVED. THE GIVEN ROWS OF THIS SEAT. 5 by the template 'for every input the law returns true; each argument reads behind the call as it read before'; 0 by the template 'total and deterministic' (their statements: YtgldejcneglpnaaTotals.lean).
  GIVEN WITH THE SEED: the statements are not yours to turn. If you find one false, say at which input.
  Laid BY PROGRAM, IN A SANDBOX (cutbox-rows.mjs): the forced cells as the released guide's own fill.sh prints them over the translation 1173343caa1be962… (all of the seat's roots in one cut). By AI agents, Wed Nov 11 2026. No macro, syntax, notation, axiom, sorry.
-/
import Derived.Test.YtgldejcneglpnaaChecked
import GoSem.Claim
import GoSem.ClaimJoined
import GoSem.ClaimMapViews
import Derived.JoinedTies
import Derived.KernelRfl
namespace Go.Proofs.Ytgldejcneglpnaa
/- THE CELL 'sum', in the pinned program and in every row, IS THE sha256 OF THE DUMP (.gsa) THAT YtgldejcneglpnaaProg.lean LOADS. Nothing in Lean hashes anything: it is a label: what it is worth is what the hold of that sum in a sandbox is worth. -/
noncomputable def Try.pinned : Pinned := { name := "ytgldejcneglpnaa", sum := "1173343caa1be96242a1d5fd219f928552a3c9a187ac2c2eb6cafd8c81653744", checked := Try.checked }
namespace Rows
def none {H : Type} : Left H := { results := [], args := [] }

/-- 'marginalialaw11.PropsRead': WHATEVER THE INPUT: true; the input reads as it did. -/
def propsReadSpec : ChangeSpec := { name := "propsRead", fn := fun _ => fun
  | [d] => { results := [.lit (.bool true)], args := [d] }
  | _ => none }
def propsReadRow : OpenClaim := { program := "ytgldejcneglpnaa", sum := "1173343caa1be96242a1d5fd219f928552a3c9a187ac2c2eb6cafd8c81653744", func := "marginalia/marginalialaw11.PropsRead", spec := "propsRead", unfollowed := true, recurses := true, apart := false }
def PropsReadSaid : Prop := propsReadRow.holds Try.pinned (OpenSpec.ofChange propsReadSpec)

/-- ITS FALSE NEIGHBOUR: 'it returns false'. Refute it at one input. -/
def propsReadWrong : ChangeSpec := { name := "propsRead", fn := fun _ => fun
  | [d] => { results := [.lit (.bool false)], args := [d] }
  | _ => none }
def PropsReadWrongFalsely : Prop := propsReadRow.holds Try.pinned (OpenSpec.ofChange propsReadWrong)

/-- 'marginalialaw11.PropsDirects': WHATEVER THE INPUT: true; the input reads as it did. -/
def propsDirectsSpec : ChangeSpec := { name := "propsDirects", fn := fun _ => fun
  | [d] => { results := [.lit (.bool true)], args := [d] }
  | _ => none }
def propsDirectsRow : OpenClaim := { program := "ytgldejcneglpnaa", sum := "1173343caa1be96242a1d5fd219f928552a3c9a187ac2c2eb6cafd8c81653744", func := "marginalia/marginalialaw11.PropsDirects", spec := "propsDirects", unfollowed := true, recurses := true, apart := false }
def PropsDirectsSaid : Prop := propsDirectsRow.holds Try.pinned (OpenSpec.ofChange propsDirectsSpec)

/-- ITS FALSE NEIGHBOUR: 'it returns false'. Refute it at one input. -/
def propsDirectsWrong : ChangeSpec := { name := "propsDirects", fn := fun _ => fun
  | [d] => { results := [.lit (.bool false)], args := [d] }
  | _ => none }
def PropsDirectsWrongFalsely : Prop := propsDirectsRow.holds Try.pinned (OpenSpec.ofChange propsDirectsWrong)

/-- 'marginalialaw11.PropsValid': WHATEVER THE INPUT: true; the input reads as it did. -/
def propsValidSpec : ChangeSpec := { name := "propsValid", fn := fun _ => fun
  | [d] => { results := [.lit (.bool true)], args := [d] }
  | _ => none }
def propsValidRow : OpenClaim := { program := "ytgldejcneglpnaa", sum := "1173343caa1be96242a1d5fd219f928552a3c9a187ac2c2eb6cafd8c81653744", func := "marginalia/marginalialaw11.PropsValid", spec := "propsValid", unfollowed := true, recurses := true, apart := false }
def PropsValidSaid : Prop := propsValidRow.holds Try.pinned (OpenSpec.ofChange propsValidSpec)

/-- ITS FALSE NEIGHBOUR: 'it returns false'. Refute it at one input. -/
def propsValidWrong : ChangeSpec := { name := "propsValid", fn := fun _ => fun
  | [d] => { results := [.lit (.bool false)], args := [d] }
  | _ => none }
def PropsValidWrongFalsely : Prop := propsValidRow.holds Try.pinned (OpenSpec.ofChange propsValidWrong)

/-- 'marginalialaw11.PropsWhole': WHATEVER THE INPUT: true; the input reads as it did. -/
def propsWholeSpec : ChangeSpec := { name := "propsWhole", fn := fun _ => fun
  | [d1, d2] => { results := [.lit (.bool true)], args := [d1, d2] }
  | _ => none }
def propsWholeRow : OpenClaim := { program := "ytgldejcneglpnaa", sum := "1173343caa1be96242a1d5fd219f928552a3c9a187ac2c2eb6cafd8c81653744", func := "marginalia/marginalialaw11.PropsWhole", spec := "propsWhole", unfollowed := true, recurses := true, apart := false }
def PropsWholeSaid : Prop := propsWholeRow.holds Try.pinned (OpenSpec.ofChange propsWholeSpec)

/-- ITS FALSE NEIGHBOUR: 'it returns false'. Refute it at one input. -/
def propsWholeWrong : ChangeSpec := { name := "propsWhole", fn := fun _ => fun
  | [d1, d2] => { results := [.lit (.bool false)], args := [d1, d2] }
  | _ => none }
def PropsWholeWrongFalsely : Prop := propsWholeRow.holds Try.pinned (OpenSpec.ofChange propsWholeWrong)

/-- 'marginalialaw11.PropsVersions': WHATEVER THE INPUT: true; the input reads as it did. -/
def propsVersionsSpec : ChangeSpec := { name := "propsVersions", fn := fun _ => fun
  | [d1, d2, d3, d4] => { results := [.lit (.bool true)], args := [d1, d2, d3, d4] }
  | _ => none }
def propsVersionsRow : OpenClaim := { program := "ytgldejcneglpnaa", sum := "1173343caa1be96242a1d5fd219f928552a3c9a187ac2c2eb6cafd8c81653744", func := "marginalia/marginalialaw11.PropsVersions", spec := "propsVersions", unfollowed := true, recurses := true, apart := false }
def PropsVersionsSaid : Prop := propsVersionsRow.holds Try.pinned (OpenSpec.ofChange propsVersionsSpec)

/-- ITS FALSE NEIGHBOUR: 'it returns false'. Refute it at one input. -/
def propsVersionsWrong : ChangeSpec := { name := "propsVersions", fn := fun _ => fun
  | [d1, d2, d3, d4] => { results := [.lit (.bool false)], args := [d1, d2, d3, d4] }
  | _ => none }
def PropsVersionsWrongFalsely : Prop := propsVersionsRow.holds Try.pinned (OpenSpec.ofChange propsVersionsWrong)

/- THE SECOND FORM. 'bulk': how many values and letters a reading holds, each counted each time it is reached (what is shared counts as often as it is met; a slice's spare places count too). A statement '..UptoSaid' is the law's where the arguments, and the package variables that the reading takes, are together of bulk at most 1048576: NARROWER than '..Said'. Prove '..Said' where nothing that the law and all that it calls make is longer than what came in: it says more and counts as full. Else prove '..UptoSaid'. A law counts once. -/
mutual
def uptoBulk {H : Type} : DataW H → Nat
  | .lit (.string bytes) => bytes.length + 1
  | .lit _ => 1
  | .nil => 1
  | .ptr d => uptoBulk d + 1
  | .slice elems spare => uptoBulkAll elems + uptoBulkAll spare + 1
  | .agg parts => uptoBulkAll parts + 1
  | .iface _ d => uptoBulk d + 1
  | .map entries => uptoBulkEntries entries + 1
  | .held _ => 1
def uptoBulkAll {H : Type} : List (DataW H) → Nat
  | [] => 0
  | d :: r => uptoBulk d + uptoBulkAll r
def uptoBulkEntries {H : Type} : List (Lit × DataW H) → Nat
  | [] => 0
  | x :: r => uptoBulkEntry x + uptoBulkEntries r
def uptoBulkEntry {H : Type} : Lit × DataW H → Nat
  | (.string bytes, d) => bytes.length + uptoBulk d + 1
  | (_, d) => uptoBulk d + 1
 end
def uptoSmall : (H : Type) → List (DataW H) → Bool := fun _ ds => decide (uptoBulkAll ds ≤ 1048576)
def OpenSpec.upto (s : _root_.Go.ChangeSpec) : _root_.Go.OpenSpec := { _root_.Go.OpenSpec.ofChange s with cond := some uptoSmall }

/-- 'marginalialaw11.PropsRead', WHERE WHAT IT READS IS OF BULK AT MOST 1048576: true; the input reads as it did. -/
def propsReadUptoRow : OpenClaim := { program := "ytgldejcneglpnaa", sum := "1173343caa1be96242a1d5fd219f928552a3c9a187ac2c2eb6cafd8c81653744", func := "marginalia/marginalialaw11.PropsRead", spec := "propsRead", unfollowed := true, recurses := true, apart := false, narrowed := true }
def PropsReadUptoSaid : Prop := propsReadUptoRow.holds Try.pinned (OpenSpec.upto propsReadSpec)

/-- 'marginalialaw11.PropsDirects', WHERE WHAT IT READS IS OF BULK AT MOST 1048576: true; the input reads as it did. -/
def propsDirectsUptoRow : OpenClaim := { program := "ytgldejcneglpnaa", sum := "1173343caa1be96242a1d5fd219f928552a3c9a187ac2c2eb6cafd8c81653744", func := "marginalia/marginalialaw11.PropsDirects", spec := "propsDirects", unfollowed := true, recurses := true, apart := false, narrowed := true }
def PropsDirectsUptoSaid : Prop := propsDirectsUptoRow.holds Try.pinned (OpenSpec.upto propsDirectsSpec)

/-- 'marginalialaw11.PropsValid', WHERE WHAT IT READS IS OF BULK AT MOST 1048576: true; the input reads as it did. -/
def propsValidUptoRow : OpenClaim := { program := "ytgldejcneglpnaa", sum := "1173343caa1be96242a1d5fd219f928552a3c9a187ac2c2eb6cafd8c81653744", func := "marginalia/marginalialaw11.PropsValid", spec := "propsValid", unfollowed := true, recurses := true, apart := false, narrowed := true }
def PropsValidUptoSaid : Prop := propsValidUptoRow.holds Try.pinned (OpenSpec.upto propsValidSpec)

/-- 'marginalialaw11.PropsWhole', WHERE WHAT IT READS IS OF BULK AT MOST 1048576: true; the input reads as it did. -/
def propsWholeUptoRow : OpenClaim := { program := "ytgldejcneglpnaa", sum := "1173343caa1be96242a1d5fd219f928552a3c9a187ac2c2eb6cafd8c81653744", func := "marginalia/marginalialaw11.PropsWhole", spec := "propsWhole", unfollowed := true, recurses := true, apart := false, narrowed := true }
def PropsWholeUptoSaid : Prop := propsWholeUptoRow.holds Try.pinned (OpenSpec.upto propsWholeSpec)

/-- 'marginalialaw11.PropsVersions', WHERE WHAT IT READS IS OF BULK AT MOST 1048576: true; the input reads as it did. -/
def propsVersionsUptoRow : OpenClaim := { program := "ytgldejcneglpnaa", sum := "1173343caa1be96242a1d5fd219f928552a3c9a187ac2c2eb6cafd8c81653744", func := "marginalia/marginalialaw11.PropsVersions", spec := "propsVersions", unfollowed := true, recurses := true, apart := false, narrowed := true }
def PropsVersionsUptoSaid : Prop := propsVersionsUptoRow.holds Try.pinned (OpenSpec.upto propsVersionsSpec)

end Rows
end Go.Proofs.Ytgldejcneglpnaa
