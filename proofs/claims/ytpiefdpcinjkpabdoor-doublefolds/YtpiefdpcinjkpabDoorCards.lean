/-
  DERIVED. GIVEN WITH THE SEED: THE CARDS: each row of YtpiefdpcinjkpabDoorRows.lean that lists a variable, with what it lists TIED to the program's text (the seventh form; the later family's looks); each row that meets fmt, with fmt's text TOLD by the authors' own Lean function (tested against real Go, not proved from fmt's source: count such statements apart). THE CARD IS WHAT COUNTS. Prove the row's statement (the work); the ties are given (YtpiefdpcinjkpabDoorTie.lean); close each card by the builder's one call (the guide's Derived/Test/ToyasCard.lean, 'card_holds'). Laid BY PROGRAM, IN A SANDBOX (cutbox-door.mjs). By AI agents, Wed Nov 11 2026. No macro, syntax, notation, axiom, sorry.
-/
import Derived.Test.YtpiefdpcinjkpabDoorRows
import GoSem.ClaimSeven
namespace Go.Proofs.YtpiefdpcinjkpabDoor
namespace Rows

/-- THE TIED CARD OF 'marginalialaw7.DoubleFolds'. -/
def doubleFoldsCard : Claim7 := { stood := { row := doubleFoldsRow, standIns := [], harness := (true, "48d1a49662c8a9faf47b1cc612f18d6ab8148daa20251e906e92dcd86d222b48"), looks := false }, kinds := [], alts := [], laidByText := true, laidKinds := [.data], laidTests := true, laidLooks := .later }
def DoubleFoldsCardSaid : Prop := Claim7.holds Tryd.pinned (.plain (OpenSpec.ofChange doubleFoldsSpec)) doubleFoldsCard

/-- THE TIED CARD OF 'marginalialaw7.DoubleNames'. -/
def doubleNamesCard : Claim7 := { stood := { row := doubleNamesRow, standIns := [], harness := (true, "48d1a49662c8a9faf47b1cc612f18d6ab8148daa20251e906e92dcd86d222b48"), looks := false }, kinds := [], alts := [], laidByText := true, laidKinds := [.data], laidTests := true, laidLooks := .later }
def DoubleNamesCardSaid : Prop := Claim7.holds Tryd.pinned (.plain (OpenSpec.ofChange doubleNamesSpec)) doubleNamesCard

/-- THE SECOND FORM's CARD OF 'marginalialaw7.DoubleFolds'. -/
def doubleFoldsUptoCard : Claim7 := { stood := { row := doubleFoldsUptoRow, standIns := [], harness := (true, "48d1a49662c8a9faf47b1cc612f18d6ab8148daa20251e906e92dcd86d222b48"), looks := false }, kinds := [], alts := [], laidByText := true, laidKinds := [.data], laidTests := true, laidLooks := .later }
def DoubleFoldsUptoCardSaid : Prop := Claim7.holds Tryd.pinned (.plain (OpenSpec.upto doubleFoldsSpec)) doubleFoldsUptoCard

/-- THE SECOND FORM's CARD OF 'marginalialaw7.DoubleNames'. -/
def doubleNamesUptoCard : Claim7 := { stood := { row := doubleNamesUptoRow, standIns := [], harness := (true, "48d1a49662c8a9faf47b1cc612f18d6ab8148daa20251e906e92dcd86d222b48"), looks := false }, kinds := [], alts := [], laidByText := true, laidKinds := [.data], laidTests := true, laidLooks := .later }
def DoubleNamesUptoCardSaid : Prop := Claim7.holds Tryd.pinned (.plain (OpenSpec.upto doubleNamesSpec)) doubleNamesUptoCard
end Rows
end Go.Proofs.YtpiefdpcinjkpabDoor
