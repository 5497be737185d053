/-
  DERIVED. GIVEN WITH THE SEED: THE CARDS: each row of YtpiefdpcinjkpaaDoorRows.lean that lists a variable, with what it lists TIED to the program's text (the seventh form; the later family's looks); each row that meets fmt, with fmt's text TOLD by the authors' own Lean function (tested against real Go, not proved from fmt's source: count such statements apart). THE CARD IS WHAT COUNTS. Prove the row's statement (the work); the ties are given (YtpiefdpcinjkpaaDoorTie.lean); close each card by the builder's one call (the guide's Derived/Test/ToyasCard.lean, 'card_holds'). Laid BY PROGRAM, IN A SANDBOX (cutbox-door.mjs). By AI agents, Wed Nov 11 2026. No macro, syntax, notation, axiom, sorry.
-/
import Derived.Test.YtpiefdpcinjkpaaDoorRows
import GoSem.ClaimSeven
namespace Go.Proofs.YtpiefdpcinjkpaaDoor
namespace Rows

/-- THE TIED CARD OF 'marginalialaw7.DoubleReads'. -/
def doubleReadsCard : Claim7 := { stood := { row := doubleReadsRow, standIns := [], harness := (true, "d107708a2959b90babb90142fe2dafcad1e930c2ab92fce3b8127ed3588fad4a"), looks := false }, kinds := [], alts := [], laidByText := true, laidKinds := [.data], laidTests := true, laidLooks := .later }
def DoubleReadsCardSaid : Prop := Claim7.holds Tryd.pinned (.plain (OpenSpec.ofChange doubleReadsSpec)) doubleReadsCard

/-- THE TIED CARD OF 'marginalialaw7.DoubleEnds'. -/
def doubleEndsCard : Claim7 := { stood := { row := doubleEndsRow, standIns := [], harness := (true, "d107708a2959b90babb90142fe2dafcad1e930c2ab92fce3b8127ed3588fad4a"), looks := false }, kinds := [], alts := [], laidByText := true, laidKinds := [.data], laidTests := true, laidLooks := .later }
def DoubleEndsCardSaid : Prop := Claim7.holds Tryd.pinned (.plain (OpenSpec.ofChange doubleEndsSpec)) doubleEndsCard

/-- THE TIED CARD OF 'marginalialaw7.DoubleBack'. -/
def doubleBackCard : Claim7 := { stood := { row := doubleBackRow, standIns := [], harness := (true, "d107708a2959b90babb90142fe2dafcad1e930c2ab92fce3b8127ed3588fad4a"), looks := false }, kinds := [], alts := [], laidByText := true, laidKinds := [.data], laidTests := true, laidLooks := .later }
def DoubleBackCardSaid : Prop := Claim7.holds Tryd.pinned (.plain (OpenSpec.ofChange doubleBackSpec)) doubleBackCard

/-- THE TIED CARD OF 'marginalialaw7.DoublePlain'. -/
def doublePlainCard : Claim7 := { stood := { row := doublePlainRow, standIns := [], harness := (true, "d107708a2959b90babb90142fe2dafcad1e930c2ab92fce3b8127ed3588fad4a"), looks := false }, kinds := [], alts := [], laidByText := true, laidKinds := [.data], laidTests := true, laidLooks := .later }
def DoublePlainCardSaid : Prop := Claim7.holds Tryd.pinned (.plain (OpenSpec.ofChange doublePlainSpec)) doublePlainCard

/-- THE TIED CARD OF 'marginalialaw7.DoubleEscapes'. -/
def doubleEscapesCard : Claim7 := { stood := { row := doubleEscapesRow, standIns := [], harness := (true, "d107708a2959b90babb90142fe2dafcad1e930c2ab92fce3b8127ed3588fad4a"), looks := false }, kinds := [], alts := [], laidByText := true, laidKinds := [.data], laidTests := true, laidLooks := .later }
def DoubleEscapesCardSaid : Prop := Claim7.holds Tryd.pinned (.plain (OpenSpec.ofChange doubleEscapesSpec)) doubleEscapesCard

/-- THE TIED CARD OF 'marginalialaw7.DoubleJoins'. -/
def doubleJoinsCard : Claim7 := { stood := { row := doubleJoinsRow, standIns := [], harness := (true, "d107708a2959b90babb90142fe2dafcad1e930c2ab92fce3b8127ed3588fad4a"), looks := false }, kinds := [], alts := [], laidByText := true, laidKinds := [.data], laidTests := true, laidLooks := .later }
def DoubleJoinsCardSaid : Prop := Claim7.holds Tryd.pinned (.plain (OpenSpec.ofChange doubleJoinsSpec)) doubleJoinsCard

/-- THE SECOND FORM's CARD OF 'marginalialaw7.DoubleReads'. -/
def doubleReadsUptoCard : Claim7 := { stood := { row := doubleReadsUptoRow, standIns := [], harness := (true, "d107708a2959b90babb90142fe2dafcad1e930c2ab92fce3b8127ed3588fad4a"), looks := false }, kinds := [], alts := [], laidByText := true, laidKinds := [.data], laidTests := true, laidLooks := .later }
def DoubleReadsUptoCardSaid : Prop := Claim7.holds Tryd.pinned (.plain (OpenSpec.upto doubleReadsSpec)) doubleReadsUptoCard

/-- THE SECOND FORM's CARD OF 'marginalialaw7.DoubleEnds'. -/
def doubleEndsUptoCard : Claim7 := { stood := { row := doubleEndsUptoRow, standIns := [], harness := (true, "d107708a2959b90babb90142fe2dafcad1e930c2ab92fce3b8127ed3588fad4a"), looks := false }, kinds := [], alts := [], laidByText := true, laidKinds := [.data], laidTests := true, laidLooks := .later }
def DoubleEndsUptoCardSaid : Prop := Claim7.holds Tryd.pinned (.plain (OpenSpec.upto doubleEndsSpec)) doubleEndsUptoCard

/-- THE SECOND FORM's CARD OF 'marginalialaw7.DoubleBack'. -/
def doubleBackUptoCard : Claim7 := { stood := { row := doubleBackUptoRow, standIns := [], harness := (true, "d107708a2959b90babb90142fe2dafcad1e930c2ab92fce3b8127ed3588fad4a"), looks := false }, kinds := [], alts := [], laidByText := true, laidKinds := [.data], laidTests := true, laidLooks := .later }
def DoubleBackUptoCardSaid : Prop := Claim7.holds Tryd.pinned (.plain (OpenSpec.upto doubleBackSpec)) doubleBackUptoCard

/-- THE SECOND FORM's CARD OF 'marginalialaw7.DoublePlain'. -/
def doublePlainUptoCard : Claim7 := { stood := { row := doublePlainUptoRow, standIns := [], harness := (true, "d107708a2959b90babb90142fe2dafcad1e930c2ab92fce3b8127ed3588fad4a"), looks := false }, kinds := [], alts := [], laidByText := true, laidKinds := [.data], laidTests := true, laidLooks := .later }
def DoublePlainUptoCardSaid : Prop := Claim7.holds Tryd.pinned (.plain (OpenSpec.upto doublePlainSpec)) doublePlainUptoCard

/-- THE SECOND FORM's CARD OF 'marginalialaw7.DoubleEscapes'. -/
def doubleEscapesUptoCard : Claim7 := { stood := { row := doubleEscapesUptoRow, standIns := [], harness := (true, "d107708a2959b90babb90142fe2dafcad1e930c2ab92fce3b8127ed3588fad4a"), looks := false }, kinds := [], alts := [], laidByText := true, laidKinds := [.data], laidTests := true, laidLooks := .later }
def DoubleEscapesUptoCardSaid : Prop := Claim7.holds Tryd.pinned (.plain (OpenSpec.upto doubleEscapesSpec)) doubleEscapesUptoCard

/-- THE SECOND FORM's CARD OF 'marginalialaw7.DoubleJoins'. -/
def doubleJoinsUptoCard : Claim7 := { stood := { row := doubleJoinsUptoRow, standIns := [], harness := (true, "d107708a2959b90babb90142fe2dafcad1e930c2ab92fce3b8127ed3588fad4a"), looks := false }, kinds := [], alts := [], laidByText := true, laidKinds := [.data], laidTests := true, laidLooks := .later }
def DoubleJoinsUptoCardSaid : Prop := Claim7.holds Tryd.pinned (.plain (OpenSpec.upto doubleJoinsSpec)) doubleJoinsUptoCard
end Rows
end Go.Proofs.YtpiefdpcinjkpaaDoor
