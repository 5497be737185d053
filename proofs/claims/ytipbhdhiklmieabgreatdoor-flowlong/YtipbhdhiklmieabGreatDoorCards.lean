/-
  DERIVED. GIVEN WITH THE SEED: THE CARDS: each row of YtipbhdhiklmieabGreatDoorRows.lean that lists a variable, with what it lists TIED to the program's text (the seventh form; the later family's looks); each row that meets fmt, with fmt's text TOLD by the authors' own Lean function (tested against real Go, not proved from fmt's source: count such statements apart). THE CARD IS WHAT COUNTS. Prove the row's statement (the work); the ties are given (YtipbhdhiklmieabGreatDoorTie.lean); close each card by the builder's one call (the guide's Derived/Test/ToyasCard.lean, 'card_holds'). Laid BY PROGRAM, IN A SANDBOX (cutbox-door.mjs). By AI agents, Wed Nov 11 2026. No macro, syntax, notation, axiom, sorry.
-/
import Derived.Test.YtipbhdhiklmieabGreatDoorRows
import GoSem.ClaimSeven
namespace Go.Proofs.YtipbhdhiklmieabGreatDoor
namespace Rows

/-- THE TIED CARD OF 'marginalialaw13.FlowPairs'. -/
def flowPairsCard : Claim7 := { stood := { row := flowPairsRow, standIns := [], harness := (true, "06a73b63a0f34650e5e805d7b41111116e666fb1c4ca09ac230ff12aa533b58f"), looks := false }, kinds := [], alts := [], laidByText := true, laidKinds := [.data], laidTests := true, laidLooks := .later }
def FlowPairsCardSaid : Prop := Claim7.holds Tryz.pinned (.plain (OpenSpec.ofChange flowPairsSpec)) flowPairsCard

/-- THE TIED CARD OF 'marginalialaw13.FlowProps'. -/
def flowPropsCard : Claim7 := { stood := { row := flowPropsRow, standIns := [], harness := (true, "06a73b63a0f34650e5e805d7b41111116e666fb1c4ca09ac230ff12aa533b58f"), looks := false }, kinds := [], alts := [], laidByText := true, laidKinds := [.data], laidTests := true, laidLooks := .later }
def FlowPropsCardSaid : Prop := Claim7.holds Tryz.pinned (.plain (OpenSpec.ofChange flowPropsSpec)) flowPropsCard

/-- THE TIED CARD OF 'marginalialaw13.FlowLong'. -/
def flowLongCard : Claim7 := { stood := { row := flowLongRow, standIns := [], harness := (true, "06a73b63a0f34650e5e805d7b41111116e666fb1c4ca09ac230ff12aa533b58f"), looks := false }, kinds := [], alts := [], laidByText := true, laidKinds := [.data], laidTests := true, laidLooks := .later }
def FlowLongCardSaid : Prop := Claim7.holds Tryz.pinned (.plain (OpenSpec.ofChange flowLongSpec)) flowLongCard

/-- THE SECOND FORM's CARD OF 'marginalialaw13.FlowPairs'. -/
def flowPairsUptoCard : Claim7 := { stood := { row := flowPairsUptoRow, standIns := [], harness := (true, "06a73b63a0f34650e5e805d7b41111116e666fb1c4ca09ac230ff12aa533b58f"), looks := false }, kinds := [], alts := [], laidByText := true, laidKinds := [.data], laidTests := true, laidLooks := .later }
def FlowPairsUptoCardSaid : Prop := Claim7.holds Tryz.pinned (.plain (OpenSpec.upto flowPairsSpec)) flowPairsUptoCard

/-- THE SECOND FORM's CARD OF 'marginalialaw13.FlowProps'. -/
def flowPropsUptoCard : Claim7 := { stood := { row := flowPropsUptoRow, standIns := [], harness := (true, "06a73b63a0f34650e5e805d7b41111116e666fb1c4ca09ac230ff12aa533b58f"), looks := false }, kinds := [], alts := [], laidByText := true, laidKinds := [.data], laidTests := true, laidLooks := .later }
def FlowPropsUptoCardSaid : Prop := Claim7.holds Tryz.pinned (.plain (OpenSpec.upto flowPropsSpec)) flowPropsUptoCard

/-- THE SECOND FORM's CARD OF 'marginalialaw13.FlowLong'. -/
def flowLongUptoCard : Claim7 := { stood := { row := flowLongUptoRow, standIns := [], harness := (true, "06a73b63a0f34650e5e805d7b41111116e666fb1c4ca09ac230ff12aa533b58f"), looks := false }, kinds := [], alts := [], laidByText := true, laidKinds := [.data], laidTests := true, laidLooks := .later }
def FlowLongUptoCardSaid : Prop := Claim7.holds Tryz.pinned (.plain (OpenSpec.upto flowLongSpec)) flowLongUptoCard
end Rows
end Go.Proofs.YtipbhdhiklmieabGreatDoor
