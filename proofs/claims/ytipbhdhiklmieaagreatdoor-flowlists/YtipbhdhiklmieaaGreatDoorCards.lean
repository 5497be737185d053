/-
  DERIVED. GIVEN WITH THE SEED: THE CARDS: each row of YtipbhdhiklmieaaGreatDoorRows.lean that lists a variable, with what it lists TIED to the program's text (the seventh form; the later family's looks); each row that meets fmt, with fmt's text TOLD by the authors' own Lean function (tested against real Go, not proved from fmt's source: count such statements apart). THE CARD IS WHAT COUNTS. Prove the row's statement (the work); the ties are given (YtipbhdhiklmieaaGreatDoorTie.lean); close each card by the builder's one call (the guide's Derived/Test/ToyasCard.lean, 'card_holds'). Laid BY PROGRAM, IN A SANDBOX (cutbox-door.mjs). By AI agents, Wed Nov 11 2026. No macro, syntax, notation, axiom, sorry.
-/
import Derived.Test.YtipbhdhiklmieaaGreatDoorRows
import GoSem.ClaimSeven
namespace Go.Proofs.YtipbhdhiklmieaaGreatDoor
namespace Rows

/-- THE TIED CARD OF 'marginalialaw13.FlowNodes'. -/
def flowNodesCard : Claim7 := { stood := { row := flowNodesRow, standIns := [], harness := (true, "79d6d0b470cfa8311cc5446b97bc3e20f77b49fc2ca18704458d2ceebc7a3461"), looks := false }, kinds := [], alts := [], laidByText := true, laidKinds := [.data], laidTests := true, laidLooks := .later }
def FlowNodesCardSaid : Prop := Claim7.holds Tryz.pinned (.plain (OpenSpec.ofChange flowNodesSpec)) flowNodesCard

/-- THE TIED CARD OF 'marginalialaw13.FlowTexts'. -/
def flowTextsCard : Claim7 := { stood := { row := flowTextsRow, standIns := [], harness := (true, "79d6d0b470cfa8311cc5446b97bc3e20f77b49fc2ca18704458d2ceebc7a3461"), looks := false }, kinds := [], alts := [], laidByText := true, laidKinds := [.data], laidTests := true, laidLooks := .later }
def FlowTextsCardSaid : Prop := Claim7.holds Tryz.pinned (.plain (OpenSpec.ofChange flowTextsSpec)) flowTextsCard

/-- THE TIED CARD OF 'marginalialaw13.FlowKeys'. -/
def flowKeysCard : Claim7 := { stood := { row := flowKeysRow, standIns := [], harness := (true, "79d6d0b470cfa8311cc5446b97bc3e20f77b49fc2ca18704458d2ceebc7a3461"), looks := false }, kinds := [], alts := [], laidByText := true, laidKinds := [.data], laidTests := true, laidLooks := .later }
def FlowKeysCardSaid : Prop := Claim7.holds Tryz.pinned (.plain (OpenSpec.ofChange flowKeysSpec)) flowKeysCard

/-- THE TIED CARD OF 'marginalialaw13.FlowLists'. -/
def flowListsCard : Claim7 := { stood := { row := flowListsRow, standIns := [], harness := (true, "79d6d0b470cfa8311cc5446b97bc3e20f77b49fc2ca18704458d2ceebc7a3461"), looks := false }, kinds := [], alts := [], laidByText := true, laidKinds := [.data], laidTests := true, laidLooks := .later }
def FlowListsCardSaid : Prop := Claim7.holds Tryz.pinned (.plain (OpenSpec.ofChange flowListsSpec)) flowListsCard

/-- THE TIED CARD OF 'marginalialaw13.FlowDeep'. -/
def flowDeepCard : Claim7 := { stood := { row := flowDeepRow, standIns := [], harness := (true, "79d6d0b470cfa8311cc5446b97bc3e20f77b49fc2ca18704458d2ceebc7a3461"), looks := false }, kinds := [], alts := [], laidByText := true, laidKinds := [.data], laidTests := true, laidLooks := .later }
def FlowDeepCardSaid : Prop := Claim7.holds Tryz.pinned (.plain (OpenSpec.ofChange flowDeepSpec)) flowDeepCard

/-- THE TIED CARD OF 'marginalialaw13.FlowWrong'. -/
def flowWrongCard : Claim7 := { stood := { row := flowWrongRow, standIns := [], harness := (true, "79d6d0b470cfa8311cc5446b97bc3e20f77b49fc2ca18704458d2ceebc7a3461"), looks := false }, kinds := [], alts := [], laidByText := true, laidKinds := [.data], laidTests := true, laidLooks := .later }
def FlowWrongCardSaid : Prop := Claim7.holds Tryz.pinned (.plain (OpenSpec.ofChange flowWrongSpec)) flowWrongCard

/-- THE SECOND FORM's CARD OF 'marginalialaw13.FlowNodes'. -/
def flowNodesUptoCard : Claim7 := { stood := { row := flowNodesUptoRow, standIns := [], harness := (true, "79d6d0b470cfa8311cc5446b97bc3e20f77b49fc2ca18704458d2ceebc7a3461"), looks := false }, kinds := [], alts := [], laidByText := true, laidKinds := [.data], laidTests := true, laidLooks := .later }
def FlowNodesUptoCardSaid : Prop := Claim7.holds Tryz.pinned (.plain (OpenSpec.upto flowNodesSpec)) flowNodesUptoCard

/-- THE SECOND FORM's CARD OF 'marginalialaw13.FlowTexts'. -/
def flowTextsUptoCard : Claim7 := { stood := { row := flowTextsUptoRow, standIns := [], harness := (true, "79d6d0b470cfa8311cc5446b97bc3e20f77b49fc2ca18704458d2ceebc7a3461"), looks := false }, kinds := [], alts := [], laidByText := true, laidKinds := [.data], laidTests := true, laidLooks := .later }
def FlowTextsUptoCardSaid : Prop := Claim7.holds Tryz.pinned (.plain (OpenSpec.upto flowTextsSpec)) flowTextsUptoCard

/-- THE SECOND FORM's CARD OF 'marginalialaw13.FlowKeys'. -/
def flowKeysUptoCard : Claim7 := { stood := { row := flowKeysUptoRow, standIns := [], harness := (true, "79d6d0b470cfa8311cc5446b97bc3e20f77b49fc2ca18704458d2ceebc7a3461"), looks := false }, kinds := [], alts := [], laidByText := true, laidKinds := [.data], laidTests := true, laidLooks := .later }
def FlowKeysUptoCardSaid : Prop := Claim7.holds Tryz.pinned (.plain (OpenSpec.upto flowKeysSpec)) flowKeysUptoCard

/-- THE SECOND FORM's CARD OF 'marginalialaw13.FlowLists'. -/
def flowListsUptoCard : Claim7 := { stood := { row := flowListsUptoRow, standIns := [], harness := (true, "79d6d0b470cfa8311cc5446b97bc3e20f77b49fc2ca18704458d2ceebc7a3461"), looks := false }, kinds := [], alts := [], laidByText := true, laidKinds := [.data], laidTests := true, laidLooks := .later }
def FlowListsUptoCardSaid : Prop := Claim7.holds Tryz.pinned (.plain (OpenSpec.upto flowListsSpec)) flowListsUptoCard

/-- THE SECOND FORM's CARD OF 'marginalialaw13.FlowDeep'. -/
def flowDeepUptoCard : Claim7 := { stood := { row := flowDeepUptoRow, standIns := [], harness := (true, "79d6d0b470cfa8311cc5446b97bc3e20f77b49fc2ca18704458d2ceebc7a3461"), looks := false }, kinds := [], alts := [], laidByText := true, laidKinds := [.data], laidTests := true, laidLooks := .later }
def FlowDeepUptoCardSaid : Prop := Claim7.holds Tryz.pinned (.plain (OpenSpec.upto flowDeepSpec)) flowDeepUptoCard

/-- THE SECOND FORM's CARD OF 'marginalialaw13.FlowWrong'. -/
def flowWrongUptoCard : Claim7 := { stood := { row := flowWrongUptoRow, standIns := [], harness := (true, "79d6d0b470cfa8311cc5446b97bc3e20f77b49fc2ca18704458d2ceebc7a3461"), looks := false }, kinds := [], alts := [], laidByText := true, laidKinds := [.data], laidTests := true, laidLooks := .later }
def FlowWrongUptoCardSaid : Prop := Claim7.holds Tryz.pinned (.plain (OpenSpec.upto flowWrongSpec)) flowWrongUptoCard
end Rows
end Go.Proofs.YtipbhdhiklmieaaGreatDoor
