/-
  DERIVED. GIVEN WITH THE SEED: THE CARDS: each row of YtmeplgihnlpjcaaGreatDoorRows.lean that lists a variable, with what it lists TIED to the program's text (the seventh form; the later family's looks); each row that meets fmt, with fmt's text TOLD by the authors' own Lean function (tested against real Go, not proved from fmt's source: count such statements apart). THE CARD IS WHAT COUNTS. Prove the row's statement (the work); the ties are given (YtmeplgihnlpjcaaGreatDoorTie.lean); close each card by the builder's one call (the guide's Derived/Test/ToyasCard.lean, 'card_holds'). Laid BY PROGRAM, IN A SANDBOX (cutbox-door.mjs). By AI agents, Wed Nov 11 2026. No macro, syntax, notation, axiom, sorry.
-/
import Derived.Test.YtmeplgihnlpjcaaGreatDoorRows
import GoSem.ClaimSeven
namespace Go.Proofs.YtmeplgihnlpjcaaGreatDoor
namespace Rows

/-- THE TIED CARD OF 'kilnfieldlaw1.GraphEither'. -/
def graphEitherCard : Claim7 := { stood := { row := graphEitherRow, standIns := [], harness := (true, "86af1472c4ac58fedbd0c23f637f494c7204b8b81429fa86ddd35ad7cb53531b"), looks := true }, kinds := [], alts := [], laidByText := true, laidKinds := [.data, .data, .data, .data, .handle, .sentinel, .sentinel, .sentinel, .sentinel, .sentinel, .sentinel, .sentinel, .sentinel, .sentinel, .pinned], laidTests := true, laidLooks := .later }
def GraphEitherCardSaid : Prop := Claim7.holds Tryz.pinned (.plain (OpenSpec.ofChange graphEitherSpec)) graphEitherCard

/-- THE TIED CARD OF 'kilnfieldlaw1.GraphTells'. -/
def graphTellsCard : Claim7 := { stood := { row := graphTellsRow, standIns := [], harness := (true, "86af1472c4ac58fedbd0c23f637f494c7204b8b81429fa86ddd35ad7cb53531b"), looks := true }, kinds := [], alts := [], laidByText := true, laidKinds := [.data, .data, .data, .data, .handle, .sentinel, .sentinel, .sentinel, .sentinel, .sentinel, .sentinel, .sentinel, .sentinel, .sentinel, .sentinel, .sentinel, .sentinel, .sentinel, .sentinel, .pinned], laidTests := true, laidLooks := .later }
def GraphTellsCardSaid : Prop := Claim7.holds Tryz.pinned (.plain (OpenSpec.ofChange graphTellsSpec)) graphTellsCard

/-- THE TIED CARD OF 'kilnfieldlaw1.GraphWhole'. -/
def graphWholeCard : Claim7 := { stood := { row := graphWholeRow, standIns := [], harness := (true, "86af1472c4ac58fedbd0c23f637f494c7204b8b81429fa86ddd35ad7cb53531b"), looks := true }, kinds := [], alts := [], laidByText := true, laidKinds := [.data, .data, .data, .data, .handle, .sentinel, .sentinel, .sentinel, .sentinel, .sentinel, .sentinel, .sentinel, .sentinel, .sentinel, .sentinel, .pinned], laidTests := true, laidLooks := .later }
def GraphWholeCardSaid : Prop := Claim7.holds Tryz.pinned (.plain (OpenSpec.ofChange graphWholeSpec)) graphWholeCard

/-- THE SECOND FORM's CARD OF 'kilnfieldlaw1.GraphEither'. -/
def graphEitherUptoCard : Claim7 := { stood := { row := graphEitherUptoRow, standIns := [], harness := (true, "86af1472c4ac58fedbd0c23f637f494c7204b8b81429fa86ddd35ad7cb53531b"), looks := true }, kinds := [], alts := [], laidByText := true, laidKinds := [.data, .data, .data, .data, .handle, .sentinel, .sentinel, .sentinel, .sentinel, .sentinel, .sentinel, .sentinel, .sentinel, .sentinel, .pinned], laidTests := true, laidLooks := .later }
def GraphEitherUptoCardSaid : Prop := Claim7.holds Tryz.pinned (.plain (OpenSpec.upto graphEitherSpec)) graphEitherUptoCard

/-- THE SECOND FORM's CARD OF 'kilnfieldlaw1.GraphTells'. -/
def graphTellsUptoCard : Claim7 := { stood := { row := graphTellsUptoRow, standIns := [], harness := (true, "86af1472c4ac58fedbd0c23f637f494c7204b8b81429fa86ddd35ad7cb53531b"), looks := true }, kinds := [], alts := [], laidByText := true, laidKinds := [.data, .data, .data, .data, .handle, .sentinel, .sentinel, .sentinel, .sentinel, .sentinel, .sentinel, .sentinel, .sentinel, .sentinel, .sentinel, .sentinel, .sentinel, .sentinel, .sentinel, .pinned], laidTests := true, laidLooks := .later }
def GraphTellsUptoCardSaid : Prop := Claim7.holds Tryz.pinned (.plain (OpenSpec.upto graphTellsSpec)) graphTellsUptoCard

/-- THE SECOND FORM's CARD OF 'kilnfieldlaw1.GraphWhole'. -/
def graphWholeUptoCard : Claim7 := { stood := { row := graphWholeUptoRow, standIns := [], harness := (true, "86af1472c4ac58fedbd0c23f637f494c7204b8b81429fa86ddd35ad7cb53531b"), looks := true }, kinds := [], alts := [], laidByText := true, laidKinds := [.data, .data, .data, .data, .handle, .sentinel, .sentinel, .sentinel, .sentinel, .sentinel, .sentinel, .sentinel, .sentinel, .sentinel, .sentinel, .pinned], laidTests := true, laidLooks := .later }
def GraphWholeUptoCardSaid : Prop := Claim7.holds Tryz.pinned (.plain (OpenSpec.upto graphWholeSpec)) graphWholeUptoCard
end Rows
end Go.Proofs.YtmeplgihnlpjcaaGreatDoor
