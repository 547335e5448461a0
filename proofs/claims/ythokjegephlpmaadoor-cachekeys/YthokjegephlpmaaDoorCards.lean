/-
  DERIVED. GIVEN WITH THE SEED: THE CARDS: each row of YthokjegephlpmaaDoorRows.lean that lists a variable, with what it lists TIED to the program's text (the seventh form; the later family's looks); each row that meets fmt, with fmt's text TOLD by the authors' own Lean function (tested against real Go, not proved from fmt's source: count such statements apart). THE CARD IS WHAT COUNTS. Prove the row's statement (the work); the ties are given (YthokjegephlpmaaDoorTie.lean); close each card by the builder's one call (the guide's Derived/Test/ToyasCard.lean, 'card_holds'). Laid BY PROGRAM, IN A SANDBOX (cutbox-door.mjs). By AI agents, Wed Nov 11 2026. No macro, syntax, notation, axiom, sorry.
-/
import Derived.Test.YthokjegephlpmaaDoorRows
import GoSem.ClaimSeven
namespace Go.Proofs.YthokjegephlpmaaDoor
namespace Rows

/-- THE TIED CARD OF 'kilnfieldlaw2.CacheKeys'. -/
def cacheKeysCard : Claim7 := { stood := { row := cacheKeysRow, standIns := [], harness := (true, "e3d0d8100a0a15cef3be2029ede248cce1f768f7bb793cca61db173eae2e90e3"), looks := true }, kinds := [], alts := [], laidByText := true, laidKinds := [.data, .data, .data, .sentinel], laidTests := true, laidLooks := .later }
def CacheKeysCardSaid : Prop := Claim7.holds Tryd.pinned (.plain (OpenSpec.ofChange cacheKeysSpec)) cacheKeysCard

/-- THE TIED CARD OF 'kilnfieldlaw2.CacheNew'. -/
def cacheNewCard : Claim7 := { stood := { row := cacheNewRow, standIns := [], harness := (true, "e3d0d8100a0a15cef3be2029ede248cce1f768f7bb793cca61db173eae2e90e3"), looks := true }, kinds := [], alts := [], laidByText := true, laidKinds := [.sentinel], laidTests := true, laidLooks := .later }
def CacheNewCardSaid : Prop := Claim7.holds Tryd.pinned (.plain (OpenSpec.ofChange cacheNewSpec)) cacheNewCard

/-- THE TIED CARD OF 'kilnfieldlaw2.CacheActs'. -/
def cacheActsCard : Claim7 := { stood := { row := cacheActsRow, standIns := [], harness := (true, "e3d0d8100a0a15cef3be2029ede248cce1f768f7bb793cca61db173eae2e90e3"), looks := true }, kinds := [], alts := [], laidByText := true, laidKinds := [.handle, .sentinel, .sentinel, .sentinel, .sentinel, .sentinel, .sentinel, .sentinel, .sentinel, .sentinel, .sentinel, .sentinel, .sentinel], laidTests := true, laidLooks := .later }
def CacheActsCardSaid : Prop := Claim7.holds Tryd.pinned (.plain (OpenSpec.ofChange cacheActsSpec)) cacheActsCard

/-- THE SECOND FORM's CARD OF 'kilnfieldlaw2.CacheKeys'. -/
def cacheKeysUptoCard : Claim7 := { stood := { row := cacheKeysUptoRow, standIns := [], harness := (true, "e3d0d8100a0a15cef3be2029ede248cce1f768f7bb793cca61db173eae2e90e3"), looks := true }, kinds := [], alts := [], laidByText := true, laidKinds := [.data, .data, .data, .sentinel], laidTests := true, laidLooks := .later }
def CacheKeysUptoCardSaid : Prop := Claim7.holds Tryd.pinned (.plain (OpenSpec.upto cacheKeysSpec)) cacheKeysUptoCard

/-- THE SECOND FORM's CARD OF 'kilnfieldlaw2.CacheNew'. -/
def cacheNewUptoCard : Claim7 := { stood := { row := cacheNewUptoRow, standIns := [], harness := (true, "e3d0d8100a0a15cef3be2029ede248cce1f768f7bb793cca61db173eae2e90e3"), looks := true }, kinds := [], alts := [], laidByText := true, laidKinds := [.sentinel], laidTests := true, laidLooks := .later }
def CacheNewUptoCardSaid : Prop := Claim7.holds Tryd.pinned (.plain (OpenSpec.upto cacheNewSpec)) cacheNewUptoCard

/-- THE SECOND FORM's CARD OF 'kilnfieldlaw2.CacheActs'. -/
def cacheActsUptoCard : Claim7 := { stood := { row := cacheActsUptoRow, standIns := [], harness := (true, "e3d0d8100a0a15cef3be2029ede248cce1f768f7bb793cca61db173eae2e90e3"), looks := true }, kinds := [], alts := [], laidByText := true, laidKinds := [.handle, .sentinel, .sentinel, .sentinel, .sentinel, .sentinel, .sentinel, .sentinel, .sentinel, .sentinel, .sentinel, .sentinel, .sentinel], laidTests := true, laidLooks := .later }
def CacheActsUptoCardSaid : Prop := Claim7.holds Tryd.pinned (.plain (OpenSpec.upto cacheActsSpec)) cacheActsUptoCard
end Rows
end Go.Proofs.YthokjegephlpmaaDoor
