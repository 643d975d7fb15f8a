/-
  DERIVED. GIVEN WITH THE SEED: THE CARDS: each row of YtekjlbbacieafaaDoorRows.lean that lists a variable, with what it lists TIED to the program's text (the seventh form; the later family's looks); each row that meets fmt, with fmt's text TOLD by the authors' own Lean function (tested against real Go, not proved from fmt's source: count such statements apart). THE CARD IS WHAT COUNTS. Prove the row's statement (the work); the ties are given (YtekjlbbacieafaaDoorTie.lean); close each card by the builder's one call (the guide's Derived/Test/ToyasCard.lean, 'card_holds'). Laid BY PROGRAM, IN A SANDBOX (cutbox-door.mjs). By AI agents, Wed Nov 11 2026. No macro, syntax, notation, axiom, sorry.
-/
import Derived.Test.YtekjlbbacieafaaDoorRows
import GoSem.ClaimSeven
namespace Go.Proofs.YtekjlbbacieafaaDoor
namespace Rows

/-- THE TIED CARD OF 'wylaw.StoreSays'. -/
def storeSaysCard : Claim7 := { stood := { row := storeSaysRow, standIns := [], harness := (true, "d2aa74881ffbf2b989640b9cac6dd86c60ad9594542ffb0b8a524bd95780695c"), looks := false }, kinds := [], alts := [], laidByText := true, laidKinds := [.data, .pinned], laidTests := true, laidLooks := .later }
def StoreSaysCardSaid : Prop := Claim7.holds Tryd.pinned (.plain (OpenSpec.ofChange storeSaysSpec)) storeSaysCard

/-- THE TIED CARD OF 'wylaw.StorePuts'. -/
def storePutsCard : Claim7 := { stood := { row := storePutsRow, standIns := [], harness := (true, "d2aa74881ffbf2b989640b9cac6dd86c60ad9594542ffb0b8a524bd95780695c"), looks := false }, kinds := [], alts := [], laidByText := true, laidKinds := [.data, .pinned], laidTests := true, laidLooks := .later }
def StorePutsCardSaid : Prop := Claim7.holds Tryd.pinned (.plain (OpenSpec.ofChange storePutsSpec)) storePutsCard

/-- THE TIED CARD OF 'wykeep.StoreParts'. -/
def storePartsCard : Claim7 := { stood := { row := storePartsRow, standIns := [], harness := (true, "d2aa74881ffbf2b989640b9cac6dd86c60ad9594542ffb0b8a524bd95780695c"), looks := false }, kinds := [], alts := [], laidByText := true, laidKinds := [.data, .pinned], laidTests := true, laidLooks := .later }
def StorePartsCardSaid : Prop := Claim7.holds Tryd.pinned (.plain (OpenSpec.ofChange storePartsSpec)) storePartsCard

/-- THE TIED CARD OF 'wykeep.StoreChanges'. -/
def storeChangesCard : Claim7 := { stood := { row := storeChangesRow, standIns := [], harness := (true, "d2aa74881ffbf2b989640b9cac6dd86c60ad9594542ffb0b8a524bd95780695c"), looks := false }, kinds := [], alts := [], laidByText := true, laidKinds := [.data, .pinned], laidTests := true, laidLooks := .later }
def StoreChangesCardSaid : Prop := Claim7.holds Tryd.pinned (.plain (OpenSpec.ofChange storeChangesSpec)) storeChangesCard

/-- THE TIED CARD OF 'wykeep.StoreReads'. -/
def storeReadsCard : Claim7 := { stood := { row := storeReadsRow, standIns := [], harness := (true, "d2aa74881ffbf2b989640b9cac6dd86c60ad9594542ffb0b8a524bd95780695c"), looks := false }, kinds := [], alts := [], laidByText := true, laidKinds := [.data, .pinned], laidTests := true, laidLooks := .later }
def StoreReadsCardSaid : Prop := Claim7.holds Tryd.pinned (.plain (OpenSpec.ofChange storeReadsSpec)) storeReadsCard

/-- THE TIED CARD OF 'wykeep.StoreHist'. -/
def storeHistCard : Claim7 := { stood := { row := storeHistRow, standIns := [], harness := (true, "d2aa74881ffbf2b989640b9cac6dd86c60ad9594542ffb0b8a524bd95780695c"), looks := false }, kinds := [], alts := [], laidByText := true, laidKinds := [.data, .pinned], laidTests := true, laidLooks := .later }
def StoreHistCardSaid : Prop := Claim7.holds Tryd.pinned (.plain (OpenSpec.ofChange storeHistSpec)) storeHistCard

/-- THE TIED CARD OF 'wykeep.StoreLife'. -/
def storeLifeCard : Claim7 := { stood := { row := storeLifeRow, standIns := [], harness := (true, "d2aa74881ffbf2b989640b9cac6dd86c60ad9594542ffb0b8a524bd95780695c"), looks := false }, kinds := [], alts := [], laidByText := true, laidKinds := [.data, .pinned], laidTests := true, laidLooks := .later }
def StoreLifeCardSaid : Prop := Claim7.holds Tryd.pinned (.plain (OpenSpec.ofChange storeLifeSpec)) storeLifeCard

/-- THE TIED CARD OF 'wykeep.StoreWays'. -/
def storeWaysCard : Claim7 := { stood := { row := storeWaysRow, standIns := [], harness := (true, "d2aa74881ffbf2b989640b9cac6dd86c60ad9594542ffb0b8a524bd95780695c"), looks := false }, kinds := [], alts := [], laidByText := true, laidKinds := [.data, .pinned], laidTests := true, laidLooks := .later }
def StoreWaysCardSaid : Prop := Claim7.holds Tryd.pinned (.plain (OpenSpec.ofChange storeWaysSpec)) storeWaysCard

/-- THE TIED CARD OF 'wykeep.StoreMore'. -/
def storeMoreCard : Claim7 := { stood := { row := storeMoreRow, standIns := [], harness := (true, "d2aa74881ffbf2b989640b9cac6dd86c60ad9594542ffb0b8a524bd95780695c"), looks := false }, kinds := [], alts := [], laidByText := true, laidKinds := [.data, .pinned], laidTests := true, laidLooks := .later }
def StoreMoreCardSaid : Prop := Claim7.holds Tryd.pinned (.plain (OpenSpec.ofChange storeMoreSpec)) storeMoreCard

/-- THE SECOND FORM's CARD OF 'wylaw.StoreSays'. -/
def storeSaysUptoCard : Claim7 := { stood := { row := storeSaysUptoRow, standIns := [], harness := (true, "d2aa74881ffbf2b989640b9cac6dd86c60ad9594542ffb0b8a524bd95780695c"), looks := false }, kinds := [], alts := [], laidByText := true, laidKinds := [.data, .pinned], laidTests := true, laidLooks := .later }
def StoreSaysUptoCardSaid : Prop := Claim7.holds Tryd.pinned (.plain (OpenSpec.upto storeSaysSpec)) storeSaysUptoCard

/-- THE SECOND FORM's CARD OF 'wylaw.StorePuts'. -/
def storePutsUptoCard : Claim7 := { stood := { row := storePutsUptoRow, standIns := [], harness := (true, "d2aa74881ffbf2b989640b9cac6dd86c60ad9594542ffb0b8a524bd95780695c"), looks := false }, kinds := [], alts := [], laidByText := true, laidKinds := [.data, .pinned], laidTests := true, laidLooks := .later }
def StorePutsUptoCardSaid : Prop := Claim7.holds Tryd.pinned (.plain (OpenSpec.upto storePutsSpec)) storePutsUptoCard

/-- THE SECOND FORM's CARD OF 'wykeep.StoreParts'. -/
def storePartsUptoCard : Claim7 := { stood := { row := storePartsUptoRow, standIns := [], harness := (true, "d2aa74881ffbf2b989640b9cac6dd86c60ad9594542ffb0b8a524bd95780695c"), looks := false }, kinds := [], alts := [], laidByText := true, laidKinds := [.data, .pinned], laidTests := true, laidLooks := .later }
def StorePartsUptoCardSaid : Prop := Claim7.holds Tryd.pinned (.plain (OpenSpec.upto storePartsSpec)) storePartsUptoCard

/-- THE SECOND FORM's CARD OF 'wykeep.StoreChanges'. -/
def storeChangesUptoCard : Claim7 := { stood := { row := storeChangesUptoRow, standIns := [], harness := (true, "d2aa74881ffbf2b989640b9cac6dd86c60ad9594542ffb0b8a524bd95780695c"), looks := false }, kinds := [], alts := [], laidByText := true, laidKinds := [.data, .pinned], laidTests := true, laidLooks := .later }
def StoreChangesUptoCardSaid : Prop := Claim7.holds Tryd.pinned (.plain (OpenSpec.upto storeChangesSpec)) storeChangesUptoCard

/-- THE SECOND FORM's CARD OF 'wykeep.StoreReads'. -/
def storeReadsUptoCard : Claim7 := { stood := { row := storeReadsUptoRow, standIns := [], harness := (true, "d2aa74881ffbf2b989640b9cac6dd86c60ad9594542ffb0b8a524bd95780695c"), looks := false }, kinds := [], alts := [], laidByText := true, laidKinds := [.data, .pinned], laidTests := true, laidLooks := .later }
def StoreReadsUptoCardSaid : Prop := Claim7.holds Tryd.pinned (.plain (OpenSpec.upto storeReadsSpec)) storeReadsUptoCard

/-- THE SECOND FORM's CARD OF 'wykeep.StoreHist'. -/
def storeHistUptoCard : Claim7 := { stood := { row := storeHistUptoRow, standIns := [], harness := (true, "d2aa74881ffbf2b989640b9cac6dd86c60ad9594542ffb0b8a524bd95780695c"), looks := false }, kinds := [], alts := [], laidByText := true, laidKinds := [.data, .pinned], laidTests := true, laidLooks := .later }
def StoreHistUptoCardSaid : Prop := Claim7.holds Tryd.pinned (.plain (OpenSpec.upto storeHistSpec)) storeHistUptoCard

/-- THE SECOND FORM's CARD OF 'wykeep.StoreLife'. -/
def storeLifeUptoCard : Claim7 := { stood := { row := storeLifeUptoRow, standIns := [], harness := (true, "d2aa74881ffbf2b989640b9cac6dd86c60ad9594542ffb0b8a524bd95780695c"), looks := false }, kinds := [], alts := [], laidByText := true, laidKinds := [.data, .pinned], laidTests := true, laidLooks := .later }
def StoreLifeUptoCardSaid : Prop := Claim7.holds Tryd.pinned (.plain (OpenSpec.upto storeLifeSpec)) storeLifeUptoCard

/-- THE SECOND FORM's CARD OF 'wykeep.StoreWays'. -/
def storeWaysUptoCard : Claim7 := { stood := { row := storeWaysUptoRow, standIns := [], harness := (true, "d2aa74881ffbf2b989640b9cac6dd86c60ad9594542ffb0b8a524bd95780695c"), looks := false }, kinds := [], alts := [], laidByText := true, laidKinds := [.data, .pinned], laidTests := true, laidLooks := .later }
def StoreWaysUptoCardSaid : Prop := Claim7.holds Tryd.pinned (.plain (OpenSpec.upto storeWaysSpec)) storeWaysUptoCard

/-- THE SECOND FORM's CARD OF 'wykeep.StoreMore'. -/
def storeMoreUptoCard : Claim7 := { stood := { row := storeMoreUptoRow, standIns := [], harness := (true, "d2aa74881ffbf2b989640b9cac6dd86c60ad9594542ffb0b8a524bd95780695c"), looks := false }, kinds := [], alts := [], laidByText := true, laidKinds := [.data, .pinned], laidTests := true, laidLooks := .later }
def StoreMoreUptoCardSaid : Prop := Claim7.holds Tryd.pinned (.plain (OpenSpec.upto storeMoreSpec)) storeMoreUptoCard
end Rows
end Go.Proofs.YtekjlbbacieafaaDoor
