/-
  DERIVED. GIVEN WITH THE SEED: THE CARDS: each row of YtodlabohijabnaaDoorRows.lean that lists a variable, with what it lists TIED to the program's text (the seventh form; the later family's looks); each row that meets fmt, with fmt's text TOLD by the authors' own Lean function (tested against real Go, not proved from fmt's source: count such statements apart). THE CARD IS WHAT COUNTS. Prove the row's statement (the work); the ties are given (YtodlabohijabnaaDoorTie.lean); close each card by the builder's one call (the guide's Derived/Test/ToyasCard.lean, 'card_holds'). Laid BY PROGRAM, IN A SANDBOX (cutbox-door.mjs). By AI agents, Wed Nov 11 2026. No macro, syntax, notation, axiom, sorry.
-/
import Derived.Test.YtodlabohijabnaaDoorRows
import GoSem.ClaimSeven
namespace Go.Proofs.YtodlabohijabnaaDoor
namespace Rows

/-- THE TIED CARD OF 'wylaw.FindSays'. -/
def findSaysCard : Claim7 := { stood := { row := findSaysRow, standIns := [], harness := (true, "1648ec20d32e73c03ac1f542ef3817b7dd459c9a755085f1394ab4f6fa3f94c9"), looks := false }, kinds := [], alts := [], laidByText := true, laidKinds := [.data, .pinned], laidTests := true, laidLooks := .later }
def FindSaysCardSaid : Prop := Claim7.holds Tryd.pinned (.plain (OpenSpec.ofChange findSaysSpec)) findSaysCard

/-- THE TIED CARD OF 'wylaw.IndexSays'. -/
def indexSaysCard : Claim7 := { stood := { row := indexSaysRow, standIns := [], harness := (true, "1648ec20d32e73c03ac1f542ef3817b7dd459c9a755085f1394ab4f6fa3f94c9"), looks := false }, kinds := [], alts := [], laidByText := true, laidKinds := [.data, .pinned], laidTests := true, laidLooks := .later }
def IndexSaysCardSaid : Prop := Claim7.holds Tryd.pinned (.plain (OpenSpec.ofChange indexSaysSpec)) indexSaysCard

/-- THE TIED CARD OF 'wykeep.FindBy'. -/
def findByCard : Claim7 := { stood := { row := findByRow, standIns := [], harness := (true, "1648ec20d32e73c03ac1f542ef3817b7dd459c9a755085f1394ab4f6fa3f94c9"), looks := false }, kinds := [], alts := [], laidByText := true, laidKinds := [.data, .pinned], laidTests := true, laidLooks := .later }
def FindByCardSaid : Prop := Claim7.holds Tryd.pinned (.plain (OpenSpec.ofChange findBySpec)) findByCard

/-- THE TIED CARD OF 'wykeep.FindWith'. -/
def findWithCard : Claim7 := { stood := { row := findWithRow, standIns := [], harness := (true, "1648ec20d32e73c03ac1f542ef3817b7dd459c9a755085f1394ab4f6fa3f94c9"), looks := false }, kinds := [], alts := [], laidByText := true, laidKinds := [.data, .pinned], laidTests := true, laidLooks := .later }
def FindWithCardSaid : Prop := Claim7.holds Tryd.pinned (.plain (OpenSpec.ofChange findWithSpec)) findWithCard

/-- THE TIED CARD OF 'wykeep.IndexFinds'. -/
def indexFindsCard : Claim7 := { stood := { row := indexFindsRow, standIns := [], harness := (true, "1648ec20d32e73c03ac1f542ef3817b7dd459c9a755085f1394ab4f6fa3f94c9"), looks := false }, kinds := [], alts := [], laidByText := true, laidKinds := [.data, .pinned], laidTests := true, laidLooks := .later }
def IndexFindsCardSaid : Prop := Claim7.holds Tryd.pinned (.plain (OpenSpec.ofChange indexFindsSpec)) indexFindsCard

/-- THE TIED CARD OF 'wykeep.IndexNotes'. -/
def indexNotesCard : Claim7 := { stood := { row := indexNotesRow, standIns := [], harness := (true, "1648ec20d32e73c03ac1f542ef3817b7dd459c9a755085f1394ab4f6fa3f94c9"), looks := false }, kinds := [], alts := [], laidByText := true, laidKinds := [.data, .pinned], laidTests := true, laidLooks := .later }
def IndexNotesCardSaid : Prop := Claim7.holds Tryd.pinned (.plain (OpenSpec.ofChange indexNotesSpec)) indexNotesCard

/-- THE TIED CARD OF 'wykeep.FindHides'. -/
def findHidesCard : Claim7 := { stood := { row := findHidesRow, standIns := [], harness := (true, "1648ec20d32e73c03ac1f542ef3817b7dd459c9a755085f1394ab4f6fa3f94c9"), looks := false }, kinds := [], alts := [], laidByText := true, laidKinds := [.data, .pinned], laidTests := true, laidLooks := .later }
def FindHidesCardSaid : Prop := Claim7.holds Tryd.pinned (.plain (OpenSpec.ofChange findHidesSpec)) findHidesCard

/-- THE TIED CARD OF 'wykeep.IndexOther'. -/
def indexOtherCard : Claim7 := { stood := { row := indexOtherRow, standIns := [], harness := (true, "1648ec20d32e73c03ac1f542ef3817b7dd459c9a755085f1394ab4f6fa3f94c9"), looks := false }, kinds := [], alts := [], laidByText := true, laidKinds := [.data, .pinned], laidTests := true, laidLooks := .later }
def IndexOtherCardSaid : Prop := Claim7.holds Tryd.pinned (.plain (OpenSpec.ofChange indexOtherSpec)) indexOtherCard

/-- THE SECOND FORM's CARD OF 'wylaw.FindSays'. -/
def findSaysUptoCard : Claim7 := { stood := { row := findSaysUptoRow, standIns := [], harness := (true, "1648ec20d32e73c03ac1f542ef3817b7dd459c9a755085f1394ab4f6fa3f94c9"), looks := false }, kinds := [], alts := [], laidByText := true, laidKinds := [.data, .pinned], laidTests := true, laidLooks := .later }
def FindSaysUptoCardSaid : Prop := Claim7.holds Tryd.pinned (.plain (OpenSpec.upto findSaysSpec)) findSaysUptoCard

/-- THE SECOND FORM's CARD OF 'wylaw.IndexSays'. -/
def indexSaysUptoCard : Claim7 := { stood := { row := indexSaysUptoRow, standIns := [], harness := (true, "1648ec20d32e73c03ac1f542ef3817b7dd459c9a755085f1394ab4f6fa3f94c9"), looks := false }, kinds := [], alts := [], laidByText := true, laidKinds := [.data, .pinned], laidTests := true, laidLooks := .later }
def IndexSaysUptoCardSaid : Prop := Claim7.holds Tryd.pinned (.plain (OpenSpec.upto indexSaysSpec)) indexSaysUptoCard

/-- THE SECOND FORM's CARD OF 'wykeep.FindBy'. -/
def findByUptoCard : Claim7 := { stood := { row := findByUptoRow, standIns := [], harness := (true, "1648ec20d32e73c03ac1f542ef3817b7dd459c9a755085f1394ab4f6fa3f94c9"), looks := false }, kinds := [], alts := [], laidByText := true, laidKinds := [.data, .pinned], laidTests := true, laidLooks := .later }
def FindByUptoCardSaid : Prop := Claim7.holds Tryd.pinned (.plain (OpenSpec.upto findBySpec)) findByUptoCard

/-- THE SECOND FORM's CARD OF 'wykeep.FindWith'. -/
def findWithUptoCard : Claim7 := { stood := { row := findWithUptoRow, standIns := [], harness := (true, "1648ec20d32e73c03ac1f542ef3817b7dd459c9a755085f1394ab4f6fa3f94c9"), looks := false }, kinds := [], alts := [], laidByText := true, laidKinds := [.data, .pinned], laidTests := true, laidLooks := .later }
def FindWithUptoCardSaid : Prop := Claim7.holds Tryd.pinned (.plain (OpenSpec.upto findWithSpec)) findWithUptoCard

/-- THE SECOND FORM's CARD OF 'wykeep.IndexFinds'. -/
def indexFindsUptoCard : Claim7 := { stood := { row := indexFindsUptoRow, standIns := [], harness := (true, "1648ec20d32e73c03ac1f542ef3817b7dd459c9a755085f1394ab4f6fa3f94c9"), looks := false }, kinds := [], alts := [], laidByText := true, laidKinds := [.data, .pinned], laidTests := true, laidLooks := .later }
def IndexFindsUptoCardSaid : Prop := Claim7.holds Tryd.pinned (.plain (OpenSpec.upto indexFindsSpec)) indexFindsUptoCard

/-- THE SECOND FORM's CARD OF 'wykeep.IndexNotes'. -/
def indexNotesUptoCard : Claim7 := { stood := { row := indexNotesUptoRow, standIns := [], harness := (true, "1648ec20d32e73c03ac1f542ef3817b7dd459c9a755085f1394ab4f6fa3f94c9"), looks := false }, kinds := [], alts := [], laidByText := true, laidKinds := [.data, .pinned], laidTests := true, laidLooks := .later }
def IndexNotesUptoCardSaid : Prop := Claim7.holds Tryd.pinned (.plain (OpenSpec.upto indexNotesSpec)) indexNotesUptoCard

/-- THE SECOND FORM's CARD OF 'wykeep.FindHides'. -/
def findHidesUptoCard : Claim7 := { stood := { row := findHidesUptoRow, standIns := [], harness := (true, "1648ec20d32e73c03ac1f542ef3817b7dd459c9a755085f1394ab4f6fa3f94c9"), looks := false }, kinds := [], alts := [], laidByText := true, laidKinds := [.data, .pinned], laidTests := true, laidLooks := .later }
def FindHidesUptoCardSaid : Prop := Claim7.holds Tryd.pinned (.plain (OpenSpec.upto findHidesSpec)) findHidesUptoCard

/-- THE SECOND FORM's CARD OF 'wykeep.IndexOther'. -/
def indexOtherUptoCard : Claim7 := { stood := { row := indexOtherUptoRow, standIns := [], harness := (true, "1648ec20d32e73c03ac1f542ef3817b7dd459c9a755085f1394ab4f6fa3f94c9"), looks := false }, kinds := [], alts := [], laidByText := true, laidKinds := [.data, .pinned], laidTests := true, laidLooks := .later }
def IndexOtherUptoCardSaid : Prop := Claim7.holds Tryd.pinned (.plain (OpenSpec.upto indexOtherSpec)) indexOtherUptoCard
end Rows
end Go.Proofs.YtodlabohijabnaaDoor
