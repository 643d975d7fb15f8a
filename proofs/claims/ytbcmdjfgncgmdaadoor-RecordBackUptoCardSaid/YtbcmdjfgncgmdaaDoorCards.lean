/-
  DERIVED. GIVEN WITH THE SEED: THE CARDS: each row of YtbcmdjfgncgmdaaDoorRows.lean that lists a variable, with what it lists TIED to the program's text (the seventh form; the later family's looks); each row that meets fmt, with fmt's text TOLD by the authors' own Lean function (tested against real Go, not proved from fmt's source: count such statements apart). THE CARD IS WHAT COUNTS. Prove the row's statement (the work); the ties are given (YtbcmdjfgncgmdaaDoorTie.lean); close each card by the builder's one call (the guide's Derived/Test/ToyasCard.lean, 'card_holds'). Laid BY PROGRAM, IN A SANDBOX (cutbox-door.mjs). By AI agents, Wed Nov 11 2026. No macro, syntax, notation, axiom, sorry.
-/
import Derived.Test.YtbcmdjfgncgmdaaDoorRows
import GoSem.ClaimSeven
namespace Go.Proofs.YtbcmdjfgncgmdaaDoor
namespace Rows

/-- THE TIED CARD OF 'wylaw.LogSays'. -/
def logSaysCard : Claim7 := { stood := { row := logSaysRow, standIns := [], harness := (true, "9234c6e4e1436714eb0b35a8cfe11d344bd3fd43bb6253fdfa1bb4eef1b6dcd7"), looks := true }, kinds := [], alts := [], laidByText := true, laidKinds := [.data, .data, .data, .data, .pinned], laidTests := true, laidLooks := .later }
def LogSaysCardSaid : Prop := Claim7.holds Tryd.pinned (.plain (OpenSpec.ofChange logSaysSpec)) logSaysCard

/-- THE TIED CARD OF 'wykeep.RecordBack'. -/
def recordBackCard : Claim7 := { stood := { row := recordBackRow, standIns := [], harness := (true, "9234c6e4e1436714eb0b35a8cfe11d344bd3fd43bb6253fdfa1bb4eef1b6dcd7"), looks := true }, kinds := [], alts := [], laidByText := true, laidKinds := [.data, .data, .data, .data, .sentinel, .sentinel, .pinned], laidTests := true, laidLooks := .later }
def RecordBackCardSaid : Prop := Claim7.holds Tryd.pinned (.plain (OpenSpec.ofChange recordBackSpec)) recordBackCard

/-- THE SECOND FORM's CARD OF 'wylaw.LogSays'. -/
def logSaysUptoCard : Claim7 := { stood := { row := logSaysUptoRow, standIns := [], harness := (true, "9234c6e4e1436714eb0b35a8cfe11d344bd3fd43bb6253fdfa1bb4eef1b6dcd7"), looks := true }, kinds := [], alts := [], laidByText := true, laidKinds := [.data, .data, .data, .data, .pinned], laidTests := true, laidLooks := .later }
def LogSaysUptoCardSaid : Prop := Claim7.holds Tryd.pinned (.plain (OpenSpec.upto logSaysSpec)) logSaysUptoCard

/-- THE SECOND FORM's CARD OF 'wykeep.RecordBack'. -/
def recordBackUptoCard : Claim7 := { stood := { row := recordBackUptoRow, standIns := [], harness := (true, "9234c6e4e1436714eb0b35a8cfe11d344bd3fd43bb6253fdfa1bb4eef1b6dcd7"), looks := true }, kinds := [], alts := [], laidByText := true, laidKinds := [.data, .data, .data, .data, .sentinel, .sentinel, .pinned], laidTests := true, laidLooks := .later }
def RecordBackUptoCardSaid : Prop := Claim7.holds Tryd.pinned (.plain (OpenSpec.upto recordBackSpec)) recordBackUptoCard
end Rows
end Go.Proofs.YtbcmdjfgncgmdaaDoor
