/-
  DERIVED. GIVEN WITH THE SEED: THE CARDS: each row of YtbchfodmdgogjaaGreatDoorRows.lean that lists a variable, with what it lists TIED to the program's text (the seventh form; the later family's looks); each row that meets fmt, with fmt's text TOLD by the authors' own Lean function (tested against real Go, not proved from fmt's source: count such statements apart). THE CARD IS WHAT COUNTS. Prove the row's statement (the work); the ties are given (YtbchfodmdgogjaaGreatDoorTie.lean); close each card by the builder's one call (the guide's Derived/Test/ToyasCard.lean, 'card_holds'). Laid BY PROGRAM, IN A SANDBOX (cutbox-door.mjs). By AI agents, Wed Nov 11 2026. No macro, syntax, notation, axiom, sorry.
-/
import Derived.Test.YtbchfodmdgogjaaGreatDoorRows
import GoSem.ClaimSeven
namespace Go.Proofs.YtbchfodmdgogjaaGreatDoor
namespace Rows

/-- THE TIED CARD OF 'wylaw.LogReads'. -/
def logReadsCard : Claim7 := { stood := { row := logReadsRow, standIns := [], harness := (true, "08493bfcda073b67864591936b761b95cc15661d6eaae2e301f16d3d4371d577"), looks := true }, kinds := [], alts := [], laidByText := true, laidKinds := [.data, .data, .data, .data, .sentinel, .sentinel, .pinned], laidTests := true, laidLooks := .later }
def LogReadsCardSaid : Prop := Claim7.holds Tryz.pinned (.plain (OpenSpec.ofChange logReadsSpec)) logReadsCard

/-- THE TIED CARD OF 'wykeep.LogBack'. -/
def logBackCard : Claim7 := { stood := { row := logBackRow, standIns := [], harness := (true, "08493bfcda073b67864591936b761b95cc15661d6eaae2e301f16d3d4371d577"), looks := true }, kinds := [], alts := [], laidByText := true, laidKinds := [.data, .data, .data, .data, .sentinel, .sentinel, .pinned], laidTests := true, laidLooks := .later }
def LogBackCardSaid : Prop := Claim7.holds Tryz.pinned (.plain (OpenSpec.ofChange logBackSpec)) logBackCard

/-- THE TIED CARD OF 'wykeep.LogByte'. -/
def logByteCard : Claim7 := { stood := { row := logByteRow, standIns := [], harness := (true, "08493bfcda073b67864591936b761b95cc15661d6eaae2e301f16d3d4371d577"), looks := true }, kinds := [], alts := [], laidByText := true, laidKinds := [.data, .data, .data, .data, .sentinel, .sentinel, .pinned], laidTests := true, laidLooks := .later }
def LogByteCardSaid : Prop := Claim7.holds Tryz.pinned (.plain (OpenSpec.ofChange logByteSpec)) logByteCard

/-- THE TIED CARD OF 'wykeep.LogAll'. -/
def logAllCard : Claim7 := { stood := { row := logAllRow, standIns := [], harness := (true, "08493bfcda073b67864591936b761b95cc15661d6eaae2e301f16d3d4371d577"), looks := true }, kinds := [], alts := [], laidByText := true, laidKinds := [.data, .data, .data, .data, .sentinel, .sentinel, .pinned], laidTests := true, laidLooks := .later }
def LogAllCardSaid : Prop := Claim7.holds Tryz.pinned (.plain (OpenSpec.ofChange logAllSpec)) logAllCard

/-- THE TIED CARD OF 'wykeep.LogJoins'. -/
def logJoinsCard : Claim7 := { stood := { row := logJoinsRow, standIns := [], harness := (true, "08493bfcda073b67864591936b761b95cc15661d6eaae2e301f16d3d4371d577"), looks := true }, kinds := [], alts := [], laidByText := true, laidKinds := [.data, .data, .data, .data, .sentinel, .sentinel, .pinned], laidTests := true, laidLooks := .later }
def LogJoinsCardSaid : Prop := Claim7.holds Tryz.pinned (.plain (OpenSpec.ofChange logJoinsSpec)) logJoinsCard

/-- THE TIED CARD OF 'wykeep.LogBad'. -/
def logBadCard : Claim7 := { stood := { row := logBadRow, standIns := [], harness := (true, "08493bfcda073b67864591936b761b95cc15661d6eaae2e301f16d3d4371d577"), looks := true }, kinds := [], alts := [], laidByText := true, laidKinds := [.data, .data, .data, .data, .sentinel, .sentinel, .pinned], laidTests := true, laidLooks := .later }
def LogBadCardSaid : Prop := Claim7.holds Tryz.pinned (.plain (OpenSpec.ofChange logBadSpec)) logBadCard

/-- THE SECOND FORM's CARD OF 'wylaw.LogReads'. -/
def logReadsUptoCard : Claim7 := { stood := { row := logReadsUptoRow, standIns := [], harness := (true, "08493bfcda073b67864591936b761b95cc15661d6eaae2e301f16d3d4371d577"), looks := true }, kinds := [], alts := [], laidByText := true, laidKinds := [.data, .data, .data, .data, .sentinel, .sentinel, .pinned], laidTests := true, laidLooks := .later }
def LogReadsUptoCardSaid : Prop := Claim7.holds Tryz.pinned (.plain (OpenSpec.upto logReadsSpec)) logReadsUptoCard

/-- THE SECOND FORM's CARD OF 'wykeep.LogBack'. -/
def logBackUptoCard : Claim7 := { stood := { row := logBackUptoRow, standIns := [], harness := (true, "08493bfcda073b67864591936b761b95cc15661d6eaae2e301f16d3d4371d577"), looks := true }, kinds := [], alts := [], laidByText := true, laidKinds := [.data, .data, .data, .data, .sentinel, .sentinel, .pinned], laidTests := true, laidLooks := .later }
def LogBackUptoCardSaid : Prop := Claim7.holds Tryz.pinned (.plain (OpenSpec.upto logBackSpec)) logBackUptoCard

/-- THE SECOND FORM's CARD OF 'wykeep.LogByte'. -/
def logByteUptoCard : Claim7 := { stood := { row := logByteUptoRow, standIns := [], harness := (true, "08493bfcda073b67864591936b761b95cc15661d6eaae2e301f16d3d4371d577"), looks := true }, kinds := [], alts := [], laidByText := true, laidKinds := [.data, .data, .data, .data, .sentinel, .sentinel, .pinned], laidTests := true, laidLooks := .later }
def LogByteUptoCardSaid : Prop := Claim7.holds Tryz.pinned (.plain (OpenSpec.upto logByteSpec)) logByteUptoCard

/-- THE SECOND FORM's CARD OF 'wykeep.LogAll'. -/
def logAllUptoCard : Claim7 := { stood := { row := logAllUptoRow, standIns := [], harness := (true, "08493bfcda073b67864591936b761b95cc15661d6eaae2e301f16d3d4371d577"), looks := true }, kinds := [], alts := [], laidByText := true, laidKinds := [.data, .data, .data, .data, .sentinel, .sentinel, .pinned], laidTests := true, laidLooks := .later }
def LogAllUptoCardSaid : Prop := Claim7.holds Tryz.pinned (.plain (OpenSpec.upto logAllSpec)) logAllUptoCard

/-- THE SECOND FORM's CARD OF 'wykeep.LogJoins'. -/
def logJoinsUptoCard : Claim7 := { stood := { row := logJoinsUptoRow, standIns := [], harness := (true, "08493bfcda073b67864591936b761b95cc15661d6eaae2e301f16d3d4371d577"), looks := true }, kinds := [], alts := [], laidByText := true, laidKinds := [.data, .data, .data, .data, .sentinel, .sentinel, .pinned], laidTests := true, laidLooks := .later }
def LogJoinsUptoCardSaid : Prop := Claim7.holds Tryz.pinned (.plain (OpenSpec.upto logJoinsSpec)) logJoinsUptoCard

/-- THE SECOND FORM's CARD OF 'wykeep.LogBad'. -/
def logBadUptoCard : Claim7 := { stood := { row := logBadUptoRow, standIns := [], harness := (true, "08493bfcda073b67864591936b761b95cc15661d6eaae2e301f16d3d4371d577"), looks := true }, kinds := [], alts := [], laidByText := true, laidKinds := [.data, .data, .data, .data, .sentinel, .sentinel, .pinned], laidTests := true, laidLooks := .later }
def LogBadUptoCardSaid : Prop := Claim7.holds Tryz.pinned (.plain (OpenSpec.upto logBadSpec)) logBadUptoCard
end Rows
end Go.Proofs.YtbchfodmdgogjaaGreatDoor
