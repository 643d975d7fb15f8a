/-
  DERIVED. GIVEN WITH THE SEED: THE CARDS: each row of YtbcmdjfgncgmdaaGreatDoorRows.lean that lists a variable, with what it lists TIED to the program's text (the seventh form; the later family's looks); each row that meets fmt, with fmt's text TOLD by the authors' own Lean function (tested against real Go, not proved from fmt's source: count such statements apart). THE CARD IS WHAT COUNTS. Prove the row's statement (the work); the ties are given (YtbcmdjfgncgmdaaGreatDoorTie.lean); close each card by the builder's one call (the guide's Derived/Test/ToyasCard.lean, 'card_holds'). Laid BY PROGRAM, IN A SANDBOX (cutbox-door.mjs). By AI agents, Wed Nov 11 2026. No macro, syntax, notation, axiom, sorry.
-/
import Derived.Test.YtbcmdjfgncgmdaaGreatDoorRows
import GoSem.ClaimSeven
namespace Go.Proofs.YtbcmdjfgncgmdaaGreatDoor
namespace Rows

/-- THE TIED CARD OF 'wylaw.RecordTexts'. -/
def recordTextsCard : Claim7 := { stood := { row := recordTextsRow, standIns := [], harness := (true, "47ccf1e371c2684893609aeb9eeeb32e02663dbbd8dcc59cd62d9dab0948c59a"), looks := true }, kinds := [], alts := [], laidByText := true, laidKinds := [.data, .data, .data, .data, .sentinel, .sentinel, .pinned], laidTests := true, laidLooks := .later }
def RecordTextsCardSaid : Prop := Claim7.holds Tryz.pinned (.plain (OpenSpec.ofChange recordTextsSpec)) recordTextsCard

/-- THE TIED CARD OF 'wylaw.ServerPlays'. -/
def serverPlaysCard : Claim7 := { stood := { row := serverPlaysRow, standIns := [], harness := (true, "47ccf1e371c2684893609aeb9eeeb32e02663dbbd8dcc59cd62d9dab0948c59a"), looks := true }, kinds := [], alts := [], laidByText := true, laidKinds := [.data, .pinned], laidTests := true, laidLooks := .later }
def ServerPlaysCardSaid : Prop := Claim7.holds Tryz.pinned (.plain (OpenSpec.ofChange serverPlaysSpec)) serverPlaysCard

/-- THE TIED CARD OF 'wylaw.LogReads'. -/
def logReadsCard : Claim7 := { stood := { row := logReadsRow, standIns := [], harness := (true, "47ccf1e371c2684893609aeb9eeeb32e02663dbbd8dcc59cd62d9dab0948c59a"), looks := true }, kinds := [], alts := [], laidByText := true, laidKinds := [.data, .data, .data, .data, .sentinel, .sentinel, .pinned], laidTests := true, laidLooks := .later }
def LogReadsCardSaid : Prop := Claim7.holds Tryz.pinned (.plain (OpenSpec.ofChange logReadsSpec)) logReadsCard

/-- THE TIED CARD OF 'wykeep.LogBack'. -/
def logBackCard : Claim7 := { stood := { row := logBackRow, standIns := [], harness := (true, "47ccf1e371c2684893609aeb9eeeb32e02663dbbd8dcc59cd62d9dab0948c59a"), looks := true }, kinds := [], alts := [], laidByText := true, laidKinds := [.data, .data, .data, .data, .sentinel, .sentinel, .pinned], laidTests := true, laidLooks := .later }
def LogBackCardSaid : Prop := Claim7.holds Tryz.pinned (.plain (OpenSpec.ofChange logBackSpec)) logBackCard

/-- THE TIED CARD OF 'wykeep.LogByte'. -/
def logByteCard : Claim7 := { stood := { row := logByteRow, standIns := [], harness := (true, "47ccf1e371c2684893609aeb9eeeb32e02663dbbd8dcc59cd62d9dab0948c59a"), looks := true }, kinds := [], alts := [], laidByText := true, laidKinds := [.data, .data, .data, .data, .sentinel, .sentinel, .pinned], laidTests := true, laidLooks := .later }
def LogByteCardSaid : Prop := Claim7.holds Tryz.pinned (.plain (OpenSpec.ofChange logByteSpec)) logByteCard

/-- THE TIED CARD OF 'wykeep.LogAll'. -/
def logAllCard : Claim7 := { stood := { row := logAllRow, standIns := [], harness := (true, "47ccf1e371c2684893609aeb9eeeb32e02663dbbd8dcc59cd62d9dab0948c59a"), looks := true }, kinds := [], alts := [], laidByText := true, laidKinds := [.data, .data, .data, .data, .sentinel, .sentinel, .pinned], laidTests := true, laidLooks := .later }
def LogAllCardSaid : Prop := Claim7.holds Tryz.pinned (.plain (OpenSpec.ofChange logAllSpec)) logAllCard

/-- THE TIED CARD OF 'wykeep.ServerLog'. -/
def serverLogCard : Claim7 := { stood := { row := serverLogRow, standIns := [], harness := (true, "47ccf1e371c2684893609aeb9eeeb32e02663dbbd8dcc59cd62d9dab0948c59a"), looks := true }, kinds := [], alts := [], laidByText := true, laidKinds := [.data, .data, .data, .data, .sentinel, .sentinel, .pinned], laidTests := true, laidLooks := .later }
def ServerLogCardSaid : Prop := Claim7.holds Tryz.pinned (.plain (OpenSpec.ofChange serverLogSpec)) serverLogCard

/-- THE TIED CARD OF 'wykeep.LogJoins'. -/
def logJoinsCard : Claim7 := { stood := { row := logJoinsRow, standIns := [], harness := (true, "47ccf1e371c2684893609aeb9eeeb32e02663dbbd8dcc59cd62d9dab0948c59a"), looks := true }, kinds := [], alts := [], laidByText := true, laidKinds := [.data, .data, .data, .data, .sentinel, .sentinel, .pinned], laidTests := true, laidLooks := .later }
def LogJoinsCardSaid : Prop := Claim7.holds Tryz.pinned (.plain (OpenSpec.ofChange logJoinsSpec)) logJoinsCard

/-- THE TIED CARD OF 'wykeep.LogBad'. -/
def logBadCard : Claim7 := { stood := { row := logBadRow, standIns := [], harness := (true, "47ccf1e371c2684893609aeb9eeeb32e02663dbbd8dcc59cd62d9dab0948c59a"), looks := true }, kinds := [], alts := [], laidByText := true, laidKinds := [.data, .data, .data, .data, .sentinel, .sentinel, .pinned], laidTests := true, laidLooks := .later }
def LogBadCardSaid : Prop := Claim7.holds Tryz.pinned (.plain (OpenSpec.ofChange logBadSpec)) logBadCard

/-- THE TIED CARD OF 'wykeep.StoreOwn'. -/
def storeOwnCard : Claim7 := { stood := { row := storeOwnRow, standIns := [], harness := (true, "47ccf1e371c2684893609aeb9eeeb32e02663dbbd8dcc59cd62d9dab0948c59a"), looks := true }, kinds := [], alts := [], laidByText := true, laidKinds := [.data, .data, .data, .data, .sentinel, .sentinel, .pinned], laidTests := true, laidLooks := .later }
def StoreOwnCardSaid : Prop := Claim7.holds Tryz.pinned (.plain (OpenSpec.ofChange storeOwnSpec)) storeOwnCard

/-- THE TIED CARD OF 'wytop.TopTorn'. -/
def topTornCard : Claim7 := { stood := { row := topTornRow, standIns := [], harness := (true, "47ccf1e371c2684893609aeb9eeeb32e02663dbbd8dcc59cd62d9dab0948c59a"), looks := true }, kinds := [], alts := [], laidByText := true, laidKinds := [.data, .data, .data, .data, .sentinel, .sentinel, .pinned], laidTests := true, laidLooks := .later }
def TopTornCardSaid : Prop := Claim7.holds Tryz.pinned (.plain (OpenSpec.ofChange topTornSpec)) topTornCard

/-- THE SECOND FORM's CARD OF 'wylaw.RecordTexts'. -/
def recordTextsUptoCard : Claim7 := { stood := { row := recordTextsUptoRow, standIns := [], harness := (true, "47ccf1e371c2684893609aeb9eeeb32e02663dbbd8dcc59cd62d9dab0948c59a"), looks := true }, kinds := [], alts := [], laidByText := true, laidKinds := [.data, .data, .data, .data, .sentinel, .sentinel, .pinned], laidTests := true, laidLooks := .later }
def RecordTextsUptoCardSaid : Prop := Claim7.holds Tryz.pinned (.plain (OpenSpec.upto recordTextsSpec)) recordTextsUptoCard

/-- THE SECOND FORM's CARD OF 'wylaw.ServerPlays'. -/
def serverPlaysUptoCard : Claim7 := { stood := { row := serverPlaysUptoRow, standIns := [], harness := (true, "47ccf1e371c2684893609aeb9eeeb32e02663dbbd8dcc59cd62d9dab0948c59a"), looks := true }, kinds := [], alts := [], laidByText := true, laidKinds := [.data, .pinned], laidTests := true, laidLooks := .later }
def ServerPlaysUptoCardSaid : Prop := Claim7.holds Tryz.pinned (.plain (OpenSpec.upto serverPlaysSpec)) serverPlaysUptoCard

/-- THE SECOND FORM's CARD OF 'wylaw.LogReads'. -/
def logReadsUptoCard : Claim7 := { stood := { row := logReadsUptoRow, standIns := [], harness := (true, "47ccf1e371c2684893609aeb9eeeb32e02663dbbd8dcc59cd62d9dab0948c59a"), looks := true }, kinds := [], alts := [], laidByText := true, laidKinds := [.data, .data, .data, .data, .sentinel, .sentinel, .pinned], laidTests := true, laidLooks := .later }
def LogReadsUptoCardSaid : Prop := Claim7.holds Tryz.pinned (.plain (OpenSpec.upto logReadsSpec)) logReadsUptoCard

/-- THE SECOND FORM's CARD OF 'wykeep.LogBack'. -/
def logBackUptoCard : Claim7 := { stood := { row := logBackUptoRow, standIns := [], harness := (true, "47ccf1e371c2684893609aeb9eeeb32e02663dbbd8dcc59cd62d9dab0948c59a"), looks := true }, kinds := [], alts := [], laidByText := true, laidKinds := [.data, .data, .data, .data, .sentinel, .sentinel, .pinned], laidTests := true, laidLooks := .later }
def LogBackUptoCardSaid : Prop := Claim7.holds Tryz.pinned (.plain (OpenSpec.upto logBackSpec)) logBackUptoCard

/-- THE SECOND FORM's CARD OF 'wykeep.LogByte'. -/
def logByteUptoCard : Claim7 := { stood := { row := logByteUptoRow, standIns := [], harness := (true, "47ccf1e371c2684893609aeb9eeeb32e02663dbbd8dcc59cd62d9dab0948c59a"), looks := true }, kinds := [], alts := [], laidByText := true, laidKinds := [.data, .data, .data, .data, .sentinel, .sentinel, .pinned], laidTests := true, laidLooks := .later }
def LogByteUptoCardSaid : Prop := Claim7.holds Tryz.pinned (.plain (OpenSpec.upto logByteSpec)) logByteUptoCard

/-- THE SECOND FORM's CARD OF 'wykeep.LogAll'. -/
def logAllUptoCard : Claim7 := { stood := { row := logAllUptoRow, standIns := [], harness := (true, "47ccf1e371c2684893609aeb9eeeb32e02663dbbd8dcc59cd62d9dab0948c59a"), looks := true }, kinds := [], alts := [], laidByText := true, laidKinds := [.data, .data, .data, .data, .sentinel, .sentinel, .pinned], laidTests := true, laidLooks := .later }
def LogAllUptoCardSaid : Prop := Claim7.holds Tryz.pinned (.plain (OpenSpec.upto logAllSpec)) logAllUptoCard

/-- THE SECOND FORM's CARD OF 'wykeep.ServerLog'. -/
def serverLogUptoCard : Claim7 := { stood := { row := serverLogUptoRow, standIns := [], harness := (true, "47ccf1e371c2684893609aeb9eeeb32e02663dbbd8dcc59cd62d9dab0948c59a"), looks := true }, kinds := [], alts := [], laidByText := true, laidKinds := [.data, .data, .data, .data, .sentinel, .sentinel, .pinned], laidTests := true, laidLooks := .later }
def ServerLogUptoCardSaid : Prop := Claim7.holds Tryz.pinned (.plain (OpenSpec.upto serverLogSpec)) serverLogUptoCard

/-- THE SECOND FORM's CARD OF 'wykeep.LogJoins'. -/
def logJoinsUptoCard : Claim7 := { stood := { row := logJoinsUptoRow, standIns := [], harness := (true, "47ccf1e371c2684893609aeb9eeeb32e02663dbbd8dcc59cd62d9dab0948c59a"), looks := true }, kinds := [], alts := [], laidByText := true, laidKinds := [.data, .data, .data, .data, .sentinel, .sentinel, .pinned], laidTests := true, laidLooks := .later }
def LogJoinsUptoCardSaid : Prop := Claim7.holds Tryz.pinned (.plain (OpenSpec.upto logJoinsSpec)) logJoinsUptoCard

/-- THE SECOND FORM's CARD OF 'wykeep.LogBad'. -/
def logBadUptoCard : Claim7 := { stood := { row := logBadUptoRow, standIns := [], harness := (true, "47ccf1e371c2684893609aeb9eeeb32e02663dbbd8dcc59cd62d9dab0948c59a"), looks := true }, kinds := [], alts := [], laidByText := true, laidKinds := [.data, .data, .data, .data, .sentinel, .sentinel, .pinned], laidTests := true, laidLooks := .later }
def LogBadUptoCardSaid : Prop := Claim7.holds Tryz.pinned (.plain (OpenSpec.upto logBadSpec)) logBadUptoCard

/-- THE SECOND FORM's CARD OF 'wykeep.StoreOwn'. -/
def storeOwnUptoCard : Claim7 := { stood := { row := storeOwnUptoRow, standIns := [], harness := (true, "47ccf1e371c2684893609aeb9eeeb32e02663dbbd8dcc59cd62d9dab0948c59a"), looks := true }, kinds := [], alts := [], laidByText := true, laidKinds := [.data, .data, .data, .data, .sentinel, .sentinel, .pinned], laidTests := true, laidLooks := .later }
def StoreOwnUptoCardSaid : Prop := Claim7.holds Tryz.pinned (.plain (OpenSpec.upto storeOwnSpec)) storeOwnUptoCard

/-- THE SECOND FORM's CARD OF 'wytop.TopTorn'. -/
def topTornUptoCard : Claim7 := { stood := { row := topTornUptoRow, standIns := [], harness := (true, "47ccf1e371c2684893609aeb9eeeb32e02663dbbd8dcc59cd62d9dab0948c59a"), looks := true }, kinds := [], alts := [], laidByText := true, laidKinds := [.data, .data, .data, .data, .sentinel, .sentinel, .pinned], laidTests := true, laidLooks := .later }
def TopTornUptoCardSaid : Prop := Claim7.holds Tryz.pinned (.plain (OpenSpec.upto topTornSpec)) topTornUptoCard
end Rows
end Go.Proofs.YtbcmdjfgncgmdaaGreatDoor
