/-
  DERIVED. GIVEN WITH THE SEED: THE CARDS: each row of YtepenlciaanoeaaGreatDoorRows.lean that lists a variable, with what it lists TIED to the program's text (the seventh form; the later family's looks); each row that meets fmt, with fmt's text TOLD by the authors' own Lean function (tested against real Go, not proved from fmt's source: count such statements apart). THE CARD IS WHAT COUNTS. Prove the row's statement (the work); the ties are given (YtepenlciaanoeaaGreatDoorTie.lean); close each card by the builder's one call (the guide's Derived/Test/ToyasCard.lean, 'card_holds'). Laid BY PROGRAM, IN A SANDBOX (cutbox-door.mjs). By AI agents, Wed Nov 11 2026. No macro, syntax, notation, axiom, sorry.
-/
import Derived.Test.YtepenlciaanoeaaGreatDoorRows
import GoSem.ClaimSeven
namespace Go.Proofs.YtepenlciaanoeaaGreatDoor
namespace Rows

/-- THE TIED CARD OF 'wylaw.ServerPlays'. -/
def serverPlaysCard : Claim7 := { stood := { row := serverPlaysRow, standIns := [], harness := (true, "af0631d8af3d21bec00e93424211c8778c7edbdf81f1cfd175b8cc9343a0be01"), looks := true }, kinds := [], alts := [], laidByText := true, laidKinds := [.data, .pinned], laidTests := true, laidLooks := .later }
def ServerPlaysCardSaid : Prop := Claim7.holds Tryz.pinned (.plain (OpenSpec.ofChange serverPlaysSpec)) serverPlaysCard

/-- THE TIED CARD OF 'wylaw.LogReads'. -/
def logReadsCard : Claim7 := { stood := { row := logReadsRow, standIns := [], harness := (true, "af0631d8af3d21bec00e93424211c8778c7edbdf81f1cfd175b8cc9343a0be01"), looks := true }, kinds := [], alts := [], laidByText := true, laidKinds := [.data, .data, .data, .data, .sentinel, .sentinel, .pinned], laidTests := true, laidLooks := .later }
def LogReadsCardSaid : Prop := Claim7.holds Tryz.pinned (.plain (OpenSpec.ofChange logReadsSpec)) logReadsCard

/-- THE TIED CARD OF 'wykeep.ServerLog'. -/
def serverLogCard : Claim7 := { stood := { row := serverLogRow, standIns := [], harness := (true, "af0631d8af3d21bec00e93424211c8778c7edbdf81f1cfd175b8cc9343a0be01"), looks := true }, kinds := [], alts := [], laidByText := true, laidKinds := [.data, .data, .data, .data, .sentinel, .sentinel, .pinned], laidTests := true, laidLooks := .later }
def ServerLogCardSaid : Prop := Claim7.holds Tryz.pinned (.plain (OpenSpec.ofChange serverLogSpec)) serverLogCard

/-- THE TIED CARD OF 'wykeep.StoreOwn'. -/
def storeOwnCard : Claim7 := { stood := { row := storeOwnRow, standIns := [], harness := (true, "af0631d8af3d21bec00e93424211c8778c7edbdf81f1cfd175b8cc9343a0be01"), looks := true }, kinds := [], alts := [], laidByText := true, laidKinds := [.data, .data, .data, .data, .sentinel, .sentinel, .pinned], laidTests := true, laidLooks := .later }
def StoreOwnCardSaid : Prop := Claim7.holds Tryz.pinned (.plain (OpenSpec.ofChange storeOwnSpec)) storeOwnCard

/-- THE TIED CARD OF 'wykeep.ServerOwn'. -/
def serverOwnCard : Claim7 := { stood := { row := serverOwnRow, standIns := [], harness := (true, "af0631d8af3d21bec00e93424211c8778c7edbdf81f1cfd175b8cc9343a0be01"), looks := true }, kinds := [], alts := [], laidByText := true, laidKinds := [.data, .data, .data, .data, .sentinel, .sentinel, .pinned], laidTests := true, laidLooks := .later }
def ServerOwnCardSaid : Prop := Claim7.holds Tryz.pinned (.plain (OpenSpec.ofChange serverOwnSpec)) serverOwnCard

/-- THE TIED CARD OF 'wytop.TopShips'. -/
def topShipsCard : Claim7 := { stood := { row := topShipsRow, standIns := [], harness := (true, "af0631d8af3d21bec00e93424211c8778c7edbdf81f1cfd175b8cc9343a0be01"), looks := true }, kinds := [], alts := [], laidByText := true, laidKinds := [.data, .data, .data, .data, .sentinel, .sentinel, .pinned], laidTests := true, laidLooks := .later }
def TopShipsCardSaid : Prop := Claim7.holds Tryz.pinned (.plain (OpenSpec.ofChange topShipsSpec)) topShipsCard

/-- THE TIED CARD OF 'wytop.TopTorn'. -/
def topTornCard : Claim7 := { stood := { row := topTornRow, standIns := [], harness := (true, "af0631d8af3d21bec00e93424211c8778c7edbdf81f1cfd175b8cc9343a0be01"), looks := true }, kinds := [], alts := [], laidByText := true, laidKinds := [.data, .data, .data, .data, .sentinel, .sentinel, .pinned], laidTests := true, laidLooks := .later }
def TopTornCardSaid : Prop := Claim7.holds Tryz.pinned (.plain (OpenSpec.ofChange topTornSpec)) topTornCard

/-- THE SECOND FORM's CARD OF 'wylaw.ServerPlays'. -/
def serverPlaysUptoCard : Claim7 := { stood := { row := serverPlaysUptoRow, standIns := [], harness := (true, "af0631d8af3d21bec00e93424211c8778c7edbdf81f1cfd175b8cc9343a0be01"), looks := true }, kinds := [], alts := [], laidByText := true, laidKinds := [.data, .pinned], laidTests := true, laidLooks := .later }
def ServerPlaysUptoCardSaid : Prop := Claim7.holds Tryz.pinned (.plain (OpenSpec.upto serverPlaysSpec)) serverPlaysUptoCard

/-- THE SECOND FORM's CARD OF 'wylaw.LogReads'. -/
def logReadsUptoCard : Claim7 := { stood := { row := logReadsUptoRow, standIns := [], harness := (true, "af0631d8af3d21bec00e93424211c8778c7edbdf81f1cfd175b8cc9343a0be01"), looks := true }, kinds := [], alts := [], laidByText := true, laidKinds := [.data, .data, .data, .data, .sentinel, .sentinel, .pinned], laidTests := true, laidLooks := .later }
def LogReadsUptoCardSaid : Prop := Claim7.holds Tryz.pinned (.plain (OpenSpec.upto logReadsSpec)) logReadsUptoCard

/-- THE SECOND FORM's CARD OF 'wykeep.ServerLog'. -/
def serverLogUptoCard : Claim7 := { stood := { row := serverLogUptoRow, standIns := [], harness := (true, "af0631d8af3d21bec00e93424211c8778c7edbdf81f1cfd175b8cc9343a0be01"), looks := true }, kinds := [], alts := [], laidByText := true, laidKinds := [.data, .data, .data, .data, .sentinel, .sentinel, .pinned], laidTests := true, laidLooks := .later }
def ServerLogUptoCardSaid : Prop := Claim7.holds Tryz.pinned (.plain (OpenSpec.upto serverLogSpec)) serverLogUptoCard

/-- THE SECOND FORM's CARD OF 'wykeep.StoreOwn'. -/
def storeOwnUptoCard : Claim7 := { stood := { row := storeOwnUptoRow, standIns := [], harness := (true, "af0631d8af3d21bec00e93424211c8778c7edbdf81f1cfd175b8cc9343a0be01"), looks := true }, kinds := [], alts := [], laidByText := true, laidKinds := [.data, .data, .data, .data, .sentinel, .sentinel, .pinned], laidTests := true, laidLooks := .later }
def StoreOwnUptoCardSaid : Prop := Claim7.holds Tryz.pinned (.plain (OpenSpec.upto storeOwnSpec)) storeOwnUptoCard

/-- THE SECOND FORM's CARD OF 'wykeep.ServerOwn'. -/
def serverOwnUptoCard : Claim7 := { stood := { row := serverOwnUptoRow, standIns := [], harness := (true, "af0631d8af3d21bec00e93424211c8778c7edbdf81f1cfd175b8cc9343a0be01"), looks := true }, kinds := [], alts := [], laidByText := true, laidKinds := [.data, .data, .data, .data, .sentinel, .sentinel, .pinned], laidTests := true, laidLooks := .later }
def ServerOwnUptoCardSaid : Prop := Claim7.holds Tryz.pinned (.plain (OpenSpec.upto serverOwnSpec)) serverOwnUptoCard

/-- THE SECOND FORM's CARD OF 'wytop.TopShips'. -/
def topShipsUptoCard : Claim7 := { stood := { row := topShipsUptoRow, standIns := [], harness := (true, "af0631d8af3d21bec00e93424211c8778c7edbdf81f1cfd175b8cc9343a0be01"), looks := true }, kinds := [], alts := [], laidByText := true, laidKinds := [.data, .data, .data, .data, .sentinel, .sentinel, .pinned], laidTests := true, laidLooks := .later }
def TopShipsUptoCardSaid : Prop := Claim7.holds Tryz.pinned (.plain (OpenSpec.upto topShipsSpec)) topShipsUptoCard

/-- THE SECOND FORM's CARD OF 'wytop.TopTorn'. -/
def topTornUptoCard : Claim7 := { stood := { row := topTornUptoRow, standIns := [], harness := (true, "af0631d8af3d21bec00e93424211c8778c7edbdf81f1cfd175b8cc9343a0be01"), looks := true }, kinds := [], alts := [], laidByText := true, laidKinds := [.data, .data, .data, .data, .sentinel, .sentinel, .pinned], laidTests := true, laidLooks := .later }
def TopTornUptoCardSaid : Prop := Claim7.holds Tryz.pinned (.plain (OpenSpec.upto topTornSpec)) topTornUptoCard
end Rows
end Go.Proofs.YtepenlciaanoeaaGreatDoor
