/-
  DERIVED. GIVEN WITH THE SEED: THE CARDS: each row of YtedgnlgjmnccgabGreatDoorRows.lean that lists a variable, with what it lists TIED to the program's text (the seventh form; the later family's looks); each row that meets fmt, with fmt's text TOLD by the authors' own Lean function (tested against real Go, not proved from fmt's source: count such statements apart). THE CARD IS WHAT COUNTS. Prove the row's statement (the work); the ties are given (YtedgnlgjmnccgabGreatDoorTie.lean); close each card by the builder's one call (the guide's Derived/Test/ToyasCard.lean, 'card_holds'). Laid BY PROGRAM, IN A SANDBOX (cutbox-door.mjs). By AI agents, Wed Nov 11 2026. No macro, syntax, notation, axiom, sorry.
-/
import Derived.Test.YtedgnlgjmnccgabGreatDoorRows
import GoSem.ClaimSeven
namespace Go.Proofs.YtedgnlgjmnccgabGreatDoor
namespace Rows

/-- THE TIED CARD OF 'rosettalaw.BridgeTurns'. -/
def bridgeTurnsCard : Claim7 := { stood := { row := bridgeTurnsRow, standIns := [], harness := (true, "094fb195257c1b8fc3d9be593e357c66961265e9a61003f94435f60eab0be091"), looks := true }, kinds := [], alts := [], laidByText := true, laidKinds := [.data, .handle, .pinned], laidTests := true, laidLooks := .later }
def BridgeTurnsCardSaid : Prop := Claim7.holds Tryz.pinned (.plain (OpenSpec.ofChange bridgeTurnsSpec)) bridgeTurnsCard

/-- THE TIED CARD OF 'rosettakeep.ShapeAlike'. -/
def shapeAlikeCard : Claim7 := { stood := { row := shapeAlikeRow, standIns := [], harness := (true, "094fb195257c1b8fc3d9be593e357c66961265e9a61003f94435f60eab0be091"), looks := true }, kinds := [], alts := [], laidByText := true, laidKinds := [.data, .handle, .pinned], laidTests := true, laidLooks := .later }
def ShapeAlikeCardSaid : Prop := Claim7.holds Tryz.pinned (.plain (OpenSpec.ofChange shapeAlikeSpec)) shapeAlikeCard

/-- THE TIED CARD OF 'rosettalaw.ShapePlays'. -/
def shapePlaysCard : Claim7 := { stood := { row := shapePlaysRow, standIns := [], harness := (true, "094fb195257c1b8fc3d9be593e357c66961265e9a61003f94435f60eab0be091"), looks := true }, kinds := [], alts := [], laidByText := true, laidKinds := [.data, .handle, .pinned], laidTests := true, laidLooks := .later }
def ShapePlaysCardSaid : Prop := Claim7.holds Tryz.pinned (.plain (OpenSpec.ofChange shapePlaysSpec)) shapePlaysCard

/-- THE TIED CARD OF 'rosettalaw.ServerPlays'. -/
def serverPlaysCard : Claim7 := { stood := { row := serverPlaysRow, standIns := [], harness := (true, "094fb195257c1b8fc3d9be593e357c66961265e9a61003f94435f60eab0be091"), looks := true }, kinds := [], alts := [], laidByText := true, laidKinds := [.data, .handle, .pinned], laidTests := true, laidLooks := .later }
def ServerPlaysCardSaid : Prop := Claim7.holds Tryz.pinned (.plain (OpenSpec.ofChange serverPlaysSpec)) serverPlaysCard

/-- THE TIED CARD OF 'rosettalaw.ClientPlays'. -/
def clientPlaysCard : Claim7 := { stood := { row := clientPlaysRow, standIns := [], harness := (true, "094fb195257c1b8fc3d9be593e357c66961265e9a61003f94435f60eab0be091"), looks := true }, kinds := [], alts := [], laidByText := true, laidKinds := [.data, .handle, .pinned], laidTests := true, laidLooks := .later }
def ClientPlaysCardSaid : Prop := Claim7.holds Tryz.pinned (.plain (OpenSpec.ofChange clientPlaysSpec)) clientPlaysCard

/-- THE TIED CARD OF 'rosettalaw.RoomPlays'. -/
def roomPlaysCard : Claim7 := { stood := { row := roomPlaysRow, standIns := [], harness := (true, "094fb195257c1b8fc3d9be593e357c66961265e9a61003f94435f60eab0be091"), looks := true }, kinds := [], alts := [], laidByText := true, laidKinds := [.data, .handle, .pinned], laidTests := true, laidLooks := .later }
def RoomPlaysCardSaid : Prop := Claim7.holds Tryz.pinned (.plain (OpenSpec.ofChange roomPlaysSpec)) roomPlaysCard

/-- THE TIED CARD OF 'rosettakeep.RoomSeen'. -/
def roomSeenCard : Claim7 := { stood := { row := roomSeenRow, standIns := [], harness := (true, "094fb195257c1b8fc3d9be593e357c66961265e9a61003f94435f60eab0be091"), looks := true }, kinds := [], alts := [], laidByText := true, laidKinds := [.data, .handle, .pinned], laidTests := true, laidLooks := .later }
def RoomSeenCardSaid : Prop := Claim7.holds Tryz.pinned (.plain (OpenSpec.ofChange roomSeenSpec)) roomSeenCard

/-- THE TIED CARD OF 'rosettakeep.RoomMeets'. -/
def roomMeetsCard : Claim7 := { stood := { row := roomMeetsRow, standIns := [], harness := (true, "094fb195257c1b8fc3d9be593e357c66961265e9a61003f94435f60eab0be091"), looks := true }, kinds := [], alts := [], laidByText := true, laidKinds := [.data, .handle, .pinned], laidTests := true, laidLooks := .later }
def RoomMeetsCardSaid : Prop := Claim7.holds Tryz.pinned (.plain (OpenSpec.ofChange roomMeetsSpec)) roomMeetsCard

/-- THE TIED CARD OF 'rosettakeep.DeskPieces'. -/
def deskPiecesCard : Claim7 := { stood := { row := deskPiecesRow, standIns := [], harness := (true, "094fb195257c1b8fc3d9be593e357c66961265e9a61003f94435f60eab0be091"), looks := true }, kinds := [], alts := [], laidByText := true, laidKinds := [.data, .data, .data, .data, .handle, .sentinel, .sentinel, .pinned], laidTests := true, laidLooks := .later }
def DeskPiecesCardSaid : Prop := Claim7.holds Tryz.pinned (.plain (OpenSpec.ofChange deskPiecesSpec)) deskPiecesCard

/-- THE SECOND FORM's CARD OF 'rosettalaw.BridgeTurns'. -/
def bridgeTurnsUptoCard : Claim7 := { stood := { row := bridgeTurnsUptoRow, standIns := [], harness := (true, "094fb195257c1b8fc3d9be593e357c66961265e9a61003f94435f60eab0be091"), looks := true }, kinds := [], alts := [], laidByText := true, laidKinds := [.data, .handle, .pinned], laidTests := true, laidLooks := .later }
def BridgeTurnsUptoCardSaid : Prop := Claim7.holds Tryz.pinned (.plain (OpenSpec.upto bridgeTurnsSpec)) bridgeTurnsUptoCard

/-- THE SECOND FORM's CARD OF 'rosettakeep.ShapeAlike'. -/
def shapeAlikeUptoCard : Claim7 := { stood := { row := shapeAlikeUptoRow, standIns := [], harness := (true, "094fb195257c1b8fc3d9be593e357c66961265e9a61003f94435f60eab0be091"), looks := true }, kinds := [], alts := [], laidByText := true, laidKinds := [.data, .handle, .pinned], laidTests := true, laidLooks := .later }
def ShapeAlikeUptoCardSaid : Prop := Claim7.holds Tryz.pinned (.plain (OpenSpec.upto shapeAlikeSpec)) shapeAlikeUptoCard

/-- THE SECOND FORM's CARD OF 'rosettalaw.ShapePlays'. -/
def shapePlaysUptoCard : Claim7 := { stood := { row := shapePlaysUptoRow, standIns := [], harness := (true, "094fb195257c1b8fc3d9be593e357c66961265e9a61003f94435f60eab0be091"), looks := true }, kinds := [], alts := [], laidByText := true, laidKinds := [.data, .handle, .pinned], laidTests := true, laidLooks := .later }
def ShapePlaysUptoCardSaid : Prop := Claim7.holds Tryz.pinned (.plain (OpenSpec.upto shapePlaysSpec)) shapePlaysUptoCard

/-- THE SECOND FORM's CARD OF 'rosettalaw.ServerPlays'. -/
def serverPlaysUptoCard : Claim7 := { stood := { row := serverPlaysUptoRow, standIns := [], harness := (true, "094fb195257c1b8fc3d9be593e357c66961265e9a61003f94435f60eab0be091"), looks := true }, kinds := [], alts := [], laidByText := true, laidKinds := [.data, .handle, .pinned], laidTests := true, laidLooks := .later }
def ServerPlaysUptoCardSaid : Prop := Claim7.holds Tryz.pinned (.plain (OpenSpec.upto serverPlaysSpec)) serverPlaysUptoCard

/-- THE SECOND FORM's CARD OF 'rosettalaw.ClientPlays'. -/
def clientPlaysUptoCard : Claim7 := { stood := { row := clientPlaysUptoRow, standIns := [], harness := (true, "094fb195257c1b8fc3d9be593e357c66961265e9a61003f94435f60eab0be091"), looks := true }, kinds := [], alts := [], laidByText := true, laidKinds := [.data, .handle, .pinned], laidTests := true, laidLooks := .later }
def ClientPlaysUptoCardSaid : Prop := Claim7.holds Tryz.pinned (.plain (OpenSpec.upto clientPlaysSpec)) clientPlaysUptoCard

/-- THE SECOND FORM's CARD OF 'rosettalaw.RoomPlays'. -/
def roomPlaysUptoCard : Claim7 := { stood := { row := roomPlaysUptoRow, standIns := [], harness := (true, "094fb195257c1b8fc3d9be593e357c66961265e9a61003f94435f60eab0be091"), looks := true }, kinds := [], alts := [], laidByText := true, laidKinds := [.data, .handle, .pinned], laidTests := true, laidLooks := .later }
def RoomPlaysUptoCardSaid : Prop := Claim7.holds Tryz.pinned (.plain (OpenSpec.upto roomPlaysSpec)) roomPlaysUptoCard

/-- THE SECOND FORM's CARD OF 'rosettakeep.RoomSeen'. -/
def roomSeenUptoCard : Claim7 := { stood := { row := roomSeenUptoRow, standIns := [], harness := (true, "094fb195257c1b8fc3d9be593e357c66961265e9a61003f94435f60eab0be091"), looks := true }, kinds := [], alts := [], laidByText := true, laidKinds := [.data, .handle, .pinned], laidTests := true, laidLooks := .later }
def RoomSeenUptoCardSaid : Prop := Claim7.holds Tryz.pinned (.plain (OpenSpec.upto roomSeenSpec)) roomSeenUptoCard

/-- THE SECOND FORM's CARD OF 'rosettakeep.RoomMeets'. -/
def roomMeetsUptoCard : Claim7 := { stood := { row := roomMeetsUptoRow, standIns := [], harness := (true, "094fb195257c1b8fc3d9be593e357c66961265e9a61003f94435f60eab0be091"), looks := true }, kinds := [], alts := [], laidByText := true, laidKinds := [.data, .handle, .pinned], laidTests := true, laidLooks := .later }
def RoomMeetsUptoCardSaid : Prop := Claim7.holds Tryz.pinned (.plain (OpenSpec.upto roomMeetsSpec)) roomMeetsUptoCard

/-- THE SECOND FORM's CARD OF 'rosettakeep.DeskPieces'. -/
def deskPiecesUptoCard : Claim7 := { stood := { row := deskPiecesUptoRow, standIns := [], harness := (true, "094fb195257c1b8fc3d9be593e357c66961265e9a61003f94435f60eab0be091"), looks := true }, kinds := [], alts := [], laidByText := true, laidKinds := [.data, .data, .data, .data, .handle, .sentinel, .sentinel, .pinned], laidTests := true, laidLooks := .later }
def DeskPiecesUptoCardSaid : Prop := Claim7.holds Tryz.pinned (.plain (OpenSpec.upto deskPiecesSpec)) deskPiecesUptoCard
end Rows
end Go.Proofs.YtedgnlgjmnccgabGreatDoor
