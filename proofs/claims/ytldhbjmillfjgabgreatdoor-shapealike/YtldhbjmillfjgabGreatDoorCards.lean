/-
  DERIVED. GIVEN WITH THE SEED: THE CARDS: each row of YtldhbjmillfjgabGreatDoorRows.lean that lists a variable, with what it lists TIED to the program's text (the seventh form; the later family's looks); each row that meets fmt, with fmt's text TOLD by the authors' own Lean function (tested against real Go, not proved from fmt's source: count such statements apart). THE CARD IS WHAT COUNTS. Prove the row's statement (the work); the ties are given (YtldhbjmillfjgabGreatDoorTie.lean); close each card by the builder's one call (the guide's Derived/Test/ToyasCard.lean, 'card_holds'). Laid BY PROGRAM, IN A SANDBOX (cutbox-door.mjs). By AI agents, Wed Nov 11 2026. No macro, syntax, notation, axiom, sorry.
-/
import Derived.Test.YtldhbjmillfjgabGreatDoorRows
import GoSem.ClaimSeven
namespace Go.Proofs.YtldhbjmillfjgabGreatDoor
namespace Rows

/-- THE TIED CARD OF 'rosettalaw.BridgeTurns'. -/
def bridgeTurnsCard : Claim7 := { stood := { row := bridgeTurnsRow, standIns := [], harness := (true, "bb7c5bb7d1c203007b75eb5c87a5c822b7474ee8bd503279abb95466bc6d3ee2"), looks := true }, kinds := [], alts := [], laidByText := true, laidKinds := [.data, .handle, .pinned], laidTests := true, laidLooks := .later }
def BridgeTurnsCardSaid : Prop := Claim7.holds Tryz.pinned (.plain (OpenSpec.ofChange bridgeTurnsSpec)) bridgeTurnsCard

/-- THE TIED CARD OF 'rosettakeep.ShapeAlike'. -/
def shapeAlikeCard : Claim7 := { stood := { row := shapeAlikeRow, standIns := [], harness := (true, "bb7c5bb7d1c203007b75eb5c87a5c822b7474ee8bd503279abb95466bc6d3ee2"), looks := true }, kinds := [], alts := [], laidByText := true, laidKinds := [.data, .handle, .pinned], laidTests := true, laidLooks := .later }
def ShapeAlikeCardSaid : Prop := Claim7.holds Tryz.pinned (.plain (OpenSpec.ofChange shapeAlikeSpec)) shapeAlikeCard

/-- THE TIED CARD OF 'rosettalaw.ShapePlays'. -/
def shapePlaysCard : Claim7 := { stood := { row := shapePlaysRow, standIns := [], harness := (true, "bb7c5bb7d1c203007b75eb5c87a5c822b7474ee8bd503279abb95466bc6d3ee2"), looks := true }, kinds := [], alts := [], laidByText := true, laidKinds := [.data, .handle, .pinned], laidTests := true, laidLooks := .later }
def ShapePlaysCardSaid : Prop := Claim7.holds Tryz.pinned (.plain (OpenSpec.ofChange shapePlaysSpec)) shapePlaysCard

/-- THE TIED CARD OF 'rosettalaw.ServerPlays'. -/
def serverPlaysCard : Claim7 := { stood := { row := serverPlaysRow, standIns := [], harness := (true, "bb7c5bb7d1c203007b75eb5c87a5c822b7474ee8bd503279abb95466bc6d3ee2"), looks := true }, kinds := [], alts := [], laidByText := true, laidKinds := [.data, .handle, .pinned], laidTests := true, laidLooks := .later }
def ServerPlaysCardSaid : Prop := Claim7.holds Tryz.pinned (.plain (OpenSpec.ofChange serverPlaysSpec)) serverPlaysCard

/-- THE TIED CARD OF 'rosettalaw.ClientPlays'. -/
def clientPlaysCard : Claim7 := { stood := { row := clientPlaysRow, standIns := [], harness := (true, "bb7c5bb7d1c203007b75eb5c87a5c822b7474ee8bd503279abb95466bc6d3ee2"), looks := true }, kinds := [], alts := [], laidByText := true, laidKinds := [.data, .handle, .pinned], laidTests := true, laidLooks := .later }
def ClientPlaysCardSaid : Prop := Claim7.holds Tryz.pinned (.plain (OpenSpec.ofChange clientPlaysSpec)) clientPlaysCard

/-- THE SECOND FORM's CARD OF 'rosettalaw.BridgeTurns'. -/
def bridgeTurnsUptoCard : Claim7 := { stood := { row := bridgeTurnsUptoRow, standIns := [], harness := (true, "bb7c5bb7d1c203007b75eb5c87a5c822b7474ee8bd503279abb95466bc6d3ee2"), looks := true }, kinds := [], alts := [], laidByText := true, laidKinds := [.data, .handle, .pinned], laidTests := true, laidLooks := .later }
def BridgeTurnsUptoCardSaid : Prop := Claim7.holds Tryz.pinned (.plain (OpenSpec.upto bridgeTurnsSpec)) bridgeTurnsUptoCard

/-- THE SECOND FORM's CARD OF 'rosettakeep.ShapeAlike'. -/
def shapeAlikeUptoCard : Claim7 := { stood := { row := shapeAlikeUptoRow, standIns := [], harness := (true, "bb7c5bb7d1c203007b75eb5c87a5c822b7474ee8bd503279abb95466bc6d3ee2"), looks := true }, kinds := [], alts := [], laidByText := true, laidKinds := [.data, .handle, .pinned], laidTests := true, laidLooks := .later }
def ShapeAlikeUptoCardSaid : Prop := Claim7.holds Tryz.pinned (.plain (OpenSpec.upto shapeAlikeSpec)) shapeAlikeUptoCard

/-- THE SECOND FORM's CARD OF 'rosettalaw.ShapePlays'. -/
def shapePlaysUptoCard : Claim7 := { stood := { row := shapePlaysUptoRow, standIns := [], harness := (true, "bb7c5bb7d1c203007b75eb5c87a5c822b7474ee8bd503279abb95466bc6d3ee2"), looks := true }, kinds := [], alts := [], laidByText := true, laidKinds := [.data, .handle, .pinned], laidTests := true, laidLooks := .later }
def ShapePlaysUptoCardSaid : Prop := Claim7.holds Tryz.pinned (.plain (OpenSpec.upto shapePlaysSpec)) shapePlaysUptoCard

/-- THE SECOND FORM's CARD OF 'rosettalaw.ServerPlays'. -/
def serverPlaysUptoCard : Claim7 := { stood := { row := serverPlaysUptoRow, standIns := [], harness := (true, "bb7c5bb7d1c203007b75eb5c87a5c822b7474ee8bd503279abb95466bc6d3ee2"), looks := true }, kinds := [], alts := [], laidByText := true, laidKinds := [.data, .handle, .pinned], laidTests := true, laidLooks := .later }
def ServerPlaysUptoCardSaid : Prop := Claim7.holds Tryz.pinned (.plain (OpenSpec.upto serverPlaysSpec)) serverPlaysUptoCard

/-- THE SECOND FORM's CARD OF 'rosettalaw.ClientPlays'. -/
def clientPlaysUptoCard : Claim7 := { stood := { row := clientPlaysUptoRow, standIns := [], harness := (true, "bb7c5bb7d1c203007b75eb5c87a5c822b7474ee8bd503279abb95466bc6d3ee2"), looks := true }, kinds := [], alts := [], laidByText := true, laidKinds := [.data, .handle, .pinned], laidTests := true, laidLooks := .later }
def ClientPlaysUptoCardSaid : Prop := Claim7.holds Tryz.pinned (.plain (OpenSpec.upto clientPlaysSpec)) clientPlaysUptoCard
end Rows
end Go.Proofs.YtldhbjmillfjgabGreatDoor
