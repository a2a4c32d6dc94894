/-
  DERIVED. GIVEN WITH THE SEED: THE CARDS: each row of YtedonckeomccpabDoorRows.lean that lists a variable, with what it lists TIED to the program's text (the seventh form; the later family's looks); each row that meets fmt, with fmt's text TOLD by the authors' own Lean function (tested against real Go, not proved from fmt's source: count such statements apart). THE CARD IS WHAT COUNTS. Prove the row's statement (the work); the ties are given (YtedonckeomccpabDoorTie.lean); close each card by the builder's one call (the guide's Derived/Test/ToyasCard.lean, 'card_holds'). Laid BY PROGRAM, IN A SANDBOX (cutbox-door.mjs). By AI agents, Wed Nov 11 2026. No macro, syntax, notation, axiom, sorry.
-/
import Derived.Test.YtedonckeomccpabDoorRows
import GoSem.ClaimSeven
namespace Go.Proofs.YtedonckeomccpabDoor
namespace Rows

/-- THE TIED CARD OF 'rosettakeep.OpsMeet'. -/
def opsMeetCard : Claim7 := { stood := { row := opsMeetRow, standIns := [], harness := (true, "0b24f08ebef0f954d94c3a320ba450654b55d0f0a3f0e924878428ec1d33bd03"), looks := false }, kinds := [], alts := [], laidByText := true, laidKinds := [.data, .pinned], laidTests := true, laidLooks := .later }
def OpsMeetCardSaid : Prop := Claim7.holds Tryd.pinned (.plain (OpenSpec.ofChange opsMeetSpec)) opsMeetCard

/-- THE TIED CARD OF 'rosettakeep.OpsOne'. -/
def opsOneCard : Claim7 := { stood := { row := opsOneRow, standIns := [], harness := (true, "0b24f08ebef0f954d94c3a320ba450654b55d0f0a3f0e924878428ec1d33bd03"), looks := false }, kinds := [], alts := [], laidByText := true, laidKinds := [.data, .pinned], laidTests := true, laidLooks := .later }
def OpsOneCardSaid : Prop := Claim7.holds Tryd.pinned (.plain (OpenSpec.ofChange opsOneSpec)) opsOneCard

/-- THE TIED CARD OF 'rosettakeep.OpsAlong'. -/
def opsAlongCard : Claim7 := { stood := { row := opsAlongRow, standIns := [], harness := (true, "0b24f08ebef0f954d94c3a320ba450654b55d0f0a3f0e924878428ec1d33bd03"), looks := false }, kinds := [], alts := [], laidByText := true, laidKinds := [.data, .pinned], laidTests := true, laidLooks := .later }
def OpsAlongCardSaid : Prop := Claim7.holds Tryd.pinned (.plain (OpenSpec.ofChange opsAlongSpec)) opsAlongCard

/-- THE SECOND FORM's CARD OF 'rosettakeep.OpsMeet'. -/
def opsMeetUptoCard : Claim7 := { stood := { row := opsMeetUptoRow, standIns := [], harness := (true, "0b24f08ebef0f954d94c3a320ba450654b55d0f0a3f0e924878428ec1d33bd03"), looks := false }, kinds := [], alts := [], laidByText := true, laidKinds := [.data, .pinned], laidTests := true, laidLooks := .later }
def OpsMeetUptoCardSaid : Prop := Claim7.holds Tryd.pinned (.plain (OpenSpec.upto opsMeetSpec)) opsMeetUptoCard

/-- THE SECOND FORM's CARD OF 'rosettakeep.OpsOne'. -/
def opsOneUptoCard : Claim7 := { stood := { row := opsOneUptoRow, standIns := [], harness := (true, "0b24f08ebef0f954d94c3a320ba450654b55d0f0a3f0e924878428ec1d33bd03"), looks := false }, kinds := [], alts := [], laidByText := true, laidKinds := [.data, .pinned], laidTests := true, laidLooks := .later }
def OpsOneUptoCardSaid : Prop := Claim7.holds Tryd.pinned (.plain (OpenSpec.upto opsOneSpec)) opsOneUptoCard

/-- THE SECOND FORM's CARD OF 'rosettakeep.OpsAlong'. -/
def opsAlongUptoCard : Claim7 := { stood := { row := opsAlongUptoRow, standIns := [], harness := (true, "0b24f08ebef0f954d94c3a320ba450654b55d0f0a3f0e924878428ec1d33bd03"), looks := false }, kinds := [], alts := [], laidByText := true, laidKinds := [.data, .pinned], laidTests := true, laidLooks := .later }
def OpsAlongUptoCardSaid : Prop := Claim7.holds Tryd.pinned (.plain (OpenSpec.upto opsAlongSpec)) opsAlongUptoCard
end Rows
end Go.Proofs.YtedonckeomccpabDoor
