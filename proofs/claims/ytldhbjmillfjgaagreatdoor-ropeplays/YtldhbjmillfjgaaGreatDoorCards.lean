/-
  DERIVED. GIVEN WITH THE SEED: THE CARDS: each row of YtldhbjmillfjgaaGreatDoorRows.lean that lists a variable, with what it lists TIED to the program's text (the seventh form; the later family's looks); each row that meets fmt, with fmt's text TOLD by the authors' own Lean function (tested against real Go, not proved from fmt's source: count such statements apart). THE CARD IS WHAT COUNTS. Prove the row's statement (the work); the ties are given (YtldhbjmillfjgaaGreatDoorTie.lean); close each card by the builder's one call (the guide's Derived/Test/ToyasCard.lean, 'card_holds'). Laid BY PROGRAM, IN A SANDBOX (cutbox-door.mjs). By AI agents, Wed Nov 11 2026. No macro, syntax, notation, axiom, sorry.
-/
import Derived.Test.YtldhbjmillfjgaaGreatDoorRows
import GoSem.ClaimSeven
namespace Go.Proofs.YtldhbjmillfjgaaGreatDoor
namespace Rows

/-- THE TIED CARD OF 'rosettalaw.RopePlays'. -/
def ropePlaysCard : Claim7 := { stood := { row := ropePlaysRow, standIns := [], harness := (true, "dc07b79e52667264587ed1f098eb768304a7c26cddb92ba45697632a4b486d65"), looks := true }, kinds := [], alts := [], laidByText := true, laidKinds := [.data, .handle, .pinned], laidTests := true, laidLooks := .later }
def RopePlaysCardSaid : Prop := Claim7.holds Tryz.pinned (.plain (OpenSpec.ofChange ropePlaysSpec)) ropePlaysCard

/-- THE TIED CARD OF 'rosettalaw.PosConverts'. -/
def posConvertsCard : Claim7 := { stood := { row := posConvertsRow, standIns := [], harness := (true, "dc07b79e52667264587ed1f098eb768304a7c26cddb92ba45697632a4b486d65"), looks := true }, kinds := [], alts := [], laidByText := true, laidKinds := [.data, .handle, .pinned], laidTests := true, laidLooks := .later }
def PosConvertsCardSaid : Prop := Claim7.holds Tryz.pinned (.plain (OpenSpec.ofChange posConvertsSpec)) posConvertsCard

/-- THE SECOND FORM's CARD OF 'rosettalaw.RopePlays'. -/
def ropePlaysUptoCard : Claim7 := { stood := { row := ropePlaysUptoRow, standIns := [], harness := (true, "dc07b79e52667264587ed1f098eb768304a7c26cddb92ba45697632a4b486d65"), looks := true }, kinds := [], alts := [], laidByText := true, laidKinds := [.data, .handle, .pinned], laidTests := true, laidLooks := .later }
def RopePlaysUptoCardSaid : Prop := Claim7.holds Tryz.pinned (.plain (OpenSpec.upto ropePlaysSpec)) ropePlaysUptoCard

/-- THE SECOND FORM's CARD OF 'rosettalaw.PosConverts'. -/
def posConvertsUptoCard : Claim7 := { stood := { row := posConvertsUptoRow, standIns := [], harness := (true, "dc07b79e52667264587ed1f098eb768304a7c26cddb92ba45697632a4b486d65"), looks := true }, kinds := [], alts := [], laidByText := true, laidKinds := [.data, .handle, .pinned], laidTests := true, laidLooks := .later }
def PosConvertsUptoCardSaid : Prop := Claim7.holds Tryz.pinned (.plain (OpenSpec.upto posConvertsSpec)) posConvertsUptoCard
end Rows
end Go.Proofs.YtldhbjmillfjgaaGreatDoor
