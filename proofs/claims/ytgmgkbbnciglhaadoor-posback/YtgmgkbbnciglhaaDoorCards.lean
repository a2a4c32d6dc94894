/-
  DERIVED. GIVEN WITH THE SEED: THE CARDS: each row of YtgmgkbbnciglhaaDoorRows.lean that lists a variable, with what it lists TIED to the program's text (the seventh form; the later family's looks); each row that meets fmt, with fmt's text TOLD by the authors' own Lean function (tested against real Go, not proved from fmt's source: count such statements apart). THE CARD IS WHAT COUNTS. Prove the row's statement (the work); the ties are given (YtgmgkbbnciglhaaDoorTie.lean); close each card by the builder's one call (the guide's Derived/Test/ToyasCard.lean, 'card_holds'). Laid BY PROGRAM, IN A SANDBOX (cutbox-door.mjs). By AI agents, Wed Nov 11 2026. No macro, syntax, notation, axiom, sorry.
-/
import Derived.Test.YtgmgkbbnciglhaaDoorRows
import GoSem.ClaimSeven
namespace Go.Proofs.YtgmgkbbnciglhaaDoor
namespace Rows

/-- THE TIED CARD OF 'rosettalaw.UtfReads'. -/
def utfReadsCard : Claim7 := { stood := { row := utfReadsRow, standIns := [], harness := (true, "85a576ae75f6e866d641bfb85271c4ee553eab5e299c37a5b3e1bd67a4e2988c"), looks := true }, kinds := [], alts := [], laidByText := true, laidKinds := [.data, .handle, .pinned], laidTests := true, laidLooks := .later }
def UtfReadsCardSaid : Prop := Claim7.holds Tryd.pinned (.plain (OpenSpec.ofChange utfReadsSpec)) utfReadsCard

/-- THE TIED CARD OF 'rosettalaw.UtfWrites'. -/
def utfWritesCard : Claim7 := { stood := { row := utfWritesRow, standIns := [], harness := (true, "85a576ae75f6e866d641bfb85271c4ee553eab5e299c37a5b3e1bd67a4e2988c"), looks := true }, kinds := [], alts := [], laidByText := true, laidKinds := [.handle], laidTests := true, laidLooks := .later }
def UtfWritesCardSaid : Prop := Claim7.holds Tryd.pinned (.plain (OpenSpec.ofChange utfWritesSpec)) utfWritesCard

/-- THE TIED CARD OF 'rosettakeep.UtfBack'. -/
def utfBackCard : Claim7 := { stood := { row := utfBackRow, standIns := [], harness := (true, "85a576ae75f6e866d641bfb85271c4ee553eab5e299c37a5b3e1bd67a4e2988c"), looks := true }, kinds := [], alts := [], laidByText := true, laidKinds := [.data, .pinned], laidTests := true, laidLooks := .later }
def UtfBackCardSaid : Prop := Claim7.holds Tryd.pinned (.plain (OpenSpec.ofChange utfBackSpec)) utfBackCard

/-- THE TIED CARD OF 'rosettalaw.RopeGreat'. -/
def ropeGreatCard : Claim7 := { stood := { row := ropeGreatRow, standIns := [], harness := (true, "85a576ae75f6e866d641bfb85271c4ee553eab5e299c37a5b3e1bd67a4e2988c"), looks := true }, kinds := [], alts := [], laidByText := true, laidKinds := [.data, .handle, .pinned], laidTests := true, laidLooks := .later }
def RopeGreatCardSaid : Prop := Claim7.holds Tryd.pinned (.plain (OpenSpec.ofChange ropeGreatSpec)) ropeGreatCard

/-- THE TIED CARD OF 'rosettakeep.PosBack'. -/
def posBackCard : Claim7 := { stood := { row := posBackRow, standIns := [], harness := (true, "85a576ae75f6e866d641bfb85271c4ee553eab5e299c37a5b3e1bd67a4e2988c"), looks := true }, kinds := [], alts := [], laidByText := true, laidKinds := [.data, .pinned], laidTests := true, laidLooks := .later }
def PosBackCardSaid : Prop := Claim7.holds Tryd.pinned (.plain (OpenSpec.ofChange posBackSpec)) posBackCard

/-- THE TIED CARD OF 'rosettalaw.OpsCheck'. -/
def opsCheckCard : Claim7 := { stood := { row := opsCheckRow, standIns := [], harness := (true, "85a576ae75f6e866d641bfb85271c4ee553eab5e299c37a5b3e1bd67a4e2988c"), looks := true }, kinds := [], alts := [], laidByText := true, laidKinds := [.data, .handle, .pinned], laidTests := true, laidLooks := .later }
def OpsCheckCardSaid : Prop := Claim7.holds Tryd.pinned (.plain (OpenSpec.ofChange opsCheckSpec)) opsCheckCard

/-- THE TIED CARD OF 'rosettalaw.OpsApply'. -/
def opsApplyCard : Claim7 := { stood := { row := opsApplyRow, standIns := [], harness := (true, "85a576ae75f6e866d641bfb85271c4ee553eab5e299c37a5b3e1bd67a4e2988c"), looks := true }, kinds := [], alts := [], laidByText := true, laidKinds := [.data, .handle, .pinned], laidTests := true, laidLooks := .later }
def OpsApplyCardSaid : Prop := Claim7.holds Tryd.pinned (.plain (OpenSpec.ofChange opsApplySpec)) opsApplyCard

/-- THE TIED CARD OF 'rosettalaw.OpsCompose'. -/
def opsComposeCard : Claim7 := { stood := { row := opsComposeRow, standIns := [], harness := (true, "85a576ae75f6e866d641bfb85271c4ee553eab5e299c37a5b3e1bd67a4e2988c"), looks := true }, kinds := [], alts := [], laidByText := true, laidKinds := [.data, .handle, .pinned], laidTests := true, laidLooks := .later }
def OpsComposeCardSaid : Prop := Claim7.holds Tryd.pinned (.plain (OpenSpec.ofChange opsComposeSpec)) opsComposeCard

/-- THE TIED CARD OF 'rosettalaw.OpsTransform'. -/
def opsTransformCard : Claim7 := { stood := { row := opsTransformRow, standIns := [], harness := (true, "85a576ae75f6e866d641bfb85271c4ee553eab5e299c37a5b3e1bd67a4e2988c"), looks := true }, kinds := [], alts := [], laidByText := true, laidKinds := [.data, .handle, .pinned], laidTests := true, laidLooks := .later }
def OpsTransformCardSaid : Prop := Claim7.holds Tryd.pinned (.plain (OpenSpec.ofChange opsTransformSpec)) opsTransformCard

/-- THE SECOND FORM's CARD OF 'rosettalaw.UtfReads'. -/
def utfReadsUptoCard : Claim7 := { stood := { row := utfReadsUptoRow, standIns := [], harness := (true, "85a576ae75f6e866d641bfb85271c4ee553eab5e299c37a5b3e1bd67a4e2988c"), looks := true }, kinds := [], alts := [], laidByText := true, laidKinds := [.data, .handle, .pinned], laidTests := true, laidLooks := .later }
def UtfReadsUptoCardSaid : Prop := Claim7.holds Tryd.pinned (.plain (OpenSpec.upto utfReadsSpec)) utfReadsUptoCard

/-- THE SECOND FORM's CARD OF 'rosettalaw.UtfWrites'. -/
def utfWritesUptoCard : Claim7 := { stood := { row := utfWritesUptoRow, standIns := [], harness := (true, "85a576ae75f6e866d641bfb85271c4ee553eab5e299c37a5b3e1bd67a4e2988c"), looks := true }, kinds := [], alts := [], laidByText := true, laidKinds := [.handle], laidTests := true, laidLooks := .later }
def UtfWritesUptoCardSaid : Prop := Claim7.holds Tryd.pinned (.plain (OpenSpec.upto utfWritesSpec)) utfWritesUptoCard

/-- THE SECOND FORM's CARD OF 'rosettakeep.UtfBack'. -/
def utfBackUptoCard : Claim7 := { stood := { row := utfBackUptoRow, standIns := [], harness := (true, "85a576ae75f6e866d641bfb85271c4ee553eab5e299c37a5b3e1bd67a4e2988c"), looks := true }, kinds := [], alts := [], laidByText := true, laidKinds := [.data, .pinned], laidTests := true, laidLooks := .later }
def UtfBackUptoCardSaid : Prop := Claim7.holds Tryd.pinned (.plain (OpenSpec.upto utfBackSpec)) utfBackUptoCard

/-- THE SECOND FORM's CARD OF 'rosettalaw.RopeGreat'. -/
def ropeGreatUptoCard : Claim7 := { stood := { row := ropeGreatUptoRow, standIns := [], harness := (true, "85a576ae75f6e866d641bfb85271c4ee553eab5e299c37a5b3e1bd67a4e2988c"), looks := true }, kinds := [], alts := [], laidByText := true, laidKinds := [.data, .handle, .pinned], laidTests := true, laidLooks := .later }
def RopeGreatUptoCardSaid : Prop := Claim7.holds Tryd.pinned (.plain (OpenSpec.upto ropeGreatSpec)) ropeGreatUptoCard

/-- THE SECOND FORM's CARD OF 'rosettakeep.PosBack'. -/
def posBackUptoCard : Claim7 := { stood := { row := posBackUptoRow, standIns := [], harness := (true, "85a576ae75f6e866d641bfb85271c4ee553eab5e299c37a5b3e1bd67a4e2988c"), looks := true }, kinds := [], alts := [], laidByText := true, laidKinds := [.data, .pinned], laidTests := true, laidLooks := .later }
def PosBackUptoCardSaid : Prop := Claim7.holds Tryd.pinned (.plain (OpenSpec.upto posBackSpec)) posBackUptoCard

/-- THE SECOND FORM's CARD OF 'rosettalaw.OpsCheck'. -/
def opsCheckUptoCard : Claim7 := { stood := { row := opsCheckUptoRow, standIns := [], harness := (true, "85a576ae75f6e866d641bfb85271c4ee553eab5e299c37a5b3e1bd67a4e2988c"), looks := true }, kinds := [], alts := [], laidByText := true, laidKinds := [.data, .handle, .pinned], laidTests := true, laidLooks := .later }
def OpsCheckUptoCardSaid : Prop := Claim7.holds Tryd.pinned (.plain (OpenSpec.upto opsCheckSpec)) opsCheckUptoCard

/-- THE SECOND FORM's CARD OF 'rosettalaw.OpsApply'. -/
def opsApplyUptoCard : Claim7 := { stood := { row := opsApplyUptoRow, standIns := [], harness := (true, "85a576ae75f6e866d641bfb85271c4ee553eab5e299c37a5b3e1bd67a4e2988c"), looks := true }, kinds := [], alts := [], laidByText := true, laidKinds := [.data, .handle, .pinned], laidTests := true, laidLooks := .later }
def OpsApplyUptoCardSaid : Prop := Claim7.holds Tryd.pinned (.plain (OpenSpec.upto opsApplySpec)) opsApplyUptoCard

/-- THE SECOND FORM's CARD OF 'rosettalaw.OpsCompose'. -/
def opsComposeUptoCard : Claim7 := { stood := { row := opsComposeUptoRow, standIns := [], harness := (true, "85a576ae75f6e866d641bfb85271c4ee553eab5e299c37a5b3e1bd67a4e2988c"), looks := true }, kinds := [], alts := [], laidByText := true, laidKinds := [.data, .handle, .pinned], laidTests := true, laidLooks := .later }
def OpsComposeUptoCardSaid : Prop := Claim7.holds Tryd.pinned (.plain (OpenSpec.upto opsComposeSpec)) opsComposeUptoCard

/-- THE SECOND FORM's CARD OF 'rosettalaw.OpsTransform'. -/
def opsTransformUptoCard : Claim7 := { stood := { row := opsTransformUptoRow, standIns := [], harness := (true, "85a576ae75f6e866d641bfb85271c4ee553eab5e299c37a5b3e1bd67a4e2988c"), looks := true }, kinds := [], alts := [], laidByText := true, laidKinds := [.data, .handle, .pinned], laidTests := true, laidLooks := .later }
def OpsTransformUptoCardSaid : Prop := Claim7.holds Tryd.pinned (.plain (OpenSpec.upto opsTransformSpec)) opsTransformUptoCard
end Rows
end Go.Proofs.YtgmgkbbnciglhaaDoor
