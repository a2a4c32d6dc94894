/-
  The document's own Turn.
-/
import Derived.Test.YtedgnlgjmnccgabGreatDoorUnits
import Derived.Test.YtedgnlgjmnccgabGreatDoorHalves
import Derived.Test.YtedgnlgjmnccgabGreatDoorBackPure
import Derived.Deep.RegionWith
import Derived.Deep.QuietTactic
import Derived.BigQuiet
import Derived.Test.YtedgnlgjmnccgabGreatDoorUtf
import Derived.Shelf.Strings.Builder1
import Derived.Shelf.Strings.Builder2
import Derived.Shelf.Small.Utf8
import Derived.Shelf.Strings.BuilderF
import Derived.Shelf.Strings.BuilderK
import Derived.Shelf.Utf8.AppendRunePlain
import Derived.Shelf.Utf8.RuneCount
import Derived.Shelf.Strings.Builder2Cap
import Derived.Shelf.LaysM
import Derived.Shelf.Strconv.Clone
import Derived.Shelf.Strings.Search1
import Derived.Shelf.Strings.Search2
import Derived.Shelf.Strings.Search3
import Derived.Shelf.Strings.Cut
import Derived.Shelf.Strings.Count
import Derived.Shelf.Strings.Shaped
import Derived.Shelf.Strings.RuneCount
import Derived.Shelf.Unicode.DecodeSlow
import Derived.Shelf.Unicode.DecodeAny
import Derived.Shelf.Strings.BuilderCap
import Derived.Test.YtedgnlgjmnccgabGreatDoorProg
import Derived.Test.YtedgnlgjmnccgabGreatDoorReadsFacts
import Derived.RangeFuncRecord
import Derived.Test.YtedgnlgjmnccgabGreatDoorWalkIter
import Derived.Test.YtedgnlgjmnccgabGreatDoorRoundGrow
import Derived.Maps.OwnOps
import Derived.Test.YtedgnlgjmnccgabGreatDoorTurnZ
import Derived.Test.YtedgnlgjmnccgabGreatDoorBridgeZ
import Derived.Test.YtedgnlgjmnccgabGreatDoorOpsChk
namespace Go.Proofs.YtedgnlgjmnccgabGreatDoor
open Go.RowKit
set_option linter.unusedVariables false
attribute [local go_sem] Oper.semAt_some

/-- A part that lies in a box. -/
structure Pcell (w : World) (β : Nat) (K D : Int) (U : List UInt8) : Prop where
  c0 : w.cell? ⟨β, 0, none⟩ = some (.int .i64 K)
  c1 : w.cell? ⟨β, 1, none⟩ = some (.int .i64 D)
  c2 : w.cell? ⟨β, 2, none⟩ = some (.string ⟨U.toArray⟩)
  f0 : w.frozen? ⟨β, 0, none⟩ = false
  f1 : w.frozen? ⟨β, 1, none⟩ = false
theorem Pcell.below {w w' : World} {β : Nat} {K D : Int} {U : List UInt8} (h : Pcell w β K D U) (hb : Below w.heap.size w w') : Pcell w' β K D U := by
  have l := World.block_lt_of_cell? w _ h.c0
  exact ⟨cell_on hb h.c0, cell_on hb h.c1, cell_on hb h.c2, (hb.frozen (p := ⟨β, 0, none⟩) l).trans h.f0, (hb.frozen (p := ⟨β, 1, none⟩) l).trans h.f1⟩

end Go.Proofs.YtedgnlgjmnccgabGreatDoor
