/-
  rosettakeep.RoomMeets at every argument.
-/
import Derived.Test.YtedgnlgjmnccgabGreatDoorKeepLawA
namespace Go.Proofs.YtedgnlgjmnccgabGreatDoor
open Go.RowKit Go.Maps
set_option linter.unusedVariables false

theorem env_of (w : World) (hg : asLaid w) (hT : Lib.Utf8Tabs 2 3 w) : Env w.heap.size w :=
  ⟨hg, hT, World.block_lt_of_cell? w ⟨0, 0, none⟩ hg, World.block_lt_of_cell? w _ (hT.1 0 (by decide)), World.block_lt_of_cell? w _ (hT.2 0 (by decide)).1⟩
end Go.Proofs.YtedgnlgjmnccgabGreatDoor
