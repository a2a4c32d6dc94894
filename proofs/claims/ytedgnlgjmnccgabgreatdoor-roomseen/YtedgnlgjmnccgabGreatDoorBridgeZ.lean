/-
  bridge.turn by any units: what comes, or a part that ends within a rune.
-/
import Derived.Test.YtedgnlgjmnccgabGreatDoorBridge
import Derived.Test.YtedgnlgjmnccgabGreatDoorTurnZ
namespace Go.Proofs.YtedgnlgjmnccgabGreatDoor
open Go.RowKit
set_option linter.unusedVariables false
attribute [local go_sem] Oper.semAt_some

/-- What comes of parts in another unit; none, where one ends within a rune. -/
def turnO (rs : List Nat) (u v : Int) (qs : List Pt) : List Pt := if (turnZ rs u v 0 qs).2 then (turnZ rs u v 0 qs).1 else []
def turnX (rs : List Nat) (u v : Int) (qs : List Pt) : Int := if (turnZ rs u v 0 qs).2 then 0 else 10
end Go.Proofs.YtedgnlgjmnccgabGreatDoor
