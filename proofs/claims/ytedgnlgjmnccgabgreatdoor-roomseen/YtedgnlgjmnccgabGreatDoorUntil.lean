/-
  rope.until: as few runes of a tree as are enough.
-/
import Derived.Test.YtedgnlgjmnccgabGreatDoorWithin
import Derived.Test.YtedgnlgjmnccgabGreatDoorSplit
import Derived.Test.YtedgnlgjmnccgabGreatDoorCutPure
namespace Go.Proofs.YtedgnlgjmnccgabGreatDoor
open Go.RowKit
set_option linter.unusedVariables false
attribute [local go_sem] Oper.semAt_some yieldsUpon okUpon

/-- The least beginning, of pre or more, that is enough; all, if none is. -/
def find (f : List Nat → Bool) (pre rs : List Nat) : List Nat := if f pre then pre else (seek f pre rs).getD (pre ++ rs)
end Go.Proofs.YtedgnlgjmnccgabGreatDoor
