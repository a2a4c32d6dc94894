/-
  pos.Convert by units that are none, and within a rune.
-/
import Derived.Test.YtedgnlgjmnccgabGreatDoorConv
import Derived.Test.YtedgnlgjmnccgabGreatDoorErrNum
namespace Go.Proofs.YtedgnlgjmnccgabGreatDoor
open Go.RowKit
set_option linter.unusedVariables false
attribute [local go_sem] Oper.semAt_some

def unitOk (u : Int) : Prop := u = 1 ∨ u = 2 ∨ u = 3
end Go.Proofs.YtedgnlgjmnccgabGreatDoor
