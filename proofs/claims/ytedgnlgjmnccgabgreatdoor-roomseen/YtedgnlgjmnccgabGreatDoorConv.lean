/-
  pos.Convert at a place that there is.
-/
import Derived.Test.YtedgnlgjmnccgabGreatDoorUnits
namespace Go.Proofs.YtedgnlgjmnccgabGreatDoor
open Go.RowKit
set_option linter.unusedVariables false
attribute [local go_sem] Oper.semAt_some

theorem find_zero (u : Int) (rs : List Nat) : find (reachesBy u 0) [] rs = [] := by
  unfold find
  have : reachesBy u 0 [] = true := decide_eq_true (by_pos u [])
  rw [if_pos this]
theorem by_nil (u : Int) : by_ u [] = 0 := by
  unfold by_
  split
  · rfl
  · split
    · rfl
    · split <;> rfl
end Go.Proofs.YtedgnlgjmnccgabGreatDoor
