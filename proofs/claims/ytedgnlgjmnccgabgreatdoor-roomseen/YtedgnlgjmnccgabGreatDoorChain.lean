/-
  rope.chain: two trees' chunks in one.
-/
import Derived.Test.YtedgnlgjmnccgabGreatDoorBetween
import Derived.Test.YtedgnlgjmnccgabGreatDoorRegionBut
namespace Go.Proofs.YtedgnlgjmnccgabGreatDoor
open Go.RowKit
set_option linter.unusedVariables false
attribute [local go_sem] Oper.semAt_some

theorem C1_left {a b : List Nat} {k : Int} (h : C1 (a ++ b) ≤ k) : C1 a ≤ k := by rw [C1_append] at h; have := C1_pos b; omega
end Go.Proofs.YtedgnlgjmnccgabGreatDoor
