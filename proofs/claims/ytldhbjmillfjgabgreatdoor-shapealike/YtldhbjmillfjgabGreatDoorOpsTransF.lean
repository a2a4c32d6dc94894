/-
  What Transform and Compose go through side by side: ready, and how heavy (pure, and worlds).
-/
import Derived.Test.YtldhbjmillfjgabGreatDoorOpsSideW
import Derived.Test.YtldhbjmillfjgabGreatDoorOpsCompQ
import Derived.Deep.LoopGhost
namespace Go.Proofs.YtldhbjmillfjgabGreatDoor
open Go.RowKit
set_option linter.unusedVariables false

/-- An operation that may be, and is not too great. -/
structure fineP (ps : List Pt) : Prop where
  one : ∀ p ∈ ps, oneP p
  w : wts ps < 2000000
  len : ps.length < 10000000
end Go.Proofs.YtldhbjmillfjgabGreatDoor
