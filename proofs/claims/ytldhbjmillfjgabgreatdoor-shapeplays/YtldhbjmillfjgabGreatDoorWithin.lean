/-
  rope.within: as few of a chunk's runes as are enough.
-/
import Derived.Test.YtldhbjmillfjgabGreatDoorRope
import Derived.Test.YtldhbjmillfjgabGreatDoorBetween
import Derived.Test.YtldhbjmillfjgabGreatDoorRegionBut
import Derived.Test.YtldhbjmillfjgabGreatDoorWalkIter
import Derived.Test.YtldhbjmillfjgabGreatDoorReadsEdge
namespace Go.Proofs.YtldhbjmillfjgabGreatDoor
open Go.RowKit
set_option linter.unusedVariables false
attribute [local go_sem] Oper.semAt_some yieldsUpon okUpon

/-- What some runes count, as a value. -/
def cntV (rs : List Nat) : Value := .agg #[.int .i64 (C1 rs), .int .i64 (C2 rs), .int .i64 (C3 rs), .int .i64 (C4 rs)]

/-- The least beginning, with one rune at least behind pre, that is enough. -/
def seek (f : List Nat → Bool) : List Nat → List Nat → Option (List Nat)
  | _, [] => none
  | pre, r :: rs => if f (pre ++ [r]) then some (pre ++ [r]) else seek f (pre ++ [r]) rs
end Go.Proofs.YtldhbjmillfjgabGreatDoor
