/-
  utf.In, rope's isUnit, and the closures of Ahead and Line.
-/
import Derived.Test.YtldhbjmillfjgabGreatDoorUntil
namespace Go.Proofs.YtldhbjmillfjgabGreatDoor
open Go.RowKit
set_option linter.unusedVariables false
attribute [local go_sem] Oper.semAt_some yieldsUpon okUpon field0 field3

/-- How many of a unit. -/
def by_ (u : Int) (rs : List Nat) : Int := if u = 1 then C1 rs else if u = 2 then C2 rs else if u = 3 then C3 rs else 0
theorem by_append (u : Int) (a b : List Nat) : by_ u (a ++ b) = by_ u a + by_ u b := by
  unfold by_
  split
  · exact C1_append a b
  · split
    · exact C2_append a b
    · split
      · exact C3_append a b
      · rfl
theorem by_pos (u : Int) (a : List Nat) : 0 ≤ by_ u a := by
  unfold by_
  split
  · exact C1_pos a
  · split
    · exact (C2_le a).1
    · split
      · exact (C3_le a).1
      · omega

def reachesBy (u at_ : Int) (rs : List Nat) : Bool := decide (at_ ≤ by_ u rs)
end Go.Proofs.YtldhbjmillfjgabGreatDoor
