/-
  ops.over: what its iterator does with the rounds of a loop.
-/
import Derived.Test.YtldhbjmillfjgabGreatDoorOpsNorm
import Derived.Test.YtldhbjmillfjgabGreatDoorLoopOwn
import Derived.OwnWalkIn
import Derived.TacticsInMore
import Derived.LoopNIn
import Derived.LoopIn
import Derived.Stop.RegionWithIn
namespace Go.Proofs.YtldhbjmillfjgabGreatDoor
open Go.RowKit
set_option linter.unusedVariables false
attribute [local go_sem] Oper.semAt_some

/-- The parts of an operation, each with its piece of the text. -/
def pcs : List Pt → List UInt8 → List (Pt × List UInt8)
  | [], _ => []
  | p :: ps, s => (p, s.take (lenP p).toNat) :: pcs ps (s.drop (lenP p).toNat)
/-- What is left of the text behind so many parts. -/
def leftP : List Pt → List UInt8 → List UInt8
  | [], s => s
  | p :: ps, s => leftP ps (s.drop (lenP p).toNat)

theorem pcs_append (a b : List Pt) (s : List UInt8) : pcs (a ++ b) s = pcs a s ++ pcs b (leftP a s) := by
  induction a generalizing s with
  | nil => rfl
  | cons q a ih => simp [pcs, leftP, ih]
/-- Each part keeps, or drops, no more than is left. -/
def fitsP : List Pt → List UInt8 → Prop
  | [], _ => True
  | p :: ps, s => 0 ≤ p.keep ∧ 0 ≤ p.drop ∧ lenP p ≤ s.length ∧ fitsP ps (s.drop (lenP p).toNat)
end Go.Proofs.YtldhbjmillfjgabGreatDoor
