/-
  rope.between, of no trees: a text in chunks.
-/
import Derived.Test.YtedgnlgjmnccgabGreatDoorCutPure
import Derived.Test.YtedgnlgjmnccgabGreatDoorRegionBut
import Derived.Test.YtedgnlgjmnccgabGreatDoorLoopOwn
import Derived.Test.YtedgnlgjmnccgabGreatDoorShelfR
import Derived.OwnWalkIn
import Derived.TacticsInMore
import Derived.LoopNIn
import Derived.LoopIn
import Derived.Test.YtedgnlgjmnccgabGreatDoorRoundRel
namespace Go.Proofs.YtedgnlgjmnccgabGreatDoor
open Go.RowKit
set_option linter.unusedVariables false
attribute [local go_sem] Oper.semAt_some yieldsUpon okUpon

theorem But.putObj (B : Nat) (A : World) (o : Obj) : But B A (A.putObj B o) := ⟨rfl, rfl, rfl, by simp, fun k _ h => World.putObj_heap_other h⟩
theorem But.frozen {B : Nat} {A A' : World} (h : But B A A') {b o : Nat} (hl : b < A.heap.size) (hb : b ≠ B) : A'.frozen? ⟨b, o, none⟩ = A.frozen? ⟨b, o, none⟩ :=
  World.frozen?_of_block (w := A) (a := ⟨b, o, none⟩) (h.block b hl hb)
end Go.Proofs.YtedgnlgjmnccgabGreatDoor
