/-
  rosettakeep's done: a fact.
-/
import Derived.Test.YtedgnlgjmnccgabGreatDoorOpsTransE
import Derived.Test.YtedgnlgjmnccgabGreatDoorOpsLens
import Derived.Test.YtedgnlgjmnccgabGreatDoorFit
namespace Go.Proofs.YtedgnlgjmnccgabGreatDoor
open Go.RowKit
set_option linter.unusedVariables false
attribute [local go_sem] Oper.semAt_some

/-- A row that is written out reads as its parts. -/
theorem opAt_lit {W : World} {g : Nat} {ps : List Pt} {t : TypeId} {fz : Nat × Nat} (h : W.heap[g]? = some (.cells (cellsP ps).toArray t fz)) (hl : ps.length ≤ maxLen) : opAt W (.slice (some ⟨g, 0, none⟩) ps.length ps.length) ps := by
  refine ⟨_, _, rfl, Nat.le_refl _, hl, fun _ => ⟨g, 0, rfl, heap_lt h, fun i q hi => ?_⟩⟩
  have hc := cellsP_get ps i q hi
  have key : ∀ j, j < 3 → W.cell? ⟨g, 0 + i * 3 + j, none⟩ = (partCells q)[j]? := fun j hj => by
    have := Lib.cell_of_heap h (0 + i * 3 + j)
    rw [this, Nat.zero_add, ← hc j hj]
    simp
  exact ⟨key 0 (by omega), key 1 (by omega), key 2 (by omega)⟩
def d1 : List Pt := [⟨0, 0, [120]⟩, ⟨3, 0, []⟩]
def d2 : List Pt := [⟨2, 0, []⟩, ⟨0, 0, [120]⟩, ⟨1, 0, []⟩]
end Go.Proofs.YtedgnlgjmnccgabGreatDoor
