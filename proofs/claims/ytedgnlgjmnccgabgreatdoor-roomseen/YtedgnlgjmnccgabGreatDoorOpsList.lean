/-
  A slice of operations that is handed in: what it reads as.
-/
import Derived.Test.YtedgnlgjmnccgabGreatDoorOpsOpen
import Derived.Test.YtedgnlgjmnccgabGreatDoorOpsChk
namespace Go.Proofs.YtedgnlgjmnccgabGreatDoor
open Go.RowKit Go.Deep Go.ChangeShapes Go.WideShapes
set_option linter.unusedVariables false

/-- Where it is small, its numbers are numbers. -/
def smallWf (q : List Pt) : Prop := ∀ p ∈ q, p.put.length ≤ 300 → wfP p
theorem cellsOf_op : Tryz.prog.cellsOf 23 = 1 := by kernel_rfl
theorem small_of {q : List Pt} (h : ∀ p ∈ q, rangeP p ∧ p.put.length ≤ maxLen) : smallWf q := fun p hp hs => by
  obtain ⟨⟨r1, r2, r3, r4⟩, _⟩ := h p hp
  exact ⟨r1, r2, r3, r4, by omega⟩
end Go.Proofs.YtedgnlgjmnccgabGreatDoor
