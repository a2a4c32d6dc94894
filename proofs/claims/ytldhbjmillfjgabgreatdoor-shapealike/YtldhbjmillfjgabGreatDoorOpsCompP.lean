/-
  Compose, pure: what comes of two operations as cells, and what the pairs that are side by side add up to.
-/
import Derived.Test.YtldhbjmillfjgabGreatDoorOpsTurnP
import Derived.Test.YtldhbjmillfjgabGreatDoorOpsNormP
import Derived.Test.YtldhbjmillfjgabGreatDoorOpsSpread
namespace Go.Proofs.YtldhbjmillfjgabGreatDoor
set_option linter.unusedVariables false

/-- A first part, told apart. -/
theorem one_three {p : Pt} (h : oneP p) : (∃ u, u ≠ [] ∧ p = ⟨0, 0, u⟩) ∨ (∃ n : Nat, p = ⟨(n : Int) + 1, 0, []⟩) ∨ ∃ n : Nat, p = ⟨0, (n : Int) + 1, []⟩ := by
  rcases one_cases h with h | ⟨d, n, rfl⟩
  · exact .inl h
  · cases d with
    | true => exact .inr (.inr ⟨n, rfl⟩)
    | false => exact .inr (.inl ⟨n, rfl⟩)
end Go.Proofs.YtldhbjmillfjgabGreatDoor
