/-
  Two operations side by side: the model of what Compose and Transform go through (pure).
-/
import Derived.Test.YtldhbjmillfjgabGreatDoorOpsPure
namespace Go.Proofs.YtldhbjmillfjgabGreatDoor
set_option linter.unusedVariables false

def lengthP (p : Pt) : Int := p.keep + p.drop + p.put.length
/-- A part that is one thing, and not nothing. -/
def oneP (p : Pt) : Prop := (0 < p.keep ∧ p.drop = 0 ∧ p.put = []) ∨ (p.keep = 0 ∧ 0 < p.drop ∧ p.put = []) ∨ (p.keep = 0 ∧ p.drop = 0 ∧ p.put ≠ [])
theorem length_pos {p : Pt} (h : oneP p) : 0 < lengthP p := by
  unfold lengthP
  rcases h with ⟨h1, h2, h3⟩ | ⟨h1, h2, h3⟩ | ⟨h1, h2, h3⟩
  · rw [h2, h3]; simp; omega
  · rw [h1, h3]; simp; omega
  · have := List.length_pos_iff.2 h3; omega
end Go.Proofs.YtldhbjmillfjgabGreatDoor
