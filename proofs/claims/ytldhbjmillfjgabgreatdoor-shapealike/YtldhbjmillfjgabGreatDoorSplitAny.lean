/-
  rope.split: a tree in two: within a chunk; all of it.
-/
import Derived.Test.YtldhbjmillfjgabGreatDoorSplit
import Derived.Test.YtldhbjmillfjgabGreatDoorCutPure
namespace Go.Proofs.YtldhbjmillfjgabGreatDoor
open Go.RowKit
set_option linter.unusedVariables false
attribute [local go_sem] Oper.semAt_some yieldsUpon okUpon field0 field3

theorem okT_node {l r : T} {c : List Nat} (h : okT (.node l c r)) : okT l ∧ okT r ∧ okChunk c := by
  obtain ⟨⟨b1, b2, _, _⟩, h2⟩ := h
  exact ⟨⟨b1, fun x hx => h2 x (by simp [T.chunks, hx])⟩, ⟨b2, fun x hx => h2 x (by simp [T.chunks, hx])⟩, h2 c (by simp [T.chunks])⟩

end Go.Proofs.YtldhbjmillfjgabGreatDoor
