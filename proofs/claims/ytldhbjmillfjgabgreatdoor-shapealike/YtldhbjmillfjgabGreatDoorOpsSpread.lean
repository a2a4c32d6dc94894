/-
  The document's Spread: an operation as gaps.
-/
import Derived.Test.YtldhbjmillfjgabGreatDoorOpsLens
import Derived.Test.YtldhbjmillfjgabGreatDoorRegionRel
import Derived.Test.YtldhbjmillfjgabGreatDoorHalves
import Derived.Test.YtldhbjmillfjgabGreatDoorBackPure
import Derived.Deep.RegionWith
namespace Go.Proofs.YtldhbjmillfjgabGreatDoor
open Go.RowKit
set_option linter.unusedVariables false

theorem own_setAt {w : World} {B e size n b o : Nat} {v : Value} {xs : List Value} (h : w.ownsRow B e size v n xs) (hb : b < B) (u : Value) : (w.setCell ⟨b, o, none⟩ u).ownsRow B e size v n xs := by
  obtain ⟨h0, hrow⟩ := h
  refine ⟨h0, ?_⟩
  rcases hrow with hn | ⟨g, cap, cur, rfl, hg, hgg, rest⟩
  · exact .inl hn
  · exact .inr ⟨g, cap, cur, rfl, hg, (Below.heap_setCell _ _ _ _ (by show g ≠ b; omega)).trans hgg, rest⟩
end Go.Proofs.YtldhbjmillfjgabGreatDoor
