/-
  rosettakeep.ShapeAlike, at every argument.
-/
import Derived.Test.YtldhbjmillfjgabGreatDoorAlikeLaw
namespace Go.Proofs.YtldhbjmillfjgabGreatDoor
open Go.RowKit
set_option linter.unusedVariables false

theorem shapeAlike_any (u0 : Int) (s : ByteArray) (v : Value) (ps : List Pt) (raw : Bool) (w : World) (hu0 : -9223372036854775808 ≤ u0 ∧ u0 < 9223372036854775808) (hg : asLaid w) (hT : Lib.Utf8Tabs 2 3 w) (hr : opAt w v ps) (hwf : ∀ p ∈ ps, rangeP p ∧ p.put.length ≤ maxLen) :
    Calls Tryz.prog 4 #[.int .i64 u0, .string s, v, .bool raw] w fun e w' => e = .returned (.bool true) ∧ Below w.heap.size w w' := by
  have es : (ByteArray.mk s.data.toList.toArray) = s := by cases s; simp
  rw [← es]
  generalize s.data.toList = t
  have hp : playWf ps := fun p hp h150 => by
    obtain ⟨⟨r1, r2, r3, r4⟩, _⟩ := hwf p hp
    exact ⟨r1, r2, r3, r4, by omega⟩
  by_cases h : ¬ isDoc t ∨ 60 < ps.length
  · exact alike_none u0 hu0 t v ps raw w hT hr h
  · have h1 : isDoc t := Classical.byContradiction fun e => h (.inl e)
    exact alike_doc u0 hu0 t h1 v ps raw w hg hT hr hp (by
      have : ¬ 60 < ps.length := fun e => h (.inr e)
      omega)
end Go.Proofs.YtldhbjmillfjgabGreatDoor
