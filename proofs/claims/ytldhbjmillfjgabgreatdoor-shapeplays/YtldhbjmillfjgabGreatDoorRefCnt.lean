/-
  The document's own Count, of a sound text.
-/
import Derived.Test.YtldhbjmillfjgabGreatDoorUnits
import Derived.Test.YtldhbjmillfjgabGreatDoorRefCount
import Derived.Test.YtldhbjmillfjgabGreatDoorReadsFacts
namespace Go.Proofs.YtldhbjmillfjgabGreatDoor
open Go.RowKit
set_option linter.unusedVariables false

/-- What Count tells of a sound text. -/
theorem refCount_of (s : ByteArray) (rs : List Nat) (hr : ∀ r ∈ rs, isRune r) (he : encs rs = s.data.toList) (hs : s.size < 100000000) (w : World) :
    Calls Tryz.prog 8 #[.string s] w fun e w' => e = .returned (.tuple #[cntV rs, .agg #[.int .i64 0, .int .i64 (-1)]]) ∧ Below w.heap.size w w' := by
  have hsc := scan_encs rs hr
  rw [he] at hsc
  have hro : runesOf s.data.toList = rs := by
    unfold runesOf
    rw [hsc]
    simp [wide, List.map_map, Function.comp_def]
  refine (refCount_good s hs w (by rw [hsc])).mono fun e w' h => ⟨?_, h.1⟩
  rw [h.2, hro]
  have h1 : (s.size : Int) = C1 rs := by rw [C1_len, he, ← Lib.size_eq]
  have h2 : ((halRow rs).length : Int) = C2 rs := by unfold C2; rw [sum2_wide]
  have h4 : (Lib.countByte s.data.toList 10 : Int) = C4 rs := by unfold C4; rw [sum4_wide hr, he]
  unfold cnt cntV
  rw [h1, h2, h4]
  rfl
end Go.Proofs.YtldhbjmillfjgabGreatDoor
