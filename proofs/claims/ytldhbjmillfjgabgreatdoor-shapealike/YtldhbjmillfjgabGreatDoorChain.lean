/-
  rope.chain: two trees' chunks in one.
-/
import Derived.Test.YtldhbjmillfjgabGreatDoorBetween
import Derived.Test.YtldhbjmillfjgabGreatDoorAdd
import Derived.Test.YtldhbjmillfjgabGreatDoorLast
namespace Go.Proofs.YtldhbjmillfjgabGreatDoor
open Go.RowKit
set_option linter.unusedVariables false
attribute [local go_sem] Oper.semAt_some

theorem C1_left {a b : List Nat} {k : Int} (h : C1 (a ++ b) ≤ k) : C1 a ≤ k := by rw [C1_append] at h; have := C1_pos b; omega
theorem C1_right {a b : List Nat} {k : Int} (h : C1 (a ++ b) ≤ k) : C1 b ≤ k := by rw [C1_append] at h; have := C1_pos a; omega

end Go.Proofs.YtldhbjmillfjgabGreatDoor
