/-
  rosettalaw.OpsCheck: the law's own walk.
-/
import Derived.Test.YtedgnlgjmnccgabGreatDoorOpsChk
import Derived.Test.YtedgnlgjmnccgabGreatDoorHalves
import Derived.Test.YtedgnlgjmnccgabGreatDoorBackPure
import Derived.Deep.RegionWith
import Derived.Deep.QuietTactic
import Derived.BigQuiet
import Derived.Test.YtedgnlgjmnccgabGreatDoorUtf
import Derived.Test.YtedgnlgjmnccgabGreatDoorOpsLens
import Derived.Test.YtedgnlgjmnccgabGreatDoorOpsRefGather
namespace Go.Proofs.YtedgnlgjmnccgabGreatDoor
open Go.RowKit
set_option linter.unusedVariables false

theorem opAt_grown {w w' : World} {v : Value} {ps : List Pt} (h : opAt w v ps) (hb : Below w.heap.size w w') : opAt w' v ps := opAt_below h hb (Nat.le_refl _)

theorem lensW_range (ps : List Pt) : -9223372036854775808 ≤ (lensW ps).1 ∧ (lensW ps).1 < 9223372036854775808 := by
  unfold lensW
  rcases List.eq_nil_or_concat ps with rfl | ⟨l, p, rfl⟩
  · simp
  · rw [List.concat_eq_append, List.foldl_append]
    show -9223372036854775808 ≤ IntKind.i64.wrap _ ∧ IntKind.i64.wrap _ < _
    rw [IntKind.wrap_i64]
    omega

end Go.Proofs.YtedgnlgjmnccgabGreatDoor
