/-
  rosettalaw.OpsTransform: the law's own walk.
-/
import Derived.Test.YtldhbjmillfjgabGreatDoorOpsGather
import Derived.Laws.EntriesVeiled
import Derived.Test.YtldhbjmillfjgabGreatDoorOpsRefChk
import Derived.Test.YtldhbjmillfjgabGreatDoorOpsLens
import Derived.Test.YtldhbjmillfjgabGreatDoorOpsRefGather
import Derived.Deep.LoopGhost
import Derived.Test.YtldhbjmillfjgabGreatDoorOpsSideW
import Derived.Test.YtldhbjmillfjgabGreatDoorOpsCompQ
import Derived.Deep.Cut
namespace Go.Proofs.YtldhbjmillfjgabGreatDoor
open Go.RowKit
set_option linter.unusedVariables false
attribute [local go_sem] Oper.semAt_some

theorem few_small {ps : List Pt} (h : fewB ps = true) : ps.length ≤ 100 ∧ ∀ p ∈ ps, p.put.length ≤ 300 := by
  unfold fewB at h
  rw [Bool.and_eq_true] at h
  refine ⟨of_decide_eq_true h.1, fun p hp => ?_⟩
  have h2 := List.all_eq_true.1 h.2 p hp
  unfold fewP at h2
  simp only [Bool.not_eq_true', Bool.or_eq_false_iff, decide_eq_false_iff_not] at h2
  omega
/-- few, of an operation of any length. -/
theorem fewX_any (v : Value) (ps : List Pt) (w : World) (hr : opAt w v ps) : Calls Tryz.prog 27 #[v] w fun e w' => e = .returned (.bool (fewB ps)) ∧ Below w.heap.size w w' := by
  by_cases hl : ps.length < 10000000
  · exact few_any v ps w hr hl
  · obtain ⟨p, c, rfl, r1, r2, r3⟩ := hr
    have hb : fewB ps = false := by unfold fewB; rw [decide_eq_false (by omega)]; rfl
    rw [hb]
    unfold maxLen at r2
    have hm' : (100 : Int) < (ps.length : Int) := by omega
    clear r3
    go_enter Tryz.func27, Tryz.ntmps27
    go_wp2
    go_ret
    exact ⟨rfl, Below.refl _ _⟩

end Go.Proofs.YtldhbjmillfjgabGreatDoor
