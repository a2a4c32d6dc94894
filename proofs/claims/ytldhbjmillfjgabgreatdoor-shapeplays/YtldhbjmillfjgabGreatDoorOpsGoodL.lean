/-
  Three operations (pure): composed alike in whichever order; and a third one sees no difference.
-/
import Derived.Test.YtldhbjmillfjgabGreatDoorOpsGoodT
namespace Go.Proofs.YtldhbjmillfjgabGreatDoor
set_option linter.unusedVariables false

theorem good.left {ps : List Pt} {t : List UInt8} (h : good ps t) : Left ps t := ⟨h.one, h.long, h.al⟩

theorem puts_cons (p : Pt) (ps : List Pt) : putsP (p :: ps) = p.put.length + putsP ps := by simp [putsP]
end Go.Proofs.YtldhbjmillfjgabGreatDoor
