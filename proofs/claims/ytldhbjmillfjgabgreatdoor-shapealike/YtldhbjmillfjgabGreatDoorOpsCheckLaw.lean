/-
  rosettalaw.OpsCheck: the law's own walk.
-/
import Derived.Test.YtldhbjmillfjgabGreatDoorOpsChk
import Derived.Test.YtldhbjmillfjgabGreatDoorHalves
import Derived.Test.YtldhbjmillfjgabGreatDoorBackPure
import Derived.Deep.RegionWith
import Derived.Deep.QuietTactic
import Derived.BigQuiet
import Derived.Test.YtldhbjmillfjgabGreatDoorUtf
import Derived.Test.YtldhbjmillfjgabGreatDoorOpsLens
import Derived.Test.YtldhbjmillfjgabGreatDoorOpsRefGather
namespace Go.Proofs.YtldhbjmillfjgabGreatDoor
open Go.RowKit
set_option linter.unusedVariables false

theorem opAt_grown {w w' : World} {v : Value} {ps : List Pt} (h : opAt w v ps) (hb : Below w.heap.size w w') : opAt w' v ps := opAt_below h hb (Nat.le_refl _)

end Go.Proofs.YtldhbjmillfjgabGreatDoor
