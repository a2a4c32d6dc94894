/-
  rosettakeep's pick and fit: what comes is few parts that are not great.
-/
import Derived.Test.YtldhbjmillfjgabGreatDoorOpsNorm
import Derived.Test.YtldhbjmillfjgabGreatDoorOpsChk
import Derived.Test.YtldhbjmillfjgabGreatDoorTree
namespace Go.Proofs.YtldhbjmillfjgabGreatDoor
open Go.RowKit
set_option linter.unusedVariables false
attribute [local go_sem] Oper.semAt_some

theorem cells_newN (w : World) (n : Nat) (hn : w.heap.size = n) (l : List Value) (t : TypeId) : ∀ j u, l[j]? = some u → (w.alloc (.cells l.toArray t)).cell? ((⟨n, 0, none⟩ : Addr).add j) = some u := by
  subst hn
  exact cells_new w l t
end Go.Proofs.YtldhbjmillfjgabGreatDoor
