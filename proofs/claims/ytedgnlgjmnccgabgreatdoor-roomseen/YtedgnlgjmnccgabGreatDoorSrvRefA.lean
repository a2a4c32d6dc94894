/-
  The document's server: Text, and what it does where nothing is done ahead of the check.
-/
import Derived.Test.YtedgnlgjmnccgabGreatDoorSrvLog
import Derived.Test.YtedgnlgjmnccgabGreatDoorOpsChk
import Derived.Test.YtedgnlgjmnccgabGreatDoorHalves
import Derived.Test.YtedgnlgjmnccgabGreatDoorBackPure
import Derived.Deep.RegionWith
import Derived.Deep.QuietTactic
import Derived.BigQuiet
import Derived.Test.YtedgnlgjmnccgabGreatDoorUtf
import Derived.Test.YtedgnlgjmnccgabGreatDoorOpsOrd
import Derived.Test.YtedgnlgjmnccgabGreatDoorOpsInv
namespace Go.Proofs.YtedgnlgjmnccgabGreatDoor
open Go.RowKit Go.Maps
set_option linter.unusedVariables false
attribute [local go_sem] Oper.semAt_some

/-- The documents that there were. -/
structure okD (l0 : Int) (t : List UInt8) (E : List SE) (D : List (List UInt8)) : Prop where
  len : D.length = E.length + 1
  at_ : ∀ k, k ≤ E.length → ∃ d, D[k]? = some d ∧ (d.length : Int) = endE l0 (E.take k)
  last : D[E.length]? = some t

end Go.Proofs.YtedgnlgjmnccgabGreatDoor
