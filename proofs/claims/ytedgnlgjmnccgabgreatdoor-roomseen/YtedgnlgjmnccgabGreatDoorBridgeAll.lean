/-
  bridge.To and From, and the document's Turn, of any operation by any units.
-/
import Derived.Test.YtedgnlgjmnccgabGreatDoorRefTurn
namespace Go.Proofs.YtedgnlgjmnccgabGreatDoor
open Go.RowKit
set_option linter.unusedVariables false
attribute [local go_sem] Oper.semAt_some

def uB (u : Int) : Bool := decide (u = 1 ∨ u = 2 ∨ u = 3)
theorem uB_iff (u : Int) : uB u = true ↔ unitOk u := by unfold uB unitOk; exact decide_eq_true_iff
def tzE (rs : List Nat) (u v : Int) (qs : List Pt) : Int := if (uB u && uB v) = true then (if chkE qs (by_ u rs) = 0 then turnX rs u v qs else chkE qs (by_ u rs)) else 1
def tzO (rs : List Nat) (u v : Int) (qs : List Pt) : List Pt := if (uB u && uB v) = true then (if chkE qs (by_ u rs) = 0 then turnO rs u v qs else []) else []
theorem by_small (rs : List Nat) (h : C1 rs ≤ 1000000) (x : Int) : by_ x rs ≤ 3000000 := by
  have h2 := C2_le rs; have h3 := C3_le rs; have h1 := C1_pos rs
  unfold by_; split <;> (try split) <;> (try split) <;> omega
end Go.Proofs.YtedgnlgjmnccgabGreatDoor
