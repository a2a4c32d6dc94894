/-
  bridge.To and From, and the document's Turn, of any operation by any units.
-/
import Derived.Test.YtldhbjmillfjgabGreatDoorRefTurn
namespace Go.Proofs.YtldhbjmillfjgabGreatDoor
open Go.RowKit
set_option linter.unusedVariables false
attribute [local go_sem] Oper.semAt_some

def uB (u : Int) : Bool := decide (u = 1 ∨ u = 2 ∨ u = 3)
theorem uB_iff (u : Int) : uB u = true ↔ unitOk u := by unfold uB unitOk; exact decide_eq_true_iff
def tzE (rs : List Nat) (u v : Int) (qs : List Pt) : Int := if (uB u && uB v) = true then (if chkE qs (by_ u rs) = 0 then turnX rs u v qs else chkE qs (by_ u rs)) else 1
def tzO (rs : List Nat) (u v : Int) (qs : List Pt) : List Pt := if (uB u && uB v) = true then (if chkE qs (by_ u rs) = 0 then turnO rs u v qs else []) else []
theorem opAt_none (w : World) : opAt w (.slice none 0 0) [] := ⟨none, 0, rfl, Nat.le_refl _, Nat.zero_le _, fun h => absurd rfl h⟩
theorem refTurn_all (s : ByteArray) (rs : List Nat) (u v : Int) (qs : List Pt) (val : Value) (w : World) (hr : ∀ r ∈ rs, isRune r) (he : encs rs = s.data.toList) (hs : s.size < 1000000) (ho : opAt w val qs) (hwf : ∀ q ∈ qs, wfP q) (hsm : ∀ q ∈ qs, q.put.length < 100000000) (hl : qs.length ≤ 1000) :
    Calls Tryz.prog 10 #[.string s, .int .i64 u, .int .i64 v, val] w fun e w' => ∃ v', e = .returned (.tuple #[v', .int .i64 (tzE rs u v qs)]) ∧ opAt w' v' (tzO rs u v qs) ∧ Below w.heap.size w w' := by
  unfold tzE tzO
  by_cases hu : unitOk u ∧ unitOk v
  · rw [(uB_iff u).2 hu.1, (uB_iff v).2 hu.2, Bool.and_self, if_pos rfl, if_pos rfl]
    by_cases hc : chkE qs (by_ u rs) = 0
    · rw [if_pos hc, if_pos hc]
      exact refTurn_fine s rs u v qs val w hr he hs hu.1 hu.2 ho hwf hsm hl hc
    · rw [if_neg hc, if_neg hc]
      exact (refTurn_chk s rs u v qs val w hr he hs hu.1 hu.2 ho hwf hsm hl hc).mono fun e w' h => ⟨_, h.1, opAt_none w', h.2⟩
  · have e : (uB u && uB v) = false := Bool.eq_false_iff.2 fun e => hu (by rw [Bool.and_eq_true] at e; exact ⟨(uB_iff u).1 e.1, (uB_iff v).1 e.2⟩)
    rw [e, if_neg (by decide), if_neg (by decide)]
    exact (refTurn_unit s u v val hu w).mono fun e w' h => ⟨_, h.1, opAt_none w', h.2⟩
end Go.Proofs.YtldhbjmillfjgabGreatDoor
