/-
  ops' functions at operations that never cut a rune of their text, as rosettakeep calls them.
-/
import Derived.Test.YtldhbjmillfjgabGreatDoorBridge
import Derived.Test.YtldhbjmillfjgabGreatDoorRope
import Derived.Test.YtldhbjmillfjgabGreatDoorOpsGoodT
import Derived.Test.YtldhbjmillfjgabGreatDoorBackPure
import Derived.Test.YtldhbjmillfjgabGreatDoorDone
import Derived.Test.YtldhbjmillfjgabGreatDoorOpsGoodL
import Derived.Test.YtldhbjmillfjgabGreatDoorOpsApp
namespace Go.Proofs.YtldhbjmillfjgabGreatDoor
open Go.RowKit
set_option linter.unusedVariables false

theorem wts_eq : ∀ (ps : List Pt), wts ps = longP ps + putsP ps
  | [] => by simp [wts, longP, putsP]
  | p :: ps => by
    have ih := wts_eq ps
    have e1 : wts (p :: ps) = wtP p + wts ps := by simp [wts]
    rw [e1, long_cons, puts_cons, ih]
    unfold wtP lenP
    push_cast; omega
theorem len_wts : ∀ (ps : List Pt), (∀ p ∈ ps, oneP p) → (ps.length : Int) ≤ wts ps
  | [], _ => by simp [wts]
  | p :: ps, h => by
    have ih := len_wts ps fun q hq => h q (by simp [hq])
    have e1 : wts (p :: ps) = wtP p + wts ps := by simp [wts]
    have h1 := length_pos (h p (by simp))
    have e2 : lengthP p = wtP p := rfl
    rw [e1, List.length_cons]; push_cast; omega
theorem wts_mem : ∀ (ps : List Pt), (∀ p ∈ ps, oneP p) → ∀ p ∈ ps, wtP p ≤ wts ps
  | [], _, p, hp => by cases hp
  | q :: ps, h, p, hp => by
    have e1 : wts (q :: ps) = wtP q + wts ps := by simp [wts]
    have h0 := len_wts ps fun x hx => h x (by simp [hx])
    have h1 := length_pos (h q (by simp))
    have e2 : lengthP q = wtP q := rfl
    rcases List.mem_cons.1 hp with rfl | hp
    · omega
    · have := wts_mem ps (fun x hx => h x (by simp [hx])) p hp
      omega
theorem good.wt {x : List Pt} {t : List UInt8} (h : good x t) : wts x = t.length + putsP x := by rw [wts_eq, h.long]
theorem good.wf {x : List Pt} {t : List UInt8} (h : good x t) (hb : t.length + putsP x < 1000000) : ∀ p ∈ x, wfP p := by
  intro p hp
  have h1 := h.wt
  have h2 := wts_mem x h.one p hp
  obtain ⟨k1, k2, _⟩ := one_kind (h.one p hp)
  have e : wtP p = p.keep + p.drop + p.put.length := rfl
  exact ⟨by omega, by omega, by omega, by omega, by omega⟩
end Go.Proofs.YtldhbjmillfjgabGreatDoor
