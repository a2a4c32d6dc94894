/-
  ops' functions at operations that never cut a rune of their text, as rosettakeep calls them.
-/
import Derived.Test.YtldhbjmillfjgabGreatDoorOver
import Derived.Test.YtldhbjmillfjgabGreatDoorDone
import Derived.Test.YtldhbjmillfjgabGreatDoorOpsGoodL
import Derived.Test.YtldhbjmillfjgabGreatDoorOpsApp
namespace Go.Proofs.YtldhbjmillfjgabGreatDoor
open Go.RowKit
set_option linter.unusedVariables false

theorem wts_eq : ∀ (ps : List Pt), wts ps = longP ps + putsP ps
  | [] => by simp [wts, longP, putsP]
  | p :: ps => by
    have ih := wts_eq ps
    have e1 : wts (p :: ps) = wtP p + wts ps := by simp [wts]
    rw [e1, long_cons, puts_cons, ih]
    unfold wtP lenP
    push_cast; omega
theorem len_wts : ∀ (ps : List Pt), (∀ p ∈ ps, oneP p) → (ps.length : Int) ≤ wts ps
  | [], _ => by simp [wts]
  | p :: ps, h => by
    have ih := len_wts ps fun q hq => h q (by simp [hq])
    have e1 : wts (p :: ps) = wtP p + wts ps := by simp [wts]
    have h1 := length_pos (h p (by simp))
    have e2 : lengthP p = wtP p := rfl
    rw [e1, List.length_cons]; push_cast; omega
theorem wts_mem : ∀ (ps : List Pt), (∀ p ∈ ps, oneP p) → ∀ p ∈ ps, wtP p ≤ wts ps
  | [], _, p, hp => by cases hp
  | q :: ps, h, p, hp => by
    have e1 : wts (q :: ps) = wtP q + wts ps := by simp [wts]
    have h0 := len_wts ps fun x hx => h x (by simp [hx])
    have h1 := length_pos (h q (by simp))
    have e2 : lengthP q = wtP q := rfl
    rcases List.mem_cons.1 hp with rfl | hp
    · omega
    · have := wts_mem ps (fun x hx => h x (by simp [hx])) p hp
      omega
theorem good.wt {x : List Pt} {t : List UInt8} (h : good x t) : wts x = t.length + putsP x := by rw [wts_eq, h.long]
theorem good.fine {x : List Pt} {t : List UInt8} (h : good x t) (hb : t.length + putsP x < 1000000) : fineP x := by
  have h1 := h.wt
  have h2 := len_wts x h.one
  exact ⟨h.one, by omega, by omega⟩
theorem good.wf {x : List Pt} {t : List UInt8} (h : good x t) (hb : t.length + putsP x < 1000000) : ∀ p ∈ x, wfP p := by
  intro p hp
  have h1 := h.wt
  have h2 := wts_mem x h.one p hp
  obtain ⟨k1, k2, _⟩ := one_kind (h.one p hp)
  have e : wtP p = p.keep + p.drop + p.put.length := rfl
  exact ⟨by omega, by omega, by omega, by omega, by omega⟩
theorem flags_len : ∀ (ps : List Pt), (∀ p ∈ ps, 0 ≤ p.keep ∧ 0 ≤ p.drop) → ((flagsP ps).length : Int) = longP ps
  | [], _ => by simp [flagsP, longP]
  | p :: ps, h => by
    have ih := flags_len ps fun q hq => h q (by simp [hq])
    have h1 := h p (by simp)
    rw [long_cons, ← ih, flagsP]
    simp only [List.length_append, List.length_replicate]
    unfold lenP; push_cast; omega
theorem apply_le {x : List Pt} {t : List UInt8} (h : good x t) : (applyP x t).length ≤ t.length + putsP x := by
  have h1 := apply_len2 x t h.left
  have h2 := List.count_le_length (a := false) (l := flagsP x)
  have h3 := flags_len x (ones_sound h.one)
  have h4 := h.long
  omega

theorem kApply (v : Value) (x : List Pt) (t : List UInt8) (w : World) (hT : Lib.Utf8Tabs 2 3 w) (hr : opAt w v x) (h : good x t) (hb : t.length + putsP x < 1000000) :
    Calls Tryz.prog 25 #[v, .string ⟨t.toArray⟩] w fun e w' => e = .returned (.tuple #[.string ⟨(applyP x t).toArray⟩, .nilIface]) ∧ Below w.heap.size w w' := by
  have hf := h.fine hb
  have := Apply_any v x t w hT hr (h.wf hb) (by omega) hf.len (by omega)
  rw [h.ord, if_pos rfl] at this
  exact this
end Go.Proofs.YtldhbjmillfjgabGreatDoor
