/-
  ops' functions at operations that never cut a rune of their text, as rosettakeep calls them.
-/
import Derived.Test.YtedgnlgjmnccgabGreatDoorOver
import Derived.Test.YtedgnlgjmnccgabGreatDoorDone
import Derived.Test.YtedgnlgjmnccgabGreatDoorOpsGoodL
import Derived.Test.YtedgnlgjmnccgabGreatDoorOpsApp
namespace Go.Proofs.YtedgnlgjmnccgabGreatDoor
open Go.RowKit
set_option linter.unusedVariables false

theorem wts_eq : ∀ (ps : List Pt), wts ps = longP ps + putsP ps
  | [] => by simp [wts, longP, putsP]
  | p :: ps => by
    have ih := wts_eq ps
    have e1 : wts (p :: ps) = wtP p + wts ps := by simp [wts]
    rw [e1, long_cons, puts_cons, ih]
    unfold wtP lenP
    push_cast; omega
theorem len_wts : ∀ (ps : List Pt), (∀ p ∈ ps, oneP p) → (ps.length : Int) ≤ wts ps
  | [], _ => by simp [wts]
  | p :: ps, h => by
    have ih := len_wts ps fun q hq => h q (by simp [hq])
    have e1 : wts (p :: ps) = wtP p + wts ps := by simp [wts]
    have h1 := length_pos (h p (by simp))
    have e2 : lengthP p = wtP p := rfl
    rw [e1, List.length_cons]; push_cast; omega
theorem wts_mem : ∀ (ps : List Pt), (∀ p ∈ ps, oneP p) → ∀ p ∈ ps, wtP p ≤ wts ps
  | [], _, p, hp => by cases hp
  | q :: ps, h, p, hp => by
    have e1 : wts (q :: ps) = wtP q + wts ps := by simp [wts]
    have h0 := len_wts ps fun x hx => h x (by simp [hx])
    have h1 := length_pos (h q (by simp))
    have e2 : lengthP q = wtP q := rfl
    rcases List.mem_cons.1 hp with rfl | hp
    · omega
    · have := wts_mem ps (fun x hx => h x (by simp [hx])) p hp
      omega
theorem good.wt {x : List Pt} {t : List UInt8} (h : good x t) : wts x = t.length + putsP x := by rw [wts_eq, h.long]
theorem good.fine {x : List Pt} {t : List UInt8} (h : good x t) (hb : t.length + putsP x < 1000000) : fineP x := by
  have h1 := h.wt
  have h2 := len_wts x h.one
  exact ⟨h.one, by omega, by omega⟩
theorem good.wf {x : List Pt} {t : List UInt8} (h : good x t) (hb : t.length + putsP x < 1000000) : ∀ p ∈ x, wfP p := by
  intro p hp
  have h1 := h.wt
  have h2 := wts_mem x h.one p hp
  obtain ⟨k1, k2, _⟩ := one_kind (h.one p hp)
  have e : wtP p = p.keep + p.drop + p.put.length := rfl
  exact ⟨by omega, by omega, by omega, by omega, by omega⟩
theorem good.lens {x : List Pt} {t : List UInt8} (h : good x t) (hb : t.length + putsP x < 1000000) : (lensW x).1 = t.length ∧ (lensW x).2 = (applyP x t).length := by
  have h1 := fine_lens (h.fine hb)
  rw [h1.1, h1.2, h.long, apply_len x t h.left]
  exact ⟨rfl, rfl⟩
theorem good.both {a b : List Pt} {t t' : List UInt8} (ha : good a t) (hb : good b t') (h1 : t.length + putsP a < 1000000) (h2 : t'.length + putsP b < 1000000) : bothE a b = 0 := by
  unfold bothE
  rw [(ha.lens h1).1, (hb.lens h2).1, ha.chk, if_pos rfl, hb.chk]
theorem puts_le {x : List Pt} {t : List UInt8} (h : good x t) : putsP x ≤ (applyP x t).length := by
  have := apply_len2 x t h.left
  omega
theorem flags_len : ∀ (ps : List Pt), (∀ p ∈ ps, 0 ≤ p.keep ∧ 0 ≤ p.drop) → ((flagsP ps).length : Int) = longP ps
  | [], _ => by simp [flagsP, longP]
  | p :: ps, h => by
    have ih := flags_len ps fun q hq => h q (by simp [hq])
    have h1 := h p (by simp)
    rw [long_cons, ← ih, flagsP]
    simp only [List.length_append, List.length_replicate]
    unfold lenP; push_cast; omega
theorem apply_le {x : List Pt} {t : List UInt8} (h : good x t) : (applyP x t).length ≤ t.length + putsP x := by
  have h1 := apply_len2 x t h.left
  have h2 := List.count_le_length (a := false) (l := flagsP x)
  have h3 := flags_len x (ones_sound h.one)
  have h4 := h.long
  omega

theorem kApply (v : Value) (x : List Pt) (t : List UInt8) (w : World) (hT : Lib.Utf8Tabs 2 3 w) (hr : opAt w v x) (h : good x t) (hb : t.length + putsP x < 1000000) :
    Calls Tryz.prog 29 #[v, .string ⟨t.toArray⟩] w fun e w' => e = .returned (.tuple #[.string ⟨(applyP x t).toArray⟩, .nilIface]) ∧ Below w.heap.size w w' := by
  have hf := h.fine hb
  have := Apply_any v x t w hT hr (h.wf hb) (by omega) hf.len (by omega)
  rw [h.ord, if_pos rfl] at this
  exact this
/-- What Transform puts, and which bytes it drops. -/
theorem trans_what (F : Bool) {a b : List Pt} {t : List UInt8} (ha : good a t) (hb : good b t) (h1 : t.length + putsP a < 1000000) (h2 : t.length + putsP b < 1000000) : putsP (tellP (transS F a b)) = putsP a ∧ flagsP (tellP (transS F a b)) = (midP 0 b).map (dflC (flagsP a)) := by
  have na := ha.norm
  have nb := hb.norm
  have la := na.left
  have lb := nb.left
  have sa := ones_sound ha.one
  obtain ⟨n1, _, _, _⟩ := fine_norm (ha.fine h1)
  obtain ⟨m1, _, _, _⟩ := fine_norm (hb.fine h2)
  have hm : measP isPutP (normP a) = measP isPutP (normP b) := by
    rw [meas_put _ na.one, meas_put _ nb.one, na.long, nb.long]
  have key : ∀ (G : Bool) (L : List (Pt × Pt)), (∀ p ∈ L.flatMap (tF G), 0 ≤ p.keep ∧ 0 ≤ p.drop) → flagsP (tellP (runS (tF G) L nst0)) = flagsP (L.flatMap (tF G)) ∧ putsP (tellP (runS (tF G) L nst0)) = putsP (L.flatMap (tF G)) := by
    intro G L h
    rw [run_flat]
    exact ⟨flags_norm h, puts_norm h⟩
  have fa := flags_norm sa
  have pa := puts_norm sa
  have mb := mid_norm b hb.one
  cases F with
  | true =>
    obtain ⟨e1, e2⟩ := trans_flags true (weight (normP a) + weight (normP b)) (normP a) (normP b) t (flagsP a) 0 la lb (Nat.le_refl _) (by rw [List.drop_zero, if_pos rfl, fa])
    have hs : ∀ p ∈ (sideP isPutP isPutP (weight (normP a) + weight (normP b)) (normP a) (normP b)).flatMap (tF true), 0 ≤ p.keep ∧ 0 ≤ p.drop := by
      obtain ⟨_, hok, _, _⟩ := side_ok kind_put kind_put (weight (normP a) + weight (normP b)) (normP a) (normP b) n1 m1 hm (Nat.le_refl _)
      intro p hp
      obtain ⟨x, hx, hp⟩ := List.mem_flatMap.1 hp
      exact ((take_turn x (hok x hx)).2 p hp).1
    obtain ⟨k1, k2⟩ := key true _ hs
    rw [if_pos rfl] at e1 e2
    have e0 : transS true a b = runS (tF true) (sideP isPutP isPutP (weight (normP a) + weight (normP b)) (normP a) (normP b)) nst0 := rfl
    rw [e0, k1, k2, e1, e2, pa]
    refine ⟨rfl, ?_⟩
    show (midP 0 (normP b)).map _ = _
    rw [mb]
  | false =>
    obtain ⟨e1, e2⟩ := trans_flags false (weight (normP b) + weight (normP a)) (normP b) (normP a) t (flagsP a) 0 lb la (Nat.le_refl _) (by rw [List.drop_zero, if_neg (by decide), fa])
    have hs : ∀ p ∈ (sideP isPutP isPutP (weight (normP b) + weight (normP a)) (normP b) (normP a)).flatMap (tF false), 0 ≤ p.keep ∧ 0 ≤ p.drop := by
      obtain ⟨_, hok, _, _⟩ := side_ok kind_put kind_put (weight (normP b) + weight (normP a)) (normP b) (normP a) m1 n1 hm.symm (Nat.le_refl _)
      intro p hp
      obtain ⟨x, hx, hp⟩ := List.mem_flatMap.1 hp
      exact ((take_turn2 x (hok x hx)).2 p hp).1
    obtain ⟨k1, k2⟩ := key false _ hs
    rw [if_neg (by decide)] at e1 e2
    have e0 : transS false a b = runS (tF false) (sideP isPutP isPutP (weight (normP b) + weight (normP a)) (normP b) (normP a)) nst0 := rfl
    rw [e0, k1, k2, e1, e2, pa]
    refine ⟨rfl, ?_⟩
    show (midP 0 (normP b)).map _ = _
    rw [mb]
end Go.Proofs.YtedgnlgjmnccgabGreatDoor
