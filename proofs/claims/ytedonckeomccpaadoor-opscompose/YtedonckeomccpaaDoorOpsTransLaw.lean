/-
  rosettalaw.OpsTransform: the law's own walk.
-/
import Derived.Test.YtedonckeomccpaaDoorOpsRefTrA
import Derived.Test.YtedonckeomccpaaDoorOpsRefTrB
namespace Go.Proofs.YtedonckeomccpaaDoor
open Go.RowKit
set_option linter.unusedVariables false
attribute [local go_sem] Oper.semAt_some

theorem fine_lensU {a b : List Pt} (f1 : fineP a) (f2 : fineP b) (hl : (lensW b).1 = (lensW a).1) : lensU (normP a) = lensU (normP b) := by
  have h1 := lensU_long _ (ones_sound fun p hp => ((fine_norm f1).1 p hp).1)
  have h2 := lensU_long _ (ones_sound fun p hp => ((fine_norm f2).1 p hp).1)
  have h3 := (fine_norm f1).2.2.1
  have h4 := (fine_norm f2).2.2.1
  have h5 := (fine_lens f1).1
  have h6 := (fine_lens f2).1
  omega
theorem trans_eq (F : Bool) {a b : List Pt} (f1 : fineP a) (f2 : fineP b) (hl : (lensW b).1 = (lensW a).1) : normP (outJ F (spreads (normP a)) (spreads (normP b)) ((spreads (normP a)).1.length + 1)) = tellP (transS F a b) := by
  have hU := fine_lensU f1 f2 hl
  have o1 : ∀ p ∈ normP a, oneP p := fun p hp => ((fine_norm f1).1 p hp).1
  have o2 : ∀ p ∈ normP b, oneP p := fun p hp => ((fine_norm f2).1 p hp).1
  have hz : (spreads (normP a)).1.length = (spreads (normP b)).1.length := by rw [spreads_eq, spreads_eq]; exact hU
  have e1 : outJ F (spreads (normP a)) (spreads (normP b)) ((spreads (normP a)).1.length + 1) = ((spreads (normP a)).1.zip (spreads (normP b)).1).flatMap (gapO F) ++ pairO F (spreads (normP a)).2 (spreads (normP b)).2 := by
    unfold outJ
    rw [if_pos (by omega), List.take_of_length_le (by rw [List.length_zip]; omega)]
  rw [e1]
  unfold normP transS
  congr 1
  have e2 := out_fold F (spreads (normP a)).1 (spreads (normP b)).1 (spreads (normP a)).2 (spreads (normP b)).2 nst0 hz
  unfold normP at e2
  rw [e2]
  cases F with
  | true =>
    rw [if_pos rfl]
    have e3 := turn_first (weight (normP a) + weight (normP b)) (normP a) (normP b) nst0 o1 o2 hU (Nat.le_refl _)
    rw [← spreads_eq, ← spreads_eq] at e3
    exact e3.symm
  | false =>
    rw [if_neg (by decide)]
    have e3 := turn_second (weight (normP b) + weight (normP a)) (normP a) (normP b) nst0 o1 o2 hU (by omega)
    rw [← spreads_eq, ← spreads_eq] at e3
    exact e3.symm

theorem refTrans_all (v1 v2 : Value) (first : Bool) (a b : List Pt) (w : World) (h1 : opAt w v1 a) (h2 : opAt w v2 b) (w1 : ∀ p ∈ a, wfP p) (w2 : ∀ p ∈ b, wfP p) (s1 : ∀ p ∈ a, p.put.length < 100000000) (s2 : ∀ p ∈ b, p.put.length < 100000000) (l1 : a.length < 10000000) (l2 : b.length < 10000000) (hf : bothE a b = 0 → fineP a ∧ fineP b) :
    Calls Tryd.prog 59 #[v1, v2, .bool first] w fun e w' => ∃ v', e = .returned (.tuple #[v', .int .i64 (turnE a b)]) ∧ opAt w' v' (if turnE a b = 0 then tellP (transS first a b) else []) ∧ Below w.heap.size w w' := by
  have none : ∀ w', opAt w' (.slice none 0 0) [] := fun w' => ⟨none, 0, rfl, Nat.le_refl _, Nat.zero_le _, fun h => absurd rfl h⟩
  unfold turnE
  by_cases he : bothE a b = 0
  · obtain ⟨f1, f2⟩ := hf he
    rw [if_pos he]
    by_cases hl : (lensW b).1 = (lensW a).1
    · rw [if_pos hl, if_pos rfl, ← trans_eq first f1 f2 hl]
      cases first with
      | true => exact refTrans_true v1 v2 a b w h1 h2 w1 w2 s1 s2 f1 f2 he hl
      | false => exact refTrans_false v1 v2 a b w h1 h2 w1 w2 s1 s2 f1 f2 he hl
    · rw [if_neg hl, if_neg (by decide)]
      exact (refTrans_len v1 v2 first a b w h1 h2 w1 w2 s1 s2 l1 l2 he hl).mono fun e w' h => ⟨_, h.1, none w', h.2⟩
  · rw [if_neg he, if_neg he]
    exact (refTrans_err v1 v2 first a b w h1 h2 w1 w2 s1 s2 l1 l2 he).mono fun e w' h => ⟨_, h.1, none w', h.2⟩

/-- Few parts that may be: fine. -/
theorem few_fine {ps : List Pt} {n : Int} (h : fewB ps = true) (hc : chkE ps n = 0) : fineP ps ∧ wts ps ≤ 1030000 := by
  have hs := chkE_sound hc
  obtain ⟨h1, h2⟩ := few_wts h hs
  refine ⟨⟨fun p hp => ?_, by omega, by omega⟩, h1⟩
  unfold chkE at hc
  split at hc
  · rename_i h0
    have := (chk1_ones h0 p hp).1
    obtain ⟨K, D, U⟩ := p
    rcases one_shapes this with ⟨e1, e2, e3⟩ | ⟨e1, e2, e3⟩ | ⟨e1, e2, e3⟩
    · exact .inl ⟨e3, e1, e2⟩
    · exact .inr (.inl ⟨e1, e3, e2⟩)
    · exact .inr (.inr ⟨e1, e2, e3⟩)
  · rename_i h0; exact absurd hc h0
theorem both_fine {a b : List Pt} (h1 : fewB a = true) (h2 : fewB b = true) (he : bothE a b = 0) : (fineP a ∧ fineP b) ∧ wts a ≤ 1030000 ∧ wts b ≤ 1030000 := by
  unfold bothE at he
  split at he
  · rename_i h0
    exact ⟨⟨(few_fine h1 h0).1, (few_fine h2 he).1⟩, (few_fine h1 h0).2, (few_fine h2 he).2⟩
  · rename_i h0; exact absurd he h0
theorem few_small {ps : List Pt} (h : fewB ps = true) : ps.length ≤ 100 ∧ ∀ p ∈ ps, p.put.length ≤ 300 := by
  unfold fewB at h
  rw [Bool.and_eq_true] at h
  refine ⟨of_decide_eq_true h.1, fun p hp => ?_⟩
  have h2 := List.all_eq_true.1 h.2 p hp
  unfold fewP at h2
  simp only [Bool.not_eq_true', Bool.or_eq_false_iff, decide_eq_false_iff_not] at h2
  omega
/-- What is told of few pairs is short. -/
theorem run_len {t : Pt × Pt → List Pt} {l : List (Pt × Pt)} (hB : BdS t l nst0 0 0) (hl : l.length < 3000000) : (tellP (runS t l nst0)).length < 10000000 := by
  have h1 := tellP_len (runS t l nst0)
  rw [run_flat] at h1 ⊢
  have hb := bds (l.flatMap t) fun p hp => by
    obtain ⟨x, hx, hp⟩ := List.mem_flatMap.1 hp
    exact hB.sound x hx p hp
  have key : ∀ (l : List (Pt × Pt)), (∀ x ∈ l, (t x).length ≤ 1) → (l.flatMap t).length ≤ l.length := by
    intro l
    induction l with
    | nil => intro _; simp
    | cons x l ih =>
      intro h
      have h1 := h x (by simp)
      have h2 := ih fun y hy => h y (by simp [hy])
      rw [List.flatMap_cons, List.length_append, List.length_cons]
      omega
  have h2 := key l hB.one
  have h3 := hb.len
  omega
theorem side_len {la lb : Pt → Bool} (ka : kindOk la) (kb : kindOk lb) {t : Pt × Pt → List Pt} (ht : takeOk t) {a b : List Pt} (f1 : fineP a) (f2 : fineP b) (w1 : wts a ≤ 1030000) (w2 : wts b ≤ 1030000) (hm : measP la (normP a) = measP lb (normP b)) :
    (tellP (runS t (sideP la lb (weight (normP a) + weight (normP b)) (normP a) (normP b)) nst0)).length < 10000000 := by
  obtain ⟨n1, n2, _, _⟩ := fine_norm f1
  obtain ⟨m1, m2, _, _⟩ := fine_norm f2
  have e1 := weight_wts _ fun p hp => (n1 p hp).1
  have e2 := weight_wts _ fun p hp => (m1 p hp).1
  rw [norm_wts a (ones_sound f1.one)] at e1
  rw [norm_wts b (ones_sound f2.one)] at e2
  obtain ⟨_, hok, hpw, hln⟩ := side_ok ka kb (weight (normP a) + weight (normP b)) (normP a) (normP b) n1 m1 hm (Nat.le_refl _)
  exact run_len (bdS_of ht hok (by rw [hpw]; omega) (by omega)) (by omega)
theorem trans_short (F : Bool) {a b : List Pt} (h1 : fewB a = true) (h2 : fewB b = true) : (if turnE a b = 0 then tellP (transS F a b) else []).length < 10000000 := by
  split
  · rename_i h0
    unfold turnE at h0
    split at h0
    · rename_i he
      obtain ⟨⟨f1, f2⟩, x1, x2⟩ := both_fine h1 h2 he
      split at h0
      · rename_i hl
        have e1 := (fine_lens f1).1
        have e2 := (fine_lens f2).1
        have e3 := (fine_norm f1).2.2.1
        have e4 := (fine_norm f2).2.2.1
        have hm : measP isPutP (normP a) = measP isPutP (normP b) := by
          rw [meas_put _ (fun p hp => ((fine_norm f1).1 p hp).1), meas_put _ (fun p hp => ((fine_norm f2).1 p hp).1)]
          omega
        unfold transS
        cases F with
        | true => exact side_len kind_put kind_put take_turn f1 f2 x1 x2 hm
        | false => exact side_len kind_put kind_put take_turn2 f2 f1 x2 x1 hm.symm
      · cases h0
    · rename_i he; exact absurd h0 he
  · simp

/-- few, of an operation of any length. -/
theorem fewX_any (v : Value) (ps : List Pt) (w : World) (hr : opAt w v ps) : Calls Tryd.prog 56 #[v] w fun e w' => e = .returned (.bool (fewB ps)) ∧ Below w.heap.size w w' := by
  by_cases hl : ps.length < 10000000
  · exact few_any v ps w hr hl
  · obtain ⟨p, c, rfl, r1, r2, r3⟩ := hr
    have hb : fewB ps = false := by unfold fewB; rw [decide_eq_false (by omega)]; rfl
    rw [hb]
    unfold maxLen at r2
    have hm' : (100 : Int) < (ps.length : Int) := by omega
    clear r3
    go_enter Tryd.func56, Tryd.ntmps56
    go_wp2
    go_ret
    exact ⟨rfl, Below.refl _ _⟩

set_option maxRecDepth 100000 in
set_option maxHeartbeats 4000000 in
theorem opsTransform_any (v1 v2 : Value) (first : Bool) (a b : List Pt) (w : World) (hg : asLaid w) (hT : Lib.Utf8Tabs 0 1 w) (h1 : opAt w v1 a) (h2 : opAt w v2 b) (r1 : ∀ p ∈ a, p.put.length ≤ 300 → wfP p) (r2 : ∀ p ∈ b, p.put.length ≤ 300 → wfP p) :
    Calls Tryd.prog 11 #[v1, v2, .bool first] w fun e w' => e = .returned (.bool true) ∧ Below w.heap.size w w' := by
  have cF1 : Hid (∀ wx, Below w.heap.size w wx → Calls Tryd.prog 56 #[v1] wx fun e w' => e = .returned (.bool (fewB a)) ∧ Below wx.heap.size wx w') := fun wx hb => fewX_any v1 a wx (opAt_grown h1 hb)
  have cF2 : Hid (∀ wx, Below w.heap.size w wx → Calls Tryd.prog 56 #[v2] wx fun e w' => e = .returned (.bool (fewB b)) ∧ Below wx.heap.size wx w') := fun wx hb => fewX_any v2 b wx (opAt_grown h2 hb)
  have h1' := h1
  have h2' := h2
  obtain ⟨p1, c1, rfl, _, k1, _⟩ := h1'
  obtain ⟨p2, c2, rfl, _, k2, _⟩ := h2'
  by_cases hf1 : fewB a = true
  case neg =>
    rw [Bool.eq_false_iff.2 hf1] at cF1
    clear hT hg h1 h2 r1 r2 hf1 k1 k2 cF2
    go_enter Tryd.func11, Tryd.ntmps11
    go_wp2_with (first | (go_at_call 56; refine (cF1.out _ (Below.refl _ _)).mono ?_; rintro e w1 ⟨rfl, hb1⟩) | fail)
    go_ret
    exact ⟨rfl, hb1⟩
  case pos =>
    by_cases hf2 : fewB b = true
    case neg =>
      rw [hf1] at cF1
      rw [Bool.eq_false_iff.2 hf2] at cF2
      clear hT hg h1 h2 r1 r2 hf1 hf2 k1 k2
      go_enter Tryd.func11, Tryd.ntmps11
      go_wp2_with (first
        | (have _ := HB1; go_at_call 56; refine (cF2.out _ HB1.out).mono ?_; rintro e w2 ⟨rfl, hb2⟩)
        | (go_at_call 56; refine (cF1.out _ (Below.refl _ _)).mono ?_; rintro e w1 ⟨rfl, hb1⟩; have HB1 : Hid (Below w.heap.size w w1) := hb1; clear hb1)
        | fail)
      go_ret
      exact ⟨rfl, HB1.out.trans (hb2.mono HB1.out.size)⟩
    case pos =>
      obtain ⟨q1, q2⟩ := few_small hf1
      obtain ⟨t1, t2⟩ := few_small hf2
      have w1 : ∀ p ∈ a, wfP p := fun p hp => r1 p hp (q2 p hp)
      have w2 : ∀ p ∈ b, wfP p := fun p hp => r2 p hp (t2 p hp)
      have hbf := fun he => (both_fine hf1 hf2 he).1
      have hsh := trans_short first hf1 hf2
      obtain ⟨IV, hIV⟩ : ∃ IV, (if turnE a b = 0 then tellP (transS first a b) else []) = IV := ⟨_, rfl⟩
      have cR : Hid (∀ wx, Below w.heap.size w wx → Calls Tryd.prog 59 #[.slice p1 a.length c1, .slice p2 b.length c2, .bool first] wx fun e w' => ∃ v', e = .returned (.tuple #[v', .int .i64 (turnE a b)]) ∧ opAt w' v' IV ∧ Below wx.heap.size wx w') := fun wx hb => by
        rw [← hIV]
        exact refTrans_all _ _ first a b wx (opAt_grown h1 hb) (opAt_grown h2 hb) w1 w2 (fun p hp => by have := q2 p hp; omega) (fun p hp => by have := t2 p hp; omega) (by omega) (by omega) hbf
      have cP : Hid (∀ wx, Below w.heap.size w wx → Calls Tryd.prog 60 #[.slice p1 a.length c1, .slice p2 b.length c2, .bool first] wx fun e w' => ∃ v', e = .returned (.tuple #[v', errV (turnE a b)]) ∧ opAt w' v' IV ∧ Below wx.heap.size wx w') := fun wx hb => by
        rw [← hIV]
        exact trans_all _ _ first a b wx (Go.Proofs.Utf8Tabs_below hT hb) (opAt_grown h1 hb) (opAt_grown h2 hb) w1 w2 (by omega) (by omega) hbf
      have cB : Hid (∀ wx, Below w.heap.size w wx → Calls Tryd.prog 30 #[errV (turnE a b), .int .i64 (turnE a b)] wx fun e w' => e = .returned (.bool true) ∧ Below wx.heap.size wx w') := fun wx hb => bare_any _ wx (asLaid_below hg hb)
      rw [hIV] at hsh
      have HIL : Hid (IV.length < 10000000) := hsh
      obtain ⟨E, hE⟩ : ∃ E, turnE a b = E := ⟨_, rfl⟩
      rw [hE] at cR cP cB
      obtain ⟨V, hV⟩ : ∃ V, errV E = V := ⟨_, rfl⟩
      rw [hV] at cP cB
      rw [hf1] at cF1
      rw [hf2] at cF2
      clear hT hg h1 h2 r1 r2 hf1 hf2 k1 k2 q1 q2 t1 t2 w1 w2 hbf hsh hIV hE hV
      go_enter Tryd.func11, Tryd.ntmps11
      go_wp2_with (first
        | (have _ := HB1; go_at_call 56; refine (cF2.out _ HB1.out).mono ?_; rintro e w2 ⟨rfl, hb2⟩; have HB2 : Hid (Below w.heap.size w w2) := HB1.out.trans (hb2.mono HB1.out.size); clear hb2)
        | (go_at_call 56; refine (cF1.out _ (Below.refl _ _)).mono ?_; rintro e w1 ⟨rfl, hb1⟩; have HB1 : Hid (Below w.heap.size w w1) := hb1; clear hb1)
        | (have _ := HB2; go_at_call 59; refine (cR.out _ HB2.out).mono ?_; rintro e w3 ⟨v3, rfl, ho3, hb3⟩; have HB3 : Hid (Below w.heap.size w w3) := HB2.out.trans (hb3.mono HB2.out.size); have HO3 : Hid (opAt w3 v3 IV) := ho3; clear ho3 hb3)
        | (have _ := HB3; go_at_call 60; refine (cP.out _ HB3.out).mono ?_; rintro e w4 ⟨v4, rfl, ho4, hb4⟩; have HB4 : Hid (Below w.heap.size w w4) := HB3.out.trans (hb4.mono HB3.out.size); have HO4 : Hid (opAt w4 v4 IV) := ho4; have HO34 : Hid (opAt w4 v3 IV) := opAt_grown HO3.out hb4; clear ho4 hb4)
        | (have _ := HB4; go_at_call 30; refine (cB.out _ HB4.out).mono ?_; rintro e w5 ⟨rfl, hb5⟩; have HB5 : Hid (Below w.heap.size w w5) := HB4.out.trans (hb5.mono HB4.out.size); have HO5 : Hid (opAt w5 v4 IV) := opAt_grown HO4.out hb5; have HO35 : Hid (opAt w5 v3 IV) := opAt_grown HO34.out hb5; clear hb5)
        | (have _ := HB5; go_at_call 48; refine (Same_any _ _ IV w5 HO5.out HO35.out HIL.out).mono ?_; rintro e w6 ⟨rfl, hb6⟩)
        | fail)
      go_ret
      exact ⟨rfl, HB5.out.trans (hb6.mono HB5.out.size)⟩
end Go.Proofs.YtedonckeomccpaaDoor
