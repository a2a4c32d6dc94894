/-
  rosettalaw.OpsCompose: the law's own walk.
-/
import Derived.Test.YtedonckeomccpaaDoorOpsRefCmp
import Derived.Test.YtedonckeomccpaaDoorOpsTransLaw
namespace Go.Proofs.YtedonckeomccpaaDoor
open Go.RowKit
set_option linter.unusedVariables false
attribute [local go_sem] Oper.semAt_some

theorem comp_eq {a b : List Pt} (f1 : fineP a) (f2 : fineP b) (hl : (lensW b).1 = (lensW a).2) {n : Nat} (hn : longP a = n) : gatherP (gapE n (endP (midP 0 a) b) [] 0) = tellP (compS a b) := by
  obtain ⟨n1, _, n3, n4⟩ := fine_norm f1
  obtain ⟨m1, _, m3, _⟩ := fine_norm f2
  have o1 : ∀ p ∈ normP a, oneP p := fun p hp => (n1 p hp).1
  have o2 : ∀ p ∈ normP b, oneP p := fun p hp => (m1 p hp).1
  have e1 := (fine_lens f1).2
  have e2 := (fine_lens f2).1
  have ok : okC n (endP (midP 0 a) b) 0 := ok_ends n b (midP 0 a) 0 (ones_sound f2.one) (ok_mid n a 0 f1.one (by omega) (by omega))
  have e3 := den_gapE n (endP (midP 0 a) b) [] 0 nst0 ok
  rw [addP_none] at e3
  have e4 := comp_side n (weight (normP a) + weight (normP b)) (normP a) (normP b) 0 nst0 o1 o2 (by omega) (by rw [mid_len _ 0 fun p hp => (ones_sound o1 p hp).1]; omega) (by omega) (Nat.le_refl _)
  rw [mid_norm a f1.one, end_norm b f2.one] at e4
  rw [gather_runG]
  congr 1
  exact e3.trans e4.symm

set_option maxRecDepth 100000 in
set_option maxHeartbeats 2000000 in
theorem refComp_err (v1 v2 : Value) (a b : List Pt) (w : World) (h1 : opAt w v1 a) (h2 : opAt w v2 b) (w1 : ∀ p ∈ a, wfP p) (w2 : ∀ p ∈ b, wfP p) (s1 : ∀ p ∈ a, p.put.length < 100000000) (s2 : ∀ p ∈ b, p.put.length < 100000000) (l1 : a.length < 10000000) (l2 : b.length < 10000000) (he : bothE a b ≠ 0) :
    Calls Tryd.prog 57 #[v1, v2] w fun e w' => e = .returned (.tuple #[.slice none 0 0, .int .i64 (bothE a b)]) ∧ Below w.heap.size w w' := by
  have cB : Hid _ := refBoth_any v1 v2 a b w h1 h2 w1 w2 s1 s2 l1 l2
  have hne : ¬ bothE a b = 0 := he
  generalize bothE a b = E at *
  obtain ⟨p1, c1, rfl, _⟩ := h1
  obtain ⟨p2, c2, rfl, _⟩ := h2
  clear w1 w2 s1 s2 he
  go_enter Tryd.func57, Tryd.ntmps57
  go_wp2_with (first
    | (go_at_call 103; refine Calls.mono cB.out ?_; rintro e w1 ⟨rfl, hb1⟩)
    | fail)
  go_ret2
  exact ⟨rfl, hb1⟩
set_option maxRecDepth 100000 in
set_option maxHeartbeats 2000000 in
theorem refComp_len (v1 v2 : Value) (a b : List Pt) (w : World) (h1 : opAt w v1 a) (h2 : opAt w v2 b) (w1 : ∀ p ∈ a, wfP p) (w2 : ∀ p ∈ b, wfP p) (s1 : ∀ p ∈ a, p.put.length < 100000000) (s2 : ∀ p ∈ b, p.put.length < 100000000) (l1 : a.length < 10000000) (l2 : b.length < 10000000) (he : bothE a b = 0) (hl : (lensW b).1 ≠ (lensW a).2) :
    Calls Tryd.prog 57 #[v1, v2] w fun e w' => e = .returned (.tuple #[.slice none 0 0, .int .i64 (2)]) ∧ Below w.heap.size w w' := by
  have cB : Hid _ := refBoth_any v1 v2 a b w h1 h2 w1 w2 s1 s2 l1 l2
  rw [he] at cB
  have cL1 : Hid (∀ wx, Below w.heap.size w wx → Calls Tryd.prog 47 #[v1] wx fun e w' => e = .returned (.tuple #[.int .i64 (lensW a).1, .int .i64 (lensW a).2]) ∧ Below wx.heap.size wx w') := fun wx hb => refLens_any v1 a wx (opAt_grown h1 hb) l1
  have cL2 : Hid (∀ wx, Below w.heap.size w wx → Calls Tryd.prog 47 #[v2] wx fun e w' => e = .returned (.tuple #[.int .i64 (lensW b).1, .int .i64 (lensW b).2]) ∧ Below wx.heap.size wx w') := fun wx hb => refLens_any v2 b wx (opAt_grown h2 hb) l2
  generalize (lensW a).1 = A1 at *
  generalize (lensW a).2 = A2 at *
  generalize (lensW b).1 = B1 at *
  generalize (lensW b).2 = B2 at *
  obtain ⟨p1, c1, rfl, _⟩ := h1
  obtain ⟨p2, c2, rfl, _⟩ := h2
  clear w1 w2 s1 s2 he
  go_enter Tryd.func57, Tryd.ntmps57
  go_wp2_with (first
    | (have _ := HB2; go_at_call 47; refine (cL2.out _ HB2.out).mono ?_; rintro e w3 ⟨rfl, hb3⟩; have HB3 : Hid (Below w.heap.size w w3) := HB2.out.trans (hb3.mono HB2.out.size); clear hb3)
    | (go_at_call 47; refine (cL1.out _ HB1.out).mono ?_; rintro e w2 ⟨rfl, hb2⟩; have HB2 : Hid (Below w.heap.size w w2) := HB1.out.trans (hb2.mono HB1.out.size); clear hb2)
    | (go_at_call 103; refine Calls.mono cB.out ?_; rintro e w1 ⟨rfl, hb1⟩; have HB1 : Hid (Below w.heap.size w w1) := hb1; clear hb1)
    | fail)
  go_ret2
  exact ⟨rfl, HB3.out⟩
theorem refComp_all (v1 v2 : Value) (a b : List Pt) (w : World) (h1 : opAt w v1 a) (h2 : opAt w v2 b) (w1 : ∀ p ∈ a, wfP p) (w2 : ∀ p ∈ b, wfP p) (s1 : ∀ p ∈ a, p.put.length < 100000000) (s2 : ∀ p ∈ b, p.put.length < 100000000) (l1 : a.length < 10000000) (l2 : b.length < 10000000) (hf : bothE a b = 0 → fineP a ∧ fineP b) :
    Calls Tryd.prog 57 #[v1, v2] w fun e w' => ∃ v', e = .returned (.tuple #[v', .int .i64 (compE a b)]) ∧ opAt w' v' (if compE a b = 0 then tellP (compS a b) else []) ∧ Below w.heap.size w w' := by
  have none : ∀ w', opAt w' (.slice none 0 0) [] := fun w' => ⟨none, 0, rfl, Nat.le_refl _, Nat.zero_le _, fun h => absurd rfl h⟩
  unfold compE
  by_cases he : bothE a b = 0
  · obtain ⟨f1, f2⟩ := hf he
    rw [if_pos he]
    by_cases hl : (lensW b).1 = (lensW a).2
    · obtain ⟨n, hn⟩ : ∃ n : Nat, longP a = n := ⟨(longP a).toNat, by have := long_nonneg a (ones_sound f1.one); omega⟩
      rw [if_pos hl, if_pos rfl, ← comp_eq f1 f2 hl hn]
      exact refComp_fine v1 v2 a b w h1 h2 w1 w2 s1 s2 f1 f2 he hl n hn
    · rw [if_neg hl, if_neg (by decide)]
      exact (refComp_len v1 v2 a b w h1 h2 w1 w2 s1 s2 l1 l2 he hl).mono fun e w' h => ⟨_, h.1, none w', h.2⟩
  · rw [if_neg he, if_neg he]
    exact (refComp_err v1 v2 a b w h1 h2 w1 w2 s1 s2 l1 l2 he).mono fun e w' h => ⟨_, h.1, none w', h.2⟩
theorem comp_short {a b : List Pt} (h1 : fewB a = true) (h2 : fewB b = true) : (if compE a b = 0 then tellP (compS a b) else []).length < 10000000 := by
  split
  · rename_i h0
    unfold compE at h0
    split at h0
    · rename_i he
      obtain ⟨⟨f1, f2⟩, x1, x2⟩ := both_fine h1 h2 he
      split at h0
      · rename_i hl
        have e1 := (fine_lens f1).2
        have e2 := (fine_lens f2).1
        have e3 := (fine_norm f1).2.2.2
        have e4 := (fine_norm f2).2.2.1
        have hm : measP isDropP (normP a) = measP isPutP (normP b) := by
          rw [meas_drop _ (fun p hp => ((fine_norm f1).1 p hp).1), meas_put _ (fun p hp => ((fine_norm f2).1 p hp).1)]
          omega
        exact side_len kind_drop kind_put take_comp f1 f2 x1 x2 hm
      · cases h0
    · rename_i he; exact absurd h0 he
  · simp

set_option maxRecDepth 100000 in
set_option maxHeartbeats 4000000 in
theorem opsCompose_any (v1 v2 : Value) (a b : List Pt) (w : World) (hg : asLaid w) (hT : Lib.Utf8Tabs 0 1 w) (h1 : opAt w v1 a) (h2 : opAt w v2 b) (r1 : ∀ p ∈ a, p.put.length ≤ 300 → wfP p) (r2 : ∀ p ∈ b, p.put.length ≤ 300 → wfP p) :
    Calls Tryd.prog 10 #[v1, v2] w fun e w' => e = .returned (.bool true) ∧ Below w.heap.size w w' := by
  have cF1 : Hid (∀ wx, Below w.heap.size w wx → Calls Tryd.prog 56 #[v1] wx fun e w' => e = .returned (.bool (fewB a)) ∧ Below wx.heap.size wx w') := fun wx hb => fewX_any v1 a wx (opAt_grown h1 hb)
  have cF2 : Hid (∀ wx, Below w.heap.size w wx → Calls Tryd.prog 56 #[v2] wx fun e w' => e = .returned (.bool (fewB b)) ∧ Below wx.heap.size wx w') := fun wx hb => fewX_any v2 b wx (opAt_grown h2 hb)
  have h1' := h1
  have h2' := h2
  obtain ⟨p1, c1, rfl, _, k1, _⟩ := h1'
  obtain ⟨p2, c2, rfl, _, k2, _⟩ := h2'
  by_cases hf1 : fewB a = true
  case neg =>
    rw [Bool.eq_false_iff.2 hf1] at cF1
    clear hT hg h1 h2 r1 r2 hf1 k1 k2 cF2
    go_enter Tryd.func10, Tryd.ntmps10
    go_wp2_with (first | (go_at_call 56; refine (cF1.out _ (Below.refl _ _)).mono ?_; rintro e w1 ⟨rfl, hb1⟩) | fail)
    go_ret
    exact ⟨rfl, hb1⟩
  case pos =>
    by_cases hf2 : fewB b = true
    case neg =>
      rw [hf1] at cF1
      rw [Bool.eq_false_iff.2 hf2] at cF2
      clear hT hg h1 h2 r1 r2 hf1 hf2 k1 k2
      go_enter Tryd.func10, Tryd.ntmps10
      go_wp2_with (first
        | (have _ := HB1; go_at_call 56; refine (cF2.out _ HB1.out).mono ?_; rintro e w2 ⟨rfl, hb2⟩)
        | (go_at_call 56; refine (cF1.out _ (Below.refl _ _)).mono ?_; rintro e w1 ⟨rfl, hb1⟩; have HB1 : Hid (Below w.heap.size w w1) := hb1; clear hb1)
        | fail)
      go_ret
      exact ⟨rfl, HB1.out.trans (hb2.mono HB1.out.size)⟩
    case pos =>
      obtain ⟨q1, q2⟩ := few_small hf1
      obtain ⟨t1, t2⟩ := few_small hf2
      have w1 : ∀ p ∈ a, wfP p := fun p hp => r1 p hp (q2 p hp)
      have w2 : ∀ p ∈ b, wfP p := fun p hp => r2 p hp (t2 p hp)
      have hbf := fun he => (both_fine hf1 hf2 he).1
      have hsh := comp_short hf1 hf2
      obtain ⟨IV, hIV⟩ : ∃ IV, (if compE a b = 0 then tellP (compS a b) else []) = IV := ⟨_, rfl⟩
      have cR : Hid (∀ wx, Below w.heap.size w wx → Calls Tryd.prog 57 #[.slice p1 a.length c1, .slice p2 b.length c2] wx fun e w' => ∃ v', e = .returned (.tuple #[v', .int .i64 (compE a b)]) ∧ opAt w' v' IV ∧ Below wx.heap.size wx w') := fun wx hb => by
        rw [← hIV]
        exact refComp_all _ _ a b wx (opAt_grown h1 hb) (opAt_grown h2 hb) w1 w2 (fun p hp => by have := q2 p hp; omega) (fun p hp => by have := t2 p hp; omega) (by omega) (by omega) hbf
      have cP : Hid (∀ wx, Below w.heap.size w wx → Calls Tryd.prog 58 #[.slice p1 a.length c1, .slice p2 b.length c2] wx fun e w' => ∃ v', e = .returned (.tuple #[v', errV (compE a b)]) ∧ opAt w' v' IV ∧ Below wx.heap.size wx w') := fun wx hb => by
        rw [← hIV]
        exact comp_all _ _ a b wx (Go.Proofs.Utf8Tabs_below hT hb) (opAt_grown h1 hb) (opAt_grown h2 hb) w1 w2 (by omega) (by omega) hbf
      have cB : Hid (∀ wx, Below w.heap.size w wx → Calls Tryd.prog 30 #[errV (compE a b), .int .i64 (compE a b)] wx fun e w' => e = .returned (.bool true) ∧ Below wx.heap.size wx w') := fun wx hb => bare_any _ wx (asLaid_below hg hb)
      rw [hIV] at hsh
      have HIL : Hid (IV.length < 10000000) := hsh
      obtain ⟨E, hE⟩ : ∃ E, compE a b = E := ⟨_, rfl⟩
      rw [hE] at cR cP cB
      obtain ⟨V, hV⟩ : ∃ V, errV E = V := ⟨_, rfl⟩
      rw [hV] at cP cB
      rw [hf1] at cF1
      rw [hf2] at cF2
      clear hT hg h1 h2 r1 r2 hf1 hf2 k1 k2 q1 q2 t1 t2 w1 w2 hbf hsh hIV hE hV
      go_enter Tryd.func10, Tryd.ntmps10
      go_wp2_with (first
        | (have _ := HB1; go_at_call 56; refine (cF2.out _ HB1.out).mono ?_; rintro e w2 ⟨rfl, hb2⟩; have HB2 : Hid (Below w.heap.size w w2) := HB1.out.trans (hb2.mono HB1.out.size); clear hb2)
        | (go_at_call 56; refine (cF1.out _ (Below.refl _ _)).mono ?_; rintro e w1 ⟨rfl, hb1⟩; have HB1 : Hid (Below w.heap.size w w1) := hb1; clear hb1)
        | (have _ := HB2; go_at_call 57; refine (cR.out _ HB2.out).mono ?_; rintro e w3 ⟨v3, rfl, ho3, hb3⟩; have HB3 : Hid (Below w.heap.size w w3) := HB2.out.trans (hb3.mono HB2.out.size); have HO3 : Hid (opAt w3 v3 IV) := ho3; clear ho3 hb3)
        | (have _ := HB3; go_at_call 58; refine (cP.out _ HB3.out).mono ?_; rintro e w4 ⟨v4, rfl, ho4, hb4⟩; have HB4 : Hid (Below w.heap.size w w4) := HB3.out.trans (hb4.mono HB3.out.size); have HO4 : Hid (opAt w4 v4 IV) := ho4; have HO34 : Hid (opAt w4 v3 IV) := opAt_grown HO3.out hb4; clear ho4 hb4)
        | (have _ := HB4; go_at_call 30; refine (cB.out _ HB4.out).mono ?_; rintro e w5 ⟨rfl, hb5⟩; have HB5 : Hid (Below w.heap.size w w5) := HB4.out.trans (hb5.mono HB4.out.size); have HO5 : Hid (opAt w5 v4 IV) := opAt_grown HO4.out hb5; have HO35 : Hid (opAt w5 v3 IV) := opAt_grown HO34.out hb5; clear hb5)
        | (have _ := HB5; go_at_call 48; refine (Same_any _ _ IV w5 HO5.out HO35.out HIL.out).mono ?_; rintro e w6 ⟨rfl, hb6⟩)
        | fail)
      go_ret
      exact ⟨rfl, HB5.out.trans (hb6.mono HB5.out.size)⟩
end Go.Proofs.YtedonckeomccpaaDoor
