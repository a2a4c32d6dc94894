/-
  ops.Transform and ops.Compose: what is wrong.
-/
import Derived.Test.YtedgnlgjmnccgabGreatDoorOpsTrans
namespace Go.Proofs.YtedgnlgjmnccgabGreatDoor
open Go.RowKit
set_option linter.unusedVariables false
attribute [local go_sem] Oper.semAt_some

set_option maxRecDepth 100000 in
set_option maxHeartbeats 2000000 in
theorem trans_err (v1 v2 : Value) (first : Bool) (a b : List Pt) (w : World) (hT : Lib.Utf8Tabs 2 3 w) (h1 : opAt w v1 a) (h2 : opAt w v2 b) (w1 : ∀ p ∈ a, wfP p) (w2 : ∀ p ∈ b, wfP p) (l1 : a.length < 10000000) (l2 : b.length < 10000000) (he : bothE a b ≠ 0) :
    Calls Tryz.prog 187 #[v1, v2, .bool first] w fun e w' => e = .returned (.tuple #[.slice none 0 0, errV (bothE a b)]) ∧ Below w.heap.size w w' := by
  have cB : Hid _ := checkBoth_any v1 v2 a b w hT h1 h2 w1 w2 l1 l2
  have hV : errV (bothE a b) = .iface 26 (.int .i64 (bothE a b)) := by unfold errV; rw [if_neg he]
  rw [hV] at cB ⊢
  generalize bothE a b = E at *
  obtain ⟨p1, c1, rfl, _⟩ := h1
  obtain ⟨p2, c2, rfl, _⟩ := h2
  clear hT w1 w2 hV
  go_enter Tryz.func187, Tryz.ntmps187
  go_wp2_with (first
    | (go_at_call 221; refine Calls.mono cB.out ?_; rintro e w1 ⟨rfl, hb1⟩)
    | fail)
  go_ret2
  exact ⟨rfl, hb1⟩
set_option maxRecDepth 100000 in
set_option maxHeartbeats 2000000 in
theorem trans_len (v1 v2 : Value) (first : Bool) (a b : List Pt) (w : World) (hT : Lib.Utf8Tabs 2 3 w) (h1 : opAt w v1 a) (h2 : opAt w v2 b) (w1 : ∀ p ∈ a, wfP p) (w2 : ∀ p ∈ b, wfP p) (l1 : a.length < 10000000) (l2 : b.length < 10000000) (he : bothE a b = 0) (hl : (lensW b).1 ≠ (lensW a).1) :
    Calls Tryz.prog 187 #[v1, v2, .bool first] w fun e w' => e = .returned (.tuple #[.slice none 0 0, errV (2)]) ∧ Below w.heap.size w w' := by
  have cB : Hid _ := checkBoth_any v1 v2 a b w hT h1 h2 w1 w2 l1 l2
  have hV : errV (bothE a b) = .nilIface := by unfold errV; rw [if_pos he]
  have hV2 : errV 2 = .iface 26 (.int .i64 2) := rfl
  rw [hV] at cB
  rw [hV2]
  have cL1 : Hid (∀ wx, Below w.heap.size w wx → Calls Tryz.prog 120 #[v1] wx fun e w' => e = .returned (.tuple #[.int .i64 (lensW a).1, .int .i64 (lensW a).2]) ∧ Below wx.heap.size wx w') := fun wx hb => Lens_any v1 a wx (opAt_grown h1 hb) l1
  have cL2 : Hid (∀ wx, Below w.heap.size w wx → Calls Tryz.prog 120 #[v2] wx fun e w' => e = .returned (.tuple #[.int .i64 (lensW b).1, .int .i64 (lensW b).2]) ∧ Below wx.heap.size wx w') := fun wx hb => Lens_any v2 b wx (opAt_grown h2 hb) l2
  generalize (lensW a).1 = A1 at *
  generalize (lensW a).2 = A2 at *
  generalize (lensW b).1 = B1 at *
  generalize (lensW b).2 = B2 at *
  obtain ⟨p1, c1, rfl, _⟩ := h1
  obtain ⟨p2, c2, rfl, _⟩ := h2
  clear hT w1 w2 hV hV2
  go_enter Tryz.func187, Tryz.ntmps187
  go_wp2_with (first
    | (have _ := HB2; go_at_call 120; refine (cL2.out _ HB2.out).mono ?_; rintro e w3 ⟨rfl, hb3⟩; have HB3 : Hid (Below w.heap.size w w3) := HB2.out.trans (hb3.mono HB2.out.size); clear hb3)
    | (go_at_call 120; refine (cL1.out _ HB1.out).mono ?_; rintro e w2 ⟨rfl, hb2⟩; have HB2 : Hid (Below w.heap.size w w2) := HB1.out.trans (hb2.mono HB1.out.size); clear hb2)
    | (go_at_call 221; refine Calls.mono cB.out ?_; rintro e w1 ⟨rfl, hb1⟩; have HB1 : Hid (Below w.heap.size w w1) := hb1; clear hb1)
    | fail)
  go_ret2
  exact ⟨rfl, HB3.out⟩
theorem trans_allN (v1 v2 : Value) (first : Bool) (a b : List Pt) (w : World) (hT : Lib.Utf8Tabs 2 3 w) (h1 : opAt w v1 a) (h2 : opAt w v2 b) (w1 : ∀ p ∈ a, wfP p) (w2 : ∀ p ∈ b, wfP p) (l1 : a.length < 10000000) (l2 : b.length < 10000000) (hf : bothE a b = 0 → fineP a ∧ fineP b) :
    Calls Tryz.prog 187 #[v1, v2, .bool first] w fun e w' => ∃ v', e = .returned (.tuple #[v', errV (turnE a b)]) ∧ opN w.heap.size w' v' (if turnE a b = 0 then tellP (transS first a b) else []) ∧ Below w.heap.size w w' := by
  have none : ∀ w', opN w.heap.size w' (.slice none 0 0) [] := opN_none _
  unfold turnE
  by_cases he : bothE a b = 0
  · obtain ⟨f1, f2⟩ := hf he
    rw [if_pos he]
    by_cases hl : (lensW b).1 = (lensW a).1
    · rw [if_pos hl, if_pos rfl]
      show Calls _ _ _ _ fun e w' => ∃ v', e = .returned (.tuple #[v', .nilIface]) ∧ _
      cases first with
      | true => exact (t1_fineN v1 v2 a b w hT h1 h2 w1 w2 f1 f2 he hl)
      | false => exact (t2_fineN v1 v2 a b w hT h1 h2 w1 w2 f1 f2 he hl)
    · rw [if_neg hl, if_neg (by decide)]
      exact (trans_len v1 v2 first a b w hT h1 h2 w1 w2 l1 l2 he hl).mono fun e w' h => ⟨_, h.1, none w', h.2⟩
  · rw [if_neg he, if_neg he]
    exact (trans_err v1 v2 first a b w hT h1 h2 w1 w2 l1 l2 he).mono fun e w' h => ⟨_, h.1, none w', h.2⟩
set_option maxRecDepth 100000 in
set_option maxHeartbeats 2000000 in
theorem comp_err (v1 v2 : Value) (a b : List Pt) (w : World) (hT : Lib.Utf8Tabs 2 3 w) (h1 : opAt w v1 a) (h2 : opAt w v2 b) (w1 : ∀ p ∈ a, wfP p) (w2 : ∀ p ∈ b, wfP p) (l1 : a.length < 10000000) (l2 : b.length < 10000000) (he : bothE a b ≠ 0) :
    Calls Tryz.prog 182 #[v1, v2] w fun e w' => e = .returned (.tuple #[.slice none 0 0, errV (bothE a b)]) ∧ Below w.heap.size w w' := by
  have cB : Hid _ := checkBoth_any v1 v2 a b w hT h1 h2 w1 w2 l1 l2
  have hV : errV (bothE a b) = .iface 26 (.int .i64 (bothE a b)) := by unfold errV; rw [if_neg he]
  rw [hV] at cB ⊢
  generalize bothE a b = E at *
  obtain ⟨p1, c1, rfl, _⟩ := h1
  obtain ⟨p2, c2, rfl, _⟩ := h2
  clear hT w1 w2 hV
  go_enter Tryz.func182, Tryz.ntmps182
  go_wp2_with (first
    | (go_at_call 221; refine Calls.mono cB.out ?_; rintro e w1 ⟨rfl, hb1⟩)
    | fail)
  go_ret2
  exact ⟨rfl, hb1⟩
set_option maxRecDepth 100000 in
set_option maxHeartbeats 2000000 in
theorem comp_len (v1 v2 : Value) (a b : List Pt) (w : World) (hT : Lib.Utf8Tabs 2 3 w) (h1 : opAt w v1 a) (h2 : opAt w v2 b) (w1 : ∀ p ∈ a, wfP p) (w2 : ∀ p ∈ b, wfP p) (l1 : a.length < 10000000) (l2 : b.length < 10000000) (he : bothE a b = 0) (hl : (lensW b).1 ≠ (lensW a).2) :
    Calls Tryz.prog 182 #[v1, v2] w fun e w' => e = .returned (.tuple #[.slice none 0 0, errV (2)]) ∧ Below w.heap.size w w' := by
  have cB : Hid _ := checkBoth_any v1 v2 a b w hT h1 h2 w1 w2 l1 l2
  have hV : errV (bothE a b) = .nilIface := by unfold errV; rw [if_pos he]
  have hV2 : errV 2 = .iface 26 (.int .i64 2) := rfl
  rw [hV] at cB
  rw [hV2]
  have cL1 : Hid (∀ wx, Below w.heap.size w wx → Calls Tryz.prog 120 #[v1] wx fun e w' => e = .returned (.tuple #[.int .i64 (lensW a).1, .int .i64 (lensW a).2]) ∧ Below wx.heap.size wx w') := fun wx hb => Lens_any v1 a wx (opAt_grown h1 hb) l1
  have cL2 : Hid (∀ wx, Below w.heap.size w wx → Calls Tryz.prog 120 #[v2] wx fun e w' => e = .returned (.tuple #[.int .i64 (lensW b).1, .int .i64 (lensW b).2]) ∧ Below wx.heap.size wx w') := fun wx hb => Lens_any v2 b wx (opAt_grown h2 hb) l2
  generalize (lensW a).1 = A1 at *
  generalize (lensW a).2 = A2 at *
  generalize (lensW b).1 = B1 at *
  generalize (lensW b).2 = B2 at *
  obtain ⟨p1, c1, rfl, _⟩ := h1
  obtain ⟨p2, c2, rfl, _⟩ := h2
  clear hT w1 w2 hV hV2
  go_enter Tryz.func182, Tryz.ntmps182
  go_wp2_with (first
    | (have _ := HB2; go_at_call 120; refine (cL2.out _ HB2.out).mono ?_; rintro e w3 ⟨rfl, hb3⟩; have HB3 : Hid (Below w.heap.size w w3) := HB2.out.trans (hb3.mono HB2.out.size); clear hb3)
    | (go_at_call 120; refine (cL1.out _ HB1.out).mono ?_; rintro e w2 ⟨rfl, hb2⟩; have HB2 : Hid (Below w.heap.size w w2) := HB1.out.trans (hb2.mono HB1.out.size); clear hb2)
    | (go_at_call 221; refine Calls.mono cB.out ?_; rintro e w1 ⟨rfl, hb1⟩; have HB1 : Hid (Below w.heap.size w w1) := hb1; clear hb1)
    | fail)
  go_ret2
  exact ⟨rfl, HB3.out⟩
theorem comp_allN (v1 v2 : Value) (a b : List Pt) (w : World) (hT : Lib.Utf8Tabs 2 3 w) (h1 : opAt w v1 a) (h2 : opAt w v2 b) (w1 : ∀ p ∈ a, wfP p) (w2 : ∀ p ∈ b, wfP p) (l1 : a.length < 10000000) (l2 : b.length < 10000000) (hf : bothE a b = 0 → fineP a ∧ fineP b) :
    Calls Tryz.prog 182 #[v1, v2] w fun e w' => ∃ v', e = .returned (.tuple #[v', errV (compE a b)]) ∧ opN w.heap.size w' v' (if compE a b = 0 then tellP (compS a b) else []) ∧ Below w.heap.size w w' := by
  have none : ∀ w', opN w.heap.size w' (.slice none 0 0) [] := opN_none _
  unfold compE
  by_cases he : bothE a b = 0
  · obtain ⟨f1, f2⟩ := hf he
    rw [if_pos he]
    by_cases hl : (lensW b).1 = (lensW a).2
    · rw [if_pos hl, if_pos rfl]
      show Calls _ _ _ _ fun e w' => ∃ v', e = .returned (.tuple #[v', .nilIface]) ∧ _
      exact (comp_fineN v1 v2 a b w hT h1 h2 w1 w2 f1 f2 he hl)
    · rw [if_neg hl, if_neg (by decide)]
      exact (comp_len v1 v2 a b w hT h1 h2 w1 w2 l1 l2 he hl).mono fun e w' h => ⟨_, h.1, none w', h.2⟩
  · rw [if_neg he, if_neg he]
    exact (comp_err v1 v2 a b w hT h1 h2 w1 w2 l1 l2 he).mono fun e w' h => ⟨_, h.1, none w', h.2⟩
end Go.Proofs.YtedgnlgjmnccgabGreatDoor
