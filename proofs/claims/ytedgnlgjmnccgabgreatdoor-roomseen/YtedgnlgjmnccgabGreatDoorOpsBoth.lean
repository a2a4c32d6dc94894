/-
  ops.checkBoth, isPut, length.
-/
import Derived.Test.YtedgnlgjmnccgabGreatDoorOpsCheckLaw
namespace Go.Proofs.YtedgnlgjmnccgabGreatDoor
open Go.RowKit
set_option linter.unusedVariables false
attribute [local go_sem] Oper.semAt_some

/-- What is wrong with two operations, over as much as they keep and drop. -/
def bothE (a b : List Pt) : Int := if chkE a (lensW a).1 = 0 then chkE b (lensW b).1 else chkE a (lensW a).1

set_option maxHeartbeats 1000000 in
theorem isPut_any (p : Pt) (w : World) : Calls Tryz.prog 225 #[partV p] w fun e w' => e = .returned (.bool (decide (p.put ≠ []))) ∧ Below w.heap.size w w' := by
  obtain ⟨K, D, U⟩ := p
  have hz : (ByteArray.mk U.toArray).size = U.length := by simp [ByteArray.size]
  unfold partV
  go_enter Tryz.func225, Tryz.ntmps225
  go_wp2
  go_ret
  exact ⟨by cases U <;> simp, (Below.refl _ _).alloc (Nat.le_refl _) _⟩
set_option maxHeartbeats 1000000 in
theorem length_any (p : Pt) (w : World) (h0 : 0 ≤ p.keep ∧ 0 ≤ p.drop) (h1 : p.keep + p.drop + p.put.length < 4611686018427387904) : Calls Tryz.prog 267 #[partV p] w fun e w' => e = .returned (.int .i64 (p.keep + p.drop + p.put.length)) ∧ Below w.heap.size w w' := by
  obtain ⟨K, D, U⟩ := p
  simp only at h0 h1
  obtain ⟨h2, h3⟩ := h0
  have hz : (ByteArray.mk U.toArray).size = U.length := by simp [ByteArray.size]
  unfold partV
  go_enter Tryz.func267, Tryz.ntmps267
  go_wp2
  go_ret
  exact ⟨rfl, (Below.refl _ _).alloc (Nat.le_refl _) _⟩

set_option maxRecDepth 100000 in
set_option maxHeartbeats 2000000 in
theorem checkBoth_any (v1 v2 : Value) (a b : List Pt) (w : World) (hT : Lib.Utf8Tabs 2 3 w) (h1 : opAt w v1 a) (h2 : opAt w v2 b) (w1 : ∀ p ∈ a, wfP p) (w2 : ∀ p ∈ b, wfP p) (l1 : a.length < 10000000) (l2 : b.length < 10000000) :
    Calls Tryz.prog 221 #[v1, v2] w fun e w' => e = .returned (errV (bothE a b)) ∧ Below w.heap.size w w' := by
  have cL1 : Hid (∀ wx, Below w.heap.size w wx → Calls Tryz.prog 120 #[v1] wx fun e w' => e = .returned (.tuple #[.int .i64 (lensW a).1, .int .i64 (lensW a).2]) ∧ Below wx.heap.size wx w') := fun wx hb => Lens_any v1 a wx (opAt_grown h1 hb) l1
  have cL2 : Hid (∀ wx, Below w.heap.size w wx → Calls Tryz.prog 120 #[v2] wx fun e w' => e = .returned (.tuple #[.int .i64 (lensW b).1, .int .i64 (lensW b).2]) ∧ Below wx.heap.size wx w') := fun wx hb => Lens_any v2 b wx (opAt_grown h2 hb) l2
  have cC1 : Hid (∀ wx, Below w.heap.size w wx → Calls Tryz.prog 92 #[v1, .int .i64 (lensW a).1] wx fun e w' => e = .returned (errV (chkE a (lensW a).1)) ∧ Below wx.heap.size wx w') := fun wx hb => Check_any v1 a _ wx (Go.Proofs.Utf8Tabs_below hT hb) (opAt_grown h1 hb) w1 (lensW_range a) l1
  have cC2 : Hid (∀ wx, Below w.heap.size w wx → Calls Tryz.prog 92 #[v2, .int .i64 (lensW b).1] wx fun e w' => e = .returned (errV (chkE b (lensW b).1)) ∧ Below wx.heap.size wx w') := fun wx hb => Check_any v2 b _ wx (Go.Proofs.Utf8Tabs_below hT hb) (opAt_grown h2 hb) w2 (lensW_range b) l2
  obtain ⟨R, hR⟩ : ∃ R, R = bothE a b := ⟨_, rfl⟩
  rw [← hR]
  unfold bothE at hR
  generalize chkE a (lensW a).1 = E1 at cC1 hR
  generalize chkE b (lensW b).1 = E2 at cC2 hR
  generalize (lensW a).1 = A1 at cL1 cC1
  generalize (lensW a).2 = A2 at cL1
  generalize (lensW b).1 = B1 at cL2 cC2
  generalize (lensW b).2 = B2 at cL2
  obtain ⟨p1, c1, rfl, _⟩ := h1
  obtain ⟨p2, c2, rfl, _⟩ := h2
  clear hT w1 w2
  by_cases he : E1 = 0
  · rw [if_pos he] at hR
    have hV : errV E1 = .nilIface := by unfold errV; rw [if_pos he]
    rw [hV] at cC1
    obtain ⟨V, hV2⟩ : ∃ V, errV R = V := ⟨_, rfl⟩
    rw [← hR, hV2] at cC2
    rw [hV2]
    clear hV hV2 hR he
    go_enter Tryz.func221, Tryz.ntmps221
    go_wp2_with (first
      | (have _ := hB3; go_at_call 92; refine (cC2.out _ hB3.out).mono ?_; rintro e w4 ⟨rfl, hb4⟩; have hB4 : Hid (Below w.heap.size w w4) := hB3.out.trans (hb4.mono hB3.out.size))
      | (have _ := hB2; go_at_call 120; refine (cL2.out _ hB2.out).mono ?_; rintro e w3 ⟨rfl, hb3⟩; have hB3 : Hid (Below w.heap.size w w3) := hB2.out.trans (hb3.mono hB2.out.size))
      | (have _ := hB1; go_at_call 92; refine (cC1.out _ hB1.out).mono ?_; rintro e w2 ⟨rfl, hb2⟩; have hB2 : Hid (Below w.heap.size w w2) := hB1.out.trans (hb2.mono hB1.out.size))
      | (go_at_call 120; refine (cL1.out _ (Below.refl _ _)).mono ?_; rintro e w1 ⟨rfl, hb1⟩; have hB1 : Hid (Below w.heap.size w w1) := hb1)
      | fail)
    go_ret
    exact ⟨rfl, hB4.out⟩
  · rw [if_neg he] at hR
    have hV : errV E1 = .iface 26 (.int .i64 E1) := by unfold errV; rw [if_neg he]
    rw [hV] at cC1
    have hV2 : errV R = .iface 26 (.int .i64 E1) := by rw [hR]; exact hV
    rw [hV2]
    clear hV hV2 hR he cC2 cL2
    go_enter Tryz.func221, Tryz.ntmps221
    go_wp2_with (first
      | (have _ := hB1; go_at_call 92; refine (cC1.out _ hB1.out).mono ?_; rintro e w2 ⟨rfl, hb2⟩; have hB2 : Hid (Below w.heap.size w w2) := hB1.out.trans (hb2.mono hB1.out.size))
      | (go_at_call 120; refine (cL1.out _ (Below.refl _ _)).mono ?_; rintro e w1 ⟨rfl, hb1⟩; have hB1 : Hid (Below w.heap.size w w1) := hb1)
      | fail)
    go_ret
    exact ⟨rfl, hB2.out⟩
end Go.Proofs.YtedgnlgjmnccgabGreatDoor
