/-
  pos.Place.
  pos.Place of any spot.
  The document's own Place, over what its calls tell.
  Lines and places (pure): a line is what is ahead of it, it, and what is behind; a place in it.
  The document's Place of any spot: as pos.Place tells it.
  rosettalaw.PosConverts: the law's own walk.
  rosettalaw.PosConverts at every argument.
-/
import Derived.Test.YtgmgkbbnciglhaaGreatDoorPartE
import Derived.Test.YtgmgkbbnciglhaaGreatDoorPartB
import Derived.Test.YtgmgkbbnciglhaaGreatDoorPartD
namespace Go.Proofs.YtgmgkbbnciglhaaGreatDoor
open Go.RowKit
set_option linter.unusedVariables false
attribute [local go_sem] Oper.semAt_some yieldsUpon okUpon field0 field3

set_option maxRecDepth 100000 in
set_option maxHeartbeats 4000000 in
theorem place_unit (b : Nat) (u line col E : Int) (w : World)
    (cU : Hid (∀ wx, Below w.heap.size w wx → Calls Tryz.prog 51 #[.pointer (some ⟨b, 0, none⟩), .int .i64 u] wx fun e w' => e = .returned (.iface 30 (.int .i64 E)) ∧ Below wx.heap.size wx w')) :
    Calls Tryz.prog 25 #[.pointer (some ⟨b, 0, none⟩), .int .i64 u, .agg #[.int .i64 line, .int .i64 col]] w fun e w' => e = .returned (.tuple #[.int .i64 0, .iface 30 (.int .i64 E)]) ∧ Below w.heap.size w w' := by
  have HB0 : Hid (Below w.heap.size w (w.alloc (.cells #[.int .i64 line, .int .i64 col] 54))) := (Below.refl _ w).alloc (Nat.le_refl _) _
  have HS0 : Hid (spotW (w.alloc (.cells #[.int .i64 line, .int .i64 col] 54)) w.heap.size line col) := spotW_new w _ _ _
  go_enter Tryz.func25, Tryz.ntmps25
  go_wp2_with (first
    | (go_at_call 51; refine (cU.out _ HB0.out).mono ?_; rintro e w1 ⟨rfl, hb1⟩; have HB1 : Hid (Below w.heap.size w w1) := HB0.out.trans (hb1.mono HB0.out.size); have HS1 : Hid (spotW w1 w.heap.size line col) := spotW_below HS0.out hb1; clear hb1; have ⟨⟨p0, p1⟩, p2, p3⟩ := HS1.out)
    | fail)
  go_ret2
  exact ⟨rfl, HB1.out⟩

set_option maxRecDepth 100000 in
set_option maxHeartbeats 4000000 in
theorem place_line (b : Nat) (u line col E : Int) (w : World)
    (cU : Hid (∀ wx, Below w.heap.size w wx → Calls Tryz.prog 51 #[.pointer (some ⟨b, 0, none⟩), .int .i64 u] wx fun e w' => e = .returned .nilIface ∧ Below wx.heap.size wx w'))
    (cL : Hid (∀ wx, Below w.heap.size w wx → Calls Tryz.prog 18 #[.pointer (some ⟨b, 0, none⟩), .int .i64 line] wx fun e w' => e = .returned (.tuple #[cntV [], .iface 30 (.int .i64 E)]) ∧ Below wx.heap.size wx w')) :
    Calls Tryz.prog 25 #[.pointer (some ⟨b, 0, none⟩), .int .i64 u, .agg #[.int .i64 line, .int .i64 col]] w fun e w' => e = .returned (.tuple #[.int .i64 0, .iface 30 (.int .i64 E)]) ∧ Below w.heap.size w w' := by
  have hC : cntV [] = .agg #[.int .i64 0, .int .i64 0, .int .i64 0, .int .i64 0] := rfl
  rw [hC] at cL
  clear hC
  have HB0 : Hid (Below w.heap.size w (w.alloc (.cells #[.int .i64 line, .int .i64 col] 54))) := (Below.refl _ w).alloc (Nat.le_refl _) _
  have HS0 : Hid (spotW (w.alloc (.cells #[.int .i64 line, .int .i64 col] 54)) w.heap.size line col) := spotW_new w _ _ _
  go_enter Tryz.func25, Tryz.ntmps25
  go_wp2_with (first
    | (go_at_call 51; refine (cU.out _ HB0.out).mono ?_; rintro e w1 ⟨rfl, hb1⟩; have HB1 : Hid (Below w.heap.size w w1) := HB0.out.trans (hb1.mono HB0.out.size); have HS1 : Hid (spotW w1 w.heap.size line col) := spotW_below HS0.out hb1; clear hb1; have ⟨⟨p0, p1⟩, p2, p3⟩ := HS1.out)
    | (go_at_call 18; refine (cL.out _ HB1.out).mono ?_; rintro e w2 ⟨rfl, hb2⟩; have HB2 : Hid (Below w.heap.size w w2) := HB1.out.trans (hb2.mono HB1.out.size); clear hb2)
    | fail)
  go_ret2
  exact ⟨rfl, HB2.out.alloc HB2.out.size _⟩

set_option maxRecDepth 100000 in
set_option maxHeartbeats 4000000 in
theorem place_neg (b : Nat) (B : List Nat) (u line col nB : Int) (hc : col < 0) (w : World)
    (cU : Hid (∀ wx, Below w.heap.size w wx → Calls Tryz.prog 51 #[.pointer (some ⟨b, 0, none⟩), .int .i64 u] wx fun e w' => e = .returned .nilIface ∧ Below wx.heap.size wx w'))
    (cL : Hid (∀ wx, Below w.heap.size w wx → Calls Tryz.prog 18 #[.pointer (some ⟨b, 0, none⟩), .int .i64 line] wx fun e w' => e = .returned (.tuple #[cntV B, .nilIface]) ∧ Below wx.heap.size wx w'))
    (cI : Hid (∀ wx, Calls Tryz.prog 46 #[cntV B, .int .i64 u] wx fun e w' => e = .returned (.int .i64 nB) ∧ Below wx.heap.size wx w')) :
    Calls Tryz.prog 25 #[.pointer (some ⟨b, 0, none⟩), .int .i64 u, .agg #[.int .i64 line, .int .i64 col]] w fun e w' => e = .returned (.tuple #[.int .i64 0, .iface 30 (.int .i64 2)]) ∧ Below w.heap.size w w' := by
  unfold cntV at cL cI
  have HB0 : Hid (Below w.heap.size w (w.alloc (.cells #[.int .i64 line, .int .i64 col] 54))) := (Below.refl _ w).alloc (Nat.le_refl _) _
  have HS0 : Hid (spotW (w.alloc (.cells #[.int .i64 line, .int .i64 col] 54)) w.heap.size line col) := spotW_new w _ _ _
  go_enter Tryz.func25, Tryz.ntmps25
  go_wp2_with (first
    | (go_at_call 51; refine (cU.out _ HB0.out).mono ?_; rintro e w1 ⟨rfl, hb1⟩; have HB1 : Hid (Below w.heap.size w w1) := HB0.out.trans (hb1.mono HB0.out.size); have HS1 : Hid (spotW w1 w.heap.size line col) := spotW_below HS0.out hb1; clear hb1; have ⟨⟨p0, p1⟩, p2, p3⟩ := HS1.out)
    | (go_at_call 18; refine (cL.out _ HB1.out).mono ?_; rintro e w2 ⟨rfl, hb2⟩; have HB2 : Hid (Below w.heap.size w w2) := HB1.out.trans (hb2.mono HB1.out.size); have HS2 : Hid (spotW w2 w.heap.size line col) := spotW_below HS1.out hb2; have HB3 : Hid (Below w.heap.size w (w2.alloc (.cells #[.int .i64 (C1 B), .int .i64 (C2 B), .int .i64 (C3 B), .int .i64 (C4 B)] 29))) := HB2.out.alloc HB2.out.size _; have HS3 : Hid (spotW (w2.alloc (.cells #[.int .i64 (C1 B), .int .i64 (C2 B), .int .i64 (C3 B), .int .i64 (C4 B)] 29)) w.heap.size line col) := spotW_below HS2.out ((Below.refl _ _).alloc (Nat.le_refl _) _); clear hb2)
    | (go_at_call 46; refine (cI.out _).mono ?_; rintro e w4 ⟨rfl, hb4⟩; have HB4 : Hid (Below w.heap.size w w4) := HB3.out.trans (hb4.mono HB3.out.size); have HS4 : Hid (spotW w4 w.heap.size line col) := spotW_below HS3.out hb4; clear hb4)
    | fail)
  obtain ⟨⟨k0, k1⟩, k2, k3⟩ := HS4.out
  go_region
  go_wp2
  go_ret2
  exact ⟨rfl, HB4.out.drew⟩

set_option maxRecDepth 100000 in
set_option maxHeartbeats 4000000 in
theorem place_far (b : Nat) (B : List Nat) (u line col nB nE : Int) (hc : 0 ≤ col) (hw : IntKind.i64.wrap (nE - nB) = nE - nB) (hf : nE - nB < col) (w : World)
    (cU : Hid (∀ wx, Below w.heap.size w wx → Calls Tryz.prog 51 #[.pointer (some ⟨b, 0, none⟩), .int .i64 u] wx fun e w' => e = .returned .nilIface ∧ Below wx.heap.size wx w'))
    (cL : Hid (∀ wx, Below w.heap.size w wx → Calls Tryz.prog 18 #[.pointer (some ⟨b, 0, none⟩), .int .i64 line] wx fun e w' => e = .returned (.tuple #[cntV B, .nilIface]) ∧ Below wx.heap.size wx w'))
    (cI : Hid (∀ wx, Calls Tryz.prog 46 #[cntV B, .int .i64 u] wx fun e w' => e = .returned (.int .i64 nB) ∧ Below wx.heap.size wx w'))
    (cE : Hid (∀ wx, Below w.heap.size w wx → Calls Tryz.prog 53 #[.pointer (some ⟨b, 0, none⟩), .int .i64 u, .int .i64 line] wx fun e w' => e = .returned (.int .i64 nE) ∧ Below wx.heap.size wx w')) :
    Calls Tryz.prog 25 #[.pointer (some ⟨b, 0, none⟩), .int .i64 u, .agg #[.int .i64 line, .int .i64 col]] w fun e w' => e = .returned (.tuple #[.int .i64 0, .iface 30 (.int .i64 2)]) ∧ Below w.heap.size w w' := by
  have n0 : ¬ col < 0 := by omega
  unfold cntV at cL cI
  clear hc
  have HB0 : Hid (Below w.heap.size w (w.alloc (.cells #[.int .i64 line, .int .i64 col] 54))) := (Below.refl _ w).alloc (Nat.le_refl _) _
  have HS0 : Hid (spotW (w.alloc (.cells #[.int .i64 line, .int .i64 col] 54)) w.heap.size line col) := spotW_new w _ _ _
  go_enter Tryz.func25, Tryz.ntmps25
  go_wp2_with (first
    | (go_at_call 51; refine (cU.out _ HB0.out).mono ?_; rintro e w1 ⟨rfl, hb1⟩; have HB1 : Hid (Below w.heap.size w w1) := HB0.out.trans (hb1.mono HB0.out.size); have HS1 : Hid (spotW w1 w.heap.size line col) := spotW_below HS0.out hb1; clear hb1; have ⟨⟨p0, p1⟩, p2, p3⟩ := HS1.out)
    | (go_at_call 18; refine (cL.out _ HB1.out).mono ?_; rintro e w2 ⟨rfl, hb2⟩; have HB2 : Hid (Below w.heap.size w w2) := HB1.out.trans (hb2.mono HB1.out.size); have HS2 : Hid (spotW w2 w.heap.size line col) := spotW_below HS1.out hb2; have HB3 : Hid (Below w.heap.size w (w2.alloc (.cells #[.int .i64 (C1 B), .int .i64 (C2 B), .int .i64 (C3 B), .int .i64 (C4 B)] 29))) := HB2.out.alloc HB2.out.size _; have HS3 : Hid (spotW (w2.alloc (.cells #[.int .i64 (C1 B), .int .i64 (C2 B), .int .i64 (C3 B), .int .i64 (C4 B)] 29)) w.heap.size line col) := spotW_below HS2.out ((Below.refl _ _).alloc (Nat.le_refl _) _); clear hb2)
    | (go_at_call 46; refine (cI.out _).mono ?_; rintro e w4 ⟨rfl, hb4⟩; have HB4 : Hid (Below w.heap.size w w4) := HB3.out.trans (hb4.mono HB3.out.size); have HS4 : Hid (spotW w4 w.heap.size line col) := spotW_below HS3.out hb4; clear hb4)
    | fail)
  have hb4 := HB4.out
  have hs4 := HS4.out
  generalize w2.heap.size = BB at *
  clear HB0 HS0 HB1 HS1 HB2 HS2 HB3 HS3 HB4 HS4 cU cL p0 p1 p2 p3
  refine wp_region_rel 15 15 (by kernel_rfl) rfl ?_
  intro w6 hb6
  obtain ⟨G, hG⟩ := exists_growth w6
  have hb46 := hb4.trans (hb6.mono hb4.size)
  have hs6 := spotW_below hs4 hb6
  obtain ⟨⟨x0, x1⟩, _⟩ := hs6
  have gx0 := hG.cell x0
  have gx1 := hG.cell x1
  have cG := fun x => cE.out (G x) (hb46.trans ((hG.below x).mono hb46.size))
  clear x0 x1
  (refine anyG_step hG (i := 0) rfl (by kernel_rfl) (by kernel_rfl) (by kernel_rfl) (fun K hK => ?_); go_simp; refine hK _ ?_; clear hK K)
  (refine anyG_step hG (i := 1) rfl (by kernel_rfl) (by kernel_rfl) (by kernel_rfl) (fun K hK => ?_); go_simp; refine hK _ ?_; clear hK K)
  (refine anyG_step hG (i := 2) rfl (by kernel_rfl) (by kernel_rfl) (by kernel_rfl) (fun K hK => ?_); go_simp; refine hK _ ?_; clear hK K)
  (refine anyG_step hG (i := 3) rfl (by kernel_rfl) (by kernel_rfl) (by kernel_rfl) (fun K hK => ?_); go_simp; refine hK _ ?_; clear hK K)
  (refine anyG_step hG (i := 4) rfl (by kernel_rfl) (by kernel_rfl) (by kernel_rfl) (fun K hK => ?_); go_simp; refine hK _ ?_; clear hK K)
  (refine anyG_step hG (i := 5) rfl (by kernel_rfl) (by kernel_rfl) (by kernel_rfl) (fun K hK => ?_); go_simp; refine hK _ ?_; clear hK K)
  (refine anyG_step hG (i := 6) rfl (by kernel_rfl) (by kernel_rfl) (by kernel_rfl) (fun K hK => ?_); go_simp; refine hK _ ?_; clear hK K)
  (refine anyG_step hG (i := 7) rfl (by kernel_rfl) (by kernel_rfl) (by kernel_rfl) (fun K hK => ?_); go_simp; refine hK _ ?_; clear hK K)
  (refine anyG_step hG (i := 8) rfl (by kernel_rfl) (by kernel_rfl) (by kernel_rfl) (fun K hK => ?_); go_simp; refine hK _ ?_; clear hK K)
  (refine anyG_step hG (i := 9) rfl (by kernel_rfl) (by kernel_rfl) (by kernel_rfl) (fun K hK => ?_); go_simp; refine hK _ ?_; clear hK K)
  (refine anyG_step hG (i := 10) rfl (by kernel_rfl) (by kernel_rfl) (by kernel_rfl) (fun K hK => ?_); go_simp; apply Exists.intro; refine ⟨fun _ => ?_, hK _ ?_⟩; exact cG _; clear hK K)
  (refine anyG_step hG (i := 11) rfl (by kernel_rfl) (by kernel_rfl) (by kernel_rfl) (fun K hK => ?_); go_simp; refine hK _ ?_; clear hK K)
  (refine anyG_step hG (i := 12) rfl (by kernel_rfl) (by kernel_rfl) (by kernel_rfl) (fun K hK => ?_); go_simp; refine hK _ ?_; clear hK K)
  (refine anyG_step hG (i := 13) rfl (by kernel_rfl) (by kernel_rfl) (by kernel_rfl) (fun K hK => ?_); go_simp; refine hK _ ?_; clear hK K)
  (refine anyG_step hG (i := 14) rfl (by kernel_rfl) (by kernel_rfl) (by kernel_rfl) (fun K hK => ?_); go_simp; refine hK _ ?_; clear hK K)
  clear gx0 gx1 cG hG
  refine anyG_end (by kernel_rfl) ?_
  intro w7 hb7
  have hb67 := hb6.trans (hb7.mono hb6.size)
  have HB7 : Hid (Below w.heap.size w w7) := hb4.trans (hb67.mono hb4.size)
  have HS7 : Hid (spotW w7 w.heap.size line col) := spotW_below hs4 hb67
  clear hb6 hb7 hb67 hb46 hb4 hs4
  go_wp2
  go_ret2
  exact ⟨rfl, HB7.out⟩

set_option maxRecDepth 100000 in
set_option maxHeartbeats 4000000 in
theorem place_rest (b : Nat) (B X : List Nat) (u line col nB nE nX : Int) (ev : Value) (hc : 0 ≤ col) (hw : IntKind.i64.wrap (nE - nB) = nE - nB) (hf : col ≤ nE - nB) (hw2 : IntKind.i64.wrap (nB + col) = nB + col) (w : World)
    (cU : Hid (∀ wx, Below w.heap.size w wx → Calls Tryz.prog 51 #[.pointer (some ⟨b, 0, none⟩), .int .i64 u] wx fun e w' => e = .returned .nilIface ∧ Below wx.heap.size wx w'))
    (cL : Hid (∀ wx, Below w.heap.size w wx → Calls Tryz.prog 18 #[.pointer (some ⟨b, 0, none⟩), .int .i64 line] wx fun e w' => e = .returned (.tuple #[cntV B, .nilIface]) ∧ Below wx.heap.size wx w'))
    (cI : Hid (∀ wx, Calls Tryz.prog 46 #[cntV B, .int .i64 u] wx fun e w' => e = .returned (.int .i64 nB) ∧ Below wx.heap.size wx w'))
    (cE : Hid (∀ wx, Below w.heap.size w wx → Calls Tryz.prog 53 #[.pointer (some ⟨b, 0, none⟩), .int .i64 u, .int .i64 line] wx fun e w' => e = .returned (.int .i64 nE) ∧ Below wx.heap.size wx w'))
    (cA : Hid (∀ wx, Below w.heap.size w wx → Calls Tryz.prog 16 #[.pointer (some ⟨b, 0, none⟩), .int .i64 u, .int .i64 (nB + col)] wx fun e w' => e = .returned (.tuple #[cntV X, ev]) ∧ Below wx.heap.size wx w'))
    (cX : Hid (∀ wx, Calls Tryz.prog 46 #[cntV X, .int .i64 u] wx fun e w' => e = .returned (.int .i64 nX) ∧ Below wx.heap.size wx w')) :
    Calls Tryz.prog 25 #[.pointer (some ⟨b, 0, none⟩), .int .i64 u, .agg #[.int .i64 line, .int .i64 col]] w fun e w' => e = .returned (.tuple #[.int .i64 nX, ev]) ∧ Below w.heap.size w w' := by
  have n0 : ¬ col < 0 := by omega
  have n1 : ¬ nE - nB < col := by omega
  unfold cntV at cL cI cA cX
  clear hc hf
  have HB0 : Hid (Below w.heap.size w (w.alloc (.cells #[.int .i64 line, .int .i64 col] 54))) := (Below.refl _ w).alloc (Nat.le_refl _) _
  have HS0 : Hid (spotW (w.alloc (.cells #[.int .i64 line, .int .i64 col] 54)) w.heap.size line col) := spotW_new w _ _ _
  go_enter Tryz.func25, Tryz.ntmps25
  go_wp2_with (first
    | (go_at_call 51; refine (cU.out _ HB0.out).mono ?_; rintro e w1 ⟨rfl, hb1⟩; have HB1 : Hid (Below w.heap.size w w1) := HB0.out.trans (hb1.mono HB0.out.size); have HS1 : Hid (spotW w1 w.heap.size line col) := spotW_below HS0.out hb1; clear hb1; have ⟨⟨p0, p1⟩, p2, p3⟩ := HS1.out)
    | (go_at_call 18; refine (cL.out _ HB1.out).mono ?_; rintro e w2 ⟨rfl, hb2⟩; have HB2 : Hid (Below w.heap.size w w2) := HB1.out.trans (hb2.mono HB1.out.size); have HS2 : Hid (spotW w2 w.heap.size line col) := spotW_below HS1.out hb2; have HB3 : Hid (Below w.heap.size w (w2.alloc (.cells #[.int .i64 (C1 B), .int .i64 (C2 B), .int .i64 (C3 B), .int .i64 (C4 B)] 29))) := HB2.out.alloc HB2.out.size _; have HS3 : Hid (spotW (w2.alloc (.cells #[.int .i64 (C1 B), .int .i64 (C2 B), .int .i64 (C3 B), .int .i64 (C4 B)] 29)) w.heap.size line col) := spotW_below HS2.out ((Below.refl _ _).alloc (Nat.le_refl _) _); clear hb2)
    | (go_at_call 46; refine (cI.out _).mono ?_; rintro e w4 ⟨rfl, hb4⟩; have HB4 : Hid (Below w.heap.size w w4) := HB3.out.trans (hb4.mono HB3.out.size); have HS4 : Hid (spotW w4 w.heap.size line col) := spotW_below HS3.out hb4; clear hb4)
    | fail)
  have hb4 := HB4.out
  have hs4 := HS4.out
  generalize w2.heap.size = BB at *
  clear HB0 HS0 HB1 HS1 HB2 HS2 HB3 HS3 HB4 HS4 cU cL p0 p1 p2 p3
  refine wp_region_rel 15 15 (by kernel_rfl) rfl ?_
  intro w6 hb6
  obtain ⟨G, hG⟩ := exists_growth w6
  have hb46 := hb4.trans (hb6.mono hb4.size)
  have hs6 := spotW_below hs4 hb6
  obtain ⟨⟨x0, x1⟩, _⟩ := hs6
  have gx0 := hG.cell x0
  have gx1 := hG.cell x1
  have cG := fun x => cE.out (G x) (hb46.trans ((hG.below x).mono hb46.size))
  clear x0 x1
  (refine anyG_step hG (i := 0) rfl (by kernel_rfl) (by kernel_rfl) (by kernel_rfl) (fun K hK => ?_); go_simp; refine hK _ ?_; clear hK K)
  (refine anyG_step hG (i := 1) rfl (by kernel_rfl) (by kernel_rfl) (by kernel_rfl) (fun K hK => ?_); go_simp; refine hK _ ?_; clear hK K)
  (refine anyG_step hG (i := 2) rfl (by kernel_rfl) (by kernel_rfl) (by kernel_rfl) (fun K hK => ?_); go_simp; refine hK _ ?_; clear hK K)
  (refine anyG_step hG (i := 3) rfl (by kernel_rfl) (by kernel_rfl) (by kernel_rfl) (fun K hK => ?_); go_simp; refine hK _ ?_; clear hK K)
  (refine anyG_step hG (i := 4) rfl (by kernel_rfl) (by kernel_rfl) (by kernel_rfl) (fun K hK => ?_); go_simp; refine hK _ ?_; clear hK K)
  (refine anyG_step hG (i := 5) rfl (by kernel_rfl) (by kernel_rfl) (by kernel_rfl) (fun K hK => ?_); go_simp; refine hK _ ?_; clear hK K)
  (refine anyG_step hG (i := 6) rfl (by kernel_rfl) (by kernel_rfl) (by kernel_rfl) (fun K hK => ?_); go_simp; refine hK _ ?_; clear hK K)
  (refine anyG_step hG (i := 7) rfl (by kernel_rfl) (by kernel_rfl) (by kernel_rfl) (fun K hK => ?_); go_simp; refine hK _ ?_; clear hK K)
  (refine anyG_step hG (i := 8) rfl (by kernel_rfl) (by kernel_rfl) (by kernel_rfl) (fun K hK => ?_); go_simp; refine hK _ ?_; clear hK K)
  (refine anyG_step hG (i := 9) rfl (by kernel_rfl) (by kernel_rfl) (by kernel_rfl) (fun K hK => ?_); go_simp; refine hK _ ?_; clear hK K)
  (refine anyG_step hG (i := 10) rfl (by kernel_rfl) (by kernel_rfl) (by kernel_rfl) (fun K hK => ?_); go_simp; apply Exists.intro; refine ⟨fun _ => ?_, hK _ ?_⟩; exact cG _; clear hK K)
  (refine anyG_step hG (i := 11) rfl (by kernel_rfl) (by kernel_rfl) (by kernel_rfl) (fun K hK => ?_); go_simp; refine hK _ ?_; clear hK K)
  (refine anyG_step hG (i := 12) rfl (by kernel_rfl) (by kernel_rfl) (by kernel_rfl) (fun K hK => ?_); go_simp; refine hK _ ?_; clear hK K)
  (refine anyG_step hG (i := 13) rfl (by kernel_rfl) (by kernel_rfl) (by kernel_rfl) (fun K hK => ?_); go_simp; refine hK _ ?_; clear hK K)
  (refine anyG_step hG (i := 14) rfl (by kernel_rfl) (by kernel_rfl) (by kernel_rfl) (fun K hK => ?_); go_simp; refine hK _ ?_; clear hK K)
  clear gx0 gx1 cG hG
  refine anyG_end (by kernel_rfl) ?_
  intro w7 hb7
  have hb67 := hb6.trans (hb7.mono hb6.size)
  have HB7 : Hid (Below w.heap.size w w7) := hb4.trans (hb67.mono hb4.size)
  have HS7 : Hid (spotW w7 w.heap.size line col) := spotW_below hs4 hb67
  clear hb6 hb7 hb67 hb46 hb4 hs4
  obtain ⟨⟨k0, k1⟩, k2, k3⟩ := HS7.out
  go_wp2_with (first
    | (go_at_call 16; refine (cA.out _ HB7.out).mono ?_; rintro e w8 ⟨rfl, hb8⟩; have HB8 : Hid (Below w.heap.size w w8) := HB7.out.trans (hb8.mono HB7.out.size); have HB9 : Hid (Below w.heap.size w (w8.alloc (.cells #[.int .i64 (C1 X), .int .i64 (C2 X), .int .i64 (C3 X), .int .i64 (C4 X)] 29))) := HB8.out.alloc HB8.out.size _; clear hb8)
    | (go_at_call 46; refine (cX.out _).mono ?_; rintro e w9 ⟨rfl, hb9⟩; have HB10 : Hid (Below w.heap.size w w9) := HB9.out.trans (hb9.mono HB9.out.size); clear hb9)
    | fail)
  go_ret2
  exact ⟨rfl, HB10.out⟩
end Go.Proofs.YtgmgkbbnciglhaaGreatDoor

namespace Go.Proofs.YtgmgkbbnciglhaaGreatDoor
open Go.RowKit
set_option linter.unusedVariables false

theorem find_take (f : List Nat → Bool) : ∀ (rs pre : List Nat), ∃ k, find f pre rs = pre ++ rs.take k
  | [], pre => ⟨0, by unfold find; split <;> simp [seek]⟩
  | r :: rs, pre => by
    by_cases h : f pre = true
    · exact ⟨0, by unfold find; rw [if_pos h]; simp⟩
    · obtain ⟨k, hk⟩ := find_take f rs (pre ++ [r])
      refine ⟨k + 1, ?_⟩
      have e : find f pre (r :: rs) = find f (pre ++ [r]) rs := by
        unfold find
        rw [if_neg h, seek]
        split
        · rfl
        · simp
      rw [e, hk]; simp
theorem find_small (f : List Nat → Bool) (rs : List Nat) (hz : C1 rs ≤ 100000000) : C1 (find f [] rs) ≤ 100000000 := by
  obtain ⟨k, hk⟩ := find_take f rs []
  rw [hk, List.nil_append]
  have := C1_take rs k
  omega
/-- Where a line begins, and where it ends, in a unit. -/
def beginL (u line : Int) (rs : List Nat) : Int := by_ u (find (reachesLine line) [] rs)
def endL (u line : Int) (rs : List Nat) : Int := if C4 rs < line + 1 then by_ u rs else by_ u (find (reachesLine (line + 1)) [] rs) - 1
/-- What Place tells. -/
def placeE (u line col : Int) (rs : List Nat) : Value :=
  if ¬ (u = 1 ∨ u = 2 ∨ u = 3) then .tuple #[.int .i64 0, errV 1]
  else if line < 0 ∨ C4 rs < line then .tuple #[.int .i64 0, errV 2]
  else if col < 0 ∨ endL u line rs - beginL u line rs < col then .tuple #[.int .i64 0, errV 2]
  else if beginL u line rs + col < 0 ∨ by_ u rs < beginL u line rs + col then .tuple #[.int .i64 0, errV 2]
  else if by_ u (upTo rs u (beginL u line rs + col)) = beginL u line rs + col then .tuple #[.int .i64 (by_ u (upTo rs u (beginL u line rs + col))), .nilIface]
  else .tuple #[.int .i64 0, errV 10]
theorem wrap_in {a : Int} (h0 : -1000000000 ≤ a) (h1 : a ≤ 1000000000) : IntKind.i64.wrap a = a := by
  unfold IntKind.wrap; simp [IntKind.bits, IntKind.signed]; omega
theorem place_all (b : Nat) (rs : List Nat) (u line col : Int) (w : World) (hT : Lib.Utf8Tabs 2 3 w) (h : isRope w b rs) (hz : C1 rs ≤ 100000000) :
    Calls Tryz.prog 25 #[.pointer (some ⟨b, 0, none⟩), .int .i64 u, .agg #[.int .i64 line, .int .i64 col]] w fun e w' => e = .returned (placeE u line col rs) ∧ Below w.heap.size w w' := by
  unfold placeE
  have tT := fun (wx : World) (hb : Below w.heap.size w wx) => Go.Proofs.Utf8Tabs_below hT hb
  have tR := fun (wx : World) (hb : Below w.heap.size w wx) => isRope_below h hb
  by_cases hu : (u = 1 ∨ u = 2 ∨ u = 3)
  · rw [if_neg (not_not_intro hu)]
    have cU : Hid _ := fun (wx : World) (hb : Below w.heap.size w wx) => unitError_good b rs u hu wx (tT wx hb) (tR wx hb) hz
    have cL := fun (wx : World) (hb : Below w.heap.size w wx) => line_all b rs line wx (tT wx hb) (tR wx hb) hz
    unfold lineE at cL
    by_cases hl : line < 0 ∨ C4 rs < line
    · rw [if_pos hl]
      exact place_line b u line col 2 w cU fun wx hb => by have := cL wx hb; rw [if_pos hl] at this; exact this
    · rw [if_neg hl]
      have cL2 : Hid _ := fun (wx : World) (hb : Below w.heap.size w wx) => by have := cL wx hb; rw [if_neg hl] at this; exact this
      have cI : Hid _ := fun (wx : World) => In_any u (find (reachesLine line) [] rs) wx
      have s0 := find_small (reachesLine line) rs hz
      have s1 := by_le u (find (reachesLine line) [] rs)
      have s2 := by_pos u (find (reachesLine line) [] rs)
      have s3 := find_small (reachesLine (line + 1)) rs hz
      have s4 := by_le u (find (reachesLine (line + 1)) [] rs)
      have s5 := by_pos u (find (reachesLine (line + 1)) [] rs)
      have s6 := by_le u rs
      have s7 := by_pos u rs
      have cE : Hid (∀ wx, Below w.heap.size w wx → Calls Tryz.prog 53 #[.pointer (some ⟨b, 0, none⟩), .int .i64 u, .int .i64 line] wx fun e w' => e = .returned (.int .i64 (endL u line rs)) ∧ Below wx.heap.size wx w') := fun wx hb => by
        unfold endL
        by_cases he : C4 rs < line + 1
        · rw [if_pos he]
          exact lineEnd_last b rs u line (by omega) (by omega) he wx (tT wx hb) (tR wx hb) hz
        · rw [if_neg he]
          exact lineEnd_more b rs _ u line (by omega) (by omega) wx (tT wx hb) (tR wx hb) hz rfl (by omega)
      have eb : -1 ≤ endL u line rs ∧ endL u line rs ≤ 200000000 := by
        unfold endL
        split <;> omega
      have bb : 0 ≤ beginL u line rs ∧ beginL u line rs ≤ 200000000 := by
        unfold beginL; omega
      have hw := wrap_in (a := endL u line rs - beginL u line rs) (by omega) (by omega)
      by_cases hc : col < 0
      · rw [if_pos (Or.inl hc)]
        exact place_neg b _ u line col _ hc w cU cL2 cI
      · by_cases hf : endL u line rs - beginL u line rs < col
        · rw [if_pos (Or.inr hf)]
          exact place_far b _ u line col (beginL u line rs) _ (by omega) hw hf w cU cL2 cI cE
        · rw [if_neg (by omega)]
          have hw2 := wrap_in (a := beginL u line rs + col) (by omega) (by omega)
          have cA := fun (wx : World) (hb : Below w.heap.size w wx) => ahead_all b rs u (beginL u line rs + col) hu wx (tT wx hb) (tR wx hb) hz
          unfold aheadE at cA
          by_cases hr : beginL u line rs + col < 0 ∨ by_ u rs < beginL u line rs + col
          · rw [if_pos hr]
            exact place_rest b _ [] u line col (beginL u line rs) _ 0 (errV 2) (by omega) hw (by omega) hw2 w cU cL2 cI cE
              (fun wx hb => by have := cA wx hb; rw [if_pos hr] at this; exact this) (fun wx => by have := In_any u [] wx; rw [by_nil] at this; exact this)
          · rw [if_neg hr]
            by_cases hf2 : by_ u (find (reachesBy u (beginL u line rs + col)) [] rs) = beginL u line rs + col
            · have hf3 : by_ u (upTo rs u (beginL u line rs + col)) = beginL u line rs + col := hf2
              rw [if_pos hf3]
              exact place_rest b _ _ u line col (beginL u line rs) _ _ .nilIface (by omega) hw (by omega) hw2 w cU cL2 cI cE
                (fun wx hb => by have := cA wx hb; rw [if_neg hr, if_pos hf2] at this; exact this) (fun wx => In_any u _ wx)
            · have hf3 : ¬ by_ u (upTo rs u (beginL u line rs + col)) = beginL u line rs + col := hf2
              rw [if_neg hf3]
              exact place_rest b _ [] u line col (beginL u line rs) _ 0 (errV 10) (by omega) hw (by omega) hw2 w cU cL2 cI cE
                (fun wx hb => by have := cA wx hb; rw [if_neg hr, if_neg hf2] at this; exact this) (fun wx => by have := In_any u [] wx; rw [by_nil] at this; exact this)
  · rw [if_pos hu]
    exact place_unit b u line col 1 w fun wx hb => unitError_bad b u hu wx
end Go.Proofs.YtgmgkbbnciglhaaGreatDoor

namespace Go.Proofs.YtgmgkbbnciglhaaGreatDoor
open Go.RowKit
set_option linter.unusedVariables false
attribute [local go_sem] Oper.semAt_some yieldsUpon okUpon field0 field3

theorem extract_size (s : ByteArray) (n : Nat) (h : n ≤ s.size) : (s.extract n s.size).size = s.size - n := by
  rw [ByteArray.size_extract]; omega

set_option maxRecDepth 100000 in
set_option maxHeartbeats 4000000 in
theorem refPlace_unit (s : ByteArray) (u line col : Int) (hu : inB u 1 3 = false) (w : World) :
    Calls Tryz.prog 24 #[.string s, .int .i64 u, .agg #[.int .i64 line, .int .i64 col]] w fun e w' => e = .returned (.tuple #[.int .i64 0, .int .i64 1]) ∧ Below w.heap.size w w' := by
  have HB0 : Hid (Below w.heap.size w (w.alloc (.cells #[.int .i64 line, .int .i64 col] 54))) := (Below.refl _ w).alloc (Nat.le_refl _) _
  have cI := fun wx => in_any u 1 3 wx
  rw [hu] at cI
  clear hu
  go_enter Tryz.func24, Tryz.ntmps24
  go_wp2_with (first
    | (go_at_call 32; refine (cI _).mono ?_; rintro e w1 ⟨rfl, hw1⟩; obtain rfl := hw1.symm)
    | fail)
  go_ret2
  exact ⟨rfl, HB0.out⟩

set_option maxRecDepth 100000 in
set_option maxHeartbeats 4000000 in
theorem refPlace_line (s : ByteArray) (u line col E : Int) (hu : inB u 1 3 = true) (hE : E ≠ 0) (w : World)
    (cL : Hid (∀ wx, Calls Tryz.prog 17 #[.string s, .int .i64 line] wx fun e w' => e = .returned (.tuple #[cntV [], .int .i64 E]) ∧ Below wx.heap.size wx w')) :
    Calls Tryz.prog 24 #[.string s, .int .i64 u, .agg #[.int .i64 line, .int .i64 col]] w fun e w' => e = .returned (.tuple #[.int .i64 0, .int .i64 E]) ∧ Below w.heap.size w w' := by
  have hC : cntV [] = .agg #[.int .i64 0, .int .i64 0, .int .i64 0, .int .i64 0] := rfl
  rw [hC] at cL
  clear hC
  have HB0 : Hid (Below w.heap.size w (w.alloc (.cells #[.int .i64 line, .int .i64 col] 54))) := (Below.refl _ w).alloc (Nat.le_refl _) _
  have cI := fun wx => in_any u 1 3 wx
  rw [hu] at cI
  have hE2 : (E == 0) = false := beq_eq_false_iff_ne.2 hE
  clear hu
  go_enter Tryz.func24, Tryz.ntmps24
  go_wp2_with (first
    | (go_at_call 32; refine (cI _).mono ?_; rintro e w1 ⟨rfl, hw1⟩; obtain rfl := hw1.symm)
    | (go_at_call 17; refine (cL.out _).mono ?_; rintro e w2 ⟨rfl, hb2⟩; have HB2 : Hid (Below w.heap.size w w2) := HB0.out.trans (hb2.mono HB0.out.size); clear hb2)
    | fail)
  go_ret2
  exact ⟨rfl, HB2.out.alloc HB2.out.size _⟩

set_option maxRecDepth 100000 in
set_option maxHeartbeats 8000000 in
theorem refPlace_col_last (s : ByteArray) (Y L X : List Nat) (nY nL : Nat) (u line col bL bY bX E : Int) (hu : inB u 1 3 = true) (hY : C1 Y = nY) (hs : s.size < 1000000) (hy : nY ≤ s.size) (hl : nL ≤ s.size - nY) (w : World)
    (hE : True)
    (cL : Hid (∀ wx, Calls Tryz.prog 17 #[.string s, .int .i64 line] wx fun e w' => e = .returned (.tuple #[cntV Y, .int .i64 0]) ∧ Below wx.heap.size wx w'))
    (cX : Hid (∀ wx, Calls Tryz.prog 49 #[.string (s.extract nY s.size), .int .u8 10] wx fun e w' => e = .returned (.int .i64 (-1)) ∧ w' = wx))
    (cC : Hid (∀ wx, Calls Tryz.prog 6 #[.string (s.extract nY s.size)] wx fun e w' => e = .returned (.tuple #[cntV L, .agg #[.int .i64 0, .int .i64 (-1)]]) ∧ Below wx.heap.size wx w'))
    (cN : Hid (∀ wx, Calls Tryz.prog 20 #[cntV L, .int .i64 u] wx fun e w' => e = .returned (.int .i64 bL) ∧ Below wx.heap.size wx w'))
    (cB : Hid (∀ wx, Calls Tryz.prog 32 #[.int .i64 col, .int .i64 0, .int .i64 bL] wx fun e w' => e = .returned (.bool false) ∧ Below wx.heap.size wx w')) :
    Calls Tryz.prog 24 #[.string s, .int .i64 u, .agg #[.int .i64 line, .int .i64 col]] w fun e w' => e = .returned (.tuple #[.int .i64 0, .int .i64 2]) ∧ Below w.heap.size w w' := by
  unfold cntV at cL cC cN
  rw [hY] at cL
  clear hY
  have hsz := extract_size s nY hy
  have HB0 : Hid (Below w.heap.size w (w.alloc (.cells #[.int .i64 line, .int .i64 col] 54))) := (Below.refl _ w).alloc (Nat.le_refl _) _
  have HS0 : Hid (spotW (w.alloc (.cells #[.int .i64 line, .int .i64 col] 54)) w.heap.size line col) := spotW_new w _ _ _
  have cI := fun wx => in_any u 1 3 wx
  rw [hu] at cI
  clear hu
  go_enter Tryz.func24, Tryz.ntmps24
  go_wp2_with (first
    | (go_at_call 32; refine (cI _).mono ?_; rintro e w1 ⟨rfl, hw1⟩; obtain rfl := hw1.symm)
    | (go_at_call 17; refine (cL.out _).mono ?_; rintro e w1 ⟨rfl, hb1⟩; have HBa : Hid (Below w.heap.size w w1) := HB0.out.trans (hb1.mono HB0.out.size); have HB1 : Hid (Below w.heap.size w (w1.alloc (.cells #[.int .i64 nY, .int .i64 (C2 Y), .int .i64 (C3 Y), .int .i64 (C4 Y)] 29))) := HBa.out.alloc HBa.out.size _; have HS1 : Hid (spotW (w1.alloc (.cells #[.int .i64 nY, .int .i64 (C2 Y), .int .i64 (C3 Y), .int .i64 (C4 Y)] 29)) w.heap.size line col) := spotW_below (spotW_below HS0.out hb1) ((Below.refl _ _).alloc (Nat.le_refl _) _); have HY1 : Hid (counted (w1.alloc (.cells #[.int .i64 nY, .int .i64 (C2 Y), .int .i64 (C3 Y), .int .i64 (C4 Y)] 29)) w1.heap.size nY (C2 Y) (C3 Y) (C4 Y)) := counted_new w1 _ _ _ _ _; clear hb1)
    | (go_at_call 49; refine (cX.out _).mono ?_; rintro e wz ⟨rfl, hwz⟩; obtain rfl := hwz.symm)
    | (go_at_call 6; refine (cC.out _).mono ?_; rintro e w2 ⟨rfl, hb2⟩; have HB2 : Hid (Below w.heap.size w w2) := HB1.out.trans (hb2.mono HB1.out.size); have HS2 : Hid (spotW w2 w.heap.size line col) := spotW_below HS1.out hb2; have HY2 : Hid (counted w2 w1.heap.size nY (C2 Y) (C3 Y) (C4 Y)) := counted_below HY1.out hb2; clear hb2)
    | fail)
  have hg3 : Below w2.heap.size w2 ((w2.alloc (.cells #[.int .i64 (C1 L), .int .i64 (C2 L), .int .i64 (C3 L), .int .i64 (C4 L)] 29)).alloc (.cells #[.int .i64 0, .int .i64 (-1)] 32)) := ((Below.refl w2.heap.size w2).alloc (Nat.le_refl _) _).alloc (by simp) _
  have hb3 := HB2.out.trans (hg3.mono HB2.out.size)
  have hs3 := spotW_below HS2.out hg3
  have hy3 := counted_below HY2.out hg3
  have hl3 := counted_below (counted_new w2 (C1 L) (C2 L) (C3 L) (C4 L) 29) ((Below.refl _ _).alloc (Nat.le_refl _) (.cells #[.int .i64 0, .int .i64 (-1)] 32))
  generalize ((w2.alloc (.cells #[.int .i64 (C1 L), .int .i64 (C2 L), .int .i64 (C3 L), .int .i64 (C4 L)] 29)).alloc (.cells #[.int .i64 0, .int .i64 (-1)] 32)) = WW at *
  generalize w2.heap.size = BL at *
  generalize w1.heap.size = BY at *
  clear hg3 HB2 HS2 HY2 HB1 HS1 HY1 HBa HB0 HS0 cI cL cC cX
  refine wp_region_rel 7 7 (by kernel_rfl) rfl ?_
  intro w6 hb6
  obtain ⟨G, hG⟩ := exists_growth w6
  obtain ⟨⟨x0, x1⟩, _⟩ := spotW_below hs3 hb6
  obtain ⟨⟨z0, z1, z2, z3⟩, _⟩ := counted_below hl3 hb6
  have gx1 := hG.cell x1
  have gz0 := hG.cell z0
  have gz1 := hG.cell z1
  have gz2 := hG.cell z2
  have gz3 := hG.cell z3
  have cZ := fun x => cN.out (G x)
  have cV := fun x => cB.out (G x)
  clear x0 x1 z0 z1 z2 z3 cN cB
  (refine anyG_step hG (i := 0) rfl (by kernel_rfl) (by kernel_rfl) (by kernel_rfl) (fun K hK => ?_); go_simp; refine hK _ ?_; clear hK K)
  (refine anyG_step hG (i := 1) rfl (by kernel_rfl) (by kernel_rfl) (by kernel_rfl) (fun K hK => ?_); go_simp; refine hK _ ?_; clear hK K)
  (refine anyG_step hG (i := 2) rfl (by kernel_rfl) (by kernel_rfl) (by kernel_rfl) (fun K hK => ?_); go_simp; refine hK _ ?_; clear hK K)
  (refine anyG_step hG (i := 3) rfl (by kernel_rfl) (by kernel_rfl) (by kernel_rfl) (fun K hK => ?_); go_simp; refine hK _ ?_; clear hK K)
  (refine anyG_step hG (i := 4) rfl (by kernel_rfl) (by kernel_rfl) (by kernel_rfl) (fun K hK => ?_); go_simp; apply Exists.intro; refine ⟨fun _ => ?_, hK _ ?_⟩; exact cZ _; clear hK K)
  (refine anyG_step hG (i := 5) rfl (by kernel_rfl) (by kernel_rfl) (by kernel_rfl) (fun K hK => ?_); go_simp; apply Exists.intro; refine ⟨fun _ => ?_, hK _ ?_⟩; exact cV _; clear hK K)
  (refine anyG_step hG (i := 6) rfl (by kernel_rfl) (by kernel_rfl) (by kernel_rfl) (fun K hK => ?_); go_simp; refine hK _ ?_; clear hK K)
  clear gx1 gz0 gz1 gz2 gz3 cZ cV hG
  refine anyG_end (by kernel_rfl) ?_
  intro w7 hb7
  have hb67 := hb6.trans (hb7.mono hb6.size)
  have HB7 : Hid (Below w.heap.size w w7) := hb3.trans (hb67.mono hb3.size)
  have hs7 : spotW w7 w.heap.size line col := spotW_below hs3 hb67
  have HS7 : Hid (spotW w7 w.heap.size line col) := hs7
  have HY7 : Hid (counted w7 BY nY (C2 Y) (C3 Y) (C4 Y)) := counted_below hy3 hb67
  obtain ⟨⟨s0, s1⟩, _⟩ := hs7
  clear hb6 hb7 hb67 hs3 hy3 hl3
  go_wp2
  go_ret2
  exact ⟨rfl, HB7.out⟩

set_option maxRecDepth 100000 in
set_option maxHeartbeats 8000000 in
theorem refPlace_col_more (s : ByteArray) (Y L X : List Nat) (nY nL : Nat) (u line col bL bY bX E : Int) (hu : inB u 1 3 = true) (hY : C1 Y = nY) (hs : s.size < 1000000) (hy : nY ≤ s.size) (hl : nL ≤ s.size - nY) (w : World)
    (hE : True)
    (cL : Hid (∀ wx, Calls Tryz.prog 17 #[.string s, .int .i64 line] wx fun e w' => e = .returned (.tuple #[cntV Y, .int .i64 0]) ∧ Below wx.heap.size wx w'))
    (cX : Hid (∀ wx, Calls Tryz.prog 49 #[.string (s.extract nY s.size), .int .u8 10] wx fun e w' => e = .returned (.int .i64 ((nL : Nat) : Int)) ∧ w' = wx))
    (cC : Hid (∀ wx, Calls Tryz.prog 6 #[.string ((s.extract nY s.size).extract 0 nL)] wx fun e w' => e = .returned (.tuple #[cntV L, .agg #[.int .i64 0, .int .i64 (-1)]]) ∧ Below wx.heap.size wx w'))
    (cN : Hid (∀ wx, Calls Tryz.prog 20 #[cntV L, .int .i64 u] wx fun e w' => e = .returned (.int .i64 bL) ∧ Below wx.heap.size wx w'))
    (cB : Hid (∀ wx, Calls Tryz.prog 32 #[.int .i64 col, .int .i64 0, .int .i64 bL] wx fun e w' => e = .returned (.bool false) ∧ Below wx.heap.size wx w')) :
    Calls Tryz.prog 24 #[.string s, .int .i64 u, .agg #[.int .i64 line, .int .i64 col]] w fun e w' => e = .returned (.tuple #[.int .i64 0, .int .i64 2]) ∧ Below w.heap.size w w' := by
  unfold cntV at cL cC cN
  rw [hY] at cL
  clear hY
  have hsz := extract_size s nY hy
  have HB0 : Hid (Below w.heap.size w (w.alloc (.cells #[.int .i64 line, .int .i64 col] 54))) := (Below.refl _ w).alloc (Nat.le_refl _) _
  have HS0 : Hid (spotW (w.alloc (.cells #[.int .i64 line, .int .i64 col] 54)) w.heap.size line col) := spotW_new w _ _ _
  have cI := fun wx => in_any u 1 3 wx
  rw [hu] at cI
  clear hu
  go_enter Tryz.func24, Tryz.ntmps24
  go_wp2_with (first
    | (go_at_call 32; refine (cI _).mono ?_; rintro e w1 ⟨rfl, hw1⟩; obtain rfl := hw1.symm)
    | (go_at_call 17; refine (cL.out _).mono ?_; rintro e w1 ⟨rfl, hb1⟩; have HBa : Hid (Below w.heap.size w w1) := HB0.out.trans (hb1.mono HB0.out.size); have HB1 : Hid (Below w.heap.size w (w1.alloc (.cells #[.int .i64 nY, .int .i64 (C2 Y), .int .i64 (C3 Y), .int .i64 (C4 Y)] 29))) := HBa.out.alloc HBa.out.size _; have HS1 : Hid (spotW (w1.alloc (.cells #[.int .i64 nY, .int .i64 (C2 Y), .int .i64 (C3 Y), .int .i64 (C4 Y)] 29)) w.heap.size line col) := spotW_below (spotW_below HS0.out hb1) ((Below.refl _ _).alloc (Nat.le_refl _) _); have HY1 : Hid (counted (w1.alloc (.cells #[.int .i64 nY, .int .i64 (C2 Y), .int .i64 (C3 Y), .int .i64 (C4 Y)] 29)) w1.heap.size nY (C2 Y) (C3 Y) (C4 Y)) := counted_new w1 _ _ _ _ _; clear hb1)
    | (go_at_call 49; refine (cX.out _).mono ?_; rintro e wz ⟨rfl, hwz⟩; obtain rfl := hwz.symm)
    | (go_at_call 6; refine (cC.out _).mono ?_; rintro e w2 ⟨rfl, hb2⟩; have HB2 : Hid (Below w.heap.size w w2) := HB1.out.trans (hb2.mono HB1.out.size); have HS2 : Hid (spotW w2 w.heap.size line col) := spotW_below HS1.out hb2; have HY2 : Hid (counted w2 w1.heap.size nY (C2 Y) (C3 Y) (C4 Y)) := counted_below HY1.out hb2; clear hb2)
    | fail)
  have hg3 : Below w2.heap.size w2 ((w2.alloc (.cells #[.int .i64 (C1 L), .int .i64 (C2 L), .int .i64 (C3 L), .int .i64 (C4 L)] 29)).alloc (.cells #[.int .i64 0, .int .i64 (-1)] 32)) := ((Below.refl w2.heap.size w2).alloc (Nat.le_refl _) _).alloc (by simp) _
  have hb3 := HB2.out.trans (hg3.mono HB2.out.size)
  have hs3 := spotW_below HS2.out hg3
  have hy3 := counted_below HY2.out hg3
  have hl3 := counted_below (counted_new w2 (C1 L) (C2 L) (C3 L) (C4 L) 29) ((Below.refl _ _).alloc (Nat.le_refl _) (.cells #[.int .i64 0, .int .i64 (-1)] 32))
  generalize ((w2.alloc (.cells #[.int .i64 (C1 L), .int .i64 (C2 L), .int .i64 (C3 L), .int .i64 (C4 L)] 29)).alloc (.cells #[.int .i64 0, .int .i64 (-1)] 32)) = WW at *
  generalize w2.heap.size = BL at *
  generalize w1.heap.size = BY at *
  clear hg3 HB2 HS2 HY2 HB1 HS1 HY1 HBa HB0 HS0 cI cL cC cX
  refine wp_region_rel 7 7 (by kernel_rfl) rfl ?_
  intro w6 hb6
  obtain ⟨G, hG⟩ := exists_growth w6
  obtain ⟨⟨x0, x1⟩, _⟩ := spotW_below hs3 hb6
  obtain ⟨⟨z0, z1, z2, z3⟩, _⟩ := counted_below hl3 hb6
  have gx1 := hG.cell x1
  have gz0 := hG.cell z0
  have gz1 := hG.cell z1
  have gz2 := hG.cell z2
  have gz3 := hG.cell z3
  have cZ := fun x => cN.out (G x)
  have cV := fun x => cB.out (G x)
  clear x0 x1 z0 z1 z2 z3 cN cB
  (refine anyG_step hG (i := 0) rfl (by kernel_rfl) (by kernel_rfl) (by kernel_rfl) (fun K hK => ?_); go_simp; refine hK _ ?_; clear hK K)
  (refine anyG_step hG (i := 1) rfl (by kernel_rfl) (by kernel_rfl) (by kernel_rfl) (fun K hK => ?_); go_simp; refine hK _ ?_; clear hK K)
  (refine anyG_step hG (i := 2) rfl (by kernel_rfl) (by kernel_rfl) (by kernel_rfl) (fun K hK => ?_); go_simp; refine hK _ ?_; clear hK K)
  (refine anyG_step hG (i := 3) rfl (by kernel_rfl) (by kernel_rfl) (by kernel_rfl) (fun K hK => ?_); go_simp; refine hK _ ?_; clear hK K)
  (refine anyG_step hG (i := 4) rfl (by kernel_rfl) (by kernel_rfl) (by kernel_rfl) (fun K hK => ?_); go_simp; apply Exists.intro; refine ⟨fun _ => ?_, hK _ ?_⟩; exact cZ _; clear hK K)
  (refine anyG_step hG (i := 5) rfl (by kernel_rfl) (by kernel_rfl) (by kernel_rfl) (fun K hK => ?_); go_simp; apply Exists.intro; refine ⟨fun _ => ?_, hK _ ?_⟩; exact cV _; clear hK K)
  (refine anyG_step hG (i := 6) rfl (by kernel_rfl) (by kernel_rfl) (by kernel_rfl) (fun K hK => ?_); go_simp; refine hK _ ?_; clear hK K)
  clear gx1 gz0 gz1 gz2 gz3 cZ cV hG
  refine anyG_end (by kernel_rfl) ?_
  intro w7 hb7
  have hb67 := hb6.trans (hb7.mono hb6.size)
  have HB7 : Hid (Below w.heap.size w w7) := hb3.trans (hb67.mono hb3.size)
  have hs7 : spotW w7 w.heap.size line col := spotW_below hs3 hb67
  have HS7 : Hid (spotW w7 w.heap.size line col) := hs7
  have HY7 : Hid (counted w7 BY nY (C2 Y) (C3 Y) (C4 Y)) := counted_below hy3 hb67
  obtain ⟨⟨s0, s1⟩, _⟩ := hs7
  clear hb6 hb7 hb67 hs3 hy3 hl3
  go_wp2
  go_ret2
  exact ⟨rfl, HB7.out⟩

set_option maxRecDepth 100000 in
set_option maxHeartbeats 8000000 in
theorem refPlace_told_last (s : ByteArray) (Y L X : List Nat) (nY nL : Nat) (u line col bL bY bX E : Int) (hu : inB u 1 3 = true) (hY : C1 Y = nY) (hs : s.size < 1000000) (hy : nY ≤ s.size) (hl : nL ≤ s.size - nY) (w : World)
    (hE : E ≠ 0)
    (cL : Hid (∀ wx, Calls Tryz.prog 17 #[.string s, .int .i64 line] wx fun e w' => e = .returned (.tuple #[cntV Y, .int .i64 0]) ∧ Below wx.heap.size wx w'))
    (cX : Hid (∀ wx, Calls Tryz.prog 49 #[.string (s.extract nY s.size), .int .u8 10] wx fun e w' => e = .returned (.int .i64 (-1)) ∧ w' = wx))
    (cC : Hid (∀ wx, Calls Tryz.prog 6 #[.string (s.extract nY s.size)] wx fun e w' => e = .returned (.tuple #[cntV L, .agg #[.int .i64 0, .int .i64 (-1)]]) ∧ Below wx.heap.size wx w'))
    (cN : Hid (∀ wx, Calls Tryz.prog 20 #[cntV L, .int .i64 u] wx fun e w' => e = .returned (.int .i64 bL) ∧ Below wx.heap.size wx w'))
    (cB : Hid (∀ wx, Calls Tryz.prog 32 #[.int .i64 col, .int .i64 0, .int .i64 bL] wx fun e w' => e = .returned (.bool true) ∧ Below wx.heap.size wx w'))
    (cA : Hid (∀ wx, Calls Tryz.prog 15 #[.string (s.extract nY s.size), .int .i64 u, .int .i64 col] wx fun e w' => e = .returned (.tuple #[cntV [], .int .i64 E]) ∧ Below wx.heap.size wx w')) :
    Calls Tryz.prog 24 #[.string s, .int .i64 u, .agg #[.int .i64 line, .int .i64 col]] w fun e w' => e = .returned (.tuple #[.int .i64 0, .int .i64 E]) ∧ Below w.heap.size w w' := by
  have hC : cntV [] = .agg #[.int .i64 0, .int .i64 0, .int .i64 0, .int .i64 0] := rfl
  rw [hC] at cA
  clear hC
  have hE2 : (E == 0) = false := beq_eq_false_iff_ne.2 hE
  unfold cntV at cL cC cN
  rw [hY] at cL
  clear hY
  have hsz := extract_size s nY hy
  have HB0 : Hid (Below w.heap.size w (w.alloc (.cells #[.int .i64 line, .int .i64 col] 54))) := (Below.refl _ w).alloc (Nat.le_refl _) _
  have HS0 : Hid (spotW (w.alloc (.cells #[.int .i64 line, .int .i64 col] 54)) w.heap.size line col) := spotW_new w _ _ _
  have cI := fun wx => in_any u 1 3 wx
  rw [hu] at cI
  clear hu
  go_enter Tryz.func24, Tryz.ntmps24
  go_wp2_with (first
    | (go_at_call 32; refine (cI _).mono ?_; rintro e w1 ⟨rfl, hw1⟩; obtain rfl := hw1.symm)
    | (go_at_call 17; refine (cL.out _).mono ?_; rintro e w1 ⟨rfl, hb1⟩; have HBa : Hid (Below w.heap.size w w1) := HB0.out.trans (hb1.mono HB0.out.size); have HB1 : Hid (Below w.heap.size w (w1.alloc (.cells #[.int .i64 nY, .int .i64 (C2 Y), .int .i64 (C3 Y), .int .i64 (C4 Y)] 29))) := HBa.out.alloc HBa.out.size _; have HS1 : Hid (spotW (w1.alloc (.cells #[.int .i64 nY, .int .i64 (C2 Y), .int .i64 (C3 Y), .int .i64 (C4 Y)] 29)) w.heap.size line col) := spotW_below (spotW_below HS0.out hb1) ((Below.refl _ _).alloc (Nat.le_refl _) _); have HY1 : Hid (counted (w1.alloc (.cells #[.int .i64 nY, .int .i64 (C2 Y), .int .i64 (C3 Y), .int .i64 (C4 Y)] 29)) w1.heap.size nY (C2 Y) (C3 Y) (C4 Y)) := counted_new w1 _ _ _ _ _; clear hb1)
    | (go_at_call 49; refine (cX.out _).mono ?_; rintro e wz ⟨rfl, hwz⟩; obtain rfl := hwz.symm)
    | (go_at_call 6; refine (cC.out _).mono ?_; rintro e w2 ⟨rfl, hb2⟩; have HB2 : Hid (Below w.heap.size w w2) := HB1.out.trans (hb2.mono HB1.out.size); have HS2 : Hid (spotW w2 w.heap.size line col) := spotW_below HS1.out hb2; have HY2 : Hid (counted w2 w1.heap.size nY (C2 Y) (C3 Y) (C4 Y)) := counted_below HY1.out hb2; clear hb2)
    | fail)
  have hg3 : Below w2.heap.size w2 ((w2.alloc (.cells #[.int .i64 (C1 L), .int .i64 (C2 L), .int .i64 (C3 L), .int .i64 (C4 L)] 29)).alloc (.cells #[.int .i64 0, .int .i64 (-1)] 32)) := ((Below.refl w2.heap.size w2).alloc (Nat.le_refl _) _).alloc (by simp) _
  have hb3 := HB2.out.trans (hg3.mono HB2.out.size)
  have hs3 := spotW_below HS2.out hg3
  have hy3 := counted_below HY2.out hg3
  have hl3 := counted_below (counted_new w2 (C1 L) (C2 L) (C3 L) (C4 L) 29) ((Below.refl _ _).alloc (Nat.le_refl _) (.cells #[.int .i64 0, .int .i64 (-1)] 32))
  generalize ((w2.alloc (.cells #[.int .i64 (C1 L), .int .i64 (C2 L), .int .i64 (C3 L), .int .i64 (C4 L)] 29)).alloc (.cells #[.int .i64 0, .int .i64 (-1)] 32)) = WW at *
  generalize w2.heap.size = BL at *
  generalize w1.heap.size = BY at *
  clear hg3 HB2 HS2 HY2 HB1 HS1 HY1 HBa HB0 HS0 cI cL cC cX
  refine wp_region_rel 7 7 (by kernel_rfl) rfl ?_
  intro w6 hb6
  obtain ⟨G, hG⟩ := exists_growth w6
  obtain ⟨⟨x0, x1⟩, _⟩ := spotW_below hs3 hb6
  obtain ⟨⟨z0, z1, z2, z3⟩, _⟩ := counted_below hl3 hb6
  have gx1 := hG.cell x1
  have gz0 := hG.cell z0
  have gz1 := hG.cell z1
  have gz2 := hG.cell z2
  have gz3 := hG.cell z3
  have cZ := fun x => cN.out (G x)
  have cV := fun x => cB.out (G x)
  clear x0 x1 z0 z1 z2 z3 cN cB
  (refine anyG_step hG (i := 0) rfl (by kernel_rfl) (by kernel_rfl) (by kernel_rfl) (fun K hK => ?_); go_simp; refine hK _ ?_; clear hK K)
  (refine anyG_step hG (i := 1) rfl (by kernel_rfl) (by kernel_rfl) (by kernel_rfl) (fun K hK => ?_); go_simp; refine hK _ ?_; clear hK K)
  (refine anyG_step hG (i := 2) rfl (by kernel_rfl) (by kernel_rfl) (by kernel_rfl) (fun K hK => ?_); go_simp; refine hK _ ?_; clear hK K)
  (refine anyG_step hG (i := 3) rfl (by kernel_rfl) (by kernel_rfl) (by kernel_rfl) (fun K hK => ?_); go_simp; refine hK _ ?_; clear hK K)
  (refine anyG_step hG (i := 4) rfl (by kernel_rfl) (by kernel_rfl) (by kernel_rfl) (fun K hK => ?_); go_simp; apply Exists.intro; refine ⟨fun _ => ?_, hK _ ?_⟩; exact cZ _; clear hK K)
  (refine anyG_step hG (i := 5) rfl (by kernel_rfl) (by kernel_rfl) (by kernel_rfl) (fun K hK => ?_); go_simp; apply Exists.intro; refine ⟨fun _ => ?_, hK _ ?_⟩; exact cV _; clear hK K)
  (refine anyG_step hG (i := 6) rfl (by kernel_rfl) (by kernel_rfl) (by kernel_rfl) (fun K hK => ?_); go_simp; refine hK _ ?_; clear hK K)
  clear gx1 gz0 gz1 gz2 gz3 cZ cV hG
  refine anyG_end (by kernel_rfl) ?_
  intro w7 hb7
  have hb67 := hb6.trans (hb7.mono hb6.size)
  have HB7 : Hid (Below w.heap.size w w7) := hb3.trans (hb67.mono hb3.size)
  have hs7 : spotW w7 w.heap.size line col := spotW_below hs3 hb67
  have HS7 : Hid (spotW w7 w.heap.size line col) := hs7
  have HY7 : Hid (counted w7 BY nY (C2 Y) (C3 Y) (C4 Y)) := counted_below hy3 hb67
  obtain ⟨⟨s0, s1⟩, _⟩ := hs7
  clear hb6 hb7 hb67 hs3 hy3 hl3
  go_wp2_with (first
    | (go_at_call 15; refine (cA.out _).mono ?_; rintro e w10 ⟨rfl, hb10⟩; have HB10 : Hid (Below w.heap.size w w10) := HB7.out.trans (hb10.mono HB7.out.size); clear hb10)
    | fail)
  go_ret2
  exact ⟨rfl, HB10.out.alloc HB10.out.size _⟩

set_option maxRecDepth 100000 in
set_option maxHeartbeats 8000000 in
theorem refPlace_told_more (s : ByteArray) (Y L X : List Nat) (nY nL : Nat) (u line col bL bY bX E : Int) (hu : inB u 1 3 = true) (hY : C1 Y = nY) (hs : s.size < 1000000) (hy : nY ≤ s.size) (hl : nL ≤ s.size - nY) (w : World)
    (hE : E ≠ 0)
    (cL : Hid (∀ wx, Calls Tryz.prog 17 #[.string s, .int .i64 line] wx fun e w' => e = .returned (.tuple #[cntV Y, .int .i64 0]) ∧ Below wx.heap.size wx w'))
    (cX : Hid (∀ wx, Calls Tryz.prog 49 #[.string (s.extract nY s.size), .int .u8 10] wx fun e w' => e = .returned (.int .i64 ((nL : Nat) : Int)) ∧ w' = wx))
    (cC : Hid (∀ wx, Calls Tryz.prog 6 #[.string ((s.extract nY s.size).extract 0 nL)] wx fun e w' => e = .returned (.tuple #[cntV L, .agg #[.int .i64 0, .int .i64 (-1)]]) ∧ Below wx.heap.size wx w'))
    (cN : Hid (∀ wx, Calls Tryz.prog 20 #[cntV L, .int .i64 u] wx fun e w' => e = .returned (.int .i64 bL) ∧ Below wx.heap.size wx w'))
    (cB : Hid (∀ wx, Calls Tryz.prog 32 #[.int .i64 col, .int .i64 0, .int .i64 bL] wx fun e w' => e = .returned (.bool true) ∧ Below wx.heap.size wx w'))
    (cA : Hid (∀ wx, Calls Tryz.prog 15 #[.string ((s.extract nY s.size).extract 0 nL), .int .i64 u, .int .i64 col] wx fun e w' => e = .returned (.tuple #[cntV [], .int .i64 E]) ∧ Below wx.heap.size wx w')) :
    Calls Tryz.prog 24 #[.string s, .int .i64 u, .agg #[.int .i64 line, .int .i64 col]] w fun e w' => e = .returned (.tuple #[.int .i64 0, .int .i64 E]) ∧ Below w.heap.size w w' := by
  have hC : cntV [] = .agg #[.int .i64 0, .int .i64 0, .int .i64 0, .int .i64 0] := rfl
  rw [hC] at cA
  clear hC
  have hE2 : (E == 0) = false := beq_eq_false_iff_ne.2 hE
  unfold cntV at cL cC cN
  rw [hY] at cL
  clear hY
  have hsz := extract_size s nY hy
  have HB0 : Hid (Below w.heap.size w (w.alloc (.cells #[.int .i64 line, .int .i64 col] 54))) := (Below.refl _ w).alloc (Nat.le_refl _) _
  have HS0 : Hid (spotW (w.alloc (.cells #[.int .i64 line, .int .i64 col] 54)) w.heap.size line col) := spotW_new w _ _ _
  have cI := fun wx => in_any u 1 3 wx
  rw [hu] at cI
  clear hu
  go_enter Tryz.func24, Tryz.ntmps24
  go_wp2_with (first
    | (go_at_call 32; refine (cI _).mono ?_; rintro e w1 ⟨rfl, hw1⟩; obtain rfl := hw1.symm)
    | (go_at_call 17; refine (cL.out _).mono ?_; rintro e w1 ⟨rfl, hb1⟩; have HBa : Hid (Below w.heap.size w w1) := HB0.out.trans (hb1.mono HB0.out.size); have HB1 : Hid (Below w.heap.size w (w1.alloc (.cells #[.int .i64 nY, .int .i64 (C2 Y), .int .i64 (C3 Y), .int .i64 (C4 Y)] 29))) := HBa.out.alloc HBa.out.size _; have HS1 : Hid (spotW (w1.alloc (.cells #[.int .i64 nY, .int .i64 (C2 Y), .int .i64 (C3 Y), .int .i64 (C4 Y)] 29)) w.heap.size line col) := spotW_below (spotW_below HS0.out hb1) ((Below.refl _ _).alloc (Nat.le_refl _) _); have HY1 : Hid (counted (w1.alloc (.cells #[.int .i64 nY, .int .i64 (C2 Y), .int .i64 (C3 Y), .int .i64 (C4 Y)] 29)) w1.heap.size nY (C2 Y) (C3 Y) (C4 Y)) := counted_new w1 _ _ _ _ _; clear hb1)
    | (go_at_call 49; refine (cX.out _).mono ?_; rintro e wz ⟨rfl, hwz⟩; obtain rfl := hwz.symm)
    | (go_at_call 6; refine (cC.out _).mono ?_; rintro e w2 ⟨rfl, hb2⟩; have HB2 : Hid (Below w.heap.size w w2) := HB1.out.trans (hb2.mono HB1.out.size); have HS2 : Hid (spotW w2 w.heap.size line col) := spotW_below HS1.out hb2; have HY2 : Hid (counted w2 w1.heap.size nY (C2 Y) (C3 Y) (C4 Y)) := counted_below HY1.out hb2; clear hb2)
    | fail)
  have hg3 : Below w2.heap.size w2 ((w2.alloc (.cells #[.int .i64 (C1 L), .int .i64 (C2 L), .int .i64 (C3 L), .int .i64 (C4 L)] 29)).alloc (.cells #[.int .i64 0, .int .i64 (-1)] 32)) := ((Below.refl w2.heap.size w2).alloc (Nat.le_refl _) _).alloc (by simp) _
  have hb3 := HB2.out.trans (hg3.mono HB2.out.size)
  have hs3 := spotW_below HS2.out hg3
  have hy3 := counted_below HY2.out hg3
  have hl3 := counted_below (counted_new w2 (C1 L) (C2 L) (C3 L) (C4 L) 29) ((Below.refl _ _).alloc (Nat.le_refl _) (.cells #[.int .i64 0, .int .i64 (-1)] 32))
  generalize ((w2.alloc (.cells #[.int .i64 (C1 L), .int .i64 (C2 L), .int .i64 (C3 L), .int .i64 (C4 L)] 29)).alloc (.cells #[.int .i64 0, .int .i64 (-1)] 32)) = WW at *
  generalize w2.heap.size = BL at *
  generalize w1.heap.size = BY at *
  clear hg3 HB2 HS2 HY2 HB1 HS1 HY1 HBa HB0 HS0 cI cL cC cX
  refine wp_region_rel 7 7 (by kernel_rfl) rfl ?_
  intro w6 hb6
  obtain ⟨G, hG⟩ := exists_growth w6
  obtain ⟨⟨x0, x1⟩, _⟩ := spotW_below hs3 hb6
  obtain ⟨⟨z0, z1, z2, z3⟩, _⟩ := counted_below hl3 hb6
  have gx1 := hG.cell x1
  have gz0 := hG.cell z0
  have gz1 := hG.cell z1
  have gz2 := hG.cell z2
  have gz3 := hG.cell z3
  have cZ := fun x => cN.out (G x)
  have cV := fun x => cB.out (G x)
  clear x0 x1 z0 z1 z2 z3 cN cB
  (refine anyG_step hG (i := 0) rfl (by kernel_rfl) (by kernel_rfl) (by kernel_rfl) (fun K hK => ?_); go_simp; refine hK _ ?_; clear hK K)
  (refine anyG_step hG (i := 1) rfl (by kernel_rfl) (by kernel_rfl) (by kernel_rfl) (fun K hK => ?_); go_simp; refine hK _ ?_; clear hK K)
  (refine anyG_step hG (i := 2) rfl (by kernel_rfl) (by kernel_rfl) (by kernel_rfl) (fun K hK => ?_); go_simp; refine hK _ ?_; clear hK K)
  (refine anyG_step hG (i := 3) rfl (by kernel_rfl) (by kernel_rfl) (by kernel_rfl) (fun K hK => ?_); go_simp; refine hK _ ?_; clear hK K)
  (refine anyG_step hG (i := 4) rfl (by kernel_rfl) (by kernel_rfl) (by kernel_rfl) (fun K hK => ?_); go_simp; apply Exists.intro; refine ⟨fun _ => ?_, hK _ ?_⟩; exact cZ _; clear hK K)
  (refine anyG_step hG (i := 5) rfl (by kernel_rfl) (by kernel_rfl) (by kernel_rfl) (fun K hK => ?_); go_simp; apply Exists.intro; refine ⟨fun _ => ?_, hK _ ?_⟩; exact cV _; clear hK K)
  (refine anyG_step hG (i := 6) rfl (by kernel_rfl) (by kernel_rfl) (by kernel_rfl) (fun K hK => ?_); go_simp; refine hK _ ?_; clear hK K)
  clear gx1 gz0 gz1 gz2 gz3 cZ cV hG
  refine anyG_end (by kernel_rfl) ?_
  intro w7 hb7
  have hb67 := hb6.trans (hb7.mono hb6.size)
  have HB7 : Hid (Below w.heap.size w w7) := hb3.trans (hb67.mono hb3.size)
  have hs7 : spotW w7 w.heap.size line col := spotW_below hs3 hb67
  have HS7 : Hid (spotW w7 w.heap.size line col) := hs7
  have HY7 : Hid (counted w7 BY nY (C2 Y) (C3 Y) (C4 Y)) := counted_below hy3 hb67
  obtain ⟨⟨s0, s1⟩, _⟩ := hs7
  clear hb6 hb7 hb67 hs3 hy3 hl3
  go_wp2_with (first
    | (go_at_call 15; refine (cA.out _).mono ?_; rintro e w10 ⟨rfl, hb10⟩; have HB10 : Hid (Below w.heap.size w w10) := HB7.out.trans (hb10.mono HB7.out.size); clear hb10)
    | fail)
  go_ret2
  exact ⟨rfl, HB10.out.alloc HB10.out.size _⟩

set_option maxRecDepth 100000 in
set_option maxHeartbeats 8000000 in
theorem refPlace_good_last (s : ByteArray) (Y L X : List Nat) (nY nL : Nat) (u line col bL bY bX E : Int) (hu : inB u 1 3 = true) (hY : C1 Y = nY) (hs : s.size < 1000000) (hy : nY ≤ s.size) (hl : nL ≤ s.size - nY) (w : World)
    (hE : 0 ≤ bY ∧ 0 ≤ bX ∧ bY + bX < 1000000000)
    (cL : Hid (∀ wx, Calls Tryz.prog 17 #[.string s, .int .i64 line] wx fun e w' => e = .returned (.tuple #[cntV Y, .int .i64 0]) ∧ Below wx.heap.size wx w'))
    (cX : Hid (∀ wx, Calls Tryz.prog 49 #[.string (s.extract nY s.size), .int .u8 10] wx fun e w' => e = .returned (.int .i64 (-1)) ∧ w' = wx))
    (cC : Hid (∀ wx, Calls Tryz.prog 6 #[.string (s.extract nY s.size)] wx fun e w' => e = .returned (.tuple #[cntV L, .agg #[.int .i64 0, .int .i64 (-1)]]) ∧ Below wx.heap.size wx w'))
    (cN : Hid (∀ wx, Calls Tryz.prog 20 #[cntV L, .int .i64 u] wx fun e w' => e = .returned (.int .i64 bL) ∧ Below wx.heap.size wx w'))
    (cB : Hid (∀ wx, Calls Tryz.prog 32 #[.int .i64 col, .int .i64 0, .int .i64 bL] wx fun e w' => e = .returned (.bool true) ∧ Below wx.heap.size wx w'))
    (cA : Hid (∀ wx, Calls Tryz.prog 15 #[.string (s.extract nY s.size), .int .i64 u, .int .i64 col] wx fun e w' => e = .returned (.tuple #[cntV X, .int .i64 0]) ∧ Below wx.heap.size wx w'))
    (cN1 : Hid (∀ wx, Calls Tryz.prog 20 #[cntV Y, .int .i64 u] wx fun e w' => e = .returned (.int .i64 bY) ∧ Below wx.heap.size wx w'))
    (cN2 : Hid (∀ wx, Calls Tryz.prog 20 #[cntV X, .int .i64 u] wx fun e w' => e = .returned (.int .i64 bX) ∧ Below wx.heap.size wx w')) :
    Calls Tryz.prog 24 #[.string s, .int .i64 u, .agg #[.int .i64 line, .int .i64 col]] w fun e w' => e = .returned (.tuple #[.int .i64 (bY + bX), .int .i64 0]) ∧ Below w.heap.size w w' := by
  unfold cntV at cL cC cN cA cN1 cN2
  rw [hY] at cL cN1
  clear hY
  have hsz := extract_size s nY hy
  have HB0 : Hid (Below w.heap.size w (w.alloc (.cells #[.int .i64 line, .int .i64 col] 54))) := (Below.refl _ w).alloc (Nat.le_refl _) _
  have HS0 : Hid (spotW (w.alloc (.cells #[.int .i64 line, .int .i64 col] 54)) w.heap.size line col) := spotW_new w _ _ _
  have cI := fun wx => in_any u 1 3 wx
  rw [hu] at cI
  clear hu
  go_enter Tryz.func24, Tryz.ntmps24
  go_wp2_with (first
    | (go_at_call 32; refine (cI _).mono ?_; rintro e w1 ⟨rfl, hw1⟩; obtain rfl := hw1.symm)
    | (go_at_call 17; refine (cL.out _).mono ?_; rintro e w1 ⟨rfl, hb1⟩; have HBa : Hid (Below w.heap.size w w1) := HB0.out.trans (hb1.mono HB0.out.size); have HB1 : Hid (Below w.heap.size w (w1.alloc (.cells #[.int .i64 nY, .int .i64 (C2 Y), .int .i64 (C3 Y), .int .i64 (C4 Y)] 29))) := HBa.out.alloc HBa.out.size _; have HS1 : Hid (spotW (w1.alloc (.cells #[.int .i64 nY, .int .i64 (C2 Y), .int .i64 (C3 Y), .int .i64 (C4 Y)] 29)) w.heap.size line col) := spotW_below (spotW_below HS0.out hb1) ((Below.refl _ _).alloc (Nat.le_refl _) _); have HY1 : Hid (counted (w1.alloc (.cells #[.int .i64 nY, .int .i64 (C2 Y), .int .i64 (C3 Y), .int .i64 (C4 Y)] 29)) w1.heap.size nY (C2 Y) (C3 Y) (C4 Y)) := counted_new w1 _ _ _ _ _; clear hb1)
    | (go_at_call 49; refine (cX.out _).mono ?_; rintro e wz ⟨rfl, hwz⟩; obtain rfl := hwz.symm)
    | (go_at_call 6; refine (cC.out _).mono ?_; rintro e w2 ⟨rfl, hb2⟩; have HB2 : Hid (Below w.heap.size w w2) := HB1.out.trans (hb2.mono HB1.out.size); have HS2 : Hid (spotW w2 w.heap.size line col) := spotW_below HS1.out hb2; have HY2 : Hid (counted w2 w1.heap.size nY (C2 Y) (C3 Y) (C4 Y)) := counted_below HY1.out hb2; clear hb2)
    | fail)
  have hg3 : Below w2.heap.size w2 ((w2.alloc (.cells #[.int .i64 (C1 L), .int .i64 (C2 L), .int .i64 (C3 L), .int .i64 (C4 L)] 29)).alloc (.cells #[.int .i64 0, .int .i64 (-1)] 32)) := ((Below.refl w2.heap.size w2).alloc (Nat.le_refl _) _).alloc (by simp) _
  have hb3 := HB2.out.trans (hg3.mono HB2.out.size)
  have hs3 := spotW_below HS2.out hg3
  have hy3 := counted_below HY2.out hg3
  have hl3 := counted_below (counted_new w2 (C1 L) (C2 L) (C3 L) (C4 L) 29) ((Below.refl _ _).alloc (Nat.le_refl _) (.cells #[.int .i64 0, .int .i64 (-1)] 32))
  generalize ((w2.alloc (.cells #[.int .i64 (C1 L), .int .i64 (C2 L), .int .i64 (C3 L), .int .i64 (C4 L)] 29)).alloc (.cells #[.int .i64 0, .int .i64 (-1)] 32)) = WW at *
  generalize w2.heap.size = BL at *
  generalize w1.heap.size = BY at *
  clear hg3 HB2 HS2 HY2 HB1 HS1 HY1 HBa HB0 HS0 cI cL cC cX
  refine wp_region_rel 7 7 (by kernel_rfl) rfl ?_
  intro w6 hb6
  obtain ⟨G, hG⟩ := exists_growth w6
  obtain ⟨⟨x0, x1⟩, _⟩ := spotW_below hs3 hb6
  obtain ⟨⟨z0, z1, z2, z3⟩, _⟩ := counted_below hl3 hb6
  have gx1 := hG.cell x1
  have gz0 := hG.cell z0
  have gz1 := hG.cell z1
  have gz2 := hG.cell z2
  have gz3 := hG.cell z3
  have cZ := fun x => cN.out (G x)
  have cV := fun x => cB.out (G x)
  clear x0 x1 z0 z1 z2 z3 cN cB
  (refine anyG_step hG (i := 0) rfl (by kernel_rfl) (by kernel_rfl) (by kernel_rfl) (fun K hK => ?_); go_simp; refine hK _ ?_; clear hK K)
  (refine anyG_step hG (i := 1) rfl (by kernel_rfl) (by kernel_rfl) (by kernel_rfl) (fun K hK => ?_); go_simp; refine hK _ ?_; clear hK K)
  (refine anyG_step hG (i := 2) rfl (by kernel_rfl) (by kernel_rfl) (by kernel_rfl) (fun K hK => ?_); go_simp; refine hK _ ?_; clear hK K)
  (refine anyG_step hG (i := 3) rfl (by kernel_rfl) (by kernel_rfl) (by kernel_rfl) (fun K hK => ?_); go_simp; refine hK _ ?_; clear hK K)
  (refine anyG_step hG (i := 4) rfl (by kernel_rfl) (by kernel_rfl) (by kernel_rfl) (fun K hK => ?_); go_simp; apply Exists.intro; refine ⟨fun _ => ?_, hK _ ?_⟩; exact cZ _; clear hK K)
  (refine anyG_step hG (i := 5) rfl (by kernel_rfl) (by kernel_rfl) (by kernel_rfl) (fun K hK => ?_); go_simp; apply Exists.intro; refine ⟨fun _ => ?_, hK _ ?_⟩; exact cV _; clear hK K)
  (refine anyG_step hG (i := 6) rfl (by kernel_rfl) (by kernel_rfl) (by kernel_rfl) (fun K hK => ?_); go_simp; refine hK _ ?_; clear hK K)
  clear gx1 gz0 gz1 gz2 gz3 cZ cV hG
  refine anyG_end (by kernel_rfl) ?_
  intro w7 hb7
  have hb67 := hb6.trans (hb7.mono hb6.size)
  have HB7 : Hid (Below w.heap.size w w7) := hb3.trans (hb67.mono hb3.size)
  have hs7 : spotW w7 w.heap.size line col := spotW_below hs3 hb67
  have HS7 : Hid (spotW w7 w.heap.size line col) := hs7
  have HY7 : Hid (counted w7 BY nY (C2 Y) (C3 Y) (C4 Y)) := counted_below hy3 hb67
  obtain ⟨⟨s0, s1⟩, _⟩ := hs7
  clear hb6 hb7 hb67 hs3 hy3 hl3
  have hw : IntKind.i64.wrap (bY + bX) = bY + bX := wrap_in (by omega) (by omega)
  clear hE
  go_wp2_with (first
    | (go_at_call 15; refine (cA.out _).mono ?_; rintro e w10 ⟨rfl, hb10⟩; have HB10 : Hid (Below w.heap.size w w10) := HB7.out.trans (hb10.mono HB7.out.size); have HY10 : Hid (counted w10 BY nY (C2 Y) (C3 Y) (C4 Y)) := counted_below HY7.out hb10; clear hb10)
    | fail)
  have hb11 := HB10.out.alloc HB10.out.size (.cells #[.int .i64 (C1 X), .int .i64 (C2 X), .int .i64 (C3 X), .int .i64 (C4 X)] 29)
  have hy11 := counted_below HY10.out ((Below.refl w10.heap.size w10).alloc (Nat.le_refl _) (.cells #[.int .i64 (C1 X), .int .i64 (C2 X), .int .i64 (C3 X), .int .i64 (C4 X)] 29))
  have hx11 := counted_new w10 (C1 X) (C2 X) (C3 X) (C4 X) 29
  generalize (w10.alloc (.cells #[.int .i64 (C1 X), .int .i64 (C2 X), .int .i64 (C3 X), .int .i64 (C4 X)] 29)) = WX at *
  generalize w10.heap.size = BX at *
  clear HB10 HY10 HB7 HS7 HY7 cA s0 s1
  refine wp_region_rel 9 9 (by kernel_rfl) rfl ?_
  intro w6 hb6
  obtain ⟨G, hG⟩ := exists_growth w6
  obtain ⟨⟨x0, x1, x2, x3⟩, _⟩ := counted_below hy11 hb6
  obtain ⟨⟨z0, z1, z2, z3⟩, _⟩ := counted_below hx11 hb6
  have gx0 := hG.cell x0
  have gx1 := hG.cell x1
  have gx2 := hG.cell x2
  have gx3 := hG.cell x3
  have gz0 := hG.cell z0
  have gz1 := hG.cell z1
  have gz2 := hG.cell z2
  have gz3 := hG.cell z3
  have cZ := fun x => cN1.out (G x)
  have cV := fun x => cN2.out (G x)
  clear x0 x1 x2 x3 z0 z1 z2 z3 cN1 cN2
  (refine anyG_step hG (i := 0) rfl (by kernel_rfl) (by kernel_rfl) (by kernel_rfl) (fun K hK => ?_); go_simp; refine hK _ ?_; clear hK K)
  (refine anyG_step hG (i := 1) rfl (by kernel_rfl) (by kernel_rfl) (by kernel_rfl) (fun K hK => ?_); go_simp; refine hK _ ?_; clear hK K)
  (refine anyG_step hG (i := 2) rfl (by kernel_rfl) (by kernel_rfl) (by kernel_rfl) (fun K hK => ?_); go_simp; apply Exists.intro; refine ⟨fun _ => ?_, hK _ ?_⟩; exact cZ _; clear hK K)
  (refine anyG_step hG (i := 3) rfl (by kernel_rfl) (by kernel_rfl) (by kernel_rfl) (fun K hK => ?_); go_simp; refine hK _ ?_; clear hK K)
  (refine anyG_step hG (i := 4) rfl (by kernel_rfl) (by kernel_rfl) (by kernel_rfl) (fun K hK => ?_); go_simp; refine hK _ ?_; clear hK K)
  (refine anyG_step hG (i := 5) rfl (by kernel_rfl) (by kernel_rfl) (by kernel_rfl) (fun K hK => ?_); go_simp; apply Exists.intro; refine ⟨fun _ => ?_, hK _ ?_⟩; exact cV _; clear hK K)
  (refine anyG_step hG (i := 6) rfl (by kernel_rfl) (by kernel_rfl) (by kernel_rfl) (fun K hK => ?_); go_simp; refine hK _ ?_; clear hK K)
  (refine anyG_step hG (i := 7) rfl (by kernel_rfl) (by kernel_rfl) (by kernel_rfl) (fun K hK => ?_); go_simp; refine hK _ ?_; clear hK K)
  (refine anyG_step hG (i := 8) rfl (by kernel_rfl) (by kernel_rfl) (by kernel_rfl) (fun K hK => ?_); go_simp; refine hK _ ?_; clear hK K)
  clear gx0 gx1 gx2 gx3 gz0 gz1 gz2 gz3 cZ cV hG
  refine anyG_end (by kernel_rfl) ?_
  intro w12 hb12
  have hb612 := hb6.trans (hb12.mono hb6.size)
  have HB12 : Hid (Below w.heap.size w w12) := hb11.trans (hb612.mono hb11.size)
  clear hb6 hb12 hb612 hb11 hy11 hx11
  go_wp2
  go_ret2
  exact ⟨rfl, HB12.out⟩

set_option maxRecDepth 100000 in
set_option maxHeartbeats 8000000 in
theorem refPlace_good_more (s : ByteArray) (Y L X : List Nat) (nY nL : Nat) (u line col bL bY bX E : Int) (hu : inB u 1 3 = true) (hY : C1 Y = nY) (hs : s.size < 1000000) (hy : nY ≤ s.size) (hl : nL ≤ s.size - nY) (w : World)
    (hE : 0 ≤ bY ∧ 0 ≤ bX ∧ bY + bX < 1000000000)
    (cL : Hid (∀ wx, Calls Tryz.prog 17 #[.string s, .int .i64 line] wx fun e w' => e = .returned (.tuple #[cntV Y, .int .i64 0]) ∧ Below wx.heap.size wx w'))
    (cX : Hid (∀ wx, Calls Tryz.prog 49 #[.string (s.extract nY s.size), .int .u8 10] wx fun e w' => e = .returned (.int .i64 ((nL : Nat) : Int)) ∧ w' = wx))
    (cC : Hid (∀ wx, Calls Tryz.prog 6 #[.string ((s.extract nY s.size).extract 0 nL)] wx fun e w' => e = .returned (.tuple #[cntV L, .agg #[.int .i64 0, .int .i64 (-1)]]) ∧ Below wx.heap.size wx w'))
    (cN : Hid (∀ wx, Calls Tryz.prog 20 #[cntV L, .int .i64 u] wx fun e w' => e = .returned (.int .i64 bL) ∧ Below wx.heap.size wx w'))
    (cB : Hid (∀ wx, Calls Tryz.prog 32 #[.int .i64 col, .int .i64 0, .int .i64 bL] wx fun e w' => e = .returned (.bool true) ∧ Below wx.heap.size wx w'))
    (cA : Hid (∀ wx, Calls Tryz.prog 15 #[.string ((s.extract nY s.size).extract 0 nL), .int .i64 u, .int .i64 col] wx fun e w' => e = .returned (.tuple #[cntV X, .int .i64 0]) ∧ Below wx.heap.size wx w'))
    (cN1 : Hid (∀ wx, Calls Tryz.prog 20 #[cntV Y, .int .i64 u] wx fun e w' => e = .returned (.int .i64 bY) ∧ Below wx.heap.size wx w'))
    (cN2 : Hid (∀ wx, Calls Tryz.prog 20 #[cntV X, .int .i64 u] wx fun e w' => e = .returned (.int .i64 bX) ∧ Below wx.heap.size wx w')) :
    Calls Tryz.prog 24 #[.string s, .int .i64 u, .agg #[.int .i64 line, .int .i64 col]] w fun e w' => e = .returned (.tuple #[.int .i64 (bY + bX), .int .i64 0]) ∧ Below w.heap.size w w' := by
  unfold cntV at cL cC cN cA cN1 cN2
  rw [hY] at cL cN1
  clear hY
  have hsz := extract_size s nY hy
  have HB0 : Hid (Below w.heap.size w (w.alloc (.cells #[.int .i64 line, .int .i64 col] 54))) := (Below.refl _ w).alloc (Nat.le_refl _) _
  have HS0 : Hid (spotW (w.alloc (.cells #[.int .i64 line, .int .i64 col] 54)) w.heap.size line col) := spotW_new w _ _ _
  have cI := fun wx => in_any u 1 3 wx
  rw [hu] at cI
  clear hu
  go_enter Tryz.func24, Tryz.ntmps24
  go_wp2_with (first
    | (go_at_call 32; refine (cI _).mono ?_; rintro e w1 ⟨rfl, hw1⟩; obtain rfl := hw1.symm)
    | (go_at_call 17; refine (cL.out _).mono ?_; rintro e w1 ⟨rfl, hb1⟩; have HBa : Hid (Below w.heap.size w w1) := HB0.out.trans (hb1.mono HB0.out.size); have HB1 : Hid (Below w.heap.size w (w1.alloc (.cells #[.int .i64 nY, .int .i64 (C2 Y), .int .i64 (C3 Y), .int .i64 (C4 Y)] 29))) := HBa.out.alloc HBa.out.size _; have HS1 : Hid (spotW (w1.alloc (.cells #[.int .i64 nY, .int .i64 (C2 Y), .int .i64 (C3 Y), .int .i64 (C4 Y)] 29)) w.heap.size line col) := spotW_below (spotW_below HS0.out hb1) ((Below.refl _ _).alloc (Nat.le_refl _) _); have HY1 : Hid (counted (w1.alloc (.cells #[.int .i64 nY, .int .i64 (C2 Y), .int .i64 (C3 Y), .int .i64 (C4 Y)] 29)) w1.heap.size nY (C2 Y) (C3 Y) (C4 Y)) := counted_new w1 _ _ _ _ _; clear hb1)
    | (go_at_call 49; refine (cX.out _).mono ?_; rintro e wz ⟨rfl, hwz⟩; obtain rfl := hwz.symm)
    | (go_at_call 6; refine (cC.out _).mono ?_; rintro e w2 ⟨rfl, hb2⟩; have HB2 : Hid (Below w.heap.size w w2) := HB1.out.trans (hb2.mono HB1.out.size); have HS2 : Hid (spotW w2 w.heap.size line col) := spotW_below HS1.out hb2; have HY2 : Hid (counted w2 w1.heap.size nY (C2 Y) (C3 Y) (C4 Y)) := counted_below HY1.out hb2; clear hb2)
    | fail)
  have hg3 : Below w2.heap.size w2 ((w2.alloc (.cells #[.int .i64 (C1 L), .int .i64 (C2 L), .int .i64 (C3 L), .int .i64 (C4 L)] 29)).alloc (.cells #[.int .i64 0, .int .i64 (-1)] 32)) := ((Below.refl w2.heap.size w2).alloc (Nat.le_refl _) _).alloc (by simp) _
  have hb3 := HB2.out.trans (hg3.mono HB2.out.size)
  have hs3 := spotW_below HS2.out hg3
  have hy3 := counted_below HY2.out hg3
  have hl3 := counted_below (counted_new w2 (C1 L) (C2 L) (C3 L) (C4 L) 29) ((Below.refl _ _).alloc (Nat.le_refl _) (.cells #[.int .i64 0, .int .i64 (-1)] 32))
  generalize ((w2.alloc (.cells #[.int .i64 (C1 L), .int .i64 (C2 L), .int .i64 (C3 L), .int .i64 (C4 L)] 29)).alloc (.cells #[.int .i64 0, .int .i64 (-1)] 32)) = WW at *
  generalize w2.heap.size = BL at *
  generalize w1.heap.size = BY at *
  clear hg3 HB2 HS2 HY2 HB1 HS1 HY1 HBa HB0 HS0 cI cL cC cX
  refine wp_region_rel 7 7 (by kernel_rfl) rfl ?_
  intro w6 hb6
  obtain ⟨G, hG⟩ := exists_growth w6
  obtain ⟨⟨x0, x1⟩, _⟩ := spotW_below hs3 hb6
  obtain ⟨⟨z0, z1, z2, z3⟩, _⟩ := counted_below hl3 hb6
  have gx1 := hG.cell x1
  have gz0 := hG.cell z0
  have gz1 := hG.cell z1
  have gz2 := hG.cell z2
  have gz3 := hG.cell z3
  have cZ := fun x => cN.out (G x)
  have cV := fun x => cB.out (G x)
  clear x0 x1 z0 z1 z2 z3 cN cB
  (refine anyG_step hG (i := 0) rfl (by kernel_rfl) (by kernel_rfl) (by kernel_rfl) (fun K hK => ?_); go_simp; refine hK _ ?_; clear hK K)
  (refine anyG_step hG (i := 1) rfl (by kernel_rfl) (by kernel_rfl) (by kernel_rfl) (fun K hK => ?_); go_simp; refine hK _ ?_; clear hK K)
  (refine anyG_step hG (i := 2) rfl (by kernel_rfl) (by kernel_rfl) (by kernel_rfl) (fun K hK => ?_); go_simp; refine hK _ ?_; clear hK K)
  (refine anyG_step hG (i := 3) rfl (by kernel_rfl) (by kernel_rfl) (by kernel_rfl) (fun K hK => ?_); go_simp; refine hK _ ?_; clear hK K)
  (refine anyG_step hG (i := 4) rfl (by kernel_rfl) (by kernel_rfl) (by kernel_rfl) (fun K hK => ?_); go_simp; apply Exists.intro; refine ⟨fun _ => ?_, hK _ ?_⟩; exact cZ _; clear hK K)
  (refine anyG_step hG (i := 5) rfl (by kernel_rfl) (by kernel_rfl) (by kernel_rfl) (fun K hK => ?_); go_simp; apply Exists.intro; refine ⟨fun _ => ?_, hK _ ?_⟩; exact cV _; clear hK K)
  (refine anyG_step hG (i := 6) rfl (by kernel_rfl) (by kernel_rfl) (by kernel_rfl) (fun K hK => ?_); go_simp; refine hK _ ?_; clear hK K)
  clear gx1 gz0 gz1 gz2 gz3 cZ cV hG
  refine anyG_end (by kernel_rfl) ?_
  intro w7 hb7
  have hb67 := hb6.trans (hb7.mono hb6.size)
  have HB7 : Hid (Below w.heap.size w w7) := hb3.trans (hb67.mono hb3.size)
  have hs7 : spotW w7 w.heap.size line col := spotW_below hs3 hb67
  have HS7 : Hid (spotW w7 w.heap.size line col) := hs7
  have HY7 : Hid (counted w7 BY nY (C2 Y) (C3 Y) (C4 Y)) := counted_below hy3 hb67
  obtain ⟨⟨s0, s1⟩, _⟩ := hs7
  clear hb6 hb7 hb67 hs3 hy3 hl3
  have hw : IntKind.i64.wrap (bY + bX) = bY + bX := wrap_in (by omega) (by omega)
  clear hE
  go_wp2_with (first
    | (go_at_call 15; refine (cA.out _).mono ?_; rintro e w10 ⟨rfl, hb10⟩; have HB10 : Hid (Below w.heap.size w w10) := HB7.out.trans (hb10.mono HB7.out.size); have HY10 : Hid (counted w10 BY nY (C2 Y) (C3 Y) (C4 Y)) := counted_below HY7.out hb10; clear hb10)
    | fail)
  have hb11 := HB10.out.alloc HB10.out.size (.cells #[.int .i64 (C1 X), .int .i64 (C2 X), .int .i64 (C3 X), .int .i64 (C4 X)] 29)
  have hy11 := counted_below HY10.out ((Below.refl w10.heap.size w10).alloc (Nat.le_refl _) (.cells #[.int .i64 (C1 X), .int .i64 (C2 X), .int .i64 (C3 X), .int .i64 (C4 X)] 29))
  have hx11 := counted_new w10 (C1 X) (C2 X) (C3 X) (C4 X) 29
  generalize (w10.alloc (.cells #[.int .i64 (C1 X), .int .i64 (C2 X), .int .i64 (C3 X), .int .i64 (C4 X)] 29)) = WX at *
  generalize w10.heap.size = BX at *
  clear HB10 HY10 HB7 HS7 HY7 cA s0 s1
  refine wp_region_rel 9 9 (by kernel_rfl) rfl ?_
  intro w6 hb6
  obtain ⟨G, hG⟩ := exists_growth w6
  obtain ⟨⟨x0, x1, x2, x3⟩, _⟩ := counted_below hy11 hb6
  obtain ⟨⟨z0, z1, z2, z3⟩, _⟩ := counted_below hx11 hb6
  have gx0 := hG.cell x0
  have gx1 := hG.cell x1
  have gx2 := hG.cell x2
  have gx3 := hG.cell x3
  have gz0 := hG.cell z0
  have gz1 := hG.cell z1
  have gz2 := hG.cell z2
  have gz3 := hG.cell z3
  have cZ := fun x => cN1.out (G x)
  have cV := fun x => cN2.out (G x)
  clear x0 x1 x2 x3 z0 z1 z2 z3 cN1 cN2
  (refine anyG_step hG (i := 0) rfl (by kernel_rfl) (by kernel_rfl) (by kernel_rfl) (fun K hK => ?_); go_simp; refine hK _ ?_; clear hK K)
  (refine anyG_step hG (i := 1) rfl (by kernel_rfl) (by kernel_rfl) (by kernel_rfl) (fun K hK => ?_); go_simp; refine hK _ ?_; clear hK K)
  (refine anyG_step hG (i := 2) rfl (by kernel_rfl) (by kernel_rfl) (by kernel_rfl) (fun K hK => ?_); go_simp; apply Exists.intro; refine ⟨fun _ => ?_, hK _ ?_⟩; exact cZ _; clear hK K)
  (refine anyG_step hG (i := 3) rfl (by kernel_rfl) (by kernel_rfl) (by kernel_rfl) (fun K hK => ?_); go_simp; refine hK _ ?_; clear hK K)
  (refine anyG_step hG (i := 4) rfl (by kernel_rfl) (by kernel_rfl) (by kernel_rfl) (fun K hK => ?_); go_simp; refine hK _ ?_; clear hK K)
  (refine anyG_step hG (i := 5) rfl (by kernel_rfl) (by kernel_rfl) (by kernel_rfl) (fun K hK => ?_); go_simp; apply Exists.intro; refine ⟨fun _ => ?_, hK _ ?_⟩; exact cV _; clear hK K)
  (refine anyG_step hG (i := 6) rfl (by kernel_rfl) (by kernel_rfl) (by kernel_rfl) (fun K hK => ?_); go_simp; refine hK _ ?_; clear hK K)
  (refine anyG_step hG (i := 7) rfl (by kernel_rfl) (by kernel_rfl) (by kernel_rfl) (fun K hK => ?_); go_simp; refine hK _ ?_; clear hK K)
  (refine anyG_step hG (i := 8) rfl (by kernel_rfl) (by kernel_rfl) (by kernel_rfl) (fun K hK => ?_); go_simp; refine hK _ ?_; clear hK K)
  clear gx0 gx1 gx2 gx3 gz0 gz1 gz2 gz3 cZ cV hG
  refine anyG_end (by kernel_rfl) ?_
  intro w12 hb12
  have hb612 := hb6.trans (hb12.mono hb6.size)
  have HB12 : Hid (Below w.heap.size w w12) := hb11.trans (hb612.mono hb11.size)
  clear hb6 hb12 hb612 hb11 hy11 hx11
  go_wp2
  go_ret2
  exact ⟨rfl, HB12.out⟩
end Go.Proofs.YtgmgkbbnciglhaaGreatDoor

namespace Go.Proofs.YtgmgkbbnciglhaaGreatDoor
set_option linter.unusedVariables false

theorem lf_split : ∀ (m : List Nat), ∃ L R, m = L ++ R ∧ noLF L ∧ (R = [] ∨ ∃ R', R = 10 :: R')
  | [] => ⟨[], [], rfl, fun _ h => (by cases h), .inl rfl⟩
  | r :: m => by
    by_cases e : r = 10
    · exact ⟨[], r :: m, rfl, fun _ h => (by cases h), .inr ⟨m, by rw [e]⟩⟩
    · obtain ⟨L, R, rfl, hz, hR⟩ := lf_split m
      exact ⟨r :: L, R, rfl, fun x hx => by
        rcases List.mem_cons.1 hx with rfl | hx
        · exact e
        · exact hz x hx, hR⟩
theorem line_to : ∀ (n : Nat) (rs : List Nat), (n : Int) ≤ C4 rs → ∃ Y m, rs = Y ++ m ∧ endsLF Y ∧ C4 Y = n
  | 0, rs, _ => ⟨[], rs, rfl, .inl rfl, rfl⟩
  | n + 1, rs, h => by
    obtain ⟨Y, m, rfl, hy, hc⟩ := line_to n rs (by omega)
    rw [C4_append] at h
    obtain ⟨Z, m', rfl, hz⟩ := line_next (m := m) (by omega)
    have e10 : C4 [10] = 1 := rfl
    exact ⟨Y ++ Z ++ [10], m', by simp, .inr ⟨Y ++ Z, rfl⟩, by rw [C4_append, C4_append, C4_none hz, e10]; omega⟩
/-- A line: what is ahead, it, and what is behind. -/
theorem line_parts {rs : List Nat} {line : Int} (h0 : 0 ≤ line) (h1 : line ≤ C4 rs) : ∃ Y L R, rs = Y ++ L ++ R ∧ noLF L ∧ endsLF Y ∧ C4 Y = line ∧ find (reachesLine line) [] rs = Y ∧ (R = [] ∨ ∃ R', R = 10 :: R') := by
  obtain ⟨Y, m, e, hy, hc⟩ := line_to line.toNat rs (by omega)
  obtain ⟨L, R, rfl, hz, hR⟩ := lf_split m
  have hc2 : C4 Y = line := by omega
  exact ⟨Y, L, R, by rw [e]; simp, hz, hy, hc2, by rw [e, ← hc2]; exact find_line hy _, hR⟩
theorem by_lf {u : Int} (hu : u = 1 ∨ u = 2 ∨ u = 3) : by_ u [10] = 1 := by
  rcases hu with rfl | rfl | rfl <;> rfl
theorem endL_parts {u line : Int} (hu : u = 1 ∨ u = 2 ∨ u = 3) {Y L R : List Nat} (hz : noLF L) (hc : C4 Y = line) (hR : R = [] ∨ ∃ R', R = 10 :: R') : endL u line (Y ++ L ++ R) = by_ u Y + by_ u L := by
  have e10 : C4 [10] = 1 := rfl
  have eC : C4 (Y ++ L) = line := by rw [C4_append, C4_none hz]; omega
  unfold endL
  rcases hR with rfl | ⟨R', rfl⟩
  · rw [List.append_nil, eC, if_pos (by omega), by_append]
  · have e : Y ++ L ++ 10 :: R' = (Y ++ L ++ [10]) ++ R' := by simp
    have eD : C4 (Y ++ L ++ [10]) = line + 1 := by rw [C4_append, eC, e10]
    have := (C4_le R').1
    rw [e, C4_append, eD, if_neg (by omega)]
    have := find_line (Y := Y ++ L ++ [10]) (.inr ⟨Y ++ L, rfl⟩) R'
    rw [eD] at this
    rw [this, by_append, by_append, by_lf hu]
    omega
theorem find_shift (u c : Int) (Y : List Nat) (L pre : List Nat) : find (reachesBy u (by_ u Y + c)) (Y ++ pre) L = Y ++ find (reachesBy u c) pre L := by
  have e : ∀ p, reachesBy u (by_ u Y + c) (Y ++ p) = reachesBy u c p := fun p => by
    unfold reachesBy
    rw [by_append]
    exact decide_eq_decide.2 (by omega)
  have sk : ∀ (L pre : List Nat), seek (reachesBy u (by_ u Y + c)) (Y ++ pre) L = (seek (reachesBy u c) pre L).map (Y ++ ·)
    := by
    intro L
    induction L with
    | nil => intro pre; rfl
    | cons r L ih =>
      intro pre
      rw [seek, seek, List.append_assoc, e]
      split
      · rfl
      · exact ih _
  unfold find
  rw [e, sk]
  split
  · rfl
  · cases seek (reachesBy u c) pre L <;> simp
theorem find_all {u : Int} (hu : unitOk u) (Y : List Nat) : find (reachesBy u (by_ u Y)) [] Y = Y := by
  obtain ⟨k, hk, ek, h1, _⟩ := find_least u (by_ u Y) Y [] (by simp)
  rw [ek, List.nil_append]
  rw [List.nil_append] at h1
  by_cases h : k < Y.length
  · have := by_mono hu Y k Y.length h (Nat.le_refl _)
    rw [List.take_length] at this
    omega
  · exact List.take_of_length_le (by omega)
theorem upTo_in {u c : Int} (hu : unitOk u) (Y L R : List Nat) (h0 : 0 ≤ c) (h1 : c ≤ by_ u L) : upTo (Y ++ L ++ R) u (by_ u Y + c) = Y ++ upTo L u c := by
  unfold upTo
  have f1 : reachesBy u (by_ u Y + c) ([] ++ (Y ++ L)) = true := decide_eq_true (by rw [List.nil_append, by_append]; omega)
  rw [find_left f1]
  have sh := find_shift u c Y L []
  rw [List.append_nil] at sh
  rw [← sh]
  by_cases hc : c = 0
  · subst hc
    rw [Int.add_zero]
    have f2 : reachesBy u (by_ u Y) ([] ++ Y) = true := decide_eq_true (by rw [List.nil_append]; exact Int.le_refl _)
    have f3 : reachesBy u (by_ u Y) Y = true := decide_eq_true (Int.le_refl _)
    rw [find_left f2, find_all hu]
    unfold find
    rw [if_pos f3]
  · have f2 : reachesBy u (by_ u Y + c) ([] ++ Y) = false := decide_eq_false (by rw [List.nil_append]; omega)
    rw [find_right (reachesBy_rising _ _) f2, List.nil_append]
end Go.Proofs.YtgmgkbbnciglhaaGreatDoor

namespace Go.Proofs.YtgmgkbbnciglhaaGreatDoor
open Go.RowKit
set_option linter.unusedVariables false

/-- What the document's Place tells: its place, and its error (0: none). -/
def plN (u line col : Int) (rs : List Nat) : Int :=
  if ¬ (u = 1 ∨ u = 2 ∨ u = 3) then 0
  else if line < 0 ∨ C4 rs < line then 0
  else if col < 0 ∨ endL u line rs - beginL u line rs < col then 0
  else if by_ u (upTo rs u (beginL u line rs + col)) = beginL u line rs + col then beginL u line rs + col
  else 0
def plE (u line col : Int) (rs : List Nat) : Int :=
  if ¬ (u = 1 ∨ u = 2 ∨ u = 3) then 1
  else if line < 0 ∨ C4 rs < line then 2
  else if col < 0 ∨ endL u line rs - beginL u line rs < col then 2
  else if by_ u (upTo rs u (beginL u line rs + col)) = beginL u line rs + col then 0
  else 10
theorem refPlace_in (s : ByteArray) (rs Y L R : List Nat) (u line col : Int) (hr : ∀ r ∈ rs, isRune r) (he : encs rs = s.data.toList) (hs : s.size < 1000000) (hu : unitOk u) (h0 : 0 ≤ line) (h1 : line ≤ C4 rs)
    (e : rs = Y ++ L ++ R) (hz : noLF L) (hf : find (reachesLine line) [] rs = Y) (hR : R = [] ∨ ∃ R', R = 10 :: R') (w : World) :
    Calls Tryz.prog 24 #[.string s, .int .i64 u, .agg #[.int .i64 line, .int .i64 col]] w fun e w' => e = .returned (.tuple #[.int .i64 (if col < 0 ∨ by_ u L < col then 0 else if by_ u (upTo L u col) = col then by_ u Y + col else 0), .int .i64 (if col < 0 ∨ by_ u L < col then 2 else if by_ u (upTo L u col) = col then 0 else 10)]) ∧ Below w.heap.size w w' := by
  have hiu : inB u 1 3 = true := (inB_unit u).2 hu
  have hub : -9223372036854775808 ≤ u ∧ u < 9223372036854775808 := by unfold unitOk at hu; omega
  have cL := fun wx => refLine_at s rs line hr he hs h0 h1 wx
  rw [hf] at cL
  have hd : s.data.toList = encs Y ++ (encs L ++ encs R) := by rw [← he, e, encs_append, encs_append, List.append_assoc]
  have hlen : s.size = (encs Y).length + (encs L).length + (encs R).length := by rw [Lib.size_eq, hd, List.length_append, List.length_append]; omega
  have hrY : ∀ r ∈ Y, isRune r := fun r h => hr r (by rw [e]; exact List.mem_append_left _ (List.mem_append_left _ h))
  have hrL : ∀ r ∈ L, isRune r := fun r h => hr r (by rw [e]; exact List.mem_append_left _ (List.mem_append_right _ h))
  have cT : (s.extract (encs Y).length s.size).data.toList = encs L ++ encs R := cut_rest s _ _ hd
  have hY : C1 Y = (encs Y).length := C1_len Y
  have hL : C1 L = (encs L).length := C1_len L
  have sz : (s.extract (encs Y).length s.size).size = s.size - (encs Y).length := extract_size s _ (by omega)
  have lb := by_le u L
  have lp := by_pos u L
  have yb := by_le u Y
  have yp := by_pos u Y
  have ht := find_small (reachesBy u col) L (by omega)
  have xb := by_le u (upTo L u col)
  have xp := by_pos u (upTo L u col)
  have ht2 : C1 (upTo L u col) ≤ 100000000 := ht
  have cN := fun wx => refIn_any u L hub.1 hub.2 (by omega) wx
  have cN1 := fun wx => refIn_any u Y hub.1 hub.2 (by omega) wx
  have cN2 := fun wx => refIn_any u (upTo L u col) hub.1 hub.2 ht2 wx
  have cB : ∀ wx, Calls Tryz.prog 32 #[.int .i64 col, .int .i64 0, .int .i64 (by_ u L)] wx fun e w' => e = .returned (.bool (inB col 0 (by_ u L))) ∧ Below wx.heap.size wx w' := fun wx => (in_any col 0 (by_ u L) wx).mono fun e w' h => ⟨h.1, by rw [h.2]; exact Below.refl _ _⟩
  have key : ∀ LS : ByteArray, LS.data.toList = encs L → (∀ wx, Calls Tryz.prog 6 #[.string LS] wx fun e w' => e = .returned (.tuple #[cntV L, .agg #[.int .i64 0, .int .i64 (-1)]]) ∧ Below wx.heap.size wx w') ∧
      (0 ≤ col → col ≤ by_ u L → ∀ wx, Calls Tryz.prog 15 #[.string LS, .int .i64 u, .int .i64 col] wx fun e w' => e = .returned (.tuple #[cntV (if onEdge L u col then upTo L u col else []), .int .i64 (if onEdge L u col then 0 else 10)]) ∧ Below wx.heap.size wx w') := fun LS h => by
    have hz : LS.size < 1000000 := by rw [Lib.size_eq, h]; omega
    exact ⟨fun wx => refCount_of LS L hrL h.symm (by omega) wx, fun a b wx => refAhead_any LS L u col hrL h.symm hz hu a b wx⟩
  have hb : col < 0 ∨ by_ u L < col → inB col 0 (by_ u L) = false := fun h => decide_eq_false (by omega)
  have hg : ¬ (col < 0 ∨ by_ u L < col) → inB col 0 (by_ u L) = true := fun h => decide_eq_true (by omega)
  rcases hR with rfl | ⟨R', rfl⟩
  · have cT2 : (s.extract (encs Y).length s.size).data.toList = encs L := by rw [cT]; simp [encs]
    obtain ⟨cC, cA⟩ := key _ cT2
    have cX : ∀ wx, Calls Tryz.prog 49 #[.string (s.extract (encs Y).length s.size), .int .u8 10] wx fun e w' => e = .returned (.int .i64 (-1)) ∧ w' = wx := fun wx => by
      have := Tryz.strings_IndexByte (s.extract (encs Y).length s.size) 10 wx
      have e2 : ((10 : Int)).toNat.toUInt8 = (10 : UInt8) := rfl
      rw [cT2, e2, index_none (noLF_bytes hrL hz)] at this
      exact this
    by_cases hc : col < 0 ∨ by_ u L < col
    · rw [if_pos hc, if_pos hc]
      rw [hb hc] at cB
      exact refPlace_col_last s Y L [] _ 0 u line col (by_ u L) 0 0 0 hiu hY hs (by omega) (Nat.zero_le _) w trivial cL cX cC cN cB
    · rw [if_neg hc, if_neg hc]
      rw [hg hc] at cB
      have cA2 := cA (by omega) (by omega)
      by_cases hx : by_ u (upTo L u col) = col
      · have ho : onEdge L u col = true := decide_eq_true hx
        rw [ho] at cA2
        rw [if_pos hx, if_pos hx]
        rw [hx] at cN2
        exact refPlace_good_last s Y L (upTo L u col) _ 0 u line col (by_ u L) (by_ u Y) col 0 hiu hY hs (by omega) (Nat.zero_le _) w (by omega) cL cX cC cN cB cA2 cN1 cN2
      · have ho : onEdge L u col = false := decide_eq_false hx
        rw [ho] at cA2
        rw [if_neg hx, if_neg hx]
        exact refPlace_told_last s Y L [] _ 0 u line col (by_ u L) 0 0 10 hiu hY hs (by omega) (Nat.zero_le _) w (by decide) cL cX cC cN cB cA2
  · have e10 : encs (10 :: R') = 10 :: encs R' := by rw [encs_cons, enc_lf]; rfl
    rw [e10] at cT
    have cT2 : ((s.extract (encs Y).length s.size).extract 0 (encs L).length).data.toList = encs L := cut_first _ _ _ cT
    obtain ⟨cC, cA⟩ := key _ cT2
    have cX : ∀ wx, Calls Tryz.prog 49 #[.string (s.extract (encs Y).length s.size), .int .u8 10] wx fun e w' => e = .returned (.int .i64 (((encs L).length : Nat) : Int)) ∧ w' = wx := fun wx => by
      have := Tryz.strings_IndexByte (s.extract (encs Y).length s.size) 10 wx
      have e2 : ((10 : Int)).toNat.toUInt8 = (10 : UInt8) := rfl
      rw [cT, e2, index_at _ (noLF_bytes hrL hz)] at this
      exact this
    by_cases hc : col < 0 ∨ by_ u L < col
    · rw [if_pos hc, if_pos hc]
      rw [hb hc] at cB
      exact refPlace_col_more s Y L [] _ _ u line col (by_ u L) 0 0 0 hiu hY hs (by omega) (by omega) w trivial cL cX cC cN cB
    · rw [if_neg hc, if_neg hc]
      rw [hg hc] at cB
      have cA2 := cA (by omega) (by omega)
      by_cases hx : by_ u (upTo L u col) = col
      · have ho : onEdge L u col = true := decide_eq_true hx
        rw [ho] at cA2
        rw [if_pos hx, if_pos hx]
        rw [hx] at cN2
        exact refPlace_good_more s Y L (upTo L u col) _ _ u line col (by_ u L) (by_ u Y) col 0 hiu hY hs (by omega) (by omega) w (by omega) cL cX cC cN cB cA2 cN1 cN2
      · have ho : onEdge L u col = false := decide_eq_false hx
        rw [ho] at cA2
        rw [if_neg hx, if_neg hx]
        exact refPlace_told_more s Y L [] _ _ u line col (by_ u L) 0 0 10 hiu hY hs (by omega) (by omega) w (by decide) cL cX cC cN cB cA2
theorem refPlace_all (s : ByteArray) (rs : List Nat) (u line col : Int) (hr : ∀ r ∈ rs, isRune r) (he : encs rs = s.data.toList) (hs : s.size < 1000000) (w : World) :
    Calls Tryz.prog 24 #[.string s, .int .i64 u, .agg #[.int .i64 line, .int .i64 col]] w fun e w' => e = .returned (.tuple #[.int .i64 (plN u line col rs), .int .i64 (plE u line col rs)]) ∧ Below w.heap.size w w' := by
  unfold plN plE
  by_cases hu : (u = 1 ∨ u = 2 ∨ u = 3)
  · rw [if_neg (not_not_intro hu), if_neg (not_not_intro hu)]
    by_cases hl : line < 0 ∨ C4 rs < line
    · rw [if_pos hl, if_pos hl]
      exact refPlace_line s u line col 2 ((inB_unit u).2 hu) (by decide) w fun wx => refLine_rng s rs line hr he hs hl wx
    · rw [if_neg hl, if_neg hl]
      obtain ⟨Y, L, R, e, hz, hy, hc, hf, hR⟩ := line_parts (rs := rs) (line := line) (by omega) (by omega)
      have eB : beginL u line rs = by_ u Y := by unfold beginL; rw [hf]
      have eE : endL u line rs = by_ u Y + by_ u L := by rw [e]; exact endL_parts hu hz hc hR
      have key := refPlace_in s rs Y L R u line col hr he hs hu (by omega) (by omega) e hz hf hR w
      have eS : by_ u Y + by_ u L - by_ u Y = by_ u L := by omega
      rw [eB, eE, eS]
      by_cases hcol : col < 0 ∨ by_ u L < col
      · rw [if_pos hcol, if_pos hcol] at key ⊢
        exact key
      · rw [if_neg hcol, if_neg hcol] at key ⊢
        have eU : upTo rs u (by_ u Y + col) = Y ++ upTo L u col := by rw [e]; exact upTo_in hu Y L R (by omega) (by omega)
        rw [eU, by_append]
        have ei : (by_ u Y + by_ u (upTo L u col) = by_ u Y + col) = (by_ u (upTo L u col) = col) := propext ⟨fun h => by omega, fun h => by omega⟩
        simp only [ei]
        exact key
  · rw [if_pos hu, if_pos hu]
    exact refPlace_unit s u line col (Bool.eq_false_iff.2 fun e => hu ((inB_unit u).1 e)) w
/-- pos.Place tells the same. -/
theorem placeE_same {u line col : Int} {rs : List Nat} : placeE u line col rs = .tuple #[.int .i64 (plN u line col rs), errV (plE u line col rs)] := by
  unfold placeE plN plE
  by_cases hu : (u = 1 ∨ u = 2 ∨ u = 3)
  · rw [if_neg (not_not_intro hu), if_neg (not_not_intro hu), if_neg (not_not_intro hu)]
    by_cases hl : line < 0 ∨ C4 rs < line
    · rw [if_pos hl, if_pos hl, if_pos hl]
    · rw [if_neg hl, if_neg hl, if_neg hl]
      obtain ⟨Y, L, R, e, hz, hy, hc, hf, hR⟩ := line_parts (rs := rs) (line := line) (by omega) (by omega)
      have eB : beginL u line rs = by_ u Y := by unfold beginL; rw [hf]
      have eE : endL u line rs = by_ u Y + by_ u L := by rw [e]; exact endL_parts hu hz hc hR
      rw [eB, eE]
      have yp := by_pos u Y
      have rp := by_pos u R
      have ers : by_ u rs = by_ u Y + by_ u L + by_ u R := by rw [e, by_append, by_append]
      split
      · rfl
      · rw [if_neg (by omega)]
        split
        · rename_i h
          rw [h]
          rfl
        · rfl
  · rw [if_pos hu, if_pos hu, if_pos hu]
end Go.Proofs.YtgmgkbbnciglhaaGreatDoor

namespace Go.Proofs.YtgmgkbbnciglhaaGreatDoor
open Go.RowKit
set_option linter.unusedVariables false
attribute [local go_sem] Oper.semAt_some

set_option maxRecDepth 100000 in
set_option maxHeartbeats 8000000 in
theorem posLaw_good (s : ByteArray) (rs X : List Nat) (u v at_ line col EA W0 e n sx sy eS nP eP : Int) (n1 : ¬ v < 1) (n2 : ¬ 3 < v) (hE : EA = e) (hN : W0 = n) (hs : ¬ (400 : Int) < s.size) (w : World)
    (cC : Hid (∀ wx, Calls Tryz.prog 6 #[.string s] wx fun e w' => e = .returned (.tuple #[cntV rs, .agg #[.int .i64 0, .int .i64 (-1)]]) ∧ Below wx.heap.size wx w'))
    (cN : Hid (∀ wx, Below w.heap.size w wx → Calls Tryz.prog 5 #[.string s] wx fun e w' => ∃ b, e = .returned (.tuple #[.pointer (some ⟨b, 0, none⟩), .nilIface]) ∧ isRope w' b rs ∧ Below wx.heap.size wx w'))
    (cA : Hid (∀ wx, Calls Tryz.prog 15 #[.string s, .int .i64 u, .int .i64 at_] wx fun e w' => e = .returned (.tuple #[cntV X, .int .i64 EA]) ∧ Below wx.heap.size wx w'))
    (cI : Hid (∀ wx, Calls Tryz.prog 20 #[cntV X, .int .i64 v] wx fun e w' => e = .returned (.int .i64 W0) ∧ Below wx.heap.size wx w'))
    (cV : Hid (∀ b wx, Below w.heap.size w wx → isRope wx b rs → Calls Tryz.prog 21 #[.pointer (some ⟨b, 0, none⟩), .int .i64 u, .int .i64 v, .int .i64 at_] wx fun x w' => x = .returned (.tuple #[.int .i64 n, errV e]) ∧ Below wx.heap.size wx w'))
    (cS : Hid (∀ wx, Calls Tryz.prog 22 #[.string s, .int .i64 u, .int .i64 at_] wx fun e w' => e = .returned (.tuple #[.agg #[.int .i64 sx, .int .i64 sy], .int .i64 eS]) ∧ Below wx.heap.size wx w'))
    (cT : Hid (∀ b wx, Below w.heap.size w wx → isRope wx b rs → Calls Tryz.prog 23 #[.pointer (some ⟨b, 0, none⟩), .int .i64 u, .int .i64 at_] wx fun e w' => e = .returned (.tuple #[.agg #[.int .i64 sx, .int .i64 sy], errV eS]) ∧ Below wx.heap.size wx w'))
    (cP : Hid (∀ wx, Calls Tryz.prog 24 #[.string s, .int .i64 u, .agg #[.int .i64 line, .int .i64 col]] wx fun e w' => e = .returned (.tuple #[.int .i64 nP, .int .i64 eP]) ∧ Below wx.heap.size wx w'))
    (cQ : Hid (∀ b wx, Below w.heap.size w wx → isRope wx b rs → Calls Tryz.prog 25 #[.pointer (some ⟨b, 0, none⟩), .int .i64 u, .agg #[.int .i64 line, .int .i64 col]] wx fun e w' => e = .returned (.tuple #[.int .i64 nP, errV eP]) ∧ Below wx.heap.size wx w'))
    (cB : Hid (∀ k wx, Below w.heap.size w wx → Calls Tryz.prog 19 #[errV k, .int .i64 k] wx fun e w' => e = .returned (.bool true) ∧ Below wx.heap.size wx w')) :
    Calls Tryz.prog 4 #[.string s, .int .i64 u, .int .i64 v, .int .i64 at_, .agg #[.int .i64 line, .int .i64 col]] w fun e w' => e = .returned (.bool true) ∧ Below w.heap.size w w' := by
  subst hE hN
  have cB1 : Hid _ := cB.out EA
  have cB2 : Hid _ := cB.out eS
  have cB3 : Hid _ := cB.out eP
  clear cB
  obtain ⟨V1, hV1⟩ : ∃ V1, errV EA = V1 := ⟨_, rfl⟩
  obtain ⟨V2, hV2⟩ : ∃ V2, errV eS = V2 := ⟨_, rfl⟩
  obtain ⟨V3, hV3⟩ : ∃ V3, errV eP = V3 := ⟨_, rfl⟩
  rw [hV1] at cV cB1
  rw [hV2] at cT cB2
  rw [hV3] at cQ cB3
  clear hV1 hV2 hV3
  unfold cntV at cC cA cI
  have HB0 : Hid (Below w.heap.size w (w.alloc (.cells #[.int .i64 line, .int .i64 col] 54))) := (Below.refl _ w).alloc (Nat.le_refl _) _
  have HS0 : Hid (spotW (w.alloc (.cells #[.int .i64 line, .int .i64 col] 54)) w.heap.size line col) := spotW_new w _ _ _
  go_enter Tryz.func4, Tryz.ntmps4
  go_wp2_with (first
    | (go_at_call 6; refine (cC.out _).mono ?_; rintro e w1 ⟨rfl, hb1⟩; have HBa : Hid (Below w.heap.size w w1) := HB0.out.trans (hb1.mono HB0.out.size); have hbx := (Below.refl w1.heap.size w1).alloc (Nat.le_refl _) (.cells #[.int .i64 (C1 rs), .int .i64 (C2 rs), .int .i64 (C3 rs), .int .i64 (C4 rs)] 29); have hby := hbx.alloc hbx.size (.cells #[.int .i64 0, .int .i64 (-1)] 32); have HB1 : Hid (Below w.heap.size w ((w1.alloc (.cells #[.int .i64 (C1 rs), .int .i64 (C2 rs), .int .i64 (C3 rs), .int .i64 (C4 rs)] 29)).alloc (.cells #[.int .i64 0, .int .i64 (-1)] 32))) := HBa.out.trans (hby.mono HBa.out.size); have HS1 : Hid (spotW ((w1.alloc (.cells #[.int .i64 (C1 rs), .int .i64 (C2 rs), .int .i64 (C3 rs), .int .i64 (C4 rs)] 29)).alloc (.cells #[.int .i64 0, .int .i64 (-1)] 32)) w.heap.size line col) := spotW_below (spotW_below HS0.out hb1) hby; clear hb1 hbx hby)
    | (go_at_call 5; refine (cN.out _ HB1.out).mono ?_; rintro e w2 ⟨b, rfl, hR2, hb2⟩; have HB2 : Hid (Below w.heap.size w w2) := HB1.out.trans (hb2.mono HB1.out.size); have HS2 : Hid (spotW w2 w.heap.size line col) := spotW_below HS1.out hb2; have HR2 : Hid (isRope w2 b rs) := hR2; clear hb2 hR2)
    | (go_at_call 15; refine (cA.out _).mono ?_; rintro e w3 ⟨rfl, hb3⟩; have hby := hb3.alloc hb3.size (.cells #[.int .i64 (C1 X), .int .i64 (C2 X), .int .i64 (C3 X), .int .i64 (C4 X)] 29); have HB3 : Hid (Below w.heap.size w (w3.alloc (.cells #[.int .i64 (C1 X), .int .i64 (C2 X), .int .i64 (C3 X), .int .i64 (C4 X)] 29))) := HB2.out.trans (hby.mono HB2.out.size); have HS3 : Hid (spotW (w3.alloc (.cells #[.int .i64 (C1 X), .int .i64 (C2 X), .int .i64 (C3 X), .int .i64 (C4 X)] 29)) w.heap.size line col) := spotW_below HS2.out hby; have HR3 : Hid (isRope (w3.alloc (.cells #[.int .i64 (C1 X), .int .i64 (C2 X), .int .i64 (C3 X), .int .i64 (C4 X)] 29)) b rs) := isRope_below HR2.out hby; clear hb3 hby)
    | (go_at_call 20; refine (cI.out _).mono ?_; rintro e w4 ⟨rfl, hb4⟩; have HB4 : Hid (Below w.heap.size w w4) := HB3.out.trans (hb4.mono HB3.out.size); have HS4 : Hid (spotW w4 w.heap.size line col) := spotW_below HS3.out hb4; have HR4 : Hid (isRope w4 b rs) := isRope_below HR3.out hb4; clear hb4)
    | (go_at_call 21; refine (cV.out _ _ HB4.out HR4.out).mono ?_; rintro e w5 ⟨rfl, hb5⟩; have HB5 : Hid (Below w.heap.size w w5) := HB4.out.trans (hb5.mono HB4.out.size); have HS5 : Hid (spotW w5 w.heap.size line col) := spotW_below HS4.out hb5; have HR5 : Hid (isRope w5 b rs) := isRope_below HR4.out hb5; clear hb5)
    | (go_at_call 22; refine (cS.out _).mono ?_; rintro e w6 ⟨rfl, hb6⟩; have hby := hb6.alloc hb6.size (.cells #[.int .i64 sx, .int .i64 sy] 54); have HB6 : Hid (Below w.heap.size w (w6.alloc (.cells #[.int .i64 sx, .int .i64 sy] 54))) := HB5.out.trans (hby.mono HB5.out.size); have HS6 : Hid (spotW (w6.alloc (.cells #[.int .i64 sx, .int .i64 sy] 54)) w.heap.size line col) := spotW_below HS5.out hby; have HR6 : Hid (isRope (w6.alloc (.cells #[.int .i64 sx, .int .i64 sy] 54)) b rs) := isRope_below HR5.out hby; have HX6 : Hid (spotW (w6.alloc (.cells #[.int .i64 sx, .int .i64 sy] 54)) w6.heap.size sx sy) := spotW_new w6 _ _ _; clear hb6 hby)
    | (go_at_call 23; refine (cT.out _ _ HB6.out HR6.out).mono ?_; rintro e w7 ⟨rfl, hb7⟩; have hby := hb7.alloc hb7.size (.cells #[.int .i64 sx, .int .i64 sy] 54); have HB7 : Hid (Below w.heap.size w (w7.alloc (.cells #[.int .i64 sx, .int .i64 sy] 54))) := HB6.out.trans (hby.mono HB6.out.size); have hs7 := spotW_below HS6.out hby; have HS7 : Hid (spotW (w7.alloc (.cells #[.int .i64 sx, .int .i64 sy] 54)) w.heap.size line col) := hs7; have HR7 : Hid (isRope (w7.alloc (.cells #[.int .i64 sx, .int .i64 sy] 54)) b rs) := isRope_below HR6.out hby; have HX7 : Hid (spotW (w7.alloc (.cells #[.int .i64 sx, .int .i64 sy] 54)) w6.heap.size sx sy) := spotW_below HX6.out hby; have HY7 : Hid (spotW (w7.alloc (.cells #[.int .i64 sx, .int .i64 sy] 54)) w7.heap.size sx sy) := spotW_new w7 _ _ _; have hs7b := spotW_below HS6.out hb7; clear hb7 hby hs7; have hl7 : w.heap.size < w7.heap.size := World.block_lt_of_cell? w7 _ hs7b.1.1; have hn7 : w.heap.size ≠ w7.heap.size := Nat.ne_of_lt hl7; have ⟨⟨p0, p1⟩, _⟩ := hs7b; clear hs7b)
    | (go_at_call 24; refine (cP.out _).mono ?_; rintro e w8 ⟨rfl, hb8⟩; have HB8 : Hid (Below w.heap.size w w8) := HB7.out.trans (hb8.mono HB7.out.size); have hs8 := spotW_below HS7.out hb8; have HR8 : Hid (isRope w8 b rs) := isRope_below HR7.out hb8; have HX8 : Hid (spotW w8 w6.heap.size sx sy) := spotW_below HX7.out hb8; have HY8 : Hid (spotW w8 w7.heap.size sx sy) := spotW_below HY7.out hb8; clear hb8; have ⟨⟨q0, q1⟩, _⟩ := hs8; clear hs8)
    | (go_at_call 25; refine (cQ.out _ _ HB8.out HR8.out).mono ?_; rintro e w9 ⟨rfl, hb9⟩; have HB9 : Hid (Below w.heap.size w w9) := HB8.out.trans (hb9.mono HB8.out.size); have HX9 : Hid (spotW w9 w6.heap.size sx sy) := spotW_below HX8.out hb9; have HY9 : Hid (spotW w9 w7.heap.size sx sy) := spotW_below HY8.out hb9; clear hb9)
    | (have _ := HB11; go_at_call 19; refine (cB3.out _ HB11.out).mono ?_; rintro e w12 ⟨rfl, hb12⟩; have HB12 : Hid (Below w.heap.size w w12) := HB11.out.trans (hb12.mono HB11.out.size); clear hb12)
    | (have _ := HB10; go_at_call 19; refine (cB2.out _ HB10.out).mono ?_; rintro e w11 ⟨rfl, hb11⟩; have HB11 : Hid (Below w.heap.size w w11) := HB10.out.trans (hb11.mono HB10.out.size); have hx11 := spotW_below HX10.out hb11; have hy11 := spotW_below HY10.out hb11; clear hb11; have ⟨⟨r0, r1⟩, _⟩ := hx11; have ⟨⟨t0, t1⟩, _⟩ := hy11; clear hx11 hy11)
    | (go_at_call 19; refine (cB1.out _ HB9.out).mono ?_; rintro e w10 ⟨rfl, hb10⟩; have HB10 : Hid (Below w.heap.size w w10) := HB9.out.trans (hb10.mono HB9.out.size); have HX10 : Hid (spotW w10 w6.heap.size sx sy) := spotW_below HX9.out hb10; have HY10 : Hid (spotW w10 w7.heap.size sx sy) := spotW_below HY9.out hb10; clear hb10)
    | fail)
  go_ret
  exact ⟨rfl, HB12.out⟩

set_option maxRecDepth 100000 in
set_option maxHeartbeats 8000000 in
theorem posLaw_low (s : ByteArray) (rs X : List Nat) (u v at_ line col EA W0 e n sx sy eS nP eP : Int) (n1 : v < 1) (hE : e = 1) (hN : n = 0) (hs : ¬ (400 : Int) < s.size) (w : World)
    (cC : Hid (∀ wx, Calls Tryz.prog 6 #[.string s] wx fun e w' => e = .returned (.tuple #[cntV rs, .agg #[.int .i64 0, .int .i64 (-1)]]) ∧ Below wx.heap.size wx w'))
    (cN : Hid (∀ wx, Below w.heap.size w wx → Calls Tryz.prog 5 #[.string s] wx fun e w' => ∃ b, e = .returned (.tuple #[.pointer (some ⟨b, 0, none⟩), .nilIface]) ∧ isRope w' b rs ∧ Below wx.heap.size wx w'))
    (cA : Hid (∀ wx, Calls Tryz.prog 15 #[.string s, .int .i64 u, .int .i64 at_] wx fun e w' => e = .returned (.tuple #[cntV X, .int .i64 EA]) ∧ Below wx.heap.size wx w'))
    (cI : Hid (∀ wx, Calls Tryz.prog 20 #[cntV X, .int .i64 v] wx fun e w' => e = .returned (.int .i64 W0) ∧ Below wx.heap.size wx w'))
    (cV : Hid (∀ b wx, Below w.heap.size w wx → isRope wx b rs → Calls Tryz.prog 21 #[.pointer (some ⟨b, 0, none⟩), .int .i64 u, .int .i64 v, .int .i64 at_] wx fun x w' => x = .returned (.tuple #[.int .i64 n, errV e]) ∧ Below wx.heap.size wx w'))
    (cS : Hid (∀ wx, Calls Tryz.prog 22 #[.string s, .int .i64 u, .int .i64 at_] wx fun e w' => e = .returned (.tuple #[.agg #[.int .i64 sx, .int .i64 sy], .int .i64 eS]) ∧ Below wx.heap.size wx w'))
    (cT : Hid (∀ b wx, Below w.heap.size w wx → isRope wx b rs → Calls Tryz.prog 23 #[.pointer (some ⟨b, 0, none⟩), .int .i64 u, .int .i64 at_] wx fun e w' => e = .returned (.tuple #[.agg #[.int .i64 sx, .int .i64 sy], errV eS]) ∧ Below wx.heap.size wx w'))
    (cP : Hid (∀ wx, Calls Tryz.prog 24 #[.string s, .int .i64 u, .agg #[.int .i64 line, .int .i64 col]] wx fun e w' => e = .returned (.tuple #[.int .i64 nP, .int .i64 eP]) ∧ Below wx.heap.size wx w'))
    (cQ : Hid (∀ b wx, Below w.heap.size w wx → isRope wx b rs → Calls Tryz.prog 25 #[.pointer (some ⟨b, 0, none⟩), .int .i64 u, .agg #[.int .i64 line, .int .i64 col]] wx fun e w' => e = .returned (.tuple #[.int .i64 nP, errV eP]) ∧ Below wx.heap.size wx w'))
    (cB : Hid (∀ k wx, Below w.heap.size w wx → Calls Tryz.prog 19 #[errV k, .int .i64 k] wx fun e w' => e = .returned (.bool true) ∧ Below wx.heap.size wx w')) :
    Calls Tryz.prog 4 #[.string s, .int .i64 u, .int .i64 v, .int .i64 at_, .agg #[.int .i64 line, .int .i64 col]] w fun e w' => e = .returned (.bool true) ∧ Below w.heap.size w w' := by
  subst hE hN
  have cB1 : Hid _ := cB.out 1
  have cB2 : Hid _ := cB.out eS
  have cB3 : Hid _ := cB.out eP
  clear cB
  obtain ⟨V1, hV1⟩ : ∃ V1, errV 1 = V1 := ⟨_, rfl⟩
  obtain ⟨V2, hV2⟩ : ∃ V2, errV eS = V2 := ⟨_, rfl⟩
  obtain ⟨V3, hV3⟩ : ∃ V3, errV eP = V3 := ⟨_, rfl⟩
  rw [hV1] at cV cB1
  rw [hV2] at cT cB2
  rw [hV3] at cQ cB3
  clear hV1 hV2 hV3
  unfold cntV at cC cA cI
  have HB0 : Hid (Below w.heap.size w (w.alloc (.cells #[.int .i64 line, .int .i64 col] 54))) := (Below.refl _ w).alloc (Nat.le_refl _) _
  have HS0 : Hid (spotW (w.alloc (.cells #[.int .i64 line, .int .i64 col] 54)) w.heap.size line col) := spotW_new w _ _ _
  go_enter Tryz.func4, Tryz.ntmps4
  go_wp2_with (first
    | (go_at_call 6; refine (cC.out _).mono ?_; rintro e w1 ⟨rfl, hb1⟩; have HBa : Hid (Below w.heap.size w w1) := HB0.out.trans (hb1.mono HB0.out.size); have hbx := (Below.refl w1.heap.size w1).alloc (Nat.le_refl _) (.cells #[.int .i64 (C1 rs), .int .i64 (C2 rs), .int .i64 (C3 rs), .int .i64 (C4 rs)] 29); have hby := hbx.alloc hbx.size (.cells #[.int .i64 0, .int .i64 (-1)] 32); have HB1 : Hid (Below w.heap.size w ((w1.alloc (.cells #[.int .i64 (C1 rs), .int .i64 (C2 rs), .int .i64 (C3 rs), .int .i64 (C4 rs)] 29)).alloc (.cells #[.int .i64 0, .int .i64 (-1)] 32))) := HBa.out.trans (hby.mono HBa.out.size); have HS1 : Hid (spotW ((w1.alloc (.cells #[.int .i64 (C1 rs), .int .i64 (C2 rs), .int .i64 (C3 rs), .int .i64 (C4 rs)] 29)).alloc (.cells #[.int .i64 0, .int .i64 (-1)] 32)) w.heap.size line col) := spotW_below (spotW_below HS0.out hb1) hby; clear hb1 hbx hby)
    | (go_at_call 5; refine (cN.out _ HB1.out).mono ?_; rintro e w2 ⟨b, rfl, hR2, hb2⟩; have HB2 : Hid (Below w.heap.size w w2) := HB1.out.trans (hb2.mono HB1.out.size); have HS2 : Hid (spotW w2 w.heap.size line col) := spotW_below HS1.out hb2; have HR2 : Hid (isRope w2 b rs) := hR2; clear hb2 hR2)
    | (go_at_call 15; refine (cA.out _).mono ?_; rintro e w3 ⟨rfl, hb3⟩; have hby := hb3.alloc hb3.size (.cells #[.int .i64 (C1 X), .int .i64 (C2 X), .int .i64 (C3 X), .int .i64 (C4 X)] 29); have HB3 : Hid (Below w.heap.size w (w3.alloc (.cells #[.int .i64 (C1 X), .int .i64 (C2 X), .int .i64 (C3 X), .int .i64 (C4 X)] 29))) := HB2.out.trans (hby.mono HB2.out.size); have HS3 : Hid (spotW (w3.alloc (.cells #[.int .i64 (C1 X), .int .i64 (C2 X), .int .i64 (C3 X), .int .i64 (C4 X)] 29)) w.heap.size line col) := spotW_below HS2.out hby; have HR3 : Hid (isRope (w3.alloc (.cells #[.int .i64 (C1 X), .int .i64 (C2 X), .int .i64 (C3 X), .int .i64 (C4 X)] 29)) b rs) := isRope_below HR2.out hby; clear hb3 hby)
    | (go_at_call 20; refine (cI.out _).mono ?_; rintro e w4 ⟨rfl, hb4⟩; have HB4 : Hid (Below w.heap.size w w4) := HB3.out.trans (hb4.mono HB3.out.size); have HS4 : Hid (spotW w4 w.heap.size line col) := spotW_below HS3.out hb4; have HR4 : Hid (isRope w4 b rs) := isRope_below HR3.out hb4; clear hb4)
    | (go_at_call 21; refine (cV.out _ _ HB4.out HR4.out).mono ?_; rintro e w5 ⟨rfl, hb5⟩; have HB5 : Hid (Below w.heap.size w w5) := HB4.out.trans (hb5.mono HB4.out.size); have HS5 : Hid (spotW w5 w.heap.size line col) := spotW_below HS4.out hb5; have HR5 : Hid (isRope w5 b rs) := isRope_below HR4.out hb5; clear hb5)
    | (go_at_call 22; refine (cS.out _).mono ?_; rintro e w6 ⟨rfl, hb6⟩; have hby := hb6.alloc hb6.size (.cells #[.int .i64 sx, .int .i64 sy] 54); have HB6 : Hid (Below w.heap.size w (w6.alloc (.cells #[.int .i64 sx, .int .i64 sy] 54))) := HB5.out.trans (hby.mono HB5.out.size); have HS6 : Hid (spotW (w6.alloc (.cells #[.int .i64 sx, .int .i64 sy] 54)) w.heap.size line col) := spotW_below HS5.out hby; have HR6 : Hid (isRope (w6.alloc (.cells #[.int .i64 sx, .int .i64 sy] 54)) b rs) := isRope_below HR5.out hby; have HX6 : Hid (spotW (w6.alloc (.cells #[.int .i64 sx, .int .i64 sy] 54)) w6.heap.size sx sy) := spotW_new w6 _ _ _; clear hb6 hby)
    | (go_at_call 23; refine (cT.out _ _ HB6.out HR6.out).mono ?_; rintro e w7 ⟨rfl, hb7⟩; have hby := hb7.alloc hb7.size (.cells #[.int .i64 sx, .int .i64 sy] 54); have HB7 : Hid (Below w.heap.size w (w7.alloc (.cells #[.int .i64 sx, .int .i64 sy] 54))) := HB6.out.trans (hby.mono HB6.out.size); have hs7 := spotW_below HS6.out hby; have HS7 : Hid (spotW (w7.alloc (.cells #[.int .i64 sx, .int .i64 sy] 54)) w.heap.size line col) := hs7; have HR7 : Hid (isRope (w7.alloc (.cells #[.int .i64 sx, .int .i64 sy] 54)) b rs) := isRope_below HR6.out hby; have HX7 : Hid (spotW (w7.alloc (.cells #[.int .i64 sx, .int .i64 sy] 54)) w6.heap.size sx sy) := spotW_below HX6.out hby; have HY7 : Hid (spotW (w7.alloc (.cells #[.int .i64 sx, .int .i64 sy] 54)) w7.heap.size sx sy) := spotW_new w7 _ _ _; have hs7b := spotW_below HS6.out hb7; clear hb7 hby hs7; have hl7 : w.heap.size < w7.heap.size := World.block_lt_of_cell? w7 _ hs7b.1.1; have hn7 : w.heap.size ≠ w7.heap.size := Nat.ne_of_lt hl7; have ⟨⟨p0, p1⟩, _⟩ := hs7b; clear hs7b)
    | (go_at_call 24; refine (cP.out _).mono ?_; rintro e w8 ⟨rfl, hb8⟩; have HB8 : Hid (Below w.heap.size w w8) := HB7.out.trans (hb8.mono HB7.out.size); have hs8 := spotW_below HS7.out hb8; have HR8 : Hid (isRope w8 b rs) := isRope_below HR7.out hb8; have HX8 : Hid (spotW w8 w6.heap.size sx sy) := spotW_below HX7.out hb8; have HY8 : Hid (spotW w8 w7.heap.size sx sy) := spotW_below HY7.out hb8; clear hb8; have ⟨⟨q0, q1⟩, _⟩ := hs8; clear hs8)
    | (go_at_call 25; refine (cQ.out _ _ HB8.out HR8.out).mono ?_; rintro e w9 ⟨rfl, hb9⟩; have HB9 : Hid (Below w.heap.size w w9) := HB8.out.trans (hb9.mono HB8.out.size); have HX9 : Hid (spotW w9 w6.heap.size sx sy) := spotW_below HX8.out hb9; have HY9 : Hid (spotW w9 w7.heap.size sx sy) := spotW_below HY8.out hb9; clear hb9)
    | (have _ := HB11; go_at_call 19; refine (cB3.out _ HB11.out).mono ?_; rintro e w12 ⟨rfl, hb12⟩; have HB12 : Hid (Below w.heap.size w w12) := HB11.out.trans (hb12.mono HB11.out.size); clear hb12)
    | (have _ := HB10; go_at_call 19; refine (cB2.out _ HB10.out).mono ?_; rintro e w11 ⟨rfl, hb11⟩; have HB11 : Hid (Below w.heap.size w w11) := HB10.out.trans (hb11.mono HB10.out.size); have hx11 := spotW_below HX10.out hb11; have hy11 := spotW_below HY10.out hb11; clear hb11; have ⟨⟨r0, r1⟩, _⟩ := hx11; have ⟨⟨t0, t1⟩, _⟩ := hy11; clear hx11 hy11)
    | (go_at_call 19; refine (cB1.out _ HB9.out).mono ?_; rintro e w10 ⟨rfl, hb10⟩; have HB10 : Hid (Below w.heap.size w w10) := HB9.out.trans (hb10.mono HB9.out.size); have HX10 : Hid (spotW w10 w6.heap.size sx sy) := spotW_below HX9.out hb10; have HY10 : Hid (spotW w10 w7.heap.size sx sy) := spotW_below HY9.out hb10; clear hb10)
    | fail)
  go_ret
  exact ⟨rfl, HB12.out⟩

set_option maxRecDepth 100000 in
set_option maxHeartbeats 8000000 in
theorem posLaw_high (s : ByteArray) (rs X : List Nat) (u v at_ line col EA W0 e n sx sy eS nP eP : Int) (n1 : ¬ v < 1) (n2 : 3 < v) (hE : e = 1) (hN : n = 0) (hs : ¬ (400 : Int) < s.size) (w : World)
    (cC : Hid (∀ wx, Calls Tryz.prog 6 #[.string s] wx fun e w' => e = .returned (.tuple #[cntV rs, .agg #[.int .i64 0, .int .i64 (-1)]]) ∧ Below wx.heap.size wx w'))
    (cN : Hid (∀ wx, Below w.heap.size w wx → Calls Tryz.prog 5 #[.string s] wx fun e w' => ∃ b, e = .returned (.tuple #[.pointer (some ⟨b, 0, none⟩), .nilIface]) ∧ isRope w' b rs ∧ Below wx.heap.size wx w'))
    (cA : Hid (∀ wx, Calls Tryz.prog 15 #[.string s, .int .i64 u, .int .i64 at_] wx fun e w' => e = .returned (.tuple #[cntV X, .int .i64 EA]) ∧ Below wx.heap.size wx w'))
    (cI : Hid (∀ wx, Calls Tryz.prog 20 #[cntV X, .int .i64 v] wx fun e w' => e = .returned (.int .i64 W0) ∧ Below wx.heap.size wx w'))
    (cV : Hid (∀ b wx, Below w.heap.size w wx → isRope wx b rs → Calls Tryz.prog 21 #[.pointer (some ⟨b, 0, none⟩), .int .i64 u, .int .i64 v, .int .i64 at_] wx fun x w' => x = .returned (.tuple #[.int .i64 n, errV e]) ∧ Below wx.heap.size wx w'))
    (cS : Hid (∀ wx, Calls Tryz.prog 22 #[.string s, .int .i64 u, .int .i64 at_] wx fun e w' => e = .returned (.tuple #[.agg #[.int .i64 sx, .int .i64 sy], .int .i64 eS]) ∧ Below wx.heap.size wx w'))
    (cT : Hid (∀ b wx, Below w.heap.size w wx → isRope wx b rs → Calls Tryz.prog 23 #[.pointer (some ⟨b, 0, none⟩), .int .i64 u, .int .i64 at_] wx fun e w' => e = .returned (.tuple #[.agg #[.int .i64 sx, .int .i64 sy], errV eS]) ∧ Below wx.heap.size wx w'))
    (cP : Hid (∀ wx, Calls Tryz.prog 24 #[.string s, .int .i64 u, .agg #[.int .i64 line, .int .i64 col]] wx fun e w' => e = .returned (.tuple #[.int .i64 nP, .int .i64 eP]) ∧ Below wx.heap.size wx w'))
    (cQ : Hid (∀ b wx, Below w.heap.size w wx → isRope wx b rs → Calls Tryz.prog 25 #[.pointer (some ⟨b, 0, none⟩), .int .i64 u, .agg #[.int .i64 line, .int .i64 col]] wx fun e w' => e = .returned (.tuple #[.int .i64 nP, errV eP]) ∧ Below wx.heap.size wx w'))
    (cB : Hid (∀ k wx, Below w.heap.size w wx → Calls Tryz.prog 19 #[errV k, .int .i64 k] wx fun e w' => e = .returned (.bool true) ∧ Below wx.heap.size wx w')) :
    Calls Tryz.prog 4 #[.string s, .int .i64 u, .int .i64 v, .int .i64 at_, .agg #[.int .i64 line, .int .i64 col]] w fun e w' => e = .returned (.bool true) ∧ Below w.heap.size w w' := by
  subst hE hN
  have cB1 : Hid _ := cB.out 1
  have cB2 : Hid _ := cB.out eS
  have cB3 : Hid _ := cB.out eP
  clear cB
  obtain ⟨V1, hV1⟩ : ∃ V1, errV 1 = V1 := ⟨_, rfl⟩
  obtain ⟨V2, hV2⟩ : ∃ V2, errV eS = V2 := ⟨_, rfl⟩
  obtain ⟨V3, hV3⟩ : ∃ V3, errV eP = V3 := ⟨_, rfl⟩
  rw [hV1] at cV cB1
  rw [hV2] at cT cB2
  rw [hV3] at cQ cB3
  clear hV1 hV2 hV3
  unfold cntV at cC cA cI
  have HB0 : Hid (Below w.heap.size w (w.alloc (.cells #[.int .i64 line, .int .i64 col] 54))) := (Below.refl _ w).alloc (Nat.le_refl _) _
  have HS0 : Hid (spotW (w.alloc (.cells #[.int .i64 line, .int .i64 col] 54)) w.heap.size line col) := spotW_new w _ _ _
  go_enter Tryz.func4, Tryz.ntmps4
  go_wp2_with (first
    | (go_at_call 6; refine (cC.out _).mono ?_; rintro e w1 ⟨rfl, hb1⟩; have HBa : Hid (Below w.heap.size w w1) := HB0.out.trans (hb1.mono HB0.out.size); have hbx := (Below.refl w1.heap.size w1).alloc (Nat.le_refl _) (.cells #[.int .i64 (C1 rs), .int .i64 (C2 rs), .int .i64 (C3 rs), .int .i64 (C4 rs)] 29); have hby := hbx.alloc hbx.size (.cells #[.int .i64 0, .int .i64 (-1)] 32); have HB1 : Hid (Below w.heap.size w ((w1.alloc (.cells #[.int .i64 (C1 rs), .int .i64 (C2 rs), .int .i64 (C3 rs), .int .i64 (C4 rs)] 29)).alloc (.cells #[.int .i64 0, .int .i64 (-1)] 32))) := HBa.out.trans (hby.mono HBa.out.size); have HS1 : Hid (spotW ((w1.alloc (.cells #[.int .i64 (C1 rs), .int .i64 (C2 rs), .int .i64 (C3 rs), .int .i64 (C4 rs)] 29)).alloc (.cells #[.int .i64 0, .int .i64 (-1)] 32)) w.heap.size line col) := spotW_below (spotW_below HS0.out hb1) hby; clear hb1 hbx hby)
    | (go_at_call 5; refine (cN.out _ HB1.out).mono ?_; rintro e w2 ⟨b, rfl, hR2, hb2⟩; have HB2 : Hid (Below w.heap.size w w2) := HB1.out.trans (hb2.mono HB1.out.size); have HS2 : Hid (spotW w2 w.heap.size line col) := spotW_below HS1.out hb2; have HR2 : Hid (isRope w2 b rs) := hR2; clear hb2 hR2)
    | (go_at_call 15; refine (cA.out _).mono ?_; rintro e w3 ⟨rfl, hb3⟩; have hby := hb3.alloc hb3.size (.cells #[.int .i64 (C1 X), .int .i64 (C2 X), .int .i64 (C3 X), .int .i64 (C4 X)] 29); have HB3 : Hid (Below w.heap.size w (w3.alloc (.cells #[.int .i64 (C1 X), .int .i64 (C2 X), .int .i64 (C3 X), .int .i64 (C4 X)] 29))) := HB2.out.trans (hby.mono HB2.out.size); have HS3 : Hid (spotW (w3.alloc (.cells #[.int .i64 (C1 X), .int .i64 (C2 X), .int .i64 (C3 X), .int .i64 (C4 X)] 29)) w.heap.size line col) := spotW_below HS2.out hby; have HR3 : Hid (isRope (w3.alloc (.cells #[.int .i64 (C1 X), .int .i64 (C2 X), .int .i64 (C3 X), .int .i64 (C4 X)] 29)) b rs) := isRope_below HR2.out hby; clear hb3 hby)
    | (go_at_call 20; refine (cI.out _).mono ?_; rintro e w4 ⟨rfl, hb4⟩; have HB4 : Hid (Below w.heap.size w w4) := HB3.out.trans (hb4.mono HB3.out.size); have HS4 : Hid (spotW w4 w.heap.size line col) := spotW_below HS3.out hb4; have HR4 : Hid (isRope w4 b rs) := isRope_below HR3.out hb4; clear hb4)
    | (go_at_call 21; refine (cV.out _ _ HB4.out HR4.out).mono ?_; rintro e w5 ⟨rfl, hb5⟩; have HB5 : Hid (Below w.heap.size w w5) := HB4.out.trans (hb5.mono HB4.out.size); have HS5 : Hid (spotW w5 w.heap.size line col) := spotW_below HS4.out hb5; have HR5 : Hid (isRope w5 b rs) := isRope_below HR4.out hb5; clear hb5)
    | (go_at_call 22; refine (cS.out _).mono ?_; rintro e w6 ⟨rfl, hb6⟩; have hby := hb6.alloc hb6.size (.cells #[.int .i64 sx, .int .i64 sy] 54); have HB6 : Hid (Below w.heap.size w (w6.alloc (.cells #[.int .i64 sx, .int .i64 sy] 54))) := HB5.out.trans (hby.mono HB5.out.size); have HS6 : Hid (spotW (w6.alloc (.cells #[.int .i64 sx, .int .i64 sy] 54)) w.heap.size line col) := spotW_below HS5.out hby; have HR6 : Hid (isRope (w6.alloc (.cells #[.int .i64 sx, .int .i64 sy] 54)) b rs) := isRope_below HR5.out hby; have HX6 : Hid (spotW (w6.alloc (.cells #[.int .i64 sx, .int .i64 sy] 54)) w6.heap.size sx sy) := spotW_new w6 _ _ _; clear hb6 hby)
    | (go_at_call 23; refine (cT.out _ _ HB6.out HR6.out).mono ?_; rintro e w7 ⟨rfl, hb7⟩; have hby := hb7.alloc hb7.size (.cells #[.int .i64 sx, .int .i64 sy] 54); have HB7 : Hid (Below w.heap.size w (w7.alloc (.cells #[.int .i64 sx, .int .i64 sy] 54))) := HB6.out.trans (hby.mono HB6.out.size); have hs7 := spotW_below HS6.out hby; have HS7 : Hid (spotW (w7.alloc (.cells #[.int .i64 sx, .int .i64 sy] 54)) w.heap.size line col) := hs7; have HR7 : Hid (isRope (w7.alloc (.cells #[.int .i64 sx, .int .i64 sy] 54)) b rs) := isRope_below HR6.out hby; have HX7 : Hid (spotW (w7.alloc (.cells #[.int .i64 sx, .int .i64 sy] 54)) w6.heap.size sx sy) := spotW_below HX6.out hby; have HY7 : Hid (spotW (w7.alloc (.cells #[.int .i64 sx, .int .i64 sy] 54)) w7.heap.size sx sy) := spotW_new w7 _ _ _; have hs7b := spotW_below HS6.out hb7; clear hb7 hby hs7; have hl7 : w.heap.size < w7.heap.size := World.block_lt_of_cell? w7 _ hs7b.1.1; have hn7 : w.heap.size ≠ w7.heap.size := Nat.ne_of_lt hl7; have ⟨⟨p0, p1⟩, _⟩ := hs7b; clear hs7b)
    | (go_at_call 24; refine (cP.out _).mono ?_; rintro e w8 ⟨rfl, hb8⟩; have HB8 : Hid (Below w.heap.size w w8) := HB7.out.trans (hb8.mono HB7.out.size); have hs8 := spotW_below HS7.out hb8; have HR8 : Hid (isRope w8 b rs) := isRope_below HR7.out hb8; have HX8 : Hid (spotW w8 w6.heap.size sx sy) := spotW_below HX7.out hb8; have HY8 : Hid (spotW w8 w7.heap.size sx sy) := spotW_below HY7.out hb8; clear hb8; have ⟨⟨q0, q1⟩, _⟩ := hs8; clear hs8)
    | (go_at_call 25; refine (cQ.out _ _ HB8.out HR8.out).mono ?_; rintro e w9 ⟨rfl, hb9⟩; have HB9 : Hid (Below w.heap.size w w9) := HB8.out.trans (hb9.mono HB8.out.size); have HX9 : Hid (spotW w9 w6.heap.size sx sy) := spotW_below HX8.out hb9; have HY9 : Hid (spotW w9 w7.heap.size sx sy) := spotW_below HY8.out hb9; clear hb9)
    | (have _ := HB11; go_at_call 19; refine (cB3.out _ HB11.out).mono ?_; rintro e w12 ⟨rfl, hb12⟩; have HB12 : Hid (Below w.heap.size w w12) := HB11.out.trans (hb12.mono HB11.out.size); clear hb12)
    | (have _ := HB10; go_at_call 19; refine (cB2.out _ HB10.out).mono ?_; rintro e w11 ⟨rfl, hb11⟩; have HB11 : Hid (Below w.heap.size w w11) := HB10.out.trans (hb11.mono HB10.out.size); have hx11 := spotW_below HX10.out hb11; have hy11 := spotW_below HY10.out hb11; clear hb11; have ⟨⟨r0, r1⟩, _⟩ := hx11; have ⟨⟨t0, t1⟩, _⟩ := hy11; clear hx11 hy11)
    | (go_at_call 19; refine (cB1.out _ HB9.out).mono ?_; rintro e w10 ⟨rfl, hb10⟩; have HB10 : Hid (Below w.heap.size w w10) := HB9.out.trans (hb10.mono HB9.out.size); have HX10 : Hid (spotW w10 w6.heap.size sx sy) := spotW_below HX9.out hb10; have HY10 : Hid (spotW w10 w7.heap.size sx sy) := spotW_below HY9.out hb10; clear hb10)
    | fail)
  go_ret
  exact ⟨rfl, HB12.out⟩
end Go.Proofs.YtgmgkbbnciglhaaGreatDoor

namespace Go.Proofs.YtgmgkbbnciglhaaGreatDoor
open Go.RowKit
set_option linter.unusedVariables false
attribute [local go_sem] Oper.semAt_some

/-- What the document's Ahead tells. -/
def axN (u at_ : Int) (rs : List Nat) : List Nat :=
  if ¬ (u = 1 ∨ u = 2 ∨ u = 3) then [] else if at_ < 0 ∨ by_ u rs < at_ then [] else if by_ u (upTo rs u at_) = at_ then upTo rs u at_ else []
def axE (u at_ : Int) (rs : List Nat) : Int :=
  if ¬ (u = 1 ∨ u = 2 ∨ u = 3) then 1 else if at_ < 0 ∨ by_ u rs < at_ then 2 else if by_ u (upTo rs u at_) = at_ then 0 else 10
theorem refAhead_all (s : ByteArray) (rs : List Nat) (u at_ : Int) (hr : ∀ r ∈ rs, isRune r) (he : encs rs = s.data.toList) (hs : s.size < 1000000) (w : World) :
    Calls Tryz.prog 15 #[.string s, .int .i64 u, .int .i64 at_] w fun e w' => e = .returned (.tuple #[cntV (axN u at_ rs), .int .i64 (axE u at_ rs)]) ∧ Below w.heap.size w w' := by
  unfold axN axE
  by_cases hu : (u = 1 ∨ u = 2 ∨ u = 3)
  · rw [if_neg (not_not_intro hu), if_neg (not_not_intro hu)]
    by_cases hl : at_ < 0 ∨ by_ u rs < at_
    · rw [if_pos hl, if_pos hl]
      exact refAhead_rng s rs u at_ hr he hs hu hl w
    · rw [if_neg hl, if_neg hl]
      have cA := refAhead_any s rs u at_ hr he hs hu (by omega) (by omega) w
      by_cases hf : by_ u (upTo rs u at_) = at_
      · rw [if_pos hf, if_pos hf]
        have ho : onEdge rs u at_ = true := decide_eq_true hf
        rw [ho] at cA
        exact cA
      · rw [if_neg hf, if_neg hf]
        have ho : onEdge rs u at_ = false := decide_eq_false hf
        rw [ho] at cA
        exact cA
  · rw [if_pos hu, if_pos hu]
    exact refAhead_bad s u at_ hu w
theorem convE_good {u v at_ : Int} {rs : List Nat} (hv : v = 1 ∨ v = 2 ∨ v = 3) : convE u v at_ rs = .tuple #[.int .i64 (by_ v (axN u at_ rs)), errV (axE u at_ rs)] := by
  unfold convE axN axE
  rw [if_neg (not_not_intro hv)]
  by_cases hu : (u = 1 ∨ u = 2 ∨ u = 3)
  · rw [if_neg (not_not_intro hu), if_neg (not_not_intro hu), if_neg (not_not_intro hu)]
    by_cases hl : at_ < 0 ∨ by_ u rs < at_
    · rw [if_pos hl, if_pos hl, if_pos hl, by_nil]
    · rw [if_neg hl, if_neg hl, if_neg hl]
      by_cases hf : by_ u (find (reachesBy u at_) [] rs) = at_
      · have hf2 : by_ u (upTo rs u at_) = at_ := hf
        rw [if_pos hf, if_pos hf2, if_pos hf2]
        rfl
      · have hf2 : ¬ by_ u (upTo rs u at_) = at_ := hf
        rw [if_neg hf, if_neg hf2, if_neg hf2, by_nil]
  · rw [if_pos hu, if_pos hu, if_pos hu, by_nil]
theorem convE_bad {u v at_ : Int} {rs : List Nat} (hv : ¬ (v = 1 ∨ v = 2 ∨ v = 3)) : convE u v at_ rs = .tuple #[.int .i64 0, errV 1] := by
  unfold convE
  rw [if_pos hv]
/-- What both Spots tell. -/
def spX (u at_ : Int) (rs : List Nat) : Int := C4 (axN u at_ rs)
def spY (u at_ : Int) (rs : List Nat) : Int := by_ u (axN u at_ rs) - by_ u (find (reachesLine (C4 (axN u at_ rs))) [] rs)
theorem find_none (rs : List Nat) : find (reachesLine (C4 [])) [] rs = [] := by
  have e : reachesLine (C4 []) [] = true := decide_eq_true (Int.le_refl _)
  unfold find
  rw [e, if_pos rfl]
theorem spotE_same {u at_ : Int} {rs : List Nat} : spotE u at_ rs = .tuple #[.agg #[.int .i64 (spX u at_ rs), .int .i64 (spY u at_ rs)], errV (axE u at_ rs)] := by
  unfold spotE spX spY axN axE
  by_cases hu : (u = 1 ∨ u = 2 ∨ u = 3)
  · rw [if_neg (not_not_intro hu), if_neg (not_not_intro hu), if_neg (not_not_intro hu)]
    by_cases hl : at_ < 0 ∨ by_ u rs < at_
    · rw [if_pos hl, if_pos hl, if_pos hl, find_none, by_nil]; rfl
    · rw [if_neg hl, if_neg hl, if_neg hl]
      by_cases hf : by_ u (upTo rs u at_) = at_
      · rw [if_pos hf, if_pos hf, if_pos hf]; rfl
      · rw [if_neg hf, if_neg hf, if_neg hf, find_none, by_nil]; rfl
  · rw [if_pos hu, if_pos hu, if_pos hu, find_none, by_nil]; rfl
theorem refSpotE_same {u at_ : Int} {rs : List Nat} : refSpotE u at_ rs = .tuple #[.agg #[.int .i64 (spX u at_ rs), .int .i64 (spY u at_ rs)], .int .i64 (axE u at_ rs)] := by
  unfold refSpotE spX spY axN axE
  by_cases hu : (u = 1 ∨ u = 2 ∨ u = 3)
  · rw [if_neg (not_not_intro hu), if_neg (not_not_intro hu), if_neg (not_not_intro hu)]
    by_cases hl : at_ < 0 ∨ by_ u rs < at_
    · rw [if_pos hl, if_pos hl, if_pos hl, find_none, by_nil]; rfl
    · rw [if_neg hl, if_neg hl, if_neg hl]
      by_cases hf : by_ u (upTo rs u at_) = at_
      · rw [if_pos hf, if_pos hf, if_pos hf]
      · rw [if_neg hf, if_neg hf, if_neg hf, find_none, by_nil]; rfl
  · rw [if_pos hu, if_pos hu, if_pos hu, find_none, by_nil]; rfl
theorem axN_small (u at_ : Int) (rs : List Nat) (hz : C1 rs ≤ 100000000) : C1 (axN u at_ rs) ≤ 100000000 := by
  have h0 : C1 [] ≤ 100000000 := by decide
  unfold axN
  split
  · exact h0
  · split
    · exact h0
    · split
      · exact find_small _ rs hz
      · exact h0
theorem by_bad {v : Int} (hv : ¬ (v = 1 ∨ v = 2 ∨ v = 3)) (rs : List Nat) : by_ v rs = 0 := by
  unfold by_
  rw [if_neg (fun h => hv (.inl h)), if_neg (fun h => hv (.inr (.inl h))), if_neg (fun h => hv (.inr (.inr h)))]

set_option maxRecDepth 100000 in
set_option maxHeartbeats 4000000 in
theorem posConverts_any (s : List UInt8) (u v at_ line col : Int) (w : World) (hv0 : -9223372036854775808 ≤ v) (hv1 : v < 9223372036854775808) (hg : asLaid w) (hT : Lib.Utf8Tabs 2 3 w) :
    Calls Tryz.prog 4 #[.string ⟨s.toArray⟩, .int .i64 u, .int .i64 v, .int .i64 at_, .agg #[.int .i64 line, .int .i64 col]] w fun e w' => e = .returned (.bool true) ∧ Below w.heap.size w w' := by
  have hz : (ByteArray.mk s.toArray).size = s.length := by simp [ByteArray.size]
  by_cases hs : 400 < s.length
  · have h2 : (400 : Int) < (s.length : Int) := by omega
    have HB0 : Hid (Below w.heap.size w (w.alloc (.cells #[.int .i64 line, .int .i64 col] 54))) := (Below.refl _ w).alloc (Nat.le_refl _) _
    clear hT hg
    go_enter Tryz.func4, Tryz.ntmps4
    go_wp2
    go_ret
    exact ⟨rfl, HB0.out⟩
  have hs2 : ¬ (400 : Int) < (s.length : Int) := by omega
  by_cases hok : (scan s).2 = true
  case neg =>
    have cN : Hid _ := fun wx => refCount_bad ⟨s.toArray⟩ (by rw [hz]; omega) wx (Bool.eq_false_iff.2 hok)
    generalize place (ByteArray.mk s.toArray).data.toList = PL at cN
    unfold cnt fault at cN
    have HB0 : Hid (Below w.heap.size w (w.alloc (.cells #[.int .i64 line, .int .i64 col] 54))) := (Below.refl _ w).alloc (Nat.le_refl _) _
    clear hT hg hok
    go_enter Tryz.func4, Tryz.ntmps4
    go_wp2_with (first | (go_at_call 6; refine Calls.mono (cN.out _) ?_; rintro e w1 ⟨hb1, rfl⟩; have HB1 : Hid (Below w.heap.size w w1) := HB0.out.trans (hb1.mono HB0.out.size); clear hb1) | fail)
    go_ret
    exact ⟨rfl, (HB1.out.alloc HB1.out.size _).alloc (Nat.le_trans HB1.out.size (by simp)) _⟩
  case pos =>
    obtain ⟨rs, hrs⟩ : ∃ rs, runesOf s = rs := ⟨_, rfl⟩
    have he : encs rs = s := by rw [← hrs]; exact encs_runesOf hok
    have hrun : ∀ r ∈ rs, isRune r := fun r h => runesOf_rune (by rw [hrs]; exact h)
    have hC1 : C1 rs = s.length := by rw [C1_len, he]
    have heb : bytesOf rs = ⟨s.toArray⟩ := by unfold bytesOf; rw [he]
    have hd : (ByteArray.mk s.toArray).data.toList = s := rfl
    have hsz : ¬ (400 : Int) < (ByteArray.mk s.toArray).size := by rw [hz]; exact hs2
    have hsm : (ByteArray.mk s.toArray).size < 1000000 := by rw [hz]; omega
    have hzz : C1 rs ≤ 100000000 := by omega
    have he2 : encs rs = (ByteArray.mk s.toArray).data.toList := by rw [hd]; exact he
    have cC : Hid (∀ wx, Calls Tryz.prog 6 #[.string ⟨s.toArray⟩] wx fun e w' => e = .returned (.tuple #[cntV rs, .agg #[.int .i64 0, .int .i64 (-1)]]) ∧ Below wx.heap.size wx w') := fun wx => refCount_of ⟨s.toArray⟩ rs hrun he2 (by rw [hz]; omega) wx
    have cN : Hid (∀ wx, Below w.heap.size w wx → Calls Tryz.prog 5 #[.string ⟨s.toArray⟩] wx fun e w' => ∃ b, e = .returned (.tuple #[.pointer (some ⟨b, 0, none⟩), .nilIface]) ∧ isRope w' b rs ∧ Below wx.heap.size wx w') := fun wx hb => by
      have := new_good rs hrun (by omega) wx (Go.Proofs.Utf8Tabs_below hT hb)
      rw [heb] at this
      exact this.mono fun e w' h => by obtain ⟨b, h1, _, h2, h3⟩ := h; exact ⟨b, h1, h2, h3⟩
    have cA := fun wx => refAhead_all ⟨s.toArray⟩ rs u at_ hrun he2 hsm wx
    have cI := fun wx => refIn_any v (axN u at_ rs) hv0 hv1 (axN_small u at_ rs hzz) wx
    have cV := fun b wx (hb : Below w.heap.size w wx) h => convert_all b rs u v at_ wx (Go.Proofs.Utf8Tabs_below hT hb) h hzz
    have cS := fun wx => refSpot_all ⟨s.toArray⟩ rs u at_ hrun he2 hsm wx
    have cT := fun b wx (hb : Below w.heap.size w wx) h => spot_all b rs u at_ wx (Go.Proofs.Utf8Tabs_below hT hb) h hzz
    have cP := fun wx => refPlace_all ⟨s.toArray⟩ rs u line col hrun he2 hsm wx
    have cQ := fun b wx (hb : Below w.heap.size w wx) h => place_all b rs u line col wx (Go.Proofs.Utf8Tabs_below hT hb) h hzz
    have cB := fun (k : Int) wx (hb : Below w.heap.size w wx) => bare_any k wx (asLaid_below hg hb)
    rw [refSpotE_same] at cS
    rw [spotE_same] at cT
    rw [placeE_same] at cQ
    by_cases hv : (v = 1 ∨ v = 2 ∨ v = 3)
    · rw [convE_good hv] at cV
      exact posLaw_good _ rs _ u v at_ line col _ _ _ _ _ _ _ _ _ (by omega) (by omega) rfl rfl hsz w cC cN cA cI cV cS cT cP cQ cB
    · rw [convE_bad hv] at cV
      by_cases h1 : v < 1
      · exact posLaw_low _ rs _ u v at_ line col _ _ _ _ _ _ _ _ _ h1 rfl rfl hsz w cC cN cA cI cV cS cT cP cQ cB
      · exact posLaw_high _ rs _ u v at_ line col _ _ _ _ _ _ _ _ _ h1 (by omega) rfl rfl hsz w cC cN cA cI cV cS cT cP cQ cB
end Go.Proofs.YtgmgkbbnciglhaaGreatDoor
