/-
  rope.turn, where the left one is the higher by two: twice.
-/
import Derived.Test.YtldhbjmillfjgabGreatDoorTurn
namespace Go.Proofs.YtldhbjmillfjgabGreatDoor
open Go.RowKit
set_option linter.unusedVariables false
attribute [local go_sem] yieldsUpon okUpon

set_option maxRecDepth 100000 in
set_option maxHeartbeats 2000000 in
theorem turn_A (pl pr : Option Addr) (ll a d r : T) (c lc b : List Nat) (w : World) (hl : isTree w pl (.node ll lc (.node a b d))) (hr : isTree w pr r) (hz : big (.node (.node ll lc a) b (.node d c r))) (hd : (T.node ll lc (.node a b d)).height = r.height + 2) (hc : ll.height < (T.node a b d).height) :
    Calls Tryz.prog 190 #[.pointer pl, chunkV c, .pointer pr] w fun e w' => ∃ p, e = .returned (.pointer p) ∧ isTree w' p (.node (.node ll lc a) b (.node d c r)) ∧ Below w.heap.size w w' := by
  have hb0 : ∀ o, Below w.heap.size w (w.alloc o) := fun o => (Below.refl _ w).alloc (Nat.le_refl _) o
  have HL : Hid (isTree w pl (.node ll lc (.node a b d))) := hl
  have HR : Hid (isTree w pr r) := hr
  have cl := fun o => nheight_any pl (.node ll lc (.node a b d)) (w.alloc o) (isTree_below (hb0 o) hl)
  have cr := fun o => nheight_any pr r (w.alloc o) (isTree_below (hb0 o) hr)
  have hzT := hz
  obtain ⟨z1, z2, _, _⟩ := big_node hz
  obtain ⟨b1, pll, plr, rfl, ⟨uc0, uc1, uc2, uc3, uc4⟩, ⟨uc5, uc6⟩, _, _, hlu, hru⟩ := hl
  have hruT := hru
  obtain ⟨b2, pa, pd, rfl, ⟨vc0, vc1, vc2, vc3, vc4⟩, ⟨vc5, vc6⟩, _, _, hlv, hrv⟩ := hruT
  have hq : ((T.node ll lc (.node a b d)).height : Int) < 1000000000 ∧ (r.height : Int) < 1000000000 ∧ ((T.node a b d).height : Int) < 1000000000 ∧ (ll.height : Int) < 1000000000 := by
    have e1 := (big_node hz).2.2.2
    have e2 := height_size (T.node (.node ll lc a) b (.node d c r))
    have e3 := hz.2
    simp only [T.height, T.size] at *
    omega
  have hp : 0 ≤ ((T.node ll lc (.node a b d)).height : Int) ∧ 0 ≤ (r.height : Int) := by omega
  have k0 : ((T.node ll lc (.node a b d)).height : Int) = (r.height : Int) + 2 := by rw [hd]; push_cast; rfl
  have k1 : (((T.node ll lc (.node a b d)).height : Int) - r.height == 2) = true := by rw [beq_iff_eq]; omega
  have k2 : (((T.node ll lc (.node a b d)).height : Int) - r.height == -2) = false := by rw [beq_eq_false_iff_ne]; omega
  have k3 : ((ll.height : Int) < ((T.node a b d).height : Int)) := by omega
  have ck := fun wx (hb : Below w.heap.size w wx) => (nheight_any (some ⟨b2, 0, none⟩) (.node a b d) wx (isTree_below hb hru)).mono (R' := fun e w' => e = .returned (.int .i64 (T.node a b d).height) ∧ Below wx.heap.size wx w') (by rintro e w' ⟨rfl, rfl⟩; exact ⟨rfl, Below.refl _ _⟩)
  have co := fun wx (hb : Below w.heap.size w wx) => (nheight_any pll ll wx (isTree_below hb hlu)).mono (R' := fun e w' => e = .returned (.int .i64 ll.height) ∧ Below wx.heap.size wx w') (by rintro e w' ⟨rfl, rfl⟩; exact ⟨rfl, Below.refl _ _⟩)
  have HLU : Hid _ := hlu
  have HRU : Hid _ := hru
  have HLV : Hid _ := hlv
  have HRV : Hid _ := hrv
  clear k0 hd hc hzT
  generalize ((T.node ll lc (.node a b d)).height : Int) = x1 at *
  generalize (r.height : Int) = x2 at *
  generalize ((T.node a b d).height : Int) = x3 at *
  generalize (ll.height : Int) = x4 at *
  have HZ : Hid _ := hz
  have Hz1 : Hid _ := z1
  have Hz2 : Hid _ := z2
  clear hz z1 z2 hlu hru hlv hrv
  have d6 := fun o => cell_on (hb0 o) uc6
  unfold chunkV
  go_enter Tryz.func190, Tryz.ntmps190
  go_wp2_with (first | (go_at_call_of 189 b1; refine (cl _).mono ?_; rintro e w1 ⟨rfl, rfl⟩) | (go_at_call_of 189 pr; refine (cr _).mono ?_; rintro e w1 ⟨rfl, rfl⟩) | fail)
  obtain ⟨W1, hW1⟩ : ∃ W1, w.alloc (.cells #[.string (bytesOf c), .int .i64 (C1 c), .int .i64 (C2 c), .int .i64 (C3 c), .int .i64 (C4 c)] 194) = W1 := ⟨_, rfl⟩
  have hbW1 : Below w.heap.size w W1 := by rw [← hW1]; exact hb0 _
  have x0 : W1.cell? ⟨w.heap.size, 0, none⟩ = some (.string (bytesOf c)) := by rw [← hW1]; simp [go_sem]
  have y1 : W1.cell? ⟨w.heap.size, 1, none⟩ = some (.int .i64 (C1 c)) := by rw [← hW1]; simp [go_sem]
  have y2 : W1.cell? ⟨w.heap.size, 2, none⟩ = some (.int .i64 (C2 c)) := by rw [← hW1]; simp [go_sem]
  have y3 : W1.cell? ⟨w.heap.size, 3, none⟩ = some (.int .i64 (C3 c)) := by rw [← hW1]; simp [go_sem]
  have y4 : W1.cell? ⟨w.heap.size, 4, none⟩ = some (.int .i64 (C4 c)) := by rw [← hW1]; simp [go_sem]
  rw [hW1]
  clear hW1 cl cr
  obtain ⟨G0, hG0⟩ := exists_growth W1
  have hb0w : ∀ x, Below w.heap.size w (G0 x) := fun x => hbW1.trans ((hG0.below x).mono hbW1.size)
  have q5 := hG0.cell (cell_on hbW1 uc5)
  have HG0 : Hid (Growth W1 G0) := hG0
  refine wp_region_grow hG0 (by kernel_rfl) (by kernel_rfl) ?_
  clear hG0 d6
  repeat (first
    | go_big_quiet_skip
    | (go_big_quiet_want; go_big_quiet_op; first | go_big_quiet_on | (apply Exists.intro; refine ⟨fun _ => ?_, ?_⟩; (first | (go_at_call_of 189 b2; exact grow_of HG0.out (ck _ (hb0w _))) | (go_at_call_of 189 pll; exact grow_of HG0.out (co _ (hb0w _)))); go_big_quiet_on)))
  refine wpQuiet_nil ?_
  rintro w0 ⟨xx, rfl⟩
  go_wp2
  have hbx := hb0w xx
  have hbx1 : Below W1.heap.size W1 (G0 xx) := HG0.out.below xx
  obtain ⟨w0, hw0⟩ : ∃ w0, G0 xx = w0 := ⟨_, rfl⟩
  rw [hw0] at hbx hbx1 ⊢
  clear hw0 q5 HG0 hb0w ck co
  refine wp_region_rel 26 26 (by kernel_rfl) rfl ?_
  intro w1 hb1
  have hbw : Below w.heap.size w w1 := hbx.trans (hb1.mono hbx.size)
  have hbb : Below W1.heap.size W1 w1 := hbx1.trans (hb1.mono hbx1.size)
  obtain ⟨G, hG⟩ := exists_growth w1
  have g0 := hG.cell (cell_on hbb x0)
  have g1 := hG.cell (cell_on hbb y1)
  have g2 := hG.cell (cell_on hbb y2)
  have g3 := hG.cell (cell_on hbb y3)
  have g4 := hG.cell (cell_on hbb y4)
  have ug0 := hG.cell (cell_on hbw uc0)
  have ug1 := hG.cell (cell_on hbw uc1)
  have ug2 := hG.cell (cell_on hbw uc2)
  have ug3 := hG.cell (cell_on hbw uc3)
  have ug4 := hG.cell (cell_on hbw uc4)
  have ug5 := hG.cell (cell_on hbw uc5)
  have ug6 := hG.cell (cell_on hbw uc6)
  have vg0 := hG.cell (cell_on hbw vc0)
  have vg1 := hG.cell (cell_on hbw vc1)
  have vg2 := hG.cell (cell_on hbw vc2)
  have vg3 := hG.cell (cell_on hbw vc3)
  have vg4 := hG.cell (cell_on hbw vc4)
  have vg5 := hG.cell (cell_on hbw vc5)
  have vg6 := hG.cell (cell_on hbw vc6)
  clear uc0 uc1 uc2 uc3 uc4 uc5 uc6 vc0 vc1 vc2 vc3 vc4 vc5 vc6 x0 y1 y2 y3 y4 hbb hbx hbx1 hb1
  (refine anyG_step hG (i := 0) rfl (by kernel_rfl) (by kernel_rfl) (by kernel_rfl) (fun K hK => ?_); go_simp; refine hK _ ?_; clear hK K)
  (refine anyG_step hG (i := 1) rfl (by kernel_rfl) (by kernel_rfl) (by kernel_rfl) (fun K hK => ?_); go_simp; refine hK _ ?_; clear hK K)
  (refine anyG_step hG (i := 2) rfl (by kernel_rfl) (by kernel_rfl) (by kernel_rfl) (fun K hK => ?_); go_simp; refine hK _ ?_; clear hK K)
  (refine anyG_step hG (i := 3) rfl (by kernel_rfl) (by kernel_rfl) (by kernel_rfl) (fun K hK => ?_); go_simp; refine hK _ ?_; clear hK K)
  (refine anyG_step hG (i := 4) rfl (by kernel_rfl) (by kernel_rfl) (by kernel_rfl) (fun K hK => ?_); go_simp; refine hK _ ?_; clear hK K)
  (refine anyG_step hG (i := 5) rfl (by kernel_rfl) (by kernel_rfl) (by kernel_rfl) (fun K hK => ?_); go_simp; refine hK _ ?_; clear hK K)
  (refine anyG_step hG (i := 6) rfl (by kernel_rfl) (by kernel_rfl) (by kernel_rfl) (fun K hK => ?_); go_simp; refine hK _ ?_; clear hK K)
  (refine anyG_step hG (i := 7) rfl (by kernel_rfl) (by kernel_rfl) (by kernel_rfl) (fun K hK => ?_); go_simp; refine hK _ ?_; clear hK K)
  (refine anyG_step hG (i := 8) rfl (by kernel_rfl) (by kernel_rfl) (by kernel_rfl) (fun K hK => ?_); go_simp; refine hK _ ?_; clear hK K)
  (refine anyG_step hG (i := 9) rfl (by kernel_rfl) (by kernel_rfl) (by kernel_rfl) (fun K hK => ?_); go_simp; refine hK _ ?_; clear hK K)
  (refine anyG_step hG (i := 10) rfl (by kernel_rfl) (by kernel_rfl) (by kernel_rfl) (fun K hK => ?_); go_simp; refine hK _ ?_; clear hK K)
  (refine anyG_step hG (i := 11) rfl (by kernel_rfl) (by kernel_rfl) (by kernel_rfl) (fun K hK => ?_); go_simp; refine hK _ ?_; clear hK K)
  (refine anyG_step hG (i := 13) rfl (by kernel_rfl) (by kernel_rfl) (by kernel_rfl) (fun K hK => ?_); go_simp; refine hK _ ?_; clear hK K)
  (refine anyG_step hG (i := 14) rfl (by kernel_rfl) (by kernel_rfl) (by kernel_rfl) (fun K hK => ?_); go_simp; refine hK _ ?_; clear hK K)
  (refine anyG_step hG (i := 15) rfl (by kernel_rfl) (by kernel_rfl) (by kernel_rfl) (fun K hK => ?_); go_simp; refine hK _ ?_; clear hK K)
  (refine anyG_step hG (i := 16) rfl (by kernel_rfl) (by kernel_rfl) (by kernel_rfl) (fun K hK => ?_); go_simp; refine hK _ ?_; clear hK K)
  (refine anyG_step hG (i := 17) rfl (by kernel_rfl) (by kernel_rfl) (by kernel_rfl) (fun K hK => ?_); go_simp; refine hK _ ?_; clear hK K)
  (refine anyG_step hG (i := 18) rfl (by kernel_rfl) (by kernel_rfl) (by kernel_rfl) (fun K hK => ?_); go_simp; refine hK _ ?_; clear hK K)
  (refine anyG_step hG (i := 19) rfl (by kernel_rfl) (by kernel_rfl) (by kernel_rfl) (fun K hK => ?_); go_simp; refine hK _ ?_; clear hK K)
  (refine anyG_step hG (i := 20) rfl (by kernel_rfl) (by kernel_rfl) (by kernel_rfl) (fun K hK => ?_); go_simp; refine hK _ ?_; clear hK K)
  (refine anyG_step hG (i := 21) rfl (by kernel_rfl) (by kernel_rfl) (by kernel_rfl) (fun K hK => ?_); go_simp; refine hK _ ?_; clear hK K)
  (refine anyG_step hG (i := 22) rfl (by kernel_rfl) (by kernel_rfl) (by kernel_rfl) (fun K hK => ?_); go_simp; refine hK _ ?_; clear hK K)
  clear g0 g1 g2 g3 g4 ug0 ug1 ug2 ug3 ug4 ug5 ug6 vg0 vg1 vg2 vg3 vg4 vg5 vg6 hG
  refine anyG_one (i := 12) rfl (by kernel_rfl) ?_
  intro w2 hbw2 K hK
  have hww2 : Below w.heap.size w w2 := hbw.trans (hbw2.mono hbw.size)
  have ck := link_fits Hz1.out (isTree_below hww2 HLU.out) (isTree_below hww2 HLV.out)
  unfold chunkV at ck
  go_simp
  refine ck.mono ?_
  rintro e w3 ⟨p1, rfl, ht1, hb3⟩
  have hww3 : Below w.heap.size w w3 := hww2.trans (hb3.mono hww2.size)
  refine ⟨_, rfl, hK _ _ hb3 ?_⟩
  clear hK K ck
  refine anyG_one (i := 23) rfl (by kernel_rfl) ?_
  intro w4 hbw4 K hK
  have hww4 : Below w.heap.size w w4 := hww3.trans (hbw4.mono hww3.size)
  have ck := link_fits Hz2.out (isTree_below hww4 HRV.out) (isTree_below hww4 HR.out)
  unfold chunkV at ck
  go_simp
  refine ck.mono ?_
  rintro e w5 ⟨p2, rfl, ht2, hb5⟩
  have hww5 : Below w.heap.size w w5 := hww4.trans (hb5.mono hww4.size)
  refine ⟨_, rfl, hK _ _ hb5 ?_⟩
  clear hK K ck
  have ht1' := isTree_below (hbw4.trans (hb5.mono hbw4.size)) ht1
  refine anyG_one (i := 24) rfl (by kernel_rfl) ?_
  intro w6 hbw6 K hK
  have hww6 : Below w.heap.size w w6 := hww5.trans (hbw6.mono hww5.size)
  have ck := link_fits HZ.out (isTree_below hbw6 ht1') (isTree_below hbw6 ht2)
  unfold chunkV at ck
  go_simp
  refine ck.mono ?_
  rintro e w7 ⟨p3, rfl, ht3, hb7⟩
  have hww7 : Below w.heap.size w w7 := hww6.trans (hb7.mono hww6.size)
  refine ⟨_, rfl, hK _ _ hb7 ?_⟩
  clear hK K ck
  clear ht1 ht2 ht1'
  refine anyG_one (i := 25) rfl (by kernel_rfl) ?_
  intro w90 hb90 K hK
  go_simp
  refine hK _ _ (Below.refl _ w90) ?_
  clear hK K
  refine anyG_end (by kernel_rfl) ?_
  intro w91 hb91
  have hb92 := hb90.trans (hb91.mono hb90.size)
  have hw92 : Below w.heap.size w w91 := hww7.trans (hb92.mono hww7.size)
  have HT : Hid _ := isTree_below hb92 ht3
  clear hb90 hb91 hb92 ht3
  go_wp2
  go_ret
  exact ⟨_, rfl, HT.out, hw92⟩

end Go.Proofs.YtldhbjmillfjgabGreatDoor
