/-
  rope's Ahead and Line.
-/
import Derived.Test.YtldhbjmillfjgabGreatDoorUnits
namespace Go.Proofs.YtldhbjmillfjgabGreatDoor
open Go.RowKit
set_option linter.unusedVariables false
attribute [local go_sem] Oper.semAt_some yieldsUpon okUpon field0 field3

set_option maxRecDepth 100000 in
set_option maxHeartbeats 2000000 in
theorem ahead1_asks (u at_ : Int) (b1 b2 : Nat) (W : World) (hu : W.cell? ⟨b1, 0, none⟩ = some (.int .i64 u)) (ha : W.cell? ⟨b2, 0, none⟩ = some (.int .i64 at_)) : asks W 194 #[.pointer (some ⟨b1, 0, none⟩), .pointer (some ⟨b2, 0, none⟩)] (reachesBy u at_) := by
  refine ⟨enters_of Tryz.func194 (by kernel_rfl) rfl, fun rs wx _ hbx => ?_⟩
  have h0 := cell_on hbx hu
  have h1 := cell_on hbx ha
  have hbw : Below wx.heap.size wx (wx.alloc (.cells #[.int .i64 (C1 rs), .int .i64 (C2 rs), .int .i64 (C3 rs), .int .i64 (C4 rs)] 25)) := (Below.refl _ _).alloc (Nat.le_refl _) _
  have hc := counted_new wx (C1 rs) (C2 rs) (C3 rs) (C4 rs) 25
  have k0 := cell_on hbw h0
  have k1 := cell_on hbw h1
  have cI := fun wy => In_any u rs wy
  unfold cntV at cI ⊢
  unfold reachesBy
  generalize by_ u rs = n at *
  go_enter Tryz.func194, Tryz.ntmps194
  go_wp2_with (first | (go_at_call 9999) | fail)
  refine wp_region_rel 6 6 (by kernel_rfl) rfl ?_
  intro w1 hb1
  obtain ⟨G, hG⟩ := exists_growth w1
  have hc1 := counted_below hc hb1
  obtain ⟨⟨a0, a1, a2, a3⟩, _⟩ := hc1
  have g0 := hG.cell a0
  have g1 := hG.cell a1
  have g2 := hG.cell a2
  have g3 := hG.cell a3
  have gu := hG.cell (cell_on hb1 k0)
  have ga := hG.cell (cell_on hb1 k1)
  have cG := fun x => cI (G x)
  (refine anyG_step hG (i := 0) rfl (by kernel_rfl) (by kernel_rfl) (by kernel_rfl) (fun K hK => ?_); go_simp; refine hK _ ?_; clear hK K)
  (refine anyG_step hG (i := 1) rfl (by kernel_rfl) (by kernel_rfl) (by kernel_rfl) (fun K hK => ?_); go_simp; refine hK _ ?_; clear hK K)
  (refine anyG_step hG (i := 2) rfl (by kernel_rfl) (by kernel_rfl) (by kernel_rfl) (fun K hK => ?_); go_simp; apply Exists.intro; refine ⟨fun _ => ?_, hK _ ?_⟩; exact cG _; clear hK K)
  (refine anyG_step hG (i := 3) rfl (by kernel_rfl) (by kernel_rfl) (by kernel_rfl) (fun K hK => ?_); go_simp; refine hK _ ?_; clear hK K)
  (refine anyG_step hG (i := 4) rfl (by kernel_rfl) (by kernel_rfl) (by kernel_rfl) (fun K hK => ?_); go_simp; refine hK _ ?_; clear hK K)
  (refine anyG_step hG (i := 5) rfl (by kernel_rfl) (by kernel_rfl) (by kernel_rfl) (fun K hK => ?_); go_simp; refine hK _ ?_; clear hK K)
  clear g0 g1 g2 g3 gu ga cG hG
  refine anyG_end (by kernel_rfl) ?_
  intro w2 hb2
  have hb4 := hbw.trans ((hb1.trans (hb2.mono hb1.size)).mono hbw.size)
  clear hb1 hb2 a0 a1 a2 a3 k0 k1 hc
  go_wp2
  go_ret
  exact ⟨by simp, hb4⟩

end Go.Proofs.YtldhbjmillfjgabGreatDoor
