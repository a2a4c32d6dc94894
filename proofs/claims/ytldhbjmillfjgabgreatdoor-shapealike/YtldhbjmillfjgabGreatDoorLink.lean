/-
  rope.link: a chunk above two trees.
-/
import Derived.Test.YtldhbjmillfjgabGreatDoorTree
namespace Go.Proofs.YtldhbjmillfjgabGreatDoor
open Go.RowKit
set_option linter.unusedVariables false
attribute [local go_sem] yieldsUpon okUpon

/-- A chunk as a value. -/
def chunkV (rs : List Nat) : Value := .agg #[.string (bytesOf rs), .int .i64 (C1 rs), .int .i64 (C2 rs), .int .i64 (C3 rs), .int .i64 (C4 rs)]

set_option maxRecDepth 100000 in
set_option maxHeartbeats 400000 in
theorem link_any (pl pr : Option Addr) (l r : T) (rs : List Nat) (w : World) (hl : isTree w pl l) (hr : isTree w pr r) (hz : C1 l.runes + C1 rs + C1 r.runes ≤ 1000000000) (hs : l.size < 1000000000 ∧ r.size < 1000000000 ∧ l.height < 1000000000 ∧ r.height < 1000000000) :
    Calls Tryz.prog 161 #[.pointer pl, chunkV rs, .pointer pr] w fun e w' => ∃ p, e = .returned (.pointer p) ∧ isTree w' p (.node l rs r) ∧ Below w.heap.size w w' := by
  have l1 := C3_le l.runes
  have l2 := C2_le l.runes
  have l4 := C4_le l.runes
  have r1 := C3_le r.runes
  have r2 := C2_le r.runes
  have r4 := C4_le r.runes
  have m1 := C3_le rs
  have m2 := C2_le rs
  have m4 := C4_le rs
  have HL : Hid (isTree w pl l) := hl
  have HR : Hid (isTree w pr r) := hr
  have t1 : Hid (C1 (T.node l rs r).runes = C1 l.runes + C1 rs + C1 r.runes) := by show _ = _; simp only [T.runes, C1_append]
  have t2 : Hid (C2 (T.node l rs r).runes = C2 l.runes + C2 rs + C2 r.runes) := by show _ = _; simp only [T.runes, C2_append]
  have t3 : Hid (C3 (T.node l rs r).runes = C3 l.runes + C3 rs + C3 r.runes) := by show _ = _; simp only [T.runes, C3_append]
  have t4 : Hid (C4 (T.node l rs r).runes = C4 l.runes + C4 rs + C4 r.runes) := by show _ = _; simp only [T.runes, C4_append]
  have t5 : Hid (((T.node l rs r).height : Int) = 1 + max (l.height : Int) r.height) := by show _ = _; simp only [T.height]; omega
  have t6 : Hid (((T.node l rs r).size : Int) = 1 + l.size + r.size) := by show _ = _; simp only [T.size]; omega
  have cl := fun (wx : World) (hb : Below w.heap.size w wx) => ncounts_any pl l wx (isTree_below hb hl)
  have cr := fun (wx : World) (hb : Below w.heap.size w wx) => ncounts_any pr r wx (isTree_below hb hr)
  have hhl := fun (wx : World) (hb : Below w.heap.size w wx) => nheight_any pl l wx (isTree_below hb hl)
  have hhr := fun (wx : World) (hb : Below w.heap.size w wx) => nheight_any pr r wx (isTree_below hb hr)
  have sl := fun (wx : World) (hb : Below w.heap.size w wx) => nsize_any pl l wx (isTree_below hb hl)
  have sr := fun (wx : World) (hb : Below w.heap.size w wx) => nsize_any pr r wx (isTree_below hb hr)
  have p1 : ∀ wx, Calls Tryz.prog 110 #[.agg #[.int .i64 (C1 l.runes), .int .i64 (C2 l.runes), .int .i64 (C3 l.runes), .int .i64 (C4 l.runes)], .agg #[.int .i64 (C1 rs), .int .i64 (C2 rs), .int .i64 (C3 rs), .int .i64 (C4 rs)]] wx
      fun e w' => e = .returned (.agg #[.int .i64 (C1 l.runes + C1 rs), .int .i64 (C2 l.runes + C2 rs), .int .i64 (C3 l.runes + C3 rs), .int .i64 (C4 l.runes + C4 rs)]) ∧ Below wx.heap.size wx w' := fun wx => by
    have := plus_any (C1 l.runes) (C2 l.runes) (C3 l.runes) (C4 l.runes) (C1 rs) (C2 rs) (C3 rs) (C4 rs) wx
    rwa [wrap64_small (by omega) (by omega), wrap64_small (by omega) (by omega), wrap64_small (by omega) (by omega), wrap64_small (by omega) (by omega)] at this
  have p2 : ∀ wx, Calls Tryz.prog 110 #[.agg #[.int .i64 (C1 l.runes + C1 rs), .int .i64 (C2 l.runes + C2 rs), .int .i64 (C3 l.runes + C3 rs), .int .i64 (C4 l.runes + C4 rs)], .agg #[.int .i64 (C1 r.runes), .int .i64 (C2 r.runes), .int .i64 (C3 r.runes), .int .i64 (C4 r.runes)]] wx
      fun e w' => e = .returned (.agg #[.int .i64 (C1 l.runes + C1 rs + C1 r.runes), .int .i64 (C2 l.runes + C2 rs + C2 r.runes), .int .i64 (C3 l.runes + C3 rs + C3 r.runes), .int .i64 (C4 l.runes + C4 rs + C4 r.runes)]) ∧ Below wx.heap.size wx w' := fun wx => by
    have := plus_any (C1 l.runes + C1 rs) (C2 l.runes + C2 rs) (C3 l.runes + C3 rs) (C4 l.runes + C4 rs) (C1 r.runes) (C2 r.runes) (C3 r.runes) (C4 r.runes) wx
    rwa [wrap64_small (by omega) (by omega), wrap64_small (by omega) (by omega), wrap64_small (by omega) (by omega), wrap64_small (by omega) (by omega)] at this
  clear hl hr l1 l2 l4 r1 r2 r4 m1 m2 m4 hz
  obtain ⟨hs1, hs2, hs3, hs4⟩ := hs
  unfold chunkV
  generalize hB : bytesOf rs = B at *
  have HB : Hid (bytesOf rs = B) := hB
  clear hB
  generalize hx1 : C1 rs = x1 at *
  have Hx1 : Hid (C1 rs = x1) := hx1
  clear hx1
  generalize hx2 : C2 rs = x2 at *
  have Hx2 : Hid (C2 rs = x2) := hx2
  clear hx2
  generalize hx3 : C3 rs = x3 at *
  have Hx3 : Hid (C3 rs = x3) := hx3
  clear hx3
  generalize hx4 : C4 rs = x4 at *
  have Hx4 : Hid (C4 rs = x4) := hx4
  clear hx4
  generalize ha1 : C1 l.runes = a1 at *
  clear ha1
  generalize ha2 : C2 l.runes = a2 at *
  clear ha2
  generalize ha3 : C3 l.runes = a3 at *
  clear ha3
  generalize ha4 : C4 l.runes = a4 at *
  clear ha4
  generalize hb1 : C1 r.runes = b1 at *
  clear hb1
  generalize hb2 : C2 r.runes = b2 at *
  clear hb2
  generalize hb3 : C3 r.runes = b3 at *
  clear hb3
  generalize hb4 : C4 r.runes = b4 at *
  clear hb4
  generalize hk1 : (l.height : Int) = k1 at *
  generalize hk2 : (r.height : Int) = k2 at *
  generalize hk3 : (l.size : Int) = k3 at *
  generalize hk4 : (r.size : Int) = k4 at *
  have z1 : 0 ≤ k1 ∧ k1 < 1000000000 := by omega
  have z2 : 0 ≤ k2 ∧ k2 < 1000000000 := by omega
  have z3 : 0 ≤ k3 ∧ k3 < 1000000000 := by omega
  have z4 : 0 ≤ k4 ∧ k4 < 1000000000 := by omega
  clear hk1 hk2 hk3 hk4 hs1 hs2 hs3 hs4
  go_enter Tryz.func161, Tryz.ntmps161
  go_wp2
  refine wp_region_rel 26 26 (by kernel_rfl) rfl ?_
  intro w1 hb1
  have hb0 : Below w.heap.size w (w.alloc (.cells #[.string B, .int .i64 x1, .int .i64 x2, .int .i64 x3, .int .i64 x4] 194)) := (Below.refl _ w).alloc (Nat.le_refl _) _
  have hbw : Below w.heap.size w w1 := hb0.trans (hb1.mono hb0.size)
  obtain ⟨G, hG⟩ := exists_growth w1
  have g0 : ∀ x, (G x).cell? ⟨w.heap.size, 0, none⟩ = some (.string B) := hG.cell (cell_on hb1 (by simp [go_sem]))
  have g1 : ∀ x, (G x).cell? ⟨w.heap.size, 1, none⟩ = some (.int .i64 x1) := hG.cell (cell_on hb1 (by simp [go_sem]))
  have g2 : ∀ x, (G x).cell? ⟨w.heap.size, 2, none⟩ = some (.int .i64 x2) := hG.cell (cell_on hb1 (by simp [go_sem]))
  have g3 : ∀ x, (G x).cell? ⟨w.heap.size, 3, none⟩ = some (.int .i64 x3) := hG.cell (cell_on hb1 (by simp [go_sem]))
  have g4 : ∀ x, (G x).cell? ⟨w.heap.size, 4, none⟩ = some (.int .i64 x4) := hG.cell (cell_on hb1 (by simp [go_sem]))
  have wb : ∀ x, Below w.heap.size w (G x) := fun x => hbw.trans ((hG.below x).mono hbw.size)
  have cl' := fun x => cl (G x) (wb x)
  have cr' := fun x => cr (G x) (wb x)
  have hl' := fun x => (hhl (G x) (wb x)).mono (R' := fun e w' => e = .returned (.int .i64 k1) ∧ Below (G x).heap.size (G x) w') (by rintro e w' ⟨rfl, rfl⟩; exact ⟨rfl, Below.refl _ _⟩)
  have hr' := fun x => (hhr (G x) (wb x)).mono (R' := fun e w' => e = .returned (.int .i64 k2) ∧ Below (G x).heap.size (G x) w') (by rintro e w' ⟨rfl, rfl⟩; exact ⟨rfl, Below.refl _ _⟩)
  have sl' := fun x => (sl (G x) (wb x)).mono (R' := fun e w' => e = .returned (.int .i64 k3) ∧ Below (G x).heap.size (G x) w') (by rintro e w' ⟨rfl, rfl⟩; exact ⟨rfl, Below.refl _ _⟩)
  have sr' := fun x => (sr (G x) (wb x)).mono (R' := fun e w' => e = .returned (.int .i64 k4) ∧ Below (G x).heap.size (G x) w') (by rintro e w' ⟨rfl, rfl⟩; exact ⟨rfl, Below.refl _ _⟩)
  clear cl cr hhl hhr sl sr wb hb0
  (refine anyG_step hG (i := 0) rfl (by kernel_rfl) (by kernel_rfl) (by kernel_rfl) (fun K hK => ?_); go_simp; refine hK _ ?_; clear hK K)
  (refine anyG_step hG (i := 1) rfl (by kernel_rfl) (by kernel_rfl) (by kernel_rfl) (fun K hK => ?_); go_simp; refine hK _ ?_; clear hK K)
  (refine anyG_step hG (i := 2) rfl (by kernel_rfl) (by kernel_rfl) (by kernel_rfl) (fun K hK => ?_); go_simp; refine hK _ ?_; clear hK K)
  (refine anyG_step hG (i := 3) rfl (by kernel_rfl) (by kernel_rfl) (by kernel_rfl) (fun K hK => ?_); go_simp; refine hK _ ?_; clear hK K)
  (refine anyG_step hG (i := 4) rfl (by kernel_rfl) (by kernel_rfl) (by kernel_rfl) (fun K hK => ?_); go_simp; apply Exists.intro; refine ⟨fun _ => ?_, hK _ ?_⟩; exact cl' _; clear hK K)
  (refine anyG_step hG (i := 5) rfl (by kernel_rfl) (by kernel_rfl) (by kernel_rfl) (fun K hK => ?_); go_simp; refine hK _ ?_; clear hK K)
  (refine anyG_step hG (i := 6) rfl (by kernel_rfl) (by kernel_rfl) (by kernel_rfl) (fun K hK => ?_); go_simp; refine hK _ ?_; clear hK K)
  (refine anyG_step hG (i := 7) rfl (by kernel_rfl) (by kernel_rfl) (by kernel_rfl) (fun K hK => ?_); go_simp; apply Exists.intro; refine ⟨fun _ => ?_, hK _ ?_⟩; exact p1 _; clear hK K)
  (refine anyG_step hG (i := 8) rfl (by kernel_rfl) (by kernel_rfl) (by kernel_rfl) (fun K hK => ?_); go_simp; refine hK _ ?_; clear hK K)
  (refine anyG_step hG (i := 9) rfl (by kernel_rfl) (by kernel_rfl) (by kernel_rfl) (fun K hK => ?_); go_simp; apply Exists.intro; refine ⟨fun _ => ?_, hK _ ?_⟩; exact cr' _; clear hK K)
  (refine anyG_step hG (i := 10) rfl (by kernel_rfl) (by kernel_rfl) (by kernel_rfl) (fun K hK => ?_); go_simp; apply Exists.intro; refine ⟨fun _ => ?_, hK _ ?_⟩; exact p2 _; clear hK K)
  (refine anyG_step hG (i := 11) rfl (by kernel_rfl) (by kernel_rfl) (by kernel_rfl) (fun K hK => ?_); go_simp; refine hK _ ?_; clear hK K)
  (refine anyG_step hG (i := 12) rfl (by kernel_rfl) (by kernel_rfl) (by kernel_rfl) (fun K hK => ?_); go_simp; apply Exists.intro; refine ⟨fun _ => ?_, hK _ ?_⟩; exact hl' _; clear hK K)
  (refine anyG_step hG (i := 13) rfl (by kernel_rfl) (by kernel_rfl) (by kernel_rfl) (fun K hK => ?_); go_simp; refine hK _ ?_; clear hK K)
  (refine anyG_step hG (i := 14) rfl (by kernel_rfl) (by kernel_rfl) (by kernel_rfl) (fun K hK => ?_); go_simp; apply Exists.intro; refine ⟨fun _ => ?_, hK _ ?_⟩; exact hr' _; clear hK K)
  (refine anyG_step hG (i := 15) rfl (by kernel_rfl) (by kernel_rfl) (by kernel_rfl) (fun K hK => ?_); go_simp; refine hK _ ?_; clear hK K)
  (refine anyG_step hG (i := 16) rfl (by kernel_rfl) (by kernel_rfl) (by kernel_rfl) (fun K hK => ?_); go_simp; refine hK _ ?_; clear hK K)
  (refine anyG_step hG (i := 17) rfl (by kernel_rfl) (by kernel_rfl) (by kernel_rfl) (fun K hK => ?_); go_simp; refine hK _ ?_; clear hK K)
  (refine anyG_step hG (i := 18) rfl (by kernel_rfl) (by kernel_rfl) (by kernel_rfl) (fun K hK => ?_); go_simp; apply Exists.intro; refine ⟨fun _ => ?_, hK _ ?_⟩; exact sl' _; clear hK K)
  (refine anyG_step hG (i := 19) rfl (by kernel_rfl) (by kernel_rfl) (by kernel_rfl) (fun K hK => ?_); go_simp; refine hK _ ?_; clear hK K)
  (refine anyG_step hG (i := 20) rfl (by kernel_rfl) (by kernel_rfl) (by kernel_rfl) (fun K hK => ?_); go_simp; refine hK _ ?_; clear hK K)
  (refine anyG_step hG (i := 21) rfl (by kernel_rfl) (by kernel_rfl) (by kernel_rfl) (fun K hK => ?_); go_simp; apply Exists.intro; refine ⟨fun _ => ?_, hK _ ?_⟩; exact sr' _; clear hK K)
  (refine anyG_step hG (i := 22) rfl (by kernel_rfl) (by kernel_rfl) (by kernel_rfl) (fun K hK => ?_); go_simp; refine hK _ ?_; clear hK K)
  (refine anyG_step hG (i := 23) rfl (by kernel_rfl) (by kernel_rfl) (by kernel_rfl) (fun K hK => ?_); go_simp; refine hK _ ?_; clear hK K)
  clear cl' cr' hl' hr' sl' sr' p1 p2 g0 g1 g2 g3 g4
  have e5 : IntKind.i64.wrap (1 + max k1 k2) = 1 + max k1 k2 := IntWalk.i64_in _ (by omega)
  have e6 : IntKind.i64.wrap (1 + k3) = 1 + k3 := IntWalk.i64_in _ (by omega)
  have e7 : IntKind.i64.wrap (1 + k3 + k4) = 1 + k3 + k4 := IntWalk.i64_in _ (by omega)
  rw [e5, e6, e7]
  refine anyG_one (i := 24) rfl (by kernel_rfl) ?_
  intro w2 hb2 K hK
  go_simp
  refine hK _ _ ((Below.refl _ w2).alloc (Nat.le_refl _) _) ?_
  clear hK K
  refine anyG_one (i := 25) rfl (by kernel_rfl) ?_
  intro w3 hb3 K hK
  go_simp
  refine hK _ _ (Below.refl _ w3) ?_
  clear hK K
  refine anyG_end (by kernel_rfl) ?_
  intro w4 hb4
  have hb23 : Below w2.heap.size w2 _ := (Below.refl _ w2).alloc (Nat.le_refl _) (.cells #[.string B, .int .i64 x1, .int .i64 x2, .int .i64 x3, .int .i64 x4, .pointer pl, .pointer pr, .int .i64 (a1 + x1 + b1), .int .i64 (a2 + x2 + b2), .int .i64 (a3 + x3 + b3), .int .i64 (a4 + x4 + b4), .int .i64 (1 + max k1 k2), .int .i64 (1 + k3 + k4)] 208)
  have hb34 := hb3.trans (hb4.mono hb3.size)
  have hbw4 : Below w.heap.size w w4 := hbw.trans ((hb2.trans ((hb23.trans (hb34.mono hb23.size)).mono hb2.size)).mono hbw.size)
  have hcell : ∀ o v, (w2.alloc (.cells #[.string B, .int .i64 x1, .int .i64 x2, .int .i64 x3, .int .i64 x4, .pointer pl, .pointer pr, .int .i64 (a1 + x1 + b1), .int .i64 (a2 + x2 + b2), .int .i64 (a3 + x3 + b3), .int .i64 (a4 + x4 + b4), .int .i64 (1 + max k1 k2), .int .i64 (1 + k3 + k4)] 208)).cell? ⟨w2.heap.size, o, none⟩ = some v → w4.cell? ⟨w2.heap.size, o, none⟩ = some v := fun o v h => cell_on hb34 h
  have hT : isTree w4 (some ⟨w2.heap.size, 0, none⟩) (.node l rs r) := by
    refine ⟨w2.heap.size, pl, pr, rfl, ⟨hcell _ _ ?_, hcell _ _ ?_, hcell _ _ ?_, hcell _ _ ?_, hcell _ _ ?_⟩, ⟨hcell _ _ ?_, hcell _ _ ?_⟩, ⟨hcell _ _ ?_, hcell _ _ ?_, hcell _ _ ?_, hcell _ _ ?_⟩, ⟨hcell _ _ ?_, hcell _ _ ?_⟩, isTree_below hbw4 HL.out, isTree_below hbw4 HR.out⟩
    · simp [go_sem, HB.out]
    · simp [go_sem, Hx1.out]
    · simp [go_sem, Hx2.out]
    · simp [go_sem, Hx3.out]
    · simp [go_sem, Hx4.out]
    · simp [go_sem]
    · simp [go_sem]
    · simp [go_sem, t1.out]
    · simp [go_sem, t2.out]
    · simp [go_sem, t3.out]
    · simp [go_sem, t4.out]
    · simp [go_sem, t5.out]
    · simp [go_sem, t6.out]
  clear hcell hb2 hb23 hb34 hb3 hb4 t1 t2 t3 t4 t5 t6
  have HT : Hid _ := hT
  clear hT
  go_wp2
  go_ret
  exact ⟨_, rfl, HT.out, hbw4⟩
end Go.Proofs.YtldhbjmillfjgabGreatDoor
