/-
  rope's Ahead, of a unit, at a place that there is.
-/
import Derived.Test.YtldhbjmillfjgabGreatDoorAhead
namespace Go.Proofs.YtldhbjmillfjgabGreatDoor
open Go.RowKit
set_option linter.unusedVariables false
attribute [local go_sem] Oper.semAt_some yieldsUpon okUpon field0 field3

set_option maxRecDepth 100000 in
set_option maxHeartbeats 2000000 in
theorem isUnit_good (u : Int) (hu : u = 1 ∨ u = 2 ∨ u = 3) (w : World) : Calls Tryz.prog 192 #[.int .i64 u] w fun e w' => e = .returned (.bool true) ∧ w' = w := by
  rcases hu with rfl | rfl | rfl
  · go_enter Tryz.func192, Tryz.ntmps192
    go_wp2
    go_ret
    exact ⟨rfl, rfl⟩
  · go_enter Tryz.func192, Tryz.ntmps192
    go_wp2
    go_ret
    exact ⟨rfl, rfl⟩
  · go_enter Tryz.func192, Tryz.ntmps192
    go_wp2
    go_ret
    exact ⟨rfl, rfl⟩

set_option maxRecDepth 100000 in
set_option maxHeartbeats 2000000 in
theorem ahead_any (b : Nat) (rs : List Nat) (u at_ : Int) (hu : u = 1 ∨ u = 2 ∨ u = 3) (hl0 : 0 ≤ at_) (hl1 : at_ ≤ by_ u rs) (w : World) (hT : Lib.Utf8Tabs 2 3 w) (h : isRope w b rs) (hz : C1 rs ≤ 100000000) :
    Calls Tryz.prog 163 #[.pointer (some ⟨b, 0, none⟩), .int .i64 u, .int .i64 at_] w fun e w' => e = .returned (.tuple (if by_ u (find (reachesBy u at_) [] rs) = at_ then #[cntV (find (reachesBy u at_) [] rs), .nilIface] else #[cntV [], .iface 26 (.int .i64 10)])) ∧ Below w.heap.size w w' := by
  obtain ⟨q, t, h1, _, _, h4, ho, rfl⟩ := h
  have hb2 : Below w.heap.size w (((w.alloc (.cells #[.int .i64 u] 3)).alloc (.cells #[.int .i64 at_] 3)).alloc (.cells #[.int .i64 0, .int .i64 0, .int .i64 0, .int .i64 0] 25)) := (((Below.refl _ w).alloc (Nat.le_refl _) _).alloc (by simp) _).alloc (by simp; omega) _
  have hlu : (((w.alloc (.cells #[.int .i64 u] 3)).alloc (.cells #[.int .i64 at_] 3)).alloc (.cells #[.int .i64 0, .int .i64 0, .int .i64 0, .int .i64 0] 25)).cell? ⟨w.heap.size, 0, none⟩ = some (.int .i64 u) := by simp [go_sem]
  have hla : (((w.alloc (.cells #[.int .i64 u] 3)).alloc (.cells #[.int .i64 at_] 3)).alloc (.cells #[.int .i64 0, .int .i64 0, .int .i64 0, .int .i64 0] 25)).cell? ⟨w.heap.size + 1, 0, none⟩ = some (.int .i64 at_) := by simp [go_sem]
  have hr := counted_new ((w.alloc (.cells #[.int .i64 u] 3)).alloc (.cells #[.int .i64 at_] 3)) 0 0 0 0 25
  rw [World.size_alloc, World.size_alloc] at hr
  have cT := fun wx (hb : Below w.heap.size w wx) => ropetree_any b q wx (cell_on hb h1)
  have cC := fun wx (hb : Below w.heap.size w wx) => ncounts_any q t wx (isTree_below hb h4)
  have cN := fun wx => isUnit_good u hu wx
  have cI := fun wx => In_any u t.runes wx
  have HU : Hid (∀ wx, Below w.heap.size w wx → wx.cell? ⟨w.heap.size, 0, none⟩ = some (.int .i64 u) → wx.cell? ⟨w.heap.size + 1, 0, none⟩ = some (.int .i64 at_) → Calls Tryz.prog 193 #[.pointer q, .func (.func 194) #[] #[.pointer (some ⟨w.heap.size, 0, none⟩), .pointer (some ⟨w.heap.size + 1, 0, none⟩)]] wx fun e w' => e = .returned (cntV (find (reachesBy u at_) [] t.runes)) ∧ Below wx.heap.size wx w') :=
    fun wx (hb : Below w.heap.size w wx) h1 h2 => until_any (reachesBy u at_) (reachesBy_rising u at_) _ _ q t wx (Go.Proofs.Utf8Tabs_below hT hb) (isTree_below hb h4) ho hz (ahead1_asks u at_ w.heap.size (w.heap.size + 1) wx h1 h2)
  have HX : Hid (∀ wx, Calls Tryz.prog 19 #[cntV (find (reachesBy u at_) [] t.runes), .int .i64 u] wx fun e w' => e = .returned (.int .i64 (by_ u (find (reachesBy u at_) [] t.runes))) ∧ Below wx.heap.size wx w') := fun wx => In_any u _ wx
  generalize find (reachesBy u at_) [] t.runes = X at *
  generalize by_ u t.runes = n at *
  generalize by_ u X = nx at *
  have n0 : ¬ at_ < 0 := by omega
  have n1 : ¬ n < at_ := by omega
  clear h4 ho hT hu hz
  unfold cntV at cI HU HX ⊢
  go_enter Tryz.func163, Tryz.ntmps163
  go_wp2_with (first
    | (go_at_call 192; refine (cN _).mono ?_; rintro e w1 ⟨rfl, hw1⟩; obtain rfl := hw1.symm)
    | (go_at_call 66; refine (cT _ hb2).mono ?_; rintro e w1 ⟨rfl, hw1⟩; obtain rfl := hw1.symm)
    | fail)
  obtain ⟨W2, hW2⟩ : ∃ W2, (((w.alloc (.cells #[.int .i64 u] 3)).alloc (.cells #[.int .i64 at_] 3)).alloc (.cells #[.int .i64 0, .int .i64 0, .int .i64 0, .int .i64 0] 25)) = W2 := ⟨_, rfl⟩
  rw [hW2] at hb2 hlu hla hr ⊢
  clear hW2
  refine wp_region_rel 10 10 (by kernel_rfl) rfl ?_
  intro w3 hb3
  have hb23 := hb2.trans (hb3.mono hb2.size)
  obtain ⟨G, hG⟩ := exists_growth w3
  have gl := hG.cell (cell_on hb3 hla)
  have gu := hG.cell (cell_on hb3 hlu)
  have cG := fun x => cC (G x) (hb23.trans ((hG.below x).mono hb23.size))
  have cJ := fun x => cI (G x)
  (refine anyG_step hG (i := 0) rfl (by kernel_rfl) (by kernel_rfl) (by kernel_rfl) (fun K hK => ?_); go_simp; refine hK _ ?_; clear hK K)
  (refine anyG_step hG (i := 1) rfl (by kernel_rfl) (by kernel_rfl) (by kernel_rfl) (fun K hK => ?_); go_simp; refine hK _ ?_; clear hK K)
  (refine anyG_step hG (i := 2) rfl (by kernel_rfl) (by kernel_rfl) (by kernel_rfl) (fun K hK => ?_); go_simp; refine hK _ ?_; clear hK K)
  (refine anyG_step hG (i := 3) rfl (by kernel_rfl) (by kernel_rfl) (by kernel_rfl) (fun K hK => ?_); go_simp; refine hK _ ?_; clear hK K)
  (refine anyG_step hG (i := 4) rfl (by kernel_rfl) (by kernel_rfl) (by kernel_rfl) (fun K hK => ?_); go_simp; refine hK _ ?_; clear hK K)
  (refine anyG_step hG (i := 5) rfl (by kernel_rfl) (by kernel_rfl) (by kernel_rfl) (fun K hK => ?_); go_simp; apply Exists.intro; refine ⟨fun _ => ?_, hK _ ?_⟩; exact cG _; clear hK K)
  (refine anyG_step hG (i := 6) rfl (by kernel_rfl) (by kernel_rfl) (by kernel_rfl) (fun K hK => ?_); go_simp; refine hK _ ?_; clear hK K)
  (refine anyG_step hG (i := 7) rfl (by kernel_rfl) (by kernel_rfl) (by kernel_rfl) (fun K hK => ?_); go_simp; apply Exists.intro; refine ⟨fun _ => ?_, hK _ ?_⟩; exact cJ _; clear hK K)
  (refine anyG_step hG (i := 8) rfl (by kernel_rfl) (by kernel_rfl) (by kernel_rfl) (fun K hK => ?_); go_simp; refine hK _ ?_; clear hK K)
  (refine anyG_step hG (i := 9) rfl (by kernel_rfl) (by kernel_rfl) (by kernel_rfl) (fun K hK => ?_); go_simp; refine hK _ ?_; clear hK K)
  clear gl gu cG cJ hG
  refine anyG_end (by kernel_rfl) ?_
  intro w4 hb4
  have hb34 := hb3.trans (hb4.mono hb3.size)
  have hb24 := hb2.trans (hb34.mono hb2.size)
  have hlu4 := cell_on hb34 hlu
  have hla4 := cell_on hb34 hla
  have hr4 := counted_below hr hb34
  have cU4 := HU.out w4 hb24 hlu4 hla4
  clear hb3 hb4 hb34 hb23 cC cT cI cN hlu hla hr
  go_wp2_with (first
    | (go_at_call 193; refine cU4.mono ?_; rintro e w5 ⟨rfl, hb5⟩)
    | fail)
  have hbx : Below w5.heap.size w5 (w5.alloc (.cells #[.int .i64 (C1 X), .int .i64 (C2 X), .int .i64 (C3 X), .int .i64 (C4 X)] 25)) := (Below.refl _ _).alloc (Nat.le_refl _) _
  have hb46 := hb5.trans (hbx.mono hb5.size)
  have hcX := counted_new w5 (C1 X) (C2 X) (C3 X) (C4 X) 25
  have hlu6 := cell_on hb46 hlu4
  have hla6 := cell_on hb46 hla4
  have hr6 := counted_below hr4 hb46
  have hb26 := hb24.trans (hb46.mono hb24.size)
  generalize (w5.alloc (.cells #[.int .i64 (C1 X), .int .i64 (C2 X), .int .i64 (C3 X), .int .i64 (C4 X)] 25)) = W6 at *
  generalize w5.heap.size = B5 at *
  clear hb5 hbx hb46 hlu4 hla4 hr4 hb24 cU4
  refine wp_region_rel 5 5 (by kernel_rfl) rfl ?_
  intro w7 hb7
  obtain ⟨G, hG⟩ := exists_growth w7
  have hc7 := counted_below hcX hb7
  obtain ⟨⟨a0, a1, a2, a3⟩, _⟩ := hc7
  have g0 := hG.cell a0
  have g1 := hG.cell a1
  have g2 := hG.cell a2
  have g3 := hG.cell a3
  have gu := hG.cell (cell_on hb7 hlu6)
  have ga := hG.cell (cell_on hb7 hla6)
  have cG := fun x => HX.out (G x)
  (refine anyG_step hG (i := 0) rfl (by kernel_rfl) (by kernel_rfl) (by kernel_rfl) (fun K hK => ?_); go_simp; refine hK _ ?_; clear hK K)
  (refine anyG_step hG (i := 1) rfl (by kernel_rfl) (by kernel_rfl) (by kernel_rfl) (fun K hK => ?_); go_simp; refine hK _ ?_; clear hK K)
  (refine anyG_step hG (i := 2) rfl (by kernel_rfl) (by kernel_rfl) (by kernel_rfl) (fun K hK => ?_); go_simp; apply Exists.intro; refine ⟨fun _ => ?_, hK _ ?_⟩; exact cG _; clear hK K)
  (refine anyG_step hG (i := 3) rfl (by kernel_rfl) (by kernel_rfl) (by kernel_rfl) (fun K hK => ?_); go_simp; refine hK _ ?_; clear hK K)
  (refine anyG_step hG (i := 4) rfl (by kernel_rfl) (by kernel_rfl) (by kernel_rfl) (fun K hK => ?_); go_simp; refine hK _ ?_; clear hK K)
  clear g0 g1 g2 g3 gu ga cG hG a0 a1 a2 a3
  refine anyG_end (by kernel_rfl) ?_
  intro w8 hb8
  have hb78 := hb7.trans (hb8.mono hb7.size)
  have hb28 := hb26.trans (hb78.mono hb26.size)
  have hc8 := counted_below hcX hb78
  have hr8 := counted_below hr6 hb78
  have HR8 : Hid _ := hr8
  obtain ⟨⟨a0, a1, a2, a3⟩, _⟩ := hc8
  obtain ⟨⟨z0, z1, z2, z3⟩, y0, y1, y2, y3⟩ := hr8
  clear hb7 hb8 hb78 hb26 hcX hr6 hlu6 hla6
  by_cases hx : nx = at_
  · subst hx
    go_wp2
    have hset := counted_set (m1 := C1 X) (m2 := C2 X) (m3 := C3 X) (m4 := C4 X) HR8.out
    obtain ⟨⟨s0, s1, s2, s3⟩, _⟩ := hset
    refine bodyPost_ret (v := .tuple #[.agg #[.int .i64 (C1 X), .int .i64 (C2 X), .int .i64 (C3 X), .int .i64 (C4 X)], .nilIface]) (by simp [results, Tryz.results163, go_sem, s0, s1, s2, s3]) rfl ⟨rfl, below_set4 hb28 (by omega) _ _ _ _⟩
  · have hx1 : (nx == at_) = false := beq_eq_false_iff_ne.2 hx
    go_wp2
    have hset := counted_set (m1 := 0) (m2 := 0) (m3 := 0) (m4 := 0) HR8.out
    obtain ⟨⟨s0, s1, s2, s3⟩, _⟩ := hset
    refine bodyPost_ret (v := .tuple #[.agg #[.int .i64 0, .int .i64 0, .int .i64 0, .int .i64 0], .iface 26 (.int .i64 10)]) (by simp [results, Tryz.results163, go_sem, s0, s1, s2, s3]) rfl ⟨rfl, below_set4 hb28 (by omega) _ _ _ _⟩
end Go.Proofs.YtldhbjmillfjgabGreatDoor
