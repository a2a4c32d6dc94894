/-
  rope.chunkOf.
-/
import Derived.Test.YtldhbjmillfjgabGreatDoorClone
namespace Go.Proofs.YtldhbjmillfjgabGreatDoor
open Go.RowKit
set_option linter.unusedVariables false
attribute [local go_sem] yieldsUpon okUpon

/-- A chunk's variable: five cells that may be written. -/
def chunkAt (W : World) (B : Nat) (v0 v1 v2 v3 v4 : Value) : Prop :=
  (W.cell? ⟨B, 0, none⟩ = some v0 ∧ W.cell? ⟨B, 1, none⟩ = some v1 ∧ W.cell? ⟨B, 2, none⟩ = some v2 ∧ W.cell? ⟨B, 3, none⟩ = some v3 ∧ W.cell? ⟨B, 4, none⟩ = some v4) ∧
  (W.frozen? ⟨B, 0, none⟩ = false ∧ W.frozen? ⟨B, 1, none⟩ = false ∧ W.frozen? ⟨B, 2, none⟩ = false ∧ W.frozen? ⟨B, 3, none⟩ = false ∧ W.frozen? ⟨B, 4, none⟩ = false)
theorem chunkAt_lt {W : World} {B : Nat} {v0 v1 v2 v3 v4 : Value} (h : chunkAt W B v0 v1 v2 v3 v4) : B < W.heap.size := World.block_lt_of_cell? W _ h.1.1
theorem chunkAt_old {W W' : World} {B lo : Nat} {v0 v1 v2 v3 v4 : Value} (h : chunkAt W B v0 v1 v2 v3 v4) (hb : Below lo W W') (hlo : B < lo) : chunkAt W' B v0 v1 v2 v3 v4 := by
  obtain ⟨⟨a0, a1, a2, a3, a4⟩, b0, b1, b2, b3, b4⟩ := h
  have c : ∀ o v, W.cell? ⟨B, o, none⟩ = some v → W'.cell? ⟨B, o, none⟩ = some v := fun o v h => (hb.cell (p := ⟨B, o, none⟩) hlo).trans h
  have f : ∀ o, W.frozen? ⟨B, o, none⟩ = false → W'.frozen? ⟨B, o, none⟩ = false := fun o h => (hb.frozen (p := ⟨B, o, none⟩) hlo).trans h
  exact ⟨⟨c _ _ a0, c _ _ a1, c _ _ a2, c _ _ a3, c _ _ a4⟩, f _ b0, f _ b1, f _ b2, f _ b3, f _ b4⟩
theorem chunkAt_below {W W' : World} {B : Nat} {v0 v1 v2 v3 v4 : Value} (h : chunkAt W B v0 v1 v2 v3 v4) (hb : Below W.heap.size W W') : chunkAt W' B v0 v1 v2 v3 v4 := chunkAt_old h hb (chunkAt_lt h)
theorem chunkAt_new (w : World) (v0 v1 v2 v3 v4 : Value) (t : TypeId) : chunkAt (w.alloc (.cells #[v0, v1, v2, v3, v4] t)) w.heap.size v0 v1 v2 v3 v4 := by
  refine ⟨⟨?_, ?_, ?_, ?_, ?_⟩, ?_, ?_, ?_, ?_, ?_⟩ <;> simp [go_sem]
theorem chunkAt_set {W : World} {B : Nat} {v0 v1 v2 v3 v4 u0 u1 u2 u3 u4 : Value} (h : chunkAt W B v0 v1 v2 v3 v4) :
    chunkAt (((((W.setCell ⟨B, 0, none⟩ u0).setCell ⟨B, 1, none⟩ u1).setCell ⟨B, 2, none⟩ u2).setCell ⟨B, 3, none⟩ u3).setCell ⟨B, 4, none⟩ u4) B u0 u1 u2 u3 u4 := by
  obtain ⟨⟨a0, a1, a2, a3, a4⟩, b0, b1, b2, b3, b4⟩ := h
  refine ⟨⟨?_, ?_, ?_, ?_, ?_⟩, ?_, ?_, ?_, ?_, ?_⟩ <;> simp [go_sem, a0, a1, a2, a3, a4, b0, b1, b2, b3, b4]
theorem below_set5 {lo : Nat} {w W : World} {B : Nat} (hb : Below lo w W) (hlo : lo ≤ B) (u0 u1 u2 u3 u4 : Value) :
    Below lo w (((((W.setCell ⟨B, 0, none⟩ u0).setCell ⟨B, 1, none⟩ u1).setCell ⟨B, 2, none⟩ u2).setCell ⟨B, 3, none⟩ u3).setCell ⟨B, 4, none⟩ u4) :=
  ((((hb.setCell (p := ⟨B, 0, none⟩) hlo _).setCell (p := ⟨B, 1, none⟩) hlo _).setCell (p := ⟨B, 2, none⟩) hlo _).setCell (p := ⟨B, 3, none⟩) hlo _).setCell (p := ⟨B, 4, none⟩) hlo _

set_option maxRecDepth 100000 in
set_option maxHeartbeats 2000000 in
theorem chunkOf_any (rs : List Nat) (hr : ∀ r ∈ rs, isRune r) (hz : C1 rs ≤ 300000000) (w : World) (hT : Lib.Utf8Tabs 2 3 w) :
    Calls Tryz.prog 116 #[.string (bytesOf rs)] w fun e w' => e = .returned (chunkV rs) ∧ Below w.heap.size w w' := by
  have hb0 : ∀ o, Below w.heap.size w (w.alloc o) := fun o => (Below.refl _ w).alloc (Nat.le_refl _) o
  have cC := fun o => count_of rs hr hz (w.alloc o) (Go.Proofs.Utf8Tabs_below hT (hb0 o))
  have cK := fun wx => Clone_any (bytesOf rs) wx (by rw [bytesOf_size]; rw [C1_len] at hz; omega)
  unfold chunkV
  generalize bytesOf rs = B at *
  generalize C1 rs = x1 at *
  generalize C2 rs = x2 at *
  generalize C3 rs = x3 at *
  generalize C4 rs = x4 at *
  clear hr hz hT
  go_enter Tryz.func116, Tryz.ntmps116
  go_wp2_with (first | (go_at_call 59; refine (cC _).mono ?_; rintro e w1 ⟨rfl, hb1⟩) | fail)
  have hbw : Below w.heap.size w (w1.alloc (.cells #[.int .i64 x1, .int .i64 x2, .int .i64 x3, .int .i64 x4] 25)) := ((hb0 _).trans (hb1.mono (hb0 _).size)).alloc (Nat.le_trans (hb0 (.cells #[.string ⟨#[]⟩, .int .i64 0, .int .i64 0, .int .i64 0, .int .i64 0] 194)).size hb1.size) _
  have hA : chunkAt (w1.alloc (.cells #[.int .i64 x1, .int .i64 x2, .int .i64 x3, .int .i64 x4] 25)) w.heap.size (.string ⟨#[]⟩) (.int .i64 0) (.int .i64 0) (.int .i64 0) (.int .i64 0) :=
    chunkAt_below (chunkAt_below (chunkAt_new w _ _ _ _ _ _) hb1) ((Below.refl _ w1).alloc (Nat.le_refl _) _)
  have hc : counted (w1.alloc (.cells #[.int .i64 x1, .int .i64 x2, .int .i64 x3, .int .i64 x4] 25)) w1.heap.size x1 x2 x3 x4 := by refine ⟨⟨?_, ?_, ?_, ?_⟩, ?_, ?_, ?_, ?_⟩ <;> simp [go_sem]
  generalize (w1.alloc (.cells #[.int .i64 x1, .int .i64 x2, .int .i64 x3, .int .i64 x4] 25)) = W at *
  generalize w1.heap.size = C at *
  clear cC hb1
  refine wp_region_rel 4 5 (by kernel_rfl) rfl ?_
  intro w2 hb2
  have hc2 := counted_below hc hb2
  obtain ⟨⟨c0, c1, c2, c3⟩, _⟩ := hc2
  have hbw2 := hbw.trans (hb2.mono hbw.size)
  have hA2 := chunkAt_below hA hb2
  obtain ⟨G, hG⟩ := exists_growth w2
  have g0 := hG.cell c0
  have g1 := hG.cell c1
  have g2 := hG.cell c2
  have g3 := hG.cell c3
  clear hc hA c0 c1 c2 c3
  (refine anyG_step hG (i := 0) rfl (by kernel_rfl) (by kernel_rfl) (by kernel_rfl) (fun K hK => ?_); go_simp; refine hK _ ?_; clear hK K)
  (refine anyG_step hG (i := 1) rfl (by kernel_rfl) (by kernel_rfl) (by kernel_rfl) (fun K hK => ?_); go_simp; apply Exists.intro; refine ⟨fun _ => ?_, hK _ ?_⟩; exact cK _; clear hK K)
  (refine anyG_step hG (i := 2) rfl (by kernel_rfl) (by kernel_rfl) (by kernel_rfl) (fun K hK => ?_); go_simp; refine hK _ ?_; clear hK K)
  (refine anyG_step hG (i := 3) rfl (by kernel_rfl) (by kernel_rfl) (by kernel_rfl) (fun K hK => ?_); go_simp; refine hK _ ?_; clear hK K)
  clear g0 g1 g2 g3 hG
  refine anyG_late (i := 4) rfl (by kernel_rfl) (by kernel_rfl) ?_
  intro w3 hb3 K hK
  have hA3 := chunkAt_below hA2 hb3
  have hbw3 := hbw2.trans (hb3.mono hbw2.size)
  have HA3 : Hid _ := hA3
  obtain ⟨⟨a0, a1, a2, a3, a4⟩, b0, b1, b2, b3, b4⟩ := hA3
  go_simp
  refine hK _ _ ?_
  clear hK K
  refine anyG_end (by kernel_rfl) ?_
  intro w4 hb4
  have hA4 := chunkAt_below (chunkAt_set HA3.out) hb4
  have hbw4 := (below_set5 hbw3 (Nat.le_refl _) _ _ _ _ _).trans (hb4.mono (below_set5 hbw3 (Nat.le_refl _) _ _ _ _ _).size)
  clear a0 a1 a2 a3 a4 b0 b1 b2 b3 b4 hb4 HA3 hA2
  obtain ⟨⟨a0, a1, a2, a3, a4⟩, b0, b1, b2, b3, b4⟩ := hA4
  go_wp2
  refine bodyPost_ret (v := .agg #[.string B, .int .i64 x1, .int .i64 x2, .int .i64 x3, .int .i64 x4]) (by simp [results, Tryz.results116, go_sem, a0, a1, a2, a3, a4]) rfl ⟨rfl, hbw4⟩
end Go.Proofs.YtldhbjmillfjgabGreatDoor
