/-
  The law's own walk.
-/
import Derived.Test.YtiokdpjoinbcaaaWalks
import Derived.Test.YtiokdpjoinbcaaaGrow
namespace Go.Proofs.Ytiokdpjoinbcaaa
open Go.RowKit

theorem cell_old {B : Nat} {w w' : World} (h : Below B w w') {b o : Nat} (hb : b < B) {v : Value} (hv : w.cell? ⟨b, o, none⟩ = some v) : w'.cell? ⟨b, o, none⟩ = some v := by
  rw [h.cell (p := ⟨b, o, none⟩) hb]; exact hv

set_option maxHeartbeats 1000000 in
theorem law_any (a1 a2 a3 a4 b1 b2 b3 b4 u : Int) (v1 : (Lit.int .i64 a1).wf = true) (v2 : (Lit.int .i64 a2).wf = true) (v3 : (Lit.int .i64 a3).wf = true) (vu : (Lit.int .i64 u).wf = true) (w : World) :
    Calls Try.prog 3 #[.agg #[.int .i64 a1, .int .i64 a2, .int .i64 a3, .int .i64 a4], .agg #[.int .i64 b1, .int .i64 b2, .int .i64 b3, .int .i64 b4], .int .i64 u] w
      fun e w' => e = .returned (.bool true) ∧ Below w.heap.size w w' := by
  go_enter Try.func3, Try.ntmps3
  go_wp2_with (first | (go_at_call 4; refine (plus_any _ _ _ _ _ _ _ _ _).mono ?_; rintro e w1 ⟨rfl, hb1⟩) | fail)
  have z1 : w.heap.size + 2 ≤ w1.heap.size := by have := hb1.size; simp at this; omega
  have ew : ((w.alloc (Obj.cells #[Value.int IntKind.i64 a1, Value.int IntKind.i64 a2, Value.int IntKind.i64 a3, Value.int IntKind.i64 a4] 23)).alloc (Obj.cells #[Value.int IntKind.i64 b1, Value.int IntKind.i64 b2, Value.int IntKind.i64 b3, Value.int IntKind.i64 b4] 23)).heap.size = w.heap.size + 2 := by simp
  rw [ew] at hb1
  have hbW := hb1.alloc (o := Obj.cells #[Value.int IntKind.i64 (wrap64 (a1 + b1)), Value.int IntKind.i64 (wrap64 (a2 + b2)), Value.int IntKind.i64 (wrap64 (a3 + b3)), Value.int IntKind.i64 (wrap64 (a4 + b4))] 23) z1
  obtain ⟨W, hW⟩ : ∃ W, W = w1.alloc (Obj.cells #[Value.int IntKind.i64 (wrap64 (a1 + b1)), Value.int IntKind.i64 (wrap64 (a2 + b2)), Value.int IntKind.i64 (wrap64 (a3 + b3)), Value.int IntKind.i64 (wrap64 (a4 + b4))] 23) := ⟨_, rfl⟩
  have zW : W.heap.size = w1.heap.size + 1 := by rw [hW]; simp
  rw [← hW] at hbW
  have hB : Below w.heap.size w W := (((Below.refl _ w).alloc (Nat.le_refl _) _).alloc (by simp) _).trans (hbW.mono (by omega))
  obtain ⟨G, hG⟩ := exists_growth W
  have HG : Hid (Growth W G) := hG
  clear hG
  have ca0 : ∀ x, (G x).cell? ⟨w.heap.size, 0, none⟩ = some (.int .i64 a1) := fun x => cell_old (HG.out.below x) (by omega) (cell_old hbW (by omega) (by simp [go_sem]))
  have ca1 : ∀ x, (G x).cell? ⟨w.heap.size, 1, none⟩ = some (.int .i64 a2) := fun x => cell_old (HG.out.below x) (by omega) (cell_old hbW (by omega) (by simp [go_sem]))
  have ca2 : ∀ x, (G x).cell? ⟨w.heap.size, 2, none⟩ = some (.int .i64 a3) := fun x => cell_old (HG.out.below x) (by omega) (cell_old hbW (by omega) (by simp [go_sem]))
  have ca3 : ∀ x, (G x).cell? ⟨w.heap.size, 3, none⟩ = some (.int .i64 a4) := fun x => cell_old (HG.out.below x) (by omega) (cell_old hbW (by omega) (by simp [go_sem]))
  have cb0 : ∀ x, (G x).cell? ⟨(w.heap.size + 1), 0, none⟩ = some (.int .i64 b1) := fun x => cell_old (HG.out.below x) (by omega) (cell_old hbW (by omega) (by simp [go_sem]))
  have cb1 : ∀ x, (G x).cell? ⟨(w.heap.size + 1), 1, none⟩ = some (.int .i64 b2) := fun x => cell_old (HG.out.below x) (by omega) (cell_old hbW (by omega) (by simp [go_sem]))
  have cb2 : ∀ x, (G x).cell? ⟨(w.heap.size + 1), 2, none⟩ = some (.int .i64 b3) := fun x => cell_old (HG.out.below x) (by omega) (cell_old hbW (by omega) (by simp [go_sem]))
  have cb3 : ∀ x, (G x).cell? ⟨(w.heap.size + 1), 3, none⟩ = some (.int .i64 b4) := fun x => cell_old (HG.out.below x) (by omega) (cell_old hbW (by omega) (by simp [go_sem]))
  have cc0 : ∀ x, (G x).cell? ⟨w1.heap.size, 0, none⟩ = some (.int .i64 (wrap64 (a1 + b1))) := fun x => cell_old (HG.out.below x) (by omega) (by rw [hW]; simp [go_sem])
  have cc1 : ∀ x, (G x).cell? ⟨w1.heap.size, 1, none⟩ = some (.int .i64 (wrap64 (a2 + b2))) := fun x => cell_old (HG.out.below x) (by omega) (by rw [hW]; simp [go_sem])
  have cc2 : ∀ x, (G x).cell? ⟨w1.heap.size, 2, none⟩ = some (.int .i64 (wrap64 (a3 + b3))) := fun x => cell_old (HG.out.below x) (by omega) (by rw [hW]; simp [go_sem])
  have cc3 : ∀ x, (G x).cell? ⟨w1.heap.size, 3, none⟩ = some (.int .i64 (wrap64 (a4 + b4))) := fun x => cell_old (HG.out.below x) (by omega) (by rw [hW]; simp [go_sem])
  rw [← hW]
  clear hW hbW hb1 ew zW z1
  refine wp_region_grow HG.out (by kernel_rfl) (by kernel_rfl) ?_
  repeat (first
    | go_big_quiet_skip
    | (go_big_quiet_want; go_big_quiet_op; first | go_big_quiet_on | (apply Exists.intro; refine ⟨fun _ => ?_, ?_⟩; (first | (go_at_call 5; exact grow_of HG.out (in_any _ _ _ _ _ _)) | (go_at_call 6; exact grow_of HG.out (refin_any _ _ _ _ _ v1 v2 v3 vu _))); go_big_quiet_on)))
  refine wpQuiet_nil ?_
  rintro w' ⟨x, rfl⟩
  go_wp2
  go_ret
  exact ⟨rfl, hB.trans ((HG.out.below x).mono hB.size)⟩
end Go.Proofs.Ytiokdpjoinbcaaa
