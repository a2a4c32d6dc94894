/-
  ops.gather, and its closures tell, add and done, walked.
-/
import Derived.Test.YtedgnlgjmnccgabGreatDoorOpsGather
import Derived.Laws.EntriesVeiled
namespace Go.Proofs.YtedgnlgjmnccgabGreatDoor
open Go.RowKit
set_option linter.unusedVariables false

theorem gather_any (w : World) : Calls Tryz.prog 222 #[] w fun e w' => e = .returned (.tuple #[.func (.func 265) #[] #[.pointer (some ⟨w.heap.size + 1, 0, none⟩), .pointer (some ⟨w.heap.size + 2, 0, none⟩), .pointer (some ⟨w.heap.size + 3, 0, none⟩), .pointer (some ⟨w.heap.size, 0, none⟩)],
      .func (.func 266) #[] #[.pointer (some ⟨w.heap.size + 3, 0, none⟩), .pointer (some ⟨w.heap.size, 0, none⟩)]]) ∧ (∀ M w2, Below w'.heap.size w' w2 → w.heap.size + 4 ≤ M → M ≤ w2.heap.size → gath M w2 w.heap.size nst0) ∧ w'.heap.size = w.heap.size + 4 ∧ Below w.heap.size w w' := by
  go_enter Tryz.func222, Tryz.ntmps222
  go_wp2
  go_ret2
  refine ⟨rfl, fun M w2 hb hM hT => ?_, by simp [World.size_alloc], ?_⟩
  · have hs := hb.size
    simp only [World.size_alloc] at hs
    have hlt : ∀ k, k < 4 → w.heap.size + k < w.heap.size + 1 + 1 + 1 + 1 := fun k hk => by omega
    refine ⟨⟨none, 0, (hb.cell (by simp only [World.size_alloc]; omega)).trans (by simp [go_sem, nst0]), World.ownsRow_nil _ _ _ _⟩, (hb.frozen (by simp only [World.size_alloc]; omega)).trans (by simp [go_sem]), ⟨none, 0, (hb.cell (by simp only [World.size_alloc]; omega)).trans (by simp [go_sem, nst0]), World.ownsRow_nil _ _ _ _⟩, (hb.frozen (by simp only [World.size_alloc]; omega)).trans (by simp [go_sem]), (hb.cell (by simp only [World.size_alloc]; omega)).trans (by simp [go_sem, nst0]), (hb.frozen (by simp only [World.size_alloc]; omega)).trans (by simp [go_sem]), (hb.cell (by simp only [World.size_alloc]; omega)).trans (by simp [go_sem]), hM, hT⟩
  have b1 := (Below.refl w.heap.size w).alloc (Nat.le_refl _) (.cells #[.slice none 0 0] 23)
  have b2 := b1.alloc b1.size (.cells #[.slice none 0 0] 158)
  have b3 := b2.alloc b2.size (.cells #[.int .i64 0] 3)
  exact b3.alloc b3.size _

/-- What 'put[:0]' is. -/
theorem cut_none (p : Option Addr) (n c : Nat) (w : World) : (Instr.sliceAt 158 (.slice p n c) none (some (.int .i64 0)) none).run Tryz.prog w = .ok (.slice p 0 c) w := by
  have h : (if c = 0 then p else Option.map (fun x => x.add 0) p) = p := by
    cases p <;> simp [Addr.add]
  have := run_sliceAt_slice (P := Tryz.prog) w 158 (.slice p n c) none (some (.int .i64 0)) none (by kernel_rfl)
  rw [this]
  have h2 := run_slice_h (P := Tryz.prog) w 158 p n c (by kernel_rfl) .i64 0 (by omega) (by omega)
  rw [h2]
  have h3 : (sizeOf (Tryz.prog.elem 158)).run Tryz.prog w = .ok 1 w := by kernel_rfl
  rw [h3]
  simp only [Result.andThen, sliced, Int.toNat_zero, Nat.zero_mul, Nat.sub_zero]
  rw [h]

set_option maxRecDepth 100000 in
set_option maxHeartbeats 1000000 in
theorem tell_oo {M : Nat} (a : Nat) (s : NSt) (w : World) (h : gath M w a s) (hlen : s.out.length < 1000000000) (hput : s.put.length < 1000000000) (hp : s.put = []) (hd : s.drop = 0) :
    Calls Tryz.prog 264 #[.pointer (some ⟨a + 1, 0, none⟩), .pointer (some ⟨a, 0, none⟩), .pointer (some ⟨a + 2, 0, none⟩)] w fun e w' => (∃ v, e = .returned v) ∧ gath M w' a ⟨s.out, [], 0⟩ ∧ BelowG M a w w' ∧ ∀ b, spare w a b → w'.heap[b]? = w.heap[b]? := by
  have hM := h.le
  have hT := h.top
  obtain ⟨i0, hi, hz0, hz1, hz2⟩ := info_parts info_part
  have hcut := cut_none
  have hlt := gath_lt h
  have H0 : Hid (gath M w a s) := h
  obtain ⟨⟨p, c, h1, h2⟩, h3, ⟨p', c', h4, h5⟩, h6, h7, h8, h9⟩ := h
  have HO : Hid (w.ownsRow M 50 3 (.slice p s.out.length c) s.out.length (cellsP s.out)) := h2
  have HC : Hid (w.cell? ⟨a, 0, none⟩ = some (.slice p s.out.length c)) := h1
  have hpl : ¬ (0 : Int) < (s.put.length : Int) := by rw [hp]; simp
  have hdb : (s.drop == 0) = true := beq_iff_eq.2 hd
  clear h2 h5 h9 hp
  go_enter Tryz.func264, Tryz.ntmps264
  have HK0 : Hid (w.cell? ⟨a + 1, 0, none⟩ = some (.slice p' s.put.length c')) := h4
  go_wp2
  go_end0
  have F1 := gath_none H0.out HK0.out
  have F2 := gath_drop F1.1 0
  refine ⟨⟨_, rfl⟩, F2.1, F1.2.trans F2.2, fun b hb => ?_⟩
  have hb0 := hb.2.1
  have e0 : w.heap[b]? = w.heap[b]? := rfl
  have s0 := hb
  have e1 := e0
  have s1 := s0
  have e2 := e1
  have s2 := s1
  have s3 := set_spare s2 (c := a + 1) (by omega) (by omega) (.slice p' 0 c')
  exact ((set_spare s3.1 (c := a + 2) (by omega) (by omega) (.int .i64 0)).2.trans s3.2).trans e2

set_option maxRecDepth 100000 in
set_option maxHeartbeats 1000000 in
theorem tell_od {M : Nat} (a : Nat) (s : NSt) (w : World) (h : gath M w a s) (hlen : s.out.length < 1000000000) (hput : s.put.length < 1000000000) (hp : s.put = []) (hd : s.drop ≠ 0) :
    Calls Tryz.prog 264 #[.pointer (some ⟨a + 1, 0, none⟩), .pointer (some ⟨a, 0, none⟩), .pointer (some ⟨a + 2, 0, none⟩)] w fun e w' => (∃ v, e = .returned v) ∧ gath M w' a ⟨s.out ++ [⟨0, s.drop, []⟩], [], 0⟩ ∧ BelowG M a w w' ∧ ∀ b, spare w a b → w'.heap[b]? = w.heap[b]? := by
  have hM := h.le
  have hT := h.top
  obtain ⟨i0, hi, hz0, hz1, hz2⟩ := info_parts info_part
  have hcut := cut_none
  have hlt := gath_lt h
  have H0 : Hid (gath M w a s) := h
  obtain ⟨⟨p, c, h1, h2⟩, h3, ⟨p', c', h4, h5⟩, h6, h7, h8, h9⟩ := h
  have HO : Hid (w.ownsRow M 50 3 (.slice p s.out.length c) s.out.length (cellsP s.out)) := h2
  have HC : Hid (w.cell? ⟨a, 0, none⟩ = some (.slice p s.out.length c)) := h1
  have hpl : ¬ (0 : Int) < (s.put.length : Int) := by rw [hp]; simp
  have hdb : (s.drop == 0) = false := beq_eq_false_iff_ne.2 hd
  clear h2 h5 h9 hp
  go_enter Tryz.func264, Tryz.ntmps264
  go_wp2_with (first | (at_builtin; refine wpList_append_own_at _ rfl _ _ 23 rfl M 50 i0 (.agg #[.int .i64 0, .int .i64 0, .string ⟨#[]⟩]) 3 32 Tryz.underlying23 hi hz0 hz1 hz2 rfl (by decide) _ _ _ rfl (HO.out.alloc _) ⟨w.heap.size, 0, none⟩ 1 1 (partCells ⟨0, s.drop, []⟩) rfl rfl (cells_new _ _ _) (partCells_one _) (by unfold maxLen; omega) (by omega) (by first | omega | (simp; omega)) ?_) | fail)
  intro v2 w2 hown2 hg2 _ hat2
  have P2 := gath_push (q := ⟨0, s.drop, []⟩) H0.out HC.out hown2 hg2
  have hb2 : Below (a + 4) w w2 := ((Below.refl (a + 4) w).alloc (by omega) _).grown hg2 (by rw [World.size_alloc]; omega) fun k hk => Nat.le_trans hM (HO.out.lt k hk).1
  have z4 := h4
  have z6 := h6
  have z7 := h7
  have z8 := h8
  obtain ⟨p2, q2, hv2⟩ := own_slice hown2
  rw [hv2] at P2 ⊢
  rw [hv2] at hat2
  obtain ⟨G2, B2, t1, t2⟩ := P2
  have HS2 : Hid (∀ b, spare (w) a b → spare (w2.setCell ⟨a, 0, none⟩ (.slice p2 (s.out.length + 1) q2)) a b ∧ (w2.setCell ⟨a, 0, none⟩ (.slice p2 (s.out.length + 1) q2)).heap[b]? = (w).heap[b]?) := fun b hb => push_spare HC.out (by rw [t1]; rfl) hg2 (hat2.imp id fun e => ⟨_, e, by simp⟩) hb
  clear hat2
  have HG2 : Hid (gath M _ a ⟨s.out ++ [⟨0, s.drop, []⟩], s.put, s.drop⟩) := G2
  have HB2 : Hid (BelowG M a _ _) := B2
  have y4 := (hb2.cell (p := ⟨a + 1, 0, none⟩) (by show a + 1 < _; omega)).trans z4
  have y6 := (hb2.frozen (p := ⟨a + 1, 0, none⟩) (by show a + 1 < _; omega)).trans z6
  have y7 := (hb2.cell (p := ⟨a + 2, 0, none⟩) (by show a + 2 < _; omega)).trans z7
  have y8 := (hb2.frozen (p := ⟨a + 2, 0, none⟩) (by show a + 2 < _; omega)).trans z8
  have hs2 := hb2.size
  have HK5 : Hid ((w2.setCell ⟨a, 0, none⟩ (.slice p2 (s.out.length + 1) q2)).cell? ⟨a + 1, 0, none⟩ = some (.slice p' s.put.length c')) := (cell_set_ne (by omega) _).trans y4
  clear z4 z6 z7 z8 G2 B2 hown2 hg2 hb2 hv2
  clear h1 h3 h4 h6 h7 h8
  go_wp2
  go_end0
  have F1 := gath_none HG2.out HK5.out
  have F2 := gath_drop F1.1 0
  refine ⟨⟨_, rfl⟩, F2.1, (HB2.out).trans (F1.2.trans F2.2), fun b hb => ?_⟩
  have hb0 := hb.2.1
  have e0 : w.heap[b]? = w.heap[b]? := rfl
  have s0 := hb
  have e1 := e0
  have s1 := s0
  have e2 := ((HS2.out b s1).2).trans e1
  have s2 := (HS2.out b s1).1
  have s3 := set_spare s2 (c := a + 1) (by omega) (by omega) (.slice p' 0 c')
  exact ((set_spare s3.1 (c := a + 2) (by omega) (by omega) (.int .i64 0)).2.trans s3.2).trans e2

set_option maxRecDepth 100000 in
set_option maxHeartbeats 1000000 in
theorem tell_po {M : Nat} (a : Nat) (s : NSt) (w : World) (h : gath M w a s) (hlen : s.out.length < 1000000000) (hput : s.put.length < 1000000000) (hp : s.put ≠ []) (hd : s.drop = 0) :
    Calls Tryz.prog 264 #[.pointer (some ⟨a + 1, 0, none⟩), .pointer (some ⟨a, 0, none⟩), .pointer (some ⟨a + 2, 0, none⟩)] w fun e w' => (∃ v, e = .returned v) ∧ gath M w' a ⟨s.out ++ [⟨0, 0, s.put⟩], [], 0⟩ ∧ BelowG M a w w' ∧ ∀ b, spare w a b → w'.heap[b]? = w.heap[b]? := by
  have hM := h.le
  have hT := h.top
  obtain ⟨i0, hi, hz0, hz1, hz2⟩ := info_parts info_part
  have hcut := cut_none
  have hlt := gath_lt h
  have H0 : Hid (gath M w a s) := h
  obtain ⟨⟨p, c, h1, h2⟩, h3, ⟨p', c', h4, h5⟩, h6, h7, h8, h9⟩ := h
  have HO : Hid (w.ownsRow M 50 3 (.slice p s.out.length c) s.out.length (cellsP s.out)) := h2
  have HC : Hid (w.cell? ⟨a, 0, none⟩ = some (.slice p s.out.length c)) := h1
  have hpl : (0 : Int) < (s.put.length : Int) := by have := List.length_pos_iff.2 hp; omega
  have hconv : (convert 158 9 (.slice p' s.put.length c')).run Tryz.prog w = .ok (.string ⟨s.put.toArray⟩) w := string_own rfl h5
  have hdb : (s.drop == 0) = true := beq_iff_eq.2 hd
  clear h2 h5 h9 hp
  go_enter Tryz.func264, Tryz.ntmps264
  go_wp2_with (first | (at_builtin; refine wpList_append_own_at _ rfl _ _ 23 rfl M 50 i0 (.agg #[.int .i64 0, .int .i64 0, .string ⟨#[]⟩]) 3 32 Tryz.underlying23 hi hz0 hz1 hz2 rfl (by decide) _ _ _ rfl (HO.out.alloc _) ⟨w.heap.size, 0, none⟩ 1 1 (partCells ⟨0, 0, s.put⟩) rfl rfl (cells_new _ _ _) (partCells_one _) (by unfold maxLen; omega) (by omega) (by first | omega | (simp; omega)) ?_) | fail)
  intro v1 w1 hown1 hg1 _ hat1
  have P1 := gath_push (q := ⟨0, 0, s.put⟩) H0.out HC.out hown1 hg1
  have hb1 : Below (a + 4) w w1 := ((Below.refl (a + 4) w).alloc (by omega) _).grown hg1 (by rw [World.size_alloc]; omega) fun k hk => Nat.le_trans hM (HO.out.lt k hk).1
  obtain ⟨p1, q1, hv1⟩ := own_slice hown1
  rw [hv1] at P1 hown1 ⊢
  rw [hv1] at hat1
  obtain ⟨G1, B1, r1, r2⟩ := P1
  have HS1 : Hid (∀ b, spare w a b → spare (w1.setCell ⟨a, 0, none⟩ (.slice p1 (s.out.length + 1) q1)) a b ∧ (w1.setCell ⟨a, 0, none⟩ (.slice p1 (s.out.length + 1) q1)).heap[b]? = w.heap[b]?) := fun b hb => push_spare HC.out (by rw [r1]; rfl) hg1 (hat1.imp id fun e => ⟨_, e, by simp⟩) hb
  clear hat1
  have HG1 : Hid (gath M _ a ⟨s.out ++ [⟨0, 0, s.put⟩], s.put, s.drop⟩) := G1
  have HB1 : Hid (BelowG M a w _) := B1
  have HO1 : Hid ((w1.setCell ⟨a, 0, none⟩ (.slice p1 (s.out.length + 1) q1)).ownsRow M 50 3 (.slice p1 (s.out.length + 1) q1) (s.out.length + 1) (cellsP s.out ++ partCells ⟨0, 0, s.put⟩)) := own_set hown1 (show a < M by omega) (.slice p1 (s.out.length + 1) q1)
  have k4 := (hb1.cell (p := ⟨a + 1, 0, none⟩) (by show a + 1 < _; omega)).trans h4
  have k6 := (hb1.frozen (p := ⟨a + 1, 0, none⟩) (by show a + 1 < _; omega)).trans h6
  have k7 := (hb1.cell (p := ⟨a + 2, 0, none⟩) (by show a + 2 < _; omega)).trans h7
  have k8 := (hb1.frozen (p := ⟨a + 2, 0, none⟩) (by show a + 2 < _; omega)).trans h8
  have hs1 := hb1.size
  have HK1 : Hid ((w1.setCell ⟨a, 0, none⟩ (.slice p1 (s.out.length + 1) q1)).cell? ⟨a, 0, none⟩ = some (.slice p1 (s.out.length + 1) q1)) := World.cell?_setCell_same _ _ _ r1
  have HK4 : Hid ((w1.setCell ⟨a, 0, none⟩ (.slice p1 (s.out.length + 1) q1)).cell? ⟨a + 1, 0, none⟩ = some (.slice p' s.put.length c')) := (cell_set_ne (by omega) _).trans k4
  clear h1 h3 h4 h6 h7 h8 G1 B1 hown1 hg1 hconv hb1 hv1
  go_wp2
  go_end0
  have F1 := gath_none HG1.out HK4.out
  have F2 := gath_drop F1.1 0
  refine ⟨⟨_, rfl⟩, F2.1, (HB1.out).trans (F1.2.trans F2.2), fun b hb => ?_⟩
  have hb0 := hb.2.1
  have e0 : w.heap[b]? = w.heap[b]? := rfl
  have s0 := hb
  have e1 := (HS1.out b s0).2
  have s1 := (HS1.out b s0).1
  have e2 := e1
  have s2 := s1
  have s3 := set_spare s2 (c := a + 1) (by omega) (by omega) (.slice p' 0 c')
  exact ((set_spare s3.1 (c := a + 2) (by omega) (by omega) (.int .i64 0)).2.trans s3.2).trans e2

set_option maxRecDepth 100000 in
set_option maxHeartbeats 1000000 in
theorem tell_pd {M : Nat} (a : Nat) (s : NSt) (w : World) (h : gath M w a s) (hlen : s.out.length < 1000000000) (hput : s.put.length < 1000000000) (hp : s.put ≠ []) (hd : s.drop ≠ 0) :
    Calls Tryz.prog 264 #[.pointer (some ⟨a + 1, 0, none⟩), .pointer (some ⟨a, 0, none⟩), .pointer (some ⟨a + 2, 0, none⟩)] w fun e w' => (∃ v, e = .returned v) ∧ gath M w' a ⟨s.out ++ [⟨0, 0, s.put⟩, ⟨0, s.drop, []⟩], [], 0⟩ ∧ BelowG M a w w' ∧ ∀ b, spare w a b → w'.heap[b]? = w.heap[b]? := by
  have hM := h.le
  have hT := h.top
  obtain ⟨i0, hi, hz0, hz1, hz2⟩ := info_parts info_part
  have hcut := cut_none
  have hlt := gath_lt h
  have H0 : Hid (gath M w a s) := h
  obtain ⟨⟨p, c, h1, h2⟩, h3, ⟨p', c', h4, h5⟩, h6, h7, h8, h9⟩ := h
  have HO : Hid (w.ownsRow M 50 3 (.slice p s.out.length c) s.out.length (cellsP s.out)) := h2
  have HC : Hid (w.cell? ⟨a, 0, none⟩ = some (.slice p s.out.length c)) := h1
  have hpl : (0 : Int) < (s.put.length : Int) := by have := List.length_pos_iff.2 hp; omega
  have hconv : (convert 158 9 (.slice p' s.put.length c')).run Tryz.prog w = .ok (.string ⟨s.put.toArray⟩) w := string_own rfl h5
  have hdb : (s.drop == 0) = false := beq_eq_false_iff_ne.2 hd
  clear h2 h5 h9 hp
  go_enter Tryz.func264, Tryz.ntmps264
  go_wp2_with (first | (at_builtin; refine wpList_append_own_at _ rfl _ _ 23 rfl M 50 i0 (.agg #[.int .i64 0, .int .i64 0, .string ⟨#[]⟩]) 3 32 Tryz.underlying23 hi hz0 hz1 hz2 rfl (by decide) _ _ _ rfl (HO.out.alloc _) ⟨w.heap.size, 0, none⟩ 1 1 (partCells ⟨0, 0, s.put⟩) rfl rfl (cells_new _ _ _) (partCells_one _) (by unfold maxLen; omega) (by omega) (by first | omega | (simp; omega)) ?_) | fail)
  intro v1 w1 hown1 hg1 _ hat1
  have P1 := gath_push (q := ⟨0, 0, s.put⟩) H0.out HC.out hown1 hg1
  have hb1 : Below (a + 4) w w1 := ((Below.refl (a + 4) w).alloc (by omega) _).grown hg1 (by rw [World.size_alloc]; omega) fun k hk => Nat.le_trans hM (HO.out.lt k hk).1
  obtain ⟨p1, q1, hv1⟩ := own_slice hown1
  rw [hv1] at P1 hown1 ⊢
  rw [hv1] at hat1
  obtain ⟨G1, B1, r1, r2⟩ := P1
  have HS1 : Hid (∀ b, spare w a b → spare (w1.setCell ⟨a, 0, none⟩ (.slice p1 (s.out.length + 1) q1)) a b ∧ (w1.setCell ⟨a, 0, none⟩ (.slice p1 (s.out.length + 1) q1)).heap[b]? = w.heap[b]?) := fun b hb => push_spare HC.out (by rw [r1]; rfl) hg1 (hat1.imp id fun e => ⟨_, e, by simp⟩) hb
  clear hat1
  have HG1 : Hid (gath M _ a ⟨s.out ++ [⟨0, 0, s.put⟩], s.put, s.drop⟩) := G1
  have HB1 : Hid (BelowG M a w _) := B1
  have HO1 : Hid ((w1.setCell ⟨a, 0, none⟩ (.slice p1 (s.out.length + 1) q1)).ownsRow M 50 3 (.slice p1 (s.out.length + 1) q1) (s.out.length + 1) (cellsP s.out ++ partCells ⟨0, 0, s.put⟩)) := own_set hown1 (show a < M by omega) (.slice p1 (s.out.length + 1) q1)
  have k4 := (hb1.cell (p := ⟨a + 1, 0, none⟩) (by show a + 1 < _; omega)).trans h4
  have k6 := (hb1.frozen (p := ⟨a + 1, 0, none⟩) (by show a + 1 < _; omega)).trans h6
  have k7 := (hb1.cell (p := ⟨a + 2, 0, none⟩) (by show a + 2 < _; omega)).trans h7
  have k8 := (hb1.frozen (p := ⟨a + 2, 0, none⟩) (by show a + 2 < _; omega)).trans h8
  have hs1 := hb1.size
  have HK1 : Hid ((w1.setCell ⟨a, 0, none⟩ (.slice p1 (s.out.length + 1) q1)).cell? ⟨a, 0, none⟩ = some (.slice p1 (s.out.length + 1) q1)) := World.cell?_setCell_same _ _ _ r1
  have HK4 : Hid ((w1.setCell ⟨a, 0, none⟩ (.slice p1 (s.out.length + 1) q1)).cell? ⟨a + 1, 0, none⟩ = some (.slice p' s.put.length c')) := (cell_set_ne (by omega) _).trans k4
  clear h1 h3 h4 h6 h7 h8 G1 B1 hown1 hg1 hconv hb1 hv1
  go_wp2_with (first | (at_builtin; refine wpList_append_own_at _ rfl _ _ 23 rfl M 50 i0 (.agg #[.int .i64 0, .int .i64 0, .string ⟨#[]⟩]) 3 32 Tryz.underlying23 hi hz0 hz1 hz2 rfl (by decide) _ _ _ rfl (HO1.out.alloc _) ⟨w1.heap.size, 0, none⟩ 1 1 (partCells ⟨0, s.drop, []⟩) rfl rfl (cells_new_set _ _ _ _ _) (partCells_one _) (by unfold maxLen; omega) (by omega) (by first | omega | (simp; omega)) ?_) | fail)
  intro v2 w2 hown2 hg2 _ hat2
  have hown2' : w2.ownsRow M 50 3 v2 ((s.out ++ [(⟨0, 0, s.put⟩ : Pt)]).length + 1) (cellsP (s.out ++ [(⟨0, 0, s.put⟩ : Pt)]) ++ partCells ⟨0, s.drop, []⟩) := by
    rw [cellsP_snoc, List.length_append, List.append_assoc]; exact hown2
  have hls : (s.out ++ [(⟨0, 0, s.put⟩ : Pt)]).length = s.out.length + 1 := by rw [List.length_append]; rfl
  have HK1' : (w1.setCell ⟨a, 0, none⟩ (.slice p1 (s.out.length + 1) q1)).cell? ⟨a, 0, none⟩ = some (.slice p1 (s.out ++ [(⟨0, 0, s.put⟩ : Pt)]).length q1) := by rw [hls]; exact HK1.out
  have P2 := gath_push (q := ⟨0, s.drop, []⟩) HG1.out HK1' hown2' (by rw [hls]; exact hg2)
  have hb2 : Below (a + 4) (w1.setCell ⟨a, 0, none⟩ (.slice p1 (s.out.length + 1) q1)) w2 := ((Below.refl (a + 4) _).alloc (by simp; omega) _).grown hg2 (by rw [World.size_alloc]; simp; omega) fun k hk => Nat.le_trans hM (HO1.out.lt k hk).1
  have z4 := HK4.out
  have z6 : (w1.setCell ⟨a, 0, none⟩ (.slice p1 (s.out.length + 1) q1)).frozen? ⟨a + 1, 0, none⟩ = false := by rw [World.frozen?_setCell]; exact k6
  have z7 : (w1.setCell ⟨a, 0, none⟩ (.slice p1 (s.out.length + 1) q1)).cell? ⟨a + 2, 0, none⟩ = some (.int .i64 s.drop) := (cell_set_ne (by omega) _).trans k7
  have z8 : (w1.setCell ⟨a, 0, none⟩ (.slice p1 (s.out.length + 1) q1)).frozen? ⟨a + 2, 0, none⟩ = false := by rw [World.frozen?_setCell]; exact k8
  clear HK1'
  obtain ⟨p2, q2, hv2⟩ := own_slice hown2
  rw [hv2] at P2 ⊢
  rw [hv2] at hat2
  obtain ⟨G2, B2, t1, t2⟩ := P2
  have HS2 : Hid (∀ b, spare (w1.setCell ⟨a, 0, none⟩ (.slice p1 (s.out.length + 1) q1)) a b → spare (w2.setCell ⟨a, 0, none⟩ (.slice p2 ((s.out.length + 1) + 1) q2)) a b ∧ (w2.setCell ⟨a, 0, none⟩ (.slice p2 ((s.out.length + 1) + 1) q2)).heap[b]? = (w1.setCell ⟨a, 0, none⟩ (.slice p1 (s.out.length + 1) q1)).heap[b]?) := fun b hb => push_spare HK1.out (by rw [t1]; rfl) hg2 (hat2.imp id fun e => ⟨_, e, by simp⟩) hb
  clear hat2
  have HG2 : Hid (gath M _ a ⟨(s.out ++ [⟨0, 0, s.put⟩]) ++ [⟨0, s.drop, []⟩], s.put, s.drop⟩) := G2
  have HB2 : Hid (BelowG M a _ _) := B2
  have y4 := (hb2.cell (p := ⟨a + 1, 0, none⟩) (by show a + 1 < _; omega)).trans z4
  have y6 := (hb2.frozen (p := ⟨a + 1, 0, none⟩) (by show a + 1 < _; omega)).trans z6
  have y7 := (hb2.cell (p := ⟨a + 2, 0, none⟩) (by show a + 2 < _; omega)).trans z7
  have y8 := (hb2.frozen (p := ⟨a + 2, 0, none⟩) (by show a + 2 < _; omega)).trans z8
  have hs2 := hb2.size
  have HK5 : Hid ((w2.setCell ⟨a, 0, none⟩ (.slice p2 ((s.out.length + 1) + 1) q2)).cell? ⟨a + 1, 0, none⟩ = some (.slice p' s.put.length c')) := (cell_set_ne (by omega) _).trans y4
  clear z4 z6 z7 z8 G2 B2 hown2 hg2 hb2 hv2
  clear k4 k6 k7 k8 r1 r2
  clear hown2'
  go_wp2
  go_end0
  have F1 := gath_none HG2.out HK5.out
  have F2 := gath_drop F1.1 0
  have F3 := F2.1
  rw [List.append_assoc] at F3
  refine ⟨⟨_, rfl⟩, F3, (HB1.out.trans HB2.out).trans (F1.2.trans F2.2), fun b hb => ?_⟩
  have hb0 := hb.2.1
  have e0 : w.heap[b]? = w.heap[b]? := rfl
  have s0 := hb
  have e1 := (HS1.out b s0).2
  have s1 := (HS1.out b s0).1
  have e2 := ((HS2.out b s1).2).trans e1
  have s2 := (HS2.out b s1).1
  have s3 := set_spare s2 (c := a + 1) (by omega) (by omega) (.slice p' 0 c')
  exact ((set_spare s3.1 (c := a + 2) (by omega) (by omega) (.int .i64 0)).2.trans s3.2).trans e2

theorem tell_any {M : Nat} (a : Nat) (s : NSt) (w : World) (h : gath M w a s) (hlen : s.out.length < 1000000000) (hput : s.put.length < 1000000000) :
    Calls Tryz.prog 264 #[.pointer (some ⟨a + 1, 0, none⟩), .pointer (some ⟨a, 0, none⟩), .pointer (some ⟨a + 2, 0, none⟩)] w fun e w' => (∃ v, e = .returned v) ∧ gath M w' a ⟨tellP s, [], 0⟩ ∧ BelowG M a w w' ∧ ∀ b, spare w a b → w'.heap[b]? = w.heap[b]? := by
  have hM := h.le
  have hT := h.top
  unfold tellP
  by_cases hp : s.put = []
  · by_cases hd : s.drop = 0
    · have := tell_oo a s w h hlen hput hp hd
      simpa [hp, hd] using this
    · have := tell_od a s w h hlen hput hp hd
      simpa [hp, hd] using this
  · by_cases hd : s.drop = 0
    · have := tell_po a s w h hlen hput hp hd
      simpa [hp, hd] using this
    · have := tell_pd a s w h hlen hput hp hd
      simpa [hp, hd] using this
end Go.Proofs.YtedgnlgjmnccgabGreatDoor
