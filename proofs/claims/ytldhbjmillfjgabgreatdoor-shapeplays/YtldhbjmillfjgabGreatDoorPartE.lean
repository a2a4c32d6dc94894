/-
  ops.gather, and its closures tell, add and done, walked.
  ops.gather's add and done, and ops.isKeep, isDrop, isPut, walked.
  ops.Norm of any operation that is not too great: its least form.
  Lens, the program's and the document's; whether an operation is small; whether two are the same.
  The document's Spread: an operation as gaps.
  bridge.steps, and what it tells, by runes.
  The library's contract of utf8.ValidString, laid at this program.
-/
import Derived.Test.YtldhbjmillfjgabGreatDoorPartD
import Derived.Laws.EntriesVeiled
import Derived.Test.YtldhbjmillfjgabGreatDoorPartA
import Derived.Shelf.Unicode.ValidAny
import Derived.Test.YtldhbjmillfjgabGreatDoorProg
namespace Go.Proofs.YtldhbjmillfjgabGreatDoor
open Go.RowKit
set_option linter.unusedVariables false

theorem gather_any (w : World) : Calls Tryz.prog 176 #[] w fun e w' => e = .returned (.tuple #[.func (.func 198) #[] #[.pointer (some ⟨w.heap.size + 1, 0, none⟩), .pointer (some ⟨w.heap.size + 2, 0, none⟩), .pointer (some ⟨w.heap.size + 3, 0, none⟩), .pointer (some ⟨w.heap.size, 0, none⟩)],
      .func (.func 199) #[] #[.pointer (some ⟨w.heap.size + 3, 0, none⟩), .pointer (some ⟨w.heap.size, 0, none⟩)]]) ∧ (∀ M w2, Below w'.heap.size w' w2 → w.heap.size + 4 ≤ M → M ≤ w2.heap.size → gath M w2 w.heap.size nst0) ∧ w'.heap.size = w.heap.size + 4 ∧ Below w.heap.size w w' := by
  go_enter Tryz.func176, Tryz.ntmps176
  go_wp2
  go_ret2
  refine ⟨rfl, fun M w2 hb hM hT => ?_, by simp [World.size_alloc], ?_⟩
  · have hs := hb.size
    simp only [World.size_alloc] at hs
    have hlt : ∀ k, k < 4 → w.heap.size + k < w.heap.size + 1 + 1 + 1 + 1 := fun k hk => by omega
    refine ⟨⟨none, 0, (hb.cell (by simp only [World.size_alloc]; omega)).trans (by simp [go_sem, nst0]), World.ownsRow_nil _ _ _ _⟩, (hb.frozen (by simp only [World.size_alloc]; omega)).trans (by simp [go_sem]), ⟨none, 0, (hb.cell (by simp only [World.size_alloc]; omega)).trans (by simp [go_sem, nst0]), World.ownsRow_nil _ _ _ _⟩, (hb.frozen (by simp only [World.size_alloc]; omega)).trans (by simp [go_sem]), (hb.cell (by simp only [World.size_alloc]; omega)).trans (by simp [go_sem, nst0]), (hb.frozen (by simp only [World.size_alloc]; omega)).trans (by simp [go_sem]), (hb.cell (by simp only [World.size_alloc]; omega)).trans (by simp [go_sem]), hM, hT⟩
  have b1 := (Below.refl w.heap.size w).alloc (Nat.le_refl _) (.cells #[.slice none 0 0] 23)
  have b2 := b1.alloc b1.size (.cells #[.slice none 0 0] 130)
  have b3 := b2.alloc b2.size (.cells #[.int .i64 0] 3)
  exact b3.alloc b3.size _

/-- What 'put[:0]' is. -/
theorem cut_none (p : Option Addr) (n c : Nat) (w : World) : (Instr.sliceAt 130 (.slice p n c) none (some (.int .i64 0)) none).run Tryz.prog w = .ok (.slice p 0 c) w := by
  have h : (if c = 0 then p else Option.map (fun x => x.add 0) p) = p := by
    cases p <;> simp [Addr.add]
  have := run_sliceAt_slice (P := Tryz.prog) w 130 (.slice p n c) none (some (.int .i64 0)) none (by kernel_rfl)
  rw [this]
  have h2 := run_slice_h (P := Tryz.prog) w 130 p n c (by kernel_rfl) .i64 0 (by omega) (by omega)
  rw [h2]
  have h3 : (sizeOf (Tryz.prog.elem 130)).run Tryz.prog w = .ok 1 w := by kernel_rfl
  rw [h3]
  simp only [Result.andThen, sliced, Int.toNat_zero, Nat.zero_mul, Nat.sub_zero]
  rw [h]

set_option maxRecDepth 100000 in
set_option maxHeartbeats 1000000 in
theorem tell_oo {M : Nat} (a : Nat) (s : NSt) (w : World) (h : gath M w a s) (hlen : s.out.length < 1000000000) (hput : s.put.length < 1000000000) (hp : s.put = []) (hd : s.drop = 0) :
    Calls Tryz.prog 197 #[.pointer (some ⟨a + 1, 0, none⟩), .pointer (some ⟨a, 0, none⟩), .pointer (some ⟨a + 2, 0, none⟩)] w fun e w' => (∃ v, e = .returned v) ∧ gath M w' a ⟨s.out, [], 0⟩ ∧ BelowG M a w w' ∧ ∀ b, spare w a b → w'.heap[b]? = w.heap[b]? := by
  have hM := h.le
  have hT := h.top
  obtain ⟨i0, hi, hz0, hz1, hz2⟩ := info_parts info_part
  have hcut := cut_none
  have hlt := gath_lt h
  have H0 : Hid (gath M w a s) := h
  obtain ⟨⟨p, c, h1, h2⟩, h3, ⟨p', c', h4, h5⟩, h6, h7, h8, h9⟩ := h
  have HO : Hid (w.ownsRow M 50 3 (.slice p s.out.length c) s.out.length (cellsP s.out)) := h2
  have HC : Hid (w.cell? ⟨a, 0, none⟩ = some (.slice p s.out.length c)) := h1
  have hpl : ¬ (0 : Int) < (s.put.length : Int) := by rw [hp]; simp
  have hdb : (s.drop == 0) = true := beq_iff_eq.2 hd
  clear h2 h5 h9 hp
  go_enter Tryz.func197, Tryz.ntmps197
  have HK0 : Hid (w.cell? ⟨a + 1, 0, none⟩ = some (.slice p' s.put.length c')) := h4
  go_wp2
  go_end0
  have F1 := gath_none H0.out HK0.out
  have F2 := gath_drop F1.1 0
  refine ⟨⟨_, rfl⟩, F2.1, F1.2.trans F2.2, fun b hb => ?_⟩
  have hb0 := hb.2.1
  have e0 : w.heap[b]? = w.heap[b]? := rfl
  have s0 := hb
  have e1 := e0
  have s1 := s0
  have e2 := e1
  have s2 := s1
  have s3 := set_spare s2 (c := a + 1) (by omega) (by omega) (.slice p' 0 c')
  exact ((set_spare s3.1 (c := a + 2) (by omega) (by omega) (.int .i64 0)).2.trans s3.2).trans e2

set_option maxRecDepth 100000 in
set_option maxHeartbeats 1000000 in
theorem tell_od {M : Nat} (a : Nat) (s : NSt) (w : World) (h : gath M w a s) (hlen : s.out.length < 1000000000) (hput : s.put.length < 1000000000) (hp : s.put = []) (hd : s.drop ≠ 0) :
    Calls Tryz.prog 197 #[.pointer (some ⟨a + 1, 0, none⟩), .pointer (some ⟨a, 0, none⟩), .pointer (some ⟨a + 2, 0, none⟩)] w fun e w' => (∃ v, e = .returned v) ∧ gath M w' a ⟨s.out ++ [⟨0, s.drop, []⟩], [], 0⟩ ∧ BelowG M a w w' ∧ ∀ b, spare w a b → w'.heap[b]? = w.heap[b]? := by
  have hM := h.le
  have hT := h.top
  obtain ⟨i0, hi, hz0, hz1, hz2⟩ := info_parts info_part
  have hcut := cut_none
  have hlt := gath_lt h
  have H0 : Hid (gath M w a s) := h
  obtain ⟨⟨p, c, h1, h2⟩, h3, ⟨p', c', h4, h5⟩, h6, h7, h8, h9⟩ := h
  have HO : Hid (w.ownsRow M 50 3 (.slice p s.out.length c) s.out.length (cellsP s.out)) := h2
  have HC : Hid (w.cell? ⟨a, 0, none⟩ = some (.slice p s.out.length c)) := h1
  have hpl : ¬ (0 : Int) < (s.put.length : Int) := by rw [hp]; simp
  have hdb : (s.drop == 0) = false := beq_eq_false_iff_ne.2 hd
  clear h2 h5 h9 hp
  go_enter Tryz.func197, Tryz.ntmps197
  go_wp2_with (first | (at_builtin; refine wpList_append_own_at _ rfl _ _ 23 rfl M 50 i0 (.agg #[.int .i64 0, .int .i64 0, .string ⟨#[]⟩]) 3 32 Tryz.underlying23 hi hz0 hz1 hz2 rfl (by decide) _ _ _ rfl (HO.out.alloc _) ⟨w.heap.size, 0, none⟩ 1 1 (partCells ⟨0, s.drop, []⟩) rfl rfl (cells_new _ _ _) (partCells_one _) (by unfold maxLen; omega) (by omega) (by first | omega | (simp; omega)) ?_) | fail)
  intro v2 w2 hown2 hg2 _ hat2
  have P2 := gath_push (q := ⟨0, s.drop, []⟩) H0.out HC.out hown2 hg2
  have hb2 : Below (a + 4) w w2 := ((Below.refl (a + 4) w).alloc (by omega) _).grown hg2 (by rw [World.size_alloc]; omega) fun k hk => Nat.le_trans hM (HO.out.lt k hk).1
  have z4 := h4
  have z6 := h6
  have z7 := h7
  have z8 := h8
  obtain ⟨p2, q2, hv2⟩ := own_slice hown2
  rw [hv2] at P2 ⊢
  rw [hv2] at hat2
  obtain ⟨G2, B2, t1, t2⟩ := P2
  have HS2 : Hid (∀ b, spare (w) a b → spare (w2.setCell ⟨a, 0, none⟩ (.slice p2 (s.out.length + 1) q2)) a b ∧ (w2.setCell ⟨a, 0, none⟩ (.slice p2 (s.out.length + 1) q2)).heap[b]? = (w).heap[b]?) := fun b hb => push_spare HC.out (by rw [t1]; rfl) hg2 (hat2.imp id fun e => ⟨_, e, by simp⟩) hb
  clear hat2
  have HG2 : Hid (gath M _ a ⟨s.out ++ [⟨0, s.drop, []⟩], s.put, s.drop⟩) := G2
  have HB2 : Hid (BelowG M a _ _) := B2
  have y4 := (hb2.cell (p := ⟨a + 1, 0, none⟩) (by show a + 1 < _; omega)).trans z4
  have y6 := (hb2.frozen (p := ⟨a + 1, 0, none⟩) (by show a + 1 < _; omega)).trans z6
  have y7 := (hb2.cell (p := ⟨a + 2, 0, none⟩) (by show a + 2 < _; omega)).trans z7
  have y8 := (hb2.frozen (p := ⟨a + 2, 0, none⟩) (by show a + 2 < _; omega)).trans z8
  have hs2 := hb2.size
  have HK5 : Hid ((w2.setCell ⟨a, 0, none⟩ (.slice p2 (s.out.length + 1) q2)).cell? ⟨a + 1, 0, none⟩ = some (.slice p' s.put.length c')) := (cell_set_ne (by omega) _).trans y4
  clear z4 z6 z7 z8 G2 B2 hown2 hg2 hb2 hv2
  clear h1 h3 h4 h6 h7 h8
  go_wp2
  go_end0
  have F1 := gath_none HG2.out HK5.out
  have F2 := gath_drop F1.1 0
  refine ⟨⟨_, rfl⟩, F2.1, (HB2.out).trans (F1.2.trans F2.2), fun b hb => ?_⟩
  have hb0 := hb.2.1
  have e0 : w.heap[b]? = w.heap[b]? := rfl
  have s0 := hb
  have e1 := e0
  have s1 := s0
  have e2 := ((HS2.out b s1).2).trans e1
  have s2 := (HS2.out b s1).1
  have s3 := set_spare s2 (c := a + 1) (by omega) (by omega) (.slice p' 0 c')
  exact ((set_spare s3.1 (c := a + 2) (by omega) (by omega) (.int .i64 0)).2.trans s3.2).trans e2

set_option maxRecDepth 100000 in
set_option maxHeartbeats 1000000 in
theorem tell_po {M : Nat} (a : Nat) (s : NSt) (w : World) (h : gath M w a s) (hlen : s.out.length < 1000000000) (hput : s.put.length < 1000000000) (hp : s.put ≠ []) (hd : s.drop = 0) :
    Calls Tryz.prog 197 #[.pointer (some ⟨a + 1, 0, none⟩), .pointer (some ⟨a, 0, none⟩), .pointer (some ⟨a + 2, 0, none⟩)] w fun e w' => (∃ v, e = .returned v) ∧ gath M w' a ⟨s.out ++ [⟨0, 0, s.put⟩], [], 0⟩ ∧ BelowG M a w w' ∧ ∀ b, spare w a b → w'.heap[b]? = w.heap[b]? := by
  have hM := h.le
  have hT := h.top
  obtain ⟨i0, hi, hz0, hz1, hz2⟩ := info_parts info_part
  have hcut := cut_none
  have hlt := gath_lt h
  have H0 : Hid (gath M w a s) := h
  obtain ⟨⟨p, c, h1, h2⟩, h3, ⟨p', c', h4, h5⟩, h6, h7, h8, h9⟩ := h
  have HO : Hid (w.ownsRow M 50 3 (.slice p s.out.length c) s.out.length (cellsP s.out)) := h2
  have HC : Hid (w.cell? ⟨a, 0, none⟩ = some (.slice p s.out.length c)) := h1
  have hpl : (0 : Int) < (s.put.length : Int) := by have := List.length_pos_iff.2 hp; omega
  have hconv : (convert 130 9 (.slice p' s.put.length c')).run Tryz.prog w = .ok (.string ⟨s.put.toArray⟩) w := string_own rfl h5
  have hdb : (s.drop == 0) = true := beq_iff_eq.2 hd
  clear h2 h5 h9 hp
  go_enter Tryz.func197, Tryz.ntmps197
  go_wp2_with (first | (at_builtin; refine wpList_append_own_at _ rfl _ _ 23 rfl M 50 i0 (.agg #[.int .i64 0, .int .i64 0, .string ⟨#[]⟩]) 3 32 Tryz.underlying23 hi hz0 hz1 hz2 rfl (by decide) _ _ _ rfl (HO.out.alloc _) ⟨w.heap.size, 0, none⟩ 1 1 (partCells ⟨0, 0, s.put⟩) rfl rfl (cells_new _ _ _) (partCells_one _) (by unfold maxLen; omega) (by omega) (by first | omega | (simp; omega)) ?_) | fail)
  intro v1 w1 hown1 hg1 _ hat1
  have P1 := gath_push (q := ⟨0, 0, s.put⟩) H0.out HC.out hown1 hg1
  have hb1 : Below (a + 4) w w1 := ((Below.refl (a + 4) w).alloc (by omega) _).grown hg1 (by rw [World.size_alloc]; omega) fun k hk => Nat.le_trans hM (HO.out.lt k hk).1
  obtain ⟨p1, q1, hv1⟩ := own_slice hown1
  rw [hv1] at P1 hown1 ⊢
  rw [hv1] at hat1
  obtain ⟨G1, B1, r1, r2⟩ := P1
  have HS1 : Hid (∀ b, spare w a b → spare (w1.setCell ⟨a, 0, none⟩ (.slice p1 (s.out.length + 1) q1)) a b ∧ (w1.setCell ⟨a, 0, none⟩ (.slice p1 (s.out.length + 1) q1)).heap[b]? = w.heap[b]?) := fun b hb => push_spare HC.out (by rw [r1]; rfl) hg1 (hat1.imp id fun e => ⟨_, e, by simp⟩) hb
  clear hat1
  have HG1 : Hid (gath M _ a ⟨s.out ++ [⟨0, 0, s.put⟩], s.put, s.drop⟩) := G1
  have HB1 : Hid (BelowG M a w _) := B1
  have HO1 : Hid ((w1.setCell ⟨a, 0, none⟩ (.slice p1 (s.out.length + 1) q1)).ownsRow M 50 3 (.slice p1 (s.out.length + 1) q1) (s.out.length + 1) (cellsP s.out ++ partCells ⟨0, 0, s.put⟩)) := own_set hown1 (show a < M by omega) (.slice p1 (s.out.length + 1) q1)
  have k4 := (hb1.cell (p := ⟨a + 1, 0, none⟩) (by show a + 1 < _; omega)).trans h4
  have k6 := (hb1.frozen (p := ⟨a + 1, 0, none⟩) (by show a + 1 < _; omega)).trans h6
  have k7 := (hb1.cell (p := ⟨a + 2, 0, none⟩) (by show a + 2 < _; omega)).trans h7
  have k8 := (hb1.frozen (p := ⟨a + 2, 0, none⟩) (by show a + 2 < _; omega)).trans h8
  have hs1 := hb1.size
  have HK1 : Hid ((w1.setCell ⟨a, 0, none⟩ (.slice p1 (s.out.length + 1) q1)).cell? ⟨a, 0, none⟩ = some (.slice p1 (s.out.length + 1) q1)) := World.cell?_setCell_same _ _ _ r1
  have HK4 : Hid ((w1.setCell ⟨a, 0, none⟩ (.slice p1 (s.out.length + 1) q1)).cell? ⟨a + 1, 0, none⟩ = some (.slice p' s.put.length c')) := (cell_set_ne (by omega) _).trans k4
  clear h1 h3 h4 h6 h7 h8 G1 B1 hown1 hg1 hconv hb1 hv1
  go_wp2
  go_end0
  have F1 := gath_none HG1.out HK4.out
  have F2 := gath_drop F1.1 0
  refine ⟨⟨_, rfl⟩, F2.1, (HB1.out).trans (F1.2.trans F2.2), fun b hb => ?_⟩
  have hb0 := hb.2.1
  have e0 : w.heap[b]? = w.heap[b]? := rfl
  have s0 := hb
  have e1 := (HS1.out b s0).2
  have s1 := (HS1.out b s0).1
  have e2 := e1
  have s2 := s1
  have s3 := set_spare s2 (c := a + 1) (by omega) (by omega) (.slice p' 0 c')
  exact ((set_spare s3.1 (c := a + 2) (by omega) (by omega) (.int .i64 0)).2.trans s3.2).trans e2

set_option maxRecDepth 100000 in
set_option maxHeartbeats 1000000 in
theorem tell_pd {M : Nat} (a : Nat) (s : NSt) (w : World) (h : gath M w a s) (hlen : s.out.length < 1000000000) (hput : s.put.length < 1000000000) (hp : s.put ≠ []) (hd : s.drop ≠ 0) :
    Calls Tryz.prog 197 #[.pointer (some ⟨a + 1, 0, none⟩), .pointer (some ⟨a, 0, none⟩), .pointer (some ⟨a + 2, 0, none⟩)] w fun e w' => (∃ v, e = .returned v) ∧ gath M w' a ⟨s.out ++ [⟨0, 0, s.put⟩, ⟨0, s.drop, []⟩], [], 0⟩ ∧ BelowG M a w w' ∧ ∀ b, spare w a b → w'.heap[b]? = w.heap[b]? := by
  have hM := h.le
  have hT := h.top
  obtain ⟨i0, hi, hz0, hz1, hz2⟩ := info_parts info_part
  have hcut := cut_none
  have hlt := gath_lt h
  have H0 : Hid (gath M w a s) := h
  obtain ⟨⟨p, c, h1, h2⟩, h3, ⟨p', c', h4, h5⟩, h6, h7, h8, h9⟩ := h
  have HO : Hid (w.ownsRow M 50 3 (.slice p s.out.length c) s.out.length (cellsP s.out)) := h2
  have HC : Hid (w.cell? ⟨a, 0, none⟩ = some (.slice p s.out.length c)) := h1
  have hpl : (0 : Int) < (s.put.length : Int) := by have := List.length_pos_iff.2 hp; omega
  have hconv : (convert 130 9 (.slice p' s.put.length c')).run Tryz.prog w = .ok (.string ⟨s.put.toArray⟩) w := string_own rfl h5
  have hdb : (s.drop == 0) = false := beq_eq_false_iff_ne.2 hd
  clear h2 h5 h9 hp
  go_enter Tryz.func197, Tryz.ntmps197
  go_wp2_with (first | (at_builtin; refine wpList_append_own_at _ rfl _ _ 23 rfl M 50 i0 (.agg #[.int .i64 0, .int .i64 0, .string ⟨#[]⟩]) 3 32 Tryz.underlying23 hi hz0 hz1 hz2 rfl (by decide) _ _ _ rfl (HO.out.alloc _) ⟨w.heap.size, 0, none⟩ 1 1 (partCells ⟨0, 0, s.put⟩) rfl rfl (cells_new _ _ _) (partCells_one _) (by unfold maxLen; omega) (by omega) (by first | omega | (simp; omega)) ?_) | fail)
  intro v1 w1 hown1 hg1 _ hat1
  have P1 := gath_push (q := ⟨0, 0, s.put⟩) H0.out HC.out hown1 hg1
  have hb1 : Below (a + 4) w w1 := ((Below.refl (a + 4) w).alloc (by omega) _).grown hg1 (by rw [World.size_alloc]; omega) fun k hk => Nat.le_trans hM (HO.out.lt k hk).1
  obtain ⟨p1, q1, hv1⟩ := own_slice hown1
  rw [hv1] at P1 hown1 ⊢
  rw [hv1] at hat1
  obtain ⟨G1, B1, r1, r2⟩ := P1
  have HS1 : Hid (∀ b, spare w a b → spare (w1.setCell ⟨a, 0, none⟩ (.slice p1 (s.out.length + 1) q1)) a b ∧ (w1.setCell ⟨a, 0, none⟩ (.slice p1 (s.out.length + 1) q1)).heap[b]? = w.heap[b]?) := fun b hb => push_spare HC.out (by rw [r1]; rfl) hg1 (hat1.imp id fun e => ⟨_, e, by simp⟩) hb
  clear hat1
  have HG1 : Hid (gath M _ a ⟨s.out ++ [⟨0, 0, s.put⟩], s.put, s.drop⟩) := G1
  have HB1 : Hid (BelowG M a w _) := B1
  have HO1 : Hid ((w1.setCell ⟨a, 0, none⟩ (.slice p1 (s.out.length + 1) q1)).ownsRow M 50 3 (.slice p1 (s.out.length + 1) q1) (s.out.length + 1) (cellsP s.out ++ partCells ⟨0, 0, s.put⟩)) := own_set hown1 (show a < M by omega) (.slice p1 (s.out.length + 1) q1)
  have k4 := (hb1.cell (p := ⟨a + 1, 0, none⟩) (by show a + 1 < _; omega)).trans h4
  have k6 := (hb1.frozen (p := ⟨a + 1, 0, none⟩) (by show a + 1 < _; omega)).trans h6
  have k7 := (hb1.cell (p := ⟨a + 2, 0, none⟩) (by show a + 2 < _; omega)).trans h7
  have k8 := (hb1.frozen (p := ⟨a + 2, 0, none⟩) (by show a + 2 < _; omega)).trans h8
  have hs1 := hb1.size
  have HK1 : Hid ((w1.setCell ⟨a, 0, none⟩ (.slice p1 (s.out.length + 1) q1)).cell? ⟨a, 0, none⟩ = some (.slice p1 (s.out.length + 1) q1)) := World.cell?_setCell_same _ _ _ r1
  have HK4 : Hid ((w1.setCell ⟨a, 0, none⟩ (.slice p1 (s.out.length + 1) q1)).cell? ⟨a + 1, 0, none⟩ = some (.slice p' s.put.length c')) := (cell_set_ne (by omega) _).trans k4
  clear h1 h3 h4 h6 h7 h8 G1 B1 hown1 hg1 hconv hb1 hv1
  go_wp2_with (first | (at_builtin; refine wpList_append_own_at _ rfl _ _ 23 rfl M 50 i0 (.agg #[.int .i64 0, .int .i64 0, .string ⟨#[]⟩]) 3 32 Tryz.underlying23 hi hz0 hz1 hz2 rfl (by decide) _ _ _ rfl (HO1.out.alloc _) ⟨w1.heap.size, 0, none⟩ 1 1 (partCells ⟨0, s.drop, []⟩) rfl rfl (cells_new_set _ _ _ _ _) (partCells_one _) (by unfold maxLen; omega) (by omega) (by first | omega | (simp; omega)) ?_) | fail)
  intro v2 w2 hown2 hg2 _ hat2
  have hown2' : w2.ownsRow M 50 3 v2 ((s.out ++ [(⟨0, 0, s.put⟩ : Pt)]).length + 1) (cellsP (s.out ++ [(⟨0, 0, s.put⟩ : Pt)]) ++ partCells ⟨0, s.drop, []⟩) := by
    rw [cellsP_snoc, List.length_append, List.append_assoc]; exact hown2
  have hls : (s.out ++ [(⟨0, 0, s.put⟩ : Pt)]).length = s.out.length + 1 := by rw [List.length_append]; rfl
  have HK1' : (w1.setCell ⟨a, 0, none⟩ (.slice p1 (s.out.length + 1) q1)).cell? ⟨a, 0, none⟩ = some (.slice p1 (s.out ++ [(⟨0, 0, s.put⟩ : Pt)]).length q1) := by rw [hls]; exact HK1.out
  have P2 := gath_push (q := ⟨0, s.drop, []⟩) HG1.out HK1' hown2' (by rw [hls]; exact hg2)
  have hb2 : Below (a + 4) (w1.setCell ⟨a, 0, none⟩ (.slice p1 (s.out.length + 1) q1)) w2 := ((Below.refl (a + 4) _).alloc (by simp; omega) _).grown hg2 (by rw [World.size_alloc]; simp; omega) fun k hk => Nat.le_trans hM (HO1.out.lt k hk).1
  have z4 := HK4.out
  have z6 : (w1.setCell ⟨a, 0, none⟩ (.slice p1 (s.out.length + 1) q1)).frozen? ⟨a + 1, 0, none⟩ = false := by rw [World.frozen?_setCell]; exact k6
  have z7 : (w1.setCell ⟨a, 0, none⟩ (.slice p1 (s.out.length + 1) q1)).cell? ⟨a + 2, 0, none⟩ = some (.int .i64 s.drop) := (cell_set_ne (by omega) _).trans k7
  have z8 : (w1.setCell ⟨a, 0, none⟩ (.slice p1 (s.out.length + 1) q1)).frozen? ⟨a + 2, 0, none⟩ = false := by rw [World.frozen?_setCell]; exact k8
  clear HK1'
  obtain ⟨p2, q2, hv2⟩ := own_slice hown2
  rw [hv2] at P2 ⊢
  rw [hv2] at hat2
  obtain ⟨G2, B2, t1, t2⟩ := P2
  have HS2 : Hid (∀ b, spare (w1.setCell ⟨a, 0, none⟩ (.slice p1 (s.out.length + 1) q1)) a b → spare (w2.setCell ⟨a, 0, none⟩ (.slice p2 ((s.out.length + 1) + 1) q2)) a b ∧ (w2.setCell ⟨a, 0, none⟩ (.slice p2 ((s.out.length + 1) + 1) q2)).heap[b]? = (w1.setCell ⟨a, 0, none⟩ (.slice p1 (s.out.length + 1) q1)).heap[b]?) := fun b hb => push_spare HK1.out (by rw [t1]; rfl) hg2 (hat2.imp id fun e => ⟨_, e, by simp⟩) hb
  clear hat2
  have HG2 : Hid (gath M _ a ⟨(s.out ++ [⟨0, 0, s.put⟩]) ++ [⟨0, s.drop, []⟩], s.put, s.drop⟩) := G2
  have HB2 : Hid (BelowG M a _ _) := B2
  have y4 := (hb2.cell (p := ⟨a + 1, 0, none⟩) (by show a + 1 < _; omega)).trans z4
  have y6 := (hb2.frozen (p := ⟨a + 1, 0, none⟩) (by show a + 1 < _; omega)).trans z6
  have y7 := (hb2.cell (p := ⟨a + 2, 0, none⟩) (by show a + 2 < _; omega)).trans z7
  have y8 := (hb2.frozen (p := ⟨a + 2, 0, none⟩) (by show a + 2 < _; omega)).trans z8
  have hs2 := hb2.size
  have HK5 : Hid ((w2.setCell ⟨a, 0, none⟩ (.slice p2 ((s.out.length + 1) + 1) q2)).cell? ⟨a + 1, 0, none⟩ = some (.slice p' s.put.length c')) := (cell_set_ne (by omega) _).trans y4
  clear z4 z6 z7 z8 G2 B2 hown2 hg2 hb2 hv2
  clear k4 k6 k7 k8 r1 r2
  clear hown2'
  go_wp2
  go_end0
  have F1 := gath_none HG2.out HK5.out
  have F2 := gath_drop F1.1 0
  have F3 := F2.1
  rw [List.append_assoc] at F3
  refine ⟨⟨_, rfl⟩, F3, (HB1.out.trans HB2.out).trans (F1.2.trans F2.2), fun b hb => ?_⟩
  have hb0 := hb.2.1
  have e0 : w.heap[b]? = w.heap[b]? := rfl
  have s0 := hb
  have e1 := (HS1.out b s0).2
  have s1 := (HS1.out b s0).1
  have e2 := ((HS2.out b s1).2).trans e1
  have s2 := (HS2.out b s1).1
  have s3 := set_spare s2 (c := a + 1) (by omega) (by omega) (.slice p' 0 c')
  exact ((set_spare s3.1 (c := a + 2) (by omega) (by omega) (.int .i64 0)).2.trans s3.2).trans e2

theorem tell_any {M : Nat} (a : Nat) (s : NSt) (w : World) (h : gath M w a s) (hlen : s.out.length < 1000000000) (hput : s.put.length < 1000000000) :
    Calls Tryz.prog 197 #[.pointer (some ⟨a + 1, 0, none⟩), .pointer (some ⟨a, 0, none⟩), .pointer (some ⟨a + 2, 0, none⟩)] w fun e w' => (∃ v, e = .returned v) ∧ gath M w' a ⟨tellP s, [], 0⟩ ∧ BelowG M a w w' ∧ ∀ b, spare w a b → w'.heap[b]? = w.heap[b]? := by
  have hM := h.le
  have hT := h.top
  unfold tellP
  by_cases hp : s.put = []
  · by_cases hd : s.drop = 0
    · have := tell_oo a s w h hlen hput hp hd
      simpa [hp, hd] using this
    · have := tell_od a s w h hlen hput hp hd
      simpa [hp, hd] using this
  · by_cases hd : s.drop = 0
    · have := tell_po a s w h hlen hput hp hd
      simpa [hp, hd] using this
    · have := tell_pd a s w h hlen hput hp hd
      simpa [hp, hd] using this
end Go.Proofs.YtldhbjmillfjgabGreatDoor

namespace Go.Proofs.YtldhbjmillfjgabGreatDoor
open Go.RowKit
set_option linter.unusedVariables false

def partV (p : Pt) : Value := .agg #[.int .i64 p.keep, .int .i64 p.drop, .string ⟨p.put.toArray⟩]

theorem isKeep_any (p : Pt) (w : World) : Calls Tryz.prog 83 #[partV p] w fun e w' => e = .returned (.bool (decide (0 < p.keep))) ∧ Below w.heap.size w w' := by
  unfold partV
  go_enter Tryz.func83, Tryz.ntmps83
  go_wp2
  go_ret
  exact ⟨rfl, (Below.refl _ _).alloc (Nat.le_refl _) _⟩
theorem isDrop_any (p : Pt) (w : World) : Calls Tryz.prog 165 #[partV p] w fun e w' => e = .returned (.bool (decide (0 < p.drop))) ∧ Below w.heap.size w w' := by
  unfold partV
  go_enter Tryz.func165, Tryz.ntmps165
  go_wp2
  go_ret
  exact ⟨rfl, (Below.refl _ _).alloc (Nat.le_refl _) _⟩

theorem done_anyG {M : Nat} (a : Nat) (s : NSt) (w : World) (h : gath M w a s) (hlen : s.out.length < 1000000000) (hput : s.put.length < 1000000000) :
    Calls Tryz.prog 199 #[.pointer (some ⟨a + 3, 0, none⟩), .pointer (some ⟨a, 0, none⟩)] w fun e w' => ∃ v, e = .returned v ∧ w'.ownsRow M 50 3 v (tellP s).length (cellsP (tellP s)) ∧ BelowG M a w w' := by
  have hM := h.le
  have hT := h.top
  have cT := tell_any a s w h hlen hput
  have h9 := h.tell
  clear h
  go_enter Tryz.func199, Tryz.ntmps199
  go_wp2_with (first | (go_at_call 197; refine cT.mono ?_; rintro e w1 ⟨⟨v, rfl⟩, ⟨⟨p, c, h1, h2⟩, _⟩, hb, _⟩) | fail)
  go_ret
  exact ⟨_, rfl, h2, hb⟩

/-- Behind 'op[end].Keep += ..': the last part's first cell is written. -/
theorem gath_more {M : Nat} {w : World} {a g n c : Nat} {init : List Pt} {q : Pt} (h : gath M w a ⟨init ++ [q], [], 0⟩) (hc : w.cell? ⟨a, 0, none⟩ = some (.slice (some ⟨g, 0, none⟩) n c)) (hn : n = (init ++ [q]).length) (k : Int) :
    gath M (w.setCell ⟨g, init.length * 3, none⟩ (.int .i64 k)) a ⟨init ++ [⟨k, q.drop, q.put⟩], [], 0⟩ ∧ BelowG M a w (w.setCell ⟨g, init.length * 3, none⟩ (.int .i64 k)) := by
  have hM := h.le
  have hT := h.top
  subst hn
  obtain ⟨⟨p1, c1, h1, h2⟩, h3, ⟨p', c', h4, h5⟩, h6, h7, h8, h9⟩ := h
  rw [hc] at h1
  simp only [Option.some.injEq, Value.slice.injEq, true_and] at h1
  obtain ⟨rfl, rfl⟩ := h1
  have hlt := h2.lt g rfl
  obtain ⟨r1, r2⟩ := h2.stored (init.length * 3) (.int .i64 k)
  have hx : (cellsP (init ++ [q])).set (init.length * 3) (.int .i64 k) = cellsP (init ++ [⟨k, q.drop, q.put⟩]) := by
    rw [cellsP_snoc, cellsP_snoc, List.set_append_right _ _ (by rw [cellsP_len]; exact Nat.le_refl _), cellsP_len, Nat.sub_self]
    rfl
  rw [hx] at r1
  have hl : (init ++ [(⟨k, q.drop, q.put⟩ : Pt)]).length = (init ++ [q]).length := by simp
  have r3 := h5.kept r2 (own_ne h5 h2 (by decide))
  refine ⟨⟨⟨some ⟨g, 0, none⟩, c, ?_, ?_⟩, ?_, ⟨p', c', ?_, r3⟩, ?_, ?_, ?_, ?_, hM, (by simp; omega)⟩, ⟨(Below.refl a w).setCell (by show a ≤ g; omega) _, (KeptG.refl M a w).grown h2 (.inr rfl) r2⟩⟩
  · show _ = some (Value.slice _ (init ++ [(⟨k, q.drop, q.put⟩ : Pt)]).length c)
    rw [hl]
    exact (World.cell?_of_block (a := ⟨a, 0, none⟩) (r2.block a (by omega) (by intro e; have := Option.some.inj e; omega))).trans hc
  · show World.ownsRow _ _ _ _ (.slice _ (init ++ [(⟨k, q.drop, q.put⟩ : Pt)]).length c) (init ++ [(⟨k, q.drop, q.put⟩ : Pt)]).length _
    rw [hl]
    exact r1
  · rw [World.frozen?_setCell]; exact h3
  · exact (World.cell?_of_block (a := ⟨a + 1, 0, none⟩) (r2.block (a + 1) (by omega) (by intro e; have := Option.some.inj e; omega))).trans h4
  · rw [World.frozen?_setCell]; exact h6
  · exact (World.cell?_of_block (a := ⟨a + 2, 0, none⟩) (r2.block (a + 2) (by omega) (by intro e; have := Option.some.inj e; omega))).trans h7
  · rw [World.frozen?_setCell]; exact h8
  · exact (World.cell?_of_block (a := ⟨a + 3, 0, none⟩) (r2.block (a + 3) (by omega) (by intro e; have := Option.some.inj e; omega))).trans h9

/-- The last part's cells, in its row. -/
theorem last_cells {w : World} {B g n c : Nat} {init : List Pt} {q : Pt} (h : w.ownsRow B 50 3 (.slice (some ⟨g, 0, none⟩) n c) n (cellsP (init ++ [q]))) (hn : n = (init ++ [q]).length) :
    w.cell? ⟨g, init.length * 3, none⟩ = some (.int .i64 q.keep) ∧ w.cell? ⟨g, init.length * 3 + 1, none⟩ = some (.int .i64 q.drop) ∧ w.cell? ⟨g, init.length * 3 + 2, none⟩ = some (.string ⟨q.put.toArray⟩) ∧ w.frozen? ⟨g, init.length * 3, none⟩ = false := by
  subst hn
  have hn : (init ++ [q]).length = init.length + 1 := by simp
  have e : ∀ j, j < 3 → (cellsP (init ++ [q]))[init.length * 3 + j]? = (partCells q)[j]? := by
    intro j hj
    rw [cellsP_snoc, List.getElem?_append_right (by rw [cellsP_len]; omega), cellsP_len]
    congr 1
    omega
  refine ⟨?_, ?_, ?_, h.frozenAt _⟩
  · rw [h.cellAt _ (by rw [hn]; omega)]; exact e 0 (by omega)
  · rw [h.cellAt _ (by rw [hn]; omega)]; exact e 1 (by omega)
  · rw [h.cellAt _ (by rw [hn]; omega)]; exact e 2 (by omega)

set_option maxRecDepth 100000 in
set_option maxHeartbeats 2000000 in
theorem add_zero {M : Nat} (a : Nat) (s : NSt) (p : Pt) (w : World) (h : gath M w a s) (hput : s.put.length + p.put.length < 1000000000) (hd : -9223372036854775808 ≤ s.drop + p.drop) (hd' : s.drop + p.drop < 9223372036854775808) (hout : s.out.length < 100000000)
     :
    Calls Tryz.prog 198 #[(.agg #[.int .i64 0, .int .i64 p.drop, .string ⟨p.put.toArray⟩]), .pointer (some ⟨a + 1, 0, none⟩), .pointer (some ⟨a + 2, 0, none⟩), .pointer (some ⟨a + 3, 0, none⟩), .pointer (some ⟨a, 0, none⟩)] w fun e w' => (∃ v, e = .returned v) ∧ gath M w' a ⟨s.out, s.put ++ p.put, s.drop + p.drop⟩ ∧ BelowG M a w w' := by
  have hM := h.le
  have hT := h.top
  obtain ⟨i0, hi, hz0, hz1, hz2⟩ := info_parts info_part
  obtain ⟨i1, hj, hy0, hy1, hy2⟩ := info_parts info_u8
  have hlt := gath_lt h
  have hb0' : Below w.heap.size w (w.alloc (.cells #[.int .i64 0, .int .i64 p.drop, .string ⟨p.put.toArray⟩] 50)) := (Below.refl _ _).alloc (Nat.le_refl _) _
  have HG0 : Hid (gath M (w.alloc (.cells #[.int .i64 0, .int .i64 p.drop, .string ⟨p.put.toArray⟩] 50)) a s) := gath_below h hb0'
  have HB0 : Hid (BelowG M a w (w.alloc (.cells #[.int .i64 0, .int .i64 p.drop, .string ⟨p.put.toArray⟩] 50))) := .of hb0' (by omega)
  have x0 : (w.alloc (.cells #[.int .i64 0, .int .i64 p.drop, .string ⟨p.put.toArray⟩] 50)).cell? ⟨w.heap.size, 0, none⟩ = some (.int .i64 0) := by simp [go_sem]
  have x1 : (w.alloc (.cells #[.int .i64 0, .int .i64 p.drop, .string ⟨p.put.toArray⟩] 50)).cell? ⟨w.heap.size, 1, none⟩ = some (.int .i64 p.drop) := by simp [go_sem]
  obtain ⟨⟨pp, c, h1, h2⟩, h3, ⟨p', c', h4, h5⟩, h6, h7, h8, h9⟩ := h
  have HL1 : Hid (∀ k, (Value.slice pp s.out.length c).ownBlock = some k → k < w.heap.size) := fun k hk' => (h2.lt k hk').2
  have HL2 : Hid (∀ k, (Value.slice p' s.put.length c').ownBlock = some k → k < w.heap.size) := fun k hk' => (h5.lt k hk').2
  have hP : (w.alloc (.cells #[.int .i64 0, .int .i64 p.drop, .string ⟨p.put.toArray⟩] 50)).ownsRow M 5 1 (.slice p' s.put.length c') s.put.length (Lib.byteCells s.put) := h5.alloc _
  have hC : (w.alloc (.cells #[.int .i64 0, .int .i64 p.drop, .string ⟨p.put.toArray⟩] 50)).cell? ⟨a + 1, 0, none⟩ = some (.slice p' s.put.length c') := (hb0'.cell (p := ⟨a + 1, 0, none⟩) (by show a + 1 < _; omega)).trans h4
  have hC0 : (w.alloc (.cells #[.int .i64 0, .int .i64 p.drop, .string ⟨p.put.toArray⟩] 50)).cell? ⟨a, 0, none⟩ = some (.slice pp s.out.length c) := (hb0'.cell (p := ⟨a, 0, none⟩) (by show a < _; omega)).trans h1
  have hD2 : (w.alloc (.cells #[.int .i64 0, .int .i64 p.drop, .string ⟨p.put.toArray⟩] 50)).cell? ⟨a + 2, 0, none⟩ = some (.int .i64 s.drop) := (hb0'.cell (p := ⟨a + 2, 0, none⟩) (by show a + 2 < _; omega)).trans h7
  have hF2 : (w.alloc (.cells #[.int .i64 0, .int .i64 p.drop, .string ⟨p.put.toArray⟩] 50)).frozen? ⟨a + 2, 0, none⟩ = false := (hb0'.frozen (p := ⟨a + 2, 0, none⟩) (by show a + 2 < _; omega)).trans h8
  have hD3 : (w.alloc (.cells #[.int .i64 0, .int .i64 p.drop, .string ⟨p.put.toArray⟩] 50)).cell? ⟨a + 3, 0, none⟩ = some (.func (.func 197) #[] #[.pointer (some ⟨a + 1, 0, none⟩), .pointer (some ⟨a, 0, none⟩), .pointer (some ⟨a + 2, 0, none⟩)]) := (hb0'.cell (p := ⟨a + 3, 0, none⟩) (by show a + 3 < _; omega)).trans h9
  have HP : Hid ((w.alloc (.cells #[.int .i64 0, .int .i64 p.drop, .string ⟨p.put.toArray⟩] 50)).ownsRow M 5 1 (.slice p' s.put.length c') s.put.length (Lib.byteCells s.put)) := hP
  have HX : Hid (∀ w1 v1, w1.ownsRow M 5 1 v1 (s.put.length + (ByteArray.mk p.put.toArray).size) (Lib.byteCells s.put ++ Lib.strCells ⟨p.put.toArray⟩) → (w.alloc (.cells #[.int .i64 0, .int .i64 p.drop, .string ⟨p.put.toArray⟩] 50)).grownBy w1 (Value.slice p' s.put.length c').ownBlock →
      gath M ((w1.setCell ⟨a + 1, 0, none⟩ v1).setCell ⟨a + 2, 0, none⟩ (.int .i64 (s.drop + p.drop))) a ⟨s.out, s.put ++ p.put, s.drop + p.drop⟩ ∧ BelowG M a w ((w1.setCell ⟨a + 1, 0, none⟩ v1).setCell ⟨a + 2, 0, none⟩ (.int .i64 (s.drop + p.drop))) ∧
      spare ((w1.setCell ⟨a + 1, 0, none⟩ v1).setCell ⟨a + 2, 0, none⟩ (.int .i64 (s.drop + p.drop))) a w.heap.size ∧
      w1.cell? ⟨a + 1, 0, none⟩ = some (.slice p' s.put.length c') ∧ w1.frozen? ⟨a + 1, 0, none⟩ = false ∧ w1.cell? ⟨a + 2, 0, none⟩ = some (.int .i64 s.drop) ∧ w1.frozen? ⟨a + 2, 0, none⟩ = false ∧
      w1.cell? ⟨a + 3, 0, none⟩ = some (.func (.func 197) #[] #[.pointer (some ⟨a + 1, 0, none⟩), .pointer (some ⟨a, 0, none⟩), .pointer (some ⟨a + 2, 0, none⟩)]) ∧
      (∀ o, w1.cell? ⟨w.heap.size, o, none⟩ = (w.alloc (.cells #[.int .i64 0, .int .i64 p.drop, .string ⟨p.put.toArray⟩] 50)).cell? ⟨w.heap.size, o, none⟩) ∧ w.heap.size < w1.heap.size) := by
    intro w1 v1 q1 q2
    have hz : (ByteArray.mk p.put.toArray).size = p.put.length := by simp [ByteArray.size]
    rw [hz] at q1
    obtain ⟨g1, g2, g3, g4⟩ := gath_puts (q := p.put) HG0.out hC q1 q2
    obtain ⟨g5, g6⟩ := gath_drop g1 (s.drop + p.drop)
    have hlow : ∀ k, (Value.slice p' s.put.length c').ownBlock = some k → a + 4 ≤ k := fun k hk => Nat.le_trans hM (hP.lt k hk).1
    have hbb : Below (a + 4) (w.alloc (.cells #[.int .i64 0, .int .i64 p.drop, .string ⟨p.put.toArray⟩] 50)) w1 := (Below.refl _ _).grown q2 (by rw [World.size_alloc]; omega) hlow
    have hsz := q2.size
    rw [World.size_alloc] at hsz
    refine ⟨g5, HB0.out.trans (g2.trans g6), ⟨by simp; omega, hlt, ?_⟩, g3, g4, (hbb.cell (p := ⟨a + 2, 0, none⟩) (by show a + 2 < _; omega)).trans hD2, (hbb.frozen (p := ⟨a + 2, 0, none⟩) (by show a + 2 < _; omega)).trans hF2, (hbb.cell (p := ⟨a + 3, 0, none⟩) (by show a + 3 < _; omega)).trans hD3, ?_, by omega⟩
    · intro v hv
      rw [cell_set_ne (by omega), cell_set_ne (by omega), (hbb.cell (p := ⟨a, 0, none⟩) (by show a < _; omega)), hC0] at hv
      obtain rfl := Option.some.inj hv
      intro e
      have := HL1.out _ e
      omega
    · intro o
      exact World.cell?_of_block (a := ⟨w.heap.size, o, none⟩) (q2.block w.heap.size (by rw [World.size_alloc]; omega) (by intro e; have := HL2.out _ e.symm; omega))
  clear h2 h5 hP hC hC0 hD2 hF2 hD3 hb0' h1 h3 h6 h7 h8 h9
  have n0 : a + 1 < w.heap.size := by omega
  have HZ : Hid ((ByteArray.mk p.put.toArray).size = p.put.length) := by show _ = _; simp [ByteArray.size]
  have n1 : ¬ (a + 1 = w.heap.size) := by omega
  have n2 : ¬ (w.heap.size = a + 1) := by omega
  have n3 : ¬ (a + 2 = w.heap.size) := by omega
  have n4 : ¬ (w.heap.size = a + 2) := by omega
  have hwrap : IntKind.i64.wrap (s.drop + p.drop) = s.drop + p.drop := by rw [IntKind.wrap_i64]; omega

  go_enter Tryz.func198, Tryz.ntmps198
  go_wp2_with (first | (at_builtin; refine Lib.wpList_append_own_string _ rfl _ _ 130 9 rfl M 5 i1 Tryz.underlying130 Tryz.underlying9 hj hy0 hy1 hy2 _ _ _ rfl HP.out _ rfl (by rw [HZ.out]; unfold maxLen; omega) (by rw [HZ.out]; omega) (by simp; omega) ?_) | fail)
  intro v1 w1 hown1 hg1 _
  have R := HX.out w1 v1 hown1 hg1
  obtain ⟨pv, cv, rfl⟩ := own_slice hown1
  obtain ⟨G2, B2, S2, r1, r2, r3, r4, r5, r6, r7⟩ := R
  have y0 := (r6 0).trans x0
  have y1 := (r6 1).trans x1
  have HG2 : Hid _ := G2
  have HB2 : Hid _ := B2
  have HS2 : Hid _ := S2
  clear hown1 hg1 x0 x1 r6 G2 B2 S2 HX HL1 HL2 HP HG0 HB0 h4
  go_wp2
  refine bodyPost_ret (results_none rfl _ _ _) rfl ?_
  exact ⟨⟨_, rfl⟩, HG2.out, HB2.out⟩

set_option maxRecDepth 100000 in
set_option maxHeartbeats 2000000 in
theorem add_only {M : Nat} (a : Nat) (s : NSt) (p : Pt) (w : World) (h : gath M w a s) (hput : s.put.length + p.put.length < 1000000000) (hd : -9223372036854775808 ≤ s.drop + p.drop) (hd' : s.drop + p.drop < 9223372036854775808) (hout : s.out.length < 100000000)
    (hk : p.keep ≠ 0) (L : List Pt) (hL : tellP ⟨s.out, s.put ++ p.put, s.drop + p.drop⟩ = L) (hLq : L = []) :
    Calls Tryz.prog 198 #[(partV p), .pointer (some ⟨a + 1, 0, none⟩), .pointer (some ⟨a + 2, 0, none⟩), .pointer (some ⟨a + 3, 0, none⟩), .pointer (some ⟨a, 0, none⟩)] w fun e w' => (∃ v, e = .returned v) ∧ gath M w' a ⟨L ++ [⟨p.keep, 0, []⟩], [], 0⟩ ∧ BelowG M a w w' := by
  have hM := h.le
  have hT := h.top
  obtain ⟨i0, hi, hz0, hz1, hz2⟩ := info_parts info_part
  obtain ⟨i1, hj, hy0, hy1, hy2⟩ := info_parts info_u8
  have hlt := gath_lt h
  have hb0' : Below w.heap.size w (w.alloc (.cells #[.int .i64 p.keep, .int .i64 p.drop, .string ⟨p.put.toArray⟩] 50)) := (Below.refl _ _).alloc (Nat.le_refl _) _
  have HG0 : Hid (gath M (w.alloc (.cells #[.int .i64 p.keep, .int .i64 p.drop, .string ⟨p.put.toArray⟩] 50)) a s) := gath_below h hb0'
  have HB0 : Hid (BelowG M a w (w.alloc (.cells #[.int .i64 p.keep, .int .i64 p.drop, .string ⟨p.put.toArray⟩] 50))) := .of hb0' (by omega)
  have x0 : (w.alloc (.cells #[.int .i64 p.keep, .int .i64 p.drop, .string ⟨p.put.toArray⟩] 50)).cell? ⟨w.heap.size, 0, none⟩ = some (.int .i64 p.keep) := by simp [go_sem]
  have x1 : (w.alloc (.cells #[.int .i64 p.keep, .int .i64 p.drop, .string ⟨p.put.toArray⟩] 50)).cell? ⟨w.heap.size, 1, none⟩ = some (.int .i64 p.drop) := by simp [go_sem]
  obtain ⟨⟨pp, c, h1, h2⟩, h3, ⟨p', c', h4, h5⟩, h6, h7, h8, h9⟩ := h
  have HL1 : Hid (∀ k, (Value.slice pp s.out.length c).ownBlock = some k → k < w.heap.size) := fun k hk' => (h2.lt k hk').2
  have HL2 : Hid (∀ k, (Value.slice p' s.put.length c').ownBlock = some k → k < w.heap.size) := fun k hk' => (h5.lt k hk').2
  have hP : (w.alloc (.cells #[.int .i64 p.keep, .int .i64 p.drop, .string ⟨p.put.toArray⟩] 50)).ownsRow M 5 1 (.slice p' s.put.length c') s.put.length (Lib.byteCells s.put) := h5.alloc _
  have hC : (w.alloc (.cells #[.int .i64 p.keep, .int .i64 p.drop, .string ⟨p.put.toArray⟩] 50)).cell? ⟨a + 1, 0, none⟩ = some (.slice p' s.put.length c') := (hb0'.cell (p := ⟨a + 1, 0, none⟩) (by show a + 1 < _; omega)).trans h4
  have hC0 : (w.alloc (.cells #[.int .i64 p.keep, .int .i64 p.drop, .string ⟨p.put.toArray⟩] 50)).cell? ⟨a, 0, none⟩ = some (.slice pp s.out.length c) := (hb0'.cell (p := ⟨a, 0, none⟩) (by show a < _; omega)).trans h1
  have hD2 : (w.alloc (.cells #[.int .i64 p.keep, .int .i64 p.drop, .string ⟨p.put.toArray⟩] 50)).cell? ⟨a + 2, 0, none⟩ = some (.int .i64 s.drop) := (hb0'.cell (p := ⟨a + 2, 0, none⟩) (by show a + 2 < _; omega)).trans h7
  have hF2 : (w.alloc (.cells #[.int .i64 p.keep, .int .i64 p.drop, .string ⟨p.put.toArray⟩] 50)).frozen? ⟨a + 2, 0, none⟩ = false := (hb0'.frozen (p := ⟨a + 2, 0, none⟩) (by show a + 2 < _; omega)).trans h8
  have hD3 : (w.alloc (.cells #[.int .i64 p.keep, .int .i64 p.drop, .string ⟨p.put.toArray⟩] 50)).cell? ⟨a + 3, 0, none⟩ = some (.func (.func 197) #[] #[.pointer (some ⟨a + 1, 0, none⟩), .pointer (some ⟨a, 0, none⟩), .pointer (some ⟨a + 2, 0, none⟩)]) := (hb0'.cell (p := ⟨a + 3, 0, none⟩) (by show a + 3 < _; omega)).trans h9
  have HP : Hid ((w.alloc (.cells #[.int .i64 p.keep, .int .i64 p.drop, .string ⟨p.put.toArray⟩] 50)).ownsRow M 5 1 (.slice p' s.put.length c') s.put.length (Lib.byteCells s.put)) := hP
  have HX : Hid (∀ w1 v1, w1.ownsRow M 5 1 v1 (s.put.length + (ByteArray.mk p.put.toArray).size) (Lib.byteCells s.put ++ Lib.strCells ⟨p.put.toArray⟩) → (w.alloc (.cells #[.int .i64 p.keep, .int .i64 p.drop, .string ⟨p.put.toArray⟩] 50)).grownBy w1 (Value.slice p' s.put.length c').ownBlock →
      gath M ((w1.setCell ⟨a + 1, 0, none⟩ v1).setCell ⟨a + 2, 0, none⟩ (.int .i64 (s.drop + p.drop))) a ⟨s.out, s.put ++ p.put, s.drop + p.drop⟩ ∧ BelowG M a w ((w1.setCell ⟨a + 1, 0, none⟩ v1).setCell ⟨a + 2, 0, none⟩ (.int .i64 (s.drop + p.drop))) ∧
      spare ((w1.setCell ⟨a + 1, 0, none⟩ v1).setCell ⟨a + 2, 0, none⟩ (.int .i64 (s.drop + p.drop))) a w.heap.size ∧
      w1.cell? ⟨a + 1, 0, none⟩ = some (.slice p' s.put.length c') ∧ w1.frozen? ⟨a + 1, 0, none⟩ = false ∧ w1.cell? ⟨a + 2, 0, none⟩ = some (.int .i64 s.drop) ∧ w1.frozen? ⟨a + 2, 0, none⟩ = false ∧
      w1.cell? ⟨a + 3, 0, none⟩ = some (.func (.func 197) #[] #[.pointer (some ⟨a + 1, 0, none⟩), .pointer (some ⟨a, 0, none⟩), .pointer (some ⟨a + 2, 0, none⟩)]) ∧
      (∀ o, w1.cell? ⟨w.heap.size, o, none⟩ = (w.alloc (.cells #[.int .i64 p.keep, .int .i64 p.drop, .string ⟨p.put.toArray⟩] 50)).cell? ⟨w.heap.size, o, none⟩) ∧ w.heap.size < w1.heap.size) := by
    intro w1 v1 q1 q2
    have hz : (ByteArray.mk p.put.toArray).size = p.put.length := by simp [ByteArray.size]
    rw [hz] at q1
    obtain ⟨g1, g2, g3, g4⟩ := gath_puts (q := p.put) HG0.out hC q1 q2
    obtain ⟨g5, g6⟩ := gath_drop g1 (s.drop + p.drop)
    have hlow : ∀ k, (Value.slice p' s.put.length c').ownBlock = some k → a + 4 ≤ k := fun k hk => Nat.le_trans hM (hP.lt k hk).1
    have hbb : Below (a + 4) (w.alloc (.cells #[.int .i64 p.keep, .int .i64 p.drop, .string ⟨p.put.toArray⟩] 50)) w1 := (Below.refl _ _).grown q2 (by rw [World.size_alloc]; omega) hlow
    have hsz := q2.size
    rw [World.size_alloc] at hsz
    refine ⟨g5, HB0.out.trans (g2.trans g6), ⟨by simp; omega, hlt, ?_⟩, g3, g4, (hbb.cell (p := ⟨a + 2, 0, none⟩) (by show a + 2 < _; omega)).trans hD2, (hbb.frozen (p := ⟨a + 2, 0, none⟩) (by show a + 2 < _; omega)).trans hF2, (hbb.cell (p := ⟨a + 3, 0, none⟩) (by show a + 3 < _; omega)).trans hD3, ?_, by omega⟩
    · intro v hv
      rw [cell_set_ne (by omega), cell_set_ne (by omega), (hbb.cell (p := ⟨a, 0, none⟩) (by show a < _; omega)), hC0] at hv
      obtain rfl := Option.some.inj hv
      intro e
      have := HL1.out _ e
      omega
    · intro o
      exact World.cell?_of_block (a := ⟨w.heap.size, o, none⟩) (q2.block w.heap.size (by rw [World.size_alloc]; omega) (by intro e; have := HL2.out _ e.symm; omega))
  clear h2 h5 hP hC hC0 hD2 hF2 hD3 hb0' h1 h3 h6 h7 h8 h9
  have n0 : a + 1 < w.heap.size := by omega
  have HZ : Hid ((ByteArray.mk p.put.toArray).size = p.put.length) := by show _ = _; simp [ByteArray.size]
  have n1 : ¬ (a + 1 = w.heap.size) := by omega
  have n2 : ¬ (w.heap.size = a + 1) := by omega
  have n3 : ¬ (a + 2 = w.heap.size) := by omega
  have n4 : ¬ (w.heap.size = a + 2) := by omega
  have hwrap : IntKind.i64.wrap (s.drop + p.drop) = s.drop + p.drop := by rw [IntKind.wrap_i64]; omega
  unfold partV
  go_enter Tryz.func198, Tryz.ntmps198
  go_wp2_with (first | (at_builtin; refine Lib.wpList_append_own_string _ rfl _ _ 130 9 rfl M 5 i1 Tryz.underlying130 Tryz.underlying9 hj hy0 hy1 hy2 _ _ _ rfl HP.out _ rfl (by rw [HZ.out]; unfold maxLen; omega) (by rw [HZ.out]; omega) (by simp; omega) ?_) | fail)
  intro v1 w1 hown1 hg1 _
  have R := HX.out w1 v1 hown1 hg1
  obtain ⟨pv, cv, rfl⟩ := own_slice hown1
  obtain ⟨G2, B2, S2, r1, r2, r3, r4, r5, r6, r7⟩ := R
  have y0 := (r6 0).trans x0
  have y1 := (r6 1).trans x1
  have HG2 : Hid _ := G2
  have HB2 : Hid _ := B2
  have HS2 : Hid _ := S2
  clear hown1 hg1 x0 x1 r6 G2 B2 S2 HX HL1 HL2 HP HG0 HB0 h4
  have hkb : (p.keep == 0) = false := beq_eq_false_iff_ne.2 hk
  go_wp2_with (first | (go_at_call 9999) | fail)
  refine (tell_any a _ _ HG2.out (by show s.out.length < _; omega) (by show (s.put ++ p.put).length < _; rw [List.length_append]; exact hput)).mono ?_
  rintro e w3 ⟨⟨v3, rfl⟩, G3, B3, S3⟩
  have hS3 := S3 _ HS2.out
  have z0 : w3.cell? ⟨w.heap.size, 0, none⟩ = some (.int .i64 p.keep) := (World.cell?_of_block (a := ⟨w.heap.size, 0, none⟩) hS3).trans (by rw [cell_set_ne (by omega), cell_set_ne (by omega)]; exact y0)
  rw [hL] at G3
  have HB3 : Hid (BelowG M a w w3) := HB2.out.trans B3
  have hs3 : w.heap.size ≤ w3.heap.size := HB3.out.size
  clear S3 hS3 B3 HB2 HS2 HG2 y0 y1 r1 r2 r3 r4 r5 r7
  subst hLq
  have HG3 : Hid (gath M w3 a ⟨[], [], 0⟩) := G3
  have hlt3 := gath_lt G3
  obtain ⟨⟨p3, c3, u1, u2⟩, u3, _, _, _, _, _⟩ := G3
  have HU1 : Hid (w3.cell? ⟨a, 0, none⟩ = some (.slice p3 0 c3)) := u1
  have HU2 : Hid (w3.ownsRow M 50 3 (.slice p3 0 c3) 0 (cellsP [])) := u2
  have u1' : w3.cell? ⟨a, 0, none⟩ = some (.slice p3 0 c3) := u1
  clear u1 u2
  go_wp2_with (first | (at_builtin; refine wpList_append_own_at _ rfl _ _ 23 rfl M 50 i0 (.agg #[.int .i64 0, .int .i64 0, .string ⟨#[]⟩]) 3 32 Tryz.underlying23 hi hz0 hz1 hz2 rfl (by decide) _ _ _ rfl (HU2.out.alloc _) ⟨w3.heap.size, 0, none⟩ 1 1 (partCells ⟨p.keep, 0, []⟩) rfl rfl (cells_new _ _ _) (partCells_one _) (by unfold maxLen; omega) (by omega) (by first | omega | (simp; omega)) ?_) | fail)
  intro v5 w5 hown5 hg5 _ _
  have P5 := gath_push (q := ⟨p.keep, 0, []⟩) HG3.out HU1.out hown5 hg5
  obtain ⟨p5, q5, rfl⟩ := own_slice hown5
  obtain ⟨G5, B5, t1, t2⟩ := P5
  have HG5 : Hid _ := G5
  have HB5 : Hid _ := B5
  clear hown5 hg5 G5 B5 u1' u3 z0
  go_wp2
  go_end0
  exact ⟨⟨_, rfl⟩, HG5.out, HB3.out.trans HB5.out⟩

set_option maxRecDepth 100000 in
set_option maxHeartbeats 2000000 in
theorem add_behind {M : Nat} (a : Nat) (s : NSt) (p : Pt) (w : World) (h : gath M w a s) (hput : s.put.length + p.put.length < 1000000000) (hd : -9223372036854775808 ≤ s.drop + p.drop) (hd' : s.drop + p.drop < 9223372036854775808) (hout : s.out.length < 100000000)
    (hk : p.keep ≠ 0) (L : List Pt) (hL : tellP ⟨s.out, s.put ++ p.put, s.drop + p.drop⟩ = L) (init : List Pt) (q : Pt) (hLq : L = init ++ [q]) (hq : ¬ 0 < q.keep) :
    Calls Tryz.prog 198 #[(partV p), .pointer (some ⟨a + 1, 0, none⟩), .pointer (some ⟨a + 2, 0, none⟩), .pointer (some ⟨a + 3, 0, none⟩), .pointer (some ⟨a, 0, none⟩)] w fun e w' => (∃ v, e = .returned v) ∧ gath M w' a ⟨L ++ [⟨p.keep, 0, []⟩], [], 0⟩ ∧ BelowG M a w w' := by
  have hM := h.le
  have hT := h.top
  obtain ⟨i0, hi, hz0, hz1, hz2⟩ := info_parts info_part
  obtain ⟨i1, hj, hy0, hy1, hy2⟩ := info_parts info_u8
  have hlt := gath_lt h
  have hb0' : Below w.heap.size w (w.alloc (.cells #[.int .i64 p.keep, .int .i64 p.drop, .string ⟨p.put.toArray⟩] 50)) := (Below.refl _ _).alloc (Nat.le_refl _) _
  have HG0 : Hid (gath M (w.alloc (.cells #[.int .i64 p.keep, .int .i64 p.drop, .string ⟨p.put.toArray⟩] 50)) a s) := gath_below h hb0'
  have HB0 : Hid (BelowG M a w (w.alloc (.cells #[.int .i64 p.keep, .int .i64 p.drop, .string ⟨p.put.toArray⟩] 50))) := .of hb0' (by omega)
  have x0 : (w.alloc (.cells #[.int .i64 p.keep, .int .i64 p.drop, .string ⟨p.put.toArray⟩] 50)).cell? ⟨w.heap.size, 0, none⟩ = some (.int .i64 p.keep) := by simp [go_sem]
  have x1 : (w.alloc (.cells #[.int .i64 p.keep, .int .i64 p.drop, .string ⟨p.put.toArray⟩] 50)).cell? ⟨w.heap.size, 1, none⟩ = some (.int .i64 p.drop) := by simp [go_sem]
  obtain ⟨⟨pp, c, h1, h2⟩, h3, ⟨p', c', h4, h5⟩, h6, h7, h8, h9⟩ := h
  have HL1 : Hid (∀ k, (Value.slice pp s.out.length c).ownBlock = some k → k < w.heap.size) := fun k hk' => (h2.lt k hk').2
  have HL2 : Hid (∀ k, (Value.slice p' s.put.length c').ownBlock = some k → k < w.heap.size) := fun k hk' => (h5.lt k hk').2
  have hP : (w.alloc (.cells #[.int .i64 p.keep, .int .i64 p.drop, .string ⟨p.put.toArray⟩] 50)).ownsRow M 5 1 (.slice p' s.put.length c') s.put.length (Lib.byteCells s.put) := h5.alloc _
  have hC : (w.alloc (.cells #[.int .i64 p.keep, .int .i64 p.drop, .string ⟨p.put.toArray⟩] 50)).cell? ⟨a + 1, 0, none⟩ = some (.slice p' s.put.length c') := (hb0'.cell (p := ⟨a + 1, 0, none⟩) (by show a + 1 < _; omega)).trans h4
  have hC0 : (w.alloc (.cells #[.int .i64 p.keep, .int .i64 p.drop, .string ⟨p.put.toArray⟩] 50)).cell? ⟨a, 0, none⟩ = some (.slice pp s.out.length c) := (hb0'.cell (p := ⟨a, 0, none⟩) (by show a < _; omega)).trans h1
  have hD2 : (w.alloc (.cells #[.int .i64 p.keep, .int .i64 p.drop, .string ⟨p.put.toArray⟩] 50)).cell? ⟨a + 2, 0, none⟩ = some (.int .i64 s.drop) := (hb0'.cell (p := ⟨a + 2, 0, none⟩) (by show a + 2 < _; omega)).trans h7
  have hF2 : (w.alloc (.cells #[.int .i64 p.keep, .int .i64 p.drop, .string ⟨p.put.toArray⟩] 50)).frozen? ⟨a + 2, 0, none⟩ = false := (hb0'.frozen (p := ⟨a + 2, 0, none⟩) (by show a + 2 < _; omega)).trans h8
  have hD3 : (w.alloc (.cells #[.int .i64 p.keep, .int .i64 p.drop, .string ⟨p.put.toArray⟩] 50)).cell? ⟨a + 3, 0, none⟩ = some (.func (.func 197) #[] #[.pointer (some ⟨a + 1, 0, none⟩), .pointer (some ⟨a, 0, none⟩), .pointer (some ⟨a + 2, 0, none⟩)]) := (hb0'.cell (p := ⟨a + 3, 0, none⟩) (by show a + 3 < _; omega)).trans h9
  have HP : Hid ((w.alloc (.cells #[.int .i64 p.keep, .int .i64 p.drop, .string ⟨p.put.toArray⟩] 50)).ownsRow M 5 1 (.slice p' s.put.length c') s.put.length (Lib.byteCells s.put)) := hP
  have HX : Hid (∀ w1 v1, w1.ownsRow M 5 1 v1 (s.put.length + (ByteArray.mk p.put.toArray).size) (Lib.byteCells s.put ++ Lib.strCells ⟨p.put.toArray⟩) → (w.alloc (.cells #[.int .i64 p.keep, .int .i64 p.drop, .string ⟨p.put.toArray⟩] 50)).grownBy w1 (Value.slice p' s.put.length c').ownBlock →
      gath M ((w1.setCell ⟨a + 1, 0, none⟩ v1).setCell ⟨a + 2, 0, none⟩ (.int .i64 (s.drop + p.drop))) a ⟨s.out, s.put ++ p.put, s.drop + p.drop⟩ ∧ BelowG M a w ((w1.setCell ⟨a + 1, 0, none⟩ v1).setCell ⟨a + 2, 0, none⟩ (.int .i64 (s.drop + p.drop))) ∧
      spare ((w1.setCell ⟨a + 1, 0, none⟩ v1).setCell ⟨a + 2, 0, none⟩ (.int .i64 (s.drop + p.drop))) a w.heap.size ∧
      w1.cell? ⟨a + 1, 0, none⟩ = some (.slice p' s.put.length c') ∧ w1.frozen? ⟨a + 1, 0, none⟩ = false ∧ w1.cell? ⟨a + 2, 0, none⟩ = some (.int .i64 s.drop) ∧ w1.frozen? ⟨a + 2, 0, none⟩ = false ∧
      w1.cell? ⟨a + 3, 0, none⟩ = some (.func (.func 197) #[] #[.pointer (some ⟨a + 1, 0, none⟩), .pointer (some ⟨a, 0, none⟩), .pointer (some ⟨a + 2, 0, none⟩)]) ∧
      (∀ o, w1.cell? ⟨w.heap.size, o, none⟩ = (w.alloc (.cells #[.int .i64 p.keep, .int .i64 p.drop, .string ⟨p.put.toArray⟩] 50)).cell? ⟨w.heap.size, o, none⟩) ∧ w.heap.size < w1.heap.size) := by
    intro w1 v1 q1 q2
    have hz : (ByteArray.mk p.put.toArray).size = p.put.length := by simp [ByteArray.size]
    rw [hz] at q1
    obtain ⟨g1, g2, g3, g4⟩ := gath_puts (q := p.put) HG0.out hC q1 q2
    obtain ⟨g5, g6⟩ := gath_drop g1 (s.drop + p.drop)
    have hlow : ∀ k, (Value.slice p' s.put.length c').ownBlock = some k → a + 4 ≤ k := fun k hk => Nat.le_trans hM (hP.lt k hk).1
    have hbb : Below (a + 4) (w.alloc (.cells #[.int .i64 p.keep, .int .i64 p.drop, .string ⟨p.put.toArray⟩] 50)) w1 := (Below.refl _ _).grown q2 (by rw [World.size_alloc]; omega) hlow
    have hsz := q2.size
    rw [World.size_alloc] at hsz
    refine ⟨g5, HB0.out.trans (g2.trans g6), ⟨by simp; omega, hlt, ?_⟩, g3, g4, (hbb.cell (p := ⟨a + 2, 0, none⟩) (by show a + 2 < _; omega)).trans hD2, (hbb.frozen (p := ⟨a + 2, 0, none⟩) (by show a + 2 < _; omega)).trans hF2, (hbb.cell (p := ⟨a + 3, 0, none⟩) (by show a + 3 < _; omega)).trans hD3, ?_, by omega⟩
    · intro v hv
      rw [cell_set_ne (by omega), cell_set_ne (by omega), (hbb.cell (p := ⟨a, 0, none⟩) (by show a < _; omega)), hC0] at hv
      obtain rfl := Option.some.inj hv
      intro e
      have := HL1.out _ e
      omega
    · intro o
      exact World.cell?_of_block (a := ⟨w.heap.size, o, none⟩) (q2.block w.heap.size (by rw [World.size_alloc]; omega) (by intro e; have := HL2.out _ e.symm; omega))
  clear h2 h5 hP hC hC0 hD2 hF2 hD3 hb0' h1 h3 h6 h7 h8 h9
  have n0 : a + 1 < w.heap.size := by omega
  have HZ : Hid ((ByteArray.mk p.put.toArray).size = p.put.length) := by show _ = _; simp [ByteArray.size]
  have n1 : ¬ (a + 1 = w.heap.size) := by omega
  have n2 : ¬ (w.heap.size = a + 1) := by omega
  have n3 : ¬ (a + 2 = w.heap.size) := by omega
  have n4 : ¬ (w.heap.size = a + 2) := by omega
  have hwrap : IntKind.i64.wrap (s.drop + p.drop) = s.drop + p.drop := by rw [IntKind.wrap_i64]; omega
  unfold partV
  go_enter Tryz.func198, Tryz.ntmps198
  go_wp2_with (first | (at_builtin; refine Lib.wpList_append_own_string _ rfl _ _ 130 9 rfl M 5 i1 Tryz.underlying130 Tryz.underlying9 hj hy0 hy1 hy2 _ _ _ rfl HP.out _ rfl (by rw [HZ.out]; unfold maxLen; omega) (by rw [HZ.out]; omega) (by simp; omega) ?_) | fail)
  intro v1 w1 hown1 hg1 _
  have R := HX.out w1 v1 hown1 hg1
  obtain ⟨pv, cv, rfl⟩ := own_slice hown1
  obtain ⟨G2, B2, S2, r1, r2, r3, r4, r5, r6, r7⟩ := R
  have y0 := (r6 0).trans x0
  have y1 := (r6 1).trans x1
  have HG2 : Hid _ := G2
  have HB2 : Hid _ := B2
  have HS2 : Hid _ := S2
  clear hown1 hg1 x0 x1 r6 G2 B2 S2 HX HL1 HL2 HP HG0 HB0 h4
  have hkb : (p.keep == 0) = false := beq_eq_false_iff_ne.2 hk
  go_wp2_with (first | (go_at_call 9999) | fail)
  refine (tell_any a _ _ HG2.out (by show s.out.length < _; omega) (by show (s.put ++ p.put).length < _; rw [List.length_append]; exact hput)).mono ?_
  rintro e w3 ⟨⟨v3, rfl⟩, G3, B3, S3⟩
  have hS3 := S3 _ HS2.out
  have z0 : w3.cell? ⟨w.heap.size, 0, none⟩ = some (.int .i64 p.keep) := (World.cell?_of_block (a := ⟨w.heap.size, 0, none⟩) hS3).trans (by rw [cell_set_ne (by omega), cell_set_ne (by omega)]; exact y0)
  rw [hL] at G3
  have HB3 : Hid (BelowG M a w w3) := HB2.out.trans B3
  have hs3 : w.heap.size ≤ w3.heap.size := HB3.out.size
  clear S3 hS3 B3 HB2 HS2 HG2 y0 y1 r1 r2 r3 r4 r5 r7
  obtain ⟨m, hm⟩ : ∃ m, m = init.length := ⟨_, rfl⟩
  have hLn : L.length = m + 1 := by rw [hLq, hm]; simp
  have HLN : Hid (L.length = m + 1) := hLn
  have hbig : m + 1 < 1000000000 := by
    have h1 : L.length ≤ s.out.length + 2 := by
      rw [← hL, tellP]
      simp only [List.length_append]
      split <;> split <;> simp
    omega
  have HG3 : Hid (gath M w3 a ⟨L, [], 0⟩) := G3
  have hlt3 := gath_lt G3
  obtain ⟨⟨p3, c3, u1, u2⟩, u3, _, _, _, _, _⟩ := G3
  have u1' : w3.cell? ⟨a, 0, none⟩ = some (.slice p3 (m + 1) c3) := by rw [← hLn]; exact u1
  have u2' : w3.ownsRow M 50 3 (.slice p3 (m + 1) c3) (m + 1) (cellsP L) := by rw [← hLn]; exact u2
  obtain ⟨g, rfl⟩ : ∃ g, p3 = some ⟨g, 0, none⟩ := by
    rcases u2'.2 with ⟨_, h0⟩ | ⟨g, cap, cur, hv, _⟩
    · exact absurd h0 (by omega)
    · simp only [Value.slice.injEq] at hv
      exact ⟨g, hv.1⟩
  have hgl := (u2'.lt g rfl)
  have hlc := last_cells (by rw [hLq] at u2'; exact u2') (show m + 1 = _ by rw [← hLq]; exact hLn.symm)
  rw [← hm] at hlc
  obtain ⟨l0, l1, l2, l3⟩ := hlc
  have HU2 : Hid (w3.ownsRow M 50 3 (.slice (some ⟨g, 0, none⟩) (m + 1) c3) (m + 1) (cellsP L)) := u2'
  have HL0 : Hid (w3.cell? ⟨g, m * 3, none⟩ = some (.int .i64 q.keep)) := l0
  have hwm : IntKind.i64.wrap (((m + 1 : Nat) : Int) - 1) = (m : Int) := by rw [IntKind.wrap_i64]; omega
  have hge : (0 : Int) ≤ (m : Int) := by omega
  have hlm : (m : Int) < ((m + 1 : Nat) : Int) := by omega
  have HM : Hid (m = init.length) := hm
  have HLQ : Hid (L = init ++ [q]) := hLq
  clear u1 u2 u2' hLn hm hLq
  go_wp2_with (first | (go_at_call 9999) | fail)
  refine (isKeep_any q _).mono ?_
  rintro e w4 ⟨rfl, hb4⟩
  have G4 := gath_below HG3.out hb4
  have HG4 : Hid (gath M w4 a ⟨L, [], 0⟩) := G4
  have HB4 : Hid (BelowG M a w w4) := HB3.out.trans (.of hb4 (by omega))
  have s0 := (hb4.cell (p := ⟨w.heap.size, 0, none⟩) (World.block_lt_of_cell? w3 _ z0)).trans z0
  have s1 := (hb4.cell (p := ⟨a, 0, none⟩) (World.block_lt_of_cell? w3 _ u1')).trans u1'
  have sF := (hb4.frozen (p := ⟨a, 0, none⟩) (World.block_lt_of_cell? w3 _ u1')).trans u3
  have s2 := (hb4.cell (p := ⟨g, m * 3, none⟩) (World.block_lt_of_cell? w3 _ l0)).trans l0
  have s3 := (hb4.frozen (p := ⟨g, m * 3, none⟩) (World.block_lt_of_cell? w3 _ l0)).trans l3
  have s4 := own_below HU2.out hb4
  have HS4 : Hid (w4.ownsRow M 50 3 (.slice (some ⟨g, 0, none⟩) (m + 1) c3) (m + 1) (cellsP L)) := s4
  have HS1 : Hid (w4.cell? ⟨a, 0, none⟩ = some (.slice (some ⟨g, 0, none⟩) (m + 1) c3)) := s1
  have hs4 := hb4.size
  clear hb4 s4 G4 u1' u3 l0 l1 l2 l3 z0
  have hqd : decide (0 < q.keep) = false := decide_eq_false (by omega)
  rw [hqd]
  go_wp2_with (first | (at_builtin; refine wpList_append_own_at _ rfl _ _ 23 rfl M 50 i0 (.agg #[.int .i64 0, .int .i64 0, .string ⟨#[]⟩]) 3 32 Tryz.underlying23 hi hz0 hz1 hz2 rfl (by decide) _ _ _ rfl (HS4.out.alloc _) ⟨w4.heap.size, 0, none⟩ 1 1 (partCells ⟨p.keep, 0, []⟩) rfl rfl (cells_new _ _ _) (partCells_one _) (by unfold maxLen; omega) (by omega) (by first | omega | (simp; omega)) ?_) | fail)
  intro v5 w5 hown5 hg5 _ _
  have P5 := gath_push (q := ⟨p.keep, 0, []⟩) HG4.out (show w4.cell? ⟨a, 0, none⟩ = some (.slice (some ⟨g, 0, none⟩) L.length c3) by rw [HLN.out]; exact HS1.out) (by show World.ownsRow _ _ _ _ _ (L.length + 1) _; rw [HLN.out]; exact hown5) (by show World.grownBy _ _ (Value.slice _ L.length _).ownBlock; rw [HLN.out]; exact hg5)
  obtain ⟨p5, q5, rfl⟩ := own_slice hown5
  obtain ⟨G5, B5, t1, t2⟩ := P5
  have HG5 : Hid _ := G5
  have HB5 : Hid _ := B5
  have t1' : w5.cell? ⟨a, 0, none⟩ = some (.slice (some ⟨g, 0, none⟩) (m + 1) c3) := by rw [t1]; show some (Value.slice _ L.length _) = _; rw [HLN.out]
  clear hown5 hg5 G5 B5 s0 s1 s2 s3 sF t1
  go_wp2
  go_end0
  exact ⟨⟨_, rfl⟩, HG5.out, HB4.out.trans HB5.out⟩

set_option maxRecDepth 100000 in
set_option maxHeartbeats 2000000 in
theorem addO_more {M : Nat} (a : Nat) (s : NSt) (p : Pt) (w : World) (h : gath M w a s) (hput : s.put.length + p.put.length < 1000000000) (hd : -9223372036854775808 ≤ s.drop + p.drop) (hd' : s.drop + p.drop < 9223372036854775808) (hout : s.out.length < 100000000)
    (hk : p.keep ≠ 0) (L : List Pt) (hL : tellP ⟨s.out, s.put ++ p.put, s.drop + p.drop⟩ = L) (init : List Pt) (q : Pt) (hLq : L = init ++ [q]) (hq : 0 < q.keep) (hb0 : -9223372036854775808 ≤ q.keep + p.keep) (hb1 : q.keep + p.keep < 9223372036854775808) :
    Calls Tryz.prog 198 #[(partV p), .pointer (some ⟨a + 1, 0, none⟩), .pointer (some ⟨a + 2, 0, none⟩), .pointer (some ⟨a + 3, 0, none⟩), .pointer (some ⟨a, 0, none⟩)] w fun e w' => (∃ v, e = .returned v) ∧ gath M w' a ⟨init ++ [⟨q.keep + p.keep, q.drop, q.put⟩], [], 0⟩ ∧ BelowG M a w w' := by
  have hM := h.le
  have hT := h.top
  obtain ⟨i0, hi, hz0, hz1, hz2⟩ := info_parts info_part
  obtain ⟨i1, hj, hy0, hy1, hy2⟩ := info_parts info_u8
  have hlt := gath_lt h
  have hb0' : Below w.heap.size w (w.alloc (.cells #[.int .i64 p.keep, .int .i64 p.drop, .string ⟨p.put.toArray⟩] 50)) := (Below.refl _ _).alloc (Nat.le_refl _) _
  have HG0 : Hid (gath M (w.alloc (.cells #[.int .i64 p.keep, .int .i64 p.drop, .string ⟨p.put.toArray⟩] 50)) a s) := gath_below h hb0'
  have HB0 : Hid (BelowG M a w (w.alloc (.cells #[.int .i64 p.keep, .int .i64 p.drop, .string ⟨p.put.toArray⟩] 50))) := .of hb0' (by omega)
  have x0 : (w.alloc (.cells #[.int .i64 p.keep, .int .i64 p.drop, .string ⟨p.put.toArray⟩] 50)).cell? ⟨w.heap.size, 0, none⟩ = some (.int .i64 p.keep) := by simp [go_sem]
  have x1 : (w.alloc (.cells #[.int .i64 p.keep, .int .i64 p.drop, .string ⟨p.put.toArray⟩] 50)).cell? ⟨w.heap.size, 1, none⟩ = some (.int .i64 p.drop) := by simp [go_sem]
  obtain ⟨⟨pp, c, h1, h2⟩, h3, ⟨p', c', h4, h5⟩, h6, h7, h8, h9⟩ := h
  have HL1 : Hid (∀ k, (Value.slice pp s.out.length c).ownBlock = some k → k < w.heap.size) := fun k hk' => (h2.lt k hk').2
  have HL2 : Hid (∀ k, (Value.slice p' s.put.length c').ownBlock = some k → k < w.heap.size) := fun k hk' => (h5.lt k hk').2
  have hP : (w.alloc (.cells #[.int .i64 p.keep, .int .i64 p.drop, .string ⟨p.put.toArray⟩] 50)).ownsRow M 5 1 (.slice p' s.put.length c') s.put.length (Lib.byteCells s.put) := h5.alloc _
  have hC : (w.alloc (.cells #[.int .i64 p.keep, .int .i64 p.drop, .string ⟨p.put.toArray⟩] 50)).cell? ⟨a + 1, 0, none⟩ = some (.slice p' s.put.length c') := (hb0'.cell (p := ⟨a + 1, 0, none⟩) (by show a + 1 < _; omega)).trans h4
  have hC0 : (w.alloc (.cells #[.int .i64 p.keep, .int .i64 p.drop, .string ⟨p.put.toArray⟩] 50)).cell? ⟨a, 0, none⟩ = some (.slice pp s.out.length c) := (hb0'.cell (p := ⟨a, 0, none⟩) (by show a < _; omega)).trans h1
  have hD2 : (w.alloc (.cells #[.int .i64 p.keep, .int .i64 p.drop, .string ⟨p.put.toArray⟩] 50)).cell? ⟨a + 2, 0, none⟩ = some (.int .i64 s.drop) := (hb0'.cell (p := ⟨a + 2, 0, none⟩) (by show a + 2 < _; omega)).trans h7
  have hF2 : (w.alloc (.cells #[.int .i64 p.keep, .int .i64 p.drop, .string ⟨p.put.toArray⟩] 50)).frozen? ⟨a + 2, 0, none⟩ = false := (hb0'.frozen (p := ⟨a + 2, 0, none⟩) (by show a + 2 < _; omega)).trans h8
  have hD3 : (w.alloc (.cells #[.int .i64 p.keep, .int .i64 p.drop, .string ⟨p.put.toArray⟩] 50)).cell? ⟨a + 3, 0, none⟩ = some (.func (.func 197) #[] #[.pointer (some ⟨a + 1, 0, none⟩), .pointer (some ⟨a, 0, none⟩), .pointer (some ⟨a + 2, 0, none⟩)]) := (hb0'.cell (p := ⟨a + 3, 0, none⟩) (by show a + 3 < _; omega)).trans h9
  have HP : Hid ((w.alloc (.cells #[.int .i64 p.keep, .int .i64 p.drop, .string ⟨p.put.toArray⟩] 50)).ownsRow M 5 1 (.slice p' s.put.length c') s.put.length (Lib.byteCells s.put)) := hP
  have HX : Hid (∀ w1 v1, w1.ownsRow M 5 1 v1 (s.put.length + (ByteArray.mk p.put.toArray).size) (Lib.byteCells s.put ++ Lib.strCells ⟨p.put.toArray⟩) → (w.alloc (.cells #[.int .i64 p.keep, .int .i64 p.drop, .string ⟨p.put.toArray⟩] 50)).grownBy w1 (Value.slice p' s.put.length c').ownBlock →
      gath M ((w1.setCell ⟨a + 1, 0, none⟩ v1).setCell ⟨a + 2, 0, none⟩ (.int .i64 (s.drop + p.drop))) a ⟨s.out, s.put ++ p.put, s.drop + p.drop⟩ ∧ BelowG M a w ((w1.setCell ⟨a + 1, 0, none⟩ v1).setCell ⟨a + 2, 0, none⟩ (.int .i64 (s.drop + p.drop))) ∧
      spare ((w1.setCell ⟨a + 1, 0, none⟩ v1).setCell ⟨a + 2, 0, none⟩ (.int .i64 (s.drop + p.drop))) a w.heap.size ∧
      w1.cell? ⟨a + 1, 0, none⟩ = some (.slice p' s.put.length c') ∧ w1.frozen? ⟨a + 1, 0, none⟩ = false ∧ w1.cell? ⟨a + 2, 0, none⟩ = some (.int .i64 s.drop) ∧ w1.frozen? ⟨a + 2, 0, none⟩ = false ∧
      w1.cell? ⟨a + 3, 0, none⟩ = some (.func (.func 197) #[] #[.pointer (some ⟨a + 1, 0, none⟩), .pointer (some ⟨a, 0, none⟩), .pointer (some ⟨a + 2, 0, none⟩)]) ∧
      (∀ o, w1.cell? ⟨w.heap.size, o, none⟩ = (w.alloc (.cells #[.int .i64 p.keep, .int .i64 p.drop, .string ⟨p.put.toArray⟩] 50)).cell? ⟨w.heap.size, o, none⟩) ∧ w.heap.size < w1.heap.size) := by
    intro w1 v1 q1 q2
    have hz : (ByteArray.mk p.put.toArray).size = p.put.length := by simp [ByteArray.size]
    rw [hz] at q1
    obtain ⟨g1, g2, g3, g4⟩ := gath_puts (q := p.put) HG0.out hC q1 q2
    obtain ⟨g5, g6⟩ := gath_drop g1 (s.drop + p.drop)
    have hlow : ∀ k, (Value.slice p' s.put.length c').ownBlock = some k → a + 4 ≤ k := fun k hk => Nat.le_trans hM (hP.lt k hk).1
    have hbb : Below (a + 4) (w.alloc (.cells #[.int .i64 p.keep, .int .i64 p.drop, .string ⟨p.put.toArray⟩] 50)) w1 := (Below.refl _ _).grown q2 (by rw [World.size_alloc]; omega) hlow
    have hsz := q2.size
    rw [World.size_alloc] at hsz
    refine ⟨g5, HB0.out.trans (g2.trans g6), ⟨by simp; omega, hlt, ?_⟩, g3, g4, (hbb.cell (p := ⟨a + 2, 0, none⟩) (by show a + 2 < _; omega)).trans hD2, (hbb.frozen (p := ⟨a + 2, 0, none⟩) (by show a + 2 < _; omega)).trans hF2, (hbb.cell (p := ⟨a + 3, 0, none⟩) (by show a + 3 < _; omega)).trans hD3, ?_, by omega⟩
    · intro v hv
      rw [cell_set_ne (by omega), cell_set_ne (by omega), (hbb.cell (p := ⟨a, 0, none⟩) (by show a < _; omega)), hC0] at hv
      obtain rfl := Option.some.inj hv
      intro e
      have := HL1.out _ e
      omega
    · intro o
      exact World.cell?_of_block (a := ⟨w.heap.size, o, none⟩) (q2.block w.heap.size (by rw [World.size_alloc]; omega) (by intro e; have := HL2.out _ e.symm; omega))
  clear h2 h5 hP hC hC0 hD2 hF2 hD3 hb0' h1 h3 h6 h7 h8 h9
  have n0 : a + 1 < w.heap.size := by omega
  have HZ : Hid ((ByteArray.mk p.put.toArray).size = p.put.length) := by show _ = _; simp [ByteArray.size]
  have n1 : ¬ (a + 1 = w.heap.size) := by omega
  have n2 : ¬ (w.heap.size = a + 1) := by omega
  have n3 : ¬ (a + 2 = w.heap.size) := by omega
  have n4 : ¬ (w.heap.size = a + 2) := by omega
  have hwrap : IntKind.i64.wrap (s.drop + p.drop) = s.drop + p.drop := by rw [IntKind.wrap_i64]; omega
  unfold partV
  go_enter Tryz.func198, Tryz.ntmps198
  go_wp2_with (first | (at_builtin; refine Lib.wpList_append_own_string _ rfl _ _ 130 9 rfl M 5 i1 Tryz.underlying130 Tryz.underlying9 hj hy0 hy1 hy2 _ _ _ rfl HP.out _ rfl (by rw [HZ.out]; unfold maxLen; omega) (by rw [HZ.out]; omega) (by simp; omega) ?_) | fail)
  intro v1 w1 hown1 hg1 _
  have R := HX.out w1 v1 hown1 hg1
  obtain ⟨pv, cv, rfl⟩ := own_slice hown1
  obtain ⟨G2, B2, S2, r1, r2, r3, r4, r5, r6, r7⟩ := R
  have y0 := (r6 0).trans x0
  have y1 := (r6 1).trans x1
  have HG2 : Hid _ := G2
  have HB2 : Hid _ := B2
  have HS2 : Hid _ := S2
  clear hown1 hg1 x0 x1 r6 G2 B2 S2 HX HL1 HL2 HP HG0 HB0 h4
  have hkb : (p.keep == 0) = false := beq_eq_false_iff_ne.2 hk
  go_wp2_with (first | (go_at_call 9999) | fail)
  refine (tell_any a _ _ HG2.out (by show s.out.length < _; omega) (by show (s.put ++ p.put).length < _; rw [List.length_append]; exact hput)).mono ?_
  rintro e w3 ⟨⟨v3, rfl⟩, G3, B3, S3⟩
  have hS3 := S3 _ HS2.out
  have z0 : w3.cell? ⟨w.heap.size, 0, none⟩ = some (.int .i64 p.keep) := (World.cell?_of_block (a := ⟨w.heap.size, 0, none⟩) hS3).trans (by rw [cell_set_ne (by omega), cell_set_ne (by omega)]; exact y0)
  rw [hL] at G3
  have HB3 : Hid (BelowG M a w w3) := HB2.out.trans B3
  have hs3 : w.heap.size ≤ w3.heap.size := HB3.out.size
  clear S3 hS3 B3 HB2 HS2 HG2 y0 y1 r1 r2 r3 r4 r5 r7
  obtain ⟨m, hm⟩ : ∃ m, m = init.length := ⟨_, rfl⟩
  have hLn : L.length = m + 1 := by rw [hLq, hm]; simp
  have HLN : Hid (L.length = m + 1) := hLn
  have hbig : m + 1 < 1000000000 := by
    have h1 : L.length ≤ s.out.length + 2 := by
      rw [← hL, tellP]
      simp only [List.length_append]
      split <;> split <;> simp
    omega
  have HG3 : Hid (gath M w3 a ⟨L, [], 0⟩) := G3
  have hlt3 := gath_lt G3
  obtain ⟨⟨p3, c3, u1, u2⟩, u3, _, _, _, _, _⟩ := G3
  have u1' : w3.cell? ⟨a, 0, none⟩ = some (.slice p3 (m + 1) c3) := by rw [← hLn]; exact u1
  have u2' : w3.ownsRow M 50 3 (.slice p3 (m + 1) c3) (m + 1) (cellsP L) := by rw [← hLn]; exact u2
  obtain ⟨g, rfl⟩ : ∃ g, p3 = some ⟨g, 0, none⟩ := by
    rcases u2'.2 with ⟨_, h0⟩ | ⟨g, cap, cur, hv, _⟩
    · exact absurd h0 (by omega)
    · simp only [Value.slice.injEq] at hv
      exact ⟨g, hv.1⟩
  have hgl := (u2'.lt g rfl)
  have hlc := last_cells (by rw [hLq] at u2'; exact u2') (show m + 1 = _ by rw [← hLq]; exact hLn.symm)
  rw [← hm] at hlc
  obtain ⟨l0, l1, l2, l3⟩ := hlc
  have HU2 : Hid (w3.ownsRow M 50 3 (.slice (some ⟨g, 0, none⟩) (m + 1) c3) (m + 1) (cellsP L)) := u2'
  have HL0 : Hid (w3.cell? ⟨g, m * 3, none⟩ = some (.int .i64 q.keep)) := l0
  have hwm : IntKind.i64.wrap (((m + 1 : Nat) : Int) - 1) = (m : Int) := by rw [IntKind.wrap_i64]; omega
  have hge : (0 : Int) ≤ (m : Int) := by omega
  have hlm : (m : Int) < ((m + 1 : Nat) : Int) := by omega
  have HM : Hid (m = init.length) := hm
  have HLQ : Hid (L = init ++ [q]) := hLq
  clear u1 u2 u2' hLn hm hLq
  go_wp2_with (first | (go_at_call 9999) | fail)
  refine (isKeep_any q _).mono ?_
  rintro e w4 ⟨rfl, hb4⟩
  have G4 := gath_below HG3.out hb4
  have HG4 : Hid (gath M w4 a ⟨L, [], 0⟩) := G4
  have HB4 : Hid (BelowG M a w w4) := HB3.out.trans (.of hb4 (by omega))
  have s0 := (hb4.cell (p := ⟨w.heap.size, 0, none⟩) (World.block_lt_of_cell? w3 _ z0)).trans z0
  have s1 := (hb4.cell (p := ⟨a, 0, none⟩) (World.block_lt_of_cell? w3 _ u1')).trans u1'
  have sF := (hb4.frozen (p := ⟨a, 0, none⟩) (World.block_lt_of_cell? w3 _ u1')).trans u3
  have s2 := (hb4.cell (p := ⟨g, m * 3, none⟩) (World.block_lt_of_cell? w3 _ l0)).trans l0
  have s3 := (hb4.frozen (p := ⟨g, m * 3, none⟩) (World.block_lt_of_cell? w3 _ l0)).trans l3
  have s4 := own_below HU2.out hb4
  have HS4 : Hid (w4.ownsRow M 50 3 (.slice (some ⟨g, 0, none⟩) (m + 1) c3) (m + 1) (cellsP L)) := s4
  have HS1 : Hid (w4.cell? ⟨a, 0, none⟩ = some (.slice (some ⟨g, 0, none⟩) (m + 1) c3)) := s1
  have hs4 := hb4.size
  clear hb4 s4 G4 u1' u3 l0 l1 l2 l3 z0
  have hqd : decide (0 < q.keep) = true := decide_eq_true (by omega)
  rw [hqd]
  have hwk : IntKind.i64.wrap (q.keep + p.keep) = q.keep + p.keep := by rw [IntKind.wrap_i64]; omega
  have HG5 : Hid (gath M w4.drew a ⟨init ++ [q], [], 0⟩) := by
    have := gath_below HG4.out (Below.refl _ w4).drew
    rw [HLQ.out] at this
    exact this
  have P5 := gath_more (k := q.keep + p.keep) HG5.out (show w4.drew.cell? ⟨a, 0, none⟩ = some (.slice (some ⟨g, 0, none⟩) (m + 1) c3) from HS1.out) (by rw [← HLQ.out]; exact HLN.out.symm)
  rw [← HM.out] at P5
  have HP5 : Hid _ := P5
  have HBD : Hid (BelowG M a w w4.drew) := HB4.out.drew
  clear P5
  go_wp2
  go_region
  all_goals
    go_wp2
    refine bodyPost_ret (results_none rfl _ _ _) rfl ?_
    exact ⟨⟨_, rfl⟩, HP5.out.1, HBD.out.trans HP5.out.2⟩

theorem add_anyG {M : Nat} (a : Nat) (s : NSt) (p : Pt) (w : World) (h : gath M w a s) (hput : s.put.length + p.put.length < 1000000000) (hd : 0 ≤ s.drop) (hd' : s.drop + p.drop < 4611686018427387904) (hp : 0 ≤ p.drop) (hk : 0 ≤ p.keep) (hout : s.out.length < 100000000)
    (hkb : ∀ q ∈ s.out, 0 ≤ q.keep ∧ q.keep + p.keep < 4611686018427387904) (hkk : p.keep < 4611686018427387904) :
    Calls Tryz.prog 198 #[partV p, .pointer (some ⟨a + 1, 0, none⟩), .pointer (some ⟨a + 2, 0, none⟩), .pointer (some ⟨a + 3, 0, none⟩), .pointer (some ⟨a, 0, none⟩)] w fun e w' => (∃ v, e = .returned v) ∧ gath M w' a (addP s p) ∧ BelowG M a w w' := by
  have hM := h.le
  have hT := h.top
  by_cases hk0 : p.keep = 0
  · have := add_zero a s p w h hput (by omega) (by omega) hout
    unfold addP partV
    rw [if_pos hk0, hk0]
    exact this
  · obtain ⟨L, hL⟩ : ∃ L, tellP ⟨s.out, s.put ++ p.put, s.drop + p.drop⟩ = L := ⟨_, rfl⟩
    unfold addP
    rw [if_neg hk0, hL]
    have hmem : ∀ q ∈ L, 0 ≤ q.keep ∧ q.keep + p.keep < 4611686018427387904 := by
      intro q hq
      rw [← hL, tellP] at hq
      simp only [List.mem_append] at hq
      rcases hq with hq | hq | hq
      · exact hkb q hq
      · split at hq
        · simp at hq
        · rw [List.mem_singleton.1 hq]; exact ⟨by simp, by simpa using hkk⟩
      · split at hq
        · simp at hq
        · rw [List.mem_singleton.1 hq]; exact ⟨by simp, by simpa using hkk⟩
    rcases List.eq_nil_or_concat L with hn | ⟨init, q, hLq⟩
    · have := add_only a s p w h hput (by omega) (by omega) hout hk0 L hL hn
      subst hn
      exact this
    · have hq := hmem q (by rw [hLq]; simp)
      have hgl : L.getLast? = some q := by rw [hLq]; simp
      by_cases hqk : 0 < q.keep
      · have := addO_more a s p w h hput (by omega) (by omega) hout hk0 L hL init q (by simpa using hLq) hqk (by omega) (by omega)
        have e : pushKeep L p.keep = init ++ [⟨q.keep + p.keep, q.drop, q.put⟩] := by simp [pushKeep, hqk, hLq]
        rw [e]
        exact this
      · have := add_behind a s p w h hput (by omega) (by omega) hout hk0 L hL init q (by simpa using hLq) hqk
        have e : pushKeep L p.keep = L ++ [⟨p.keep, 0, []⟩] := by simp [pushKeep, hgl, hqk]
        rw [e]
        exact this
theorem addO_any {M : Nat} (a : Nat) (s : NSt) (p : Pt) (w : World) (h : gath M w a s) (hput : s.put.length + p.put.length < 1000000000) (hd : 0 ≤ s.drop) (hd' : s.drop + p.drop < 4611686018427387904) (hp : 0 ≤ p.drop) (hk : 0 ≤ p.keep) (hout : s.out.length < 100000000)
    (hkb : ∀ q ∈ s.out, 0 ≤ q.keep ∧ q.keep + p.keep < 4611686018427387904) (hkk : p.keep < 4611686018427387904) :
    Calls Tryz.prog 198 #[partV p, .pointer (some ⟨a + 1, 0, none⟩), .pointer (some ⟨a + 2, 0, none⟩), .pointer (some ⟨a + 3, 0, none⟩), .pointer (some ⟨a, 0, none⟩)] w fun e w' => (∃ v, e = .returned v) ∧ gath M w' a (addP s p) ∧ Below a w w' :=
  (add_anyG a s p w h hput hd hd' hp hk hout hkb hkk).mono fun e w' h => ⟨h.1, h.2.1, h.2.2.below⟩
theorem done_any {M : Nat} (a : Nat) (s : NSt) (w : World) (h : gath M w a s) (hlen : s.out.length < 1000000000) (hput : s.put.length < 1000000000) :
    Calls Tryz.prog 199 #[.pointer (some ⟨a + 3, 0, none⟩), .pointer (some ⟨a, 0, none⟩)] w fun e w' => ∃ v, e = .returned v ∧ w'.ownsRow M 50 3 v (tellP s).length (cellsP (tellP s)) ∧ Below a w w' :=
  (done_anyG a s w h hlen hput).mono fun e w' h => (by obtain ⟨v, h1, h2, h3⟩ := h; exact ⟨v, h1, h2, h3.below⟩)
end Go.Proofs.YtldhbjmillfjgabGreatDoor

namespace Go.Proofs.YtldhbjmillfjgabGreatDoor
open Go.RowKit
set_option linter.unusedVariables false

/-- The slice v reads as the parts ps. -/
def opAt (w : World) (v : Value) (ps : List Pt) : Prop :=
  ∃ p c, v = .slice p ps.length c ∧ ps.length ≤ c ∧ c ≤ maxLen ∧ (ps ≠ [] → ∃ b o, p = some ⟨b, o, none⟩ ∧ b < w.heap.size ∧ ∀ i q, ps[i]? = some q →
    w.cell? ⟨b, o + i * 3, none⟩ = some (.int .i64 q.keep) ∧ w.cell? ⟨b, o + i * 3 + 1, none⟩ = some (.int .i64 q.drop) ∧ w.cell? ⟨b, o + i * 3 + 2, none⟩ = some (.string ⟨q.put.toArray⟩))
theorem opAt_below {w w' : World} {v : Value} {ps : List Pt} (h : opAt w v ps) {B : Nat} (hb : Below B w w') (hB : w.heap.size ≤ B) : opAt w' v ps := by
  obtain ⟨p, c, rfl, h1, h2, h3⟩ := h
  refine ⟨p, c, rfl, h1, h2, fun hne => ?_⟩
  obtain ⟨b, o, e1, e2, e3⟩ := h3 hne
  refine ⟨b, o, e1, Nat.lt_of_lt_of_le e2 hb.size, fun i q hi => ?_⟩
  obtain ⟨f1, f2, f3⟩ := e3 i q hi
  exact ⟨(hb.cell (p := ⟨b, o + i * 3, none⟩) (Nat.lt_of_lt_of_le e2 hB)).trans f1, (hb.cell (p := ⟨b, o + i * 3 + 1, none⟩) (Nat.lt_of_lt_of_le e2 hB)).trans f2, (hb.cell (p := ⟨b, o + i * 3 + 2, none⟩) (Nat.lt_of_lt_of_le e2 hB)).trans f3⟩

theorem cellsP_get (ps : List Pt) (i : Nat) (q : Pt) (hi : ps[i]? = some q) : ∀ j, j < 3 → (cellsP ps)[i * 3 + j]? = (partCells q)[j]? := by
  induction ps generalizing i with
  | nil => simp at hi
  | cons p ps ih =>
    intro j hj
    have e : cellsP (p :: ps) = partCells p ++ cellsP ps := rfl
    have hl : (partCells p).length = 3 := rfl
    rw [e]
    cases i with
    | zero =>
      simp only [List.getElem?_cons_zero, Option.some.injEq] at hi
      subst hi
      rw [Nat.zero_mul, Nat.zero_add, List.getElem?_append_left (by rw [hl]; exact hj)]
    | succ i =>
      rw [List.getElem?_append_right (by rw [hl]; omega), hl, ← ih i (by simpa using hi) j hj]
      congr 1
      omega

/-- A row of parts reads as them. -/
theorem opAt_own {w : World} {B : Nat} {v : Value} {ps : List Pt} (h : w.ownsRow B 50 3 v ps.length (cellsP ps)) : opAt w v ps := by
  have h' := h
  rcases h.2 with ⟨rfl, h2⟩ | ⟨g, cap, cur, rfl, h2, h3, h4, h5, h6, h7⟩
  · obtain rfl : ps = [] := List.eq_nil_of_length_eq_zero h2
    exact ⟨none, 0, rfl, Nat.le_refl _, Nat.zero_le _, fun h => absurd rfl h⟩
  · refine ⟨_, cap, rfl, h4, h5, fun _ => ⟨g, 0, rfl, (Array.getElem?_eq_some_iff.1 h3).1, fun i q hi => ?_⟩⟩
    have hlt := (List.getElem?_eq_some_iff.1 hi).1
    have hc := cellsP_get ps i q hi
    refine ⟨?_, ?_, ?_⟩
    · rw [Nat.zero_add, h'.cellAt _ (by omega)]; exact hc 0 (by omega)
    · rw [Nat.zero_add, h'.cellAt _ (by omega)]; exact hc 1 (by omega)
    · rw [Nat.zero_add, h'.cellAt _ (by omega)]; exact hc 2 (by omega)

/-- .. in new memory. -/
def opN (B : Nat) (w : World) (v : Value) (ps : List Pt) : Prop := opAt w v ps ∧ ∀ k, v.ownBlock = some k → B ≤ k
theorem opN_own {w : World} {B C : Nat} {v : Value} {ps : List Pt} (hB : C ≤ B) (h : w.ownsRow B 50 3 v ps.length (cellsP ps)) : opN C w v ps := ⟨opAt_own h, fun k hk => Nat.le_trans hB (h.lt k hk).1⟩
theorem opN_none (B : Nat) (w : World) : opN B w (.slice none 0 0) [] := ⟨⟨none, 0, rfl, Nat.le_refl _, Nat.zero_le _, fun h => absurd rfl h⟩, fun k hk => by cases hk⟩
theorem opN.mono {B C : Nat} {w : World} {v : Value} {ps : List Pt} (h : opN B w v ps) (hB : C ≤ B) : opN C w v ps := ⟨h.1, fun k hk => Nat.le_trans hB (h.2 k hk)⟩
def soundP (p : Pt) : Prop := 0 ≤ p.keep ∧ 0 ≤ p.drop
def wtP (p : Pt) : Int := p.keep + p.drop + p.put.length
def wts (ps : List Pt) : Int := (ps.map wtP).sum
theorem wts_snoc (ps : List Pt) (p : Pt) : wts (ps ++ [p]) = wts ps + wtP p := by simp [wts]
theorem wts_nonneg {ps : List Pt} (h : ∀ p ∈ ps, soundP p) : 0 ≤ wts ps := by
  induction ps with
  | nil => simp [wts]
  | cons p ps ih =>
    have h1 := h p (List.mem_cons_self ..)
    have h2 := ih fun q hq => h q (List.mem_cons_of_mem _ hq)
    unfold wts at h2 ⊢
    rw [List.map_cons, List.sum_cons]
    unfold soundP at h1
    have : 0 ≤ wtP p := by unfold wtP; omega
    omega
theorem wts_take {ps : List Pt} (h : ∀ p ∈ ps, soundP p) (k : Nat) : wts (ps.take k) ≤ wts ps := by
  have h1 : wts ps = wts (ps.take k) + wts (ps.drop k) := by
    unfold wts
    rw [← List.sum_append, ← List.map_append, List.take_append_drop]
  have h2 := wts_nonneg (ps := ps.drop k) fun q hq => h q (List.mem_of_mem_drop hq)
  omega

/-- What a gathering's numbers are at most. -/
structure Bd (s : NSt) (T : Int) (n : Nat) : Prop where
  put : (s.put.length : Int) ≤ T
  d0 : 0 ≤ s.drop
  dT : s.drop ≤ T
  keep : ∀ q ∈ s.out, 0 ≤ q.keep ∧ q.keep ≤ T
  len : s.out.length ≤ 3 * n
theorem bd0 : Bd nst0 0 0 := ⟨by simp [nst0], by simp [nst0], by simp [nst0], by simp [nst0], by simp [nst0]⟩
theorem Bd.add {s : NSt} {T : Int} {n : Nat} (h : Bd s T n) (p : Pt) (hp : soundP p) : Bd (addP s p) (T + wtP p) (n + 1) := by
  obtain ⟨k, d, q⟩ := p
  obtain ⟨p1, p2⟩ := hp
  obtain ⟨h1, h2, h3, h4, h5⟩ := h
  have hw : wtP ⟨k, d, q⟩ = k + d + q.length := rfl
  have e1 : (0 : Int) ≤ k := p1
  have e2 : (0 : Int) ≤ d := p2
  have hT : 0 ≤ T := Int.le_trans h2 h3
  rw [hw]
  unfold addP
  by_cases hk : k = 0
  · rw [if_pos hk]
    refine ⟨?_, ?_, ?_, ?_, ?_⟩
    · show ((s.put ++ q).length : Int) ≤ _
      rw [List.length_append]
      omega
    · show 0 ≤ s.drop + d; omega
    · show s.drop + d ≤ _; omega
    · intro x hx
      have := h4 x hx
      omega
    · show s.out.length ≤ _; omega
  · rw [if_neg hk]
    obtain ⟨L, hL⟩ : ∃ L, tellP ⟨s.out, s.put ++ q, s.drop + d⟩ = L := ⟨_, rfl⟩
    have hm : ∀ x ∈ L, 0 ≤ x.keep ∧ x.keep ≤ T := by
      intro x hx
      rw [← hL, tellP] at hx
      simp only [List.mem_append] at hx
      rcases hx with hx | hx | hx
      · exact h4 x hx
      · split at hx
        · simp at hx
        · rw [List.mem_singleton.1 hx]; exact ⟨by simp, hT⟩
      · split at hx
        · simp at hx
        · rw [List.mem_singleton.1 hx]; exact ⟨by simp, hT⟩
    have hl : L.length ≤ s.out.length + 2 := by
      rw [← hL, tellP]
      simp only [List.length_append]
      split <;> split <;> simp
    have key : (∀ x ∈ pushKeep L k, 0 ≤ x.keep ∧ x.keep ≤ T + k) ∧ (pushKeep L k).length ≤ L.length + 1 := by
      have hsnoc : (∀ x ∈ L ++ [⟨k, 0, []⟩], 0 ≤ x.keep ∧ x.keep ≤ T + k) ∧ (L ++ [(⟨k, 0, []⟩ : Pt)]).length ≤ L.length + 1 := by
        refine ⟨fun x hx => ?_, by simp⟩
        rcases List.mem_append.1 hx with hx | hx
        · have := hm x hx; omega
        · rw [List.mem_singleton.1 hx]; exact ⟨e1, by show k ≤ _; omega⟩
      unfold pushKeep
      split
      · rename_i q0 hq0
        split
        · rename_i hq1
          have hin : q0 ∈ L := List.mem_of_getLast? hq0
          have := hm q0 hin
          refine ⟨fun x hx => ?_, by simp⟩
          rcases List.mem_append.1 hx with hx | hx
          · have := hm x (List.dropLast_subset _ hx); omega
          · rw [List.mem_singleton.1 hx]; exact ⟨by show 0 ≤ q0.keep + k; omega, by show q0.keep + k ≤ _; omega⟩
        · exact hsnoc
      · exact hsnoc
    rw [hL]
    refine ⟨?_, by simp, ?_, ?_, ?_⟩
    · show ((0 : Nat) : Int) ≤ _; omega
    · show (0 : Int) ≤ _; omega
    · intro x hx
      have := key.1 x hx
      show 0 ≤ x.keep ∧ x.keep ≤ T + (k + d + q.length)
      omega
    · have := key.2
      show (pushKeep L k).length ≤ _
      omega
theorem bds (ps : List Pt) (h : ∀ p ∈ ps, soundP p) : Bd (ps.foldl addP nst0) (wts ps) ps.length := by
  have key : ∀ n, n ≤ ps.length → Bd ((ps.take n).foldl addP nst0) (wts (ps.take n)) n := by
    intro n
    induction n with
    | zero => intro _; exact bd0
    | succ n ih =>
      intro hn
      have := ih (by omega)
      rw [List.take_succ_eq_append_getElem (by omega), List.foldl_append, wts_snoc]
      exact this.add _ (h _ (List.getElem_mem _))
  have := key ps.length (Nat.le_refl _)
  rwa [List.take_length] at this

set_option maxRecDepth 100000 in
set_option maxHeartbeats 2000000 in
theorem Norm_any4 (v : Value) (ps : List Pt) (w : World) (hr : opAt w v ps) (hs : ∀ p ∈ ps, soundP p) (hw : wts ps < 1000000000) (hl : ps.length < 10000000) :
    Calls Tryz.prog 178 #[v] w fun e w' => ∃ v', e = .returned v' ∧ w'.ownsRow w.heap.size 50 3 v' (normP ps).length (cellsP (normP ps)) ∧ Below w.heap.size w w' ∧ w.heap.size + 4 ≤ w'.heap.size := by
  obtain ⟨p, c, rfl, r1, r2, r3⟩ := hr
  obtain ⟨n, hn⟩ : ∃ n, n = ps.length := ⟨_, rfl⟩
  rw [← hn] at r1 hl ⊢
  have HN : Hid (n = ps.length) := hn
  clear hn
  have R3 : Hid (ps ≠ [] → ∃ b o, p = some ⟨b, o, none⟩ ∧ b < w.heap.size ∧ ∀ i q, ps[i]? = some q →
    w.cell? ⟨b, o + i * 3, none⟩ = some (.int .i64 q.keep) ∧ w.cell? ⟨b, o + i * 3 + 1, none⟩ = some (.int .i64 q.drop) ∧ w.cell? ⟨b, o + i * 3 + 2, none⟩ = some (.string ⟨q.put.toArray⟩)) := r3
  have HS : Hid (∀ p ∈ ps, soundP p) := hs
  have HW : Hid (wts ps < 1000000000) := hw
  clear r3 hs hw
  go_enter Tryz.func178, Tryz.ntmps178
  go_wp2_with (first | (go_at_call 176; refine (gather_any w).mono ?_; rintro e w1 ⟨rfl, hG1, hz1, hb1⟩; have HG1 : Hid (gath (w.heap.size + 4) w1 w.heap.size nst0) := hG1 _ _ (Below.refl _ _) (Nat.le_refl _) (by omega); clear hz1; have HB1 : Hid (Below w.heap.size w w1) := hb1; clear hG1 hb1) | fail)
  go_loopw [13] (fun i wr => ∃ (k : Nat), k ≤ n ∧ i = .int .i64 k ∧ gath (w.heap.size + 4) wr w.heap.size ((ps.take k).foldl addP nst0) ∧ Below w.heap.size w wr) (fun i _ => n - (intOf i).toNat)
  case atStart => exact ⟨0, Nat.zero_le _, rfl, HG1.out, HB1.out⟩
  case round =>
    obtain ⟨k, hk, rfl, hg, hwr⟩ := hrel
    by_cases hlt : k < n
    · have hkr : k < ps.length := by rw [← HN.out]; exact hlt
      have hne : ps ≠ [] := by intro e; rw [e] at hkr; exact absurd hkr (Nat.not_lt_zero _)
      obtain ⟨b, o, rfl, hbw, hcell⟩ := R3.out hne
      obtain ⟨c0, c1, c2⟩ := hcell k ps[k] (List.getElem?_eq_getElem hkr)
      have g0 := (hwr.cell (p := ⟨b, o + k * 3, none⟩) hbw).trans c0
      have g1 := (hwr.cell (p := ⟨b, o + k * 3 + 1, none⟩) hbw).trans c1
      have g2 := (hwr.cell (p := ⟨b, o + k * 3 + 2, none⟩) hbw).trans c2
      have hB := bds (ps.take k) fun q hq => HS.out q (List.mem_of_mem_take hq)
      have hB1 := bds (ps.take (k + 1)) fun q hq => HS.out q (List.mem_of_mem_take hq)
      have hT1 := wts_take HS.out (k + 1)
      have hT0 := wts_take HS.out k
      have hT2 := HW.out
      have hsp := HS.out ps[k] (List.getElem_mem _)
      have hts : ps.take (k + 1) = ps.take k ++ [ps[k]] := List.take_succ_eq_append_getElem hkr
      have hlk : (ps.take k).length ≤ k := by rw [List.length_take]; omega
      rw [hts, wts_snoc] at hT1
      have hnx : (ps.take (k + 1)).foldl addP nst0 = addP ((ps.take k).foldl addP nst0) ps[k] := by rw [hts, List.foldl_append]; rfl
      have hwp : wtP ps[k] = ps[k].keep + ps[k].drop + ps[k].put.length := rfl
      have HNX : Hid ((ps.take (k + 1)).foldl addP nst0 = addP ((ps.take k).foldl addP nst0) ps[k]) := hnx
      clear hcell c0 c1 c2 hts hnx hB1
      generalize ps[k] = q at *
      obtain ⟨s, hse⟩ : ∃ s, s = (ps.take k).foldl addP nst0 := ⟨_, rfl⟩
      rw [← hse] at hg hB HNX
      obtain ⟨sp1, sp2⟩ := hsp
      have hsize := hwr.size
      have CA : Hid (∀ wx, Below wr.heap.size wr wx → Calls Tryz.prog 198 #[partV q, .pointer (some ⟨w.heap.size + 1, 0, none⟩), .pointer (some ⟨w.heap.size + 2, 0, none⟩), .pointer (some ⟨w.heap.size + 3, 0, none⟩), .pointer (some ⟨w.heap.size, 0, none⟩)] wx fun e w' => (∃ v, e = .returned v) ∧ gath (w.heap.size + 4) w' w.heap.size (addP s q) ∧ Below w.heap.size wx w') := by
        intro wx hbx
        have h1 := hB.put
        have h2 := hB.d0
        have h3 := hB.dT
        have h5 := hB.len
        exact addO_any w.heap.size s q wx (gath_below hg hbx) (by omega) h2 (by omega) sp2 sp1 (by omega) (fun x hx => by have := hB.keep x hx; omega) (by omega)
      have HWR : Hid (Below w.heap.size w wr) := hwr
      unfold partV at CA
      clear hg hB hT1 hT0 hT2 hlk hwp hse sp1 sp2 hwr HG1 HB1
      go_wp2_with (first | (go_at_call 198; refine (CA.out _ ((Below.refl _ wr).alloc (Nat.le_refl _) _)).mono ?_; rintro e w2 ⟨⟨v2, rfl⟩, hg2, hb2⟩; have HG2 : Hid (gath (w.heap.size + 4) w2 w.heap.size (addP s q)) := hg2; have HB2 : Hid (Below w.heap.size w w2) := (HWR.out.alloc hsize _).trans hb2; clear hg2 hb2) | fail)
      go_roundw
      case rel => exact ⟨k + 1, by omega, by go_num, by rw [HNX.out]; exact HG2.out, HB2.out⟩
      case measure => simp [intOf]; omega
    · have e : ps.take k = ps := List.take_of_length_le (by rw [← HN.out]; omega)
      rw [e] at hg
      have hB := bds ps HS.out
      have hT2 := HW.out
      have cD : Hid (Calls Tryz.prog 199 #[.pointer (some ⟨w.heap.size + 3, 0, none⟩), .pointer (some ⟨w.heap.size, 0, none⟩)] wr fun e w' => ∃ v, e = .returned v ∧ w'.ownsRow (w.heap.size + 4) 50 3 v (normP ps).length (cellsP (normP ps)) ∧ Below w.heap.size wr w') :=
        done_any w.heap.size _ wr hg (by have := hB.len; have := HN.out; omega) (by have := hB.put; omega)
      have hlt4 := gath_lt hg
      clear e hg hB hT2 R3 HS HW HG1 HB1
      go_wp2_with (first | (go_at_call 199; refine cD.out.mono ?_; rintro e w2 ⟨v2, rfl, ho2, hb2⟩) | fail)
      obtain ⟨p2, q2, rfl⟩ := own_slice ho2
      go_ret
      exact ⟨_, rfl, own_mono ho2 (by omega), hwr.trans hb2, by have := hb2.size; omega⟩
theorem Norm_any (v : Value) (ps : List Pt) (w : World) (hr : opAt w v ps) (hs : ∀ p ∈ ps, soundP p) (hw : wts ps < 1000000000) (hl : ps.length < 10000000) :
    Calls Tryz.prog 178 #[v] w fun e w' => ∃ v', e = .returned v' ∧ w'.ownsRow w.heap.size 50 3 v' (normP ps).length (cellsP (normP ps)) ∧ Below w.heap.size w w' :=
  (Norm_any4 v ps w hr hs hw hl).mono fun e w' h => by obtain ⟨v', h1, h2, h3, _⟩ := h; exact ⟨v', h1, h2, h3⟩
end Go.Proofs.YtldhbjmillfjgabGreatDoor

namespace Go.Proofs.YtldhbjmillfjgabGreatDoor
open Go.RowKit
set_option linter.unusedVariables false

def lenW (s : Int × Int) (p : Pt) : Int × Int := (IntKind.i64.wrap (s.1 + IntKind.i64.wrap (p.keep + p.drop)), IntKind.i64.wrap (s.2 + IntKind.i64.wrap (p.keep + p.put.length)))
def lensW (ps : List Pt) : Int × Int := ps.foldl lenW (0, 0)

set_option maxRecDepth 100000 in
set_option maxHeartbeats 2000000 in
theorem Lens_any (v : Value) (ps : List Pt) (w : World) (hr : opAt w v ps) (hl : ps.length < 10000000) :
    Calls Tryz.prog 96 #[v] w fun e w' => e = .returned (.tuple #[.int .i64 (lensW ps).1, .int .i64 (lensW ps).2]) ∧ Below w.heap.size w w' := by
  obtain ⟨p, c, rfl, r1, r2, r3⟩ := hr
  obtain ⟨n, hn⟩ : ∃ n, n = ps.length := ⟨_, rfl⟩
  rw [← hn] at r1 hl ⊢
  have HN : Hid (n = ps.length) := hn
  clear hn
  have R3 : Hid (ps ≠ [] → ∃ b o, p = some ⟨b, o, none⟩ ∧ b < w.heap.size ∧ ∀ i q, ps[i]? = some q →
    w.cell? ⟨b, o + i * 3, none⟩ = some (.int .i64 q.keep) ∧ w.cell? ⟨b, o + i * 3 + 1, none⟩ = some (.int .i64 q.drop) ∧ w.cell? ⟨b, o + i * 3 + 2, none⟩ = some (.string ⟨q.put.toArray⟩)) := r3
  clear r3
  go_enter Tryz.func96, Tryz.ntmps96
  go_wp2
  go_loopw [2, 3, 8] (fun x y i wr => ∃ (k : Nat), k ≤ n ∧ i = .int .i64 k ∧ x = .int .i64 (lensW (ps.take k)).1 ∧ y = .int .i64 (lensW (ps.take k)).2 ∧ Below w.heap.size w wr) (fun _ _ i _ => n - (intOf i).toNat)
  case atStart => exact ⟨0, Nat.zero_le _, rfl, rfl, rfl, Below.refl _ _⟩
  case round =>
    obtain ⟨k, hk, rfl, rfl, rfl, hwr⟩ := hrel
    by_cases hlt : k < n
    · have hkr : k < ps.length := by rw [← HN.out]; exact hlt
      have hne : ps ≠ [] := by intro e; rw [e] at hkr; exact absurd hkr (Nat.not_lt_zero _)
      obtain ⟨b, o, rfl, hbw, hcell⟩ := R3.out hne
      obtain ⟨c0, c1, c2⟩ := hcell k ps[k] (List.getElem?_eq_getElem hkr)
      have g0 := (hwr.cell (p := ⟨b, o + k * 3, none⟩) hbw).trans c0
      have g1 := (hwr.cell (p := ⟨b, o + k * 3 + 1, none⟩) hbw).trans c1
      have g2 := (hwr.cell (p := ⟨b, o + k * 3 + 2, none⟩) hbw).trans c2
      have hts : lensW (ps.take (k + 1)) = lenW (lensW (ps.take k)) ps[k] := by
        unfold lensW
        rw [List.take_succ_eq_append_getElem hkr, List.foldl_append]; rfl
      generalize ps[k] = q at *
      generalize lensW (ps.take k) = AB at *
      obtain ⟨A, B⟩ := AB
      obtain ⟨K, D, U⟩ := q
      unfold lenW at hts
      simp only at hts g0 g1 g2 ⊢
      obtain ⟨x1, h1⟩ : ∃ x, IntKind.i64.wrap (K + D) = x := ⟨_, rfl⟩
      obtain ⟨x2, h2⟩ : ∃ x, IntKind.i64.wrap (K + (U.length : Int)) = x := ⟨_, rfl⟩
      obtain ⟨y1, h3⟩ : ∃ x, IntKind.i64.wrap (A + x1) = x := ⟨_, rfl⟩
      obtain ⟨y2, h4⟩ : ∃ x, IntKind.i64.wrap (B + x2) = x := ⟨_, rfl⟩
      rw [h1, h2, h3, h4] at hts
      have HTS : Hid (lensW (ps.take (k + 1)) = (y1, y2)) := hts
      have HWR : Hid (Below w.heap.size w wr) := hwr
      clear hcell c0 c1 c2 hts hwr
      go_wp2
      go_roundw
      case rel => exact ⟨k + 1, by omega, by go_num, by rw [HTS.out], by rw [HTS.out], HWR.out.alloc HWR.out.size _⟩
      case measure => simp [intOf]; omega
    · have e : ps.take k = ps := List.take_of_length_le (by rw [← HN.out]; omega)
      rw [e]
      obtain ⟨A, hA⟩ : ∃ A, (lensW ps).1 = A := ⟨_, rfl⟩
      obtain ⟨B, hB⟩ : ∃ B, (lensW ps).2 = B := ⟨_, rfl⟩
      have HA : Hid ((lensW ps).1 = A) := hA
      have HB : Hid ((lensW ps).2 = B) := hB
      rw [hA, hB]
      clear e hA hB R3
      go_wp2
      go_ret2
      exact ⟨by rw [HA.out, HB.out]; rfl, hwr⟩
set_option maxRecDepth 100000 in
set_option maxHeartbeats 2000000 in
theorem refLens_any (v : Value) (ps : List Pt) (w : World) (hr : opAt w v ps) (hl : ps.length < 10000000) :
    Calls Tryz.prog 148 #[v] w fun e w' => e = .returned (.tuple #[.int .i64 (lensW ps).1, .int .i64 (lensW ps).2]) ∧ Below w.heap.size w w' := by
  obtain ⟨p, c, rfl, r1, r2, r3⟩ := hr
  obtain ⟨n, hn⟩ : ∃ n, n = ps.length := ⟨_, rfl⟩
  rw [← hn] at r1 hl ⊢
  have HN : Hid (n = ps.length) := hn
  clear hn
  have R3 : Hid (ps ≠ [] → ∃ b o, p = some ⟨b, o, none⟩ ∧ b < w.heap.size ∧ ∀ i q, ps[i]? = some q →
    w.cell? ⟨b, o + i * 3, none⟩ = some (.int .i64 q.keep) ∧ w.cell? ⟨b, o + i * 3 + 1, none⟩ = some (.int .i64 q.drop) ∧ w.cell? ⟨b, o + i * 3 + 2, none⟩ = some (.string ⟨q.put.toArray⟩)) := r3
  clear r3
  go_enter Tryz.func148, Tryz.ntmps148
  go_wp2
  go_loopw [4, 5, 10] (fun x y i wr => ∃ (k : Nat), k ≤ n ∧ i = .int .i64 k ∧ x = .int .i64 (lensW (ps.take k)).1 ∧ y = .int .i64 (lensW (ps.take k)).2 ∧ Below w.heap.size w wr) (fun _ _ i _ => n - (intOf i).toNat)
  case atStart => exact ⟨0, Nat.zero_le _, rfl, rfl, rfl, Below.refl _ _⟩
  case round =>
    obtain ⟨k, hk, rfl, rfl, rfl, hwr⟩ := hrel
    by_cases hlt : k < n
    · have hkr : k < ps.length := by rw [← HN.out]; exact hlt
      have hne : ps ≠ [] := by intro e; rw [e] at hkr; exact absurd hkr (Nat.not_lt_zero _)
      obtain ⟨b, o, rfl, hbw, hcell⟩ := R3.out hne
      obtain ⟨c0, c1, c2⟩ := hcell k ps[k] (List.getElem?_eq_getElem hkr)
      have g0 := (hwr.cell (p := ⟨b, o + k * 3, none⟩) hbw).trans c0
      have g1 := (hwr.cell (p := ⟨b, o + k * 3 + 1, none⟩) hbw).trans c1
      have g2 := (hwr.cell (p := ⟨b, o + k * 3 + 2, none⟩) hbw).trans c2
      have hts : lensW (ps.take (k + 1)) = lenW (lensW (ps.take k)) ps[k] := by
        unfold lensW
        rw [List.take_succ_eq_append_getElem hkr, List.foldl_append]; rfl
      generalize ps[k] = q at *
      generalize lensW (ps.take k) = AB at *
      obtain ⟨A, B⟩ := AB
      obtain ⟨K, D, U⟩ := q
      unfold lenW at hts
      simp only at hts g0 g1 g2 ⊢
      obtain ⟨x1, h1⟩ : ∃ x, IntKind.i64.wrap (K + D) = x := ⟨_, rfl⟩
      obtain ⟨x2, h2⟩ : ∃ x, IntKind.i64.wrap (K + (U.length : Int)) = x := ⟨_, rfl⟩
      obtain ⟨y1, h3⟩ : ∃ x, IntKind.i64.wrap (A + x1) = x := ⟨_, rfl⟩
      obtain ⟨y2, h4⟩ : ∃ x, IntKind.i64.wrap (B + x2) = x := ⟨_, rfl⟩
      rw [h1, h2, h3, h4] at hts
      have HTS : Hid (lensW (ps.take (k + 1)) = (y1, y2)) := hts
      have HWR : Hid (Below w.heap.size w wr) := hwr
      clear hcell c0 c1 c2 hts hwr
      go_wp2
      go_roundw
      case rel => exact ⟨k + 1, by omega, by go_num, by rw [HTS.out], by rw [HTS.out], HWR.out.alloc HWR.out.size _⟩
      case measure => simp [intOf]; omega
    · have e : ps.take k = ps := List.take_of_length_le (by rw [← HN.out]; omega)
      rw [e]
      obtain ⟨A, hA⟩ : ∃ A, (lensW ps).1 = A := ⟨_, rfl⟩
      obtain ⟨B, hB⟩ : ∃ B, (lensW ps).2 = B := ⟨_, rfl⟩
      have HA : Hid ((lensW ps).1 = A) := hA
      have HB : Hid ((lensW ps).2 = B) := hB
      rw [hA, hB]
      clear e hA hB R3
      go_wp2
      go_ret2
      exact ⟨by rw [HA.out, HB.out]; rfl, hwr⟩

def fewP (p : Pt) : Bool := !(decide (300 < (p.put.length : Int)) || decide (5000 < p.keep) || decide (5000 < p.drop))
def fewB (ps : List Pt) : Bool := decide (ps.length ≤ 100) && ps.all fewP

set_option maxRecDepth 100000 in
set_option maxHeartbeats 2000000 in
theorem few_any (v : Value) (ps : List Pt) (w : World) (hr : opAt w v ps) (hl : ps.length < 10000000) :
    Calls Tryz.prog 27 #[v] w fun e w' => e = .returned (.bool (fewB ps)) ∧ Below w.heap.size w w' := by
  obtain ⟨p, c, rfl, r1, r2, r3⟩ := hr
  by_cases hm : 100 < ps.length
  · have hb : fewB ps = false := by unfold fewB; rw [decide_eq_false (by omega)]; rfl
    rw [hb]
    have hm' : (100 : Int) < (ps.length : Int) := by omega
    clear r3
    go_enter Tryz.func27, Tryz.ntmps27
    go_wp2
    go_ret
    exact ⟨rfl, Below.refl _ _⟩
  have hb : fewB ps = ps.all fewP := by unfold fewB; rw [decide_eq_true (by omega)]; rfl
  rw [hb]
  obtain ⟨n, hn⟩ : ∃ n, n = ps.length := ⟨_, rfl⟩
  rw [← hn] at r1 hl hm ⊢
  have HN : Hid (n = ps.length) := hn
  have hm' : ¬ (100 : Int) < (n : Int) := by omega
  clear hn hb hm
  have R3 : Hid (ps ≠ [] → ∃ b o, p = some ⟨b, o, none⟩ ∧ b < w.heap.size ∧ ∀ i q, ps[i]? = some q →
    w.cell? ⟨b, o + i * 3, none⟩ = some (.int .i64 q.keep) ∧ w.cell? ⟨b, o + i * 3 + 1, none⟩ = some (.int .i64 q.drop) ∧ w.cell? ⟨b, o + i * 3 + 2, none⟩ = some (.string ⟨q.put.toArray⟩)) := r3
  clear r3
  obtain ⟨R, hR⟩ : ∃ R, ps.all fewP = R := ⟨_, rfl⟩
  have HR : Hid (ps.all fewP = R) := hR
  rw [hR]
  clear hR
  go_enter Tryz.func27, Tryz.ntmps27
  go_wp2
  go_loopw [3] (fun i wr => ∃ (k : Nat), k ≤ n ∧ i = .int .i64 k ∧ (ps.drop k).all fewP = R ∧ Below w.heap.size w wr) (fun i _ => n - (intOf i).toNat)
  case atStart => exact ⟨0, Nat.zero_le _, rfl, HR.out, Below.refl _ _⟩
  case round =>
    obtain ⟨k, hk, rfl, hch, hwr⟩ := hrel
    by_cases hlt : k < n
    · have hkr : k < ps.length := by rw [← HN.out]; exact hlt
      have hne : ps ≠ [] := by intro e; rw [e] at hkr; exact absurd hkr (Nat.not_lt_zero _)
      obtain ⟨b, o, rfl, hbw, hcell⟩ := R3.out hne
      obtain ⟨c0, c1, c2⟩ := hcell k ps[k] (List.getElem?_eq_getElem hkr)
      have g0 := (hwr.cell (p := ⟨b, o + k * 3, none⟩) hbw).trans c0
      have g1 := (hwr.cell (p := ⟨b, o + k * 3 + 1, none⟩) hbw).trans c1
      have g2 := (hwr.cell (p := ⟨b, o + k * 3 + 2, none⟩) hbw).trans c2
      rw [List.drop_eq_getElem_cons hkr, List.all_cons] at hch
      generalize ps[k] = q at *
      obtain ⟨K, D, U⟩ := q
      unfold fewP at hch
      simp only at hch g0 g1 g2
      by_cases h1 : (300 : Int) < (U.length : Int)
      · have hRf : R = false := by rw [← hch, decide_eq_true h1]; rfl
        subst hRf
        clear hcell c0 c1 c2 hch HR
        go_wp2
        go_ret
        exact ⟨rfl, hwr⟩
      · by_cases h2 : (5000 : Int) < K
        · have hRf : R = false := by rw [← hch, decide_eq_true h2, decide_eq_false h1]; rfl
          subst hRf
          clear hcell c0 c1 c2 hch HR
          go_wp2
          go_ret
          exact ⟨rfl, hwr⟩
        · by_cases h3 : (5000 : Int) < D
          · have hRf : R = false := by rw [← hch, decide_eq_true h3, decide_eq_false h1, decide_eq_false h2]; rfl
            subst hRf
            clear hcell c0 c1 c2 hch HR
            go_wp2
            go_ret
            exact ⟨rfl, hwr⟩
          · have HCH : Hid ((ps.drop (k + 1)).all fewP = R) := by
              show _ = _
              rw [decide_eq_false h1, decide_eq_false h2, decide_eq_false h3] at hch
              exact hch
            clear hcell c0 c1 c2 hch HR
            go_wp2
            go_roundw
            case rel => exact ⟨k + 1, by omega, by go_num, HCH.out, hwr⟩
            case measure => simp [intOf]; omega
    · have e : ps.drop k = [] := List.drop_of_length_le (by rw [← HN.out]; omega)
      rw [e] at hch
      have hRf : R = true := by rw [← hch]; rfl
      subst hRf
      clear e R3 hch HR
      go_wp2
      go_ret
      exact ⟨rfl, hwr⟩

set_option maxRecDepth 100000 in
set_option maxHeartbeats 2000000 in
theorem Same_any (v v' : Value) (ps : List Pt) (w : World) (h1 : opAt w v ps) (h2 : opAt w v' ps) (hl : ps.length < 10000000) :
    Calls Tryz.prog 14 #[v, v'] w fun e w' => e = .returned (.bool true) ∧ Below w.heap.size w w' := by
  obtain ⟨p1, c1, rfl, a1, a2, a3⟩ := h1
  obtain ⟨p2, c2, rfl, b1, b2, b3⟩ := h2
  obtain ⟨n, hn⟩ : ∃ n, n = ps.length := ⟨_, rfl⟩
  rw [← hn] at a1 b1 hl ⊢
  have HN : Hid (n = ps.length) := hn
  clear hn
  have A3 : Hid (ps ≠ [] → ∃ b o, p1 = some ⟨b, o, none⟩ ∧ b < w.heap.size ∧ ∀ i q, ps[i]? = some q →
    w.cell? ⟨b, o + i * 3, none⟩ = some (.int .i64 q.keep) ∧ w.cell? ⟨b, o + i * 3 + 1, none⟩ = some (.int .i64 q.drop) ∧ w.cell? ⟨b, o + i * 3 + 2, none⟩ = some (.string ⟨q.put.toArray⟩)) := a3
  have B3 : Hid (ps ≠ [] → ∃ b o, p2 = some ⟨b, o, none⟩ ∧ b < w.heap.size ∧ ∀ i q, ps[i]? = some q →
    w.cell? ⟨b, o + i * 3, none⟩ = some (.int .i64 q.keep) ∧ w.cell? ⟨b, o + i * 3 + 1, none⟩ = some (.int .i64 q.drop) ∧ w.cell? ⟨b, o + i * 3 + 2, none⟩ = some (.string ⟨q.put.toArray⟩)) := b3
  clear a3 b3
  go_enter Tryz.func14, Tryz.ntmps14
  go_wp2
  go_loopw [13] (fun i wr => ∃ k : Nat, k ≤ n ∧ i = .int .i64 k ∧ Below w.heap.size w wr) (fun i _ => n - (intOf i).toNat)
  case atStart => exact ⟨0, Nat.zero_le _, rfl, Below.refl _ _⟩
  case round =>
    obtain ⟨k, hk, rfl, hwr⟩ := hrel
    by_cases hlt : k < n
    · have hkr : k < ps.length := by rw [← HN.out]; exact hlt
      have hne : ps ≠ [] := by intro e; rw [e] at hkr; exact absurd hkr (Nat.not_lt_zero _)
      obtain ⟨x1, o1, rfl, hx1, hc1⟩ := A3.out hne
      obtain ⟨x2, o2, rfl, hx2, hc2⟩ := B3.out hne
      obtain ⟨d0, d1, d2⟩ := hc1 k ps[k] (List.getElem?_eq_getElem hkr)
      obtain ⟨e0, e1, e2⟩ := hc2 k ps[k] (List.getElem?_eq_getElem hkr)
      have g0 := (hwr.cell (p := ⟨x1, o1 + k * 3, none⟩) hx1).trans d0
      have g1 := (hwr.cell (p := ⟨x1, o1 + k * 3 + 1, none⟩) hx1).trans d1
      have g2 := (hwr.cell (p := ⟨x1, o1 + k * 3 + 2, none⟩) hx1).trans d2
      have g3 := (hwr.cell (p := ⟨x2, o2 + k * 3, none⟩) hx2).trans e0
      have g4 := (hwr.cell (p := ⟨x2, o2 + k * 3 + 1, none⟩) hx2).trans e1
      have g5 := (hwr.cell (p := ⟨x2, o2 + k * 3 + 2, none⟩) hx2).trans e2
      generalize ps[k] = q at *
      obtain ⟨K, D, U⟩ := q
      simp only at g0 g1 g2 g3 g4 g5
      clear hc1 hc2 A3 B3 hne d0 d1 d2 e0 e1 e2
      go_wp2
      go_region
      all_goals
        go_wp2
        go_roundw
        case rel => exact ⟨k + 1, by omega, by go_num, hwr.drew⟩
        case measure => simp [intOf]; omega
    · clear A3 B3
      go_wp2
      go_ret
      exact ⟨rfl, hwr⟩
end Go.Proofs.YtldhbjmillfjgabGreatDoor

namespace Go.Proofs.YtldhbjmillfjgabGreatDoor
open Go.RowKit
set_option linter.unusedVariables false

theorem info_str : (Tryz.prog.info? 9).map (fun i => (i.zero, i.size, i.bytes)) = some (some (.string ⟨#[]⟩), 1, 16) := by kernel_rfl
theorem info_bool : (Tryz.prog.info? 4).map (fun i => (i.zero, i.size, i.bytes)) = some (some (.bool false), 1, 1) := by kernel_rfl

theorem mk_str (n : Nat) (hn : n < 100000000) (W : World) : (Instr.makeSlice 80 (.int .i64 ((n : Int) + 1)) (.int .i64 ((n : Int) + 1))).run Tryz.prog W = .ok (.slice (some ⟨W.heap.size, 0, none⟩) (n + 1) (n + 1)) (W.alloc (.cells (madeCells #[.string ⟨#[]⟩] (n + 1)) 9)) := by
  obtain ⟨i0, hi, hz0, hz1, hz2⟩ := info_parts info_str
  have h := run_make (P := Tryz.prog) W 80 9 i0 (.string ⟨#[]⟩) Tryz.underlying80 hi hz0 .i64 .i64 ((n : Int) + 1) ((n : Int) + 1) (by omega) (Int.le_refl _) (by rw [hz2]; omega) (by omega)
  rw [h]
  have e : ((n : Int) + 1).toNat = n + 1 := by omega
  rw [e, hz1]
  simp [Value.cells]
theorem mk_bool (n : Nat) (hn : n < 100000000) (W : World) : (Instr.makeSlice 250 (.int .i64 (n : Int)) (.int .i64 (n : Int))).run Tryz.prog W = .ok (.slice (some ⟨W.heap.size, 0, none⟩) n n) (W.alloc (.cells (madeCells #[.bool false] n) 4)) := by
  obtain ⟨i0, hi, hz0, hz1, hz2⟩ := info_parts info_bool
  have h := run_make (P := Tryz.prog) W 250 4 i0 (.bool false) Tryz.underlying250 hi hz0 .i64 .i64 (n : Int) (n : Int) (by omega) (Int.le_refl _) (by rw [hz2]; omega) (by omega)
  rw [h]
  have e : ((n : Int)).toNat = n := by omega
  rw [e, hz1]
  simp [Value.cells]

/-- The rows of strings and of bools, gaps that are yet to come among them. -/
def strsP (n : Nat) (g : GSt) : List (List UInt8) := g.1.map (·.1) ++ g.2 :: List.replicate (n - g.1.length) []
def boolsP (n : Nat) (g : GSt) : List Bool := g.1.map (·.2) ++ List.replicate (n - g.1.length) false
def strV (u : List UInt8) : Value := .string ⟨u.toArray⟩

theorem strsP_len {n : Nat} {g : GSt} (h : g.1.length ≤ n) : (strsP n g).length = n + 1 := by simp [strsP]; omega
theorem boolsP_len {n : Nat} {g : GSt} (h : g.1.length ≤ n) : (boolsP n g).length = n := by simp [boolsP]; omega
theorem strsP_tick {n : Nat} {g : GSt} (h : g.1.length < n) (d : Bool) : strsP n (tick d g) = strsP n g := by
  unfold strsP tick
  simp only [List.map_append, List.map_cons, List.map_nil, List.length_append, List.length_cons, List.length_nil, List.append_assoc, List.singleton_append]
  obtain ⟨k, hk⟩ : ∃ k, n - g.1.length = k + 1 := ⟨n - g.1.length - 1, by omega⟩
  have e : n - (g.1.length + (0 + 1)) = k := by omega
  rw [e, hk, List.replicate_succ]
theorem boolsP_tick {n : Nat} {g : GSt} (h : g.1.length < n) (d : Bool) : boolsP n (tick d g) = (boolsP n g).set g.1.length d := by
  unfold boolsP tick
  obtain ⟨k, hk⟩ : ∃ k, n - g.1.length = k + 1 := ⟨n - g.1.length - 1, by omega⟩
  have e : n - (g.1.length + 1) = k := by omega
  have hl : (g.1.map (·.2)).length = g.1.length := by simp
  rw [List.set_append_right _ _ (by rw [hl]; exact Nat.le_refl _), hl, Nat.sub_self, hk, List.replicate_succ, List.set_cons_zero]
  simp [e]
theorem boolsP_at {n : Nat} {g : GSt} (h : g.1.length < n) : (boolsP n g)[g.1.length]? = some false := by
  unfold boolsP
  obtain ⟨k, hk⟩ : ∃ k, n - g.1.length = k + 1 := ⟨n - g.1.length - 1, by omega⟩
  rw [List.getElem?_append_right (by simp), List.length_map, Nat.sub_self, hk, List.replicate_succ]
  rfl
theorem strsP_at {n : Nat} {g : GSt} : (strsP n g)[g.1.length]? = some g.2 := by
  unfold strsP
  rw [List.getElem?_append_right (by simp)]
  simp
theorem strsP_put {n : Nat} {g : GSt} (u : List UInt8) : strsP n (g.1, u) = (strsP n g).set g.1.length u := by
  unfold strsP
  have hl : (g.1.map (·.1)).length = g.1.length := by simp
  rw [List.set_append_right _ _ (by rw [hl]; exact Nat.le_refl _), hl, Nat.sub_self, List.set_cons_zero]
theorem boolsP_put {n : Nat} {g : GSt} (u : List UInt8) : boolsP n (g.1, u) = boolsP n g := rfl
theorem rowsP_keeps {n : Nat} : ∀ (k : Nat) (g : GSt), g.1.length + k ≤ n → strsP n (ticks false k g) = strsP n g ∧ boolsP n (ticks false k g) = boolsP n g
  | 0, _, _ => ⟨rfl, rfl⟩
  | k + 1, g, h => by
    have hl : (tick false g).1.length = g.1.length + 1 := by simp [tick]
    obtain ⟨h1, h2⟩ := rowsP_keeps (n := n) k (tick false g) (by rw [hl]; omega)
    rw [ticks, h1, h2, strsP_tick (n := n) (g := g) (by omega), boolsP_tick (n := n) (g := g) (by omega)]
    refine ⟨rfl, ?_⟩
    have := boolsP_at (n := n) (g := g) (by omega)
    have hlt : g.1.length < (boolsP n g).length := (List.getElem?_eq_some_iff.1 this).1
    rw [List.getElem?_eq_getElem hlt] at this
    have e := Option.some.inj this
    rw [← e]
    exact List.set_getElem_self hlt
theorem strsP_drops {n : Nat} : ∀ (k : Nat) (g : GSt), g.1.length + k ≤ n → strsP n (ticks true k g) = strsP n g
  | 0, _, _ => rfl
  | k + 1, g, h => by
    have hl : (tick true g).1.length = g.1.length + 1 := by simp [tick]
    rw [ticks, strsP_drops k (tick true g) (by rw [hl]; omega), strsP_tick (n := n) (g := g) (by omega)]

theorem spreads_snoc (ps : List Pt) (p : Pt) : spreads (ps ++ [p]) = spreadP (spreads ps) p := by simp [spreads]
theorem spreadP_nat (g : GSt) (p : Pt) : (spreadP g p).1.length = g.1.length + p.drop.toNat + p.keep.toNat := by
  unfold spreadP
  rw [ticks_len, ticks_len]
theorem spreads_le (ps : List Pt) (k : Nat) : (spreads (ps.take k)).1.length ≤ (spreads ps).1.length := by
  have key : ∀ (l : List Pt) (g : GSt), g.1.length ≤ (l.foldl spreadP g).1.length := by
    intro l
    induction l with
    | nil => intro g; exact Nat.le_refl _
    | cons p l ih =>
      intro g
      rw [List.foldl_cons]
      have := ih (spreadP g p)
      rw [spreadP_nat] at this
      omega
  have e : spreads ps = (ps.drop k).foldl spreadP (spreads (ps.take k)) := by
    unfold spreads
    rw [← List.foldl_append, List.take_append_drop]
  rw [e]
  exact key _ _

/-- How long an operation is, where nothing wraps round. -/
def isP (p : Pt) : Int := p.keep + p.put.length
theorem lens_plain (ps : List Pt) (h : ∀ p ∈ ps, soundP p) (hw : wts ps < 4611686018427387904) : (lensW ps).1 = (spreads ps).1.length ∧ (lensW ps).2 = (ps.map isP).sum ∧ ((spreads ps).1.length : Int) ≤ wts ps ∧ (ps.map isP).sum ≤ wts ps := by
  have key : ∀ k, k ≤ ps.length → (lensW (ps.take k)).1 = (spreads (ps.take k)).1.length ∧ (lensW (ps.take k)).2 = ((ps.take k).map isP).sum ∧ ((spreads (ps.take k)).1.length : Int) ≤ wts (ps.take k) ∧ ((ps.take k).map isP).sum ≤ wts (ps.take k) ∧ 0 ≤ ((ps.take k).map isP).sum := by
    intro k
    induction k with
    | zero => intro _; simp [lensW, spreads, wts]
    | succ k ih =>
      intro hk
      obtain ⟨h1, h2, h3, h4, h5⟩ := ih (by omega)
      have hp := h _ (List.getElem_mem (show k < ps.length by omega))
      have ht := wts_take h (k + 1)
      have hts : ps.take (k + 1) = ps.take k ++ [ps[k]] := List.take_succ_eq_append_getElem (by omega)
      have hls : lensW (ps.take (k + 1)) = lenW (lensW (ps.take k)) ps[k] := by
        unfold lensW
        rw [hts, List.foldl_append]; rfl
      rw [hls, hts, spreads_snoc, spreadP_nat, wts_snoc, List.map_append, List.sum_append]
      rw [hts, wts_snoc] at ht
      generalize ps[k] = q at *
      obtain ⟨q1, q2⟩ := hp
      have hwq : wtP q = q.keep + q.drop + q.put.length := rfl
      have hiq : ([q].map isP).sum = q.keep + q.put.length := by simp [isP]
      rw [hiq]
      unfold lenW
      simp only
      rw [h1, h2]
      have w1 : IntKind.i64.wrap (q.keep + q.drop) = q.keep + q.drop := by rw [IntKind.wrap_i64]; omega
      have w2 : IntKind.i64.wrap (q.keep + (q.put.length : Int)) = q.keep + q.put.length := by rw [IntKind.wrap_i64]; omega
      rw [w1, w2]
      have w3 : IntKind.i64.wrap (((spreads (ps.take k)).1.length : Int) + (q.keep + q.drop)) = ((spreads (ps.take k)).1.length : Int) + (q.keep + q.drop) := by rw [IntKind.wrap_i64]; omega
      have w4 : IntKind.i64.wrap (((ps.take k).map isP).sum + (q.keep + (q.put.length : Int))) = ((ps.take k).map isP).sum + (q.keep + q.put.length) := by rw [IntKind.wrap_i64]; omega
      rw [w3, w4]
      refine ⟨by omega, rfl, by omega, by omega, by omega⟩
  have := key ps.length (Nat.le_refl _)
  rw [List.take_length] at this
  exact ⟨this.1, this.2.1, this.2.2.1, this.2.2.2.1⟩

theorem ticks_put (d : Bool) : ∀ (n : Nat) (g : GSt), (ticks d n g).2.length ≤ g.2.length
  | 0, _ => Nat.le_refl _
  | n + 1, g => by
    have := ticks_put d n (tick d g)
    rw [ticks]
    have e : (tick d g).2.length = 0 := rfl
    omega
theorem spreads_put (ps : List Pt) (h : ∀ p ∈ ps, soundP p) (k : Nat) (hk : k ≤ ps.length) : ((spreads (ps.take k)).2.length : Int) ≤ wts (ps.take k) := by
  induction k with
  | zero => simp [spreads, wts]
  | succ k ih =>
    have h1 := ih (by omega)
    have hp := h _ (List.getElem_mem (show k < ps.length by omega))
    rw [List.take_succ_eq_append_getElem (by omega), spreads_snoc, wts_snoc]
    generalize ps[k] = q at *
    obtain ⟨q1, q2⟩ := hp
    have hwq : wtP q = q.keep + q.drop + q.put.length := rfl
    have h2 := ticks_put false q.keep.toNat (ticks true q.drop.toNat ((spreads (ps.take k)).1, (spreads (ps.take k)).2 ++ q.put))
    have h3 := ticks_put true q.drop.toNat ((spreads (ps.take k)).1, (spreads (ps.take k)).2 ++ q.put)
    have h4 : ((spreads (ps.take k)).2 ++ q.put).length = (spreads (ps.take k)).2.length + q.put.length := List.length_append
    have h5 : (spreadP (spreads (ps.take k)) q).2.length ≤ ((spreads (ps.take k)).2 ++ q.put).length := Nat.le_trans h2 h3
    omega

theorem wp_key {P : Program} {c : Code} {Q : Exit → Act → World → Prop} {a : Act} {w : World} (F : Act → World → Prop) (h1 : ∀ Q' : Exit → Act → World → Prop, (∀ a' w', F a' w' → Q' .normal a' w') → c.wp P Q' a w) (h2 : ∀ a' w', F a' w' → Q .normal a' w') : c.wp P Q a w := h1 Q h2

theorem own_setAt {w : World} {B e size n b o : Nat} {v : Value} {xs : List Value} (h : w.ownsRow B e size v n xs) (hb : b < B) (u : Value) : (w.setCell ⟨b, o, none⟩ u).ownsRow B e size v n xs := by
  obtain ⟨h0, hrow⟩ := h
  refine ⟨h0, ?_⟩
  rcases hrow with hn | ⟨g, cap, cur, rfl, hg, hgg, rest⟩
  · exact .inl hn
  · exact .inr ⟨g, cap, cur, rfl, hg, (Below.heap_setCell _ _ _ _ (by show g ≠ b; omega)).trans hgg, rest⟩
theorem below_three (w : World) (o1 o2 o3 : Obj) : Below w.heap.size w (((w.alloc o1).alloc o2).alloc o3).drew :=
  ((((Below.refl w.heap.size w).alloc (Nat.le_refl _) o1).alloc (by simp) o2).alloc (by rw [World.size_alloc, World.size_alloc]; omega) o3).drew
/-- A row that is made. -/
theorem own_made (W : World) (B n g : Nat) (z : Value) (T : TypeId) (hg : W.heap.size = g) (hB : B ≤ g) (hn : n ≤ maxLen) : (W.alloc (.cells (madeCells #[z] n) T)).ownsRow B T 1 (.slice (some ⟨g, 0, none⟩) n n) n (List.replicate n z) := by
  subst hg
  have := World.ownsRow_lit (base := B) (e := T) (size := 1) W (madeCells #[z] n) n hB hn (by rw [size_madeCells]; simp)
  rwa [toList_madeCells_one] at this

set_option maxRecDepth 100000 in
set_option maxHeartbeats 4000000 in
theorem Spread_any (v : Value) (ps : List Pt) (w : World) (hr : opAt w v ps) (hs : ∀ p ∈ ps, soundP p) (hw : wts ps < 10000000) (hl : ps.length < 10000000) (n : Nat) (hn : (spreads ps).1.length = n) :
    Calls Tryz.prog 152 #[v] w fun e w' => ∃ g1 g2, e = .returned (.agg #[.slice (some ⟨g1, 0, none⟩) (n + 1) (n + 1), .slice (some ⟨g2, 0, none⟩) n n]) ∧
      w'.ownsRow w.heap.size 9 1 (.slice (some ⟨g1, 0, none⟩) (n + 1) (n + 1)) (n + 1) ((strsP n (spreads ps)).map strV) ∧ w'.ownsRow w.heap.size 4 1 (.slice (some ⟨g2, 0, none⟩) n n) n ((boolsP n (spreads ps)).map Value.bool) ∧ Below w.heap.size w w' := by
  have cL := fun wx hb => refLens_any v ps wx (opAt_below hr hb (Nat.le_refl _)) hl
  obtain ⟨hp1, _, hp3, _⟩ := lens_plain ps hs (by omega)
  rw [hp1, hn] at cL
  have hn' : n < 10000000 := by omega
  have HNS : Hid ((spreads ps).1.length = n) := hn
  obtain ⟨l2, hl2⟩ : ∃ l2, (lensW ps).2 = l2 := ⟨_, rfl⟩
  rw [hl2] at cL
  obtain ⟨p, c, rfl, r1, r2, r3⟩ := hr
  obtain ⟨m, hm⟩ : ∃ m, m = ps.length := ⟨_, rfl⟩
  rw [← hm] at r1 hl cL ⊢
  have HM : Hid (m = ps.length) := hm
  have R3 : Hid (ps ≠ [] → ∃ b o, p = some ⟨b, o, none⟩ ∧ b < w.heap.size ∧ ∀ i q, ps[i]? = some q →
    w.cell? ⟨b, o + i * 3, none⟩ = some (.int .i64 q.keep) ∧ w.cell? ⟨b, o + i * 3 + 1, none⟩ = some (.int .i64 q.drop) ∧ w.cell? ⟨b, o + i * 3 + 2, none⟩ = some (.string ⟨q.put.toArray⟩)) := r3
  have HS : Hid (∀ p ∈ ps, soundP p) := hs
  have HW : Hid (wts ps < 10000000) := hw
  have hm1 := mk_str n (by omega)
  have hm2 := mk_bool n (by omega)
  have hwn : IntKind.i64.wrap ((n : Int) + 1) = (n : Int) + 1 := by rw [IntKind.wrap_i64]; omega
  clear hs hw hn hp1 hp3 hl2 hm r3
  go_enter Tryz.func152, Tryz.ntmps152
  go_wp2_with (first | (go_at_call 148; refine (cL _ ((Below.refl _ _).alloc (Nat.le_refl _) _)).mono ?_; rintro e w1 ⟨rfl, hb1⟩) | fail)
  have hB1 : Below w.heap.size w w1 := ((Below.refl _ _).alloc (Nat.le_refl _) _).trans (hb1.mono (by simp))
  have hs1 : w.heap.size < w1.heap.size := by have := hb1.size; rw [World.size_alloc] at this; omega
  have x0 : w1.cell? ⟨w.heap.size, 0, none⟩ = some (.slice none 0 0) := (hb1.cell (p := ⟨w.heap.size, 0, none⟩) (by simp)).trans (by simp [go_sem])
  have x1 : w1.cell? ⟨w.heap.size, 1, none⟩ = some (.slice none 0 0) := (hb1.cell (p := ⟨w.heap.size, 1, none⟩) (by simp)).trans (by simp [go_sem])
  have x2 : w1.frozen? ⟨w.heap.size, 0, none⟩ = false := (hb1.frozen (p := ⟨w.heap.size, 0, none⟩) (by simp)).trans (by simp [go_sem])
  have x3 : w1.frozen? ⟨w.heap.size, 1, none⟩ = false := (hb1.frozen (p := ⟨w.heap.size, 1, none⟩) (by simp)).trans (by simp [go_sem])
  clear hb1 cL
  refine wp_key (F := fun a' w' => ∃ g1 g2 b, a' = { tmps := #[.slice p m c, undef, .pointer (some ⟨w.heap.size, 0, none⟩), .int .i64 n, .int .i64 l2, .pointer (some ⟨b, 0, none⟩), undef, undef, undef, .tuple #[.int .i64 n, .int .i64 l2], .slice p m c, .tuple #[.int .i64 n, .int .i64 l2], .int .i64 n, .int .i64 l2, .int .i64 n, .int .i64 ((n : Int) + 1),
      .slice (some ⟨g1, 0, none⟩) (n + 1) (n + 1), .int .i64 n, .slice (some ⟨g2, 0, none⟩) n n, .agg #[.slice (some ⟨g1, 0, none⟩) (n + 1) (n + 1), .slice (some ⟨g2, 0, none⟩) n n],
      undef, undef, undef, undef, undef, undef, undef, undef, undef, undef, undef, undef, undef, undef, undef, undef, undef, undef, undef, undef, undef, undef, undef, undef, undef, undef, undef, undef, undef, undef, undef, undef], defers := [] } ∧
      w'.ownsRow (w.heap.size + 1) 9 1 (.slice (some ⟨g1, 0, none⟩) (n + 1) (n + 1)) (n + 1) (List.replicate (n + 1) (.string ⟨#[]⟩)) ∧ w'.ownsRow (w.heap.size + 1) 4 1 (.slice (some ⟨g2, 0, none⟩) n n) n (List.replicate n (.bool false)) ∧
      w'.cell? ⟨b, 0, none⟩ = some (.slice (some ⟨g1, 0, none⟩) (n + 1) (n + 1)) ∧ w'.cell? ⟨b, 1, none⟩ = some (.slice (some ⟨g2, 0, none⟩) n n) ∧ b ≠ g1 ∧ b ≠ g2 ∧ w.heap.size < b ∧ Below w1.heap.size w1 w') ?_ ?_
  · intro Q' hQ
    go_region
    all_goals
      have hm0 : n + 1 ≤ maxLen := by unfold maxLen; omega
      have hm3 : n ≤ maxLen := by omega
      refine hQ _ _ ⟨_, _, _, rfl, ?_, ?_, by simp [go_sem], by simp [go_sem], by omega, by omega, by omega, ?_⟩
      · first
          | exact (own_made _ _ _ _ _ _ (by simp) (by omega) hm0).drew
          | exact ((own_made _ _ _ _ _ _ (by simp) (by omega) hm0).alloc _).drew
          | exact (((own_made _ _ _ _ _ _ (by simp) (by omega) hm0).alloc _).alloc _).drew
      · first
          | exact (own_made _ _ _ _ _ _ (by simp) (by omega) hm3).drew
          | exact ((own_made _ _ _ _ _ _ (by simp) (by omega) hm3).alloc _).drew
          | exact (((own_made _ _ _ _ _ _ (by simp) (by omega) hm3).alloc _).alloc _).drew
      · exact below_three _ _ _ _
  · rintro a' w2 ⟨g1, g2, b, rfl, hO1, hO2, hc0, hc1, hn1, hn2, hb0, hb2⟩
    have HB2 : Hid (Below w.heap.size w w2) := hB1.trans (hb2.mono (by omega))
    have y0 := (hb2.cell (p := ⟨w.heap.size, 0, none⟩) hs1).trans x0
    have y1 := (hb2.cell (p := ⟨w.heap.size, 1, none⟩) hs1).trans x1
    have y2 := (hb2.frozen (p := ⟨w.heap.size, 0, none⟩) hs1).trans x2
    have y3 := (hb2.frozen (p := ⟨w.heap.size, 1, none⟩) hs1).trans x3
    have hg1 := (hO1.lt g1 rfl)
    have hg2 := (hO2.lt g2 rfl)
    have hbl := World.block_lt_of_cell? w2 _ hc0
    have hng : g1 ≠ g2 := by
      have := own_ne hO1 hO2 (by decide)
      rcases this with h | h
      · cases h
      · intro e; subst e; exact h rfl
    have HST : Hid (strsP n ([], []) = List.replicate (n + 1) []) := by show _ = _; rfl
    have hO1' : w2.ownsRow (w.heap.size + 1) 9 1 (.slice (some ⟨g1, 0, none⟩) (n + 1) (n + 1)) (n + 1) ((strsP n (spreads (ps.take 0))).map strV) := by
      have e : (strsP n (spreads (ps.take 0))).map strV = List.replicate (n + 1) (.string ⟨#[]⟩) := by
        show (strsP n ([], [])).map strV = _
        rw [HST.out, List.map_replicate]
        rfl
      rw [e]; exact hO1
    have hO2' : w2.ownsRow (w.heap.size + 1) 4 1 (.slice (some ⟨g2, 0, none⟩) n n) n ((boolsP n (spreads (ps.take 0))).map Value.bool) := by
      have e : (boolsP n (spreads (ps.take 0))).map Value.bool = List.replicate n (.bool false) := by
        show ((List.replicate n false)).map Value.bool = _
        rw [List.map_replicate]
      rw [e]; exact hO2
    have HO1 : Hid _ := hO1'
    have HO2 : Hid _ := hO2'
    clear hO1 hO2 hO1' hO2' x0 x1 x2 x3 hb2 hB1 hm1 hm2 HST
    go_wp2
    go_loopw [6, 22] (fun at_ i wr => ∃ (k : Nat), k ≤ m ∧ i = .int .i64 k ∧ at_ = .int .i64 (spreads (ps.take k)).1.length ∧
        wr.ownsRow (w.heap.size + 1) 9 1 (.slice (some ⟨g1, 0, none⟩) (n + 1) (n + 1)) (n + 1) ((strsP n (spreads (ps.take k))).map strV) ∧ wr.ownsRow (w.heap.size + 1) 4 1 (.slice (some ⟨g2, 0, none⟩) n n) n ((boolsP n (spreads (ps.take k))).map Value.bool) ∧
        wr.cell? ⟨b, 0, none⟩ = some (.slice (some ⟨g1, 0, none⟩) (n + 1) (n + 1)) ∧ wr.cell? ⟨b, 1, none⟩ = some (.slice (some ⟨g2, 0, none⟩) n n) ∧
        wr.cell? ⟨w.heap.size, 0, none⟩ = some (.slice none 0 0) ∧ wr.cell? ⟨w.heap.size, 1, none⟩ = some (.slice none 0 0) ∧ wr.frozen? ⟨w.heap.size, 0, none⟩ = false ∧ wr.frozen? ⟨w.heap.size, 1, none⟩ = false ∧ Below w.heap.size w wr) (fun _ i _ => m - (intOf i).toNat)
    case atStart => exact ⟨0, Nat.zero_le _, rfl, rfl, HO1.out, HO2.out, hc0, hc1, y0, y1, y2, y3, HB2.out⟩
    case round =>
      obtain ⟨k, hk, rfl, rfl, hO1, hO2, z0, z1, z2, z3, z4, z5, hwr⟩ := hrel
      clear HO1 HO2 hc0 hc1 y0 y1 y2 y3
      by_cases hlt : k < m
      · have hkr : k < ps.length := by rw [← HM.out]; exact hlt
        have hne : ps ≠ [] := by intro e; rw [e] at hkr; exact absurd hkr (Nat.not_lt_zero _)
        obtain ⟨pb, po, rfl, hbw, hcell⟩ := R3.out hne
        obtain ⟨c0, c1, c2⟩ := hcell k ps[k] (List.getElem?_eq_getElem hkr)
        have e0 := (hwr.cell (p := ⟨pb, po + k * 3, none⟩) hbw).trans c0
        have e1 := (hwr.cell (p := ⟨pb, po + k * 3 + 1, none⟩) hbw).trans c1
        have e2 := (hwr.cell (p := ⟨pb, po + k * 3 + 2, none⟩) hbw).trans c2
        have hsp := HS.out ps[k] (List.getElem_mem _)
        have hle := spreads_le ps (k + 1)
        have hpu := spreads_put ps HS.out k (by omega)
        have hpt := wts_take HS.out (k + 1)
        rw [List.take_succ_eq_append_getElem hkr, wts_snoc] at hpt
        have hpw := HW.out
        rw [HNS.out, List.take_succ_eq_append_getElem hkr, spreads_snoc, spreadP_nat] at hle
        have HSN : Hid (spreads (ps.take (k + 1)) = spreadP (spreads (ps.take k)) ps[k]) := by
          show _ = _
          rw [List.take_succ_eq_append_getElem hkr, spreads_snoc]
        generalize ps[k] = q at *
        generalize spreads (ps.take k) = G at *
        obtain ⟨K, D, U⟩ := q
        obtain ⟨s1, s2⟩ := hsp
        simp only at e0 e1 e2 hle s1 s2
        have hcb : ¬ 9223372036854775807 < G.2.length + U.length := by
          have : wtP ⟨K, D, U⟩ = K + D + U.length := rfl
          omega
        have hat : G.1.length ≤ n := by omega
        have i0 : (strsP n G).map strV = ((strsP n G).map strV) := rfl
        have hstr : wr.cell? ⟨g1, G.1.length, none⟩ = some (.string ⟨G.2.toArray⟩) := by
          rw [hO1.cellAt _ (by omega), List.getElem?_map, strsP_at]
          rfl
        have hsf := hO1.frozenAt G.1.length
        have hgl1 := (hO1.lt g1 rfl).2
        have hgl2 := (hO2.lt g2 rfl).2
        have hbl' := World.block_lt_of_cell? wr _ z0
        have hcat := str_append G.2 U
        have t1 : ((G.1.length : Nat) : Int) < (n : Int) + 1 := by omega
        have t0 : (0 : Int) ≤ ((G.1.length : Nat) : Int) := by omega
        have HO1 : Hid (wr.ownsRow (w.heap.size + 1) 9 1 (.slice (some ⟨g1, 0, none⟩) (n + 1) (n + 1)) (n + 1) ((strsP n G).map strV)) := hO1
        have HO2 : Hid (wr.ownsRow (w.heap.size + 1) 4 1 (.slice (some ⟨g2, 0, none⟩) n n) n ((boolsP n G).map Value.bool)) := hO2
        have HWR : Hid (Below w.heap.size w wr) := hwr
        clear hcell c0 c1 c2 i0 hO1 hO2 hwr hpu hpt hpw
        go_wp2
        go_region
        obtain ⟨r1, r2⟩ := HO1.out.stored G.1.length (strV (G.2 ++ U))
        have q1 : ((wr.setCell ⟨g1, G.1.length, none⟩ (strV (G.2 ++ U))).alloc (.cells #[.int .i64 K, .int .i64 D, .string ⟨U.toArray⟩] 50)).drew.ownsRow (w.heap.size + 1) 9 1 (.slice (some ⟨g1, 0, none⟩) (n + 1) (n + 1)) (n + 1) ((strsP n (G.1, G.2 ++ U)).map strV) := by
          rw [strsP_put, List.map_set]
          exact (World.ownsRow.alloc r1 _).drew
        have q2 : ((wr.setCell ⟨g1, G.1.length, none⟩ (strV (G.2 ++ U))).alloc (.cells #[.int .i64 K, .int .i64 D, .string ⟨U.toArray⟩] 50)).drew.ownsRow (w.heap.size + 1) 4 1 (.slice (some ⟨g2, 0, none⟩) n n) n ((boolsP n (G.1, G.2 ++ U)).map Value.bool) :=
          (World.ownsRow.alloc (HO2.out.kept r2 (own_ne HO2.out HO1.out (by decide))) _).drew
        have keep : ∀ (x : Nat) (o : Nat), x ≠ g1 → x < wr.heap.size → (((wr.setCell ⟨g1, G.1.length, none⟩ (strV (G.2 ++ U))).alloc (.cells #[.int .i64 K, .int .i64 D, .string ⟨U.toArray⟩] 50)).drew).heap[x]? = wr.heap[x]? := by
          intro x o hx hxl
          rw [← r2.block x hxl (by intro e; exact hx (Option.some.inj e))]
          exact heap_alloc_old _ _ (by simpa using hxl)
        have hs0 := World.block_lt_of_cell? wr _ z2
        have hg1b := (HO1.out.lt g1 rfl).1
        have hg2b := (HO2.out.lt g2 rfl).1
        have u0 := (World.cell?_of_block (a := ⟨b, 0, none⟩) (keep b 0 hn1 hbl')).trans z0
        have u1 := (World.cell?_of_block (a := ⟨b, 1, none⟩) (keep b 0 hn1 hbl')).trans z1
        have u2 := (World.cell?_of_block (a := ⟨w.heap.size, 0, none⟩) (keep w.heap.size 0 (by omega) hs0)).trans z2
        have u3 := (World.cell?_of_block (a := ⟨w.heap.size, 1, none⟩) (keep w.heap.size 0 (by omega) hs0)).trans z3
        have u4 := (World.frozen?_of_block (a := ⟨w.heap.size, 0, none⟩) (keep w.heap.size 0 (by omega) hs0)).trans z4
        have u5 := (World.frozen?_of_block (a := ⟨w.heap.size, 1, none⟩) (keep w.heap.size 0 (by omega) hs0)).trans z5
        have hset : Below w.heap.size w (wr.setCell ⟨g1, G.1.length, none⟩ (strV (G.2 ++ U))) := HWR.out.setCell (p := ⟨g1, G.1.length, none⟩) (by show w.heap.size ≤ g1; omega) _
        have u6 : Below w.heap.size w (((wr.setCell ⟨g1, G.1.length, none⟩ (strV (G.2 ++ U))).alloc (.cells #[.int .i64 K, .int .i64 D, .string ⟨U.toArray⟩] 50)).drew) := (hset.alloc hset.size _).drew
        have u7 : (((wr.setCell ⟨g1, G.1.length, none⟩ (strV (G.2 ++ U))).alloc (.cells #[.int .i64 K, .int .i64 D, .string ⟨U.toArray⟩] 50)).drew).cell? ⟨wr.heap.size, 0, none⟩ = some (.int .i64 K) := by simp [go_sem]
        have u8 : (((wr.setCell ⟨g1, G.1.length, none⟩ (strV (G.2 ++ U))).alloc (.cells #[.int .i64 K, .int .i64 D, .string ⟨U.toArray⟩] 50)).drew).cell? ⟨wr.heap.size, 1, none⟩ = some (.int .i64 D) := by simp [go_sem]
        have hpb : w.heap.size ≠ wr.heap.size ∧ b ≠ wr.heap.size ∧ g1 ≠ wr.heap.size ∧ g2 ≠ wr.heap.size := ⟨by omega, by omega, by omega, by omega⟩
        clear r1 r2 keep z0 z1 z2 z3 z4 z5 HO1 HO2 HWR hset e0 e1 e2 hstr hsf hgl1 hgl2 hbl' hs0
        unfold strV at q1 q2 u0 u1 u2 u3 u4 u5 u6 u7 u8
        generalize (((wr.setCell ⟨g1, G.1.length, none⟩ (.string ⟨(G.2 ++ U).toArray⟩)).alloc (.cells #[.int .i64 K, .int .i64 D, .string ⟨U.toArray⟩] 50)).drew) = W3 at *
        obtain ⟨pB, hpB⟩ : ∃ pB, wr.heap.size = pB := ⟨_, rfl⟩
        rw [hpB] at u7 u8 hpb ⊢
        clear hpB hcat hcb
        have HQ1 : Hid (W3.ownsRow (w.heap.size + 1) 9 1 (.slice (some ⟨g1, 0, none⟩) (n + 1) (n + 1)) (n + 1) ((strsP n (G.1, G.2 ++ U)).map strV)) := q1
        have HQ2 : Hid (W3.ownsRow (w.heap.size + 1) 4 1 (.slice (some ⟨g2, 0, none⟩) n n) n ((boolsP n (G.1, G.2 ++ U)).map Value.bool)) := q2
        clear q1 q2
        go_wp2
        go_loopw [6, 37] (fun at_ i wr => ∃ (j : Nat), j ≤ D.toNat ∧ i = .int .i64 j ∧ at_ = .int .i64 ((G.1.length + j : Nat) : Int) ∧
          wr.ownsRow (w.heap.size + 1) 9 1 (.slice (some ⟨g1, 0, none⟩) (n + 1) (n + 1)) (n + 1) ((strsP n (G.1, G.2 ++ U)).map strV) ∧ wr.ownsRow (w.heap.size + 1) 4 1 (.slice (some ⟨g2, 0, none⟩) n n) n ((boolsP n (ticks true j (G.1, G.2 ++ U))).map Value.bool) ∧
          wr.cell? ⟨b, 0, none⟩ = some (.slice (some ⟨g1, 0, none⟩) (n + 1) (n + 1)) ∧ wr.cell? ⟨b, 1, none⟩ = some (.slice (some ⟨g2, 0, none⟩) n n) ∧
          wr.cell? ⟨w.heap.size, 0, none⟩ = some (.slice none 0 0) ∧ wr.cell? ⟨w.heap.size, 1, none⟩ = some (.slice none 0 0) ∧ wr.frozen? ⟨w.heap.size, 0, none⟩ = false ∧ wr.frozen? ⟨w.heap.size, 1, none⟩ = false ∧ Below w.heap.size w wr ∧
          wr.cell? ⟨pB, 0, none⟩ = some (.int .i64 K) ∧ wr.cell? ⟨pB, 1, none⟩ = some (.int .i64 D)) (fun _ i _ => D.toNat - (intOf i).toNat)
        case atStart => exact ⟨0, Nat.zero_le _, rfl, rfl, HQ1.out, HQ2.out, u0, u1, u2, u3, u4, u5, u6, u7, u8⟩
        case round =>
          obtain ⟨j, hj, rfl, rfl, hO1, hO2, z0, z1, z2, z3, z4, z5, hwr, z6, z7⟩ := hrel
          clear HQ1 HQ2 u0 u1 u2 u3 u4 u5 u6 u7 u8
          by_cases hjl : j < D.toNat
          · have hDj : (j : Int) < D := by omega
            have htl : (ticks true j (G.1, G.2 ++ U)).1.length = G.1.length + j := ticks_len true j (G.1, G.2 ++ U)
            have hcell : wr.cell? ⟨g2, G.1.length + j, none⟩ = some (.bool false) := by
              rw [hO2.cellAt _ (by omega), List.getElem?_map, ← htl, boolsP_at (by omega)]
              rfl
            have hfr := hO2.frozenAt (G.1.length + j)
            have hj1 : ((G.1.length + j : Nat) : Int) < (n : Int) := by omega
            have hj0 : (0 : Int) ≤ ((G.1.length + j : Nat) : Int) := by omega
            obtain ⟨r1, r2⟩ := hO2.stored (G.1.length + j) (.bool true)
            have HR1 : Hid ((wr.setCell ⟨g2, G.1.length + j, none⟩ (.bool true)).ownsRow (w.heap.size + 1) 4 1 (.slice (some ⟨g2, 0, none⟩) n n) n ((boolsP n (ticks true (j + 1) (G.1, G.2 ++ U))).map Value.bool)) := by
              have e : (boolsP n (ticks true (j + 1) (G.1, G.2 ++ U))).map Value.bool = ((boolsP n (ticks true j (G.1, G.2 ++ U))).map Value.bool).set (G.1.length + j) (.bool true) := by
                rw [ticks_more, boolsP_tick (by omega), htl, List.map_set]
              rw [e]; exact r1
            have HR2 : Hid ((wr.setCell ⟨g2, G.1.length + j, none⟩ (.bool true)).ownsRow (w.heap.size + 1) 9 1 (.slice (some ⟨g1, 0, none⟩) (n + 1) (n + 1)) (n + 1) ((strsP n (G.1, G.2 ++ U)).map strV)) := hO1.kept r2 (own_ne hO1 hO2 (by decide))
            have kp : ∀ {x : Nat}, x ≠ g2 → x < wr.heap.size → (wr.setCell ⟨g2, G.1.length + j, none⟩ (.bool true)).heap[x]? = wr.heap[x]? := fun hx hxl => r2.block _ hxl (by intro e; exact hx (Option.some.inj e))
            have lb := World.block_lt_of_cell? wr _ z0
            have lS := World.block_lt_of_cell? wr _ z2
            have lp := World.block_lt_of_cell? wr _ z6
            have HV0 : Hid _ := (World.cell?_of_block (a := ⟨b, 0, none⟩) (kp hn2 lb)).trans z0
            have HV1 : Hid _ := (World.cell?_of_block (a := ⟨b, 1, none⟩) (kp hn2 lb)).trans z1
            have HV2 : Hid _ := (World.cell?_of_block (a := ⟨w.heap.size, 0, none⟩) (kp (x := w.heap.size) (by omega) lS)).trans z2
            have HV3 : Hid _ := (World.cell?_of_block (a := ⟨w.heap.size, 1, none⟩) (kp (x := w.heap.size) (by omega) lS)).trans z3
            have HV4 : Hid _ := (World.frozen?_of_block (a := ⟨w.heap.size, 0, none⟩) (kp (x := w.heap.size) (by omega) lS)).trans z4
            have HV5 : Hid _ := (World.frozen?_of_block (a := ⟨w.heap.size, 1, none⟩) (kp (x := w.heap.size) (by omega) lS)).trans z5
            have HV6 : Hid _ := (World.cell?_of_block (a := ⟨pB, 0, none⟩) (kp (Ne.symm hpb.2.2.2) lp)).trans z6
            have HV7 : Hid _ := (World.cell?_of_block (a := ⟨pB, 1, none⟩) (kp (Ne.symm hpb.2.2.2) lp)).trans z7
            have HV8 : Hid (Below w.heap.size w (wr.setCell ⟨g2, G.1.length + j, none⟩ (.bool true))) := hwr.setCell (p := ⟨g2, G.1.length + j, none⟩) (by show w.heap.size ≤ g2; omega) _
            have hsum : ((G.1.length + j : Nat) : Int) + 1 = ((G.1.length + (j + 1) : Nat) : Int) := by omega
            clear r1 r2 hO1 hO2 kp z2 z3 z4 z5
            go_wp2
            go_roundw
            case rel => exact ⟨j + 1, by omega, by go_num, by first | go_num | (simp; omega), HR2.out, HR1.out, HV0.out, HV1.out, HV2.out, HV3.out, HV4.out, HV5.out, HV8.out, HV6.out, HV7.out⟩
            case measure => simp [intOf]; omega
          · have hje : j = D.toNat := by omega
            subst hje
            have hDj : ¬ ((D.toNat : Nat) : Int) < D := by omega
            have htl : (ticks true D.toNat (G.1, G.2 ++ U)).1.length = G.1.length + D.toNat := ticks_len true D.toNat (G.1, G.2 ++ U)
            obtain ⟨k1, k2⟩ := rowsP_keeps (n := n) K.toNat (ticks true D.toNat (G.1, G.2 ++ U)) (by rw [htl]; omega)
            have HR1 : Hid (wr.ownsRow (w.heap.size + 1) 4 1 (.slice (some ⟨g2, 0, none⟩) n n) n ((boolsP n (spreads (ps.take (k + 1)))).map Value.bool)) := by
              show World.ownsRow _ _ _ _ _ _ _
              rw [HSN.out]
              show World.ownsRow _ _ _ _ _ _ ((boolsP n (ticks false K.toNat (ticks true D.toNat (G.1, G.2 ++ U)))).map Value.bool)
              rw [k2]; exact hO2
            have HR2 : Hid (wr.ownsRow (w.heap.size + 1) 9 1 (.slice (some ⟨g1, 0, none⟩) (n + 1) (n + 1)) (n + 1) ((strsP n (spreads (ps.take (k + 1)))).map strV)) := by
              show World.ownsRow _ _ _ _ _ _ _
              rw [HSN.out]
              show World.ownsRow _ _ _ _ _ _ ((strsP n (ticks false K.toNat (ticks true D.toNat (G.1, G.2 ++ U)))).map strV)
              rw [k1, strsP_drops _ _ (by show G.1.length + D.toNat ≤ n; omega)]; exact hO1
            have HAT : Hid (((spreads (ps.take (k + 1))).1.length : Int) = ((G.1.length + D.toNat : Nat) : Int) + K) := by
              show _ = _
              rw [HSN.out, spreadP_nat]
              show ((G.1.length + D.toNat + K.toNat : Nat) : Int) = _
              omega
            have hwk : IntKind.i64.wrap (((G.1.length + D.toNat : Nat) : Int) + K) = ((G.1.length + D.toNat : Nat) : Int) + K := by rw [IntKind.wrap_i64]; omega
            clear k1 k2 hO1 hO2
            go_wp2
            go_roundw
            case rel => exact ⟨k + 1, by omega, by go_num, by rw [HAT.out]; first | rfl | go_num, HR2.out, HR1.out, z0, z1, z2, z3, z4, z5, hwr⟩
            case measure => simp [intOf]; omega
      · have e : ps.take k = ps := List.take_of_length_le (by rw [← HM.out]; omega)
        rw [e] at hO1 hO2 ⊢
        have hS := World.block_lt_of_cell? wr _ z2
        have HO1 : Hid (wr.ownsRow (w.heap.size + 1) 9 1 (.slice (some ⟨g1, 0, none⟩) (n + 1) (n + 1)) (n + 1) ((strsP n (spreads ps)).map strV)) := hO1
        have HO2 : Hid (wr.ownsRow (w.heap.size + 1) 4 1 (.slice (some ⟨g2, 0, none⟩) n n) n ((boolsP n (spreads ps)).map Value.bool)) := hO2
        clear e hO1 hO2 R3 HS HW
        go_wp2
        refine bodyPost_ret (v := .agg #[.slice (some ⟨g1, 0, none⟩) (n + 1) (n + 1), .slice (some ⟨g2, 0, none⟩) n n]) (by simp [results, Tryz.results152, go_sem, z2, z3]) rfl ?_
        refine ⟨g1, g2, rfl, own_mono (own_setAt (own_setAt HO1.out (by omega) _) (by omega) _) (by omega), own_mono (own_setAt (own_setAt HO2.out (by omega) _) (by omega) _) (by omega), ?_⟩
        exact (hwr.setCell (p := ⟨w.heap.size, 0, none⟩) (Nat.le_refl _) _).setCell (p := ⟨w.heap.size, 1, none⟩) (Nat.le_refl _) _
end Go.Proofs.YtldhbjmillfjgabGreatDoor

namespace Go.Proofs.YtldhbjmillfjgabGreatDoor
open Go.RowKit
set_option linter.unusedVariables false
attribute [local go_sem] Oper.semAt_some

/-- The boxes of steps: where it is, and how much is ahead. -/
structure stp (W : World) (s b : Nat) (u v a h : Int) : Prop where
  r : W.cell? ⟨s, 0, none⟩ = some (.pointer (some ⟨b, 0, none⟩))
  u : W.cell? ⟨s + 1, 0, none⟩ = some (.int .i64 u)
  v : W.cell? ⟨s + 2, 0, none⟩ = some (.int .i64 v)
  a : W.cell? ⟨s + 3, 0, none⟩ = some (.int .i64 a)
  af : W.frozen? ⟨s + 3, 0, none⟩ = false
  h : W.cell? ⟨s + 4, 0, none⟩ = some (.int .i64 h)
  hf : W.frozen? ⟨s + 4, 0, none⟩ = false
theorem stp.below {W W' : World} {s b : Nat} {u v a h : Int} (k : stp W s b u v a h) (hb : Below W.heap.size W W') : stp W' s b u v a h := by
  have l0 := World.block_lt_of_cell? W _ k.r
  have l1 := World.block_lt_of_cell? W _ k.u
  have l2 := World.block_lt_of_cell? W _ k.v
  have l3 := World.block_lt_of_cell? W _ k.a
  have l4 := World.block_lt_of_cell? W _ k.h
  exact ⟨(hb.cell l0).trans k.r, (hb.cell l1).trans k.u, (hb.cell l2).trans k.v, (hb.cell l3).trans k.a, (hb.frozen l3).trans k.af, (hb.cell l4).trans k.h, (hb.frozen l4).trans k.hf⟩
def stepsV (s : Nat) : Value := .func (.func 164) #[] #[.pointer (some ⟨s + 3, 0, none⟩), .pointer (some ⟨s, 0, none⟩), .pointer (some ⟨s + 1, 0, none⟩), .pointer (some ⟨s + 2, 0, none⟩), .pointer (some ⟨s + 4, 0, none⟩)]

set_option maxHeartbeats 1000000 in
theorem bsteps_any (b : Nat) (u v : Int) (w : World) : Calls Tryz.prog 120 #[.pointer (some ⟨b, 0, none⟩), .int .i64 u, .int .i64 v] w fun e w' => e = .returned (stepsV w.heap.size) ∧ stp w' w.heap.size b u v 0 0 ∧ Below w.heap.size w w' ∧ w'.heap.size = w.heap.size + 5 := by
  unfold stepsV
  go_enter Tryz.func120, Tryz.ntmps120
  go_wp2
  go_ret
  refine ⟨rfl, ⟨?_, ?_, ?_, ?_, ?_, ?_, ?_⟩, ?_, ?_⟩
  all_goals first
    | simp [go_sem]
    | exact (((((Below.refl w.heap.size w).alloc (Nat.le_refl _) _).alloc (by simp) _).alloc (by simp; omega) _).alloc (by simp; omega) _).alloc (by simp; omega) _

set_option maxRecDepth 100000 in
set_option maxHeartbeats 2000000 in
theorem steps1_any (s b : Nat) (rs X : List Nat) (u v a h n : Int) (W : World) (k : stp W s b u v a h) (hu : u = 1 ∨ u = 2 ∨ u = 3) (hv : v = 1 ∨ v = 2 ∨ v = 3) (h0 : 0 ≤ a + n) (h1 : a + n ≤ by_ u rs) (hX : find (reachesBy u (a + n)) [] rs = X) (hfine : by_ u X = a + n)
    (hT : Lib.Utf8Tabs 2 3 W) (hR : isRope W b rs) (hbs : b < s) (hz : C1 rs ≤ 100000000) (hh : 0 ≤ h) (hhx : h ≤ by_ v X) (hvx : by_ v X ≤ 100000000) (hbig : by_ u rs ≤ 100000000)
    (hK : ∀ W', Below s W W' → Lib.Utf8Tabs 2 3 W' ∧ isRope W' b rs) :
    Calls Tryz.prog 164 #[.int .i64 n, .pointer (some ⟨s + 3, 0, none⟩), .pointer (some ⟨s, 0, none⟩), .pointer (some ⟨s + 1, 0, none⟩), .pointer (some ⟨s + 2, 0, none⟩), .pointer (some ⟨s + 4, 0, none⟩)] W fun e w' =>
      e = .returned (.tuple #[.int .i64 (by_ v X - h), .nilIface]) ∧ stp w' s b u v (a + n) (by_ v X) ∧ Below s W w' ∧ W.heap.size ≤ w'.heap.size ∧ (∀ B e size m v' xs, s + 5 ≤ B → B ≤ W.heap.size → W.ownsRow B e size v' m xs → w'.ownsRow B e size v' m xs) ∧ ∀ k, k ≠ s + 3 → k ≠ s + 4 → k < W.heap.size → w'.heap[k]? = W.heap[k]? := by
  have l3 := World.block_lt_of_cell? W _ k.a
  have l4 := World.block_lt_of_cell? W _ k.h
  obtain ⟨k1, k2, k3, k4, k5, k6, k7⟩ := k
  have hw1 : IntKind.i64.wrap (a + n) = a + n := by rw [IntKind.wrap_i64]; omega
  have hw2 : IntKind.i64.wrap (by_ v X - h) = by_ v X - h := by rw [IntKind.wrap_i64]; omega
  have hb1 : Below s W (W.setCell ⟨s + 3, 0, none⟩ (.int .i64 (a + n))) := (Below.refl s W).setCell (p := ⟨s + 3, 0, none⟩) (Nat.le_add_right _ _) _
  obtain ⟨hT1, hR1⟩ := hK _ hb1
  have cC : Hid _ := convert_any b rs u v (a + n) hu hv h0 h1 (W.setCell ⟨s + 3, 0, none⟩ (.int .i64 (a + n))) hT1 hR1 hz X hX hfine
  have KS : Hid (stp (W.setCell ⟨s + 3, 0, none⟩ (.int .i64 (a + n))) s b u v (a + n) h) := by
    refine ⟨?_, ?_, ?_, ?_, ?_, ?_, ?_⟩ <;> simp [go_sem, k1, k2, k3, k4, k5, k6, k7]
  have HB1 : Hid (Below s W (W.setCell ⟨s + 3, 0, none⟩ (.int .i64 (a + n)))) := hb1
  generalize by_ v X = x at *
  clear hX hfine hu hv h0 h1 hT hR hz hK hT1 hR1 hb1 hbig
  go_enter Tryz.func164, Tryz.ntmps164
  go_wp2_with (first
    | (go_at_call 119; refine Calls.mono cC.out ?_; rintro e w2 ⟨rfl, hb2⟩; have KS2 : Hid (stp w2 s b u v (a + n) h) := KS.out.below hb2; have HB2 : Hid (Below s W w2) := HB1.out.trans (hb2.mono (by simp; omega)); have HS2 := hb2.size; have HW2 : Hid _ := hb2; obtain ⟨m1, m2, m3, m4, m5, m6, m7⟩ := KS.out.below hb2; clear hb2)
    | fail)
  go_ret2
  have hz2 : W.heap.size ≤ w2.heap.size := by simpa using HS2
  refine ⟨rfl, ?_, HB2.out.setCell (p := ⟨s + 4, 0, none⟩) (Nat.le_add_right _ _) _, by simpa using hz2, ?_, ?_⟩
  · refine ⟨?_, ?_, ?_, ?_, ?_, ?_, ?_⟩ <;> simp [go_sem, m1, m2, m3, m4, m5, m6, m7]
  · intro B e size m v' xs hB hBW ho
    refine own_setAt ?_ (by omega) _
    exact own_below (own_setAt ho (by omega) _) HW2.out
  · intro k hk3 hk4 hk
    have e1 := Below.heap_setCell w2 (⟨s + 4, 0, none⟩ : Addr) (.int .i64 x) k (by show k ≠ s + 4; exact hk4)
    have e2 := HW2.out.block k (by simpa using hk)
    have e3 := Below.heap_setCell W (⟨s + 3, 0, none⟩ : Addr) (.int .i64 (a + n)) k (by show k ≠ s + 3; exact hk3)
    exact e1.trans (e2.trans e3)
end Go.Proofs.YtldhbjmillfjgabGreatDoor

namespace Go.Proofs
open Go.Shelf
def Tryz.lays196_ren : Go.Shelf.Ren := ⟨fun | 196 => 122 | 259 => 166 | n => n, fun | 0 => 0 | 3 => 3 | 4 => 4 | 5 => 5 | 9 => 9 | 12 => 12 | 46 => 86 | 53 => 294 | 119 => 263 | 138 => 265 | 139 => 266 | n => n, fun | 3 => 2 | 4 => 3 | n => n⟩
theorem Tryz.lays196 : Go.Proofs.Lays.n196 Tryz.prog Tryz.lays196_ren := {
  mixed := by kernel_rfl
  f196 := Tryz.func122.trans (congrArg some (by kernel_rfl))
  f259 := Tryz.func166.trans (congrArg some (by kernel_rfl))
  t0 := Tryz.underlying0
  a0 := Tryz.isAgg0
  z0 := Tryz.sizeOf0
  v0 := Tryz.zeroValue0
  t3 := Tryz.underlying3
  a3 := Tryz.isAgg3
  z3 := Tryz.sizeOf3
  v3 := Tryz.zeroValue3
  t4 := Tryz.underlying4
  a4 := Tryz.isAgg4
  z4 := Tryz.sizeOf4
  v4 := Tryz.zeroValue4
  t5 := Tryz.underlying5
  a5 := Tryz.isAgg5
  z5 := Tryz.sizeOf5
  v5 := Tryz.zeroValue5
  t9 := Tryz.underlying9
  a9 := Tryz.isAgg9
  z9 := Tryz.sizeOf9
  v9 := Tryz.zeroValue9
  t12 := Tryz.underlying12
  a12 := Tryz.isAgg12
  z12 := Tryz.sizeOf12
  v12 := Tryz.zeroValue12
  t46 := Tryz.underlying86
  a46 := Tryz.isAgg86
  z46 := Tryz.sizeOf86
  v46 := Tryz.zeroValue86
  t53 := Tryz.underlying294
  a53 := Tryz.isAgg294
  z53 := Tryz.sizeOf294
  v53 := Tryz.zeroValue294
  t119 := Tryz.underlying263
  a119 := Tryz.isAgg263
  z119 := Tryz.sizeOf263
  t138 := Tryz.underlying265
  a138 := Tryz.isAgg265
  z138 := Tryz.sizeOf265
  v138 := Tryz.zeroValue265
  t139 := Tryz.underlying266
  a139 := Tryz.isAgg266
  z139 := Tryz.sizeOf266
  v139 := Tryz.zeroValue266
  g3 := by kernel_rfl
  g4 := by kernel_rfl }
end Go.Proofs
namespace Go.Proofs.YtldhbjmillfjgabGreatDoor
open Go.RowKit

/-- The library's own word for a sound text is ours. -/
theorem valid_scan (n : Nat) : ∀ (l : List UInt8), l.length ≤ n → Lib.validGoD n l = (scan l).2 := by
  induction n with
  | zero =>
    intro l hl
    have : l = [] := List.eq_nil_of_length_eq_zero (by omega)
    subst this
    rfl
  | succ n ih =>
    intro l hl
    unfold Lib.validGoD
    by_cases hne : l = []
    · subst hne; rfl
    · rw [if_neg hne]
      have hd : Lib.decodeL l = dec l := by
        have := decode_dec ⟨l.toArray⟩ 0
        rw [List.drop_zero] at this
        rw [← this]
        unfold Lib.decodeL
        congr 1
        apply ByteArray.ext
        simp
      rw [hd]
      by_cases hb : badB (dec l) = true
      · rw [scan_bad hne hb, if_pos (badB_true hb)]
      · have hb' : badB (dec l) = false := Bool.eq_false_iff.2 hb
        rw [scan_good hne hb', if_neg (by intro h; exact hb (by unfold badB; simp [h])), ih]
        have h1 := dec_ge1 l
        rw [List.length_drop]
        omega

theorem ValidString_any (s : ByteArray) (w : World) (hs : s.size ≤ 9223372036854775807) (hT : Lib.Utf8Tabs 2 3 w) :
    Calls Tryz.prog 122 #[.string s] w fun e w' => e = .returned (.bool (scan s.data.toList).2) ∧ Below w.heap.size w w' := by
  have := Any.utf8_ValidString Tryz.lays196 s w hs hT
  rwa [show Lib.validD s.data.toList = (scan s.data.toList).2 from valid_scan _ _ (Nat.le_refl _)] at this
end Go.Proofs.YtldhbjmillfjgabGreatDoor
