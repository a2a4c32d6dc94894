/-
  ops.gather's add and done, and ops.isKeep, isDrop, isPut, walked.
-/
import Derived.Test.YtldhbjmillfjgabGreatDoorOpsGather
import Derived.Laws.EntriesVeiled
namespace Go.Proofs.YtldhbjmillfjgabGreatDoor
open Go.RowKit
set_option linter.unusedVariables false

def partV (p : Pt) : Value := .agg #[.int .i64 p.keep, .int .i64 p.drop, .string ⟨p.put.toArray⟩]

theorem isKeep_any (p : Pt) (w : World) : Calls Tryz.prog 83 #[partV p] w fun e w' => e = .returned (.bool (decide (0 < p.keep))) ∧ Below w.heap.size w w' := by
  unfold partV
  go_enter Tryz.func83, Tryz.ntmps83
  go_wp2
  go_ret
  exact ⟨rfl, (Below.refl _ _).alloc (Nat.le_refl _) _⟩
theorem isDrop_any (p : Pt) (w : World) : Calls Tryz.prog 165 #[partV p] w fun e w' => e = .returned (.bool (decide (0 < p.drop))) ∧ Below w.heap.size w w' := by
  unfold partV
  go_enter Tryz.func165, Tryz.ntmps165
  go_wp2
  go_ret
  exact ⟨rfl, (Below.refl _ _).alloc (Nat.le_refl _) _⟩

set_option maxRecDepth 100000 in
set_option maxHeartbeats 2000000 in
theorem add_zero {M : Nat} (a : Nat) (s : NSt) (p : Pt) (w : World) (h : gath M w a s) (hput : s.put.length + p.put.length < 1000000000) (hd : -9223372036854775808 ≤ s.drop + p.drop) (hd' : s.drop + p.drop < 9223372036854775808) (hout : s.out.length < 100000000)
     :
    Calls Tryz.prog 198 #[(.agg #[.int .i64 0, .int .i64 p.drop, .string ⟨p.put.toArray⟩]), .pointer (some ⟨a + 1, 0, none⟩), .pointer (some ⟨a + 2, 0, none⟩), .pointer (some ⟨a + 3, 0, none⟩), .pointer (some ⟨a, 0, none⟩)] w fun e w' => (∃ v, e = .returned v) ∧ gath M w' a ⟨s.out, s.put ++ p.put, s.drop + p.drop⟩ ∧ BelowG M a w w' := by
  have hM := h.le
  have hT := h.top
  obtain ⟨i0, hi, hz0, hz1, hz2⟩ := info_parts info_part
  obtain ⟨i1, hj, hy0, hy1, hy2⟩ := info_parts info_u8
  have hlt := gath_lt h
  have hb0' : Below w.heap.size w (w.alloc (.cells #[.int .i64 0, .int .i64 p.drop, .string ⟨p.put.toArray⟩] 50)) := (Below.refl _ _).alloc (Nat.le_refl _) _
  have HG0 : Hid (gath M (w.alloc (.cells #[.int .i64 0, .int .i64 p.drop, .string ⟨p.put.toArray⟩] 50)) a s) := gath_below h hb0'
  have HB0 : Hid (BelowG M a w (w.alloc (.cells #[.int .i64 0, .int .i64 p.drop, .string ⟨p.put.toArray⟩] 50))) := .of hb0' (by omega)
  have x0 : (w.alloc (.cells #[.int .i64 0, .int .i64 p.drop, .string ⟨p.put.toArray⟩] 50)).cell? ⟨w.heap.size, 0, none⟩ = some (.int .i64 0) := by simp [go_sem]
  have x1 : (w.alloc (.cells #[.int .i64 0, .int .i64 p.drop, .string ⟨p.put.toArray⟩] 50)).cell? ⟨w.heap.size, 1, none⟩ = some (.int .i64 p.drop) := by simp [go_sem]
  obtain ⟨⟨pp, c, h1, h2⟩, h3, ⟨p', c', h4, h5⟩, h6, h7, h8, h9⟩ := h
  have HL1 : Hid (∀ k, (Value.slice pp s.out.length c).ownBlock = some k → k < w.heap.size) := fun k hk' => (h2.lt k hk').2
  have HL2 : Hid (∀ k, (Value.slice p' s.put.length c').ownBlock = some k → k < w.heap.size) := fun k hk' => (h5.lt k hk').2
  have hP : (w.alloc (.cells #[.int .i64 0, .int .i64 p.drop, .string ⟨p.put.toArray⟩] 50)).ownsRow M 5 1 (.slice p' s.put.length c') s.put.length (Lib.byteCells s.put) := h5.alloc _
  have hC : (w.alloc (.cells #[.int .i64 0, .int .i64 p.drop, .string ⟨p.put.toArray⟩] 50)).cell? ⟨a + 1, 0, none⟩ = some (.slice p' s.put.length c') := (hb0'.cell (p := ⟨a + 1, 0, none⟩) (by show a + 1 < _; omega)).trans h4
  have hC0 : (w.alloc (.cells #[.int .i64 0, .int .i64 p.drop, .string ⟨p.put.toArray⟩] 50)).cell? ⟨a, 0, none⟩ = some (.slice pp s.out.length c) := (hb0'.cell (p := ⟨a, 0, none⟩) (by show a < _; omega)).trans h1
  have hD2 : (w.alloc (.cells #[.int .i64 0, .int .i64 p.drop, .string ⟨p.put.toArray⟩] 50)).cell? ⟨a + 2, 0, none⟩ = some (.int .i64 s.drop) := (hb0'.cell (p := ⟨a + 2, 0, none⟩) (by show a + 2 < _; omega)).trans h7
  have hF2 : (w.alloc (.cells #[.int .i64 0, .int .i64 p.drop, .string ⟨p.put.toArray⟩] 50)).frozen? ⟨a + 2, 0, none⟩ = false := (hb0'.frozen (p := ⟨a + 2, 0, none⟩) (by show a + 2 < _; omega)).trans h8
  have hD3 : (w.alloc (.cells #[.int .i64 0, .int .i64 p.drop, .string ⟨p.put.toArray⟩] 50)).cell? ⟨a + 3, 0, none⟩ = some (.func (.func 197) #[] #[.pointer (some ⟨a + 1, 0, none⟩), .pointer (some ⟨a, 0, none⟩), .pointer (some ⟨a + 2, 0, none⟩)]) := (hb0'.cell (p := ⟨a + 3, 0, none⟩) (by show a + 3 < _; omega)).trans h9
  have HP : Hid ((w.alloc (.cells #[.int .i64 0, .int .i64 p.drop, .string ⟨p.put.toArray⟩] 50)).ownsRow M 5 1 (.slice p' s.put.length c') s.put.length (Lib.byteCells s.put)) := hP
  have HX : Hid (∀ w1 v1, w1.ownsRow M 5 1 v1 (s.put.length + (ByteArray.mk p.put.toArray).size) (Lib.byteCells s.put ++ Lib.strCells ⟨p.put.toArray⟩) → (w.alloc (.cells #[.int .i64 0, .int .i64 p.drop, .string ⟨p.put.toArray⟩] 50)).grownBy w1 (Value.slice p' s.put.length c').ownBlock →
      gath M ((w1.setCell ⟨a + 1, 0, none⟩ v1).setCell ⟨a + 2, 0, none⟩ (.int .i64 (s.drop + p.drop))) a ⟨s.out, s.put ++ p.put, s.drop + p.drop⟩ ∧ BelowG M a w ((w1.setCell ⟨a + 1, 0, none⟩ v1).setCell ⟨a + 2, 0, none⟩ (.int .i64 (s.drop + p.drop))) ∧
      spare ((w1.setCell ⟨a + 1, 0, none⟩ v1).setCell ⟨a + 2, 0, none⟩ (.int .i64 (s.drop + p.drop))) a w.heap.size ∧
      w1.cell? ⟨a + 1, 0, none⟩ = some (.slice p' s.put.length c') ∧ w1.frozen? ⟨a + 1, 0, none⟩ = false ∧ w1.cell? ⟨a + 2, 0, none⟩ = some (.int .i64 s.drop) ∧ w1.frozen? ⟨a + 2, 0, none⟩ = false ∧
      w1.cell? ⟨a + 3, 0, none⟩ = some (.func (.func 197) #[] #[.pointer (some ⟨a + 1, 0, none⟩), .pointer (some ⟨a, 0, none⟩), .pointer (some ⟨a + 2, 0, none⟩)]) ∧
      (∀ o, w1.cell? ⟨w.heap.size, o, none⟩ = (w.alloc (.cells #[.int .i64 0, .int .i64 p.drop, .string ⟨p.put.toArray⟩] 50)).cell? ⟨w.heap.size, o, none⟩) ∧ w.heap.size < w1.heap.size) := by
    intro w1 v1 q1 q2
    have hz : (ByteArray.mk p.put.toArray).size = p.put.length := by simp [ByteArray.size]
    rw [hz] at q1
    obtain ⟨g1, g2, g3, g4⟩ := gath_puts (q := p.put) HG0.out hC q1 q2
    obtain ⟨g5, g6⟩ := gath_drop g1 (s.drop + p.drop)
    have hlow : ∀ k, (Value.slice p' s.put.length c').ownBlock = some k → a + 4 ≤ k := fun k hk => Nat.le_trans hM (hP.lt k hk).1
    have hbb : Below (a + 4) (w.alloc (.cells #[.int .i64 0, .int .i64 p.drop, .string ⟨p.put.toArray⟩] 50)) w1 := (Below.refl _ _).grown q2 (by rw [World.size_alloc]; omega) hlow
    have hsz := q2.size
    rw [World.size_alloc] at hsz
    refine ⟨g5, HB0.out.trans (g2.trans g6), ⟨by simp; omega, hlt, ?_⟩, g3, g4, (hbb.cell (p := ⟨a + 2, 0, none⟩) (by show a + 2 < _; omega)).trans hD2, (hbb.frozen (p := ⟨a + 2, 0, none⟩) (by show a + 2 < _; omega)).trans hF2, (hbb.cell (p := ⟨a + 3, 0, none⟩) (by show a + 3 < _; omega)).trans hD3, ?_, by omega⟩
    · intro v hv
      rw [cell_set_ne (by omega), cell_set_ne (by omega), (hbb.cell (p := ⟨a, 0, none⟩) (by show a < _; omega)), hC0] at hv
      obtain rfl := Option.some.inj hv
      intro e
      have := HL1.out _ e
      omega
    · intro o
      exact World.cell?_of_block (a := ⟨w.heap.size, o, none⟩) (q2.block w.heap.size (by rw [World.size_alloc]; omega) (by intro e; have := HL2.out _ e.symm; omega))
  clear h2 h5 hP hC hC0 hD2 hF2 hD3 hb0' h1 h3 h6 h7 h8 h9
  have n0 : a + 1 < w.heap.size := by omega
  have HZ : Hid ((ByteArray.mk p.put.toArray).size = p.put.length) := by show _ = _; simp [ByteArray.size]
  have n1 : ¬ (a + 1 = w.heap.size) := by omega
  have n2 : ¬ (w.heap.size = a + 1) := by omega
  have n3 : ¬ (a + 2 = w.heap.size) := by omega
  have n4 : ¬ (w.heap.size = a + 2) := by omega
  have hwrap : IntKind.i64.wrap (s.drop + p.drop) = s.drop + p.drop := by rw [IntKind.wrap_i64]; omega

  go_enter Tryz.func198, Tryz.ntmps198
  go_wp2_with (first | (at_builtin; refine Lib.wpList_append_own_string _ rfl _ _ 130 9 rfl M 5 i1 Tryz.underlying130 Tryz.underlying9 hj hy0 hy1 hy2 _ _ _ rfl HP.out _ rfl (by rw [HZ.out]; unfold maxLen; omega) (by rw [HZ.out]; omega) (by simp; omega) ?_) | fail)
  intro v1 w1 hown1 hg1 _
  have R := HX.out w1 v1 hown1 hg1
  obtain ⟨pv, cv, rfl⟩ := own_slice hown1
  obtain ⟨G2, B2, S2, r1, r2, r3, r4, r5, r6, r7⟩ := R
  have y0 := (r6 0).trans x0
  have y1 := (r6 1).trans x1
  have HG2 : Hid _ := G2
  have HB2 : Hid _ := B2
  have HS2 : Hid _ := S2
  clear hown1 hg1 x0 x1 r6 G2 B2 S2 HX HL1 HL2 HP HG0 HB0 h4
  go_wp2
  refine bodyPost_ret (results_none rfl _ _ _) rfl ?_
  exact ⟨⟨_, rfl⟩, HG2.out, HB2.out⟩

end Go.Proofs.YtldhbjmillfjgabGreatDoor
