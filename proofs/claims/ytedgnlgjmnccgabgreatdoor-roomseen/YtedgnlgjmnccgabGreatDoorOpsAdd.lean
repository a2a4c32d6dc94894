/-
  ops.gather's add and done, and ops.isKeep, isDrop, isPut, walked.
-/
import Derived.Test.YtedgnlgjmnccgabGreatDoorOpsTell
namespace Go.Proofs.YtedgnlgjmnccgabGreatDoor
open Go.RowKit
set_option linter.unusedVariables false

def partV (p : Pt) : Value := .agg #[.int .i64 p.keep, .int .i64 p.drop, .string ⟨p.put.toArray⟩]

theorem isKeep_any (p : Pt) (w : World) : Calls Tryz.prog 107 #[partV p] w fun e w' => e = .returned (.bool (decide (0 < p.keep))) ∧ Below w.heap.size w w' := by
  unfold partV
  go_enter Tryz.func107, Tryz.ntmps107
  go_wp2
  go_ret
  exact ⟨rfl, (Below.refl _ _).alloc (Nat.le_refl _) _⟩
theorem isDrop_any (p : Pt) (w : World) : Calls Tryz.prog 211 #[partV p] w fun e w' => e = .returned (.bool (decide (0 < p.drop))) ∧ Below w.heap.size w w' := by
  unfold partV
  go_enter Tryz.func211, Tryz.ntmps211
  go_wp2
  go_ret
  exact ⟨rfl, (Below.refl _ _).alloc (Nat.le_refl _) _⟩

theorem done_anyG {M : Nat} (a : Nat) (s : NSt) (w : World) (h : gath M w a s) (hlen : s.out.length < 1000000000) (hput : s.put.length < 1000000000) :
    Calls Tryz.prog 266 #[.pointer (some ⟨a + 3, 0, none⟩), .pointer (some ⟨a, 0, none⟩)] w fun e w' => ∃ v, e = .returned v ∧ w'.ownsRow M 50 3 v (tellP s).length (cellsP (tellP s)) ∧ BelowG M a w w' := by
  have hM := h.le
  have hT := h.top
  have cT := tell_any a s w h hlen hput
  have h9 := h.tell
  clear h
  go_enter Tryz.func266, Tryz.ntmps266
  go_wp2_with (first | (go_at_call 264; refine cT.mono ?_; rintro e w1 ⟨⟨v, rfl⟩, ⟨⟨p, c, h1, h2⟩, _⟩, hb, _⟩) | fail)
  go_ret
  exact ⟨_, rfl, h2, hb⟩

/-- Behind 'op[end].Keep += ..': the last part's first cell is written. -/
theorem gath_more {M : Nat} {w : World} {a g n c : Nat} {init : List Pt} {q : Pt} (h : gath M w a ⟨init ++ [q], [], 0⟩) (hc : w.cell? ⟨a, 0, none⟩ = some (.slice (some ⟨g, 0, none⟩) n c)) (hn : n = (init ++ [q]).length) (k : Int) :
    gath M (w.setCell ⟨g, init.length * 3, none⟩ (.int .i64 k)) a ⟨init ++ [⟨k, q.drop, q.put⟩], [], 0⟩ ∧ BelowG M a w (w.setCell ⟨g, init.length * 3, none⟩ (.int .i64 k)) := by
  have hM := h.le
  have hT := h.top
  subst hn
  obtain ⟨⟨p1, c1, h1, h2⟩, h3, ⟨p', c', h4, h5⟩, h6, h7, h8, h9⟩ := h
  rw [hc] at h1
  simp only [Option.some.injEq, Value.slice.injEq, true_and] at h1
  obtain ⟨rfl, rfl⟩ := h1
  have hlt := h2.lt g rfl
  obtain ⟨r1, r2⟩ := h2.stored (init.length * 3) (.int .i64 k)
  have hx : (cellsP (init ++ [q])).set (init.length * 3) (.int .i64 k) = cellsP (init ++ [⟨k, q.drop, q.put⟩]) := by
    rw [cellsP_snoc, cellsP_snoc, List.set_append_right _ _ (by rw [cellsP_len]; exact Nat.le_refl _), cellsP_len, Nat.sub_self]
    rfl
  rw [hx] at r1
  have hl : (init ++ [(⟨k, q.drop, q.put⟩ : Pt)]).length = (init ++ [q]).length := by simp
  have r3 := h5.kept r2 (own_ne h5 h2 (by decide))
  refine ⟨⟨⟨some ⟨g, 0, none⟩, c, ?_, ?_⟩, ?_, ⟨p', c', ?_, r3⟩, ?_, ?_, ?_, ?_, hM, (by simp; omega)⟩, ⟨(Below.refl a w).setCell (by show a ≤ g; omega) _, (KeptG.refl M a w).grown h2 (.inr rfl) r2⟩⟩
  · show _ = some (Value.slice _ (init ++ [(⟨k, q.drop, q.put⟩ : Pt)]).length c)
    rw [hl]
    exact (World.cell?_of_block (a := ⟨a, 0, none⟩) (r2.block a (by omega) (by intro e; have := Option.some.inj e; omega))).trans hc
  · show World.ownsRow _ _ _ _ (.slice _ (init ++ [(⟨k, q.drop, q.put⟩ : Pt)]).length c) (init ++ [(⟨k, q.drop, q.put⟩ : Pt)]).length _
    rw [hl]
    exact r1
  · rw [World.frozen?_setCell]; exact h3
  · exact (World.cell?_of_block (a := ⟨a + 1, 0, none⟩) (r2.block (a + 1) (by omega) (by intro e; have := Option.some.inj e; omega))).trans h4
  · rw [World.frozen?_setCell]; exact h6
  · exact (World.cell?_of_block (a := ⟨a + 2, 0, none⟩) (r2.block (a + 2) (by omega) (by intro e; have := Option.some.inj e; omega))).trans h7
  · rw [World.frozen?_setCell]; exact h8
  · exact (World.cell?_of_block (a := ⟨a + 3, 0, none⟩) (r2.block (a + 3) (by omega) (by intro e; have := Option.some.inj e; omega))).trans h9

/-- The last part's cells, in its row. -/
theorem last_cells {w : World} {B g n c : Nat} {init : List Pt} {q : Pt} (h : w.ownsRow B 50 3 (.slice (some ⟨g, 0, none⟩) n c) n (cellsP (init ++ [q]))) (hn : n = (init ++ [q]).length) :
    w.cell? ⟨g, init.length * 3, none⟩ = some (.int .i64 q.keep) ∧ w.cell? ⟨g, init.length * 3 + 1, none⟩ = some (.int .i64 q.drop) ∧ w.cell? ⟨g, init.length * 3 + 2, none⟩ = some (.string ⟨q.put.toArray⟩) ∧ w.frozen? ⟨g, init.length * 3, none⟩ = false := by
  subst hn
  have hn : (init ++ [q]).length = init.length + 1 := by simp
  have e : ∀ j, j < 3 → (cellsP (init ++ [q]))[init.length * 3 + j]? = (partCells q)[j]? := by
    intro j hj
    rw [cellsP_snoc, List.getElem?_append_right (by rw [cellsP_len]; omega), cellsP_len]
    congr 1
    omega
  refine ⟨?_, ?_, ?_, h.frozenAt _⟩
  · rw [h.cellAt _ (by rw [hn]; omega)]; exact e 0 (by omega)
  · rw [h.cellAt _ (by rw [hn]; omega)]; exact e 1 (by omega)
  · rw [h.cellAt _ (by rw [hn]; omega)]; exact e 2 (by omega)

set_option maxRecDepth 100000 in
set_option maxHeartbeats 2000000 in
theorem add_zero {M : Nat} (a : Nat) (s : NSt) (p : Pt) (w : World) (h : gath M w a s) (hput : s.put.length + p.put.length < 1000000000) (hd : -9223372036854775808 ≤ s.drop + p.drop) (hd' : s.drop + p.drop < 9223372036854775808) (hout : s.out.length < 100000000)
     :
    Calls Tryz.prog 265 #[(.agg #[.int .i64 0, .int .i64 p.drop, .string ⟨p.put.toArray⟩]), .pointer (some ⟨a + 1, 0, none⟩), .pointer (some ⟨a + 2, 0, none⟩), .pointer (some ⟨a + 3, 0, none⟩), .pointer (some ⟨a, 0, none⟩)] w fun e w' => (∃ v, e = .returned v) ∧ gath M w' a ⟨s.out, s.put ++ p.put, s.drop + p.drop⟩ ∧ BelowG M a w w' := by
  have hM := h.le
  have hT := h.top
  obtain ⟨i0, hi, hz0, hz1, hz2⟩ := info_parts info_part
  obtain ⟨i1, hj, hy0, hy1, hy2⟩ := info_parts info_u8
  have hlt := gath_lt h
  have hb0' : Below w.heap.size w (w.alloc (.cells #[.int .i64 0, .int .i64 p.drop, .string ⟨p.put.toArray⟩] 50)) := (Below.refl _ _).alloc (Nat.le_refl _) _
  have HG0 : Hid (gath M (w.alloc (.cells #[.int .i64 0, .int .i64 p.drop, .string ⟨p.put.toArray⟩] 50)) a s) := gath_below h hb0'
  have HB0 : Hid (BelowG M a w (w.alloc (.cells #[.int .i64 0, .int .i64 p.drop, .string ⟨p.put.toArray⟩] 50))) := .of hb0' (by omega)
  have x0 : (w.alloc (.cells #[.int .i64 0, .int .i64 p.drop, .string ⟨p.put.toArray⟩] 50)).cell? ⟨w.heap.size, 0, none⟩ = some (.int .i64 0) := by simp [go_sem]
  have x1 : (w.alloc (.cells #[.int .i64 0, .int .i64 p.drop, .string ⟨p.put.toArray⟩] 50)).cell? ⟨w.heap.size, 1, none⟩ = some (.int .i64 p.drop) := by simp [go_sem]
  obtain ⟨⟨pp, c, h1, h2⟩, h3, ⟨p', c', h4, h5⟩, h6, h7, h8, h9⟩ := h
  have HL1 : Hid (∀ k, (Value.slice pp s.out.length c).ownBlock = some k → k < w.heap.size) := fun k hk' => (h2.lt k hk').2
  have HL2 : Hid (∀ k, (Value.slice p' s.put.length c').ownBlock = some k → k < w.heap.size) := fun k hk' => (h5.lt k hk').2
  have hP : (w.alloc (.cells #[.int .i64 0, .int .i64 p.drop, .string ⟨p.put.toArray⟩] 50)).ownsRow M 5 1 (.slice p' s.put.length c') s.put.length (Lib.byteCells s.put) := h5.alloc _
  have hC : (w.alloc (.cells #[.int .i64 0, .int .i64 p.drop, .string ⟨p.put.toArray⟩] 50)).cell? ⟨a + 1, 0, none⟩ = some (.slice p' s.put.length c') := (hb0'.cell (p := ⟨a + 1, 0, none⟩) (by show a + 1 < _; omega)).trans h4
  have hC0 : (w.alloc (.cells #[.int .i64 0, .int .i64 p.drop, .string ⟨p.put.toArray⟩] 50)).cell? ⟨a, 0, none⟩ = some (.slice pp s.out.length c) := (hb0'.cell (p := ⟨a, 0, none⟩) (by show a < _; omega)).trans h1
  have hD2 : (w.alloc (.cells #[.int .i64 0, .int .i64 p.drop, .string ⟨p.put.toArray⟩] 50)).cell? ⟨a + 2, 0, none⟩ = some (.int .i64 s.drop) := (hb0'.cell (p := ⟨a + 2, 0, none⟩) (by show a + 2 < _; omega)).trans h7
  have hF2 : (w.alloc (.cells #[.int .i64 0, .int .i64 p.drop, .string ⟨p.put.toArray⟩] 50)).frozen? ⟨a + 2, 0, none⟩ = false := (hb0'.frozen (p := ⟨a + 2, 0, none⟩) (by show a + 2 < _; omega)).trans h8
  have hD3 : (w.alloc (.cells #[.int .i64 0, .int .i64 p.drop, .string ⟨p.put.toArray⟩] 50)).cell? ⟨a + 3, 0, none⟩ = some (.func (.func 264) #[] #[.pointer (some ⟨a + 1, 0, none⟩), .pointer (some ⟨a, 0, none⟩), .pointer (some ⟨a + 2, 0, none⟩)]) := (hb0'.cell (p := ⟨a + 3, 0, none⟩) (by show a + 3 < _; omega)).trans h9
  have HP : Hid ((w.alloc (.cells #[.int .i64 0, .int .i64 p.drop, .string ⟨p.put.toArray⟩] 50)).ownsRow M 5 1 (.slice p' s.put.length c') s.put.length (Lib.byteCells s.put)) := hP
  have HX : Hid (∀ w1 v1, w1.ownsRow M 5 1 v1 (s.put.length + (ByteArray.mk p.put.toArray).size) (Lib.byteCells s.put ++ Lib.strCells ⟨p.put.toArray⟩) → (w.alloc (.cells #[.int .i64 0, .int .i64 p.drop, .string ⟨p.put.toArray⟩] 50)).grownBy w1 (Value.slice p' s.put.length c').ownBlock →
      gath M ((w1.setCell ⟨a + 1, 0, none⟩ v1).setCell ⟨a + 2, 0, none⟩ (.int .i64 (s.drop + p.drop))) a ⟨s.out, s.put ++ p.put, s.drop + p.drop⟩ ∧ BelowG M a w ((w1.setCell ⟨a + 1, 0, none⟩ v1).setCell ⟨a + 2, 0, none⟩ (.int .i64 (s.drop + p.drop))) ∧
      spare ((w1.setCell ⟨a + 1, 0, none⟩ v1).setCell ⟨a + 2, 0, none⟩ (.int .i64 (s.drop + p.drop))) a w.heap.size ∧
      w1.cell? ⟨a + 1, 0, none⟩ = some (.slice p' s.put.length c') ∧ w1.frozen? ⟨a + 1, 0, none⟩ = false ∧ w1.cell? ⟨a + 2, 0, none⟩ = some (.int .i64 s.drop) ∧ w1.frozen? ⟨a + 2, 0, none⟩ = false ∧
      w1.cell? ⟨a + 3, 0, none⟩ = some (.func (.func 264) #[] #[.pointer (some ⟨a + 1, 0, none⟩), .pointer (some ⟨a, 0, none⟩), .pointer (some ⟨a + 2, 0, none⟩)]) ∧
      (∀ o, w1.cell? ⟨w.heap.size, o, none⟩ = (w.alloc (.cells #[.int .i64 0, .int .i64 p.drop, .string ⟨p.put.toArray⟩] 50)).cell? ⟨w.heap.size, o, none⟩) ∧ w.heap.size < w1.heap.size) := by
    intro w1 v1 q1 q2
    have hz : (ByteArray.mk p.put.toArray).size = p.put.length := by simp [ByteArray.size]
    rw [hz] at q1
    obtain ⟨g1, g2, g3, g4⟩ := gath_puts (q := p.put) HG0.out hC q1 q2
    obtain ⟨g5, g6⟩ := gath_drop g1 (s.drop + p.drop)
    have hlow : ∀ k, (Value.slice p' s.put.length c').ownBlock = some k → a + 4 ≤ k := fun k hk => Nat.le_trans hM (hP.lt k hk).1
    have hbb : Below (a + 4) (w.alloc (.cells #[.int .i64 0, .int .i64 p.drop, .string ⟨p.put.toArray⟩] 50)) w1 := (Below.refl _ _).grown q2 (by rw [World.size_alloc]; omega) hlow
    have hsz := q2.size
    rw [World.size_alloc] at hsz
    refine ⟨g5, HB0.out.trans (g2.trans g6), ⟨by simp; omega, hlt, ?_⟩, g3, g4, (hbb.cell (p := ⟨a + 2, 0, none⟩) (by show a + 2 < _; omega)).trans hD2, (hbb.frozen (p := ⟨a + 2, 0, none⟩) (by show a + 2 < _; omega)).trans hF2, (hbb.cell (p := ⟨a + 3, 0, none⟩) (by show a + 3 < _; omega)).trans hD3, ?_, by omega⟩
    · intro v hv
      rw [cell_set_ne (by omega), cell_set_ne (by omega), (hbb.cell (p := ⟨a, 0, none⟩) (by show a < _; omega)), hC0] at hv
      obtain rfl := Option.some.inj hv
      intro e
      have := HL1.out _ e
      omega
    · intro o
      exact World.cell?_of_block (a := ⟨w.heap.size, o, none⟩) (q2.block w.heap.size (by rw [World.size_alloc]; omega) (by intro e; have := HL2.out _ e.symm; omega))
  clear h2 h5 hP hC hC0 hD2 hF2 hD3 hb0' h1 h3 h6 h7 h8 h9
  have n0 : a + 1 < w.heap.size := by omega
  have HZ : Hid ((ByteArray.mk p.put.toArray).size = p.put.length) := by show _ = _; simp [ByteArray.size]
  have n1 : ¬ (a + 1 = w.heap.size) := by omega
  have n2 : ¬ (w.heap.size = a + 1) := by omega
  have n3 : ¬ (a + 2 = w.heap.size) := by omega
  have n4 : ¬ (w.heap.size = a + 2) := by omega
  have hwrap : IntKind.i64.wrap (s.drop + p.drop) = s.drop + p.drop := by rw [IntKind.wrap_i64]; omega

  go_enter Tryz.func265, Tryz.ntmps265
  go_wp2_with (first | (at_builtin; refine Lib.wpList_append_own_string _ rfl _ _ 158 9 rfl M 5 i1 Tryz.underlying158 Tryz.underlying9 hj hy0 hy1 hy2 _ _ _ rfl HP.out _ rfl (by rw [HZ.out]; unfold maxLen; omega) (by rw [HZ.out]; omega) (by simp; omega) ?_) | fail)
  intro v1 w1 hown1 hg1 _
  have R := HX.out w1 v1 hown1 hg1
  obtain ⟨pv, cv, rfl⟩ := own_slice hown1
  obtain ⟨G2, B2, S2, r1, r2, r3, r4, r5, r6, r7⟩ := R
  have y0 := (r6 0).trans x0
  have y1 := (r6 1).trans x1
  have HG2 : Hid _ := G2
  have HB2 : Hid _ := B2
  have HS2 : Hid _ := S2
  clear hown1 hg1 x0 x1 r6 G2 B2 S2 HX HL1 HL2 HP HG0 HB0 h4
  go_wp2
  refine bodyPost_ret (results_none rfl _ _ _) rfl ?_
  exact ⟨⟨_, rfl⟩, HG2.out, HB2.out⟩

set_option maxRecDepth 100000 in
set_option maxHeartbeats 2000000 in
theorem add_only {M : Nat} (a : Nat) (s : NSt) (p : Pt) (w : World) (h : gath M w a s) (hput : s.put.length + p.put.length < 1000000000) (hd : -9223372036854775808 ≤ s.drop + p.drop) (hd' : s.drop + p.drop < 9223372036854775808) (hout : s.out.length < 100000000)
    (hk : p.keep ≠ 0) (L : List Pt) (hL : tellP ⟨s.out, s.put ++ p.put, s.drop + p.drop⟩ = L) (hLq : L = []) :
    Calls Tryz.prog 265 #[(partV p), .pointer (some ⟨a + 1, 0, none⟩), .pointer (some ⟨a + 2, 0, none⟩), .pointer (some ⟨a + 3, 0, none⟩), .pointer (some ⟨a, 0, none⟩)] w fun e w' => (∃ v, e = .returned v) ∧ gath M w' a ⟨L ++ [⟨p.keep, 0, []⟩], [], 0⟩ ∧ BelowG M a w w' := by
  have hM := h.le
  have hT := h.top
  obtain ⟨i0, hi, hz0, hz1, hz2⟩ := info_parts info_part
  obtain ⟨i1, hj, hy0, hy1, hy2⟩ := info_parts info_u8
  have hlt := gath_lt h
  have hb0' : Below w.heap.size w (w.alloc (.cells #[.int .i64 p.keep, .int .i64 p.drop, .string ⟨p.put.toArray⟩] 50)) := (Below.refl _ _).alloc (Nat.le_refl _) _
  have HG0 : Hid (gath M (w.alloc (.cells #[.int .i64 p.keep, .int .i64 p.drop, .string ⟨p.put.toArray⟩] 50)) a s) := gath_below h hb0'
  have HB0 : Hid (BelowG M a w (w.alloc (.cells #[.int .i64 p.keep, .int .i64 p.drop, .string ⟨p.put.toArray⟩] 50))) := .of hb0' (by omega)
  have x0 : (w.alloc (.cells #[.int .i64 p.keep, .int .i64 p.drop, .string ⟨p.put.toArray⟩] 50)).cell? ⟨w.heap.size, 0, none⟩ = some (.int .i64 p.keep) := by simp [go_sem]
  have x1 : (w.alloc (.cells #[.int .i64 p.keep, .int .i64 p.drop, .string ⟨p.put.toArray⟩] 50)).cell? ⟨w.heap.size, 1, none⟩ = some (.int .i64 p.drop) := by simp [go_sem]
  obtain ⟨⟨pp, c, h1, h2⟩, h3, ⟨p', c', h4, h5⟩, h6, h7, h8, h9⟩ := h
  have HL1 : Hid (∀ k, (Value.slice pp s.out.length c).ownBlock = some k → k < w.heap.size) := fun k hk' => (h2.lt k hk').2
  have HL2 : Hid (∀ k, (Value.slice p' s.put.length c').ownBlock = some k → k < w.heap.size) := fun k hk' => (h5.lt k hk').2
  have hP : (w.alloc (.cells #[.int .i64 p.keep, .int .i64 p.drop, .string ⟨p.put.toArray⟩] 50)).ownsRow M 5 1 (.slice p' s.put.length c') s.put.length (Lib.byteCells s.put) := h5.alloc _
  have hC : (w.alloc (.cells #[.int .i64 p.keep, .int .i64 p.drop, .string ⟨p.put.toArray⟩] 50)).cell? ⟨a + 1, 0, none⟩ = some (.slice p' s.put.length c') := (hb0'.cell (p := ⟨a + 1, 0, none⟩) (by show a + 1 < _; omega)).trans h4
  have hC0 : (w.alloc (.cells #[.int .i64 p.keep, .int .i64 p.drop, .string ⟨p.put.toArray⟩] 50)).cell? ⟨a, 0, none⟩ = some (.slice pp s.out.length c) := (hb0'.cell (p := ⟨a, 0, none⟩) (by show a < _; omega)).trans h1
  have hD2 : (w.alloc (.cells #[.int .i64 p.keep, .int .i64 p.drop, .string ⟨p.put.toArray⟩] 50)).cell? ⟨a + 2, 0, none⟩ = some (.int .i64 s.drop) := (hb0'.cell (p := ⟨a + 2, 0, none⟩) (by show a + 2 < _; omega)).trans h7
  have hF2 : (w.alloc (.cells #[.int .i64 p.keep, .int .i64 p.drop, .string ⟨p.put.toArray⟩] 50)).frozen? ⟨a + 2, 0, none⟩ = false := (hb0'.frozen (p := ⟨a + 2, 0, none⟩) (by show a + 2 < _; omega)).trans h8
  have hD3 : (w.alloc (.cells #[.int .i64 p.keep, .int .i64 p.drop, .string ⟨p.put.toArray⟩] 50)).cell? ⟨a + 3, 0, none⟩ = some (.func (.func 264) #[] #[.pointer (some ⟨a + 1, 0, none⟩), .pointer (some ⟨a, 0, none⟩), .pointer (some ⟨a + 2, 0, none⟩)]) := (hb0'.cell (p := ⟨a + 3, 0, none⟩) (by show a + 3 < _; omega)).trans h9
  have HP : Hid ((w.alloc (.cells #[.int .i64 p.keep, .int .i64 p.drop, .string ⟨p.put.toArray⟩] 50)).ownsRow M 5 1 (.slice p' s.put.length c') s.put.length (Lib.byteCells s.put)) := hP
  have HX : Hid (∀ w1 v1, w1.ownsRow M 5 1 v1 (s.put.length + (ByteArray.mk p.put.toArray).size) (Lib.byteCells s.put ++ Lib.strCells ⟨p.put.toArray⟩) → (w.alloc (.cells #[.int .i64 p.keep, .int .i64 p.drop, .string ⟨p.put.toArray⟩] 50)).grownBy w1 (Value.slice p' s.put.length c').ownBlock →
      gath M ((w1.setCell ⟨a + 1, 0, none⟩ v1).setCell ⟨a + 2, 0, none⟩ (.int .i64 (s.drop + p.drop))) a ⟨s.out, s.put ++ p.put, s.drop + p.drop⟩ ∧ BelowG M a w ((w1.setCell ⟨a + 1, 0, none⟩ v1).setCell ⟨a + 2, 0, none⟩ (.int .i64 (s.drop + p.drop))) ∧
      spare ((w1.setCell ⟨a + 1, 0, none⟩ v1).setCell ⟨a + 2, 0, none⟩ (.int .i64 (s.drop + p.drop))) a w.heap.size ∧
      w1.cell? ⟨a + 1, 0, none⟩ = some (.slice p' s.put.length c') ∧ w1.frozen? ⟨a + 1, 0, none⟩ = false ∧ w1.cell? ⟨a + 2, 0, none⟩ = some (.int .i64 s.drop) ∧ w1.frozen? ⟨a + 2, 0, none⟩ = false ∧
      w1.cell? ⟨a + 3, 0, none⟩ = some (.func (.func 264) #[] #[.pointer (some ⟨a + 1, 0, none⟩), .pointer (some ⟨a, 0, none⟩), .pointer (some ⟨a + 2, 0, none⟩)]) ∧
      (∀ o, w1.cell? ⟨w.heap.size, o, none⟩ = (w.alloc (.cells #[.int .i64 p.keep, .int .i64 p.drop, .string ⟨p.put.toArray⟩] 50)).cell? ⟨w.heap.size, o, none⟩) ∧ w.heap.size < w1.heap.size) := by
    intro w1 v1 q1 q2
    have hz : (ByteArray.mk p.put.toArray).size = p.put.length := by simp [ByteArray.size]
    rw [hz] at q1
    obtain ⟨g1, g2, g3, g4⟩ := gath_puts (q := p.put) HG0.out hC q1 q2
    obtain ⟨g5, g6⟩ := gath_drop g1 (s.drop + p.drop)
    have hlow : ∀ k, (Value.slice p' s.put.length c').ownBlock = some k → a + 4 ≤ k := fun k hk => Nat.le_trans hM (hP.lt k hk).1
    have hbb : Below (a + 4) (w.alloc (.cells #[.int .i64 p.keep, .int .i64 p.drop, .string ⟨p.put.toArray⟩] 50)) w1 := (Below.refl _ _).grown q2 (by rw [World.size_alloc]; omega) hlow
    have hsz := q2.size
    rw [World.size_alloc] at hsz
    refine ⟨g5, HB0.out.trans (g2.trans g6), ⟨by simp; omega, hlt, ?_⟩, g3, g4, (hbb.cell (p := ⟨a + 2, 0, none⟩) (by show a + 2 < _; omega)).trans hD2, (hbb.frozen (p := ⟨a + 2, 0, none⟩) (by show a + 2 < _; omega)).trans hF2, (hbb.cell (p := ⟨a + 3, 0, none⟩) (by show a + 3 < _; omega)).trans hD3, ?_, by omega⟩
    · intro v hv
      rw [cell_set_ne (by omega), cell_set_ne (by omega), (hbb.cell (p := ⟨a, 0, none⟩) (by show a < _; omega)), hC0] at hv
      obtain rfl := Option.some.inj hv
      intro e
      have := HL1.out _ e
      omega
    · intro o
      exact World.cell?_of_block (a := ⟨w.heap.size, o, none⟩) (q2.block w.heap.size (by rw [World.size_alloc]; omega) (by intro e; have := HL2.out _ e.symm; omega))
  clear h2 h5 hP hC hC0 hD2 hF2 hD3 hb0' h1 h3 h6 h7 h8 h9
  have n0 : a + 1 < w.heap.size := by omega
  have HZ : Hid ((ByteArray.mk p.put.toArray).size = p.put.length) := by show _ = _; simp [ByteArray.size]
  have n1 : ¬ (a + 1 = w.heap.size) := by omega
  have n2 : ¬ (w.heap.size = a + 1) := by omega
  have n3 : ¬ (a + 2 = w.heap.size) := by omega
  have n4 : ¬ (w.heap.size = a + 2) := by omega
  have hwrap : IntKind.i64.wrap (s.drop + p.drop) = s.drop + p.drop := by rw [IntKind.wrap_i64]; omega
  unfold partV
  go_enter Tryz.func265, Tryz.ntmps265
  go_wp2_with (first | (at_builtin; refine Lib.wpList_append_own_string _ rfl _ _ 158 9 rfl M 5 i1 Tryz.underlying158 Tryz.underlying9 hj hy0 hy1 hy2 _ _ _ rfl HP.out _ rfl (by rw [HZ.out]; unfold maxLen; omega) (by rw [HZ.out]; omega) (by simp; omega) ?_) | fail)
  intro v1 w1 hown1 hg1 _
  have R := HX.out w1 v1 hown1 hg1
  obtain ⟨pv, cv, rfl⟩ := own_slice hown1
  obtain ⟨G2, B2, S2, r1, r2, r3, r4, r5, r6, r7⟩ := R
  have y0 := (r6 0).trans x0
  have y1 := (r6 1).trans x1
  have HG2 : Hid _ := G2
  have HB2 : Hid _ := B2
  have HS2 : Hid _ := S2
  clear hown1 hg1 x0 x1 r6 G2 B2 S2 HX HL1 HL2 HP HG0 HB0 h4
  have hkb : (p.keep == 0) = false := beq_eq_false_iff_ne.2 hk
  go_wp2_with (first | (go_at_call 9999) | fail)
  refine (tell_any a _ _ HG2.out (by show s.out.length < _; omega) (by show (s.put ++ p.put).length < _; rw [List.length_append]; exact hput)).mono ?_
  rintro e w3 ⟨⟨v3, rfl⟩, G3, B3, S3⟩
  have hS3 := S3 _ HS2.out
  have z0 : w3.cell? ⟨w.heap.size, 0, none⟩ = some (.int .i64 p.keep) := (World.cell?_of_block (a := ⟨w.heap.size, 0, none⟩) hS3).trans (by rw [cell_set_ne (by omega), cell_set_ne (by omega)]; exact y0)
  rw [hL] at G3
  have HB3 : Hid (BelowG M a w w3) := HB2.out.trans B3
  have hs3 : w.heap.size ≤ w3.heap.size := HB3.out.size
  clear S3 hS3 B3 HB2 HS2 HG2 y0 y1 r1 r2 r3 r4 r5 r7
  subst hLq
  have HG3 : Hid (gath M w3 a ⟨[], [], 0⟩) := G3
  have hlt3 := gath_lt G3
  obtain ⟨⟨p3, c3, u1, u2⟩, u3, _, _, _, _, _⟩ := G3
  have HU1 : Hid (w3.cell? ⟨a, 0, none⟩ = some (.slice p3 0 c3)) := u1
  have HU2 : Hid (w3.ownsRow M 50 3 (.slice p3 0 c3) 0 (cellsP [])) := u2
  have u1' : w3.cell? ⟨a, 0, none⟩ = some (.slice p3 0 c3) := u1
  clear u1 u2
  go_wp2_with (first | (at_builtin; refine wpList_append_own_at _ rfl _ _ 23 rfl M 50 i0 (.agg #[.int .i64 0, .int .i64 0, .string ⟨#[]⟩]) 3 32 Tryz.underlying23 hi hz0 hz1 hz2 rfl (by decide) _ _ _ rfl (HU2.out.alloc _) ⟨w3.heap.size, 0, none⟩ 1 1 (partCells ⟨p.keep, 0, []⟩) rfl rfl (cells_new _ _ _) (partCells_one _) (by unfold maxLen; omega) (by omega) (by first | omega | (simp; omega)) ?_) | fail)
  intro v5 w5 hown5 hg5 _ _
  have P5 := gath_push (q := ⟨p.keep, 0, []⟩) HG3.out HU1.out hown5 hg5
  obtain ⟨p5, q5, rfl⟩ := own_slice hown5
  obtain ⟨G5, B5, t1, t2⟩ := P5
  have HG5 : Hid _ := G5
  have HB5 : Hid _ := B5
  clear hown5 hg5 G5 B5 u1' u3 z0
  go_wp2
  go_end0
  exact ⟨⟨_, rfl⟩, HG5.out, HB3.out.trans HB5.out⟩

set_option maxRecDepth 100000 in
set_option maxHeartbeats 2000000 in
theorem add_behind {M : Nat} (a : Nat) (s : NSt) (p : Pt) (w : World) (h : gath M w a s) (hput : s.put.length + p.put.length < 1000000000) (hd : -9223372036854775808 ≤ s.drop + p.drop) (hd' : s.drop + p.drop < 9223372036854775808) (hout : s.out.length < 100000000)
    (hk : p.keep ≠ 0) (L : List Pt) (hL : tellP ⟨s.out, s.put ++ p.put, s.drop + p.drop⟩ = L) (init : List Pt) (q : Pt) (hLq : L = init ++ [q]) (hq : ¬ 0 < q.keep) :
    Calls Tryz.prog 265 #[(partV p), .pointer (some ⟨a + 1, 0, none⟩), .pointer (some ⟨a + 2, 0, none⟩), .pointer (some ⟨a + 3, 0, none⟩), .pointer (some ⟨a, 0, none⟩)] w fun e w' => (∃ v, e = .returned v) ∧ gath M w' a ⟨L ++ [⟨p.keep, 0, []⟩], [], 0⟩ ∧ BelowG M a w w' := by
  have hM := h.le
  have hT := h.top
  obtain ⟨i0, hi, hz0, hz1, hz2⟩ := info_parts info_part
  obtain ⟨i1, hj, hy0, hy1, hy2⟩ := info_parts info_u8
  have hlt := gath_lt h
  have hb0' : Below w.heap.size w (w.alloc (.cells #[.int .i64 p.keep, .int .i64 p.drop, .string ⟨p.put.toArray⟩] 50)) := (Below.refl _ _).alloc (Nat.le_refl _) _
  have HG0 : Hid (gath M (w.alloc (.cells #[.int .i64 p.keep, .int .i64 p.drop, .string ⟨p.put.toArray⟩] 50)) a s) := gath_below h hb0'
  have HB0 : Hid (BelowG M a w (w.alloc (.cells #[.int .i64 p.keep, .int .i64 p.drop, .string ⟨p.put.toArray⟩] 50))) := .of hb0' (by omega)
  have x0 : (w.alloc (.cells #[.int .i64 p.keep, .int .i64 p.drop, .string ⟨p.put.toArray⟩] 50)).cell? ⟨w.heap.size, 0, none⟩ = some (.int .i64 p.keep) := by simp [go_sem]
  have x1 : (w.alloc (.cells #[.int .i64 p.keep, .int .i64 p.drop, .string ⟨p.put.toArray⟩] 50)).cell? ⟨w.heap.size, 1, none⟩ = some (.int .i64 p.drop) := by simp [go_sem]
  obtain ⟨⟨pp, c, h1, h2⟩, h3, ⟨p', c', h4, h5⟩, h6, h7, h8, h9⟩ := h
  have HL1 : Hid (∀ k, (Value.slice pp s.out.length c).ownBlock = some k → k < w.heap.size) := fun k hk' => (h2.lt k hk').2
  have HL2 : Hid (∀ k, (Value.slice p' s.put.length c').ownBlock = some k → k < w.heap.size) := fun k hk' => (h5.lt k hk').2
  have hP : (w.alloc (.cells #[.int .i64 p.keep, .int .i64 p.drop, .string ⟨p.put.toArray⟩] 50)).ownsRow M 5 1 (.slice p' s.put.length c') s.put.length (Lib.byteCells s.put) := h5.alloc _
  have hC : (w.alloc (.cells #[.int .i64 p.keep, .int .i64 p.drop, .string ⟨p.put.toArray⟩] 50)).cell? ⟨a + 1, 0, none⟩ = some (.slice p' s.put.length c') := (hb0'.cell (p := ⟨a + 1, 0, none⟩) (by show a + 1 < _; omega)).trans h4
  have hC0 : (w.alloc (.cells #[.int .i64 p.keep, .int .i64 p.drop, .string ⟨p.put.toArray⟩] 50)).cell? ⟨a, 0, none⟩ = some (.slice pp s.out.length c) := (hb0'.cell (p := ⟨a, 0, none⟩) (by show a < _; omega)).trans h1
  have hD2 : (w.alloc (.cells #[.int .i64 p.keep, .int .i64 p.drop, .string ⟨p.put.toArray⟩] 50)).cell? ⟨a + 2, 0, none⟩ = some (.int .i64 s.drop) := (hb0'.cell (p := ⟨a + 2, 0, none⟩) (by show a + 2 < _; omega)).trans h7
  have hF2 : (w.alloc (.cells #[.int .i64 p.keep, .int .i64 p.drop, .string ⟨p.put.toArray⟩] 50)).frozen? ⟨a + 2, 0, none⟩ = false := (hb0'.frozen (p := ⟨a + 2, 0, none⟩) (by show a + 2 < _; omega)).trans h8
  have hD3 : (w.alloc (.cells #[.int .i64 p.keep, .int .i64 p.drop, .string ⟨p.put.toArray⟩] 50)).cell? ⟨a + 3, 0, none⟩ = some (.func (.func 264) #[] #[.pointer (some ⟨a + 1, 0, none⟩), .pointer (some ⟨a, 0, none⟩), .pointer (some ⟨a + 2, 0, none⟩)]) := (hb0'.cell (p := ⟨a + 3, 0, none⟩) (by show a + 3 < _; omega)).trans h9
  have HP : Hid ((w.alloc (.cells #[.int .i64 p.keep, .int .i64 p.drop, .string ⟨p.put.toArray⟩] 50)).ownsRow M 5 1 (.slice p' s.put.length c') s.put.length (Lib.byteCells s.put)) := hP
  have HX : Hid (∀ w1 v1, w1.ownsRow M 5 1 v1 (s.put.length + (ByteArray.mk p.put.toArray).size) (Lib.byteCells s.put ++ Lib.strCells ⟨p.put.toArray⟩) → (w.alloc (.cells #[.int .i64 p.keep, .int .i64 p.drop, .string ⟨p.put.toArray⟩] 50)).grownBy w1 (Value.slice p' s.put.length c').ownBlock →
      gath M ((w1.setCell ⟨a + 1, 0, none⟩ v1).setCell ⟨a + 2, 0, none⟩ (.int .i64 (s.drop + p.drop))) a ⟨s.out, s.put ++ p.put, s.drop + p.drop⟩ ∧ BelowG M a w ((w1.setCell ⟨a + 1, 0, none⟩ v1).setCell ⟨a + 2, 0, none⟩ (.int .i64 (s.drop + p.drop))) ∧
      spare ((w1.setCell ⟨a + 1, 0, none⟩ v1).setCell ⟨a + 2, 0, none⟩ (.int .i64 (s.drop + p.drop))) a w.heap.size ∧
      w1.cell? ⟨a + 1, 0, none⟩ = some (.slice p' s.put.length c') ∧ w1.frozen? ⟨a + 1, 0, none⟩ = false ∧ w1.cell? ⟨a + 2, 0, none⟩ = some (.int .i64 s.drop) ∧ w1.frozen? ⟨a + 2, 0, none⟩ = false ∧
      w1.cell? ⟨a + 3, 0, none⟩ = some (.func (.func 264) #[] #[.pointer (some ⟨a + 1, 0, none⟩), .pointer (some ⟨a, 0, none⟩), .pointer (some ⟨a + 2, 0, none⟩)]) ∧
      (∀ o, w1.cell? ⟨w.heap.size, o, none⟩ = (w.alloc (.cells #[.int .i64 p.keep, .int .i64 p.drop, .string ⟨p.put.toArray⟩] 50)).cell? ⟨w.heap.size, o, none⟩) ∧ w.heap.size < w1.heap.size) := by
    intro w1 v1 q1 q2
    have hz : (ByteArray.mk p.put.toArray).size = p.put.length := by simp [ByteArray.size]
    rw [hz] at q1
    obtain ⟨g1, g2, g3, g4⟩ := gath_puts (q := p.put) HG0.out hC q1 q2
    obtain ⟨g5, g6⟩ := gath_drop g1 (s.drop + p.drop)
    have hlow : ∀ k, (Value.slice p' s.put.length c').ownBlock = some k → a + 4 ≤ k := fun k hk => Nat.le_trans hM (hP.lt k hk).1
    have hbb : Below (a + 4) (w.alloc (.cells #[.int .i64 p.keep, .int .i64 p.drop, .string ⟨p.put.toArray⟩] 50)) w1 := (Below.refl _ _).grown q2 (by rw [World.size_alloc]; omega) hlow
    have hsz := q2.size
    rw [World.size_alloc] at hsz
    refine ⟨g5, HB0.out.trans (g2.trans g6), ⟨by simp; omega, hlt, ?_⟩, g3, g4, (hbb.cell (p := ⟨a + 2, 0, none⟩) (by show a + 2 < _; omega)).trans hD2, (hbb.frozen (p := ⟨a + 2, 0, none⟩) (by show a + 2 < _; omega)).trans hF2, (hbb.cell (p := ⟨a + 3, 0, none⟩) (by show a + 3 < _; omega)).trans hD3, ?_, by omega⟩
    · intro v hv
      rw [cell_set_ne (by omega), cell_set_ne (by omega), (hbb.cell (p := ⟨a, 0, none⟩) (by show a < _; omega)), hC0] at hv
      obtain rfl := Option.some.inj hv
      intro e
      have := HL1.out _ e
      omega
    · intro o
      exact World.cell?_of_block (a := ⟨w.heap.size, o, none⟩) (q2.block w.heap.size (by rw [World.size_alloc]; omega) (by intro e; have := HL2.out _ e.symm; omega))
  clear h2 h5 hP hC hC0 hD2 hF2 hD3 hb0' h1 h3 h6 h7 h8 h9
  have n0 : a + 1 < w.heap.size := by omega
  have HZ : Hid ((ByteArray.mk p.put.toArray).size = p.put.length) := by show _ = _; simp [ByteArray.size]
  have n1 : ¬ (a + 1 = w.heap.size) := by omega
  have n2 : ¬ (w.heap.size = a + 1) := by omega
  have n3 : ¬ (a + 2 = w.heap.size) := by omega
  have n4 : ¬ (w.heap.size = a + 2) := by omega
  have hwrap : IntKind.i64.wrap (s.drop + p.drop) = s.drop + p.drop := by rw [IntKind.wrap_i64]; omega
  unfold partV
  go_enter Tryz.func265, Tryz.ntmps265
  go_wp2_with (first | (at_builtin; refine Lib.wpList_append_own_string _ rfl _ _ 158 9 rfl M 5 i1 Tryz.underlying158 Tryz.underlying9 hj hy0 hy1 hy2 _ _ _ rfl HP.out _ rfl (by rw [HZ.out]; unfold maxLen; omega) (by rw [HZ.out]; omega) (by simp; omega) ?_) | fail)
  intro v1 w1 hown1 hg1 _
  have R := HX.out w1 v1 hown1 hg1
  obtain ⟨pv, cv, rfl⟩ := own_slice hown1
  obtain ⟨G2, B2, S2, r1, r2, r3, r4, r5, r6, r7⟩ := R
  have y0 := (r6 0).trans x0
  have y1 := (r6 1).trans x1
  have HG2 : Hid _ := G2
  have HB2 : Hid _ := B2
  have HS2 : Hid _ := S2
  clear hown1 hg1 x0 x1 r6 G2 B2 S2 HX HL1 HL2 HP HG0 HB0 h4
  have hkb : (p.keep == 0) = false := beq_eq_false_iff_ne.2 hk
  go_wp2_with (first | (go_at_call 9999) | fail)
  refine (tell_any a _ _ HG2.out (by show s.out.length < _; omega) (by show (s.put ++ p.put).length < _; rw [List.length_append]; exact hput)).mono ?_
  rintro e w3 ⟨⟨v3, rfl⟩, G3, B3, S3⟩
  have hS3 := S3 _ HS2.out
  have z0 : w3.cell? ⟨w.heap.size, 0, none⟩ = some (.int .i64 p.keep) := (World.cell?_of_block (a := ⟨w.heap.size, 0, none⟩) hS3).trans (by rw [cell_set_ne (by omega), cell_set_ne (by omega)]; exact y0)
  rw [hL] at G3
  have HB3 : Hid (BelowG M a w w3) := HB2.out.trans B3
  have hs3 : w.heap.size ≤ w3.heap.size := HB3.out.size
  clear S3 hS3 B3 HB2 HS2 HG2 y0 y1 r1 r2 r3 r4 r5 r7
  obtain ⟨m, hm⟩ : ∃ m, m = init.length := ⟨_, rfl⟩
  have hLn : L.length = m + 1 := by rw [hLq, hm]; simp
  have HLN : Hid (L.length = m + 1) := hLn
  have hbig : m + 1 < 1000000000 := by
    have h1 : L.length ≤ s.out.length + 2 := by
      rw [← hL, tellP]
      simp only [List.length_append]
      split <;> split <;> simp
    omega
  have HG3 : Hid (gath M w3 a ⟨L, [], 0⟩) := G3
  have hlt3 := gath_lt G3
  obtain ⟨⟨p3, c3, u1, u2⟩, u3, _, _, _, _, _⟩ := G3
  have u1' : w3.cell? ⟨a, 0, none⟩ = some (.slice p3 (m + 1) c3) := by rw [← hLn]; exact u1
  have u2' : w3.ownsRow M 50 3 (.slice p3 (m + 1) c3) (m + 1) (cellsP L) := by rw [← hLn]; exact u2
  obtain ⟨g, rfl⟩ : ∃ g, p3 = some ⟨g, 0, none⟩ := by
    rcases u2'.2 with ⟨_, h0⟩ | ⟨g, cap, cur, hv, _⟩
    · exact absurd h0 (by omega)
    · simp only [Value.slice.injEq] at hv
      exact ⟨g, hv.1⟩
  have hgl := (u2'.lt g rfl)
  have hlc := last_cells (by rw [hLq] at u2'; exact u2') (show m + 1 = _ by rw [← hLq]; exact hLn.symm)
  rw [← hm] at hlc
  obtain ⟨l0, l1, l2, l3⟩ := hlc
  have HU2 : Hid (w3.ownsRow M 50 3 (.slice (some ⟨g, 0, none⟩) (m + 1) c3) (m + 1) (cellsP L)) := u2'
  have HL0 : Hid (w3.cell? ⟨g, m * 3, none⟩ = some (.int .i64 q.keep)) := l0
  have hwm : IntKind.i64.wrap (((m + 1 : Nat) : Int) - 1) = (m : Int) := by rw [IntKind.wrap_i64]; omega
  have hge : (0 : Int) ≤ (m : Int) := by omega
  have hlm : (m : Int) < ((m + 1 : Nat) : Int) := by omega
  have HM : Hid (m = init.length) := hm
  have HLQ : Hid (L = init ++ [q]) := hLq
  clear u1 u2 u2' hLn hm hLq
  go_wp2_with (first | (go_at_call 9999) | fail)
  refine (isKeep_any q _).mono ?_
  rintro e w4 ⟨rfl, hb4⟩
  have G4 := gath_below HG3.out hb4
  have HG4 : Hid (gath M w4 a ⟨L, [], 0⟩) := G4
  have HB4 : Hid (BelowG M a w w4) := HB3.out.trans (.of hb4 (by omega))
  have s0 := (hb4.cell (p := ⟨w.heap.size, 0, none⟩) (World.block_lt_of_cell? w3 _ z0)).trans z0
  have s1 := (hb4.cell (p := ⟨a, 0, none⟩) (World.block_lt_of_cell? w3 _ u1')).trans u1'
  have sF := (hb4.frozen (p := ⟨a, 0, none⟩) (World.block_lt_of_cell? w3 _ u1')).trans u3
  have s2 := (hb4.cell (p := ⟨g, m * 3, none⟩) (World.block_lt_of_cell? w3 _ l0)).trans l0
  have s3 := (hb4.frozen (p := ⟨g, m * 3, none⟩) (World.block_lt_of_cell? w3 _ l0)).trans l3
  have s4 := own_below HU2.out hb4
  have HS4 : Hid (w4.ownsRow M 50 3 (.slice (some ⟨g, 0, none⟩) (m + 1) c3) (m + 1) (cellsP L)) := s4
  have HS1 : Hid (w4.cell? ⟨a, 0, none⟩ = some (.slice (some ⟨g, 0, none⟩) (m + 1) c3)) := s1
  have hs4 := hb4.size
  clear hb4 s4 G4 u1' u3 l0 l1 l2 l3 z0
  have hqd : decide (0 < q.keep) = false := decide_eq_false (by omega)
  rw [hqd]
  go_wp2_with (first | (at_builtin; refine wpList_append_own_at _ rfl _ _ 23 rfl M 50 i0 (.agg #[.int .i64 0, .int .i64 0, .string ⟨#[]⟩]) 3 32 Tryz.underlying23 hi hz0 hz1 hz2 rfl (by decide) _ _ _ rfl (HS4.out.alloc _) ⟨w4.heap.size, 0, none⟩ 1 1 (partCells ⟨p.keep, 0, []⟩) rfl rfl (cells_new _ _ _) (partCells_one _) (by unfold maxLen; omega) (by omega) (by first | omega | (simp; omega)) ?_) | fail)
  intro v5 w5 hown5 hg5 _ _
  have P5 := gath_push (q := ⟨p.keep, 0, []⟩) HG4.out (show w4.cell? ⟨a, 0, none⟩ = some (.slice (some ⟨g, 0, none⟩) L.length c3) by rw [HLN.out]; exact HS1.out) (by show World.ownsRow _ _ _ _ _ (L.length + 1) _; rw [HLN.out]; exact hown5) (by show World.grownBy _ _ (Value.slice _ L.length _).ownBlock; rw [HLN.out]; exact hg5)
  obtain ⟨p5, q5, rfl⟩ := own_slice hown5
  obtain ⟨G5, B5, t1, t2⟩ := P5
  have HG5 : Hid _ := G5
  have HB5 : Hid _ := B5
  have t1' : w5.cell? ⟨a, 0, none⟩ = some (.slice (some ⟨g, 0, none⟩) (m + 1) c3) := by rw [t1]; show some (Value.slice _ L.length _) = _; rw [HLN.out]
  clear hown5 hg5 G5 B5 s0 s1 s2 s3 sF t1
  go_wp2
  go_end0
  exact ⟨⟨_, rfl⟩, HG5.out, HB4.out.trans HB5.out⟩

set_option maxRecDepth 100000 in
set_option maxHeartbeats 2000000 in
theorem addO_more {M : Nat} (a : Nat) (s : NSt) (p : Pt) (w : World) (h : gath M w a s) (hput : s.put.length + p.put.length < 1000000000) (hd : -9223372036854775808 ≤ s.drop + p.drop) (hd' : s.drop + p.drop < 9223372036854775808) (hout : s.out.length < 100000000)
    (hk : p.keep ≠ 0) (L : List Pt) (hL : tellP ⟨s.out, s.put ++ p.put, s.drop + p.drop⟩ = L) (init : List Pt) (q : Pt) (hLq : L = init ++ [q]) (hq : 0 < q.keep) (hb0 : -9223372036854775808 ≤ q.keep + p.keep) (hb1 : q.keep + p.keep < 9223372036854775808) :
    Calls Tryz.prog 265 #[(partV p), .pointer (some ⟨a + 1, 0, none⟩), .pointer (some ⟨a + 2, 0, none⟩), .pointer (some ⟨a + 3, 0, none⟩), .pointer (some ⟨a, 0, none⟩)] w fun e w' => (∃ v, e = .returned v) ∧ gath M w' a ⟨init ++ [⟨q.keep + p.keep, q.drop, q.put⟩], [], 0⟩ ∧ BelowG M a w w' := by
  have hM := h.le
  have hT := h.top
  obtain ⟨i0, hi, hz0, hz1, hz2⟩ := info_parts info_part
  obtain ⟨i1, hj, hy0, hy1, hy2⟩ := info_parts info_u8
  have hlt := gath_lt h
  have hb0' : Below w.heap.size w (w.alloc (.cells #[.int .i64 p.keep, .int .i64 p.drop, .string ⟨p.put.toArray⟩] 50)) := (Below.refl _ _).alloc (Nat.le_refl _) _
  have HG0 : Hid (gath M (w.alloc (.cells #[.int .i64 p.keep, .int .i64 p.drop, .string ⟨p.put.toArray⟩] 50)) a s) := gath_below h hb0'
  have HB0 : Hid (BelowG M a w (w.alloc (.cells #[.int .i64 p.keep, .int .i64 p.drop, .string ⟨p.put.toArray⟩] 50))) := .of hb0' (by omega)
  have x0 : (w.alloc (.cells #[.int .i64 p.keep, .int .i64 p.drop, .string ⟨p.put.toArray⟩] 50)).cell? ⟨w.heap.size, 0, none⟩ = some (.int .i64 p.keep) := by simp [go_sem]
  have x1 : (w.alloc (.cells #[.int .i64 p.keep, .int .i64 p.drop, .string ⟨p.put.toArray⟩] 50)).cell? ⟨w.heap.size, 1, none⟩ = some (.int .i64 p.drop) := by simp [go_sem]
  obtain ⟨⟨pp, c, h1, h2⟩, h3, ⟨p', c', h4, h5⟩, h6, h7, h8, h9⟩ := h
  have HL1 : Hid (∀ k, (Value.slice pp s.out.length c).ownBlock = some k → k < w.heap.size) := fun k hk' => (h2.lt k hk').2
  have HL2 : Hid (∀ k, (Value.slice p' s.put.length c').ownBlock = some k → k < w.heap.size) := fun k hk' => (h5.lt k hk').2
  have hP : (w.alloc (.cells #[.int .i64 p.keep, .int .i64 p.drop, .string ⟨p.put.toArray⟩] 50)).ownsRow M 5 1 (.slice p' s.put.length c') s.put.length (Lib.byteCells s.put) := h5.alloc _
  have hC : (w.alloc (.cells #[.int .i64 p.keep, .int .i64 p.drop, .string ⟨p.put.toArray⟩] 50)).cell? ⟨a + 1, 0, none⟩ = some (.slice p' s.put.length c') := (hb0'.cell (p := ⟨a + 1, 0, none⟩) (by show a + 1 < _; omega)).trans h4
  have hC0 : (w.alloc (.cells #[.int .i64 p.keep, .int .i64 p.drop, .string ⟨p.put.toArray⟩] 50)).cell? ⟨a, 0, none⟩ = some (.slice pp s.out.length c) := (hb0'.cell (p := ⟨a, 0, none⟩) (by show a < _; omega)).trans h1
  have hD2 : (w.alloc (.cells #[.int .i64 p.keep, .int .i64 p.drop, .string ⟨p.put.toArray⟩] 50)).cell? ⟨a + 2, 0, none⟩ = some (.int .i64 s.drop) := (hb0'.cell (p := ⟨a + 2, 0, none⟩) (by show a + 2 < _; omega)).trans h7
  have hF2 : (w.alloc (.cells #[.int .i64 p.keep, .int .i64 p.drop, .string ⟨p.put.toArray⟩] 50)).frozen? ⟨a + 2, 0, none⟩ = false := (hb0'.frozen (p := ⟨a + 2, 0, none⟩) (by show a + 2 < _; omega)).trans h8
  have hD3 : (w.alloc (.cells #[.int .i64 p.keep, .int .i64 p.drop, .string ⟨p.put.toArray⟩] 50)).cell? ⟨a + 3, 0, none⟩ = some (.func (.func 264) #[] #[.pointer (some ⟨a + 1, 0, none⟩), .pointer (some ⟨a, 0, none⟩), .pointer (some ⟨a + 2, 0, none⟩)]) := (hb0'.cell (p := ⟨a + 3, 0, none⟩) (by show a + 3 < _; omega)).trans h9
  have HP : Hid ((w.alloc (.cells #[.int .i64 p.keep, .int .i64 p.drop, .string ⟨p.put.toArray⟩] 50)).ownsRow M 5 1 (.slice p' s.put.length c') s.put.length (Lib.byteCells s.put)) := hP
  have HX : Hid (∀ w1 v1, w1.ownsRow M 5 1 v1 (s.put.length + (ByteArray.mk p.put.toArray).size) (Lib.byteCells s.put ++ Lib.strCells ⟨p.put.toArray⟩) → (w.alloc (.cells #[.int .i64 p.keep, .int .i64 p.drop, .string ⟨p.put.toArray⟩] 50)).grownBy w1 (Value.slice p' s.put.length c').ownBlock →
      gath M ((w1.setCell ⟨a + 1, 0, none⟩ v1).setCell ⟨a + 2, 0, none⟩ (.int .i64 (s.drop + p.drop))) a ⟨s.out, s.put ++ p.put, s.drop + p.drop⟩ ∧ BelowG M a w ((w1.setCell ⟨a + 1, 0, none⟩ v1).setCell ⟨a + 2, 0, none⟩ (.int .i64 (s.drop + p.drop))) ∧
      spare ((w1.setCell ⟨a + 1, 0, none⟩ v1).setCell ⟨a + 2, 0, none⟩ (.int .i64 (s.drop + p.drop))) a w.heap.size ∧
      w1.cell? ⟨a + 1, 0, none⟩ = some (.slice p' s.put.length c') ∧ w1.frozen? ⟨a + 1, 0, none⟩ = false ∧ w1.cell? ⟨a + 2, 0, none⟩ = some (.int .i64 s.drop) ∧ w1.frozen? ⟨a + 2, 0, none⟩ = false ∧
      w1.cell? ⟨a + 3, 0, none⟩ = some (.func (.func 264) #[] #[.pointer (some ⟨a + 1, 0, none⟩), .pointer (some ⟨a, 0, none⟩), .pointer (some ⟨a + 2, 0, none⟩)]) ∧
      (∀ o, w1.cell? ⟨w.heap.size, o, none⟩ = (w.alloc (.cells #[.int .i64 p.keep, .int .i64 p.drop, .string ⟨p.put.toArray⟩] 50)).cell? ⟨w.heap.size, o, none⟩) ∧ w.heap.size < w1.heap.size) := by
    intro w1 v1 q1 q2
    have hz : (ByteArray.mk p.put.toArray).size = p.put.length := by simp [ByteArray.size]
    rw [hz] at q1
    obtain ⟨g1, g2, g3, g4⟩ := gath_puts (q := p.put) HG0.out hC q1 q2
    obtain ⟨g5, g6⟩ := gath_drop g1 (s.drop + p.drop)
    have hlow : ∀ k, (Value.slice p' s.put.length c').ownBlock = some k → a + 4 ≤ k := fun k hk => Nat.le_trans hM (hP.lt k hk).1
    have hbb : Below (a + 4) (w.alloc (.cells #[.int .i64 p.keep, .int .i64 p.drop, .string ⟨p.put.toArray⟩] 50)) w1 := (Below.refl _ _).grown q2 (by rw [World.size_alloc]; omega) hlow
    have hsz := q2.size
    rw [World.size_alloc] at hsz
    refine ⟨g5, HB0.out.trans (g2.trans g6), ⟨by simp; omega, hlt, ?_⟩, g3, g4, (hbb.cell (p := ⟨a + 2, 0, none⟩) (by show a + 2 < _; omega)).trans hD2, (hbb.frozen (p := ⟨a + 2, 0, none⟩) (by show a + 2 < _; omega)).trans hF2, (hbb.cell (p := ⟨a + 3, 0, none⟩) (by show a + 3 < _; omega)).trans hD3, ?_, by omega⟩
    · intro v hv
      rw [cell_set_ne (by omega), cell_set_ne (by omega), (hbb.cell (p := ⟨a, 0, none⟩) (by show a < _; omega)), hC0] at hv
      obtain rfl := Option.some.inj hv
      intro e
      have := HL1.out _ e
      omega
    · intro o
      exact World.cell?_of_block (a := ⟨w.heap.size, o, none⟩) (q2.block w.heap.size (by rw [World.size_alloc]; omega) (by intro e; have := HL2.out _ e.symm; omega))
  clear h2 h5 hP hC hC0 hD2 hF2 hD3 hb0' h1 h3 h6 h7 h8 h9
  have n0 : a + 1 < w.heap.size := by omega
  have HZ : Hid ((ByteArray.mk p.put.toArray).size = p.put.length) := by show _ = _; simp [ByteArray.size]
  have n1 : ¬ (a + 1 = w.heap.size) := by omega
  have n2 : ¬ (w.heap.size = a + 1) := by omega
  have n3 : ¬ (a + 2 = w.heap.size) := by omega
  have n4 : ¬ (w.heap.size = a + 2) := by omega
  have hwrap : IntKind.i64.wrap (s.drop + p.drop) = s.drop + p.drop := by rw [IntKind.wrap_i64]; omega
  unfold partV
  go_enter Tryz.func265, Tryz.ntmps265
  go_wp2_with (first | (at_builtin; refine Lib.wpList_append_own_string _ rfl _ _ 158 9 rfl M 5 i1 Tryz.underlying158 Tryz.underlying9 hj hy0 hy1 hy2 _ _ _ rfl HP.out _ rfl (by rw [HZ.out]; unfold maxLen; omega) (by rw [HZ.out]; omega) (by simp; omega) ?_) | fail)
  intro v1 w1 hown1 hg1 _
  have R := HX.out w1 v1 hown1 hg1
  obtain ⟨pv, cv, rfl⟩ := own_slice hown1
  obtain ⟨G2, B2, S2, r1, r2, r3, r4, r5, r6, r7⟩ := R
  have y0 := (r6 0).trans x0
  have y1 := (r6 1).trans x1
  have HG2 : Hid _ := G2
  have HB2 : Hid _ := B2
  have HS2 : Hid _ := S2
  clear hown1 hg1 x0 x1 r6 G2 B2 S2 HX HL1 HL2 HP HG0 HB0 h4
  have hkb : (p.keep == 0) = false := beq_eq_false_iff_ne.2 hk
  go_wp2_with (first | (go_at_call 9999) | fail)
  refine (tell_any a _ _ HG2.out (by show s.out.length < _; omega) (by show (s.put ++ p.put).length < _; rw [List.length_append]; exact hput)).mono ?_
  rintro e w3 ⟨⟨v3, rfl⟩, G3, B3, S3⟩
  have hS3 := S3 _ HS2.out
  have z0 : w3.cell? ⟨w.heap.size, 0, none⟩ = some (.int .i64 p.keep) := (World.cell?_of_block (a := ⟨w.heap.size, 0, none⟩) hS3).trans (by rw [cell_set_ne (by omega), cell_set_ne (by omega)]; exact y0)
  rw [hL] at G3
  have HB3 : Hid (BelowG M a w w3) := HB2.out.trans B3
  have hs3 : w.heap.size ≤ w3.heap.size := HB3.out.size
  clear S3 hS3 B3 HB2 HS2 HG2 y0 y1 r1 r2 r3 r4 r5 r7
  obtain ⟨m, hm⟩ : ∃ m, m = init.length := ⟨_, rfl⟩
  have hLn : L.length = m + 1 := by rw [hLq, hm]; simp
  have HLN : Hid (L.length = m + 1) := hLn
  have hbig : m + 1 < 1000000000 := by
    have h1 : L.length ≤ s.out.length + 2 := by
      rw [← hL, tellP]
      simp only [List.length_append]
      split <;> split <;> simp
    omega
  have HG3 : Hid (gath M w3 a ⟨L, [], 0⟩) := G3
  have hlt3 := gath_lt G3
  obtain ⟨⟨p3, c3, u1, u2⟩, u3, _, _, _, _, _⟩ := G3
  have u1' : w3.cell? ⟨a, 0, none⟩ = some (.slice p3 (m + 1) c3) := by rw [← hLn]; exact u1
  have u2' : w3.ownsRow M 50 3 (.slice p3 (m + 1) c3) (m + 1) (cellsP L) := by rw [← hLn]; exact u2
  obtain ⟨g, rfl⟩ : ∃ g, p3 = some ⟨g, 0, none⟩ := by
    rcases u2'.2 with ⟨_, h0⟩ | ⟨g, cap, cur, hv, _⟩
    · exact absurd h0 (by omega)
    · simp only [Value.slice.injEq] at hv
      exact ⟨g, hv.1⟩
  have hgl := (u2'.lt g rfl)
  have hlc := last_cells (by rw [hLq] at u2'; exact u2') (show m + 1 = _ by rw [← hLq]; exact hLn.symm)
  rw [← hm] at hlc
  obtain ⟨l0, l1, l2, l3⟩ := hlc
  have HU2 : Hid (w3.ownsRow M 50 3 (.slice (some ⟨g, 0, none⟩) (m + 1) c3) (m + 1) (cellsP L)) := u2'
  have HL0 : Hid (w3.cell? ⟨g, m * 3, none⟩ = some (.int .i64 q.keep)) := l0
  have hwm : IntKind.i64.wrap (((m + 1 : Nat) : Int) - 1) = (m : Int) := by rw [IntKind.wrap_i64]; omega
  have hge : (0 : Int) ≤ (m : Int) := by omega
  have hlm : (m : Int) < ((m + 1 : Nat) : Int) := by omega
  have HM : Hid (m = init.length) := hm
  have HLQ : Hid (L = init ++ [q]) := hLq
  clear u1 u2 u2' hLn hm hLq
  go_wp2_with (first | (go_at_call 9999) | fail)
  refine (isKeep_any q _).mono ?_
  rintro e w4 ⟨rfl, hb4⟩
  have G4 := gath_below HG3.out hb4
  have HG4 : Hid (gath M w4 a ⟨L, [], 0⟩) := G4
  have HB4 : Hid (BelowG M a w w4) := HB3.out.trans (.of hb4 (by omega))
  have s0 := (hb4.cell (p := ⟨w.heap.size, 0, none⟩) (World.block_lt_of_cell? w3 _ z0)).trans z0
  have s1 := (hb4.cell (p := ⟨a, 0, none⟩) (World.block_lt_of_cell? w3 _ u1')).trans u1'
  have sF := (hb4.frozen (p := ⟨a, 0, none⟩) (World.block_lt_of_cell? w3 _ u1')).trans u3
  have s2 := (hb4.cell (p := ⟨g, m * 3, none⟩) (World.block_lt_of_cell? w3 _ l0)).trans l0
  have s3 := (hb4.frozen (p := ⟨g, m * 3, none⟩) (World.block_lt_of_cell? w3 _ l0)).trans l3
  have s4 := own_below HU2.out hb4
  have HS4 : Hid (w4.ownsRow M 50 3 (.slice (some ⟨g, 0, none⟩) (m + 1) c3) (m + 1) (cellsP L)) := s4
  have HS1 : Hid (w4.cell? ⟨a, 0, none⟩ = some (.slice (some ⟨g, 0, none⟩) (m + 1) c3)) := s1
  have hs4 := hb4.size
  clear hb4 s4 G4 u1' u3 l0 l1 l2 l3 z0
  have hqd : decide (0 < q.keep) = true := decide_eq_true (by omega)
  rw [hqd]
  have hwk : IntKind.i64.wrap (q.keep + p.keep) = q.keep + p.keep := by rw [IntKind.wrap_i64]; omega
  have HG5 : Hid (gath M w4.drew a ⟨init ++ [q], [], 0⟩) := by
    have := gath_below HG4.out (Below.refl _ w4).drew
    rw [HLQ.out] at this
    exact this
  have P5 := gath_more (k := q.keep + p.keep) HG5.out (show w4.drew.cell? ⟨a, 0, none⟩ = some (.slice (some ⟨g, 0, none⟩) (m + 1) c3) from HS1.out) (by rw [← HLQ.out]; exact HLN.out.symm)
  rw [← HM.out] at P5
  have HP5 : Hid _ := P5
  have HBD : Hid (BelowG M a w w4.drew) := HB4.out.drew
  clear P5
  go_wp2
  go_region
  all_goals
    go_wp2
    refine bodyPost_ret (results_none rfl _ _ _) rfl ?_
    exact ⟨⟨_, rfl⟩, HP5.out.1, HBD.out.trans HP5.out.2⟩

theorem add_anyG {M : Nat} (a : Nat) (s : NSt) (p : Pt) (w : World) (h : gath M w a s) (hput : s.put.length + p.put.length < 1000000000) (hd : 0 ≤ s.drop) (hd' : s.drop + p.drop < 4611686018427387904) (hp : 0 ≤ p.drop) (hk : 0 ≤ p.keep) (hout : s.out.length < 100000000)
    (hkb : ∀ q ∈ s.out, 0 ≤ q.keep ∧ q.keep + p.keep < 4611686018427387904) (hkk : p.keep < 4611686018427387904) :
    Calls Tryz.prog 265 #[partV p, .pointer (some ⟨a + 1, 0, none⟩), .pointer (some ⟨a + 2, 0, none⟩), .pointer (some ⟨a + 3, 0, none⟩), .pointer (some ⟨a, 0, none⟩)] w fun e w' => (∃ v, e = .returned v) ∧ gath M w' a (addP s p) ∧ BelowG M a w w' := by
  have hM := h.le
  have hT := h.top
  by_cases hk0 : p.keep = 0
  · have := add_zero a s p w h hput (by omega) (by omega) hout
    unfold addP partV
    rw [if_pos hk0, hk0]
    exact this
  · obtain ⟨L, hL⟩ : ∃ L, tellP ⟨s.out, s.put ++ p.put, s.drop + p.drop⟩ = L := ⟨_, rfl⟩
    unfold addP
    rw [if_neg hk0, hL]
    have hmem : ∀ q ∈ L, 0 ≤ q.keep ∧ q.keep + p.keep < 4611686018427387904 := by
      intro q hq
      rw [← hL, tellP] at hq
      simp only [List.mem_append] at hq
      rcases hq with hq | hq | hq
      · exact hkb q hq
      · split at hq
        · simp at hq
        · rw [List.mem_singleton.1 hq]; exact ⟨by simp, by simpa using hkk⟩
      · split at hq
        · simp at hq
        · rw [List.mem_singleton.1 hq]; exact ⟨by simp, by simpa using hkk⟩
    rcases List.eq_nil_or_concat L with hn | ⟨init, q, hLq⟩
    · have := add_only a s p w h hput (by omega) (by omega) hout hk0 L hL hn
      subst hn
      exact this
    · have hq := hmem q (by rw [hLq]; simp)
      have hgl : L.getLast? = some q := by rw [hLq]; simp
      by_cases hqk : 0 < q.keep
      · have := addO_more a s p w h hput (by omega) (by omega) hout hk0 L hL init q (by simpa using hLq) hqk (by omega) (by omega)
        have e : pushKeep L p.keep = init ++ [⟨q.keep + p.keep, q.drop, q.put⟩] := by simp [pushKeep, hqk, hLq]
        rw [e]
        exact this
      · have := add_behind a s p w h hput (by omega) (by omega) hout hk0 L hL init q (by simpa using hLq) hqk
        have e : pushKeep L p.keep = L ++ [⟨p.keep, 0, []⟩] := by simp [pushKeep, hgl, hqk]
        rw [e]
        exact this
theorem addO_any {M : Nat} (a : Nat) (s : NSt) (p : Pt) (w : World) (h : gath M w a s) (hput : s.put.length + p.put.length < 1000000000) (hd : 0 ≤ s.drop) (hd' : s.drop + p.drop < 4611686018427387904) (hp : 0 ≤ p.drop) (hk : 0 ≤ p.keep) (hout : s.out.length < 100000000)
    (hkb : ∀ q ∈ s.out, 0 ≤ q.keep ∧ q.keep + p.keep < 4611686018427387904) (hkk : p.keep < 4611686018427387904) :
    Calls Tryz.prog 265 #[partV p, .pointer (some ⟨a + 1, 0, none⟩), .pointer (some ⟨a + 2, 0, none⟩), .pointer (some ⟨a + 3, 0, none⟩), .pointer (some ⟨a, 0, none⟩)] w fun e w' => (∃ v, e = .returned v) ∧ gath M w' a (addP s p) ∧ Below a w w' :=
  (add_anyG a s p w h hput hd hd' hp hk hout hkb hkk).mono fun e w' h => ⟨h.1, h.2.1, h.2.2.below⟩
theorem done_any {M : Nat} (a : Nat) (s : NSt) (w : World) (h : gath M w a s) (hlen : s.out.length < 1000000000) (hput : s.put.length < 1000000000) :
    Calls Tryz.prog 266 #[.pointer (some ⟨a + 3, 0, none⟩), .pointer (some ⟨a, 0, none⟩)] w fun e w' => ∃ v, e = .returned v ∧ w'.ownsRow M 50 3 v (tellP s).length (cellsP (tellP s)) ∧ Below a w w' :=
  (done_anyG a s w h hlen hput).mono fun e w' h => (by obtain ⟨v, h1, h2, h3⟩ := h; exact ⟨v, h1, h2, h3.below⟩)
end Go.Proofs.YtedgnlgjmnccgabGreatDoor
