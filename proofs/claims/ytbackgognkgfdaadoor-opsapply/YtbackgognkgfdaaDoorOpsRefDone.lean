/-
  The document's Gather: its closure.
-/
import Derived.Test.YtbackgognkgfdaaDoorOpsGather
import Derived.Laws.EntriesVeiled
namespace Go.Proofs.YtbackgognkgfdaaDoor
open Go.RowKit
set_option linter.unusedVariables false

/-- The variables of the document's gathering: out in block a, put and drop behind it. -/
structure rgath (w : World) (a : Nat) (s : NSt) : Prop where
  out : ∃ p c, w.cell? ⟨a, 0, none⟩ = some (.slice p s.out.length c) ∧ w.ownsRow (a + 3) 151 3 (.slice p s.out.length c) s.out.length (cellsP s.out)
  outF : w.frozen? ⟨a, 0, none⟩ = false
  put : w.cell? ⟨a + 1, 0, none⟩ = some (.string ⟨s.put.toArray⟩)
  putF : w.frozen? ⟨a + 1, 0, none⟩ = false
  drop : w.cell? ⟨a + 2, 0, none⟩ = some (.int .i64 s.drop)
  dropF : w.frozen? ⟨a + 2, 0, none⟩ = false

theorem rgath_lt {w : World} {a : Nat} {s : NSt} (h : rgath w a s) : a + 2 < w.heap.size := World.block_lt_of_cell? w _ h.drop
theorem rgath_below {w w' : World} {a : Nat} {s : NSt} (h : rgath w a s) (hb : Below w.heap.size w w') : rgath w' a s := by
  have hlt := rgath_lt h
  obtain ⟨⟨p, c, h1, h2⟩, h3, h4, h6, h7, h8⟩ := h
  exact ⟨⟨p, c, (hb.cell (p := ⟨a, 0, none⟩) (by show a < _; omega)).trans h1, own_below h2 hb⟩, (hb.frozen (p := ⟨a, 0, none⟩) (by show a < _; omega)).trans h3,
    (hb.cell (p := ⟨a + 1, 0, none⟩) (by show a + 1 < _; omega)).trans h4, (hb.frozen (p := ⟨a + 1, 0, none⟩) (by show a + 1 < _; omega)).trans h6,
    (hb.cell (p := ⟨a + 2, 0, none⟩) (by show a + 2 < _; omega)).trans h7, (hb.frozen (p := ⟨a + 2, 0, none⟩) (by show a + 2 < _; omega)).trans h8⟩

theorem rgath_push {w w1 : World} {a : Nat} {s : NSt} {p : Option Addr} {c : Nat} {o : Obj} {v' : Value} {q : Pt} (h : rgath w a s) (hc : w.cell? ⟨a, 0, none⟩ = some (.slice p s.out.length c))
    (hown1 : w1.ownsRow (a + 3) 151 3 v' (s.out.length + 1) (cellsP s.out ++ partCells q)) (hg : (w.alloc o).grownBy w1 (Value.slice p s.out.length c).ownBlock) :
    rgath (w1.setCell ⟨a, 0, none⟩ v') a ⟨s.out ++ [q], s.put, s.drop⟩ ∧ Below a w (w1.setCell ⟨a, 0, none⟩ v') ∧ Below (a + 3) w w1 ∧ w1.cell? ⟨a, 0, none⟩ = some (.slice p s.out.length c) ∧ w1.frozen? ⟨a, 0, none⟩ = false := by
  have hlt := rgath_lt h
  obtain ⟨⟨p1, c1, h1, h2⟩, h3, h4, h6, h7, h8⟩ := h
  rw [hc] at h1
  simp only [Option.some.injEq, Value.slice.injEq, true_and] at h1
  obtain ⟨rfl, rfl⟩ := h1
  have hrow : ∀ k, (Value.slice p s.out.length c).ownBlock = some k → a + 3 ≤ k := fun k hk => (h2.lt k hk).1
  have hb1 : Below (a + 3) w w1 := ((Below.refl (a + 3) w).alloc (by omega) o).grown hg (by rw [World.size_alloc]; omega) hrow
  have hc1 : w1.cell? ⟨a, 0, none⟩ = some (.slice p s.out.length c) := by rw [hb1.cell (p := ⟨a, 0, none⟩) (by show a < _; omega)]; exact hc
  have hf1 : w1.frozen? ⟨a, 0, none⟩ = false := by rw [hb1.frozen (p := ⟨a, 0, none⟩) (by show a < _; omega)]; exact h3
  obtain ⟨pv, cv, rfl⟩ := own_slice hown1
  refine ⟨⟨⟨pv, cv, ?_, ?_⟩, ?_, ?_, ?_, ?_, ?_⟩, (hb1.mono (show a ≤ a + 3 by omega)).setCell (Nat.le_refl _) _, hb1, hc1, hf1⟩
  · show _ = some (Value.slice pv (s.out ++ [q]).length cv)
    rw [List.length_append]; exact World.cell?_setCell_same _ _ _ hc1
  · show World.ownsRow _ _ _ _ (.slice pv (s.out ++ [q]).length cv) (s.out ++ [q]).length (cellsP (s.out ++ [q]))
    rw [List.length_append, cellsP_snoc]; exact own_set hown1 (by omega) _
  · rw [World.frozen?_setCell]; exact hf1
  · rw [cell_set_ne (by omega)]; exact (hb1.cell (p := ⟨a + 1, 0, none⟩) (by show a + 1 < _; omega)).trans h4
  · rw [World.frozen?_setCell]; exact (hb1.frozen (p := ⟨a + 1, 0, none⟩) (by show a + 1 < _; omega)).trans h6
  · rw [cell_set_ne (by omega)]; exact (hb1.cell (p := ⟨a + 2, 0, none⟩) (by show a + 2 < _; omega)).trans h7
  · rw [World.frozen?_setCell]; exact (hb1.frozen (p := ⟨a + 2, 0, none⟩) (by show a + 2 < _; omega)).trans h8

theorem rgath_put {w : World} {a : Nat} {s : NSt} (h : rgath w a s) (q : List UInt8) : rgath (w.setCell ⟨a + 1, 0, none⟩ (.string ⟨q.toArray⟩)) a ⟨s.out, q, s.drop⟩ ∧ Below a w (w.setCell ⟨a + 1, 0, none⟩ (.string ⟨q.toArray⟩)) := by
  have hlt := rgath_lt h
  obtain ⟨⟨p, c, h1, h2⟩, h3, h4, h6, h7, h8⟩ := h
  refine ⟨⟨⟨p, c, ?_, own_set h2 (by omega) _⟩, ?_, World.cell?_setCell_same _ _ _ h4, ?_, ?_, ?_⟩, (Below.refl a w).setCell (by show a ≤ a + 1; omega) _⟩
  · rw [cell_set_ne (by omega)]; exact h1
  · rw [World.frozen?_setCell]; exact h3
  · rw [World.frozen?_setCell]; exact h6
  · rw [cell_set_ne (by omega)]; exact h7
  · rw [World.frozen?_setCell]; exact h8
theorem rgath_drop {w : World} {a : Nat} {s : NSt} (h : rgath w a s) (d : Int) : rgath (w.setCell ⟨a + 2, 0, none⟩ (.int .i64 d)) a ⟨s.out, s.put, d⟩ ∧ Below a w (w.setCell ⟨a + 2, 0, none⟩ (.int .i64 d)) := by
  have hlt := rgath_lt h
  obtain ⟨⟨p, c, h1, h2⟩, h3, h4, h6, h7, h8⟩ := h
  refine ⟨⟨⟨p, c, ?_, own_set h2 (by omega) _⟩, ?_, ?_, ?_, World.cell?_setCell_same _ _ _ h7, ?_⟩, (Below.refl a w).setCell (by show a ≤ a + 2; omega) _⟩
  · rw [cell_set_ne (by omega)]; exact h1
  · rw [World.frozen?_setCell]; exact h3
  · rw [cell_set_ne (by omega)]; exact h4
  · rw [World.frozen?_setCell]; exact h6
  · rw [World.frozen?_setCell]; exact h8

set_option maxRecDepth 100000 in
set_option maxHeartbeats 1000000 in
theorem refDone_oo (a : Nat) (s : NSt) (w : World) (h : rgath w a s) (hlen : s.out.length < 1000000000) (hp : s.put = []) (hd : s.drop = 0) :
    Calls Tryd.prog 98 #[.pointer (some ⟨a + 1, 0, none⟩), .pointer (some ⟨a, 0, none⟩), .pointer (some ⟨a + 2, 0, none⟩)] w fun e w' => (∃ v, e = .returned v) ∧ rgath w' a ⟨s.out, [], 0⟩ ∧ Below a w w' := by
  obtain ⟨i0, hi, hz0, hz1, hz2⟩ := info_parts info_part
  have hlt := rgath_lt h
  have H0 : Hid (rgath w a s) := h
  obtain ⟨⟨p, c, h1, h2⟩, h3, h4, h6, h7, h8⟩ := h
  have HO : Hid (w.ownsRow (a + 3) 151 3 (.slice p s.out.length c) s.out.length (cellsP s.out)) := h2
  have HC : Hid (w.cell? ⟨a, 0, none⟩ = some (.slice p s.out.length c)) := h1
  have hpe : s.put.isEmpty = true := by simpa using hp
  have hd0 : ¬ (0 : Int) < s.drop := by omega
  clear h2
  go_enter Tryd.func98, Tryd.ntmps98
  go_wp2
  go_end0
  have F1 := rgath_put H0.out []
  have F2 := rgath_drop F1.1 0
  exact ⟨⟨_, rfl⟩, F2.1, F1.2.trans F2.2⟩

set_option maxRecDepth 100000 in
set_option maxHeartbeats 1000000 in
theorem refDone_od (a : Nat) (s : NSt) (w : World) (h : rgath w a s) (hlen : s.out.length < 1000000000) (hp : s.put = []) (hd : 0 < s.drop) :
    Calls Tryd.prog 98 #[.pointer (some ⟨a + 1, 0, none⟩), .pointer (some ⟨a, 0, none⟩), .pointer (some ⟨a + 2, 0, none⟩)] w fun e w' => (∃ v, e = .returned v) ∧ rgath w' a ⟨s.out ++ [⟨0, s.drop, []⟩], [], 0⟩ ∧ Below a w w' := by
  obtain ⟨i0, hi, hz0, hz1, hz2⟩ := info_parts info_part
  have hlt := rgath_lt h
  have H0 : Hid (rgath w a s) := h
  obtain ⟨⟨p, c, h1, h2⟩, h3, h4, h6, h7, h8⟩ := h
  have HO : Hid (w.ownsRow (a + 3) 151 3 (.slice p s.out.length c) s.out.length (cellsP s.out)) := h2
  have HC : Hid (w.cell? ⟨a, 0, none⟩ = some (.slice p s.out.length c)) := h1
  have hpe : s.put.isEmpty = true := by simpa using hp
  clear h2
  go_enter Tryd.func98, Tryd.ntmps98
  go_wp2_with (first | (at_builtin; refine wpList_append_own _ rfl _ _ 84 rfl (a + 3) 151 i0 (.agg #[.int .i64 0, .int .i64 0, .string ⟨#[]⟩]) 3 32 Tryd.underlying84 hi hz0 hz1 hz2 rfl (by decide) _ _ _ rfl (HO.out.alloc _) ⟨w.heap.size, 0, none⟩ 1 1 (partCells ⟨0, s.drop, []⟩) rfl rfl (cells_new _ _ _) (partCells_one _) (by unfold maxLen; omega) (by omega) (by first | omega | (simp; omega)) ?_) | fail)
  intro v2 w2 hown2 hg2 _
  have P2 := rgath_push (q := ⟨0, s.drop, []⟩) H0.out HC.out hown2 hg2
  have z4 := h4
  have z6 := h6
  have z7 := h7
  have z8 := h8
  clear h1 h3 h4 h6 h7 h8
  obtain ⟨p2, q2, hv2⟩ := own_slice hown2
  rw [hv2] at P2 ⊢
  obtain ⟨G2, B2, hb2, t1, t2⟩ := P2
  have HG2 : Hid (rgath _ a ⟨s.out ++ [⟨0, s.drop, []⟩], s.put, s.drop⟩) := G2
  have HB2 : Hid (Below a _ _) := B2
  have y4 := (hb2.cell (p := ⟨a + 1, 0, none⟩) (by show a + 1 < _; omega)).trans z4
  have y6 := (hb2.frozen (p := ⟨a + 1, 0, none⟩) (by show a + 1 < _; omega)).trans z6
  have y7 := (hb2.cell (p := ⟨a + 2, 0, none⟩) (by show a + 2 < _; omega)).trans z7
  have y8 := (hb2.frozen (p := ⟨a + 2, 0, none⟩) (by show a + 2 < _; omega)).trans z8
  have hs2 := hb2.size
  clear z4 z6 z7 z8 G2 B2 hown2 hg2 hb2 hv2
  go_wp2
  go_end0
  have F1 := rgath_put HG2.out []
  have F2 := rgath_drop F1.1 0
  exact ⟨⟨_, rfl⟩, F2.1, (HB2.out).trans (F1.2.trans F2.2)⟩

set_option maxRecDepth 100000 in
set_option maxHeartbeats 1000000 in
theorem refDone_po (a : Nat) (s : NSt) (w : World) (h : rgath w a s) (hlen : s.out.length < 1000000000) (hp : s.put ≠ []) (hd : s.drop = 0) :
    Calls Tryd.prog 98 #[.pointer (some ⟨a + 1, 0, none⟩), .pointer (some ⟨a, 0, none⟩), .pointer (some ⟨a + 2, 0, none⟩)] w fun e w' => (∃ v, e = .returned v) ∧ rgath w' a ⟨s.out ++ [⟨0, 0, s.put⟩], [], 0⟩ ∧ Below a w w' := by
  obtain ⟨i0, hi, hz0, hz1, hz2⟩ := info_parts info_part
  have hlt := rgath_lt h
  have H0 : Hid (rgath w a s) := h
  obtain ⟨⟨p, c, h1, h2⟩, h3, h4, h6, h7, h8⟩ := h
  have HO : Hid (w.ownsRow (a + 3) 151 3 (.slice p s.out.length c) s.out.length (cellsP s.out)) := h2
  have HC : Hid (w.cell? ⟨a, 0, none⟩ = some (.slice p s.out.length c)) := h1
  have hpe : s.put.isEmpty = false := by simpa using hp
  have hd0 : ¬ (0 : Int) < s.drop := by omega
  clear h2
  go_enter Tryd.func98, Tryd.ntmps98
  go_wp2_with (first | (at_builtin; refine wpList_append_own _ rfl _ _ 84 rfl (a + 3) 151 i0 (.agg #[.int .i64 0, .int .i64 0, .string ⟨#[]⟩]) 3 32 Tryd.underlying84 hi hz0 hz1 hz2 rfl (by decide) _ _ _ rfl (HO.out.alloc _) ⟨w.heap.size, 0, none⟩ 1 1 (partCells ⟨0, 0, s.put⟩) rfl rfl (cells_new _ _ _) (partCells_one _) (by unfold maxLen; omega) (by omega) (by first | omega | (simp; omega)) ?_) | fail)
  intro v1 w1 hown1 hg1 _
  have P1 := rgath_push (q := ⟨0, 0, s.put⟩) H0.out HC.out hown1 hg1
  obtain ⟨p1, q1, hv1⟩ := own_slice hown1
  rw [hv1] at P1 hown1 ⊢
  obtain ⟨G1, B1, hb1, r1, r2⟩ := P1
  have HG1 : Hid (rgath (w1.setCell ⟨a, 0, none⟩ (.slice p1 (s.out.length + 1) q1)) a ⟨s.out ++ [⟨0, 0, s.put⟩], s.put, s.drop⟩) := G1
  have HB1 : Hid (Below a w (w1.setCell ⟨a, 0, none⟩ (.slice p1 (s.out.length + 1) q1))) := B1
  have HO1 : Hid ((w1.setCell ⟨a, 0, none⟩ (.slice p1 (s.out.length + 1) q1)).ownsRow (a + 3) 151 3 (.slice p1 (s.out.length + 1) q1) (s.out.length + 1) (cellsP s.out ++ partCells ⟨0, 0, s.put⟩)) := own_set hown1 (show a < a + 3 by omega) (.slice p1 (s.out.length + 1) q1)
  have HK1 : Hid ((w1.setCell ⟨a, 0, none⟩ (.slice p1 (s.out.length + 1) q1)).cell? ⟨a, 0, none⟩ = some (.slice p1 (s.out.length + 1) q1)) := World.cell?_setCell_same _ _ _ r1
  have k4 := (hb1.cell (p := ⟨a + 1, 0, none⟩) (by show a + 1 < _; omega)).trans h4
  have k6 := (hb1.frozen (p := ⟨a + 1, 0, none⟩) (by show a + 1 < _; omega)).trans h6
  have k7 := (hb1.cell (p := ⟨a + 2, 0, none⟩) (by show a + 2 < _; omega)).trans h7
  have k8 := (hb1.frozen (p := ⟨a + 2, 0, none⟩) (by show a + 2 < _; omega)).trans h8
  have hs1 := hb1.size
  clear h1 h3 h4 h6 h7 h8 G1 B1 hown1 hg1 hb1 hv1
  go_wp2
  go_end0
  have F1 := rgath_put HG1.out []
  have F2 := rgath_drop F1.1 0
  exact ⟨⟨_, rfl⟩, F2.1, (HB1.out).trans (F1.2.trans F2.2)⟩

set_option maxRecDepth 100000 in
set_option maxHeartbeats 1000000 in
theorem refDone_pd (a : Nat) (s : NSt) (w : World) (h : rgath w a s) (hlen : s.out.length < 1000000000) (hp : s.put ≠ []) (hd : 0 < s.drop) :
    Calls Tryd.prog 98 #[.pointer (some ⟨a + 1, 0, none⟩), .pointer (some ⟨a, 0, none⟩), .pointer (some ⟨a + 2, 0, none⟩)] w fun e w' => (∃ v, e = .returned v) ∧ rgath w' a ⟨s.out ++ [⟨0, 0, s.put⟩, ⟨0, s.drop, []⟩], [], 0⟩ ∧ Below a w w' := by
  obtain ⟨i0, hi, hz0, hz1, hz2⟩ := info_parts info_part
  have hlt := rgath_lt h
  have H0 : Hid (rgath w a s) := h
  obtain ⟨⟨p, c, h1, h2⟩, h3, h4, h6, h7, h8⟩ := h
  have HO : Hid (w.ownsRow (a + 3) 151 3 (.slice p s.out.length c) s.out.length (cellsP s.out)) := h2
  have HC : Hid (w.cell? ⟨a, 0, none⟩ = some (.slice p s.out.length c)) := h1
  have hpe : s.put.isEmpty = false := by simpa using hp
  clear h2
  go_enter Tryd.func98, Tryd.ntmps98
  go_wp2_with (first | (at_builtin; refine wpList_append_own _ rfl _ _ 84 rfl (a + 3) 151 i0 (.agg #[.int .i64 0, .int .i64 0, .string ⟨#[]⟩]) 3 32 Tryd.underlying84 hi hz0 hz1 hz2 rfl (by decide) _ _ _ rfl (HO.out.alloc _) ⟨w.heap.size, 0, none⟩ 1 1 (partCells ⟨0, 0, s.put⟩) rfl rfl (cells_new _ _ _) (partCells_one _) (by unfold maxLen; omega) (by omega) (by first | omega | (simp; omega)) ?_) | fail)
  intro v1 w1 hown1 hg1 _
  have P1 := rgath_push (q := ⟨0, 0, s.put⟩) H0.out HC.out hown1 hg1
  obtain ⟨p1, q1, hv1⟩ := own_slice hown1
  rw [hv1] at P1 hown1 ⊢
  obtain ⟨G1, B1, hb1, r1, r2⟩ := P1
  have HG1 : Hid (rgath (w1.setCell ⟨a, 0, none⟩ (.slice p1 (s.out.length + 1) q1)) a ⟨s.out ++ [⟨0, 0, s.put⟩], s.put, s.drop⟩) := G1
  have HB1 : Hid (Below a w (w1.setCell ⟨a, 0, none⟩ (.slice p1 (s.out.length + 1) q1))) := B1
  have HO1 : Hid ((w1.setCell ⟨a, 0, none⟩ (.slice p1 (s.out.length + 1) q1)).ownsRow (a + 3) 151 3 (.slice p1 (s.out.length + 1) q1) (s.out.length + 1) (cellsP s.out ++ partCells ⟨0, 0, s.put⟩)) := own_set hown1 (show a < a + 3 by omega) (.slice p1 (s.out.length + 1) q1)
  have HK1 : Hid ((w1.setCell ⟨a, 0, none⟩ (.slice p1 (s.out.length + 1) q1)).cell? ⟨a, 0, none⟩ = some (.slice p1 (s.out.length + 1) q1)) := World.cell?_setCell_same _ _ _ r1
  have k4 := (hb1.cell (p := ⟨a + 1, 0, none⟩) (by show a + 1 < _; omega)).trans h4
  have k6 := (hb1.frozen (p := ⟨a + 1, 0, none⟩) (by show a + 1 < _; omega)).trans h6
  have k7 := (hb1.cell (p := ⟨a + 2, 0, none⟩) (by show a + 2 < _; omega)).trans h7
  have k8 := (hb1.frozen (p := ⟨a + 2, 0, none⟩) (by show a + 2 < _; omega)).trans h8
  have hs1 := hb1.size
  clear h1 h3 h4 h6 h7 h8 G1 B1 hown1 hg1 hb1 hv1
  go_wp2_with (first | (at_builtin; refine wpList_append_own _ rfl _ _ 84 rfl (a + 3) 151 i0 (.agg #[.int .i64 0, .int .i64 0, .string ⟨#[]⟩]) 3 32 Tryd.underlying84 hi hz0 hz1 hz2 rfl (by decide) _ _ _ rfl (HO1.out.alloc _) ⟨w1.heap.size, 0, none⟩ 1 1 (partCells ⟨0, s.drop, []⟩) rfl rfl (cells_new_set _ _ _ _ _) (partCells_one _) (by unfold maxLen; omega) (by omega) (by first | omega | (simp; omega)) ?_) | fail)
  intro v2 w2 hown2 hg2 _
  have hown2' : w2.ownsRow (a + 3) 151 3 v2 ((s.out ++ [(⟨0, 0, s.put⟩ : Pt)]).length + 1) (cellsP (s.out ++ [(⟨0, 0, s.put⟩ : Pt)]) ++ partCells ⟨0, s.drop, []⟩) := by
    rw [cellsP_snoc, List.length_append, List.append_assoc]; exact hown2
  have hls : (s.out ++ [(⟨0, 0, s.put⟩ : Pt)]).length = s.out.length + 1 := by rw [List.length_append]; rfl
  have HK1' : (w1.setCell ⟨a, 0, none⟩ (.slice p1 (s.out.length + 1) q1)).cell? ⟨a, 0, none⟩ = some (.slice p1 (s.out ++ [(⟨0, 0, s.put⟩ : Pt)]).length q1) := by rw [hls]; exact HK1.out
  have P2 := rgath_push (q := ⟨0, s.drop, []⟩) HG1.out HK1' hown2' (by rw [hls]; exact hg2)
  have z4 : (w1.setCell ⟨a, 0, none⟩ (.slice p1 (s.out.length + 1) q1)).cell? ⟨a + 1, 0, none⟩ = some (.string ⟨s.put.toArray⟩) := (cell_set_ne (by omega) _).trans k4
  have z6 : (w1.setCell ⟨a, 0, none⟩ (.slice p1 (s.out.length + 1) q1)).frozen? ⟨a + 1, 0, none⟩ = false := by rw [World.frozen?_setCell]; exact k6
  have z7 : (w1.setCell ⟨a, 0, none⟩ (.slice p1 (s.out.length + 1) q1)).cell? ⟨a + 2, 0, none⟩ = some (.int .i64 s.drop) := (cell_set_ne (by omega) _).trans k7
  have z8 : (w1.setCell ⟨a, 0, none⟩ (.slice p1 (s.out.length + 1) q1)).frozen? ⟨a + 2, 0, none⟩ = false := by rw [World.frozen?_setCell]; exact k8
  clear HK1' hown2' k4 k6 k7 k8 r1 r2
  obtain ⟨p2, q2, hv2⟩ := own_slice hown2
  rw [hv2] at P2 ⊢
  obtain ⟨G2, B2, hb2, t1, t2⟩ := P2
  have HG2 : Hid (rgath _ a ⟨s.out ++ [⟨0, 0, s.put⟩] ++ [⟨0, s.drop, []⟩], s.put, s.drop⟩) := G2
  have HB2 : Hid (Below a _ _) := B2
  have y4 := (hb2.cell (p := ⟨a + 1, 0, none⟩) (by show a + 1 < _; omega)).trans z4
  have y6 := (hb2.frozen (p := ⟨a + 1, 0, none⟩) (by show a + 1 < _; omega)).trans z6
  have y7 := (hb2.cell (p := ⟨a + 2, 0, none⟩) (by show a + 2 < _; omega)).trans z7
  have y8 := (hb2.frozen (p := ⟨a + 2, 0, none⟩) (by show a + 2 < _; omega)).trans z8
  have hs2 := hb2.size
  clear z4 z6 z7 z8 G2 B2 hown2 hg2 hb2 hv2
  go_wp2
  go_end0
  have F1 := rgath_put HG2.out []
  have F2 := rgath_drop F1.1 0
  have F3 := F2.1
  rw [List.append_assoc] at F3
  exact ⟨⟨_, rfl⟩, F3, (HB1.out.trans HB2.out).trans (F1.2.trans F2.2)⟩

theorem refDone_any (a : Nat) (s : NSt) (w : World) (h : rgath w a s) (hlen : s.out.length < 1000000000) (h0 : 0 ≤ s.drop) :
    Calls Tryd.prog 98 #[.pointer (some ⟨a + 1, 0, none⟩), .pointer (some ⟨a, 0, none⟩), .pointer (some ⟨a + 2, 0, none⟩)] w fun e w' => (∃ v, e = .returned v) ∧ rgath w' a ⟨tellP s, [], 0⟩ ∧ Below a w w' := by
  unfold tellP
  by_cases hp : s.put = []
  · by_cases hd : s.drop = 0
    · have := refDone_oo a s w h hlen hp hd
      simpa [hp, hd] using this
    · have := refDone_od a s w h hlen hp (by omega)
      simpa [hp, hd] using this
  · by_cases hd : s.drop = 0
    · have := refDone_po a s w h hlen hp hd
      simpa [hp, hd] using this
    · have := refDone_pd a s w h hlen hp (by omega)
      simpa [hp, hd] using this
end Go.Proofs.YtbackgognkgfdaaDoor
