/-
  The document's own Count: what it returns of any text.
-/
import Derived.Test.YtldhbjmillfjgabGreatDoorRefHalves
import Derived.Test.YtldhbjmillfjgabGreatDoorShelfC
namespace Go.Proofs.YtldhbjmillfjgabGreatDoor
open Go.RowKit
set_option linter.unusedVariables false

/-- The two results' blocks hold noughts, and may be written. -/
def zeros (W : World) (B : Nat) : Prop :=
  (W.cell? ⟨B, 0, none⟩ = some (.int .i64 0) ∧ W.cell? ⟨B, 1, none⟩ = some (.int .i64 0) ∧ W.cell? ⟨B, 2, none⟩ = some (.int .i64 0) ∧ W.cell? ⟨B, 3, none⟩ = some (.int .i64 0)) ∧
  (W.frozen? ⟨B, 0, none⟩ = false ∧ W.frozen? ⟨B, 1, none⟩ = false ∧ W.frozen? ⟨B, 2, none⟩ = false ∧ W.frozen? ⟨B, 3, none⟩ = false) ∧
  (W.cell? ⟨B + 1, 0, none⟩ = some (.int .i64 0) ∧ W.cell? ⟨B + 1, 1, none⟩ = some (.int .i64 0)) ∧
  (W.frozen? ⟨B + 1, 0, none⟩ = false ∧ W.frozen? ⟨B + 1, 1, none⟩ = false)
theorem zeros_below {W W' : World} {B : Nat} (h : zeros W B) (hb : Below W.heap.size W W') : zeros W' B := by
  obtain ⟨⟨c0, c1, c2, c3⟩, ⟨d0, d1, d2, d3⟩, ⟨f0, f1⟩, ⟨g0, g1⟩⟩ := h
  have l0 : B < W.heap.size := World.block_lt_of_cell? W _ c0
  have l1 : B + 1 < W.heap.size := World.block_lt_of_cell? W _ f0
  have kc : ∀ i v, W.cell? ⟨B, i, none⟩ = some v → W'.cell? ⟨B, i, none⟩ = some v := fun i v h => (hb.cell (p := ⟨B, i, none⟩) l0).trans h
  have kd : ∀ i, W.frozen? ⟨B, i, none⟩ = false → W'.frozen? ⟨B, i, none⟩ = false := fun i h => (hb.frozen (p := ⟨B, i, none⟩) l0).trans h
  have kf : ∀ i v, W.cell? ⟨B + 1, i, none⟩ = some v → W'.cell? ⟨B + 1, i, none⟩ = some v := fun i v h => (hb.cell (p := ⟨B + 1, i, none⟩) l1).trans h
  have kg : ∀ i, W.frozen? ⟨B + 1, i, none⟩ = false → W'.frozen? ⟨B + 1, i, none⟩ = false := fun i h => (hb.frozen (p := ⟨B + 1, i, none⟩) l1).trans h
  exact ⟨⟨kc _ _ c0, kc _ _ c1, kc _ _ c2, kc _ _ c3⟩, ⟨kd _ d0, kd _ d1, kd _ d2, kd _ d3⟩, ⟨kf _ _ f0, kf _ _ f1⟩, ⟨kg _ g0, kg _ g1⟩⟩
theorem zeros_new (w : World) : zeros ((w.alloc (.cells #[.int .i64 0, .int .i64 0, .int .i64 0, .int .i64 0] 25)).alloc (.cells #[.int .i64 0, .int .i64 0] 28)) w.heap.size := by
  refine ⟨⟨?_, ?_, ?_, ?_⟩, ⟨?_, ?_, ?_, ?_⟩, ⟨?_, ?_⟩, ⟨?_, ?_⟩⟩ <;> simp [go_sem]
theorem below_two {w w1 : World} {o1 o2 : Obj} (hb : Below ((w.alloc o1).alloc o2).heap.size ((w.alloc o1).alloc o2) w1) : Below w.heap.size w w1 :=
  (((Below.refl _ w).alloc (Nat.le_refl _) _).alloc (by rw [World.size_alloc]; exact Nat.le_succ _) _).trans (hb.mono (by rw [World.size_alloc, World.size_alloc]; omega))
theorem size_two {w w1 : World} {o1 o2 : Obj} (hb : Below ((w.alloc o1).alloc o2).heap.size ((w.alloc o1).alloc o2) w1) : w.heap.size + 1 < w1.heap.size := by
  have := hb.size
  rw [World.size_alloc, World.size_alloc] at this
  omega
theorem below_six {w W : World} {v0 v1 v2 v3 v4 v5 : Value} (h : Below w.heap.size w W) :
    Below w.heap.size w ((((((W.setCell ⟨w.heap.size, 0, none⟩ v0).setCell ⟨w.heap.size, 1, none⟩ v1).setCell ⟨w.heap.size, 2, none⟩ v2).setCell ⟨w.heap.size, 3, none⟩ v3).setCell ⟨w.heap.size + 1, 0, none⟩ v4).setCell ⟨w.heap.size + 1, 1, none⟩ v5) :=
  (((((h.setCell (p := ⟨w.heap.size, 0, none⟩) (Nat.le_refl _) _).setCell (p := ⟨w.heap.size, 1, none⟩) (Nat.le_refl _) _).setCell (p := ⟨w.heap.size, 2, none⟩) (Nat.le_refl _) _).setCell (p := ⟨w.heap.size, 3, none⟩) (Nat.le_refl _) _).setCell (p := ⟨w.heap.size + 1, 0, none⟩) (Nat.le_succ _) _).setCell (p := ⟨w.heap.size + 1, 1, none⟩) (Nat.le_succ _) _

set_option maxRecDepth 100000 in
set_option maxHeartbeats 4000000 in
theorem refCount_bad (s : ByteArray) (hs : s.size < 100000000) (w : World) (hok : (scan s.data.toList).2 = false) :
    Calls Tryz.prog 8 #[.string s] w fun e w' => Below w.heap.size w w' ∧ e = .returned (.tuple #[cnt 0 0 0 0, fault 3 (place s.data.toList)]) := by
  have cR : ∀ w, Calls Tryz.prog 56 #[.string s] w fun e w' => e = .returned (.tuple #[.slice none 0 0, .agg #[.int .i64 3, .int .i64 (place s.data.toList)]]) ∧ Below w.heap.size w w' := fun w => by
    refine (refRunes_any s hs w).mono ?_
    rintro e w' ⟨hb, ⟨h, _⟩ | ⟨_, rfl⟩⟩
    · rw [hok] at h; cases h
    · exact ⟨rfl, hb⟩
  clear hok hs
  generalize ((place s.data.toList : Nat) : Int) = P at cR ⊢
  unfold cnt fault
  go_enter Tryz.func8, Tryz.ntmps8
  go_wp2_with (first | (go_at_call 56; refine (cR _).mono ?_; rintro e w1 ⟨rfl, hb1⟩; have k0 := zeros_below (zeros_below (zeros_new w) hb1) ((Below.refl _ w1).alloc (Nat.le_refl _) (.cells #[.int .i64 3, .int .i64 P] 28)); obtain ⟨⟨c0, c1, c2, c3⟩, ⟨d0, d1, d2, d3⟩, ⟨f0, f1⟩, ⟨g0, g1⟩⟩ := k0; have hlt := size_two hb1; have hn1 : ¬ w1.heap.size = w.heap.size := (by omega); have hn2 : ¬ w.heap.size = w1.heap.size := (by omega); have hn3 : ¬ w1.heap.size = w.heap.size + 1 := (by omega); have hn4 : ¬ w.heap.size + 1 = w1.heap.size := (by omega)) | fail)
  go_region
  all_goals go_wp2
  all_goals
    refine bodyPost_ret (v := .tuple #[.agg #[.int .i64 0, .int .i64 0, .int .i64 0, .int .i64 0], .agg #[.int .i64 3, .int .i64 P]]) (by simp [results, Tryz.results8, go_sem, c0, c1, c2, c3, f0, f1]) rfl ?_
    exact ⟨(below_six ((below_two hb1).alloc (Nat.le_of_lt (Nat.lt_trans (Nat.lt_succ_self _) hlt)) _)).drew, rfl⟩

theorem cells21_toI (rs : List Nat) : cellsOf21 (wide rs) = (toI rs).map (Value.int .i32) := by
  simp [cellsOf21, wide, toI, List.map_map, Function.comp_def]

set_option maxRecDepth 100000 in
set_option maxHeartbeats 4000000 in
theorem refCount_good (s : ByteArray) (hs : s.size < 100000000) (w : World) (hok : (scan s.data.toList).2 = true) :
    Calls Tryz.prog 8 #[.string s] w fun e w' => Below w.heap.size w w' ∧
      e = .returned (.tuple #[cnt s.size (halRow (runesOf s.data.toList)).length (runesOf s.data.toList).length (Lib.countByte s.data.toList 10), fault 0 (-1)]) := by
  have hru : ∀ r ∈ runesOf s.data.toList, isRune r := fun r h => runesOf_rune h
  have hrl : (runesOf s.data.toList).length < 100000000 := by
    have := scan_len s.data.toList
    rw [← Lib.size_eq] at this
    unfold runesOf
    rw [List.length_map]
    omega
  have cR : ∀ w, Calls Tryz.prog 56 #[.string s] w fun e w' => Below w.heap.size w w' ∧ ∃ p c, e = .returned (.tuple #[.slice p (runesOf s.data.toList).length c, .agg #[.int .i64 0, .int .i64 (-1)]]) ∧ reads w' .i32 (.slice p (runesOf s.data.toList).length c) (toI (runesOf s.data.toList)) := fun w => by
    refine (refRunes_any s hs w).mono ?_
    rintro e w' ⟨hb, ⟨_, v, rfl, p, c, rfl, hown⟩ | ⟨h, _⟩⟩
    · have e1 : cellsOf21 (scan s.data.toList).1 = (toI (runesOf s.data.toList)).map (Value.int .i32) := by rw [scan_wide, cells21_toI]
      have e2 : (cellsOf21 (scan s.data.toList).1).length = (toI (runesOf s.data.toList)).length := by rw [e1, List.length_map]
      have e3 : (toI (runesOf s.data.toList)).length = (runesOf s.data.toList).length := by simp [toI]
      rw [e2] at hown
      rw [e2, ← e3]
      exact ⟨hb, p, c, rfl, reads_own e1 hown⟩
    · rw [hok] at h; cases h
  have cC := fun w => Tryz.strings_Count_one s 10 w
  have hcb : Lib.countByte s.data.toList 10 < 100000000 := by
    have : Lib.countByte s.data.toList 10 ≤ s.data.toList.length := List.count_le_length
    rw [← Lib.size_eq] at this
    omega
  clear hok hs
  generalize Lib.countByte s.data.toList 10 = CB at cC hcb ⊢
  generalize runesOf s.data.toList = rs at *
  have HRU : Hid (∀ r ∈ rs, isRune r) := hru
  obtain ⟨n, hn⟩ : ∃ n, n = rs.length := ⟨_, rfl⟩
  have HRL : Hid (rs.length < 100000000) := hrl
  rw [← hn] at cR hrl ⊢
  have HN : Hid (n = rs.length) := hn
  clear hru hn
  unfold cnt fault
  go_enter Tryz.func8, Tryz.ntmps8
  go_wp2_with (first | (go_at_call 56; refine (cR _).mono ?_; rintro e w1 ⟨hb1, p, c, rfl, hrd⟩; have HRD : Hid (reads w1 .i32 (.slice p n c) (toI rs)) := hrd; clear hrd; have hBF : Below w1.heap.size w1 (w1.alloc (.cells #[.int .i64 0, .int .i64 (-1)] 28)) := (Below.refl _ w1).alloc (Nat.le_refl _) _; have k0 := zeros_below (zeros_below (zeros_new w) hb1) hBF; have KZ : Hid (zeros (w1.alloc (.cells #[.int .i64 0, .int .i64 (-1)] 28)) w.heap.size) := k0; obtain ⟨⟨c0, c1, c2, c3⟩, ⟨d0, d1, d2, d3⟩, ⟨f0, f1⟩, ⟨g0, g1⟩⟩ := k0; have hlt := size_two hb1; have hn1 : ¬ w1.heap.size = w.heap.size := (by omega); have hn2 : ¬ w.heap.size = w1.heap.size := (by omega); have hn3 : ¬ w1.heap.size = w.heap.size + 1 := (by omega); have hn4 : ¬ w.heap.size + 1 = w1.heap.size := (by omega)) | fail)
  go_region_with (first | (go_at_call 57; refine (refHalves_any _ rs _ HRU.out (reads_below HRD.out hBF.drew (Nat.le_refl _)) HRL.out).mono ?_; rintro e w2 ⟨v2, rfl, ⟨p2, c2', rfl, hig⟩, hb2⟩; clear hig; have k2 := zeros_below (W := (w1.alloc (.cells #[.int .i64 0, .int .i64 (-1)] 28)).drew) (zeros_below KZ.out (Below.refl _ _).drew) hb2; obtain ⟨⟨C0, C1, C2, C3⟩, ⟨D0, D1, D2, D3⟩, ⟨F0, F1⟩, ⟨G0, G1⟩⟩ := k2; have e0 : w2.cell? ⟨w1.heap.size, 0, none⟩ = some (.int .i64 0) := (hb2.cell (p := ⟨w1.heap.size, 0, none⟩) (by simp)).trans (by simp [go_sem]); have e1 : w2.cell? ⟨w1.heap.size, 1, none⟩ = some (.int .i64 (-1)) := (hb2.cell (p := ⟨w1.heap.size, 1, none⟩) (by simp)).trans (by simp [go_sem])) | (go_at_call 58; refine (cC _).mono ?_; rintro e wx ⟨rfl, hwx⟩; obtain rfl := hwx.symm))
  all_goals
    go_wp2
    refine bodyPost_ret (v := .tuple #[.agg #[.int .i64 s.size, .int .i64 (halRow rs).length, .int .i64 n, .int .i64 CB], .agg #[.int .i64 0, .int .i64 (-1)]]) (by simp [results, Tryz.results8, go_sem, C0, C1, C2, C3, F0, F1]) rfl ?_
    have hle : w.heap.size ≤ w1.heap.size := by omega
    have hBw : Below w.heap.size w w2 := ((below_two hb1).alloc hle _).drew.trans (hb2.mono (by simp; omega))
    exact ⟨below_six hBw, rfl⟩
end Go.Proofs.YtldhbjmillfjgabGreatDoor
