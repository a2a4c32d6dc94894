/-
  The document's own Count: what it returns of any text.
  Plain mathematics: what a text counts, told by its runes, and by its bytes.
  The rope's tree, as memory holds it; what its nodes' counts, height and size tell.
  rope.link: a chunk above two trees.
  Plain mathematics: the rope's trees: chunks in order, heights, balance.
  rope.turn: a chunk above two trees that differ by two in height at most.
  rope.turn, where the left one is the higher by two: twice.
  rope.turn, where the left one is the higher by two: once.
  rope.turn, where the right one is the higher by two: twice.
  rope.turn, where the right one is the higher by two: once.
  rope.turn: what it makes of two trees with a chunk between.
  rope.join: a chunk above two trees of any heights.
  strings.Clone: the same bytes: the library's contract for its one callee, met at this program; rope.chunkOf.
  rope.chunkOf.
  The same, where one block of the call's own is written meanwhile: operations that yield one value in every world that has grown but for that block are taken first.
  rope.last: the last chunk of a tree, and the tree of the others.
-/
import Derived.Test.YtldhbjmillfjgaaGreatDoorPartA
import Derived.Shelf.Pu.Clone
namespace Go.Proofs.YtldhbjmillfjgaaGreatDoor
open Go.RowKit
set_option linter.unusedVariables false

theorem alloc_cell {W : World} {a : Addr} {v : Value} (h : W.cell? a = some v) (hs : a.spot = none) (o : Obj) : (W.alloc o).cell? a = some v :=
  ((Below.refl W.heap.size W).alloc (Nat.le_refl _) o).cell (p := a) (World.block_lt_of_cell? W _ h) |>.trans h
theorem alloc_frozen {W : World} {a : Addr} (hl : a.block < W.heap.size) (h : W.frozen? a = false) (o : Obj) : (W.alloc o).frozen? a = false :=
  ((Below.refl W.heap.size W).alloc (Nat.le_refl _) o).frozen (p := a) hl |>.trans h

/-- The two results' blocks hold noughts, and may be written. -/
def zeros (W : World) (B : Nat) : Prop :=
  (W.cell? ⟨B, 0, none⟩ = some (.int .i64 0) ∧ W.cell? ⟨B, 1, none⟩ = some (.int .i64 0) ∧ W.cell? ⟨B, 2, none⟩ = some (.int .i64 0) ∧ W.cell? ⟨B, 3, none⟩ = some (.int .i64 0)) ∧
  (W.frozen? ⟨B, 0, none⟩ = false ∧ W.frozen? ⟨B, 1, none⟩ = false ∧ W.frozen? ⟨B, 2, none⟩ = false ∧ W.frozen? ⟨B, 3, none⟩ = false) ∧
  (W.cell? ⟨B + 1, 0, none⟩ = some (.int .i64 0) ∧ W.cell? ⟨B + 1, 1, none⟩ = some (.int .i64 0)) ∧
  (W.frozen? ⟨B + 1, 0, none⟩ = false ∧ W.frozen? ⟨B + 1, 1, none⟩ = false)
theorem zeros_below {W W' : World} {B : Nat} (h : zeros W B) (hb : Below W.heap.size W W') : zeros W' B := by
  obtain ⟨⟨c0, c1, c2, c3⟩, ⟨d0, d1, d2, d3⟩, ⟨f0, f1⟩, ⟨g0, g1⟩⟩ := h
  have l0 : B < W.heap.size := World.block_lt_of_cell? W _ c0
  have l1 : B + 1 < W.heap.size := World.block_lt_of_cell? W _ f0
  have kc : ∀ i v, W.cell? ⟨B, i, none⟩ = some v → W'.cell? ⟨B, i, none⟩ = some v := fun i v h => (hb.cell (p := ⟨B, i, none⟩) l0).trans h
  have kd : ∀ i, W.frozen? ⟨B, i, none⟩ = false → W'.frozen? ⟨B, i, none⟩ = false := fun i h => (hb.frozen (p := ⟨B, i, none⟩) l0).trans h
  have kf : ∀ i v, W.cell? ⟨B + 1, i, none⟩ = some v → W'.cell? ⟨B + 1, i, none⟩ = some v := fun i v h => (hb.cell (p := ⟨B + 1, i, none⟩) l1).trans h
  have kg : ∀ i, W.frozen? ⟨B + 1, i, none⟩ = false → W'.frozen? ⟨B + 1, i, none⟩ = false := fun i h => (hb.frozen (p := ⟨B + 1, i, none⟩) l1).trans h
  exact ⟨⟨kc _ _ c0, kc _ _ c1, kc _ _ c2, kc _ _ c3⟩, ⟨kd _ d0, kd _ d1, kd _ d2, kd _ d3⟩, ⟨kf _ _ f0, kf _ _ f1⟩, ⟨kg _ g0, kg _ g1⟩⟩
theorem zeros_new (w : World) : zeros ((w.alloc (.cells #[.int .i64 0, .int .i64 0, .int .i64 0, .int .i64 0] 29)).alloc (.cells #[.int .i64 0, .int .i64 0] 32)) w.heap.size := by
  refine ⟨⟨?_, ?_, ?_, ?_⟩, ⟨?_, ?_, ?_, ?_⟩, ⟨?_, ?_⟩, ⟨?_, ?_⟩⟩ <;> simp [go_sem]
theorem below_two {w w1 : World} {o1 o2 : Obj} (hb : Below ((w.alloc o1).alloc o2).heap.size ((w.alloc o1).alloc o2) w1) : Below w.heap.size w w1 :=
  (((Below.refl _ w).alloc (Nat.le_refl _) _).alloc (by rw [World.size_alloc]; exact Nat.le_succ _) _).trans (hb.mono (by rw [World.size_alloc, World.size_alloc]; omega))
theorem size_two {w w1 : World} {o1 o2 : Obj} (hb : Below ((w.alloc o1).alloc o2).heap.size ((w.alloc o1).alloc o2) w1) : w.heap.size + 1 < w1.heap.size := by
  have := hb.size
  rw [World.size_alloc, World.size_alloc] at this
  omega
theorem below_six {w W : World} {v0 v1 v2 v3 v4 v5 : Value} (h : Below w.heap.size w W) :
    Below w.heap.size w ((((((W.setCell ⟨w.heap.size, 0, none⟩ v0).setCell ⟨w.heap.size, 1, none⟩ v1).setCell ⟨w.heap.size, 2, none⟩ v2).setCell ⟨w.heap.size, 3, none⟩ v3).setCell ⟨w.heap.size + 1, 0, none⟩ v4).setCell ⟨w.heap.size + 1, 1, none⟩ v5) :=
  (((((h.setCell (p := ⟨w.heap.size, 0, none⟩) (Nat.le_refl _) _).setCell (p := ⟨w.heap.size, 1, none⟩) (Nat.le_refl _) _).setCell (p := ⟨w.heap.size, 2, none⟩) (Nat.le_refl _) _).setCell (p := ⟨w.heap.size, 3, none⟩) (Nat.le_refl _) _).setCell (p := ⟨w.heap.size + 1, 0, none⟩) (Nat.le_succ _) _).setCell (p := ⟨w.heap.size + 1, 1, none⟩) (Nat.le_succ _) _

set_option maxRecDepth 100000 in
set_option maxHeartbeats 4000000 in
theorem refCount_bad (s : ByteArray) (hs : s.size < 100000000) (w : World) (hok : (scan s.data.toList).2 = false) :
    Calls Tryz.prog 6 #[.string s] w fun e w' => Below w.heap.size w w' ∧ e = .returned (.tuple #[cnt 0 0 0 0, fault 3 (place s.data.toList)]) := by
  have cR : ∀ w, Calls Tryz.prog 28 #[.string s] w fun e w' => e = .returned (.tuple #[.slice none 0 0, .agg #[.int .i64 3, .int .i64 (place s.data.toList)]]) ∧ Below w.heap.size w w' := fun w => by
    refine (refRunes_any s hs w).mono ?_
    rintro e w' ⟨hb, ⟨h, _⟩ | ⟨_, rfl⟩⟩
    · rw [hok] at h; cases h
    · exact ⟨rfl, hb⟩
  clear hok hs
  generalize ((place s.data.toList : Nat) : Int) = P at cR ⊢
  unfold cnt fault
  go_enter Tryz.func6, Tryz.ntmps6
  go_wp2_with (first | (go_at_call 28; refine (cR _).mono ?_; rintro e w1 ⟨rfl, hb1⟩; have k0 := zeros_below (zeros_below (zeros_new w) hb1) ((Below.refl _ w1).alloc (Nat.le_refl _) (.cells #[.int .i64 3, .int .i64 P] 32)); obtain ⟨⟨c0, c1, c2, c3⟩, ⟨d0, d1, d2, d3⟩, ⟨f0, f1⟩, ⟨g0, g1⟩⟩ := k0; have hlt := size_two hb1; have hn1 : ¬ w1.heap.size = w.heap.size := (by omega); have hn2 : ¬ w.heap.size = w1.heap.size := (by omega); have hn3 : ¬ w1.heap.size = w.heap.size + 1 := (by omega); have hn4 : ¬ w.heap.size + 1 = w1.heap.size := (by omega)) | fail)
  go_region
  all_goals go_wp2
  all_goals
    refine bodyPost_ret (v := .tuple #[.agg #[.int .i64 0, .int .i64 0, .int .i64 0, .int .i64 0], .agg #[.int .i64 3, .int .i64 P]]) (by simp [results, Tryz.results6, go_sem, c0, c1, c2, c3, f0, f1]) rfl ?_
    exact ⟨(below_six ((below_two hb1).alloc (Nat.le_of_lt (Nat.lt_trans (Nat.lt_succ_self _) hlt)) _)).drew, rfl⟩

theorem cells21_toI (rs : List Nat) : cellsOf21 (wide rs) = (toI rs).map (Value.int .i32) := by
  simp [cellsOf21, wide, toI, List.map_map, Function.comp_def]

set_option maxRecDepth 100000 in
set_option maxHeartbeats 4000000 in
theorem refCount_good (s : ByteArray) (hs : s.size < 100000000) (w : World) (hok : (scan s.data.toList).2 = true) :
    Calls Tryz.prog 6 #[.string s] w fun e w' => Below w.heap.size w w' ∧
      e = .returned (.tuple #[cnt s.size (halRow (runesOf s.data.toList)).length (runesOf s.data.toList).length (Lib.countByte s.data.toList 10), fault 0 (-1)]) := by
  have hru : ∀ r ∈ runesOf s.data.toList, isRune r := fun r h => runesOf_rune h
  have hrl : (runesOf s.data.toList).length < 100000000 := by
    have := scan_len s.data.toList
    rw [← Lib.size_eq] at this
    unfold runesOf
    rw [List.length_map]
    omega
  have cR : ∀ w, Calls Tryz.prog 28 #[.string s] w fun e w' => Below w.heap.size w w' ∧ ∃ p c, e = .returned (.tuple #[.slice p (runesOf s.data.toList).length c, .agg #[.int .i64 0, .int .i64 (-1)]]) ∧ reads w' .i32 (.slice p (runesOf s.data.toList).length c) (toI (runesOf s.data.toList)) := fun w => by
    refine (refRunes_any s hs w).mono ?_
    rintro e w' ⟨hb, ⟨_, v, rfl, p, c, rfl, hown⟩ | ⟨h, _⟩⟩
    · have e1 : cellsOf21 (scan s.data.toList).1 = (toI (runesOf s.data.toList)).map (Value.int .i32) := by rw [scan_wide, cells21_toI]
      have e2 : (cellsOf21 (scan s.data.toList).1).length = (toI (runesOf s.data.toList)).length := by rw [e1, List.length_map]
      have e3 : (toI (runesOf s.data.toList)).length = (runesOf s.data.toList).length := by simp [toI]
      rw [e2] at hown
      rw [e2, ← e3]
      exact ⟨hb, p, c, rfl, reads_own e1 hown⟩
    · rw [hok] at h; cases h
  have cC := fun w => Tryz.strings_Count_one s 10 w
  have hcb : Lib.countByte s.data.toList 10 < 100000000 := by
    have : Lib.countByte s.data.toList 10 ≤ s.data.toList.length := List.count_le_length
    rw [← Lib.size_eq] at this
    omega
  clear hok hs
  generalize Lib.countByte s.data.toList 10 = CB at cC hcb ⊢
  generalize runesOf s.data.toList = rs at *
  have HRU : Hid (∀ r ∈ rs, isRune r) := hru
  obtain ⟨n, hn⟩ : ∃ n, n = rs.length := ⟨_, rfl⟩
  have HRL : Hid (rs.length < 100000000) := hrl
  rw [← hn] at cR hrl ⊢
  have HN : Hid (n = rs.length) := hn
  clear hru hn
  unfold cnt fault
  go_enter Tryz.func6, Tryz.ntmps6
  go_wp2_with (first | (go_at_call 28; refine (cR _).mono ?_; rintro e w1 ⟨hb1, p, c, rfl, hrd⟩; have HRD : Hid (reads w1 .i32 (.slice p n c) (toI rs)) := hrd; clear hrd; have hBF : Below w1.heap.size w1 (w1.alloc (.cells #[.int .i64 0, .int .i64 (-1)] 32)) := (Below.refl _ w1).alloc (Nat.le_refl _) _; have k0 := zeros_below (zeros_below (zeros_new w) hb1) hBF; have KZ : Hid (zeros (w1.alloc (.cells #[.int .i64 0, .int .i64 (-1)] 32)) w.heap.size) := k0; obtain ⟨⟨c0, c1, c2, c3⟩, ⟨d0, d1, d2, d3⟩, ⟨f0, f1⟩, ⟨g0, g1⟩⟩ := k0; have hlt := size_two hb1; have hn1 : ¬ w1.heap.size = w.heap.size := (by omega); have hn2 : ¬ w.heap.size = w1.heap.size := (by omega); have hn3 : ¬ w1.heap.size = w.heap.size + 1 := (by omega); have hn4 : ¬ w.heap.size + 1 = w1.heap.size := (by omega)) | fail)
  go_region_with (first | (go_at_call 29; refine (refHalves_any _ rs _ HRU.out (reads_below HRD.out hBF.drew (Nat.le_refl _)) HRL.out).mono ?_; rintro e w2 ⟨v2, rfl, ⟨p2, c2', rfl, hig⟩, hb2⟩; clear hig; have k2 := zeros_below (W := (w1.alloc (.cells #[.int .i64 0, .int .i64 (-1)] 32)).drew) (zeros_below KZ.out (Below.refl _ _).drew) hb2; obtain ⟨⟨C0, C1, C2, C3⟩, ⟨D0, D1, D2, D3⟩, ⟨F0, F1⟩, ⟨G0, G1⟩⟩ := k2; have e0 : w2.cell? ⟨w1.heap.size, 0, none⟩ = some (.int .i64 0) := (hb2.cell (p := ⟨w1.heap.size, 0, none⟩) (by simp)).trans (by simp [go_sem]); have e1 : w2.cell? ⟨w1.heap.size, 1, none⟩ = some (.int .i64 (-1)) := (hb2.cell (p := ⟨w1.heap.size, 1, none⟩) (by simp)).trans (by simp [go_sem])) | (go_at_call 30; refine (cC _).mono ?_; rintro e wx ⟨rfl, hwx⟩; obtain rfl := hwx.symm))
  all_goals
    go_wp2
    refine bodyPost_ret (v := .tuple #[.agg #[.int .i64 s.size, .int .i64 (halRow rs).length, .int .i64 n, .int .i64 CB], .agg #[.int .i64 0, .int .i64 (-1)]]) (by simp [results, Tryz.results6, go_sem, C0, C1, C2, C3, F0, F1]) rfl ?_
    have hle : w.heap.size ≤ w1.heap.size := by omega
    have hBw : Below w.heap.size w w2 := ((below_two hb1).alloc hle _).drew.trans (hb2.mono (by simp; omega))
    exact ⟨below_six hBw, rfl⟩
end Go.Proofs.YtldhbjmillfjgaaGreatDoor

namespace Go.Proofs.YtldhbjmillfjgaaGreatDoor

theorem sum1_wide (rs : List Nat) : sum1 (wide rs) = ((encs rs).length : Int) := by
  induction rs with
  | nil => rfl
  | cons r rs ih =>
    have e : sum1 (wide (r :: rs)) = ((enc r).length : Int) + sum1 (wide rs) := by simp [sum1, wide]
    rw [e, ih, encs_cons, List.length_append]
    push_cast
    rfl
theorem sum2_wide (rs : List Nat) : sum2 (wide rs) = ((halRow rs).length : Int) := by
  induction rs with
  | nil => rfl
  | cons r rs ih =>
    have e : sum2 (wide (r :: rs)) = cH r + sum2 (wide rs) := by simp [sum2, wide]
    have e2 : halRow (r :: rs) = halCells r ++ halRow rs := by simp [halRow]
    have e3 : ((halCells r).length : Int) = cH r := by
      unfold halCells hal cH
      split <;> simp
    rw [e, ih, e2, List.length_append, ← e3]
    push_cast
    rfl
theorem enc_count {r : Nat} (hr : isRune r) : ((enc r).count 10 : Int) = cL r := by
  unfold isRune at hr
  have ne : ∀ n : Nat, n < 256 → n ≠ 10 → (n.toUInt8 == (10 : UInt8)) = false := by
    intro n h1 h2
    rw [beq_eq_false_iff_ne]
    intro e
    have := congrArg UInt8.toNat e
    rw [toU8 h1] at this
    exact h2 this
  unfold cL
  by_cases h1 : r ≤ 127
  · rw [enc1 h1]
    by_cases h : r = 10
    · subst h; rfl
    · rw [if_neg h, List.count_cons, ne r (by omega) h]; rfl
  rw [if_neg (by omega)]
  by_cases h2 : r ≤ 2047
  · rw [enc2 (by omega) h2, List.count_cons, List.count_cons, ne _ (by omega) (by omega), ne _ (by omega) (by omega)]; rfl
  by_cases h3 : r ≤ 65535
  · rw [enc3 (by omega), List.count_cons, List.count_cons, List.count_cons, ne _ (by omega) (by omega), ne _ (by omega) (by omega), ne _ (by omega) (by omega)]; rfl
  · rw [enc4 (by omega) (by omega), List.count_cons, List.count_cons, List.count_cons, List.count_cons, ne _ (by omega) (by omega), ne _ (by omega) (by omega), ne _ (by omega) (by omega), ne _ (by omega) (by omega)]; rfl
theorem sum4_wide {rs : List Nat} (h : ∀ r ∈ rs, isRune r) : sum4 (wide rs) = (Lib.countByte (encs rs) 10 : Int) := by
  unfold Lib.countByte
  induction rs with
  | nil => rfl
  | cons r rs ih =>
    have e : sum4 (wide (r :: rs)) = cL r + sum4 (wide rs) := by simp [sum4, wide]
    rw [e, ih fun x hx => h x (by simp [hx]), encs_cons, List.count_append, ← enc_count (h r (by simp))]
    push_cast
    rfl
/-- A sound text's counts, by either way. -/
theorem counts_same {l : List UInt8} (h : (scan l).2 = true) : sum1 (scan l).1 = (l.length : Int) ∧ sum2 (scan l).1 = ((halRow (runesOf l)).length : Int) ∧ ((scan l).1.length : Int) = ((runesOf l).length : Int) ∧ sum4 (scan l).1 = (Lib.countByte l 10 : Int) := by
  have e := encs_runesOf h
  have hr : ∀ r ∈ runesOf l, isRune r := fun r h => runesOf_rune h
  have h1 := sum1_wide (runesOf l)
  have h4 := sum4_wide hr
  rw [e] at h1 h4
  rw [scan_wide]
  exact ⟨h1, sum2_wide _, by simp [wide], h4⟩
end Go.Proofs.YtldhbjmillfjgaaGreatDoor

namespace Go.Proofs.YtldhbjmillfjgaaGreatDoor
open Go.RowKit
set_option linter.unusedVariables false

/-! ### What runes count -/
def C1 (rs : List Nat) : Int := sum1 (wide rs)
def C2 (rs : List Nat) : Int := sum2 (wide rs)
def C3 (rs : List Nat) : Int := rs.length
def C4 (rs : List Nat) : Int := sum4 (wide rs)
theorem wide_append (a b : List Nat) : wide (a ++ b) = wide a ++ wide b := by simp [wide]
theorem C1_append (a b : List Nat) : C1 (a ++ b) = C1 a + C1 b := by unfold C1 sum1; rw [wide_append, List.map_append, List.sum_append]
theorem C2_append (a b : List Nat) : C2 (a ++ b) = C2 a + C2 b := by unfold C2 sum2; rw [wide_append, List.map_append, List.sum_append]
theorem C3_append (a b : List Nat) : C3 (a ++ b) = C3 a + C3 b := by unfold C3; rw [List.length_append]; push_cast; rfl
theorem C4_append (a b : List Nat) : C4 (a ++ b) = C4 a + C4 b := by unfold C4 sum4; rw [wide_append, List.map_append, List.sum_append]
theorem C1_len (rs : List Nat) : C1 rs = (encs rs).length := sum1_wide rs
theorem C3_le (rs : List Nat) : 0 ≤ C3 rs ∧ C3 rs ≤ C1 rs := by
  have := encs_len rs
  rw [C1_len]; unfold C3; omega
theorem C4_le (rs : List Nat) : 0 ≤ C4 rs ∧ C4 rs ≤ C1 rs := by
  have h := sum4_le (wide rs)
  have h3 := C3_le rs
  have e : (wide rs).length = rs.length := by simp [wide]
  rw [e] at h
  unfold C4
  unfold C3 at h3
  omega
theorem C2_le (rs : List Nat) : 0 ≤ C2 rs ∧ C2 rs ≤ 2 * C1 rs := by
  have h := sum2_le (wide rs)
  have h3 := C3_le rs
  have e : (wide rs).length = rs.length := by simp [wide]
  rw [e] at h
  unfold C2
  unfold C3 at h3
  omega

/-- Runes' bytes. -/
def bytesOf (rs : List Nat) : ByteArray := ⟨(encs rs).toArray⟩
theorem bytesOf_size (rs : List Nat) : (bytesOf rs).size = (encs rs).length := by simp [bytesOf, ByteArray.size]
theorem bytesOf_list (rs : List Nat) : (bytesOf rs).data.toList = encs rs := rfl
theorem bytesOf_append (a b : List Nat) : bytesOf a ++ bytesOf b = bytesOf (a ++ b) := by
  apply ByteArray.ext
  rw [ByteArray.data_append]
  unfold bytesOf
  rw [encs_append]
  simp

/-- The chunks' tree. -/
inductive T where
  | nil
  | node (l : T) (rs : List Nat) (r : T)
def T.runes : T → List Nat
  | .nil => []
  | .node l rs r => l.runes ++ rs ++ r.runes
def T.height : T → Nat
  | .nil => 0
  | .node l _ r => 1 + max l.height r.height
def T.size : T → Nat
  | .nil => 0
  | .node l _ r => 1 + l.size + r.size

/-- The tree at p in memory. -/
def isTree (w : World) : Option Addr → T → Prop
  | p, .nil => p = none
  | p, .node l rs r => ∃ b pl pr, p = some ⟨b, 0, none⟩ ∧
      (w.cell? ⟨b, 0, none⟩ = some (.string (bytesOf rs)) ∧ w.cell? ⟨b, 1, none⟩ = some (.int .i64 (C1 rs)) ∧ w.cell? ⟨b, 2, none⟩ = some (.int .i64 (C2 rs)) ∧ w.cell? ⟨b, 3, none⟩ = some (.int .i64 (C3 rs)) ∧ w.cell? ⟨b, 4, none⟩ = some (.int .i64 (C4 rs))) ∧
      (w.cell? ⟨b, 5, none⟩ = some (.pointer pl) ∧ w.cell? ⟨b, 6, none⟩ = some (.pointer pr)) ∧
      (w.cell? ⟨b, 7, none⟩ = some (.int .i64 (C1 (T.node l rs r).runes)) ∧ w.cell? ⟨b, 8, none⟩ = some (.int .i64 (C2 (T.node l rs r).runes)) ∧ w.cell? ⟨b, 9, none⟩ = some (.int .i64 (C3 (T.node l rs r).runes)) ∧ w.cell? ⟨b, 10, none⟩ = some (.int .i64 (C4 (T.node l rs r).runes))) ∧
      (w.cell? ⟨b, 11, none⟩ = some (.int .i64 (T.node l rs r).height) ∧ w.cell? ⟨b, 12, none⟩ = some (.int .i64 (T.node l rs r).size)) ∧
      isTree w pl l ∧ isTree w pr r
theorem cell_on {W W' : World} (hb : Below W.heap.size W W') {b o : Nat} {v : Value} (h : W.cell? ⟨b, o, none⟩ = some v) : W'.cell? ⟨b, o, none⟩ = some v :=
  (hb.cell (p := ⟨b, o, none⟩) (World.block_lt_of_cell? W _ h)).trans h
theorem isTree_below {w w' : World} (hb : Below w.heap.size w w') : ∀ {t : T} {p : Option Addr}, isTree w p t → isTree w' p t
  | .nil, _, h => h
  | .node l rs r, _, ⟨b, pl, pr, e, ⟨a0, a1, a2, a3, a4⟩, ⟨a5, a6⟩, ⟨a7, a8, a9, a10⟩, ⟨a11, a12⟩, hl, hr⟩ =>
    ⟨b, pl, pr, e, ⟨cell_on hb a0, cell_on hb a1, cell_on hb a2, cell_on hb a3, cell_on hb a4⟩, ⟨cell_on hb a5, cell_on hb a6⟩, ⟨cell_on hb a7, cell_on hb a8, cell_on hb a9, cell_on hb a10⟩, ⟨cell_on hb a11, cell_on hb a12⟩, isTree_below hb hl, isTree_below hb hr⟩

set_option maxHeartbeats 1000000 in
theorem ncounts_any (p : Option Addr) (t : T) (w : World) (h : isTree w p t) :
    Calls Tryz.prog 36 #[.pointer p] w fun e w' => e = .returned (.agg #[.int .i64 (C1 t.runes), .int .i64 (C2 t.runes), .int .i64 (C3 t.runes), .int .i64 (C4 t.runes)]) ∧ Below w.heap.size w w' := by
  cases t with
  | nil =>
    obtain rfl : p = none := h
    have e1 : C1 T.nil.runes = 0 := rfl
    have e2 : C2 T.nil.runes = 0 := rfl
    have e3 : C3 T.nil.runes = 0 := rfl
    have e4 : C4 T.nil.runes = 0 := rfl
    rw [e1, e2, e3, e4]
    clear e1 e2 e3 e4
    go_enter Tryz.func36, Tryz.ntmps36
    go_wp2
    refine bodyPost_ret (v := .agg #[.int .i64 0, .int .i64 0, .int .i64 0, .int .i64 0]) (by simp [results, Tryz.results36, go_sem]) rfl ⟨rfl, ?_⟩
    exact (Below.refl _ _).alloc (Nat.le_refl _) _
  | node l rs r =>
    obtain ⟨b, pl, pr, rfl, _, _, ⟨a7, a8, a9, a10⟩, _, _, _⟩ := h
    have hlt := World.block_lt_of_cell? w _ a7
    have hne : ¬ b = w.heap.size := by show ¬ _; intro e; subst e; exact absurd hlt (Nat.lt_irrefl _)
    generalize (T.node l rs r).runes = R at *
    generalize C1 R = x1 at *
    generalize C2 R = x2 at *
    generalize C3 R = x3 at *
    generalize C4 R = x4 at *
    go_enter Tryz.func36, Tryz.ntmps36
    go_wp2
    refine bodyPost_ret (v := .agg #[.int .i64 x1, .int .i64 x2, .int .i64 x3, .int .i64 x4]) (by simp [results, Tryz.results36, go_sem]) rfl ⟨rfl, ?_⟩
    exact (Below.refl _ _).alloc (Nat.le_refl _) _

set_option maxHeartbeats 1000000 in
theorem nheight_any (p : Option Addr) (t : T) (w : World) (h : isTree w p t) :
    Calls Tryz.prog 42 #[.pointer p] w fun e w' => e = .returned (.int .i64 t.height) ∧ w' = w := by
  cases t with
  | nil =>
    obtain rfl : p = none := h
    go_enter Tryz.func42, Tryz.ntmps42
    go_wp2
    go_ret
    exact ⟨rfl, rfl⟩
  | node l rs r =>
    obtain ⟨b, pl, pr, rfl, _, _, _, ⟨a11, _⟩, _, _⟩ := h
    generalize ((T.node l rs r).height : Int) = x1 at *
    go_enter Tryz.func42, Tryz.ntmps42
    go_wp2
    go_ret
    exact ⟨rfl, rfl⟩
set_option maxHeartbeats 1000000 in
theorem nsize_any (p : Option Addr) (t : T) (w : World) (h : isTree w p t) :
    Calls Tryz.prog 43 #[.pointer p] w fun e w' => e = .returned (.int .i64 t.size) ∧ w' = w := by
  cases t with
  | nil =>
    obtain rfl : p = none := h
    go_enter Tryz.func43, Tryz.ntmps43
    go_wp2
    go_ret
    exact ⟨rfl, rfl⟩
  | node l rs r =>
    obtain ⟨b, pl, pr, rfl, _, _, _, ⟨_, a12⟩, _, _⟩ := h
    generalize ((T.node l rs r).size : Int) = x1 at *
    go_enter Tryz.func43, Tryz.ntmps43
    go_wp2
    go_ret
    exact ⟨rfl, rfl⟩
end Go.Proofs.YtldhbjmillfjgaaGreatDoor

namespace Go.Proofs.YtldhbjmillfjgaaGreatDoor
open Go.RowKit
set_option linter.unusedVariables false
attribute [local go_sem] yieldsUpon okUpon

/-- A chunk as a value. -/
def chunkV (rs : List Nat) : Value := .agg #[.string (bytesOf rs), .int .i64 (C1 rs), .int .i64 (C2 rs), .int .i64 (C3 rs), .int .i64 (C4 rs)]

set_option maxRecDepth 100000 in
set_option maxHeartbeats 400000 in
theorem link_any (pl pr : Option Addr) (l r : T) (rs : List Nat) (w : World) (hl : isTree w pl l) (hr : isTree w pr r) (hz : C1 l.runes + C1 rs + C1 r.runes ≤ 1000000000) (hs : l.size < 1000000000 ∧ r.size < 1000000000 ∧ l.height < 1000000000 ∧ r.height < 1000000000) :
    Calls Tryz.prog 82 #[.pointer pl, chunkV rs, .pointer pr] w fun e w' => ∃ p, e = .returned (.pointer p) ∧ isTree w' p (.node l rs r) ∧ Below w.heap.size w w' := by
  have l1 := C3_le l.runes
  have l2 := C2_le l.runes
  have l4 := C4_le l.runes
  have r1 := C3_le r.runes
  have r2 := C2_le r.runes
  have r4 := C4_le r.runes
  have m1 := C3_le rs
  have m2 := C2_le rs
  have m4 := C4_le rs
  have HL : Hid (isTree w pl l) := hl
  have HR : Hid (isTree w pr r) := hr
  have t1 : Hid (C1 (T.node l rs r).runes = C1 l.runes + C1 rs + C1 r.runes) := by show _ = _; simp only [T.runes, C1_append]
  have t2 : Hid (C2 (T.node l rs r).runes = C2 l.runes + C2 rs + C2 r.runes) := by show _ = _; simp only [T.runes, C2_append]
  have t3 : Hid (C3 (T.node l rs r).runes = C3 l.runes + C3 rs + C3 r.runes) := by show _ = _; simp only [T.runes, C3_append]
  have t4 : Hid (C4 (T.node l rs r).runes = C4 l.runes + C4 rs + C4 r.runes) := by show _ = _; simp only [T.runes, C4_append]
  have t5 : Hid (((T.node l rs r).height : Int) = 1 + max (l.height : Int) r.height) := by show _ = _; simp only [T.height]; omega
  have t6 : Hid (((T.node l rs r).size : Int) = 1 + l.size + r.size) := by show _ = _; simp only [T.size]; omega
  have cl := fun (wx : World) (hb : Below w.heap.size w wx) => ncounts_any pl l wx (isTree_below hb hl)
  have cr := fun (wx : World) (hb : Below w.heap.size w wx) => ncounts_any pr r wx (isTree_below hb hr)
  have hhl := fun (wx : World) (hb : Below w.heap.size w wx) => nheight_any pl l wx (isTree_below hb hl)
  have hhr := fun (wx : World) (hb : Below w.heap.size w wx) => nheight_any pr r wx (isTree_below hb hr)
  have sl := fun (wx : World) (hb : Below w.heap.size w wx) => nsize_any pl l wx (isTree_below hb hl)
  have sr := fun (wx : World) (hb : Below w.heap.size w wx) => nsize_any pr r wx (isTree_below hb hr)
  have p1 : ∀ wx, Calls Tryz.prog 56 #[.agg #[.int .i64 (C1 l.runes), .int .i64 (C2 l.runes), .int .i64 (C3 l.runes), .int .i64 (C4 l.runes)], .agg #[.int .i64 (C1 rs), .int .i64 (C2 rs), .int .i64 (C3 rs), .int .i64 (C4 rs)]] wx
      fun e w' => e = .returned (.agg #[.int .i64 (C1 l.runes + C1 rs), .int .i64 (C2 l.runes + C2 rs), .int .i64 (C3 l.runes + C3 rs), .int .i64 (C4 l.runes + C4 rs)]) ∧ Below wx.heap.size wx w' := fun wx => by
    have := plus_any (C1 l.runes) (C2 l.runes) (C3 l.runes) (C4 l.runes) (C1 rs) (C2 rs) (C3 rs) (C4 rs) wx
    rwa [wrap64_small (by omega) (by omega), wrap64_small (by omega) (by omega), wrap64_small (by omega) (by omega), wrap64_small (by omega) (by omega)] at this
  have p2 : ∀ wx, Calls Tryz.prog 56 #[.agg #[.int .i64 (C1 l.runes + C1 rs), .int .i64 (C2 l.runes + C2 rs), .int .i64 (C3 l.runes + C3 rs), .int .i64 (C4 l.runes + C4 rs)], .agg #[.int .i64 (C1 r.runes), .int .i64 (C2 r.runes), .int .i64 (C3 r.runes), .int .i64 (C4 r.runes)]] wx
      fun e w' => e = .returned (.agg #[.int .i64 (C1 l.runes + C1 rs + C1 r.runes), .int .i64 (C2 l.runes + C2 rs + C2 r.runes), .int .i64 (C3 l.runes + C3 rs + C3 r.runes), .int .i64 (C4 l.runes + C4 rs + C4 r.runes)]) ∧ Below wx.heap.size wx w' := fun wx => by
    have := plus_any (C1 l.runes + C1 rs) (C2 l.runes + C2 rs) (C3 l.runes + C3 rs) (C4 l.runes + C4 rs) (C1 r.runes) (C2 r.runes) (C3 r.runes) (C4 r.runes) wx
    rwa [wrap64_small (by omega) (by omega), wrap64_small (by omega) (by omega), wrap64_small (by omega) (by omega), wrap64_small (by omega) (by omega)] at this
  clear hl hr l1 l2 l4 r1 r2 r4 m1 m2 m4 hz
  obtain ⟨hs1, hs2, hs3, hs4⟩ := hs
  unfold chunkV
  generalize hB : bytesOf rs = B at *
  have HB : Hid (bytesOf rs = B) := hB
  clear hB
  generalize hx1 : C1 rs = x1 at *
  have Hx1 : Hid (C1 rs = x1) := hx1
  clear hx1
  generalize hx2 : C2 rs = x2 at *
  have Hx2 : Hid (C2 rs = x2) := hx2
  clear hx2
  generalize hx3 : C3 rs = x3 at *
  have Hx3 : Hid (C3 rs = x3) := hx3
  clear hx3
  generalize hx4 : C4 rs = x4 at *
  have Hx4 : Hid (C4 rs = x4) := hx4
  clear hx4
  generalize ha1 : C1 l.runes = a1 at *
  clear ha1
  generalize ha2 : C2 l.runes = a2 at *
  clear ha2
  generalize ha3 : C3 l.runes = a3 at *
  clear ha3
  generalize ha4 : C4 l.runes = a4 at *
  clear ha4
  generalize hb1 : C1 r.runes = b1 at *
  clear hb1
  generalize hb2 : C2 r.runes = b2 at *
  clear hb2
  generalize hb3 : C3 r.runes = b3 at *
  clear hb3
  generalize hb4 : C4 r.runes = b4 at *
  clear hb4
  generalize hk1 : (l.height : Int) = k1 at *
  generalize hk2 : (r.height : Int) = k2 at *
  generalize hk3 : (l.size : Int) = k3 at *
  generalize hk4 : (r.size : Int) = k4 at *
  have z1 : 0 ≤ k1 ∧ k1 < 1000000000 := by omega
  have z2 : 0 ≤ k2 ∧ k2 < 1000000000 := by omega
  have z3 : 0 ≤ k3 ∧ k3 < 1000000000 := by omega
  have z4 : 0 ≤ k4 ∧ k4 < 1000000000 := by omega
  clear hk1 hk2 hk3 hk4 hs1 hs2 hs3 hs4
  go_enter Tryz.func82, Tryz.ntmps82
  go_wp2
  refine wp_region_rel 26 26 (by kernel_rfl) rfl ?_
  intro w1 hb1
  have hb0 : Below w.heap.size w (w.alloc (.cells #[.string B, .int .i64 x1, .int .i64 x2, .int .i64 x3, .int .i64 x4] 106)) := (Below.refl _ w).alloc (Nat.le_refl _) _
  have hbw : Below w.heap.size w w1 := hb0.trans (hb1.mono hb0.size)
  obtain ⟨G, hG⟩ := exists_growth w1
  have g0 : ∀ x, (G x).cell? ⟨w.heap.size, 0, none⟩ = some (.string B) := hG.cell (cell_on hb1 (by simp [go_sem]))
  have g1 : ∀ x, (G x).cell? ⟨w.heap.size, 1, none⟩ = some (.int .i64 x1) := hG.cell (cell_on hb1 (by simp [go_sem]))
  have g2 : ∀ x, (G x).cell? ⟨w.heap.size, 2, none⟩ = some (.int .i64 x2) := hG.cell (cell_on hb1 (by simp [go_sem]))
  have g3 : ∀ x, (G x).cell? ⟨w.heap.size, 3, none⟩ = some (.int .i64 x3) := hG.cell (cell_on hb1 (by simp [go_sem]))
  have g4 : ∀ x, (G x).cell? ⟨w.heap.size, 4, none⟩ = some (.int .i64 x4) := hG.cell (cell_on hb1 (by simp [go_sem]))
  have wb : ∀ x, Below w.heap.size w (G x) := fun x => hbw.trans ((hG.below x).mono hbw.size)
  have cl' := fun x => cl (G x) (wb x)
  have cr' := fun x => cr (G x) (wb x)
  have hl' := fun x => (hhl (G x) (wb x)).mono (R' := fun e w' => e = .returned (.int .i64 k1) ∧ Below (G x).heap.size (G x) w') (by rintro e w' ⟨rfl, rfl⟩; exact ⟨rfl, Below.refl _ _⟩)
  have hr' := fun x => (hhr (G x) (wb x)).mono (R' := fun e w' => e = .returned (.int .i64 k2) ∧ Below (G x).heap.size (G x) w') (by rintro e w' ⟨rfl, rfl⟩; exact ⟨rfl, Below.refl _ _⟩)
  have sl' := fun x => (sl (G x) (wb x)).mono (R' := fun e w' => e = .returned (.int .i64 k3) ∧ Below (G x).heap.size (G x) w') (by rintro e w' ⟨rfl, rfl⟩; exact ⟨rfl, Below.refl _ _⟩)
  have sr' := fun x => (sr (G x) (wb x)).mono (R' := fun e w' => e = .returned (.int .i64 k4) ∧ Below (G x).heap.size (G x) w') (by rintro e w' ⟨rfl, rfl⟩; exact ⟨rfl, Below.refl _ _⟩)
  clear cl cr hhl hhr sl sr wb hb0
  (refine anyG_step hG (i := 0) rfl (by kernel_rfl) (by kernel_rfl) (by kernel_rfl) (fun K hK => ?_); go_simp; refine hK _ ?_; clear hK K)
  (refine anyG_step hG (i := 1) rfl (by kernel_rfl) (by kernel_rfl) (by kernel_rfl) (fun K hK => ?_); go_simp; refine hK _ ?_; clear hK K)
  (refine anyG_step hG (i := 2) rfl (by kernel_rfl) (by kernel_rfl) (by kernel_rfl) (fun K hK => ?_); go_simp; refine hK _ ?_; clear hK K)
  (refine anyG_step hG (i := 3) rfl (by kernel_rfl) (by kernel_rfl) (by kernel_rfl) (fun K hK => ?_); go_simp; refine hK _ ?_; clear hK K)
  (refine anyG_step hG (i := 4) rfl (by kernel_rfl) (by kernel_rfl) (by kernel_rfl) (fun K hK => ?_); go_simp; apply Exists.intro; refine ⟨fun _ => ?_, hK _ ?_⟩; exact cl' _; clear hK K)
  (refine anyG_step hG (i := 5) rfl (by kernel_rfl) (by kernel_rfl) (by kernel_rfl) (fun K hK => ?_); go_simp; refine hK _ ?_; clear hK K)
  (refine anyG_step hG (i := 6) rfl (by kernel_rfl) (by kernel_rfl) (by kernel_rfl) (fun K hK => ?_); go_simp; refine hK _ ?_; clear hK K)
  (refine anyG_step hG (i := 7) rfl (by kernel_rfl) (by kernel_rfl) (by kernel_rfl) (fun K hK => ?_); go_simp; apply Exists.intro; refine ⟨fun _ => ?_, hK _ ?_⟩; exact p1 _; clear hK K)
  (refine anyG_step hG (i := 8) rfl (by kernel_rfl) (by kernel_rfl) (by kernel_rfl) (fun K hK => ?_); go_simp; refine hK _ ?_; clear hK K)
  (refine anyG_step hG (i := 9) rfl (by kernel_rfl) (by kernel_rfl) (by kernel_rfl) (fun K hK => ?_); go_simp; apply Exists.intro; refine ⟨fun _ => ?_, hK _ ?_⟩; exact cr' _; clear hK K)
  (refine anyG_step hG (i := 10) rfl (by kernel_rfl) (by kernel_rfl) (by kernel_rfl) (fun K hK => ?_); go_simp; apply Exists.intro; refine ⟨fun _ => ?_, hK _ ?_⟩; exact p2 _; clear hK K)
  (refine anyG_step hG (i := 11) rfl (by kernel_rfl) (by kernel_rfl) (by kernel_rfl) (fun K hK => ?_); go_simp; refine hK _ ?_; clear hK K)
  (refine anyG_step hG (i := 12) rfl (by kernel_rfl) (by kernel_rfl) (by kernel_rfl) (fun K hK => ?_); go_simp; apply Exists.intro; refine ⟨fun _ => ?_, hK _ ?_⟩; exact hl' _; clear hK K)
  (refine anyG_step hG (i := 13) rfl (by kernel_rfl) (by kernel_rfl) (by kernel_rfl) (fun K hK => ?_); go_simp; refine hK _ ?_; clear hK K)
  (refine anyG_step hG (i := 14) rfl (by kernel_rfl) (by kernel_rfl) (by kernel_rfl) (fun K hK => ?_); go_simp; apply Exists.intro; refine ⟨fun _ => ?_, hK _ ?_⟩; exact hr' _; clear hK K)
  (refine anyG_step hG (i := 15) rfl (by kernel_rfl) (by kernel_rfl) (by kernel_rfl) (fun K hK => ?_); go_simp; refine hK _ ?_; clear hK K)
  (refine anyG_step hG (i := 16) rfl (by kernel_rfl) (by kernel_rfl) (by kernel_rfl) (fun K hK => ?_); go_simp; refine hK _ ?_; clear hK K)
  (refine anyG_step hG (i := 17) rfl (by kernel_rfl) (by kernel_rfl) (by kernel_rfl) (fun K hK => ?_); go_simp; refine hK _ ?_; clear hK K)
  (refine anyG_step hG (i := 18) rfl (by kernel_rfl) (by kernel_rfl) (by kernel_rfl) (fun K hK => ?_); go_simp; apply Exists.intro; refine ⟨fun _ => ?_, hK _ ?_⟩; exact sl' _; clear hK K)
  (refine anyG_step hG (i := 19) rfl (by kernel_rfl) (by kernel_rfl) (by kernel_rfl) (fun K hK => ?_); go_simp; refine hK _ ?_; clear hK K)
  (refine anyG_step hG (i := 20) rfl (by kernel_rfl) (by kernel_rfl) (by kernel_rfl) (fun K hK => ?_); go_simp; refine hK _ ?_; clear hK K)
  (refine anyG_step hG (i := 21) rfl (by kernel_rfl) (by kernel_rfl) (by kernel_rfl) (fun K hK => ?_); go_simp; apply Exists.intro; refine ⟨fun _ => ?_, hK _ ?_⟩; exact sr' _; clear hK K)
  (refine anyG_step hG (i := 22) rfl (by kernel_rfl) (by kernel_rfl) (by kernel_rfl) (fun K hK => ?_); go_simp; refine hK _ ?_; clear hK K)
  (refine anyG_step hG (i := 23) rfl (by kernel_rfl) (by kernel_rfl) (by kernel_rfl) (fun K hK => ?_); go_simp; refine hK _ ?_; clear hK K)
  clear cl' cr' hl' hr' sl' sr' p1 p2 g0 g1 g2 g3 g4
  have e5 : IntKind.i64.wrap (1 + max k1 k2) = 1 + max k1 k2 := IntWalk.i64_in _ (by omega)
  have e6 : IntKind.i64.wrap (1 + k3) = 1 + k3 := IntWalk.i64_in _ (by omega)
  have e7 : IntKind.i64.wrap (1 + k3 + k4) = 1 + k3 + k4 := IntWalk.i64_in _ (by omega)
  rw [e5, e6, e7]
  refine anyG_one (i := 24) rfl (by kernel_rfl) ?_
  intro w2 hb2 K hK
  go_simp
  refine hK _ _ ((Below.refl _ w2).alloc (Nat.le_refl _) _) ?_
  clear hK K
  refine anyG_one (i := 25) rfl (by kernel_rfl) ?_
  intro w3 hb3 K hK
  go_simp
  refine hK _ _ (Below.refl _ w3) ?_
  clear hK K
  refine anyG_end (by kernel_rfl) ?_
  intro w4 hb4
  have hb23 : Below w2.heap.size w2 _ := (Below.refl _ w2).alloc (Nat.le_refl _) (.cells #[.string B, .int .i64 x1, .int .i64 x2, .int .i64 x3, .int .i64 x4, .pointer pl, .pointer pr, .int .i64 (a1 + x1 + b1), .int .i64 (a2 + x2 + b2), .int .i64 (a3 + x3 + b3), .int .i64 (a4 + x4 + b4), .int .i64 (1 + max k1 k2), .int .i64 (1 + k3 + k4)] 125)
  have hb34 := hb3.trans (hb4.mono hb3.size)
  have hbw4 : Below w.heap.size w w4 := hbw.trans ((hb2.trans ((hb23.trans (hb34.mono hb23.size)).mono hb2.size)).mono hbw.size)
  have hcell : ∀ o v, (w2.alloc (.cells #[.string B, .int .i64 x1, .int .i64 x2, .int .i64 x3, .int .i64 x4, .pointer pl, .pointer pr, .int .i64 (a1 + x1 + b1), .int .i64 (a2 + x2 + b2), .int .i64 (a3 + x3 + b3), .int .i64 (a4 + x4 + b4), .int .i64 (1 + max k1 k2), .int .i64 (1 + k3 + k4)] 125)).cell? ⟨w2.heap.size, o, none⟩ = some v → w4.cell? ⟨w2.heap.size, o, none⟩ = some v := fun o v h => cell_on hb34 h
  have hT : isTree w4 (some ⟨w2.heap.size, 0, none⟩) (.node l rs r) := by
    refine ⟨w2.heap.size, pl, pr, rfl, ⟨hcell _ _ ?_, hcell _ _ ?_, hcell _ _ ?_, hcell _ _ ?_, hcell _ _ ?_⟩, ⟨hcell _ _ ?_, hcell _ _ ?_⟩, ⟨hcell _ _ ?_, hcell _ _ ?_, hcell _ _ ?_, hcell _ _ ?_⟩, ⟨hcell _ _ ?_, hcell _ _ ?_⟩, isTree_below hbw4 HL.out, isTree_below hbw4 HR.out⟩
    · simp [go_sem, HB.out]
    · simp [go_sem, Hx1.out]
    · simp [go_sem, Hx2.out]
    · simp [go_sem, Hx3.out]
    · simp [go_sem, Hx4.out]
    · simp [go_sem]
    · simp [go_sem]
    · simp [go_sem, t1.out]
    · simp [go_sem, t2.out]
    · simp [go_sem, t3.out]
    · simp [go_sem, t4.out]
    · simp [go_sem, t5.out]
    · simp [go_sem, t6.out]
  clear hcell hb2 hb23 hb34 hb3 hb4 t1 t2 t3 t4 t5 t6
  have HT : Hid _ := hT
  clear hT
  go_wp2
  go_ret
  exact ⟨_, rfl, HT.out, hbw4⟩
end Go.Proofs.YtldhbjmillfjgaaGreatDoor

namespace Go.Proofs.YtldhbjmillfjgaaGreatDoor

def T.chunks : T → List (List Nat)
  | .nil => []
  | .node l rs r => l.chunks ++ [rs] ++ r.chunks
theorem runes_chunks : ∀ t : T, t.runes = t.chunks.flatten
  | .nil => rfl
  | .node l rs r => by simp [T.runes, T.chunks, runes_chunks l, runes_chunks r]
theorem size_chunks : ∀ t : T, t.size = t.chunks.length
  | .nil => rfl
  | .node l rs r => by simp [T.size, T.chunks, size_chunks l, size_chunks r]; omega
theorem height_size : ∀ t : T, t.height ≤ t.size
  | .nil => Nat.le_refl _
  | .node l rs r => by have := height_size l; have := height_size r; simp only [T.height, T.size]; omega
def T.bal : T → Prop
  | .nil => True
  | .node l _ r => l.bal ∧ r.bal ∧ l.height ≤ r.height + 1 ∧ r.height ≤ l.height + 1

/-- A tree that is not too great. -/
def big (t : T) : Prop := C1 t.runes ≤ 1000000000 ∧ t.size ≤ 100000000
theorem C1_pos (rs : List Nat) : 0 ≤ C1 rs := by rw [C1_len]; omega
theorem big_node {l r : T} {c : List Nat} (h : big (.node l c r)) : big l ∧ big r ∧ C1 l.runes + C1 c + C1 r.runes ≤ 1000000000 ∧ (l.size < 1000000000 ∧ r.size < 1000000000 ∧ l.height < 1000000000 ∧ r.height < 1000000000) := by
  obtain ⟨h1, h2⟩ := h
  simp only [T.runes, C1_append, T.size] at h1 h2
  have a1 := C1_pos l.runes
  have a2 := C1_pos c
  have a3 := C1_pos r.runes
  have b1 := height_size l
  have b2 := height_size r
  exact ⟨⟨by omega, by omega⟩, ⟨by omega, by omega⟩, h1, by omega, by omega, by omega, by omega⟩
theorem big_same {t t' : T} (h : big t) (e : t'.chunks = t.chunks) : big t' := by
  unfold big at *
  rw [runes_chunks, e, ← runes_chunks, size_chunks, e, ← size_chunks]
  exact h

/-- What 'turn' makes of two trees with a chunk between. -/
def turnT (l : T) (c : List Nat) (r : T) : T :=
  if l.height = r.height + 2 then
    match l with
    | .node ll lc (.node a b d) => if ll.height < (T.node a b d).height then .node (.node ll lc a) b (.node d c r) else .node ll lc (.node (.node a b d) c r)
    | .node ll lc .nil => .node ll lc (.node .nil c r)
    | .nil => .node .nil c r
  else if r.height = l.height + 2 then
    match r with
    | .node (.node a b d) rc rr => if rr.height < (T.node a b d).height then .node (.node l c a) b (.node d rc rr) else .node (.node l c (.node a b d)) rc rr
    | .node .nil rc rr => .node (.node l c .nil) rc rr
    | .nil => .node l c .nil
  else .node l c r
theorem turnT_chunks (l : T) (c : List Nat) (r : T) : (turnT l c r).chunks = l.chunks ++ [c] ++ r.chunks := by
  unfold turnT
  split
  · split
    · split <;> simp [T.chunks]
    · simp [T.chunks]
    · simp [T.chunks]
  · split
    · split
      · split <;> simp [T.chunks]
      · simp [T.chunks]
      · simp [T.chunks]
    · simp [T.chunks]
theorem turnT_bal {l r : T} (c : List Nat) (hl : l.bal) (hr : r.bal) (h1 : l.height ≤ r.height + 2) (h2 : r.height ≤ l.height + 2) :
    (turnT l c r).bal ∧ (l.height ≤ r.height + 1 → r.height ≤ l.height + 1 → (turnT l c r).height = 1 + max l.height r.height) ∧ max l.height r.height ≤ (turnT l c r).height ∧ (turnT l c r).height ≤ 1 + max l.height r.height := by
  unfold turnT
  split
  · rename_i h
    match l, hl, h1, h2, h with
    | .nil, hl, h1, h2, h => simp [T.height] at h
    | .node ll lc .nil, hl, h1, h2, h =>
      simp only [T.bal, T.height] at *
      obtain ⟨hll, _, h5, h6⟩ := hl
      exact ⟨⟨hll, ⟨trivial, hr, by omega, by omega⟩, by omega, by omega⟩, fun _ _ => by omega, by omega, by omega⟩
    | .node ll lc (.node a b d), hl, h1, h2, h =>
      simp only [T.bal, T.height] at *
      obtain ⟨hll, ⟨ha, hd, h3, h4⟩, h5, h6⟩ := hl
      by_cases hc : ll.height < 1 + max a.height d.height
      · simp only [hc, if_true, T.bal, T.height]
        exact ⟨⟨⟨hll, ha, by omega, by omega⟩, ⟨hd, hr, by omega, by omega⟩, by omega, by omega⟩, fun _ _ => by omega, by omega, by omega⟩
      · simp only [hc, if_false, T.bal, T.height]
        exact ⟨⟨hll, ⟨⟨ha, hd, h3, h4⟩, hr, by omega, by omega⟩, by omega, by omega⟩, fun _ _ => by omega, by omega, by omega⟩
  · rename_i h
    split
    · rename_i h'
      match r, hr, h1, h2, h, h' with
      | .nil, hr, h1, h2, h, h' => simp [T.height] at h'
      | .node .nil rc rr, hr, h1, h2, h, h' =>
        simp only [T.bal, T.height] at *
        obtain ⟨_, hrr, h5, h6⟩ := hr
        exact ⟨⟨⟨hl, trivial, by omega, by omega⟩, hrr, by omega, by omega⟩, fun _ _ => by omega, by omega, by omega⟩
      | .node (.node a b d) rc rr, hr, h1, h2, h, h' =>
        simp only [T.bal, T.height] at *
        obtain ⟨⟨ha, hd, h3, h4⟩, hrr, h5, h6⟩ := hr
        by_cases hc : rr.height < 1 + max a.height d.height
        · simp only [hc, if_true, T.bal, T.height]
          exact ⟨⟨⟨hl, ha, by omega, by omega⟩, ⟨hd, hrr, by omega, by omega⟩, by omega, by omega⟩, fun _ _ => by omega, by omega, by omega⟩
        · simp only [hc, if_false, T.bal, T.height]
          exact ⟨⟨⟨hl, ⟨ha, hd, h3, h4⟩, by omega, by omega⟩, hrr, by omega, by omega⟩, fun _ _ => by omega, by omega, by omega⟩
    · rename_i h'
      exact ⟨⟨hl, hr, by omega, by omega⟩, fun _ _ => rfl, by show _ ≤ 1 + max l.height r.height; omega, Nat.le_refl _⟩
end Go.Proofs.YtldhbjmillfjgaaGreatDoor

namespace Go.Proofs.YtldhbjmillfjgaaGreatDoor
open Go.RowKit
set_option linter.unusedVariables false
attribute [local go_sem] yieldsUpon okUpon

theorem link_fits {pl pr : Option Addr} {l r : T} {c : List Nat} {w : World} (h : big (.node l c r)) (hl : isTree w pl l) (hr : isTree w pr r) :
    Calls Tryz.prog 82 #[.pointer pl, chunkV c, .pointer pr] w fun e w' => ∃ p, e = .returned (.pointer p) ∧ isTree w' p (.node l c r) ∧ Below w.heap.size w w' :=
  link_any pl pr l r c w hl hr (big_node h).2.2.1 (big_node h).2.2.2

set_option maxRecDepth 100000 in
set_option maxHeartbeats 2000000 in
theorem turn_E (pl pr : Option Addr) (l r : T) (c : List Nat) (w : World) (hl : isTree w pl l) (hr : isTree w pr r) (hz : big (.node l c r)) (h1 : ¬ l.height = r.height + 2) (h2 : ¬ r.height = l.height + 2) :
    Calls Tryz.prog 87 #[.pointer pl, chunkV c, .pointer pr] w fun e w' => ∃ p, e = .returned (.pointer p) ∧ isTree w' p (.node l c r) ∧ Below w.heap.size w w' := by
  have hb0 : ∀ o, Below w.heap.size w (w.alloc o) := fun o => (Below.refl _ w).alloc (Nat.le_refl _) o
  have cl := fun o => nheight_any pl l (w.alloc o) (isTree_below (hb0 o) hl)
  have cr := fun o => nheight_any pr r (w.alloc o) (isTree_below (hb0 o) hr)
  have ck := fun o => link_fits hz (isTree_below (hb0 o) hl) (isTree_below (hb0 o) hr)
  obtain ⟨_, _, _, _, _, s3, s4⟩ := big_node hz
  have k1 : (((l.height : Int) - r.height) == 2) = false := by rw [beq_eq_false_iff_ne]; omega
  have k2 : (((l.height : Int) - r.height) == -2) = false := by rw [beq_eq_false_iff_ne]; omega
  have k3 : 0 ≤ (l.height : Int) ∧ (l.height : Int) < 1000000000 := by omega
  have k4 : 0 ≤ (r.height : Int) ∧ (r.height : Int) < 1000000000 := by omega
  clear h1 h2 s3 s4 hz
  have HLR : Hid (isTree w pl l ∧ isTree w pr r) := ⟨hl, hr⟩
  clear hl hr
  generalize (l.height : Int) = x1 at *
  generalize (r.height : Int) = x2 at *
  unfold chunkV at *
  go_enter Tryz.func87, Tryz.ntmps87
  go_wp2_with (first | (go_at_call_of 42 pl; refine (cl _).mono ?_; rintro e w1 ⟨rfl, rfl⟩) | (go_at_call_of 42 pr; refine (cr _).mono ?_; rintro e w1 ⟨rfl, rfl⟩) | (go_at_call 82; refine (ck _).mono ?_; rintro e w2 ⟨p, rfl, ht, hb⟩; have HT : Hid _ := ht; clear ht) | fail)
  go_ret
  exact ⟨p, rfl, HT.out, (hb0 _).trans (hb.mono (hb0 _).size)⟩

end Go.Proofs.YtldhbjmillfjgaaGreatDoor

namespace Go.Proofs.YtldhbjmillfjgaaGreatDoor
open Go.RowKit
set_option linter.unusedVariables false
attribute [local go_sem] yieldsUpon okUpon

set_option maxRecDepth 100000 in
set_option maxHeartbeats 2000000 in
theorem turn_A (pl pr : Option Addr) (ll a d r : T) (c lc b : List Nat) (w : World) (hl : isTree w pl (.node ll lc (.node a b d))) (hr : isTree w pr r) (hz : big (.node (.node ll lc a) b (.node d c r))) (hd : (T.node ll lc (.node a b d)).height = r.height + 2) (hc : ll.height < (T.node a b d).height) :
    Calls Tryz.prog 87 #[.pointer pl, chunkV c, .pointer pr] w fun e w' => ∃ p, e = .returned (.pointer p) ∧ isTree w' p (.node (.node ll lc a) b (.node d c r)) ∧ Below w.heap.size w w' := by
  have hb0 : ∀ o, Below w.heap.size w (w.alloc o) := fun o => (Below.refl _ w).alloc (Nat.le_refl _) o
  have HL : Hid (isTree w pl (.node ll lc (.node a b d))) := hl
  have HR : Hid (isTree w pr r) := hr
  have cl := fun o => nheight_any pl (.node ll lc (.node a b d)) (w.alloc o) (isTree_below (hb0 o) hl)
  have cr := fun o => nheight_any pr r (w.alloc o) (isTree_below (hb0 o) hr)
  have hzT := hz
  obtain ⟨z1, z2, _, _⟩ := big_node hz
  obtain ⟨b1, pll, plr, rfl, ⟨uc0, uc1, uc2, uc3, uc4⟩, ⟨uc5, uc6⟩, _, _, hlu, hru⟩ := hl
  have hruT := hru
  obtain ⟨b2, pa, pd, rfl, ⟨vc0, vc1, vc2, vc3, vc4⟩, ⟨vc5, vc6⟩, _, _, hlv, hrv⟩ := hruT
  have hq : ((T.node ll lc (.node a b d)).height : Int) < 1000000000 ∧ (r.height : Int) < 1000000000 ∧ ((T.node a b d).height : Int) < 1000000000 ∧ (ll.height : Int) < 1000000000 := by
    have e1 := (big_node hz).2.2.2
    have e2 := height_size (T.node (.node ll lc a) b (.node d c r))
    have e3 := hz.2
    simp only [T.height, T.size] at *
    omega
  have hp : 0 ≤ ((T.node ll lc (.node a b d)).height : Int) ∧ 0 ≤ (r.height : Int) := by omega
  have k0 : ((T.node ll lc (.node a b d)).height : Int) = (r.height : Int) + 2 := by rw [hd]; push_cast; rfl
  have k1 : (((T.node ll lc (.node a b d)).height : Int) - r.height == 2) = true := by rw [beq_iff_eq]; omega
  have k2 : (((T.node ll lc (.node a b d)).height : Int) - r.height == -2) = false := by rw [beq_eq_false_iff_ne]; omega
  have k3 : ((ll.height : Int) < ((T.node a b d).height : Int)) := by omega
  have ck := fun wx (hb : Below w.heap.size w wx) => (nheight_any (some ⟨b2, 0, none⟩) (.node a b d) wx (isTree_below hb hru)).mono (R' := fun e w' => e = .returned (.int .i64 (T.node a b d).height) ∧ Below wx.heap.size wx w') (by rintro e w' ⟨rfl, rfl⟩; exact ⟨rfl, Below.refl _ _⟩)
  have co := fun wx (hb : Below w.heap.size w wx) => (nheight_any pll ll wx (isTree_below hb hlu)).mono (R' := fun e w' => e = .returned (.int .i64 ll.height) ∧ Below wx.heap.size wx w') (by rintro e w' ⟨rfl, rfl⟩; exact ⟨rfl, Below.refl _ _⟩)
  have HLU : Hid _ := hlu
  have HRU : Hid _ := hru
  have HLV : Hid _ := hlv
  have HRV : Hid _ := hrv
  clear k0 hd hc hzT
  generalize ((T.node ll lc (.node a b d)).height : Int) = x1 at *
  generalize (r.height : Int) = x2 at *
  generalize ((T.node a b d).height : Int) = x3 at *
  generalize (ll.height : Int) = x4 at *
  have HZ : Hid _ := hz
  have Hz1 : Hid _ := z1
  have Hz2 : Hid _ := z2
  clear hz z1 z2 hlu hru hlv hrv
  have d6 := fun o => cell_on (hb0 o) uc6
  unfold chunkV
  go_enter Tryz.func87, Tryz.ntmps87
  go_wp2_with (first | (go_at_call_of 42 b1; refine (cl _).mono ?_; rintro e w1 ⟨rfl, rfl⟩) | (go_at_call_of 42 pr; refine (cr _).mono ?_; rintro e w1 ⟨rfl, rfl⟩) | fail)
  obtain ⟨W1, hW1⟩ : ∃ W1, w.alloc (.cells #[.string (bytesOf c), .int .i64 (C1 c), .int .i64 (C2 c), .int .i64 (C3 c), .int .i64 (C4 c)] 106) = W1 := ⟨_, rfl⟩
  have hbW1 : Below w.heap.size w W1 := by rw [← hW1]; exact hb0 _
  have x0 : W1.cell? ⟨w.heap.size, 0, none⟩ = some (.string (bytesOf c)) := by rw [← hW1]; simp [go_sem]
  have y1 : W1.cell? ⟨w.heap.size, 1, none⟩ = some (.int .i64 (C1 c)) := by rw [← hW1]; simp [go_sem]
  have y2 : W1.cell? ⟨w.heap.size, 2, none⟩ = some (.int .i64 (C2 c)) := by rw [← hW1]; simp [go_sem]
  have y3 : W1.cell? ⟨w.heap.size, 3, none⟩ = some (.int .i64 (C3 c)) := by rw [← hW1]; simp [go_sem]
  have y4 : W1.cell? ⟨w.heap.size, 4, none⟩ = some (.int .i64 (C4 c)) := by rw [← hW1]; simp [go_sem]
  rw [hW1]
  clear hW1 cl cr
  obtain ⟨G0, hG0⟩ := exists_growth W1
  have hb0w : ∀ x, Below w.heap.size w (G0 x) := fun x => hbW1.trans ((hG0.below x).mono hbW1.size)
  have q5 := hG0.cell (cell_on hbW1 uc5)
  have HG0 : Hid (Growth W1 G0) := hG0
  refine wp_region_grow hG0 (by kernel_rfl) (by kernel_rfl) ?_
  clear hG0 d6
  repeat (first
    | go_big_quiet_skip
    | (go_big_quiet_want; go_big_quiet_op; first | go_big_quiet_on | (apply Exists.intro; refine ⟨fun _ => ?_, ?_⟩; (first | (go_at_call_of 42 b2; exact grow_of HG0.out (ck _ (hb0w _))) | (go_at_call_of 42 pll; exact grow_of HG0.out (co _ (hb0w _)))); go_big_quiet_on)))
  refine wpQuiet_nil ?_
  rintro w0 ⟨xx, rfl⟩
  go_wp2
  have hbx := hb0w xx
  have hbx1 : Below W1.heap.size W1 (G0 xx) := HG0.out.below xx
  obtain ⟨w0, hw0⟩ : ∃ w0, G0 xx = w0 := ⟨_, rfl⟩
  rw [hw0] at hbx hbx1 ⊢
  clear hw0 q5 HG0 hb0w ck co
  refine wp_region_rel 26 26 (by kernel_rfl) rfl ?_
  intro w1 hb1
  have hbw : Below w.heap.size w w1 := hbx.trans (hb1.mono hbx.size)
  have hbb : Below W1.heap.size W1 w1 := hbx1.trans (hb1.mono hbx1.size)
  obtain ⟨G, hG⟩ := exists_growth w1
  have g0 := hG.cell (cell_on hbb x0)
  have g1 := hG.cell (cell_on hbb y1)
  have g2 := hG.cell (cell_on hbb y2)
  have g3 := hG.cell (cell_on hbb y3)
  have g4 := hG.cell (cell_on hbb y4)
  have ug0 := hG.cell (cell_on hbw uc0)
  have ug1 := hG.cell (cell_on hbw uc1)
  have ug2 := hG.cell (cell_on hbw uc2)
  have ug3 := hG.cell (cell_on hbw uc3)
  have ug4 := hG.cell (cell_on hbw uc4)
  have ug5 := hG.cell (cell_on hbw uc5)
  have ug6 := hG.cell (cell_on hbw uc6)
  have vg0 := hG.cell (cell_on hbw vc0)
  have vg1 := hG.cell (cell_on hbw vc1)
  have vg2 := hG.cell (cell_on hbw vc2)
  have vg3 := hG.cell (cell_on hbw vc3)
  have vg4 := hG.cell (cell_on hbw vc4)
  have vg5 := hG.cell (cell_on hbw vc5)
  have vg6 := hG.cell (cell_on hbw vc6)
  clear uc0 uc1 uc2 uc3 uc4 uc5 uc6 vc0 vc1 vc2 vc3 vc4 vc5 vc6 x0 y1 y2 y3 y4 hbb hbx hbx1 hb1
  (refine anyG_step hG (i := 0) rfl (by kernel_rfl) (by kernel_rfl) (by kernel_rfl) (fun K hK => ?_); go_simp; refine hK _ ?_; clear hK K)
  (refine anyG_step hG (i := 1) rfl (by kernel_rfl) (by kernel_rfl) (by kernel_rfl) (fun K hK => ?_); go_simp; refine hK _ ?_; clear hK K)
  (refine anyG_step hG (i := 2) rfl (by kernel_rfl) (by kernel_rfl) (by kernel_rfl) (fun K hK => ?_); go_simp; refine hK _ ?_; clear hK K)
  (refine anyG_step hG (i := 3) rfl (by kernel_rfl) (by kernel_rfl) (by kernel_rfl) (fun K hK => ?_); go_simp; refine hK _ ?_; clear hK K)
  (refine anyG_step hG (i := 4) rfl (by kernel_rfl) (by kernel_rfl) (by kernel_rfl) (fun K hK => ?_); go_simp; refine hK _ ?_; clear hK K)
  (refine anyG_step hG (i := 5) rfl (by kernel_rfl) (by kernel_rfl) (by kernel_rfl) (fun K hK => ?_); go_simp; refine hK _ ?_; clear hK K)
  (refine anyG_step hG (i := 6) rfl (by kernel_rfl) (by kernel_rfl) (by kernel_rfl) (fun K hK => ?_); go_simp; refine hK _ ?_; clear hK K)
  (refine anyG_step hG (i := 7) rfl (by kernel_rfl) (by kernel_rfl) (by kernel_rfl) (fun K hK => ?_); go_simp; refine hK _ ?_; clear hK K)
  (refine anyG_step hG (i := 8) rfl (by kernel_rfl) (by kernel_rfl) (by kernel_rfl) (fun K hK => ?_); go_simp; refine hK _ ?_; clear hK K)
  (refine anyG_step hG (i := 9) rfl (by kernel_rfl) (by kernel_rfl) (by kernel_rfl) (fun K hK => ?_); go_simp; refine hK _ ?_; clear hK K)
  (refine anyG_step hG (i := 10) rfl (by kernel_rfl) (by kernel_rfl) (by kernel_rfl) (fun K hK => ?_); go_simp; refine hK _ ?_; clear hK K)
  (refine anyG_step hG (i := 11) rfl (by kernel_rfl) (by kernel_rfl) (by kernel_rfl) (fun K hK => ?_); go_simp; refine hK _ ?_; clear hK K)
  (refine anyG_step hG (i := 13) rfl (by kernel_rfl) (by kernel_rfl) (by kernel_rfl) (fun K hK => ?_); go_simp; refine hK _ ?_; clear hK K)
  (refine anyG_step hG (i := 14) rfl (by kernel_rfl) (by kernel_rfl) (by kernel_rfl) (fun K hK => ?_); go_simp; refine hK _ ?_; clear hK K)
  (refine anyG_step hG (i := 15) rfl (by kernel_rfl) (by kernel_rfl) (by kernel_rfl) (fun K hK => ?_); go_simp; refine hK _ ?_; clear hK K)
  (refine anyG_step hG (i := 16) rfl (by kernel_rfl) (by kernel_rfl) (by kernel_rfl) (fun K hK => ?_); go_simp; refine hK _ ?_; clear hK K)
  (refine anyG_step hG (i := 17) rfl (by kernel_rfl) (by kernel_rfl) (by kernel_rfl) (fun K hK => ?_); go_simp; refine hK _ ?_; clear hK K)
  (refine anyG_step hG (i := 18) rfl (by kernel_rfl) (by kernel_rfl) (by kernel_rfl) (fun K hK => ?_); go_simp; refine hK _ ?_; clear hK K)
  (refine anyG_step hG (i := 19) rfl (by kernel_rfl) (by kernel_rfl) (by kernel_rfl) (fun K hK => ?_); go_simp; refine hK _ ?_; clear hK K)
  (refine anyG_step hG (i := 20) rfl (by kernel_rfl) (by kernel_rfl) (by kernel_rfl) (fun K hK => ?_); go_simp; refine hK _ ?_; clear hK K)
  (refine anyG_step hG (i := 21) rfl (by kernel_rfl) (by kernel_rfl) (by kernel_rfl) (fun K hK => ?_); go_simp; refine hK _ ?_; clear hK K)
  (refine anyG_step hG (i := 22) rfl (by kernel_rfl) (by kernel_rfl) (by kernel_rfl) (fun K hK => ?_); go_simp; refine hK _ ?_; clear hK K)
  clear g0 g1 g2 g3 g4 ug0 ug1 ug2 ug3 ug4 ug5 ug6 vg0 vg1 vg2 vg3 vg4 vg5 vg6 hG
  refine anyG_one (i := 12) rfl (by kernel_rfl) ?_
  intro w2 hbw2 K hK
  have hww2 : Below w.heap.size w w2 := hbw.trans (hbw2.mono hbw.size)
  have ck := link_fits Hz1.out (isTree_below hww2 HLU.out) (isTree_below hww2 HLV.out)
  unfold chunkV at ck
  go_simp
  refine ck.mono ?_
  rintro e w3 ⟨p1, rfl, ht1, hb3⟩
  have hww3 : Below w.heap.size w w3 := hww2.trans (hb3.mono hww2.size)
  refine ⟨_, rfl, hK _ _ hb3 ?_⟩
  clear hK K ck
  refine anyG_one (i := 23) rfl (by kernel_rfl) ?_
  intro w4 hbw4 K hK
  have hww4 : Below w.heap.size w w4 := hww3.trans (hbw4.mono hww3.size)
  have ck := link_fits Hz2.out (isTree_below hww4 HRV.out) (isTree_below hww4 HR.out)
  unfold chunkV at ck
  go_simp
  refine ck.mono ?_
  rintro e w5 ⟨p2, rfl, ht2, hb5⟩
  have hww5 : Below w.heap.size w w5 := hww4.trans (hb5.mono hww4.size)
  refine ⟨_, rfl, hK _ _ hb5 ?_⟩
  clear hK K ck
  have ht1' := isTree_below (hbw4.trans (hb5.mono hbw4.size)) ht1
  refine anyG_one (i := 24) rfl (by kernel_rfl) ?_
  intro w6 hbw6 K hK
  have hww6 : Below w.heap.size w w6 := hww5.trans (hbw6.mono hww5.size)
  have ck := link_fits HZ.out (isTree_below hbw6 ht1') (isTree_below hbw6 ht2)
  unfold chunkV at ck
  go_simp
  refine ck.mono ?_
  rintro e w7 ⟨p3, rfl, ht3, hb7⟩
  have hww7 : Below w.heap.size w w7 := hww6.trans (hb7.mono hww6.size)
  refine ⟨_, rfl, hK _ _ hb7 ?_⟩
  clear hK K ck
  clear ht1 ht2 ht1'
  refine anyG_one (i := 25) rfl (by kernel_rfl) ?_
  intro w90 hb90 K hK
  go_simp
  refine hK _ _ (Below.refl _ w90) ?_
  clear hK K
  refine anyG_end (by kernel_rfl) ?_
  intro w91 hb91
  have hb92 := hb90.trans (hb91.mono hb90.size)
  have hw92 : Below w.heap.size w w91 := hww7.trans (hb92.mono hww7.size)
  have HT : Hid _ := isTree_below hb92 ht3
  clear hb90 hb91 hb92 ht3
  go_wp2
  go_ret
  exact ⟨_, rfl, HT.out, hw92⟩

end Go.Proofs.YtldhbjmillfjgaaGreatDoor

namespace Go.Proofs.YtldhbjmillfjgaaGreatDoor
open Go.RowKit
set_option linter.unusedVariables false
attribute [local go_sem] yieldsUpon okUpon

set_option maxRecDepth 100000 in
set_option maxHeartbeats 2000000 in
theorem turn_B (pl pr : Option Addr) (ll lr r : T) (c lc : List Nat) (w : World) (hl : isTree w pl (.node ll lc lr)) (hr : isTree w pr r) (hz : big (.node ll lc (.node lr c r))) (hd : (T.node ll lc lr).height = r.height + 2) (hc : ¬ ll.height < lr.height) :
    Calls Tryz.prog 87 #[.pointer pl, chunkV c, .pointer pr] w fun e w' => ∃ p, e = .returned (.pointer p) ∧ isTree w' p (.node ll lc (.node lr c r)) ∧ Below w.heap.size w w' := by
  have hb0 : ∀ o, Below w.heap.size w (w.alloc o) := fun o => (Below.refl _ w).alloc (Nat.le_refl _) o
  have HL : Hid (isTree w pl (.node ll lc lr)) := hl
  have HR : Hid (isTree w pr r) := hr
  have cl := fun o => nheight_any pl (.node ll lc lr) (w.alloc o) (isTree_below (hb0 o) hl)
  have cr := fun o => nheight_any pr r (w.alloc o) (isTree_below (hb0 o) hr)
  have hzT := hz
  obtain ⟨_, z2, _, _⟩ := big_node hz
  obtain ⟨b1, pll, plr, rfl, ⟨uc0, uc1, uc2, uc3, uc4⟩, ⟨uc5, uc6⟩, _, _, hlu, hru⟩ := hl
  have hq : ((T.node ll lc lr).height : Int) < 1000000000 ∧ (r.height : Int) < 1000000000 ∧ (lr.height : Int) < 1000000000 ∧ (ll.height : Int) < 1000000000 := by
    have e1 := (big_node hz).2.2.2
    have e2 := height_size (T.node ll lc (.node lr c r))
    have e3 := hz.2
    simp only [T.height, T.size] at *
    omega
  have hp : 0 ≤ ((T.node ll lc lr).height : Int) ∧ 0 ≤ (r.height : Int) := by omega
  have k0 : ((T.node ll lc lr).height : Int) = (r.height : Int) + 2 := by rw [hd]; push_cast; rfl
  have k1 : (((T.node ll lc lr).height : Int) - r.height == 2) = true := by rw [beq_iff_eq]; omega
  have k2 : (((T.node ll lc lr).height : Int) - r.height == -2) = false := by rw [beq_eq_false_iff_ne]; omega
  have k3 : ¬ ((ll.height : Int) < (lr.height : Int)) := by omega
  have ck := fun wx (hb : Below w.heap.size w wx) => (nheight_any plr lr wx (isTree_below hb hru)).mono (R' := fun e w' => e = .returned (.int .i64 lr.height) ∧ Below wx.heap.size wx w') (by rintro e w' ⟨rfl, rfl⟩; exact ⟨rfl, Below.refl _ _⟩)
  have co := fun wx (hb : Below w.heap.size w wx) => (nheight_any pll ll wx (isTree_below hb hlu)).mono (R' := fun e w' => e = .returned (.int .i64 ll.height) ∧ Below wx.heap.size wx w') (by rintro e w' ⟨rfl, rfl⟩; exact ⟨rfl, Below.refl _ _⟩)
  have HLU : Hid _ := hlu
  have HRU : Hid _ := hru
  clear k0 hd hc hzT
  generalize ((T.node ll lc lr).height : Int) = x1 at *
  generalize (r.height : Int) = x2 at *
  generalize (lr.height : Int) = x3 at *
  generalize (ll.height : Int) = x4 at *
  have HZ : Hid _ := hz
  have Hz2 : Hid _ := z2
  clear hz z2 hlu hru
  have d6 := fun o => cell_on (hb0 o) uc6
  unfold chunkV
  go_enter Tryz.func87, Tryz.ntmps87
  go_wp2_with (first | (go_at_call_of 42 b1; refine (cl _).mono ?_; rintro e w1 ⟨rfl, rfl⟩) | (go_at_call_of 42 pr; refine (cr _).mono ?_; rintro e w1 ⟨rfl, rfl⟩) | fail)
  obtain ⟨W1, hW1⟩ : ∃ W1, w.alloc (.cells #[.string (bytesOf c), .int .i64 (C1 c), .int .i64 (C2 c), .int .i64 (C3 c), .int .i64 (C4 c)] 106) = W1 := ⟨_, rfl⟩
  have hbW1 : Below w.heap.size w W1 := by rw [← hW1]; exact hb0 _
  have x0 : W1.cell? ⟨w.heap.size, 0, none⟩ = some (.string (bytesOf c)) := by rw [← hW1]; simp [go_sem]
  have y1 : W1.cell? ⟨w.heap.size, 1, none⟩ = some (.int .i64 (C1 c)) := by rw [← hW1]; simp [go_sem]
  have y2 : W1.cell? ⟨w.heap.size, 2, none⟩ = some (.int .i64 (C2 c)) := by rw [← hW1]; simp [go_sem]
  have y3 : W1.cell? ⟨w.heap.size, 3, none⟩ = some (.int .i64 (C3 c)) := by rw [← hW1]; simp [go_sem]
  have y4 : W1.cell? ⟨w.heap.size, 4, none⟩ = some (.int .i64 (C4 c)) := by rw [← hW1]; simp [go_sem]
  rw [hW1]
  clear hW1 cl cr
  obtain ⟨G0, hG0⟩ := exists_growth W1
  have hb0w : ∀ x, Below w.heap.size w (G0 x) := fun x => hbW1.trans ((hG0.below x).mono hbW1.size)
  have q5 := hG0.cell (cell_on hbW1 uc5)
  have HG0 : Hid (Growth W1 G0) := hG0
  refine wp_region_grow hG0 (by kernel_rfl) (by kernel_rfl) ?_
  clear hG0 d6
  repeat (first
    | go_big_quiet_skip
    | (go_big_quiet_want; go_big_quiet_op; first | go_big_quiet_on | (apply Exists.intro; refine ⟨fun _ => ?_, ?_⟩; (first | (go_at_call_of 42 plr; exact grow_of HG0.out (ck _ (hb0w _))) | (go_at_call_of 42 pll; exact grow_of HG0.out (co _ (hb0w _)))); go_big_quiet_on)))
  refine wpQuiet_nil ?_
  rintro w0 ⟨xx, rfl⟩
  go_wp2
  have hbx := hb0w xx
  have hbx1 : Below W1.heap.size W1 (G0 xx) := HG0.out.below xx
  obtain ⟨w0, hw0⟩ : ∃ w0, G0 xx = w0 := ⟨_, rfl⟩
  rw [hw0] at hbx hbx1 ⊢
  clear hw0 q5 HG0 hb0w ck co
  refine wp_region_rel 17 17 (by kernel_rfl) rfl ?_
  intro w1 hb1
  have hbw : Below w.heap.size w w1 := hbx.trans (hb1.mono hbx.size)
  have hbb : Below W1.heap.size W1 w1 := hbx1.trans (hb1.mono hbx1.size)
  obtain ⟨G, hG⟩ := exists_growth w1
  have g0 := hG.cell (cell_on hbb x0)
  have g1 := hG.cell (cell_on hbb y1)
  have g2 := hG.cell (cell_on hbb y2)
  have g3 := hG.cell (cell_on hbb y3)
  have g4 := hG.cell (cell_on hbb y4)
  have ug0 := hG.cell (cell_on hbw uc0)
  have ug1 := hG.cell (cell_on hbw uc1)
  have ug2 := hG.cell (cell_on hbw uc2)
  have ug3 := hG.cell (cell_on hbw uc3)
  have ug4 := hG.cell (cell_on hbw uc4)
  have ug5 := hG.cell (cell_on hbw uc5)
  have ug6 := hG.cell (cell_on hbw uc6)
  clear uc0 uc1 uc2 uc3 uc4 uc5 uc6  x0 y1 y2 y3 y4 hbb hbx hbx1 hb1
  (refine anyG_step hG (i := 0) rfl (by kernel_rfl) (by kernel_rfl) (by kernel_rfl) (fun K hK => ?_); go_simp; refine hK _ ?_; clear hK K)
  (refine anyG_step hG (i := 1) rfl (by kernel_rfl) (by kernel_rfl) (by kernel_rfl) (fun K hK => ?_); go_simp; refine hK _ ?_; clear hK K)
  (refine anyG_step hG (i := 2) rfl (by kernel_rfl) (by kernel_rfl) (by kernel_rfl) (fun K hK => ?_); go_simp; refine hK _ ?_; clear hK K)
  (refine anyG_step hG (i := 3) rfl (by kernel_rfl) (by kernel_rfl) (by kernel_rfl) (fun K hK => ?_); go_simp; refine hK _ ?_; clear hK K)
  (refine anyG_step hG (i := 4) rfl (by kernel_rfl) (by kernel_rfl) (by kernel_rfl) (fun K hK => ?_); go_simp; refine hK _ ?_; clear hK K)
  (refine anyG_step hG (i := 5) rfl (by kernel_rfl) (by kernel_rfl) (by kernel_rfl) (fun K hK => ?_); go_simp; refine hK _ ?_; clear hK K)
  (refine anyG_step hG (i := 6) rfl (by kernel_rfl) (by kernel_rfl) (by kernel_rfl) (fun K hK => ?_); go_simp; refine hK _ ?_; clear hK K)
  (refine anyG_step hG (i := 7) rfl (by kernel_rfl) (by kernel_rfl) (by kernel_rfl) (fun K hK => ?_); go_simp; refine hK _ ?_; clear hK K)
  (refine anyG_step hG (i := 8) rfl (by kernel_rfl) (by kernel_rfl) (by kernel_rfl) (fun K hK => ?_); go_simp; refine hK _ ?_; clear hK K)
  (refine anyG_step hG (i := 9) rfl (by kernel_rfl) (by kernel_rfl) (by kernel_rfl) (fun K hK => ?_); go_simp; refine hK _ ?_; clear hK K)
  (refine anyG_step hG (i := 10) rfl (by kernel_rfl) (by kernel_rfl) (by kernel_rfl) (fun K hK => ?_); go_simp; refine hK _ ?_; clear hK K)
  (refine anyG_step hG (i := 11) rfl (by kernel_rfl) (by kernel_rfl) (by kernel_rfl) (fun K hK => ?_); go_simp; refine hK _ ?_; clear hK K)
  (refine anyG_step hG (i := 12) rfl (by kernel_rfl) (by kernel_rfl) (by kernel_rfl) (fun K hK => ?_); go_simp; refine hK _ ?_; clear hK K)
  (refine anyG_step hG (i := 13) rfl (by kernel_rfl) (by kernel_rfl) (by kernel_rfl) (fun K hK => ?_); go_simp; refine hK _ ?_; clear hK K)
  clear g0 g1 g2 g3 g4 ug0 ug1 ug2 ug3 ug4 ug5 ug6  hG
  refine anyG_one (i := 14) rfl (by kernel_rfl) ?_
  intro w2 hbw2 K hK
  have hww2 : Below w.heap.size w w2 := hbw.trans (hbw2.mono hbw.size)
  have ck := link_fits Hz2.out (isTree_below hww2 HRU.out) (isTree_below hww2 HR.out)
  unfold chunkV at ck
  go_simp
  refine ck.mono ?_
  rintro e w3 ⟨p1, rfl, ht1, hb3⟩
  have hww3 : Below w.heap.size w w3 := hww2.trans (hb3.mono hww2.size)
  refine ⟨_, rfl, hK _ _ hb3 ?_⟩
  clear hK K ck
  refine anyG_one (i := 15) rfl (by kernel_rfl) ?_
  intro w4 hbw4 K hK
  have hww4 : Below w.heap.size w w4 := hww3.trans (hbw4.mono hww3.size)
  have ck := link_fits HZ.out (isTree_below hww4 HLU.out) (isTree_below hbw4 ht1)
  unfold chunkV at ck
  go_simp
  refine ck.mono ?_
  rintro e w5 ⟨p2, rfl, ht2, hb5⟩
  have hww5 : Below w.heap.size w w5 := hww4.trans (hb5.mono hww4.size)
  refine ⟨_, rfl, hK _ _ hb5 ?_⟩
  clear hK K ck
  clear ht1
  refine anyG_one (i := 16) rfl (by kernel_rfl) ?_
  intro w90 hb90 K hK
  go_simp
  refine hK _ _ (Below.refl _ w90) ?_
  clear hK K
  refine anyG_end (by kernel_rfl) ?_
  intro w91 hb91
  have hb92 := hb90.trans (hb91.mono hb90.size)
  have hw92 : Below w.heap.size w w91 := hww5.trans (hb92.mono hww5.size)
  have HT : Hid _ := isTree_below hb92 ht2
  clear hb90 hb91 hb92 ht2
  go_wp2
  go_ret
  exact ⟨_, rfl, HT.out, hw92⟩

end Go.Proofs.YtldhbjmillfjgaaGreatDoor

namespace Go.Proofs.YtldhbjmillfjgaaGreatDoor
open Go.RowKit
set_option linter.unusedVariables false
attribute [local go_sem] yieldsUpon okUpon

set_option maxRecDepth 100000 in
set_option maxHeartbeats 2000000 in
theorem turn_C (pl pr : Option Addr) (l a d rr : T) (c b rc : List Nat) (w : World) (hl : isTree w pl l) (hr : isTree w pr (.node (.node a b d) rc rr)) (hz : big (.node (.node l c a) b (.node d rc rr))) (hd : (T.node (.node a b d) rc rr).height = l.height + 2) (hc : rr.height < (T.node a b d).height) :
    Calls Tryz.prog 87 #[.pointer pl, chunkV c, .pointer pr] w fun e w' => ∃ p, e = .returned (.pointer p) ∧ isTree w' p (.node (.node l c a) b (.node d rc rr)) ∧ Below w.heap.size w w' := by
  have hb0 : ∀ o, Below w.heap.size w (w.alloc o) := fun o => (Below.refl _ w).alloc (Nat.le_refl _) o
  have HL : Hid (isTree w pl l) := hl
  have HR : Hid (isTree w pr (.node (.node a b d) rc rr)) := hr
  have cl := fun o => nheight_any pl l (w.alloc o) (isTree_below (hb0 o) hl)
  have cr := fun o => nheight_any pr (.node (.node a b d) rc rr) (w.alloc o) (isTree_below (hb0 o) hr)
  have hzT := hz
  obtain ⟨z1, z2, _, _⟩ := big_node hz
  obtain ⟨b1, prl, prr, rfl, ⟨uc0, uc1, uc2, uc3, uc4⟩, ⟨uc5, uc6⟩, _, _, hlu, hru⟩ := hr
  have hluT := hlu
  obtain ⟨b2, pa, pd, rfl, ⟨vc0, vc1, vc2, vc3, vc4⟩, ⟨vc5, vc6⟩, _, _, hlv, hrv⟩ := hluT
  have hq : (l.height : Int) < 1000000000 ∧ ((T.node (.node a b d) rc rr).height : Int) < 1000000000 ∧ ((T.node a b d).height : Int) < 1000000000 ∧ (rr.height : Int) < 1000000000 := by
    have e1 := (big_node hz).2.2.2
    have e2 := height_size (T.node (.node l c a) b (.node d rc rr))
    have e3 := hz.2
    simp only [T.height, T.size] at *
    omega
  have hp : 0 ≤ (l.height : Int) ∧ 0 ≤ ((T.node (.node a b d) rc rr).height : Int) := by omega
  have k0 : ((T.node (.node a b d) rc rr).height : Int) = (l.height : Int) + 2 := by rw [hd]; push_cast; rfl
  have k1 : ((l.height : Int) - (T.node (.node a b d) rc rr).height == 2) = false := by rw [beq_eq_false_iff_ne]; omega
  have k2 : ((l.height : Int) - (T.node (.node a b d) rc rr).height == -2) = true := by rw [beq_iff_eq]; omega
  have k3 : ((rr.height : Int) < ((T.node a b d).height : Int)) := by omega
  have ck := fun wx (hb : Below w.heap.size w wx) => (nheight_any (some ⟨b2, 0, none⟩) (.node a b d) wx (isTree_below hb hlu)).mono (R' := fun e w' => e = .returned (.int .i64 (T.node a b d).height) ∧ Below wx.heap.size wx w') (by rintro e w' ⟨rfl, rfl⟩; exact ⟨rfl, Below.refl _ _⟩)
  have co := fun wx (hb : Below w.heap.size w wx) => (nheight_any prr rr wx (isTree_below hb hru)).mono (R' := fun e w' => e = .returned (.int .i64 rr.height) ∧ Below wx.heap.size wx w') (by rintro e w' ⟨rfl, rfl⟩; exact ⟨rfl, Below.refl _ _⟩)
  have HLU : Hid _ := hlu
  have HRU : Hid _ := hru
  have HLV : Hid _ := hlv
  have HRV : Hid _ := hrv
  clear k0 hd hc hzT
  generalize (l.height : Int) = x1 at *
  generalize ((T.node (.node a b d) rc rr).height : Int) = x2 at *
  generalize ((T.node a b d).height : Int) = x3 at *
  generalize (rr.height : Int) = x4 at *
  have HZ : Hid _ := hz
  have Hz1 : Hid _ := z1
  have Hz2 : Hid _ := z2
  clear hz z1 z2 hlu hru hlv hrv
  have d5 := fun o => cell_on (hb0 o) uc5
  unfold chunkV
  go_enter Tryz.func87, Tryz.ntmps87
  go_wp2_with (first | (go_at_call_of 42 pl; refine (cl _).mono ?_; rintro e w1 ⟨rfl, rfl⟩) | (go_at_call_of 42 b1; refine (cr _).mono ?_; rintro e w1 ⟨rfl, rfl⟩) | fail)
  obtain ⟨W1, hW1⟩ : ∃ W1, w.alloc (.cells #[.string (bytesOf c), .int .i64 (C1 c), .int .i64 (C2 c), .int .i64 (C3 c), .int .i64 (C4 c)] 106) = W1 := ⟨_, rfl⟩
  have hbW1 : Below w.heap.size w W1 := by rw [← hW1]; exact hb0 _
  have x0 : W1.cell? ⟨w.heap.size, 0, none⟩ = some (.string (bytesOf c)) := by rw [← hW1]; simp [go_sem]
  have y1 : W1.cell? ⟨w.heap.size, 1, none⟩ = some (.int .i64 (C1 c)) := by rw [← hW1]; simp [go_sem]
  have y2 : W1.cell? ⟨w.heap.size, 2, none⟩ = some (.int .i64 (C2 c)) := by rw [← hW1]; simp [go_sem]
  have y3 : W1.cell? ⟨w.heap.size, 3, none⟩ = some (.int .i64 (C3 c)) := by rw [← hW1]; simp [go_sem]
  have y4 : W1.cell? ⟨w.heap.size, 4, none⟩ = some (.int .i64 (C4 c)) := by rw [← hW1]; simp [go_sem]
  rw [hW1]
  clear hW1 cl cr
  obtain ⟨G0, hG0⟩ := exists_growth W1
  have hb0w : ∀ x, Below w.heap.size w (G0 x) := fun x => hbW1.trans ((hG0.below x).mono hbW1.size)
  have q6 := hG0.cell (cell_on hbW1 uc6)
  have HG0 : Hid (Growth W1 G0) := hG0
  refine wp_region_grow hG0 (by kernel_rfl) (by kernel_rfl) ?_
  clear hG0 d5
  repeat (first
    | go_big_quiet_skip
    | (go_big_quiet_want; go_big_quiet_op; first | go_big_quiet_on | (apply Exists.intro; refine ⟨fun _ => ?_, ?_⟩; (first | (go_at_call_of 42 b2; exact grow_of HG0.out (ck _ (hb0w _))) | (go_at_call_of 42 prr; exact grow_of HG0.out (co _ (hb0w _)))); go_big_quiet_on)))
  refine wpQuiet_nil ?_
  rintro w0 ⟨xx, rfl⟩
  go_wp2
  have hbx := hb0w xx
  have hbx1 : Below W1.heap.size W1 (G0 xx) := HG0.out.below xx
  obtain ⟨w0, hw0⟩ : ∃ w0, G0 xx = w0 := ⟨_, rfl⟩
  rw [hw0] at hbx hbx1 ⊢
  clear hw0 q6 HG0 hb0w ck co
  refine wp_region_rel 26 26 (by kernel_rfl) rfl ?_
  intro w1 hb1
  have hbw : Below w.heap.size w w1 := hbx.trans (hb1.mono hbx.size)
  have hbb : Below W1.heap.size W1 w1 := hbx1.trans (hb1.mono hbx1.size)
  obtain ⟨G, hG⟩ := exists_growth w1
  have g0 := hG.cell (cell_on hbb x0)
  have g1 := hG.cell (cell_on hbb y1)
  have g2 := hG.cell (cell_on hbb y2)
  have g3 := hG.cell (cell_on hbb y3)
  have g4 := hG.cell (cell_on hbb y4)
  have ug0 := hG.cell (cell_on hbw uc0)
  have ug1 := hG.cell (cell_on hbw uc1)
  have ug2 := hG.cell (cell_on hbw uc2)
  have ug3 := hG.cell (cell_on hbw uc3)
  have ug4 := hG.cell (cell_on hbw uc4)
  have ug5 := hG.cell (cell_on hbw uc5)
  have ug6 := hG.cell (cell_on hbw uc6)
  have vg0 := hG.cell (cell_on hbw vc0)
  have vg1 := hG.cell (cell_on hbw vc1)
  have vg2 := hG.cell (cell_on hbw vc2)
  have vg3 := hG.cell (cell_on hbw vc3)
  have vg4 := hG.cell (cell_on hbw vc4)
  have vg5 := hG.cell (cell_on hbw vc5)
  have vg6 := hG.cell (cell_on hbw vc6)
  clear uc0 uc1 uc2 uc3 uc4 uc5 uc6 vc0 vc1 vc2 vc3 vc4 vc5 vc6 x0 y1 y2 y3 y4 hbb hbx hbx1 hb1
  (refine anyG_step hG (i := 0) rfl (by kernel_rfl) (by kernel_rfl) (by kernel_rfl) (fun K hK => ?_); go_simp; refine hK _ ?_; clear hK K)
  (refine anyG_step hG (i := 1) rfl (by kernel_rfl) (by kernel_rfl) (by kernel_rfl) (fun K hK => ?_); go_simp; refine hK _ ?_; clear hK K)
  (refine anyG_step hG (i := 2) rfl (by kernel_rfl) (by kernel_rfl) (by kernel_rfl) (fun K hK => ?_); go_simp; refine hK _ ?_; clear hK K)
  (refine anyG_step hG (i := 3) rfl (by kernel_rfl) (by kernel_rfl) (by kernel_rfl) (fun K hK => ?_); go_simp; refine hK _ ?_; clear hK K)
  (refine anyG_step hG (i := 4) rfl (by kernel_rfl) (by kernel_rfl) (by kernel_rfl) (fun K hK => ?_); go_simp; refine hK _ ?_; clear hK K)
  (refine anyG_step hG (i := 5) rfl (by kernel_rfl) (by kernel_rfl) (by kernel_rfl) (fun K hK => ?_); go_simp; refine hK _ ?_; clear hK K)
  (refine anyG_step hG (i := 7) rfl (by kernel_rfl) (by kernel_rfl) (by kernel_rfl) (fun K hK => ?_); go_simp; refine hK _ ?_; clear hK K)
  (refine anyG_step hG (i := 8) rfl (by kernel_rfl) (by kernel_rfl) (by kernel_rfl) (fun K hK => ?_); go_simp; refine hK _ ?_; clear hK K)
  (refine anyG_step hG (i := 9) rfl (by kernel_rfl) (by kernel_rfl) (by kernel_rfl) (fun K hK => ?_); go_simp; refine hK _ ?_; clear hK K)
  (refine anyG_step hG (i := 10) rfl (by kernel_rfl) (by kernel_rfl) (by kernel_rfl) (fun K hK => ?_); go_simp; refine hK _ ?_; clear hK K)
  (refine anyG_step hG (i := 11) rfl (by kernel_rfl) (by kernel_rfl) (by kernel_rfl) (fun K hK => ?_); go_simp; refine hK _ ?_; clear hK K)
  (refine anyG_step hG (i := 12) rfl (by kernel_rfl) (by kernel_rfl) (by kernel_rfl) (fun K hK => ?_); go_simp; refine hK _ ?_; clear hK K)
  (refine anyG_step hG (i := 13) rfl (by kernel_rfl) (by kernel_rfl) (by kernel_rfl) (fun K hK => ?_); go_simp; refine hK _ ?_; clear hK K)
  (refine anyG_step hG (i := 14) rfl (by kernel_rfl) (by kernel_rfl) (by kernel_rfl) (fun K hK => ?_); go_simp; refine hK _ ?_; clear hK K)
  (refine anyG_step hG (i := 15) rfl (by kernel_rfl) (by kernel_rfl) (by kernel_rfl) (fun K hK => ?_); go_simp; refine hK _ ?_; clear hK K)
  (refine anyG_step hG (i := 16) rfl (by kernel_rfl) (by kernel_rfl) (by kernel_rfl) (fun K hK => ?_); go_simp; refine hK _ ?_; clear hK K)
  (refine anyG_step hG (i := 17) rfl (by kernel_rfl) (by kernel_rfl) (by kernel_rfl) (fun K hK => ?_); go_simp; refine hK _ ?_; clear hK K)
  (refine anyG_step hG (i := 18) rfl (by kernel_rfl) (by kernel_rfl) (by kernel_rfl) (fun K hK => ?_); go_simp; refine hK _ ?_; clear hK K)
  (refine anyG_step hG (i := 19) rfl (by kernel_rfl) (by kernel_rfl) (by kernel_rfl) (fun K hK => ?_); go_simp; refine hK _ ?_; clear hK K)
  (refine anyG_step hG (i := 20) rfl (by kernel_rfl) (by kernel_rfl) (by kernel_rfl) (fun K hK => ?_); go_simp; refine hK _ ?_; clear hK K)
  (refine anyG_step hG (i := 21) rfl (by kernel_rfl) (by kernel_rfl) (by kernel_rfl) (fun K hK => ?_); go_simp; refine hK _ ?_; clear hK K)
  (refine anyG_step hG (i := 22) rfl (by kernel_rfl) (by kernel_rfl) (by kernel_rfl) (fun K hK => ?_); go_simp; refine hK _ ?_; clear hK K)
  clear g0 g1 g2 g3 g4 ug0 ug1 ug2 ug3 ug4 ug5 ug6 vg0 vg1 vg2 vg3 vg4 vg5 vg6 hG
  refine anyG_one (i := 6) rfl (by kernel_rfl) ?_
  intro w2 hbw2 K hK
  have hww2 : Below w.heap.size w w2 := hbw.trans (hbw2.mono hbw.size)
  have ck := link_fits Hz1.out (isTree_below hww2 HL.out) (isTree_below hww2 HLV.out)
  unfold chunkV at ck
  go_simp
  refine ck.mono ?_
  rintro e w3 ⟨p1, rfl, ht1, hb3⟩
  have hww3 : Below w.heap.size w w3 := hww2.trans (hb3.mono hww2.size)
  refine ⟨_, rfl, hK _ _ hb3 ?_⟩
  clear hK K ck
  refine anyG_one (i := 23) rfl (by kernel_rfl) ?_
  intro w4 hbw4 K hK
  have hww4 : Below w.heap.size w w4 := hww3.trans (hbw4.mono hww3.size)
  have ck := link_fits Hz2.out (isTree_below hww4 HRV.out) (isTree_below hww4 HRU.out)
  unfold chunkV at ck
  go_simp
  refine ck.mono ?_
  rintro e w5 ⟨p2, rfl, ht2, hb5⟩
  have hww5 : Below w.heap.size w w5 := hww4.trans (hb5.mono hww4.size)
  refine ⟨_, rfl, hK _ _ hb5 ?_⟩
  clear hK K ck
  have ht1' := isTree_below (hbw4.trans (hb5.mono hbw4.size)) ht1
  refine anyG_one (i := 24) rfl (by kernel_rfl) ?_
  intro w6 hbw6 K hK
  have hww6 : Below w.heap.size w w6 := hww5.trans (hbw6.mono hww5.size)
  have ck := link_fits HZ.out (isTree_below hbw6 ht1') (isTree_below hbw6 ht2)
  unfold chunkV at ck
  go_simp
  refine ck.mono ?_
  rintro e w7 ⟨p3, rfl, ht3, hb7⟩
  have hww7 : Below w.heap.size w w7 := hww6.trans (hb7.mono hww6.size)
  refine ⟨_, rfl, hK _ _ hb7 ?_⟩
  clear hK K ck
  clear ht1 ht2 ht1'
  refine anyG_one (i := 25) rfl (by kernel_rfl) ?_
  intro w90 hb90 K hK
  go_simp
  refine hK _ _ (Below.refl _ w90) ?_
  clear hK K
  refine anyG_end (by kernel_rfl) ?_
  intro w91 hb91
  have hb92 := hb90.trans (hb91.mono hb90.size)
  have hw92 : Below w.heap.size w w91 := hww7.trans (hb92.mono hww7.size)
  have HT : Hid _ := isTree_below hb92 ht3
  clear hb90 hb91 hb92 ht3
  go_wp2
  go_ret
  exact ⟨_, rfl, HT.out, hw92⟩

end Go.Proofs.YtldhbjmillfjgaaGreatDoor

namespace Go.Proofs.YtldhbjmillfjgaaGreatDoor
open Go.RowKit
set_option linter.unusedVariables false
attribute [local go_sem] yieldsUpon okUpon

set_option maxRecDepth 100000 in
set_option maxHeartbeats 2000000 in
theorem turn_D (pl pr : Option Addr) (l rl rr : T) (c rc : List Nat) (w : World) (hl : isTree w pl l) (hr : isTree w pr (.node rl rc rr)) (hz : big (.node (.node l c rl) rc rr)) (hd : (T.node rl rc rr).height = l.height + 2) (hc : ¬ rr.height < rl.height) :
    Calls Tryz.prog 87 #[.pointer pl, chunkV c, .pointer pr] w fun e w' => ∃ p, e = .returned (.pointer p) ∧ isTree w' p (.node (.node l c rl) rc rr) ∧ Below w.heap.size w w' := by
  have hb0 : ∀ o, Below w.heap.size w (w.alloc o) := fun o => (Below.refl _ w).alloc (Nat.le_refl _) o
  have HL : Hid (isTree w pl l) := hl
  have HR : Hid (isTree w pr (.node rl rc rr)) := hr
  have cl := fun o => nheight_any pl l (w.alloc o) (isTree_below (hb0 o) hl)
  have cr := fun o => nheight_any pr (.node rl rc rr) (w.alloc o) (isTree_below (hb0 o) hr)
  have hzT := hz
  obtain ⟨z1, _, _, _⟩ := big_node hz
  obtain ⟨b1, prl, prr, rfl, ⟨uc0, uc1, uc2, uc3, uc4⟩, ⟨uc5, uc6⟩, _, _, hlu, hru⟩ := hr
  have hq : (l.height : Int) < 1000000000 ∧ ((T.node rl rc rr).height : Int) < 1000000000 ∧ (rl.height : Int) < 1000000000 ∧ (rr.height : Int) < 1000000000 := by
    have e1 := (big_node hz).2.2.2
    have e2 := height_size (T.node (.node l c rl) rc rr)
    have e3 := hz.2
    simp only [T.height, T.size] at *
    omega
  have hp : 0 ≤ (l.height : Int) ∧ 0 ≤ ((T.node rl rc rr).height : Int) := by omega
  have k0 : ((T.node rl rc rr).height : Int) = (l.height : Int) + 2 := by rw [hd]; push_cast; rfl
  have k1 : ((l.height : Int) - (T.node rl rc rr).height == 2) = false := by rw [beq_eq_false_iff_ne]; omega
  have k2 : ((l.height : Int) - (T.node rl rc rr).height == -2) = true := by rw [beq_iff_eq]; omega
  have k3 : ¬ ((rr.height : Int) < (rl.height : Int)) := by omega
  have ck := fun wx (hb : Below w.heap.size w wx) => (nheight_any prl rl wx (isTree_below hb hlu)).mono (R' := fun e w' => e = .returned (.int .i64 rl.height) ∧ Below wx.heap.size wx w') (by rintro e w' ⟨rfl, rfl⟩; exact ⟨rfl, Below.refl _ _⟩)
  have co := fun wx (hb : Below w.heap.size w wx) => (nheight_any prr rr wx (isTree_below hb hru)).mono (R' := fun e w' => e = .returned (.int .i64 rr.height) ∧ Below wx.heap.size wx w') (by rintro e w' ⟨rfl, rfl⟩; exact ⟨rfl, Below.refl _ _⟩)
  have HLU : Hid _ := hlu
  have HRU : Hid _ := hru
  clear k0 hd hc hzT
  generalize (l.height : Int) = x1 at *
  generalize ((T.node rl rc rr).height : Int) = x2 at *
  generalize (rl.height : Int) = x3 at *
  generalize (rr.height : Int) = x4 at *
  have HZ : Hid _ := hz
  have Hz1 : Hid _ := z1
  clear hz z1 hlu hru
  have d5 := fun o => cell_on (hb0 o) uc5
  unfold chunkV
  go_enter Tryz.func87, Tryz.ntmps87
  go_wp2_with (first | (go_at_call_of 42 pl; refine (cl _).mono ?_; rintro e w1 ⟨rfl, rfl⟩) | (go_at_call_of 42 b1; refine (cr _).mono ?_; rintro e w1 ⟨rfl, rfl⟩) | fail)
  obtain ⟨W1, hW1⟩ : ∃ W1, w.alloc (.cells #[.string (bytesOf c), .int .i64 (C1 c), .int .i64 (C2 c), .int .i64 (C3 c), .int .i64 (C4 c)] 106) = W1 := ⟨_, rfl⟩
  have hbW1 : Below w.heap.size w W1 := by rw [← hW1]; exact hb0 _
  have x0 : W1.cell? ⟨w.heap.size, 0, none⟩ = some (.string (bytesOf c)) := by rw [← hW1]; simp [go_sem]
  have y1 : W1.cell? ⟨w.heap.size, 1, none⟩ = some (.int .i64 (C1 c)) := by rw [← hW1]; simp [go_sem]
  have y2 : W1.cell? ⟨w.heap.size, 2, none⟩ = some (.int .i64 (C2 c)) := by rw [← hW1]; simp [go_sem]
  have y3 : W1.cell? ⟨w.heap.size, 3, none⟩ = some (.int .i64 (C3 c)) := by rw [← hW1]; simp [go_sem]
  have y4 : W1.cell? ⟨w.heap.size, 4, none⟩ = some (.int .i64 (C4 c)) := by rw [← hW1]; simp [go_sem]
  rw [hW1]
  clear hW1 cl cr
  obtain ⟨G0, hG0⟩ := exists_growth W1
  have hb0w : ∀ x, Below w.heap.size w (G0 x) := fun x => hbW1.trans ((hG0.below x).mono hbW1.size)
  have q6 := hG0.cell (cell_on hbW1 uc6)
  have HG0 : Hid (Growth W1 G0) := hG0
  refine wp_region_grow hG0 (by kernel_rfl) (by kernel_rfl) ?_
  clear hG0 d5
  repeat (first
    | go_big_quiet_skip
    | (go_big_quiet_want; go_big_quiet_op; first | go_big_quiet_on | (apply Exists.intro; refine ⟨fun _ => ?_, ?_⟩; (first | (go_at_call_of 42 prl; exact grow_of HG0.out (ck _ (hb0w _))) | (go_at_call_of 42 prr; exact grow_of HG0.out (co _ (hb0w _)))); go_big_quiet_on)))
  refine wpQuiet_nil ?_
  rintro w0 ⟨xx, rfl⟩
  go_wp2
  have hbx := hb0w xx
  have hbx1 : Below W1.heap.size W1 (G0 xx) := HG0.out.below xx
  obtain ⟨w0, hw0⟩ : ∃ w0, G0 xx = w0 := ⟨_, rfl⟩
  rw [hw0] at hbx hbx1 ⊢
  clear hw0 q6 HG0 hb0w ck co
  refine wp_region_rel 17 17 (by kernel_rfl) rfl ?_
  intro w1 hb1
  have hbw : Below w.heap.size w w1 := hbx.trans (hb1.mono hbx.size)
  have hbb : Below W1.heap.size W1 w1 := hbx1.trans (hb1.mono hbx1.size)
  obtain ⟨G, hG⟩ := exists_growth w1
  have g0 := hG.cell (cell_on hbb x0)
  have g1 := hG.cell (cell_on hbb y1)
  have g2 := hG.cell (cell_on hbb y2)
  have g3 := hG.cell (cell_on hbb y3)
  have g4 := hG.cell (cell_on hbb y4)
  have ug0 := hG.cell (cell_on hbw uc0)
  have ug1 := hG.cell (cell_on hbw uc1)
  have ug2 := hG.cell (cell_on hbw uc2)
  have ug3 := hG.cell (cell_on hbw uc3)
  have ug4 := hG.cell (cell_on hbw uc4)
  have ug5 := hG.cell (cell_on hbw uc5)
  have ug6 := hG.cell (cell_on hbw uc6)
  clear uc0 uc1 uc2 uc3 uc4 uc5 uc6  x0 y1 y2 y3 y4 hbb hbx hbx1 hb1
  (refine anyG_step hG (i := 0) rfl (by kernel_rfl) (by kernel_rfl) (by kernel_rfl) (fun K hK => ?_); go_simp; refine hK _ ?_; clear hK K)
  (refine anyG_step hG (i := 1) rfl (by kernel_rfl) (by kernel_rfl) (by kernel_rfl) (fun K hK => ?_); go_simp; refine hK _ ?_; clear hK K)
  (refine anyG_step hG (i := 2) rfl (by kernel_rfl) (by kernel_rfl) (by kernel_rfl) (fun K hK => ?_); go_simp; refine hK _ ?_; clear hK K)
  (refine anyG_step hG (i := 3) rfl (by kernel_rfl) (by kernel_rfl) (by kernel_rfl) (fun K hK => ?_); go_simp; refine hK _ ?_; clear hK K)
  (refine anyG_step hG (i := 4) rfl (by kernel_rfl) (by kernel_rfl) (by kernel_rfl) (fun K hK => ?_); go_simp; refine hK _ ?_; clear hK K)
  (refine anyG_step hG (i := 5) rfl (by kernel_rfl) (by kernel_rfl) (by kernel_rfl) (fun K hK => ?_); go_simp; refine hK _ ?_; clear hK K)
  (refine anyG_step hG (i := 7) rfl (by kernel_rfl) (by kernel_rfl) (by kernel_rfl) (fun K hK => ?_); go_simp; refine hK _ ?_; clear hK K)
  (refine anyG_step hG (i := 8) rfl (by kernel_rfl) (by kernel_rfl) (by kernel_rfl) (fun K hK => ?_); go_simp; refine hK _ ?_; clear hK K)
  (refine anyG_step hG (i := 9) rfl (by kernel_rfl) (by kernel_rfl) (by kernel_rfl) (fun K hK => ?_); go_simp; refine hK _ ?_; clear hK K)
  (refine anyG_step hG (i := 10) rfl (by kernel_rfl) (by kernel_rfl) (by kernel_rfl) (fun K hK => ?_); go_simp; refine hK _ ?_; clear hK K)
  (refine anyG_step hG (i := 11) rfl (by kernel_rfl) (by kernel_rfl) (by kernel_rfl) (fun K hK => ?_); go_simp; refine hK _ ?_; clear hK K)
  (refine anyG_step hG (i := 12) rfl (by kernel_rfl) (by kernel_rfl) (by kernel_rfl) (fun K hK => ?_); go_simp; refine hK _ ?_; clear hK K)
  (refine anyG_step hG (i := 13) rfl (by kernel_rfl) (by kernel_rfl) (by kernel_rfl) (fun K hK => ?_); go_simp; refine hK _ ?_; clear hK K)
  (refine anyG_step hG (i := 14) rfl (by kernel_rfl) (by kernel_rfl) (by kernel_rfl) (fun K hK => ?_); go_simp; refine hK _ ?_; clear hK K)
  clear g0 g1 g2 g3 g4 ug0 ug1 ug2 ug3 ug4 ug5 ug6  hG
  refine anyG_one (i := 6) rfl (by kernel_rfl) ?_
  intro w2 hbw2 K hK
  have hww2 : Below w.heap.size w w2 := hbw.trans (hbw2.mono hbw.size)
  have ck := link_fits Hz1.out (isTree_below hww2 HL.out) (isTree_below hww2 HLU.out)
  unfold chunkV at ck
  go_simp
  refine ck.mono ?_
  rintro e w3 ⟨p1, rfl, ht1, hb3⟩
  have hww3 : Below w.heap.size w w3 := hww2.trans (hb3.mono hww2.size)
  refine ⟨_, rfl, hK _ _ hb3 ?_⟩
  clear hK K ck
  refine anyG_one (i := 15) rfl (by kernel_rfl) ?_
  intro w4 hbw4 K hK
  have hww4 : Below w.heap.size w w4 := hww3.trans (hbw4.mono hww3.size)
  have ck := link_fits HZ.out (isTree_below hbw4 ht1) (isTree_below hww4 HRU.out)
  unfold chunkV at ck
  go_simp
  refine ck.mono ?_
  rintro e w5 ⟨p2, rfl, ht2, hb5⟩
  have hww5 : Below w.heap.size w w5 := hww4.trans (hb5.mono hww4.size)
  refine ⟨_, rfl, hK _ _ hb5 ?_⟩
  clear hK K ck
  clear ht1
  refine anyG_one (i := 16) rfl (by kernel_rfl) ?_
  intro w90 hb90 K hK
  go_simp
  refine hK _ _ (Below.refl _ w90) ?_
  clear hK K
  refine anyG_end (by kernel_rfl) ?_
  intro w91 hb91
  have hb92 := hb90.trans (hb91.mono hb90.size)
  have hw92 : Below w.heap.size w w91 := hww5.trans (hb92.mono hww5.size)
  have HT : Hid _ := isTree_below hb92 ht2
  clear hb90 hb91 hb92 ht2
  go_wp2
  go_ret
  exact ⟨_, rfl, HT.out, hw92⟩

end Go.Proofs.YtldhbjmillfjgaaGreatDoor

namespace Go.Proofs.YtldhbjmillfjgaaGreatDoor
open Go.RowKit
set_option linter.unusedVariables false

theorem turn_any (pl pr : Option Addr) (l r : T) (c : List Nat) (w : World) (hl : isTree w pl l) (hr : isTree w pr r) (hz : big (.node l c r)) :
    Calls Tryz.prog 87 #[.pointer pl, chunkV c, .pointer pr] w fun e w' => ∃ p, e = .returned (.pointer p) ∧ isTree w' p (turnT l c r) ∧ Below w.heap.size w w' := by
  have hb : big (turnT l c r) := big_same hz (by rw [turnT_chunks]; rfl)
  by_cases h1 : l.height = r.height + 2
  · unfold turnT at hb ⊢
    rw [if_pos h1] at hb ⊢
    match l, hl, hb, h1 with
    | .nil, _, _, h1 => simp [T.height] at h1
    | .node ll lc .nil, hl, hb, h1 => exact turn_B pl pr ll .nil r c lc w hl hr hb h1 (by simp [T.height])
    | .node ll lc (.node a b d), hl, hb, h1 =>
      by_cases hc : ll.height < (T.node a b d).height
      · simp only [hc, if_true] at hb ⊢
        exact turn_A pl pr ll a d r c lc b w hl hr hb h1 hc
      · simp only [hc, if_false] at hb ⊢
        exact turn_B pl pr ll (.node a b d) r c lc w hl hr hb h1 hc
  · by_cases h2 : r.height = l.height + 2
    · unfold turnT at hb ⊢
      rw [if_neg h1, if_pos h2] at hb ⊢
      match r, hr, hb, h2 with
      | .nil, _, _, h2 => simp [T.height] at h2
      | .node .nil rc rr, hr, hb, h2 => exact turn_D pl pr l .nil rr c rc w hl hr hb h2 (by simp [T.height])
      | .node (.node a b d) rc rr, hr, hb, h2 =>
        by_cases hc : rr.height < (T.node a b d).height
        · simp only [hc, if_true] at hb ⊢
          exact turn_C pl pr l a d rr c b rc w hl hr hb h2 hc
        · simp only [hc, if_false] at hb ⊢
          exact turn_D pl pr l (.node a b d) rr c rc w hl hr hb h2 hc
    · unfold turnT
      rw [if_neg h1, if_neg h2]
      exact turn_E pl pr l r c w hl hr hz h1 h2
end Go.Proofs.YtldhbjmillfjgaaGreatDoor

namespace Go.Proofs.YtldhbjmillfjgaaGreatDoor
open Go.RowKit
set_option linter.unusedVariables false
attribute [local go_sem] yieldsUpon okUpon

/-- What a joined tree is. -/
def joined (l r : T) (c : List Nat) (t : T) : Prop := t.chunks = l.chunks ++ [c] ++ r.chunks ∧ t.bal ∧ max l.height r.height ≤ t.height ∧ t.height ≤ 1 + max l.height r.height
theorem joined_same {l r : T} (c : List Nat) (hl : l.bal) (hr : r.bal) (h1 : l.height ≤ r.height + 1) (h2 : r.height ≤ l.height + 1) : joined l r c (.node l c r) :=
  ⟨rfl, ⟨hl, hr, h1, h2⟩, by show _ ≤ 1 + max l.height r.height; omega, Nat.le_refl _⟩
theorem joined_left {ll lr r t : T} {lc c : List Nat} (hl : (T.node ll lc lr).bal) (hr : r.bal) (h : r.height + 1 < (T.node ll lc lr).height) (hj : joined lr r c t) : joined (.node ll lc lr) r c (turnT ll lc t) := by
  obtain ⟨j1, j2, j3, j4⟩ := hj
  obtain ⟨b1, b2, b3, b4⟩ := hl
  have eh : (T.node ll lc lr).height = 1 + max ll.height lr.height := rfl
  obtain ⟨t1, t2, t3, t4⟩ := turnT_bal lc b1 j2 (by omega) (by omega)
  refine ⟨by rw [turnT_chunks, j1]; simp [T.chunks], t1, ?_, ?_⟩
  · by_cases h1 : ll.height ≤ t.height + 1
    · by_cases h2 : t.height ≤ ll.height + 1
      · have := t2 h1 h2; omega
      · omega
    · omega
  · by_cases h1 : ll.height ≤ t.height + 1
    · by_cases h2 : t.height ≤ ll.height + 1
      · have := t2 h1 h2; omega
      · omega
    · omega
theorem joined_right {l rl rr t : T} {rc c : List Nat} (hl : l.bal) (hr : (T.node rl rc rr).bal) (h : l.height + 1 < (T.node rl rc rr).height) (hj : joined l rl c t) : joined l (.node rl rc rr) c (turnT t rc rr) := by
  obtain ⟨j1, j2, j3, j4⟩ := hj
  obtain ⟨b1, b2, b3, b4⟩ := hr
  have eh : (T.node rl rc rr).height = 1 + max rl.height rr.height := rfl
  obtain ⟨t1, t2, t3, t4⟩ := turnT_bal rc j2 b2 (by omega) (by omega)
  refine ⟨by rw [turnT_chunks, j1]; simp [T.chunks], t1, ?_, ?_⟩
  · by_cases h1 : t.height ≤ rr.height + 1
    · by_cases h2 : rr.height ≤ t.height + 1
      · have := t2 h1 h2; omega
      · omega
    · omega
  · by_cases h1 : t.height ≤ rr.height + 1
    · by_cases h2 : rr.height ≤ t.height + 1
      · have := t2 h1 h2; omega
      · omega
    · omega
theorem big_join {l r t : T} {c : List Nat} (h : big (.node l c r)) (hj : joined l r c t) : big t := big_same h hj.1

set_option maxRecDepth 100000 in
set_option maxHeartbeats 2000000 in
theorem join_E (pl pr : Option Addr) (l r : T) (c : List Nat) (w : World) (hl : isTree w pl l) (hr : isTree w pr r) (hz : big (.node l c r)) (h1 : l.height ≤ r.height + 1) (h2 : r.height ≤ l.height + 1) :
    Calls Tryz.prog 70 #[.pointer pl, chunkV c, .pointer pr] w fun e w' => ∃ p, e = .returned (.pointer p) ∧ isTree w' p (.node l c r) ∧ Below w.heap.size w w' := by
  have hb0 : ∀ o, Below w.heap.size w (w.alloc o) := fun o => (Below.refl _ w).alloc (Nat.le_refl _) o
  have cl := fun o => nheight_any pl l (w.alloc o) (isTree_below (hb0 o) hl)
  have cr := fun o => nheight_any pr r (w.alloc o) (isTree_below (hb0 o) hr)
  have ck := fun o => link_fits hz (isTree_below (hb0 o) hl) (isTree_below (hb0 o) hr)
  obtain ⟨_, _, _, _, _, s3, s4⟩ := big_node hz
  have k1 : ¬ (1 < (l.height : Int) - r.height) := by omega
  have k2 : ¬ ((l.height : Int) - r.height < -1) := by omega
  have k3 : 0 ≤ (l.height : Int) ∧ (l.height : Int) < 1000000000 := by omega
  have k4 : 0 ≤ (r.height : Int) ∧ (r.height : Int) < 1000000000 := by omega
  clear h1 h2 s3 s4 hz
  have HLR : Hid (isTree w pl l ∧ isTree w pr r) := ⟨hl, hr⟩
  clear hl hr
  generalize (l.height : Int) = x1 at *
  generalize (r.height : Int) = x2 at *
  unfold chunkV at *
  go_enter Tryz.func70, Tryz.ntmps70
  go_wp2_with (first | (go_at_call_of 42 pl; refine (cl _).mono ?_; rintro e w1 ⟨rfl, rfl⟩) | (go_at_call_of 42 pr; refine (cr _).mono ?_; rintro e w1 ⟨rfl, rfl⟩) | (go_at_call 82; refine (ck _).mono ?_; rintro e w2 ⟨p, rfl, ht, hb⟩; have HT : Hid _ := ht; clear ht) | fail)
  go_ret
  exact ⟨p, rfl, HT.out, (hb0 _).trans (hb.mono (hb0 _).size)⟩

set_option maxRecDepth 100000 in
set_option maxHeartbeats 2000000 in
theorem join_L (pl pr : Option Addr) (ll lr r : T) (c lc : List Nat) (w : World) (hl : isTree w pl (.node ll lc lr)) (hr : isTree w pr r) (hz : big (.node (.node ll lc lr) c r)) (hd : r.height + 1 < (T.node ll lc lr).height) (hbl : (T.node ll lc lr).bal) (hbr : r.bal)
    (ih : ∀ (p1 p2 : Option Addr) (w : World), isTree w p1 lr → isTree w p2 r → Calls Tryz.prog 70 #[.pointer p1, chunkV c, .pointer p2] w fun e w' => ∃ p t, e = .returned (.pointer p) ∧ isTree w' p t ∧ joined lr r c t ∧ Below w.heap.size w w') :
    Calls Tryz.prog 70 #[.pointer pl, chunkV c, .pointer pr] w fun e w' => ∃ p t, e = .returned (.pointer p) ∧ isTree w' p t ∧ joined (.node ll lc lr) r c t ∧ Below w.heap.size w w' := by
  have hb0 : ∀ o, Below w.heap.size w (w.alloc o) := fun o => (Below.refl _ w).alloc (Nat.le_refl _) o
  have HL : Hid (isTree w pl (.node ll lc lr)) := hl
  have HR : Hid (isTree w pr r) := hr
  have cl := fun o => nheight_any pl (.node ll lc lr) (w.alloc o) (isTree_below (hb0 o) hl)
  have cr := fun o => nheight_any pr r (w.alloc o) (isTree_below (hb0 o) hr)
  have HJ : Hid (∀ t, joined lr r c t → joined (.node ll lc lr) r c (turnT ll lc t) ∧ big (.node ll lc t)) := fun t ht => by
    have hj := joined_left hbl hbr hd ht
    exact ⟨hj, big_same (big_join hz hj) (by rw [turnT_chunks]; rfl)⟩
  have IH : Hid _ := ih
  obtain ⟨_, _, _, _, _, s3, s4⟩ := big_node hz
  have k1 : (1 < ((T.node ll lc lr).height : Int) - r.height) := by omega
  have k2 : ¬ (((T.node ll lc lr).height : Int) - r.height < -1) := by omega
  have k3 : 0 ≤ ((T.node ll lc lr).height : Int) ∧ ((T.node ll lc lr).height : Int) < 1000000000 := by omega
  have k4 : 0 ≤ (r.height : Int) ∧ (r.height : Int) < 1000000000 := by omega
  clear hd hbl hbr hz s3 s4 ih
  obtain ⟨b1, qa, qb, rfl, ⟨uc0, uc1, uc2, uc3, uc4⟩, ⟨uc5, uc6⟩, _, _, hlu, hru⟩ := hl
  have HLU : Hid _ := hlu
  have HRU : Hid _ := hru
  clear hlu hru
  generalize ((T.node ll lc lr).height : Int) = x1 at *
  generalize (r.height : Int) = x2 at *
  unfold chunkV
  go_enter Tryz.func70, Tryz.ntmps70
  go_wp2_with (first | (go_at_call_of 42 b1; refine (cl _).mono ?_; rintro e w1 ⟨rfl, rfl⟩) | (go_at_call_of 42 pr; refine (cr _).mono ?_; rintro e w1 ⟨rfl, rfl⟩) | fail)
  obtain ⟨W1, hW1⟩ : ∃ W1, w.alloc (.cells #[.string (bytesOf c), .int .i64 (C1 c), .int .i64 (C2 c), .int .i64 (C3 c), .int .i64 (C4 c)] 106) = W1 := ⟨_, rfl⟩
  have hbW1 : Below w.heap.size w W1 := by rw [← hW1]; exact hb0 _
  have x0 : W1.cell? ⟨w.heap.size, 0, none⟩ = some (.string (bytesOf c)) := by rw [← hW1]; simp [go_sem]
  have y1 : W1.cell? ⟨w.heap.size, 1, none⟩ = some (.int .i64 (C1 c)) := by rw [← hW1]; simp [go_sem]
  have y2 : W1.cell? ⟨w.heap.size, 2, none⟩ = some (.int .i64 (C2 c)) := by rw [← hW1]; simp [go_sem]
  have y3 : W1.cell? ⟨w.heap.size, 3, none⟩ = some (.int .i64 (C3 c)) := by rw [← hW1]; simp [go_sem]
  have y4 : W1.cell? ⟨w.heap.size, 4, none⟩ = some (.int .i64 (C4 c)) := by rw [← hW1]; simp [go_sem]
  rw [hW1]
  clear hW1 cl cr
  refine wp_region_rel 17 17 (by kernel_rfl) rfl ?_
  intro w1 hbb
  have hbw : Below w.heap.size w w1 := hbW1.trans (hbb.mono hbW1.size)
  obtain ⟨G, hG⟩ := exists_growth w1
  have g0 := hG.cell (cell_on hbb x0)
  have g1 := hG.cell (cell_on hbb y1)
  have g2 := hG.cell (cell_on hbb y2)
  have g3 := hG.cell (cell_on hbb y3)
  have g4 := hG.cell (cell_on hbb y4)
  have ug0 := hG.cell (cell_on hbw uc0)
  have ug1 := hG.cell (cell_on hbw uc1)
  have ug2 := hG.cell (cell_on hbw uc2)
  have ug3 := hG.cell (cell_on hbw uc3)
  have ug4 := hG.cell (cell_on hbw uc4)
  have ug5 := hG.cell (cell_on hbw uc5)
  have ug6 := hG.cell (cell_on hbw uc6)
  clear uc0 uc1 uc2 uc3 uc4 uc5 uc6 x0 y1 y2 y3 y4 hbb hbW1
  (refine anyG_step hG (i := 0) rfl (by kernel_rfl) (by kernel_rfl) (by kernel_rfl) (fun K hK => ?_); go_simp; refine hK _ ?_; clear hK K)
  (refine anyG_step hG (i := 1) rfl (by kernel_rfl) (by kernel_rfl) (by kernel_rfl) (fun K hK => ?_); go_simp; refine hK _ ?_; clear hK K)
  (refine anyG_step hG (i := 2) rfl (by kernel_rfl) (by kernel_rfl) (by kernel_rfl) (fun K hK => ?_); go_simp; refine hK _ ?_; clear hK K)
  (refine anyG_step hG (i := 3) rfl (by kernel_rfl) (by kernel_rfl) (by kernel_rfl) (fun K hK => ?_); go_simp; refine hK _ ?_; clear hK K)
  (refine anyG_step hG (i := 4) rfl (by kernel_rfl) (by kernel_rfl) (by kernel_rfl) (fun K hK => ?_); go_simp; refine hK _ ?_; clear hK K)
  (refine anyG_step hG (i := 5) rfl (by kernel_rfl) (by kernel_rfl) (by kernel_rfl) (fun K hK => ?_); go_simp; refine hK _ ?_; clear hK K)
  (refine anyG_step hG (i := 6) rfl (by kernel_rfl) (by kernel_rfl) (by kernel_rfl) (fun K hK => ?_); go_simp; refine hK _ ?_; clear hK K)
  (refine anyG_step hG (i := 7) rfl (by kernel_rfl) (by kernel_rfl) (by kernel_rfl) (fun K hK => ?_); go_simp; refine hK _ ?_; clear hK K)
  (refine anyG_step hG (i := 8) rfl (by kernel_rfl) (by kernel_rfl) (by kernel_rfl) (fun K hK => ?_); go_simp; refine hK _ ?_; clear hK K)
  (refine anyG_step hG (i := 9) rfl (by kernel_rfl) (by kernel_rfl) (by kernel_rfl) (fun K hK => ?_); go_simp; refine hK _ ?_; clear hK K)
  (refine anyG_step hG (i := 10) rfl (by kernel_rfl) (by kernel_rfl) (by kernel_rfl) (fun K hK => ?_); go_simp; refine hK _ ?_; clear hK K)
  (refine anyG_step hG (i := 11) rfl (by kernel_rfl) (by kernel_rfl) (by kernel_rfl) (fun K hK => ?_); go_simp; refine hK _ ?_; clear hK K)
  (refine anyG_step hG (i := 12) rfl (by kernel_rfl) (by kernel_rfl) (by kernel_rfl) (fun K hK => ?_); go_simp; refine hK _ ?_; clear hK K)
  (refine anyG_step hG (i := 13) rfl (by kernel_rfl) (by kernel_rfl) (by kernel_rfl) (fun K hK => ?_); go_simp; refine hK _ ?_; clear hK K)
  clear g0 g1 g2 g3 g4 ug0 ug1 ug2 ug3 ug4 ug5 ug6 hG
  refine anyG_one (i := 14) rfl (by kernel_rfl) ?_
  intro w2 hbw2 K hK
  have hww2 : Below w.heap.size w w2 := hbw.trans (hbw2.mono hbw.size)
  have ck := IH.out _ _ w2 (isTree_below hww2 HRU.out) (isTree_below hww2 HR.out)
  unfold chunkV at ck
  go_simp
  refine ck.mono ?_
  rintro e w3 ⟨p1, t1, rfl, ht1, hj1, hb3⟩
  have hww3 : Below w.heap.size w w3 := hww2.trans (hb3.mono hww2.size)
  refine ⟨_, rfl, hK _ _ hb3 ?_⟩
  clear hK K ck
  refine anyG_one (i := 15) rfl (by kernel_rfl) ?_
  intro w4 hbw4 K hK
  have hww4 : Below w.heap.size w w4 := hww3.trans (hbw4.mono hww3.size)
  have ck := turn_any _ _ _ _ _ w4 (isTree_below hww4 HLU.out) (isTree_below hbw4 ht1) (HJ.out _ hj1).2
  unfold chunkV at ck
  go_simp
  refine ck.mono ?_
  rintro e w5 ⟨p2, rfl, ht2, hb5⟩
  have hww5 : Below w.heap.size w w5 := hww4.trans (hb5.mono hww4.size)
  refine ⟨_, rfl, hK _ _ hb5 ?_⟩
  clear hK K ck
  clear ht1
  refine anyG_one (i := 16) rfl (by kernel_rfl) ?_
  intro w90 hb90 K hK
  go_simp
  refine hK _ _ (Below.refl _ w90) ?_
  clear hK K
  refine anyG_end (by kernel_rfl) ?_
  intro w91 hb91
  have hb92 := hb90.trans (hb91.mono hb90.size)
  have hw92 : Below w.heap.size w w91 := hww5.trans (hb92.mono hww5.size)
  have HT : Hid _ := isTree_below hb92 ht2
  clear hb90 hb91 hb92 ht2
  go_wp2
  go_ret
  exact ⟨_, _, rfl, HT.out, (HJ.out _ hj1).1, hw92⟩

set_option maxRecDepth 100000 in
set_option maxHeartbeats 2000000 in
theorem join_R (pl pr : Option Addr) (l rl rr : T) (c rc : List Nat) (w : World) (hl : isTree w pl l) (hr : isTree w pr (.node rl rc rr)) (hz : big (.node l c (.node rl rc rr))) (hd : l.height + 1 < (T.node rl rc rr).height) (hbl : l.bal) (hbr : (T.node rl rc rr).bal)
    (ih : ∀ (p1 p2 : Option Addr) (w : World), isTree w p1 l → isTree w p2 rl → Calls Tryz.prog 70 #[.pointer p1, chunkV c, .pointer p2] w fun e w' => ∃ p t, e = .returned (.pointer p) ∧ isTree w' p t ∧ joined l rl c t ∧ Below w.heap.size w w') :
    Calls Tryz.prog 70 #[.pointer pl, chunkV c, .pointer pr] w fun e w' => ∃ p t, e = .returned (.pointer p) ∧ isTree w' p t ∧ joined l (.node rl rc rr) c t ∧ Below w.heap.size w w' := by
  have hb0 : ∀ o, Below w.heap.size w (w.alloc o) := fun o => (Below.refl _ w).alloc (Nat.le_refl _) o
  have HL : Hid (isTree w pl l) := hl
  have HR : Hid (isTree w pr (.node rl rc rr)) := hr
  have cl := fun o => nheight_any pl l (w.alloc o) (isTree_below (hb0 o) hl)
  have cr := fun o => nheight_any pr (.node rl rc rr) (w.alloc o) (isTree_below (hb0 o) hr)
  have HJ : Hid (∀ t, joined l rl c t → joined l (.node rl rc rr) c (turnT t rc rr) ∧ big (.node t rc rr)) := fun t ht => by
    have hj := joined_right hbl hbr hd ht
    exact ⟨hj, big_same (big_join hz hj) (by rw [turnT_chunks]; rfl)⟩
  have IH : Hid _ := ih
  obtain ⟨_, _, _, _, _, s3, s4⟩ := big_node hz
  have k1 : ¬ (1 < (l.height : Int) - (T.node rl rc rr).height) := by omega
  have k2 : ((l.height : Int) - (T.node rl rc rr).height < -1) := by omega
  have k3 : 0 ≤ (l.height : Int) ∧ (l.height : Int) < 1000000000 := by omega
  have k4 : 0 ≤ ((T.node rl rc rr).height : Int) ∧ ((T.node rl rc rr).height : Int) < 1000000000 := by omega
  clear hd hbl hbr hz s3 s4 ih
  obtain ⟨b1, qa, qb, rfl, ⟨uc0, uc1, uc2, uc3, uc4⟩, ⟨uc5, uc6⟩, _, _, hlu, hru⟩ := hr
  have HLU : Hid _ := hlu
  have HRU : Hid _ := hru
  clear hlu hru
  generalize (l.height : Int) = x1 at *
  generalize ((T.node rl rc rr).height : Int) = x2 at *
  unfold chunkV
  go_enter Tryz.func70, Tryz.ntmps70
  go_wp2_with (first | (go_at_call_of 42 pl; refine (cl _).mono ?_; rintro e w1 ⟨rfl, rfl⟩) | (go_at_call_of 42 b1; refine (cr _).mono ?_; rintro e w1 ⟨rfl, rfl⟩) | fail)
  obtain ⟨W1, hW1⟩ : ∃ W1, w.alloc (.cells #[.string (bytesOf c), .int .i64 (C1 c), .int .i64 (C2 c), .int .i64 (C3 c), .int .i64 (C4 c)] 106) = W1 := ⟨_, rfl⟩
  have hbW1 : Below w.heap.size w W1 := by rw [← hW1]; exact hb0 _
  have x0 : W1.cell? ⟨w.heap.size, 0, none⟩ = some (.string (bytesOf c)) := by rw [← hW1]; simp [go_sem]
  have y1 : W1.cell? ⟨w.heap.size, 1, none⟩ = some (.int .i64 (C1 c)) := by rw [← hW1]; simp [go_sem]
  have y2 : W1.cell? ⟨w.heap.size, 2, none⟩ = some (.int .i64 (C2 c)) := by rw [← hW1]; simp [go_sem]
  have y3 : W1.cell? ⟨w.heap.size, 3, none⟩ = some (.int .i64 (C3 c)) := by rw [← hW1]; simp [go_sem]
  have y4 : W1.cell? ⟨w.heap.size, 4, none⟩ = some (.int .i64 (C4 c)) := by rw [← hW1]; simp [go_sem]
  rw [hW1]
  clear hW1 cl cr
  refine wp_region_rel 17 17 (by kernel_rfl) rfl ?_
  intro w1 hbb
  have hbw : Below w.heap.size w w1 := hbW1.trans (hbb.mono hbW1.size)
  obtain ⟨G, hG⟩ := exists_growth w1
  have g0 := hG.cell (cell_on hbb x0)
  have g1 := hG.cell (cell_on hbb y1)
  have g2 := hG.cell (cell_on hbb y2)
  have g3 := hG.cell (cell_on hbb y3)
  have g4 := hG.cell (cell_on hbb y4)
  have ug0 := hG.cell (cell_on hbw uc0)
  have ug1 := hG.cell (cell_on hbw uc1)
  have ug2 := hG.cell (cell_on hbw uc2)
  have ug3 := hG.cell (cell_on hbw uc3)
  have ug4 := hG.cell (cell_on hbw uc4)
  have ug5 := hG.cell (cell_on hbw uc5)
  have ug6 := hG.cell (cell_on hbw uc6)
  clear uc0 uc1 uc2 uc3 uc4 uc5 uc6 x0 y1 y2 y3 y4 hbb hbW1
  (refine anyG_step hG (i := 0) rfl (by kernel_rfl) (by kernel_rfl) (by kernel_rfl) (fun K hK => ?_); go_simp; refine hK _ ?_; clear hK K)
  (refine anyG_step hG (i := 1) rfl (by kernel_rfl) (by kernel_rfl) (by kernel_rfl) (fun K hK => ?_); go_simp; refine hK _ ?_; clear hK K)
  (refine anyG_step hG (i := 2) rfl (by kernel_rfl) (by kernel_rfl) (by kernel_rfl) (fun K hK => ?_); go_simp; refine hK _ ?_; clear hK K)
  (refine anyG_step hG (i := 3) rfl (by kernel_rfl) (by kernel_rfl) (by kernel_rfl) (fun K hK => ?_); go_simp; refine hK _ ?_; clear hK K)
  (refine anyG_step hG (i := 4) rfl (by kernel_rfl) (by kernel_rfl) (by kernel_rfl) (fun K hK => ?_); go_simp; refine hK _ ?_; clear hK K)
  (refine anyG_step hG (i := 5) rfl (by kernel_rfl) (by kernel_rfl) (by kernel_rfl) (fun K hK => ?_); go_simp; refine hK _ ?_; clear hK K)
  (refine anyG_step hG (i := 7) rfl (by kernel_rfl) (by kernel_rfl) (by kernel_rfl) (fun K hK => ?_); go_simp; refine hK _ ?_; clear hK K)
  (refine anyG_step hG (i := 8) rfl (by kernel_rfl) (by kernel_rfl) (by kernel_rfl) (fun K hK => ?_); go_simp; refine hK _ ?_; clear hK K)
  (refine anyG_step hG (i := 9) rfl (by kernel_rfl) (by kernel_rfl) (by kernel_rfl) (fun K hK => ?_); go_simp; refine hK _ ?_; clear hK K)
  (refine anyG_step hG (i := 10) rfl (by kernel_rfl) (by kernel_rfl) (by kernel_rfl) (fun K hK => ?_); go_simp; refine hK _ ?_; clear hK K)
  (refine anyG_step hG (i := 11) rfl (by kernel_rfl) (by kernel_rfl) (by kernel_rfl) (fun K hK => ?_); go_simp; refine hK _ ?_; clear hK K)
  (refine anyG_step hG (i := 12) rfl (by kernel_rfl) (by kernel_rfl) (by kernel_rfl) (fun K hK => ?_); go_simp; refine hK _ ?_; clear hK K)
  (refine anyG_step hG (i := 13) rfl (by kernel_rfl) (by kernel_rfl) (by kernel_rfl) (fun K hK => ?_); go_simp; refine hK _ ?_; clear hK K)
  (refine anyG_step hG (i := 14) rfl (by kernel_rfl) (by kernel_rfl) (by kernel_rfl) (fun K hK => ?_); go_simp; refine hK _ ?_; clear hK K)
  clear g0 g1 g2 g3 g4 ug0 ug1 ug2 ug3 ug4 ug5 ug6 hG
  refine anyG_one (i := 6) rfl (by kernel_rfl) ?_
  intro w2 hbw2 K hK
  have hww2 : Below w.heap.size w w2 := hbw.trans (hbw2.mono hbw.size)
  have ck := IH.out _ _ w2 (isTree_below hww2 HL.out) (isTree_below hww2 HLU.out)
  unfold chunkV at ck
  go_simp
  refine ck.mono ?_
  rintro e w3 ⟨p1, t1, rfl, ht1, hj1, hb3⟩
  have hww3 : Below w.heap.size w w3 := hww2.trans (hb3.mono hww2.size)
  refine ⟨_, rfl, hK _ _ hb3 ?_⟩
  clear hK K ck
  refine anyG_one (i := 15) rfl (by kernel_rfl) ?_
  intro w4 hbw4 K hK
  have hww4 : Below w.heap.size w w4 := hww3.trans (hbw4.mono hww3.size)
  have ck := turn_any _ _ _ _ _ w4 (isTree_below hbw4 ht1) (isTree_below hww4 HRU.out) (HJ.out _ hj1).2
  unfold chunkV at ck
  go_simp
  refine ck.mono ?_
  rintro e w5 ⟨p2, rfl, ht2, hb5⟩
  have hww5 : Below w.heap.size w w5 := hww4.trans (hb5.mono hww4.size)
  refine ⟨_, rfl, hK _ _ hb5 ?_⟩
  clear hK K ck
  clear ht1
  refine anyG_one (i := 16) rfl (by kernel_rfl) ?_
  intro w90 hb90 K hK
  go_simp
  refine hK _ _ (Below.refl _ w90) ?_
  clear hK K
  refine anyG_end (by kernel_rfl) ?_
  intro w91 hb91
  have hb92 := hb90.trans (hb91.mono hb90.size)
  have hw92 : Below w.heap.size w w91 := hww5.trans (hb92.mono hww5.size)
  have HT : Hid _ := isTree_below hb92 ht2
  clear hb90 hb91 hb92 ht2
  go_wp2
  go_ret
  exact ⟨_, _, rfl, HT.out, (HJ.out _ hj1).1, hw92⟩

theorem join_any : ∀ (n : Nat) (pl pr : Option Addr) (l r : T) (c : List Nat) (w : World), l.size + r.size ≤ n → isTree w pl l → isTree w pr r → big (.node l c r) → l.bal → r.bal →
    Calls Tryz.prog 70 #[.pointer pl, chunkV c, .pointer pr] w fun e w' => ∃ p t, e = .returned (.pointer p) ∧ isTree w' p t ∧ joined l r c t ∧ Below w.heap.size w w' := by
  intro n
  induction n with
  | zero =>
    intro pl pr l r c w hn hl hr hz hbl hbr
    have e1 := height_size l
    have e2 := height_size r
    refine (join_E pl pr l r c w hl hr hz (by omega) (by omega)).mono ?_
    rintro e w' ⟨p, rfl, ht, hb⟩
    exact ⟨p, _, rfl, ht, joined_same c hbl hbr (by omega) (by omega), hb⟩
  | succ n ih =>
    intro pl pr l r c w hn hl hr hz hbl hbr
    by_cases h1 : r.height + 1 < l.height
    · match l, hl, hz, hbl, h1, hn with
      | .nil, _, _, _, h1, _ => simp [T.height] at h1
      | .node ll lc lr, hl, hz, hbl, h1, hn =>
        simp only [T.size] at hn
        exact join_L pl pr ll lr r c lc w hl hr hz h1 hbl hbr fun p1 p2 w' t1 t2 => ih p1 p2 lr r c w' (by omega) t1 t2 (by
          obtain ⟨z1, z2⟩ := hz
          simp only [T.runes, C1_append, T.size] at z1 z2
          have q1 := C1_pos ll.runes
          have q2 := C1_pos lc
          exact ⟨by simp only [T.runes, C1_append]; omega, by simp only [T.size]; omega⟩) hbl.2.1 hbr
    by_cases h2 : l.height + 1 < r.height
    · match r, hr, hz, hbr, h2, hn with
      | .nil, _, _, _, h2, _ => simp [T.height] at h2
      | .node rl rc rr, hr, hz, hbr, h2, hn =>
        simp only [T.size] at hn
        exact join_R pl pr l rl rr c rc w hl hr hz h2 hbl hbr fun p1 p2 w' t1 t2 => ih p1 p2 l rl c w' (by omega) t1 t2 (by
          obtain ⟨z1, z2⟩ := hz
          simp only [T.runes, C1_append, T.size] at z1 z2
          have q1 := C1_pos rr.runes
          have q2 := C1_pos rc
          exact ⟨by simp only [T.runes, C1_append]; omega, by simp only [T.size]; omega⟩) hbl hbr.1
    refine (join_E pl pr l r c w hl hr hz (by omega) (by omega)).mono ?_
    rintro e w' ⟨p, rfl, ht, hb⟩
    exact ⟨p, _, rfl, ht, joined_same c hbl hbr (by omega) (by omega), hb⟩
end Go.Proofs.YtldhbjmillfjgaaGreatDoor

namespace Go.Proofs.YtldhbjmillfjgaaGreatDoor
open Go.RowKit
set_option linter.unusedVariables false
attribute [local go_sem] yieldsUpon okUpon

def cloneRen : Go.Shelf.Ren := ⟨fun | 25 => 92 | n => n, fun | 9 => 9 | 5 => 5 | 3 => 3 | 4 => 4 | 37 => 87 | 47 => 129 | 0 => 0 | n => n, fun | n => n⟩
theorem cloneLays : Go.Proofs.LaysPu.n25 Tryz.prog cloneRen := {
  mixed := by kernel_rfl
  f25 := Tryz.func92.trans (congrArg some (by kernel_rfl))
  t0 := by kernel_rfl
  a0 := fun _ => by kernel_rfl
  z0 := fun _ => by kernel_rfl
  v0 := fun _ => by kernel_rfl
  i0 := by kernel_rfl
  t3 := by kernel_rfl
  a3 := fun _ => by kernel_rfl
  z3 := fun _ => by kernel_rfl
  v3 := fun _ => by kernel_rfl
  i3 := by kernel_rfl
  t4 := by kernel_rfl
  a4 := fun _ => by kernel_rfl
  z4 := fun _ => by kernel_rfl
  v4 := fun _ => by kernel_rfl
  i4 := by kernel_rfl
  t5 := by kernel_rfl
  a5 := fun _ => by kernel_rfl
  z5 := fun _ => by kernel_rfl
  v5 := fun _ => by kernel_rfl
  i5 := by kernel_rfl
  t9 := by kernel_rfl
  a9 := fun _ => by kernel_rfl
  z9 := fun _ => by kernel_rfl
  v9 := fun _ => by kernel_rfl
  i9 := by kernel_rfl
  t37 := by kernel_rfl
  a37 := fun _ => by kernel_rfl
  z37 := fun _ => by kernel_rfl
  v37 := fun _ => by kernel_rfl
  i37 := by kernel_rfl
  t47 := by kernel_rfl
  a47 := fun _ => by kernel_rfl
  z47 := fun _ => by kernel_rfl
  v47 := fun _ => by kernel_rfl
  i47 := by kernel_rfl }

theorem Clone_any (s : ByteArray) (w : World) (hs : s.size ≤ 281474976710656) : Calls Tryz.prog 83 #[.string s] w fun e w' => e = .returned (.string s) ∧ Below w.heap.size w w' := by
  have c := Go.Proofs.AnyPu.stringslite_Clone cloneLays s w hs
  have c2 : Calls Tryz.prog 92 #[.string s] w fun e w' => e = .returned (.string s) ∧ Below w.heap.size w w' := c
  go_enter Tryz.func83, Tryz.ntmps83
  go_wp2_with (first | (go_at_call 92; refine c2.mono ?_; rintro e w1 ⟨rfl, hb1⟩) | fail)
  go_ret
  exact ⟨rfl, hb1⟩

theorem count_of (rs : List Nat) (hr : ∀ r ∈ rs, isRune r) (hz : C1 rs ≤ 300000000) (w : World) (hT : Lib.Utf8Tabs 2 3 w) :
    Calls Tryz.prog 26 #[.string (bytesOf rs)] w fun e w' => e = .returned (.tuple #[.agg #[.int .i64 (C1 rs), .int .i64 (C2 rs), .int .i64 (C3 rs), .int .i64 (C4 rs)], .nilIface]) ∧ Below w.heap.size w w' := by
  have hs : (bytesOf rs).size < 400000000 := by rw [bytesOf_size]; rw [C1_len] at hz; omega
  have hsc : scan (bytesOf rs).data.toList = (wide rs, true) := by rw [bytesOf_list]; exact scan_encs rs hr
  refine (Count_any _ hs w hT).mono ?_
  rintro e w' ⟨v, x, rfl, hb, ⟨_, rfl, rfl⟩ | ⟨h, _⟩⟩
  · refine ⟨?_, hb⟩
    rw [hsc]
    have e3 : ((wide rs).length : Int) = C3 rs := by simp [wide, C3]
    simp only [e3]
    rfl
  · rw [hsc] at h; cases h
end Go.Proofs.YtldhbjmillfjgaaGreatDoor

namespace Go.Proofs.YtldhbjmillfjgaaGreatDoor
open Go.RowKit
set_option linter.unusedVariables false
attribute [local go_sem] yieldsUpon okUpon

/-- A chunk's variable: five cells that may be written. -/
def chunkAt (W : World) (B : Nat) (v0 v1 v2 v3 v4 : Value) : Prop :=
  (W.cell? ⟨B, 0, none⟩ = some v0 ∧ W.cell? ⟨B, 1, none⟩ = some v1 ∧ W.cell? ⟨B, 2, none⟩ = some v2 ∧ W.cell? ⟨B, 3, none⟩ = some v3 ∧ W.cell? ⟨B, 4, none⟩ = some v4) ∧
  (W.frozen? ⟨B, 0, none⟩ = false ∧ W.frozen? ⟨B, 1, none⟩ = false ∧ W.frozen? ⟨B, 2, none⟩ = false ∧ W.frozen? ⟨B, 3, none⟩ = false ∧ W.frozen? ⟨B, 4, none⟩ = false)
theorem chunkAt_lt {W : World} {B : Nat} {v0 v1 v2 v3 v4 : Value} (h : chunkAt W B v0 v1 v2 v3 v4) : B < W.heap.size := World.block_lt_of_cell? W _ h.1.1
theorem chunkAt_old {W W' : World} {B lo : Nat} {v0 v1 v2 v3 v4 : Value} (h : chunkAt W B v0 v1 v2 v3 v4) (hb : Below lo W W') (hlo : B < lo) : chunkAt W' B v0 v1 v2 v3 v4 := by
  obtain ⟨⟨a0, a1, a2, a3, a4⟩, b0, b1, b2, b3, b4⟩ := h
  have c : ∀ o v, W.cell? ⟨B, o, none⟩ = some v → W'.cell? ⟨B, o, none⟩ = some v := fun o v h => (hb.cell (p := ⟨B, o, none⟩) hlo).trans h
  have f : ∀ o, W.frozen? ⟨B, o, none⟩ = false → W'.frozen? ⟨B, o, none⟩ = false := fun o h => (hb.frozen (p := ⟨B, o, none⟩) hlo).trans h
  exact ⟨⟨c _ _ a0, c _ _ a1, c _ _ a2, c _ _ a3, c _ _ a4⟩, f _ b0, f _ b1, f _ b2, f _ b3, f _ b4⟩
theorem chunkAt_below {W W' : World} {B : Nat} {v0 v1 v2 v3 v4 : Value} (h : chunkAt W B v0 v1 v2 v3 v4) (hb : Below W.heap.size W W') : chunkAt W' B v0 v1 v2 v3 v4 := chunkAt_old h hb (chunkAt_lt h)
theorem chunkAt_new (w : World) (v0 v1 v2 v3 v4 : Value) (t : TypeId) : chunkAt (w.alloc (.cells #[v0, v1, v2, v3, v4] t)) w.heap.size v0 v1 v2 v3 v4 := by
  refine ⟨⟨?_, ?_, ?_, ?_, ?_⟩, ?_, ?_, ?_, ?_, ?_⟩ <;> simp [go_sem]
theorem chunkAt_set {W : World} {B : Nat} {v0 v1 v2 v3 v4 u0 u1 u2 u3 u4 : Value} (h : chunkAt W B v0 v1 v2 v3 v4) :
    chunkAt (((((W.setCell ⟨B, 0, none⟩ u0).setCell ⟨B, 1, none⟩ u1).setCell ⟨B, 2, none⟩ u2).setCell ⟨B, 3, none⟩ u3).setCell ⟨B, 4, none⟩ u4) B u0 u1 u2 u3 u4 := by
  obtain ⟨⟨a0, a1, a2, a3, a4⟩, b0, b1, b2, b3, b4⟩ := h
  refine ⟨⟨?_, ?_, ?_, ?_, ?_⟩, ?_, ?_, ?_, ?_, ?_⟩ <;> simp [go_sem, a0, a1, a2, a3, a4, b0, b1, b2, b3, b4]
theorem below_set5 {lo : Nat} {w W : World} {B : Nat} (hb : Below lo w W) (hlo : lo ≤ B) (u0 u1 u2 u3 u4 : Value) :
    Below lo w (((((W.setCell ⟨B, 0, none⟩ u0).setCell ⟨B, 1, none⟩ u1).setCell ⟨B, 2, none⟩ u2).setCell ⟨B, 3, none⟩ u3).setCell ⟨B, 4, none⟩ u4) :=
  ((((hb.setCell (p := ⟨B, 0, none⟩) hlo _).setCell (p := ⟨B, 1, none⟩) hlo _).setCell (p := ⟨B, 2, none⟩) hlo _).setCell (p := ⟨B, 3, none⟩) hlo _).setCell (p := ⟨B, 4, none⟩) hlo _

set_option maxRecDepth 100000 in
set_option maxHeartbeats 2000000 in
theorem chunkOf_any (rs : List Nat) (hr : ∀ r ∈ rs, isRune r) (hz : C1 rs ≤ 300000000) (w : World) (hT : Lib.Utf8Tabs 2 3 w) :
    Calls Tryz.prog 62 #[.string (bytesOf rs)] w fun e w' => e = .returned (chunkV rs) ∧ Below w.heap.size w w' := by
  have hb0 : ∀ o, Below w.heap.size w (w.alloc o) := fun o => (Below.refl _ w).alloc (Nat.le_refl _) o
  have cC := fun o => count_of rs hr hz (w.alloc o) (Go.Proofs.Utf8Tabs_below hT (hb0 o))
  have cK := fun wx => Clone_any (bytesOf rs) wx (by rw [bytesOf_size]; rw [C1_len] at hz; omega)
  unfold chunkV
  generalize bytesOf rs = B at *
  generalize C1 rs = x1 at *
  generalize C2 rs = x2 at *
  generalize C3 rs = x3 at *
  generalize C4 rs = x4 at *
  clear hr hz hT
  go_enter Tryz.func62, Tryz.ntmps62
  go_wp2_with (first | (go_at_call 26; refine (cC _).mono ?_; rintro e w1 ⟨rfl, hb1⟩) | fail)
  have hbw : Below w.heap.size w (w1.alloc (.cells #[.int .i64 x1, .int .i64 x2, .int .i64 x3, .int .i64 x4] 29)) := ((hb0 _).trans (hb1.mono (hb0 _).size)).alloc (Nat.le_trans (hb0 (.cells #[.string ⟨#[]⟩, .int .i64 0, .int .i64 0, .int .i64 0, .int .i64 0] 106)).size hb1.size) _
  have hA : chunkAt (w1.alloc (.cells #[.int .i64 x1, .int .i64 x2, .int .i64 x3, .int .i64 x4] 29)) w.heap.size (.string ⟨#[]⟩) (.int .i64 0) (.int .i64 0) (.int .i64 0) (.int .i64 0) :=
    chunkAt_below (chunkAt_below (chunkAt_new w _ _ _ _ _ _) hb1) ((Below.refl _ w1).alloc (Nat.le_refl _) _)
  have hc : counted (w1.alloc (.cells #[.int .i64 x1, .int .i64 x2, .int .i64 x3, .int .i64 x4] 29)) w1.heap.size x1 x2 x3 x4 := by refine ⟨⟨?_, ?_, ?_, ?_⟩, ?_, ?_, ?_, ?_⟩ <;> simp [go_sem]
  generalize (w1.alloc (.cells #[.int .i64 x1, .int .i64 x2, .int .i64 x3, .int .i64 x4] 29)) = W at *
  generalize w1.heap.size = C at *
  clear cC hb1
  refine wp_region_rel 4 5 (by kernel_rfl) rfl ?_
  intro w2 hb2
  have hc2 := counted_below hc hb2
  obtain ⟨⟨c0, c1, c2, c3⟩, _⟩ := hc2
  have hbw2 := hbw.trans (hb2.mono hbw.size)
  have hA2 := chunkAt_below hA hb2
  obtain ⟨G, hG⟩ := exists_growth w2
  have g0 := hG.cell c0
  have g1 := hG.cell c1
  have g2 := hG.cell c2
  have g3 := hG.cell c3
  clear hc hA c0 c1 c2 c3
  (refine anyG_step hG (i := 0) rfl (by kernel_rfl) (by kernel_rfl) (by kernel_rfl) (fun K hK => ?_); go_simp; refine hK _ ?_; clear hK K)
  (refine anyG_step hG (i := 1) rfl (by kernel_rfl) (by kernel_rfl) (by kernel_rfl) (fun K hK => ?_); go_simp; apply Exists.intro; refine ⟨fun _ => ?_, hK _ ?_⟩; exact cK _; clear hK K)
  (refine anyG_step hG (i := 2) rfl (by kernel_rfl) (by kernel_rfl) (by kernel_rfl) (fun K hK => ?_); go_simp; refine hK _ ?_; clear hK K)
  (refine anyG_step hG (i := 3) rfl (by kernel_rfl) (by kernel_rfl) (by kernel_rfl) (fun K hK => ?_); go_simp; refine hK _ ?_; clear hK K)
  clear g0 g1 g2 g3 hG
  refine anyG_late (i := 4) rfl (by kernel_rfl) (by kernel_rfl) ?_
  intro w3 hb3 K hK
  have hA3 := chunkAt_below hA2 hb3
  have hbw3 := hbw2.trans (hb3.mono hbw2.size)
  have HA3 : Hid _ := hA3
  obtain ⟨⟨a0, a1, a2, a3, a4⟩, b0, b1, b2, b3, b4⟩ := hA3
  go_simp
  refine hK _ _ ?_
  clear hK K
  refine anyG_end (by kernel_rfl) ?_
  intro w4 hb4
  have hA4 := chunkAt_below (chunkAt_set HA3.out) hb4
  have hbw4 := (below_set5 hbw3 (Nat.le_refl _) _ _ _ _ _).trans (hb4.mono (below_set5 hbw3 (Nat.le_refl _) _ _ _ _ _).size)
  clear a0 a1 a2 a3 a4 b0 b1 b2 b3 b4 hb4 HA3 hA2
  obtain ⟨⟨a0, a1, a2, a3, a4⟩, b0, b1, b2, b3, b4⟩ := hA4
  go_wp2
  refine bodyPost_ret (v := .agg #[.string B, .int .i64 x1, .int .i64 x2, .int .i64 x3, .int .i64 x4]) (by simp [results, Tryz.results62, go_sem, a0, a1, a2, a3, a4]) rfl ⟨rfl, hbw4⟩
end Go.Proofs.YtldhbjmillfjgaaGreatDoor

namespace Go.Proofs.YtldhbjmillfjgaaGreatDoor
open Go.RowKit
set_option linter.unusedVariables false

/-- All blocks but B lie as they lay; new ones may have come. -/
structure But (B : Nat) (A A' : World) : Prop where
  os : A'.os = A.os
  tape : A'.tape = A.tape
  output : A'.output = A.output
  size : A.heap.size ≤ A'.heap.size
  block : ∀ k, k < A.heap.size → k ≠ B → A'.heap[k]? = A.heap[k]?
theorem But.refl (B : Nat) (A : World) : But B A A := ⟨rfl, rfl, rfl, Nat.le_refl _, fun _ _ _ => rfl⟩
theorem But.trans {B : Nat} {a b c : World} (h : But B a b) (k : But B b c) : But B a c :=
  ⟨k.os.trans h.os, k.tape.trans h.tape, k.output.trans h.output, Nat.le_trans h.size k.size, fun i h1 h2 => (k.block i (Nat.lt_of_lt_of_le h1 h.size) h2).trans (h.block i h1 h2)⟩
theorem But.of_below {B : Nat} {A A' : World} (h : Below A.heap.size A A') : But B A A' := ⟨h.os, h.tape, h.output, h.size, fun k h1 _ => h.block k h1⟩
theorem But.setCell {B : Nat} {A W : World} (h : But B A W) {p : Addr} (hp : p.block = B) (v : Value) : But B A (W.setCell p v) :=
  h.trans ⟨rfl, rfl, rfl, by simp [World.setCell], fun k _ h2 => Below.heap_setCell W p v k (by rw [hp]; exact h2)⟩
theorem But.below {B : Nat} {A A' : World} (h : But B A A') (hB : B ≤ A.heap.size) : Below B A A' := ⟨h.os, h.tape, h.output, h.size, fun k hk => h.block k (by omega) (by omega)⟩
theorem But.cell {B : Nat} {A A' : World} (h : But B A A') {b o : Nat} {v : Value} (hb : b ≠ B) (hc : A.cell? ⟨b, o, none⟩ = some v) : A'.cell? ⟨b, o, none⟩ = some v :=
  (World.cell?_of_block (w := A) (a := ⟨b, o, none⟩) (h.block b (World.block_lt_of_cell? A _ hc) hb)).trans hc
/-- A tree lies on: B is no node's block. -/
theorem isTree_but {B : Nat} {A A' : World} (h : But B A A') (hB : A.cell? ⟨B, 5, none⟩ = none) : ∀ {t : T} {p : Option Addr}, isTree A p t → isTree A' p t
  | .nil, _, h => h
  | .node l rs r, _, ⟨b, pl, pr, e, ⟨a0, a1, a2, a3, a4⟩, ⟨a5, a6⟩, ⟨a7, a8, a9, a10⟩, ⟨a11, a12⟩, hl, hr⟩ => by
    have hb : b ≠ B := fun e => by subst e; rw [hB] at a5; cases a5
    exact ⟨b, pl, pr, e, ⟨h.cell hb a0, h.cell hb a1, h.cell hb a2, h.cell hb a3, h.cell hb a4⟩, ⟨h.cell hb a5, h.cell hb a6⟩, ⟨h.cell hb a7, h.cell hb a8, h.cell hb a9, h.cell hb a10⟩, ⟨h.cell hb a11, h.cell hb a12⟩, isTree_but h hB hl, isTree_but h hB hr⟩

/-- G gives just the worlds that are W but for B, and what is new. -/
structure GrowB (B : Nat) (W : World) (G : World → World) : Prop where
  but : ∀ x, But B W (G x)
  onto : ∀ w, But B W w → G w = w
open Classical in
theorem exists_growB (B : Nat) (W : World) : ∃ G, GrowB B W G :=
  ⟨fun x => if But B W x then x else W, fun x => by
    show But B W (if But B W x then x else W)
    split
    · assumption
    · exact But.refl _ _, fun w h => if_pos h⟩
theorem GrowB.cell {B : Nat} {W : World} {G : World → World} (hG : GrowB B W G) {b o : Nat} {v : Value} (hb : b ≠ B) (h : W.cell? ⟨b, o, none⟩ = some v) : ∀ x, (G x).cell? ⟨b, o, none⟩ = some v :=
  fun x => (hG.but x).cell hb h

section
variable {P : Program} {ops : Array Oper} {md : Region.Mode} {m B : Nat} {W0 : World} {Q : Exit → Act → World → Prop}

def anyB (B : Nat) (W0 : World) (P : Program) (md : Region.Mode) (ops : Array Oper) (m : Nat) (Q : Exit → Act → World → Prop) : Nat → Array Bool → Act → World → Prop
  | 0, listed, a, w => Region.ready md ops listed = [] ∧ ∀ w', Below w.heap.size w w' → Q .normal a w'
  | fuel + 1, listed, a, w =>
    (Region.ready md ops listed = [] → ∀ w', Below w.heap.size w w' → Q .normal a w') ∧
    ∀ i ∈ Region.ready md ops listed, ∀ w', Below w.heap.size w w' → opG P ops i (fun a' w'' => (i < m → But B W0 w' → But B W0 w'') ∧ anyB B W0 P md ops m Q fuel (listed.setIfInBounds i true) a' w'') a w'

theorem any_of_anyB : ∀ (fuel : Nat) (listed : Array Bool) (a : Act) (w : World), anyB B W0 P md ops m Q fuel listed a w → wpAny P md ops Q fuel listed a w
  | 0, _, _, w, h => ⟨h.1, h.2 w (Below.refl _ _)⟩
  | fuel + 1, listed, a, w, h => ⟨fun h0 => h.1 h0 w (Below.refl _ _), fun i hi => by
      have h1 := h.2 i hi w (Below.refl _ _)
      have h2 := opG_mono (fun a' w'' hh => any_of_anyB fuel _ a' w'' hh.2) h1
      unfold opG at h2
      unfold wpOp
      split
      · rename_i ho; simp only [ho] at h2; exact h2
      · rename_i o ho
        simp only [ho] at h2
        split
        · rename_i hw; simp only [hw, if_true] at h2; exact .inl (upon_of_ok h2)
        · rename_i hw; simp only [hw] at h2; exact h2⟩
theorem anyB_later : ∀ {fuel : Nat} {listed : Array Bool} {a : Act} {w w2 : World}, anyB B W0 P md ops m Q fuel listed a w → Below w.heap.size w w2 → anyB B W0 P md ops m Q fuel listed a w2
  | 0, _, _, _, _, h, hb => ⟨h.1, fun w' hb' => h.2 w' (hb.trans (hb'.mono hb.size))⟩
  | _ + 1, _, _, _, _, h, hb => ⟨fun h0 w' hb' => h.1 h0 w' (hb.trans (hb'.mono hb.size)), fun i hi w' hb' => h.2 i hi w' (hb.trans (hb'.mono hb.size))⟩

def yieldsB (B : Nat) (W0 : World) (P : Program) (ops : Array Oper) (o : Oper) (v : Value) (a : Act) : Prop :=
  if Region.wanted o (yielded ops a.tmps) then ∀ w', But B W0 w' → yieldsUpon P w' v ((execOp a.eval o).run P w') else v = undef
theorem yieldsB_same {o : Oper} {v : Value} {a a' : Act} (hy : yieldsB B W0 P ops o v a) (he : execOp a'.eval o = execOp a.eval o)
    (hw : Region.wanted o (yielded ops a'.tmps) = Region.wanted o (yielded ops a.tmps)) : yieldsB B W0 P ops o v a' := by
  unfold yieldsB at *
  rw [hw, he]
  exact hy

theorem opG_of_yieldsB {i : Nat} {o : Oper} {v : Value} {a : Act} {w' : World} (hi : ops[i]? = some o) (hy : yieldsB B W0 P ops o v a) (hb : But B W0 w') {K : Act → World → Prop}
    (h : ∀ w'', Below w'.heap.size w' w'' → K (a.put o.dst v) w'') : opG P ops i K a w' := by
  unfold opG
  simp only [hi]
  unfold yieldsB at hy
  split
  · rename_i hw
    rw [if_pos hw] at hy
    have h3 := hy w' hb
    generalize (execOp a.eval o).run P w' = r at *
    cases r with
    | ok n w2 =>
      cases n <;> simp only [yieldsUpon] at h3 <;> simp only [okUpon]
      case value u =>
        obtain ⟨e1, e2⟩ := h3
        rw [e2]
        exact h _ (by rw [e1]; exact Below.refl _ _)
      case skip =>
        obtain ⟨e1, e2⟩ := h3
        rw [← e2]
        exact h _ (by rw [e1]; exact Below.refl _ _)
      case enter f args =>
        obtain ⟨e1, hc⟩ := h3
        rw [e1]
        exact hc.mono fun e w'' ⟨he, hw''⟩ => ⟨v, he, h _ hw''⟩
    | halt x w2 => simp only [yieldsUpon] at h3
  · rename_i hw
    rw [if_neg hw] at hy
    rw [← hy]
    exact h _ (Below.refl _ _)

theorem opG_putB {j : Nat} {oi oj : Oper} {v : Value} (hj : ops[j]? = some oj) (hap : oi.apart ops oj = true) (hsi : ∀ cs b, oi.op ≠ .select cs b) (hsj : ∀ cs b, oj.op ≠ .select cs b)
    {K : Act → World → Prop} {a : Act} {w : World} (hy : yieldsB B W0 P ops oi v a) (h : opG P ops j K (a.put oi.dst v) w) :
    opG P ops j (fun a' w' => yieldsB B W0 P ops oi v a' ∧ K (a'.put oi.dst v) w') a w := by
  obtain ⟨h1, h2, h3⟩ := Oper.apart_spec hap
  have keep : ∀ u, yieldsB B W0 P ops oi v (a.put oj.dst u) := fun u => yieldsB_same hy (execOp_put oi hsi a oj.dst u h3) (wanted_put oi a oj.dst u h3)
  unfold opG at *
  simp only [hj] at *
  rw [wanted_put oj a oi.dst v h1] at h
  split
  · rename_i hw
    simp only [hw, if_true] at h
    rw [execOp_put oj hsj a oi.dst v h1] at h
    generalize (execOp a.eval oj).run P w = r at *
    cases r with
    | ok n w2 =>
      cases n <;> simp only [okUpon] at h ⊢
      case value u => exact ⟨keep u, by rw [← Act.put_comm a v u h2]; exact h⟩
      case skip => exact ⟨keep _, by rw [← Act.put_comm a v undef h2]; exact h⟩
      case enter f args => exact h.mono fun e w'' ⟨u, e1, e2⟩ => ⟨u, e1, keep u, by rw [← Act.put_comm a v u h2]; exact e2⟩
    | halt x w2 => simp only [okUpon] at h
  · rename_i hw
    simp only [hw] at h
    exact ⟨keep _, by rw [← Act.put_comm a v undef h2]; exact h⟩

theorem anyB_first {i : Nat} {oi : Oper} {v : Value} (hi : ops[i]? = some oi) (him : i < m) (hsel : ∀ (j : Nat) (o : Oper) cs b, ops[j]? = some o → o.op ≠ .select cs b) (hlate : lateOk md ops m = true) :
    ∀ (fuel : Nat) (listed : Array Bool) (a : Act) (w : World), But B W0 w →
      (∀ j oj, ops[j]? = some oj → j ≠ i → listed.getD j true = false → (∀ e ∈ oj.after, Region.binds md e = true → e.on ≠ i) → oi.apart ops oj = true) →
      i ∈ Region.ready md ops listed → yieldsB B W0 P ops oi v a →
      anyB B W0 P md ops m Q fuel (listed.setIfInBounds i true) (a.put oi.dst v) w → anyB B W0 P md ops m Q (fuel + 1) listed a w := by
  intro fuel
  induction fuel with
  | zero =>
    intro listed a w hC _ hr hy H
    refine ⟨fun h => (by rw [h] at hr; cases hr), fun j hj w' hb => ?_⟩
    by_cases hji : j = i
    · subst hji; exact opG_of_yieldsB hi hy (hC.trans (But.of_below hb)) fun w'' hb' => ⟨fun _ h => h.trans (But.of_below hb'), anyB_later H (hb.trans (hb'.mono hb.size))⟩
    · have := ready_mono hj hji
      rw [H.1] at this
      cases this
  | succ fuel ih =>
    intro listed a w hC hfree hr hy H
    refine ⟨fun h => (by rw [h] at hr; cases hr), fun j hj w' hb => ?_⟩
    have hC' := hC.trans (But.of_below hb)
    by_cases hji : j = i
    · subst hji; exact opG_of_yieldsB hi hy hC' fun w'' hb' => ⟨fun _ h => h.trans (But.of_below hb'), anyB_later H (hb.trans (hb'.mono hb.size))⟩
    · have h1 := H.2 j (ready_mono hj hji) w' hb
      obtain ⟨hjun, oj, hoj, hall⟩ := mem_ready.1 hj
      have hnot : ∀ e ∈ oj.after, Region.binds md e = true → e.on ≠ i := fun e he hb heq => by
        have h1 := hall e he hb
        have h0 := (mem_ready.1 hr).1
        rw [heq] at h1
        rcases Nat.lt_or_ge i listed.size with h' | h'
        · simp [h'] at h0 h1; rw [h0] at h1; cases h1
        · simp [Array.getElem?_eq_none h'] at h1
      have hjm : j < m := by
        by_cases hjm : j < m
        · exact hjm
        · obtain ⟨e, he, hb, hon⟩ := lateOk_spec hlate hoj hjm him
          exact absurd hon (hnot e he hb)
      have h2 := opG_putB hoj (hfree j oj hoj hji hjun hnot) (fun cs b => hsel i oi cs b hi) (fun cs b => hsel j oj cs b hoj) hy h1
      have hfree' : ∀ k ok, ops[k]? = some ok → k ≠ i → (listed.setIfInBounds j true).getD k true = false →
          (∀ e ∈ ok.after, Region.binds md e = true → e.on ≠ i) → oi.apart ops ok = true := fun k ok hk hki hun hno => by
        refine hfree k ok hk hki ?_ hno
        by_cases hjk : j = k
        · subst hjk; exact hjun
        · rw [getD_set_ne true hjk] at hun; exact hun
      refine opG_mono (fun a' w'' h3 => ?_) h2
      obtain ⟨h3y, h3g, h3a⟩ := h3
      refine ⟨fun _ => h3g hjm, ih (listed.setIfInBounds j true) a' w'' (h3g hjm hC') hfree' (ready_mono hr (Ne.symm hji)) h3y ?_⟩
      rw [Array.setIfInBounds_comm _ _ hji]
      exact h3a

theorem anyB_step {i fuel : Nat} {o : Oper} {listed : Array Bool} {a : Act} {w : World} {G : World → World} (hG : GrowB B W0 G) (hw0 : But B W0 w) (hi : ops[i]? = some o) (him : decide (i < m) = true) (hs : (Region.noSelect ops && lateOk md ops m) = true)
    (hf : (Region.free md ops listed i && (Region.ready md ops listed).contains i) = true)
    (h : ∀ K : Act → Prop, (∀ a, anyB B W0 P md ops m Q fuel (listed.setIfInBounds i true) a w → K a) → if Region.wanted o (yielded ops a.tmps) then ∃ v, (∀ x, yieldsUpon P (G x) v ((execOp a.eval o).run P (G x))) ∧ K (a.put o.dst v) else K (a.put o.dst undef)) :
    anyB B W0 P md ops m Q (fuel + 1) listed a w := by
  have h1 := h _ fun _ h => h
  have him' : i < m := of_decide_eq_true him
  rw [Bool.and_eq_true] at hs hf
  split at h1
  · rename_i hw
    obtain ⟨v, h2, h3⟩ := h1
    refine anyB_first hi him' (Region.noSelect_spec hs.1) hs.2 fuel listed a w hw0 (Region.free_spec hi hf.1) (by simpa using hf.2) ?_ h3
    unfold yieldsB
    rw [if_pos hw]
    intro w' hb
    have := h2 w'
    rw [hG.onto w' hb] at this
    exact this
  · rename_i hw
    refine anyB_first hi him' (Region.noSelect_spec hs.1) hs.2 fuel listed a w hw0 (Region.free_spec hi hf.1) (by simpa using hf.2) ?_ h1
    unfold yieldsB
    rw [if_neg hw]

/-- One of those that may come up: what is asked of it. -/
def askB (B : Nat) (W0 : World) (P : Program) (md : Region.Mode) (ops : Array Oper) (m : Nat) (Q : Exit → Act → World → Prop) (fuel : Nat) (listed : Array Bool) (a : Act) (w : World) (i : Nat) : Prop :=
  ∃ o, ops[i]? = some o ∧ ∀ w', Below w.heap.size w w' → ∀ K : Act → World → Prop, (∀ a' w'', (But B W0 w' → But B W0 w'') → anyB B W0 P md ops m Q fuel (listed.setIfInBounds i true) a' w'' → K a' w'') → if Region.wanted o (yielded ops a.tmps) then okUpon P o a K ((execOp a.eval o).run P w') else K (a.put o.dst undef) w'
theorem anyB_one {i fuel : Nat} {listed : Array Bool} {a : Act} {w : World} (hr : Region.ready md ops listed = [i]) (h : askB B W0 P md ops m Q fuel listed a w i) : anyB B W0 P md ops m Q (fuel + 1) listed a w := by
  obtain ⟨o, hi, h⟩ := h
  refine ⟨fun h0 => absurd (hr.symm.trans h0) (by simp), fun j hj w' hb => ?_⟩
  rw [hr, List.mem_singleton] at hj
  subst hj
  unfold opG
  simp only [hi]
  exact h w' hb _ fun a' w'' hb' ha => ⟨fun _ => hb', ha⟩
theorem anyB_two {i j fuel : Nat} {listed : Array Bool} {a : Act} {w : World} (hr : Region.ready md ops listed = [i, j]) (h : askB B W0 P md ops m Q fuel listed a w i) (h' : askB B W0 P md ops m Q fuel listed a w j) : anyB B W0 P md ops m Q (fuel + 1) listed a w := by
  obtain ⟨o, hi, h⟩ := h
  obtain ⟨o', hj, h'⟩ := h'
  refine ⟨fun h0 => absurd (hr.symm.trans h0) (by simp), fun k hk w' hb => ?_⟩
  rw [hr] at hk
  unfold opG
  rcases List.mem_cons.1 hk with rfl | hk
  · simp only [hi]
    exact h w' hb _ fun a' w'' hb' ha => ⟨fun _ => hb', ha⟩
  · rw [List.mem_singleton] at hk
    subst hk
    simp only [hj]
    exact h' w' hb _ fun a' w'' hb' ha => ⟨fun _ => hb', ha⟩
theorem anyB_end {fuel : Nat} {listed : Array Bool} {a : Act} {w : World} (hr : Region.ready md ops listed = []) (h : ∀ w', Below w.heap.size w w' → Q .normal a w') : anyB B W0 P md ops m Q fuel listed a w := by
  cases fuel with
  | zero => exact ⟨hr, h⟩
  | succ n => exact ⟨fun _ => h, fun i hi => (by rw [hr] at hi; cases hi)⟩
theorem wp_region_but {id : Nat} {a : Act} {w : World} {l : List Oper} (B m n : Nat) (hm : P.follows .mixedOrders = true) (hn : l.length = n)
    (h : ∀ w', Below w.heap.size w w' → anyB B w' P .any l.toArray m Q n (Array.replicate n false) a w') : (Code.region id l.toArray true).wp P Q a w :=
  wp_region_any hm (any_of_anyB (B := B) (W0 := { w with drawn := w.drawn + 1 }) _ _ _ _ (by subst hn; simpa using h { w with drawn := w.drawn + 1 } (Below.drew (Below.refl _ w))))
end
end Go.Proofs.YtldhbjmillfjgaaGreatDoor

namespace Go.Proofs.YtldhbjmillfjgaaGreatDoor
open Go.RowKit
set_option linter.unusedVariables false
attribute [local go_sem] yieldsUpon okUpon

/-- What an end's taking leaves. -/
def ended (t : T) (c : List Nat) (t' : T) : Prop := t.chunks = t'.chunks ++ [c] ∧ t'.bal
def begun (t : T) (c : List Nat) (t' : T) : Prop := t.chunks = [c] ++ t'.chunks ∧ t'.bal
theorem big_ended {t t' : T} {c : List Nat} (h : big t) (e : ended t c t') : big t' ∧ big (.node t' c .nil) := by
  unfold big at *
  rw [runes_chunks, size_chunks, e.1] at h
  simp only [List.flatten_append, C1_append, List.length_append] at h
  have := C1_pos [c].flatten
  refine ⟨⟨by rw [runes_chunks]; omega, by rw [size_chunks]; omega⟩, ?_, ?_⟩
  · have e2 : C1 [c].flatten = C1 c := by simp
    simp only [T.runes, C1_append, runes_chunks]
    have e3 : C1 (T.nil.chunks.flatten) = 0 := rfl
    have e4 : C1 [] = 0 := rfl
    have e5 : C1 T.nil.runes = 0 := rfl
    simp only [List.flatten_cons, List.flatten_nil, List.append_nil] at *
    omega
  · simp only [T.size, size_chunks]
    have e3 : T.nil.chunks.length = 0 := rfl
    simp only [List.length_singleton] at h
    omega
theorem big_begun {t t' : T} {c : List Nat} (h : big t) (e : begun t c t') : big t' ∧ big (.node .nil c t') := by
  unfold big at *
  rw [runes_chunks, size_chunks, e.1] at h
  simp only [List.flatten_append, C1_append, List.length_append] at h
  have := C1_pos [c].flatten
  refine ⟨⟨by rw [runes_chunks]; omega, by rw [size_chunks]; omega⟩, ?_, ?_⟩
  · have e2 : C1 [c].flatten = C1 c := by simp
    simp only [T.runes, C1_append, runes_chunks]
    have e3 : C1 (T.nil.chunks.flatten) = 0 := rfl
    have e4 : C1 [] = 0 := rfl
    have e5 : C1 T.nil.runes = 0 := rfl
    simp only [List.flatten_cons, List.flatten_nil, List.append_nil] at *
    omega
  · simp only [T.size, size_chunks]
    have e3 : T.nil.chunks.length = 0 := rfl
    simp only [List.length_singleton] at h
    omega

set_option maxRecDepth 100000 in
set_option maxHeartbeats 2000000 in
theorem last_one (p : Option Addr) (l : T) (c : List Nat) (w : World) (ht : isTree w p (.node l c .nil)) :
    Calls Tryz.prog 58 #[.pointer p] w fun e w' => ∃ q, e = .returned (.tuple #[chunkV c, .pointer q]) ∧ isTree w' q l ∧ Below w.heap.size w w' := by
  obtain ⟨b1, pl, pr, rfl, ⟨c0, c1, c2, c3, c4⟩, ⟨c5, c6⟩, _, _, hl, hr⟩ := ht
  have hb0 : ∀ o, Below w.heap.size w (w.alloc o) := fun o => (Below.refl _ w).alloc (Nat.le_refl _) o
  have hlt : b1 < w.heap.size := World.block_lt_of_cell? w _ c0
  have HT : Hid (isTree w pl l) := hl
  obtain rfl : pr = none := hr
  clear hl
  have d6 := fun o => cell_on (hb0 o) c6
  have hA := chunkAt_new w (.string ⟨#[]⟩) (.int .i64 0) (.int .i64 0) (.int .i64 0) (.int .i64 0) 106
  unfold chunkV
  generalize bytesOf c = v0 at *
  generalize C1 c = v1 at *
  generalize C2 c = v2 at *
  generalize C3 c = v3 at *
  generalize C4 c = v4 at *
  go_enter Tryz.func58, Tryz.ntmps58
  go_wp2
  have hbW := hb0 (.cells #[.string ⟨#[]⟩, .int .i64 0, .int .i64 0, .int .i64 0, .int .i64 0] 106)
  generalize (w.alloc (.cells #[.string ⟨#[]⟩, .int .i64 0, .int .i64 0, .int .i64 0, .int .i64 0] 106)) = W at *
  clear d6 hb0
  refine wp_region_but w.heap.size 10 10 (by kernel_rfl) rfl ?_
  intro w1 hb1
  have hbw := hbW.trans (hb1.mono hbW.size)
  have hA1 := chunkAt_below hA hb1
  obtain ⟨G, hG⟩ := exists_growB w.heap.size w1
  have hw0 := But.refl w.heap.size w1
  have hne : b1 ≠ w.heap.size := Nat.ne_of_lt hlt
  have g0 := hG.cell hne (cell_on hbw c0)
  have g1 := hG.cell hne (cell_on hbw c1)
  have g2 := hG.cell hne (cell_on hbw c2)
  have g3 := hG.cell hne (cell_on hbw c3)
  have g4 := hG.cell hne (cell_on hbw c4)
  have g5 := hG.cell hne (cell_on hbw c5)
  clear c0 c1 c2 c3 c4 c5 c6 hA
  (refine anyB_step hG hw0 (i := 0) rfl (by kernel_rfl) (by kernel_rfl) (by kernel_rfl) (fun K hK => ?_); go_simp; refine hK _ ?_; clear hK K)
  (refine anyB_step hG hw0 (i := 1) rfl (by kernel_rfl) (by kernel_rfl) (by kernel_rfl) (fun K hK => ?_); go_simp; refine hK _ ?_; clear hK K)
  (refine anyB_step hG hw0 (i := 2) rfl (by kernel_rfl) (by kernel_rfl) (by kernel_rfl) (fun K hK => ?_); go_simp; refine hK _ ?_; clear hK K)
  (refine anyB_step hG hw0 (i := 3) rfl (by kernel_rfl) (by kernel_rfl) (by kernel_rfl) (fun K hK => ?_); go_simp; refine hK _ ?_; clear hK K)
  (refine anyB_step hG hw0 (i := 4) rfl (by kernel_rfl) (by kernel_rfl) (by kernel_rfl) (fun K hK => ?_); go_simp; refine hK _ ?_; clear hK K)
  (refine anyB_step hG hw0 (i := 5) rfl (by kernel_rfl) (by kernel_rfl) (by kernel_rfl) (fun K hK => ?_); go_simp; refine hK _ ?_; clear hK K)
  (refine anyB_step hG hw0 (i := 6) rfl (by kernel_rfl) (by kernel_rfl) (by kernel_rfl) (fun K hK => ?_); go_simp; refine hK _ ?_; clear hK K)
  (refine anyB_step hG hw0 (i := 7) rfl (by kernel_rfl) (by kernel_rfl) (by kernel_rfl) (fun K hK => ?_); go_simp; refine hK _ ?_; clear hK K)
  clear g0 g1 g2 g3 g4 g5 hG
  refine anyB_one (i := 8) (by kernel_rfl) ⟨_, rfl, ?_⟩
  intro w2 hb2 K hK
  have hA2 := chunkAt_below hA1 hb2
  have hbw2 := hbw.trans (hb2.mono hbw.size)
  have HA2 : Hid _ := hA2
  obtain ⟨⟨a0, a1, a2, a3, a4⟩, f0, f1, f2, f3, f4⟩ := hA2
  go_simp
  refine hK _ _ (fun h => ((((h.setCell rfl _).setCell rfl _).setCell rfl _).setCell rfl _).setCell rfl _) ?_
  clear hK K
  refine anyB_one (i := 9) (by kernel_rfl) ⟨_, rfl, ?_⟩
  intro w3 hb3 K hK
  have hA3 := chunkAt_below (chunkAt_set HA2.out) hb3
  have hbw3 := (below_set5 hbw2 (Nat.le_refl _) _ _ _ _ _).trans (hb3.mono (below_set5 hbw2 (Nat.le_refl _) _ _ _ _ _).size)
  go_simp
  refine hK _ _ (fun h => h) ?_
  clear hK K
  refine anyB_end (by kernel_rfl) ?_
  intro w4 hb4
  have hA4 := chunkAt_below hA3 hb4
  have hbw4 := hbw3.trans (hb4.mono hbw3.size)
  clear a0 a1 a2 a3 a4 f0 f1 f2 f3 f4 hb3 hb4 hA3 HA2 hA1
  have HT4 : Hid _ := isTree_below hbw4 HT.out
  obtain ⟨⟨a0, a1, a2, a3, a4⟩, f0, f1, f2, f3, f4⟩ := hA4
  go_wp2
  refine bodyPost_ret (v := .tuple #[.agg #[.string v0, .int .i64 v1, .int .i64 v2, .int .i64 v3, .int .i64 v4], .pointer pl]) (by simp [results, Tryz.results58, go_sem, a0, a1, a2, a3, a4]) rfl ⟨_, rfl, HT4.out, hbw4⟩

set_option maxRecDepth 100000 in
set_option maxHeartbeats 2000000 in
theorem last_more (p : Option Addr) (l r : T) (c : List Nat) (w : World) (ht : isTree w p (.node l c r)) (hne : r ≠ .nil) (hz : big (.node l c r)) (hbal : (T.node l c r).bal)
    (ih : ∀ (p : Option Addr) (w : World), isTree w p r → Calls Tryz.prog 58 #[.pointer p] w fun e w' => ∃ c q t, e = .returned (.tuple #[chunkV c, .pointer q]) ∧ isTree w' q t ∧ ended r c t ∧ Below w.heap.size w w') :
    Calls Tryz.prog 58 #[.pointer p] w fun e w' => ∃ c1 q t, e = .returned (.tuple #[chunkV c1, .pointer q]) ∧ isTree w' q t ∧ ended (.node l c r) c1 t ∧ Below w.heap.size w w' := by
  obtain ⟨b1, pl, pr, rfl, ⟨c0, c1, c2, c3, c4⟩, ⟨c5, c6⟩, _, _, hl, hr⟩ := ht
  have hb0 : ∀ o, Below w.heap.size w (w.alloc o) := fun o => (Below.refl _ w).alloc (Nat.le_refl _) o
  have hlt : b1 < w.heap.size := World.block_lt_of_cell? w _ c0
  have hsub : ∃ b2, pr = some ⟨b2, 0, none⟩ := by
    cases r with
    | nil => exact absurd rfl hne
    | node x y z => obtain ⟨b, _, _, e, _⟩ := hr; exact ⟨b, e⟩
  obtain ⟨b2, rfl⟩ := hsub
  have cI := fun o => ih _ (w.alloc o) (isTree_below (hb0 o) hr)
  have HT : Hid (isTree w pl l) := hl
  have HJ : Hid (∀ c1 t, ended r c1 t → ∀ p1 p2 W, isTree W p1 l → isTree W p2 t → Calls Tryz.prog 70 #[.pointer p1, chunkV c, .pointer p2] W fun e w' => ∃ q t', e = .returned (.pointer q) ∧ isTree w' q t' ∧ ended (.node l c r) c1 t' ∧ Below W.heap.size W w') := fun c1 t he p1 p2 W h1 h2 => by
    obtain ⟨b1, b2, b3, b4⟩ := hbal
    have hbig : big (.node l c t) := by
      obtain ⟨z1, z2⟩ := hz
      have e1 := he.1
      simp only [T.runes, T.size, C1_append] at z1 z2
      rw [runes_chunks r, e1] at z1
      rw [size_chunks r, e1] at z2
      simp only [List.flatten_append, C1_append, List.length_append, List.length_singleton] at z1 z2
      have := C1_pos [c1].flatten
      exact ⟨by simp only [T.runes, C1_append, runes_chunks t]; omega, by simp only [T.size, size_chunks t]; omega⟩
    refine (join_any _ p1 p2 l t c W (Nat.le_refl _) h1 h2 hbig b1 he.2).mono ?_
    rintro e w' ⟨q, t', rfl, ht', ⟨j1, j2, _, _⟩, hb⟩
    exact ⟨q, t', rfl, ht', ⟨by rw [j1, T.chunks, he.1]; simp, j2⟩, hb⟩
  clear hl hr hne hz hbal ih
  have d6 := fun o => cell_on (hb0 o) c6
  have hA := chunkAt_new w (.string ⟨#[]⟩) (.int .i64 0) (.int .i64 0) (.int .i64 0) (.int .i64 0) 106
  have hN : (w.alloc (.cells #[.string ⟨#[]⟩, .int .i64 0, .int .i64 0, .int .i64 0, .int .i64 0] 106)).cell? ⟨w.heap.size, 5, none⟩ = none := by simp [go_sem]
  have HA : Hid _ := hA
  have HN : Hid _ := hN
  clear hA hN
  unfold chunkV at cI HJ ⊢
  go_enter Tryz.func58, Tryz.ntmps58
  go_wp2_with (first | (go_at_call 58; refine (cI _).mono ?_; rintro e w1 ⟨x, p', t, rfl, ht1, he, hb1⟩; have HT1 : Hid _ := ht1; have HE : Hid _ := he; clear ht1 he) | fail)
  obtain ⟨W, hW⟩ : ∃ W, w1.alloc (.cells #[.string (bytesOf x), .int .i64 (C1 x), .int .i64 (C2 x), .int .i64 (C3 x), .int .i64 (C4 x)] 106) = W := ⟨_, rfl⟩
  have hB4 : chunkAt W w1.heap.size (.string (bytesOf x)) (.int .i64 (C1 x)) (.int .i64 (C2 x)) (.int .i64 (C3 x)) (.int .i64 (C4 x)) := by rw [← hW]; exact chunkAt_new _ _ _ _ _ _ _
  have hb1W : Below w1.heap.size w1 W := by rw [← hW]; exact (Below.refl _ _).alloc (Nat.le_refl _) _
  rw [hW]
  clear hW cI d6
  have hA := chunkAt_below (chunkAt_below HA.out hb1) hb1W
  have hltA := chunkAt_lt HA.out
  have hN := (((hb1.trans (hb1W.mono hb1.size)).cell (p := ⟨w.heap.size, 5, none⟩) hltA)).trans HN.out
  have ht1 := isTree_below hb1W HT1.out
  have hbW := (hb0 (.cells #[.string ⟨#[]⟩, .int .i64 0, .int .i64 0, .int .i64 0, .int .i64 0] 106)).trans ((hb1.trans (hb1W.mono hb1.size)).mono (hb0 (.cells #[.string ⟨#[]⟩, .int .i64 0, .int .i64 0, .int .i64 0, .int .i64 0] 106)).size)
  have hn14 : w1.heap.size ≠ w.heap.size := by have := hb1.size; omega
  clear HA HN HT1 hb1 hb1W hb0
  refine wp_region_but w.heap.size 13 13 (by kernel_rfl) rfl ?_
  intro w2 hb2
  have hbw := hbW.trans (hb2.mono hbW.size)
  have HA1 : Hid _ := chunkAt_below hA hb2
  have HN1 : Hid _ := (hb2.cell (p := ⟨w.heap.size, 5, none⟩) (chunkAt_lt hA)).trans hN
  have HT1 : Hid _ := isTree_below hb2 ht1
  have hB4' := chunkAt_below hB4 hb2
  obtain ⟨⟨e0, e1, e2, e3, e4⟩, _⟩ := hB4'
  obtain ⟨G, hG⟩ := exists_growB w.heap.size w2
  have hw0 := But.refl w.heap.size w2
  have hne : b1 ≠ w.heap.size := Nat.ne_of_lt hlt
  have g0 := hG.cell hne (cell_on hbw c0)
  have g1 := hG.cell hne (cell_on hbw c1)
  have g2 := hG.cell hne (cell_on hbw c2)
  have g3 := hG.cell hne (cell_on hbw c3)
  have g4 := hG.cell hne (cell_on hbw c4)
  have g5 := hG.cell hne (cell_on hbw c5)
  have k0 := hG.cell hn14 e0
  have k1 := hG.cell hn14 e1
  have k2 := hG.cell hn14 e2
  have k3 := hG.cell hn14 e3
  have k4 := hG.cell hn14 e4
  clear c0 c1 c2 c3 c4 c5 c6 hA hN ht1 hB4 e0 e1 e2 e3 e4
  (refine anyB_step hG hw0 (i := 0) rfl (by kernel_rfl) (by kernel_rfl) (by kernel_rfl) (fun K hK => ?_); go_simp; refine hK _ ?_; clear hK K)
  (refine anyB_step hG hw0 (i := 1) rfl (by kernel_rfl) (by kernel_rfl) (by kernel_rfl) (fun K hK => ?_); go_simp; refine hK _ ?_; clear hK K)
  (refine anyB_step hG hw0 (i := 2) rfl (by kernel_rfl) (by kernel_rfl) (by kernel_rfl) (fun K hK => ?_); go_simp; refine hK _ ?_; clear hK K)
  (refine anyB_step hG hw0 (i := 3) rfl (by kernel_rfl) (by kernel_rfl) (by kernel_rfl) (fun K hK => ?_); go_simp; refine hK _ ?_; clear hK K)
  (refine anyB_step hG hw0 (i := 4) rfl (by kernel_rfl) (by kernel_rfl) (by kernel_rfl) (fun K hK => ?_); go_simp; refine hK _ ?_; clear hK K)
  (refine anyB_step hG hw0 (i := 5) rfl (by kernel_rfl) (by kernel_rfl) (by kernel_rfl) (fun K hK => ?_); go_simp; refine hK _ ?_; clear hK K)
  (refine anyB_step hG hw0 (i := 6) rfl (by kernel_rfl) (by kernel_rfl) (by kernel_rfl) (fun K hK => ?_); go_simp; refine hK _ ?_; clear hK K)
  (refine anyB_step hG hw0 (i := 7) rfl (by kernel_rfl) (by kernel_rfl) (by kernel_rfl) (fun K hK => ?_); go_simp; refine hK _ ?_; clear hK K)
  (refine anyB_step hG hw0 (i := 8) rfl (by kernel_rfl) (by kernel_rfl) (by kernel_rfl) (fun K hK => ?_); go_simp; refine hK _ ?_; clear hK K)
  (refine anyB_step hG hw0 (i := 9) rfl (by kernel_rfl) (by kernel_rfl) (by kernel_rfl) (fun K hK => ?_); go_simp; refine hK _ ?_; clear hK K)
  clear g0 g1 g2 g3 g4 g5 k0 k1 k2 k3 k4 hG hb2
  refine anyB_one (i := 10) (by kernel_rfl) ⟨_, rfl, ?_⟩
  · intro w3 hb3 K hK
    have hbw3 := hbw.trans (hb3.mono hbw.size)
    have ht3 := isTree_below hb3 HT1.out
    have cj := HJ.out x t HE.out _ _ w3 (isTree_below hbw3 HT.out) ht3
    go_simp
    refine cj.mono ?_
    rintro e w4 ⟨q, t', rfl, ht4, he4, hb4⟩
    have HE9 : Hid _ := he4
    refine ⟨_, rfl, hK _ _ (fun h => h.trans (But.of_below hb4)) ?_⟩
    clear hK K cj he4 ht3
    have hb34 := hb3.trans (hb4.mono hb3.size)
    have hbw4 := hbw3.trans (hb4.mono hbw3.size)
    have HA4 : Hid _ := chunkAt_below HA1.out hb34
    have HN4 : Hid _ := (hb34.cell (p := ⟨w.heap.size, 5, none⟩) (chunkAt_lt HA1.out)).trans HN1.out
    refine anyB_one (i := 11) (by kernel_rfl) ⟨_, rfl, ?_⟩
    intro w5 hb5 K hK
    have hbw5 := hbw4.trans (hb5.mono hbw4.size)
    have hN5 := (hb5.cell (p := ⟨w.heap.size, 5, none⟩) (chunkAt_lt HA4.out)).trans HN4.out
    have HT5 : Hid _ := isTree_but (((((But.refl w.heap.size w5).setCell (p := ⟨w.heap.size, 0, none⟩) rfl (.string (bytesOf x))).setCell (p := ⟨w.heap.size, 1, none⟩) rfl (.int .i64 (C1 x))).setCell (p := ⟨w.heap.size, 2, none⟩) rfl (.int .i64 (C2 x))).setCell (p := ⟨w.heap.size, 3, none⟩) rfl (.int .i64 (C3 x)) |>.setCell (p := ⟨w.heap.size, 4, none⟩) rfl (.int .i64 (C4 x))) hN5 (isTree_below hb5 ht4)
    clear ht4 hN5
    have HA5 : Hid _ := chunkAt_below HA4.out hb5
    have hx := HA5.out
    obtain ⟨⟨a0, a1, a2, a3, a4⟩, f0, f1, f2, f3, f4⟩ := hx
    go_simp
    refine hK _ _ (fun h => ((((h.setCell rfl _).setCell rfl _).setCell rfl _).setCell rfl _).setCell rfl _) ?_
    clear hK K a0 a1 a2 a3 a4 f0 f1 f2 f3 f4
    have hbs := below_set5 hbw5 (Nat.le_refl _) (.string (bytesOf x)) (.int .i64 (C1 x)) (.int .i64 (C2 x)) (.int .i64 (C3 x)) (.int .i64 (C4 x))
    have hAs := chunkAt_set (u0 := .string (bytesOf x)) (u1 := .int .i64 (C1 x)) (u2 := .int .i64 (C2 x)) (u3 := .int .i64 (C3 x)) (u4 := .int .i64 (C4 x)) HA5.out
    have hts := HT5.out
    refine anyB_one (i := 12) (by kernel_rfl) ⟨_, rfl, ?_⟩
    intro w8 hb8 K hK
    go_simp
    refine hK _ _ (fun h => h) ?_
    clear hK K
    refine anyB_end (by kernel_rfl) ?_
    intro w9 hb9
    have hb89 := hb8.trans (hb9.mono hb8.size)
    have hA9 := chunkAt_below hAs hb89
    have hbw9 := hbs.trans (hb89.mono hbs.size)
    have HT9 : Hid _ := isTree_below hb89 hts
    clear hb8 hb9 hb89 hts
    obtain ⟨⟨a0, a1, a2, a3, a4⟩, f0, f1, f2, f3, f4⟩ := hA9
    go_wp2
    refine bodyPost_ret (v := .tuple #[chunkV x, .pointer q]) (by simp [results, Tryz.results58, go_sem, a0, a1, a2, a3, a4, chunkV]) rfl ⟨_, _, _, rfl, HT9.out, HE9.out, hbw9⟩

theorem last_any : ∀ (n : Nat) (t : T) (p : Option Addr) (w : World), t.size ≤ n → t ≠ .nil → isTree w p t → big t → t.bal →
    Calls Tryz.prog 58 #[.pointer p] w fun e w' => ∃ c q t', e = .returned (.tuple #[chunkV c, .pointer q]) ∧ isTree w' q t' ∧ ended t c t' ∧ Below w.heap.size w w' := by
  intro n
  induction n with
  | zero =>
    intro t p w hn hne
    cases t with
    | nil => exact absurd rfl hne
    | node l c r => simp [T.size] at hn
  | succ n ih =>
    intro t p w hn hne ht hz hbal
    match t, hn, hne, ht, hz, hbal with
    | .nil, _, hne, _, _, _ => exact absurd rfl hne
    | .node l c r, hn, _, ht, hz, hbal =>
      by_cases hs : r = .nil
      · subst hs
        refine (last_one p l c w ht).mono ?_
        rintro e w' ⟨q, rfl, hq, hb⟩
        exact ⟨c, q, l, rfl, hq, ⟨by simp [T.chunks], hbal.1⟩, hb⟩
      · simp only [T.size] at hn
        exact last_more p l r c w ht hs hz hbal fun p' w' h' => ih r p' w' (by omega) hs h' (big_node hz).2.1 hbal.2.1
end Go.Proofs.YtldhbjmillfjgaaGreatDoor
