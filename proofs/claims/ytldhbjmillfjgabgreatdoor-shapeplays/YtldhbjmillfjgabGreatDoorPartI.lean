/-
  What Transform's and Compose's closures take of a pair.
  Side by side: what the walk keeps.
  Compose, pure: what comes of two operations as cells, and what the pairs that are side by side add up to.
  Compose, pure: the cells' gaps, as the document builds them; and that a least form makes the same cells.
  Two operations that are as long go side by side to their end (pure).
  Side by side: what a round of ops.sideBySide hands on.
  ops.sideBySide: the pairs of two operations, one behind the other, each taken (turn).
-/
import Derived.Test.YtldhbjmillfjgabGreatDoorPartH
import Derived.Test.YtldhbjmillfjgabGreatDoorPartF
import Derived.Test.YtldhbjmillfjgabGreatDoorPartE
import Derived.Deep.LoopGhost
namespace Go.Proofs.YtldhbjmillfjgabGreatDoor
open Go.RowKit
set_option linter.unusedVariables false
attribute [local go_sem] Oper.semAt_some

theorem cut_any (g : Nat) (v : Value) (p : Pt) (ps : List Pt) (n : Nat) (w : World) (h : winP w g v (p :: ps)) (hp : oneP p) (h0 : 0 < n) (hn : (n : Int) ≤ lengthP p) (hb : lengthP p < 1000000000) :
    Calls Tryz.prog 201 #[v, .int .i64 n] w fun e w' => ∃ v', e = .returned (.tuple #[partV (cutP p n).1, v']) ∧ winP w' g v' ((cutP p n).2 ++ ps) ∧ ButO g w w' := by
  by_cases e : lengthP p = n
  · have hc : cutP p n = (p, []) := by unfold cutP; rw [if_pos e]
    rw [hc]
    exact cut_all g v p ps n w h (by rcases hp with ⟨h1, h2, h3⟩ | ⟨h1, h2, h3⟩ | ⟨h1, h2, h3⟩ <;> exact ⟨by omega, by omega⟩) e (by omega)
  · obtain ⟨K, D, U⟩ := p
    have hl : lengthP ⟨K, D, U⟩ = K + D + U.length := rfl
    rw [hl] at e hn hb
    have he : ¬ lengthP ⟨K, D, U⟩ = n := e
    rcases hp with ⟨h1, h2, h3⟩ | ⟨h1, h2, h3⟩ | ⟨h1, h2, h3⟩
    · replace h1 : 0 < K := h1
      obtain rfl : D = 0 := h2
      obtain rfl : U = [] := h3
      simp only [List.length_nil, Int.add_zero, Int.natCast_zero] at e hn hb
      have hc : cutP ⟨K, 0, []⟩ n = (⟨n, 0, []⟩, [⟨K - n, 0, []⟩]) := by unfold cutP; rw [if_neg he, if_pos h1]
      rw [hc]
      exact cut_keep g v K ps n w h h0 (by omega) (by omega)
    · obtain rfl : K = 0 := h1
      replace h2 : 0 < D := h2
      obtain rfl : U = [] := h3
      simp only [List.length_nil, Int.add_zero, Int.zero_add, Int.natCast_zero] at e hn hb
      have hc : cutP ⟨0, D, []⟩ n = (⟨0, n, []⟩, [⟨0, D - n, []⟩]) := by unfold cutP; rw [if_neg he, if_neg (by show ¬ (0 : Int) < 0; omega), if_pos h2]
      rw [hc]
      exact cut_drop g v D ps n w h h0 (by omega) (by omega)
    · obtain rfl : K = 0 := h1
      obtain rfl : D = 0 := h2
      simp only [Int.zero_add] at e hn hb
      have hc : cutP ⟨0, 0, U⟩ n = (⟨0, 0, U.take n⟩, [⟨0, 0, U.drop n⟩]) := by unfold cutP; rw [if_neg he, if_neg (by show ¬ (0 : Int) < 0; omega), if_neg (by show ¬ (0 : Int) < 0; omega)]; rfl
      rw [hc]
      exact cut_put g v U ps n w h h0 (by omega) (by omega)

/-- What a gatherer's add is. -/
def addV (a : Nat) : Value := .func (.func 198) #[] #[.pointer (some ⟨a + 1, 0, none⟩), .pointer (some ⟨a + 2, 0, none⟩), .pointer (some ⟨a + 3, 0, none⟩), .pointer (some ⟨a, 0, none⟩)]
/-- One part that is taken, or none. -/
def tookP (M a : Nat) (s : NSt) (l : List Pt) (w : World) (e : Ending) (w' : World) : Prop := (∃ v, e = .returned v) ∧ gath M w' a (l.foldl addP s) ∧ BelowG M a w w'
theorem took_step {M a : Nat} {s : NSt} {p : Pt} {w wx w' : World} {v : Value} (hb : Below w.heap.size w wx) (ha : a ≤ w.heap.size) (hg : gath M w' a (addP s p)) (hb' : BelowG M a wx w') : tookP M a s [p] w (.returned v) w' :=
  ⟨⟨v, rfl⟩, hg, (BelowG.of hb ha).trans hb'⟩

set_option maxRecDepth 100000 in
set_option maxHeartbeats 2000000 in
theorem turn_len (M a β : Nat) (s : NSt) (K D K2 D2 : Int) (U U2 : List UInt8) (w : World) (HG : Hid (gath M w a s)) (hlt : a + 3 < w.heap.size) (HX : Hid (w.heap[β]? = some (.cells #[addV a] 285 (0, 0)))) (c1 : Hid (∀ wx, Calls Tryz.prog 179 #[.agg #[.int .i64 K2, .int .i64 D2, .string ⟨U2.toArray⟩]] wx fun e w' => e = .returned (.bool true) ∧ Below wx.heap.size wx w')) (cA : Hid (∀ wx, Below w.heap.size w wx → Calls Tryz.prog 198 #[.agg #[.int .i64 (U2.length : Int), .int .i64 0, .string ⟨#[]⟩], .pointer (some ⟨a + 1, 0, none⟩), .pointer (some ⟨a + 2, 0, none⟩), .pointer (some ⟨a + 3, 0, none⟩), .pointer (some ⟨a, 0, none⟩)] wx fun e w' => (∃ v, e = .returned v) ∧ gath M w' a (addP s ⟨(U2.length : Int), 0, []⟩) ∧ BelowG M a wx w')) :
    Calls Tryz.prog 182 #[.agg #[.int .i64 K, .int .i64 D, .string ⟨U.toArray⟩], .agg #[.int .i64 K2, .int .i64 D2, .string ⟨U2.toArray⟩], .pointer (some ⟨β, 0, none⟩)] w (tookP M a s [⟨(U2.length : Int), 0, []⟩] w) := by
  have hz : (ByteArray.mk U2.toArray).size = U2.length := by simp [ByteArray.size]
  go_enter Tryz.func182, Tryz.ntmps182
  go_wp2_with (first
    | (have _ := HB1; go_at_call 198; refine (cA.out _ HB1.out).mono ?_; rintro e w9 ⟨⟨v9, rfl⟩, hg9, hb9⟩)
    | (go_at_call 179; refine (c1.out _).mono ?_; rintro e w1 ⟨rfl, hb1⟩; obtain ⟨b1, b2, b3⟩ := two_boxes hb1; have HR1 : Hid (w1.heap[w.heap.size]? = some (.cells #[.int .i64 K, .int .i64 D, .string ⟨U.toArray⟩] 50 (0, 0))) := b1; have HP1 : Hid (w1.heap[w.heap.size + 1]? = some (.cells #[.int .i64 K2, .int .i64 D2, .string ⟨U2.toArray⟩] 50 (0, 0))) := b2; have HB1 : Hid (Below w.heap.size w w1) := b3; have o0 : w1.cell? ⟨w.heap.size, 0, none⟩ = some (.int .i64 K) := Lib.cell_of_heap HR1.out 0; have o1 : w1.cell? ⟨w.heap.size, 1, none⟩ = some (.int .i64 D) := Lib.cell_of_heap HR1.out 1; have o2 : w1.cell? ⟨w.heap.size, 2, none⟩ = some (.string ⟨U.toArray⟩) := Lib.cell_of_heap HR1.out 2; have p0 : w1.cell? ⟨w.heap.size + 1, 0, none⟩ = some (.int .i64 K2) := Lib.cell_of_heap HP1.out 0; have p1 : w1.cell? ⟨w.heap.size + 1, 1, none⟩ = some (.int .i64 D2) := Lib.cell_of_heap HP1.out 1; have p2 : w1.cell? ⟨w.heap.size + 1, 2, none⟩ = some (.string ⟨U2.toArray⟩) := Lib.cell_of_heap HP1.out 2; have yf : w1.cell? ⟨β, 0, none⟩ = some (addV a) := Lib.cell_of_heap ((HB1.out.block β (heap_lt HX.out)).trans HX.out) 0; unfold addV at yf; clear b1 b2 b3 hb1)
    | fail)
  go_end0
  exact took_step HB1.out (by omega) hg9 hb9
set_option maxRecDepth 100000 in
set_option maxHeartbeats 2000000 in
theorem turn_put (M a β : Nat) (s : NSt) (K D K2 D2 : Int) (U U2 : List UInt8) (w : World) (HG : Hid (gath M w a s)) (hlt : a + 3 < w.heap.size) (HX : Hid (w.heap[β]? = some (.cells #[addV a] 285 (0, 0)))) (c1 : Hid (∀ wx, Calls Tryz.prog 179 #[.agg #[.int .i64 K2, .int .i64 D2, .string ⟨U2.toArray⟩]] wx fun e w' => e = .returned (.bool false) ∧ Below wx.heap.size wx w')) (c2 : Hid (∀ wx, Calls Tryz.prog 179 #[.agg #[.int .i64 K, .int .i64 D, .string ⟨U.toArray⟩]] wx fun e w' => e = .returned (.bool true) ∧ Below wx.heap.size wx w')) (cA : Hid (∀ wx, Below w.heap.size w wx → Calls Tryz.prog 198 #[.agg #[.int .i64 K, .int .i64 D, .string ⟨U.toArray⟩], .pointer (some ⟨a + 1, 0, none⟩), .pointer (some ⟨a + 2, 0, none⟩), .pointer (some ⟨a + 3, 0, none⟩), .pointer (some ⟨a, 0, none⟩)] wx fun e w' => (∃ v, e = .returned v) ∧ gath M w' a (addP s ⟨K, D, U⟩) ∧ BelowG M a wx w')) :
    Calls Tryz.prog 182 #[.agg #[.int .i64 K, .int .i64 D, .string ⟨U.toArray⟩], .agg #[.int .i64 K2, .int .i64 D2, .string ⟨U2.toArray⟩], .pointer (some ⟨β, 0, none⟩)] w (tookP M a s [⟨K, D, U⟩] w) := by
  have hz : (ByteArray.mk U2.toArray).size = U2.length := by simp [ByteArray.size]
  go_enter Tryz.func182, Tryz.ntmps182
  go_wp2_with (first
    | (have _ := HB2; go_at_call 198; refine (cA.out _ HB2.out).mono ?_; rintro e w9 ⟨⟨v9, rfl⟩, hg9, hb9⟩)
    | (have _ := HB1; go_at_call 179; refine (c2.out _).mono ?_; rintro e w2 ⟨rfl, hb2⟩; have HR2 : Hid (w2.heap[w.heap.size]? = some (.cells #[.int .i64 K, .int .i64 D, .string ⟨U.toArray⟩] 50 (0, 0))) := (hb2.block _ (heap_lt HR1.out)).trans HR1.out; have HP2 : Hid (w2.heap[w.heap.size + 1]? = some (.cells #[.int .i64 K2, .int .i64 D2, .string ⟨U2.toArray⟩] 50 (0, 0))) := (hb2.block _ (heap_lt HP1.out)).trans HP1.out; have HB2 : Hid (Below w.heap.size w w2) := HB1.out.trans (hb2.mono HB1.out.size); have o0 : w2.cell? ⟨w.heap.size, 0, none⟩ = some (.int .i64 K) := Lib.cell_of_heap HR2.out 0; have o1 : w2.cell? ⟨w.heap.size, 1, none⟩ = some (.int .i64 D) := Lib.cell_of_heap HR2.out 1; have o2 : w2.cell? ⟨w.heap.size, 2, none⟩ = some (.string ⟨U.toArray⟩) := Lib.cell_of_heap HR2.out 2; have p0 : w2.cell? ⟨w.heap.size + 1, 0, none⟩ = some (.int .i64 K2) := Lib.cell_of_heap HP2.out 0; have p1 : w2.cell? ⟨w.heap.size + 1, 1, none⟩ = some (.int .i64 D2) := Lib.cell_of_heap HP2.out 1; have p2 : w2.cell? ⟨w.heap.size + 1, 2, none⟩ = some (.string ⟨U2.toArray⟩) := Lib.cell_of_heap HP2.out 2; have yf : w2.cell? ⟨β, 0, none⟩ = some (addV a) := Lib.cell_of_heap ((HB2.out.block β (heap_lt HX.out)).trans HX.out) 0; unfold addV at yf; clear hb2)
    | (go_at_call 179; refine (c1.out _).mono ?_; rintro e w1 ⟨rfl, hb1⟩; obtain ⟨b1, b2, b3⟩ := two_boxes hb1; have HR1 : Hid (w1.heap[w.heap.size]? = some (.cells #[.int .i64 K, .int .i64 D, .string ⟨U.toArray⟩] 50 (0, 0))) := b1; have HP1 : Hid (w1.heap[w.heap.size + 1]? = some (.cells #[.int .i64 K2, .int .i64 D2, .string ⟨U2.toArray⟩] 50 (0, 0))) := b2; have HB1 : Hid (Below w.heap.size w w1) := b3; have o0 : w1.cell? ⟨w.heap.size, 0, none⟩ = some (.int .i64 K) := Lib.cell_of_heap HR1.out 0; have o1 : w1.cell? ⟨w.heap.size, 1, none⟩ = some (.int .i64 D) := Lib.cell_of_heap HR1.out 1; have o2 : w1.cell? ⟨w.heap.size, 2, none⟩ = some (.string ⟨U.toArray⟩) := Lib.cell_of_heap HR1.out 2; have p0 : w1.cell? ⟨w.heap.size + 1, 0, none⟩ = some (.int .i64 K2) := Lib.cell_of_heap HP1.out 0; have p1 : w1.cell? ⟨w.heap.size + 1, 1, none⟩ = some (.int .i64 D2) := Lib.cell_of_heap HP1.out 1; have p2 : w1.cell? ⟨w.heap.size + 1, 2, none⟩ = some (.string ⟨U2.toArray⟩) := Lib.cell_of_heap HP1.out 2; clear b1 b2 b3 hb1)
    | fail)
  go_end0
  exact took_step HB2.out (by omega) hg9 hb9
set_option maxRecDepth 100000 in
set_option maxHeartbeats 2000000 in
theorem turn_unit1 (M a β : Nat) (s : NSt) (K D K2 D2 : Int) (U U2 : List UInt8) (w : World) (HG : Hid (gath M w a s)) (hlt : a + 3 < w.heap.size) (HX : Hid (w.heap[β]? = some (.cells #[addV a] 285 (0, 0)))) (c1 : Hid (∀ wx, Calls Tryz.prog 179 #[.agg #[.int .i64 K2, .int .i64 D2, .string ⟨U2.toArray⟩]] wx fun e w' => e = .returned (.bool false) ∧ Below wx.heap.size wx w')) (c2 : Hid (∀ wx, Calls Tryz.prog 179 #[.agg #[.int .i64 K, .int .i64 D, .string ⟨U.toArray⟩]] wx fun e w' => e = .returned (.bool false) ∧ Below wx.heap.size wx w')) (c3 : Hid (∀ wx, Calls Tryz.prog 83 #[.agg #[.int .i64 K2, .int .i64 D2, .string ⟨U2.toArray⟩]] wx fun e w' => e = .returned (.bool true) ∧ Below wx.heap.size wx w')) (cA : Hid (∀ wx, Below w.heap.size w wx → Calls Tryz.prog 198 #[.agg #[.int .i64 K, .int .i64 D, .string ⟨U.toArray⟩], .pointer (some ⟨a + 1, 0, none⟩), .pointer (some ⟨a + 2, 0, none⟩), .pointer (some ⟨a + 3, 0, none⟩), .pointer (some ⟨a, 0, none⟩)] wx fun e w' => (∃ v, e = .returned v) ∧ gath M w' a (addP s ⟨K, D, U⟩) ∧ BelowG M a wx w')) :
    Calls Tryz.prog 182 #[.agg #[.int .i64 K, .int .i64 D, .string ⟨U.toArray⟩], .agg #[.int .i64 K2, .int .i64 D2, .string ⟨U2.toArray⟩], .pointer (some ⟨β, 0, none⟩)] w (tookP M a s [⟨K, D, U⟩] w) := by
  have hz : (ByteArray.mk U2.toArray).size = U2.length := by simp [ByteArray.size]
  go_enter Tryz.func182, Tryz.ntmps182
  go_wp2_with (first
    | (have _ := HB3; go_at_call 198; refine (cA.out _ HB3.out).mono ?_; rintro e w9 ⟨⟨v9, rfl⟩, hg9, hb9⟩)
    | (have _ := HB2; go_at_call 83; refine (c3.out _).mono ?_; rintro e w3 ⟨rfl, hb3⟩; have HR3 : Hid (w3.heap[w.heap.size]? = some (.cells #[.int .i64 K, .int .i64 D, .string ⟨U.toArray⟩] 50 (0, 0))) := (hb3.block _ (heap_lt HR2.out)).trans HR2.out; have HP3 : Hid (w3.heap[w.heap.size + 1]? = some (.cells #[.int .i64 K2, .int .i64 D2, .string ⟨U2.toArray⟩] 50 (0, 0))) := (hb3.block _ (heap_lt HP2.out)).trans HP2.out; have HB3 : Hid (Below w.heap.size w w3) := HB2.out.trans (hb3.mono HB2.out.size); have o0 : w3.cell? ⟨w.heap.size, 0, none⟩ = some (.int .i64 K) := Lib.cell_of_heap HR3.out 0; have o1 : w3.cell? ⟨w.heap.size, 1, none⟩ = some (.int .i64 D) := Lib.cell_of_heap HR3.out 1; have o2 : w3.cell? ⟨w.heap.size, 2, none⟩ = some (.string ⟨U.toArray⟩) := Lib.cell_of_heap HR3.out 2; have p0 : w3.cell? ⟨w.heap.size + 1, 0, none⟩ = some (.int .i64 K2) := Lib.cell_of_heap HP3.out 0; have p1 : w3.cell? ⟨w.heap.size + 1, 1, none⟩ = some (.int .i64 D2) := Lib.cell_of_heap HP3.out 1; have p2 : w3.cell? ⟨w.heap.size + 1, 2, none⟩ = some (.string ⟨U2.toArray⟩) := Lib.cell_of_heap HP3.out 2; have yf : w3.cell? ⟨β, 0, none⟩ = some (addV a) := Lib.cell_of_heap ((HB3.out.block β (heap_lt HX.out)).trans HX.out) 0; unfold addV at yf; clear hb3)
    | (have _ := HB1; go_at_call 179; refine (c2.out _).mono ?_; rintro e w2 ⟨rfl, hb2⟩; have HR2 : Hid (w2.heap[w.heap.size]? = some (.cells #[.int .i64 K, .int .i64 D, .string ⟨U.toArray⟩] 50 (0, 0))) := (hb2.block _ (heap_lt HR1.out)).trans HR1.out; have HP2 : Hid (w2.heap[w.heap.size + 1]? = some (.cells #[.int .i64 K2, .int .i64 D2, .string ⟨U2.toArray⟩] 50 (0, 0))) := (hb2.block _ (heap_lt HP1.out)).trans HP1.out; have HB2 : Hid (Below w.heap.size w w2) := HB1.out.trans (hb2.mono HB1.out.size); have o0 : w2.cell? ⟨w.heap.size, 0, none⟩ = some (.int .i64 K) := Lib.cell_of_heap HR2.out 0; have o1 : w2.cell? ⟨w.heap.size, 1, none⟩ = some (.int .i64 D) := Lib.cell_of_heap HR2.out 1; have o2 : w2.cell? ⟨w.heap.size, 2, none⟩ = some (.string ⟨U.toArray⟩) := Lib.cell_of_heap HR2.out 2; have p0 : w2.cell? ⟨w.heap.size + 1, 0, none⟩ = some (.int .i64 K2) := Lib.cell_of_heap HP2.out 0; have p1 : w2.cell? ⟨w.heap.size + 1, 1, none⟩ = some (.int .i64 D2) := Lib.cell_of_heap HP2.out 1; have p2 : w2.cell? ⟨w.heap.size + 1, 2, none⟩ = some (.string ⟨U2.toArray⟩) := Lib.cell_of_heap HP2.out 2; clear hb2)
    | (go_at_call 179; refine (c1.out _).mono ?_; rintro e w1 ⟨rfl, hb1⟩; obtain ⟨b1, b2, b3⟩ := two_boxes hb1; have HR1 : Hid (w1.heap[w.heap.size]? = some (.cells #[.int .i64 K, .int .i64 D, .string ⟨U.toArray⟩] 50 (0, 0))) := b1; have HP1 : Hid (w1.heap[w.heap.size + 1]? = some (.cells #[.int .i64 K2, .int .i64 D2, .string ⟨U2.toArray⟩] 50 (0, 0))) := b2; have HB1 : Hid (Below w.heap.size w w1) := b3; have o0 : w1.cell? ⟨w.heap.size, 0, none⟩ = some (.int .i64 K) := Lib.cell_of_heap HR1.out 0; have o1 : w1.cell? ⟨w.heap.size, 1, none⟩ = some (.int .i64 D) := Lib.cell_of_heap HR1.out 1; have o2 : w1.cell? ⟨w.heap.size, 2, none⟩ = some (.string ⟨U.toArray⟩) := Lib.cell_of_heap HR1.out 2; have p0 : w1.cell? ⟨w.heap.size + 1, 0, none⟩ = some (.int .i64 K2) := Lib.cell_of_heap HP1.out 0; have p1 : w1.cell? ⟨w.heap.size + 1, 1, none⟩ = some (.int .i64 D2) := Lib.cell_of_heap HP1.out 1; have p2 : w1.cell? ⟨w.heap.size + 1, 2, none⟩ = some (.string ⟨U2.toArray⟩) := Lib.cell_of_heap HP1.out 2; clear b1 b2 b3 hb1)
    | fail)
  go_end0
  exact took_step HB3.out (by omega) hg9 hb9
set_option maxRecDepth 100000 in
set_option maxHeartbeats 2000000 in
theorem turn_none (M a β : Nat) (s : NSt) (K D K2 D2 : Int) (U U2 : List UInt8) (w : World) (HG : Hid (gath M w a s)) (hlt : a + 3 < w.heap.size) (HX : Hid (w.heap[β]? = some (.cells #[addV a] 285 (0, 0)))) (c1 : Hid (∀ wx, Calls Tryz.prog 179 #[.agg #[.int .i64 K2, .int .i64 D2, .string ⟨U2.toArray⟩]] wx fun e w' => e = .returned (.bool false) ∧ Below wx.heap.size wx w')) (c2 : Hid (∀ wx, Calls Tryz.prog 179 #[.agg #[.int .i64 K, .int .i64 D, .string ⟨U.toArray⟩]] wx fun e w' => e = .returned (.bool false) ∧ Below wx.heap.size wx w')) (c3 : Hid (∀ wx, Calls Tryz.prog 83 #[.agg #[.int .i64 K2, .int .i64 D2, .string ⟨U2.toArray⟩]] wx fun e w' => e = .returned (.bool false) ∧ Below wx.heap.size wx w')) :
    Calls Tryz.prog 182 #[.agg #[.int .i64 K, .int .i64 D, .string ⟨U.toArray⟩], .agg #[.int .i64 K2, .int .i64 D2, .string ⟨U2.toArray⟩], .pointer (some ⟨β, 0, none⟩)] w (tookP M a s [] w) := by
  have hz : (ByteArray.mk U2.toArray).size = U2.length := by simp [ByteArray.size]
  go_enter Tryz.func182, Tryz.ntmps182
  go_wp2_with (first
    | (have _ := HB2; go_at_call 83; refine (c3.out _).mono ?_; rintro e w3 ⟨rfl, hb3⟩; have HR3 : Hid (w3.heap[w.heap.size]? = some (.cells #[.int .i64 K, .int .i64 D, .string ⟨U.toArray⟩] 50 (0, 0))) := (hb3.block _ (heap_lt HR2.out)).trans HR2.out; have HP3 : Hid (w3.heap[w.heap.size + 1]? = some (.cells #[.int .i64 K2, .int .i64 D2, .string ⟨U2.toArray⟩] 50 (0, 0))) := (hb3.block _ (heap_lt HP2.out)).trans HP2.out; have HB3 : Hid (Below w.heap.size w w3) := HB2.out.trans (hb3.mono HB2.out.size); have o0 : w3.cell? ⟨w.heap.size, 0, none⟩ = some (.int .i64 K) := Lib.cell_of_heap HR3.out 0; have o1 : w3.cell? ⟨w.heap.size, 1, none⟩ = some (.int .i64 D) := Lib.cell_of_heap HR3.out 1; have o2 : w3.cell? ⟨w.heap.size, 2, none⟩ = some (.string ⟨U.toArray⟩) := Lib.cell_of_heap HR3.out 2; have p0 : w3.cell? ⟨w.heap.size + 1, 0, none⟩ = some (.int .i64 K2) := Lib.cell_of_heap HP3.out 0; have p1 : w3.cell? ⟨w.heap.size + 1, 1, none⟩ = some (.int .i64 D2) := Lib.cell_of_heap HP3.out 1; have p2 : w3.cell? ⟨w.heap.size + 1, 2, none⟩ = some (.string ⟨U2.toArray⟩) := Lib.cell_of_heap HP3.out 2; clear hb3)
    | (have _ := HB1; go_at_call 179; refine (c2.out _).mono ?_; rintro e w2 ⟨rfl, hb2⟩; have HR2 : Hid (w2.heap[w.heap.size]? = some (.cells #[.int .i64 K, .int .i64 D, .string ⟨U.toArray⟩] 50 (0, 0))) := (hb2.block _ (heap_lt HR1.out)).trans HR1.out; have HP2 : Hid (w2.heap[w.heap.size + 1]? = some (.cells #[.int .i64 K2, .int .i64 D2, .string ⟨U2.toArray⟩] 50 (0, 0))) := (hb2.block _ (heap_lt HP1.out)).trans HP1.out; have HB2 : Hid (Below w.heap.size w w2) := HB1.out.trans (hb2.mono HB1.out.size); have o0 : w2.cell? ⟨w.heap.size, 0, none⟩ = some (.int .i64 K) := Lib.cell_of_heap HR2.out 0; have o1 : w2.cell? ⟨w.heap.size, 1, none⟩ = some (.int .i64 D) := Lib.cell_of_heap HR2.out 1; have o2 : w2.cell? ⟨w.heap.size, 2, none⟩ = some (.string ⟨U.toArray⟩) := Lib.cell_of_heap HR2.out 2; have p0 : w2.cell? ⟨w.heap.size + 1, 0, none⟩ = some (.int .i64 K2) := Lib.cell_of_heap HP2.out 0; have p1 : w2.cell? ⟨w.heap.size + 1, 1, none⟩ = some (.int .i64 D2) := Lib.cell_of_heap HP2.out 1; have p2 : w2.cell? ⟨w.heap.size + 1, 2, none⟩ = some (.string ⟨U2.toArray⟩) := Lib.cell_of_heap HP2.out 2; clear hb2)
    | (go_at_call 179; refine (c1.out _).mono ?_; rintro e w1 ⟨rfl, hb1⟩; obtain ⟨b1, b2, b3⟩ := two_boxes hb1; have HR1 : Hid (w1.heap[w.heap.size]? = some (.cells #[.int .i64 K, .int .i64 D, .string ⟨U.toArray⟩] 50 (0, 0))) := b1; have HP1 : Hid (w1.heap[w.heap.size + 1]? = some (.cells #[.int .i64 K2, .int .i64 D2, .string ⟨U2.toArray⟩] 50 (0, 0))) := b2; have HB1 : Hid (Below w.heap.size w w1) := b3; have o0 : w1.cell? ⟨w.heap.size, 0, none⟩ = some (.int .i64 K) := Lib.cell_of_heap HR1.out 0; have o1 : w1.cell? ⟨w.heap.size, 1, none⟩ = some (.int .i64 D) := Lib.cell_of_heap HR1.out 1; have o2 : w1.cell? ⟨w.heap.size, 2, none⟩ = some (.string ⟨U.toArray⟩) := Lib.cell_of_heap HR1.out 2; have p0 : w1.cell? ⟨w.heap.size + 1, 0, none⟩ = some (.int .i64 K2) := Lib.cell_of_heap HP1.out 0; have p1 : w1.cell? ⟨w.heap.size + 1, 1, none⟩ = some (.int .i64 D2) := Lib.cell_of_heap HP1.out 1; have p2 : w1.cell? ⟨w.heap.size + 1, 2, none⟩ = some (.string ⟨U2.toArray⟩) := Lib.cell_of_heap HP1.out 2; clear b1 b2 b3 hb1)
    | fail)
  go_end0
  exact ⟨⟨_, rfl⟩, gath_below HG.out HB3.out, BelowG.of HB3.out (by omega)⟩
set_option maxRecDepth 100000 in
set_option maxHeartbeats 2000000 in
theorem comp_drop (M a β : Nat) (s : NSt) (K D K2 D2 : Int) (U U2 : List UInt8) (w : World) (HG : Hid (gath M w a s)) (hlt : a + 3 < w.heap.size) (HX : Hid (w.heap[β]? = some (.cells #[addV a] 285 (0, 0)))) (c1 : Hid (∀ wx, Calls Tryz.prog 165 #[.agg #[.int .i64 K, .int .i64 D, .string ⟨U.toArray⟩]] wx fun e w' => e = .returned (.bool true) ∧ Below wx.heap.size wx w')) (cA : Hid (∀ wx, Below w.heap.size w wx → Calls Tryz.prog 198 #[.agg #[.int .i64 K, .int .i64 D, .string ⟨U.toArray⟩], .pointer (some ⟨a + 1, 0, none⟩), .pointer (some ⟨a + 2, 0, none⟩), .pointer (some ⟨a + 3, 0, none⟩), .pointer (some ⟨a, 0, none⟩)] wx fun e w' => (∃ v, e = .returned v) ∧ gath M w' a (addP s ⟨K, D, U⟩) ∧ BelowG M a wx w')) :
    Calls Tryz.prog 180 #[.agg #[.int .i64 K, .int .i64 D, .string ⟨U.toArray⟩], .agg #[.int .i64 K2, .int .i64 D2, .string ⟨U2.toArray⟩], .pointer (some ⟨β, 0, none⟩)] w (tookP M a s [⟨K, D, U⟩] w) := by
  have hz : (ByteArray.mk U2.toArray).size = U2.length := by simp [ByteArray.size]
  go_enter Tryz.func180, Tryz.ntmps180
  go_wp2_with (first
    | (have _ := HB1; go_at_call 198; refine (cA.out _ HB1.out).mono ?_; rintro e w9 ⟨⟨v9, rfl⟩, hg9, hb9⟩)
    | (go_at_call 165; refine (c1.out _).mono ?_; rintro e w1 ⟨rfl, hb1⟩; obtain ⟨b1, b2, b3⟩ := two_boxes hb1; have HR1 : Hid (w1.heap[w.heap.size]? = some (.cells #[.int .i64 K, .int .i64 D, .string ⟨U.toArray⟩] 50 (0, 0))) := b1; have HP1 : Hid (w1.heap[w.heap.size + 1]? = some (.cells #[.int .i64 K2, .int .i64 D2, .string ⟨U2.toArray⟩] 50 (0, 0))) := b2; have HB1 : Hid (Below w.heap.size w w1) := b3; have o0 : w1.cell? ⟨w.heap.size, 0, none⟩ = some (.int .i64 K) := Lib.cell_of_heap HR1.out 0; have o1 : w1.cell? ⟨w.heap.size, 1, none⟩ = some (.int .i64 D) := Lib.cell_of_heap HR1.out 1; have o2 : w1.cell? ⟨w.heap.size, 2, none⟩ = some (.string ⟨U.toArray⟩) := Lib.cell_of_heap HR1.out 2; have p0 : w1.cell? ⟨w.heap.size + 1, 0, none⟩ = some (.int .i64 K2) := Lib.cell_of_heap HP1.out 0; have p1 : w1.cell? ⟨w.heap.size + 1, 1, none⟩ = some (.int .i64 D2) := Lib.cell_of_heap HP1.out 1; have p2 : w1.cell? ⟨w.heap.size + 1, 2, none⟩ = some (.string ⟨U2.toArray⟩) := Lib.cell_of_heap HP1.out 2; have yf : w1.cell? ⟨β, 0, none⟩ = some (addV a) := Lib.cell_of_heap ((HB1.out.block β (heap_lt HX.out)).trans HX.out) 0; unfold addV at yf; clear b1 b2 b3 hb1)
    | fail)
  go_end0
  exact took_step HB1.out (by omega) hg9 hb9
set_option maxRecDepth 100000 in
set_option maxHeartbeats 2000000 in
theorem comp_keep (M a β : Nat) (s : NSt) (K D K2 D2 : Int) (U U2 : List UInt8) (w : World) (HG : Hid (gath M w a s)) (hlt : a + 3 < w.heap.size) (HX : Hid (w.heap[β]? = some (.cells #[addV a] 285 (0, 0)))) (c1 : Hid (∀ wx, Calls Tryz.prog 165 #[.agg #[.int .i64 K, .int .i64 D, .string ⟨U.toArray⟩]] wx fun e w' => e = .returned (.bool false) ∧ Below wx.heap.size wx w')) (c2 : Hid (∀ wx, Calls Tryz.prog 83 #[.agg #[.int .i64 K2, .int .i64 D2, .string ⟨U2.toArray⟩]] wx fun e w' => e = .returned (.bool true) ∧ Below wx.heap.size wx w')) (cA : Hid (∀ wx, Below w.heap.size w wx → Calls Tryz.prog 198 #[.agg #[.int .i64 K, .int .i64 D, .string ⟨U.toArray⟩], .pointer (some ⟨a + 1, 0, none⟩), .pointer (some ⟨a + 2, 0, none⟩), .pointer (some ⟨a + 3, 0, none⟩), .pointer (some ⟨a, 0, none⟩)] wx fun e w' => (∃ v, e = .returned v) ∧ gath M w' a (addP s ⟨K, D, U⟩) ∧ BelowG M a wx w')) :
    Calls Tryz.prog 180 #[.agg #[.int .i64 K, .int .i64 D, .string ⟨U.toArray⟩], .agg #[.int .i64 K2, .int .i64 D2, .string ⟨U2.toArray⟩], .pointer (some ⟨β, 0, none⟩)] w (tookP M a s [⟨K, D, U⟩] w) := by
  have hz : (ByteArray.mk U2.toArray).size = U2.length := by simp [ByteArray.size]
  go_enter Tryz.func180, Tryz.ntmps180
  go_wp2_with (first
    | (have _ := HB2; go_at_call 198; refine (cA.out _ HB2.out).mono ?_; rintro e w9 ⟨⟨v9, rfl⟩, hg9, hb9⟩)
    | (have _ := HB1; go_at_call 83; refine (c2.out _).mono ?_; rintro e w2 ⟨rfl, hb2⟩; have HR2 : Hid (w2.heap[w.heap.size]? = some (.cells #[.int .i64 K, .int .i64 D, .string ⟨U.toArray⟩] 50 (0, 0))) := (hb2.block _ (heap_lt HR1.out)).trans HR1.out; have HP2 : Hid (w2.heap[w.heap.size + 1]? = some (.cells #[.int .i64 K2, .int .i64 D2, .string ⟨U2.toArray⟩] 50 (0, 0))) := (hb2.block _ (heap_lt HP1.out)).trans HP1.out; have HB2 : Hid (Below w.heap.size w w2) := HB1.out.trans (hb2.mono HB1.out.size); have o0 : w2.cell? ⟨w.heap.size, 0, none⟩ = some (.int .i64 K) := Lib.cell_of_heap HR2.out 0; have o1 : w2.cell? ⟨w.heap.size, 1, none⟩ = some (.int .i64 D) := Lib.cell_of_heap HR2.out 1; have o2 : w2.cell? ⟨w.heap.size, 2, none⟩ = some (.string ⟨U.toArray⟩) := Lib.cell_of_heap HR2.out 2; have p0 : w2.cell? ⟨w.heap.size + 1, 0, none⟩ = some (.int .i64 K2) := Lib.cell_of_heap HP2.out 0; have p1 : w2.cell? ⟨w.heap.size + 1, 1, none⟩ = some (.int .i64 D2) := Lib.cell_of_heap HP2.out 1; have p2 : w2.cell? ⟨w.heap.size + 1, 2, none⟩ = some (.string ⟨U2.toArray⟩) := Lib.cell_of_heap HP2.out 2; have yf : w2.cell? ⟨β, 0, none⟩ = some (addV a) := Lib.cell_of_heap ((HB2.out.block β (heap_lt HX.out)).trans HX.out) 0; unfold addV at yf; clear hb2)
    | (go_at_call 165; refine (c1.out _).mono ?_; rintro e w1 ⟨rfl, hb1⟩; obtain ⟨b1, b2, b3⟩ := two_boxes hb1; have HR1 : Hid (w1.heap[w.heap.size]? = some (.cells #[.int .i64 K, .int .i64 D, .string ⟨U.toArray⟩] 50 (0, 0))) := b1; have HP1 : Hid (w1.heap[w.heap.size + 1]? = some (.cells #[.int .i64 K2, .int .i64 D2, .string ⟨U2.toArray⟩] 50 (0, 0))) := b2; have HB1 : Hid (Below w.heap.size w w1) := b3; have o0 : w1.cell? ⟨w.heap.size, 0, none⟩ = some (.int .i64 K) := Lib.cell_of_heap HR1.out 0; have o1 : w1.cell? ⟨w.heap.size, 1, none⟩ = some (.int .i64 D) := Lib.cell_of_heap HR1.out 1; have o2 : w1.cell? ⟨w.heap.size, 2, none⟩ = some (.string ⟨U.toArray⟩) := Lib.cell_of_heap HR1.out 2; have p0 : w1.cell? ⟨w.heap.size + 1, 0, none⟩ = some (.int .i64 K2) := Lib.cell_of_heap HP1.out 0; have p1 : w1.cell? ⟨w.heap.size + 1, 1, none⟩ = some (.int .i64 D2) := Lib.cell_of_heap HP1.out 1; have p2 : w1.cell? ⟨w.heap.size + 1, 2, none⟩ = some (.string ⟨U2.toArray⟩) := Lib.cell_of_heap HP1.out 2; clear b1 b2 b3 hb1)
    | fail)
  go_end0
  exact took_step HB2.out (by omega) hg9 hb9
set_option maxRecDepth 100000 in
set_option maxHeartbeats 2000000 in
theorem comp_put (M a β : Nat) (s : NSt) (K D K2 D2 : Int) (U U2 : List UInt8) (w : World) (HG : Hid (gath M w a s)) (hlt : a + 3 < w.heap.size) (HX : Hid (w.heap[β]? = some (.cells #[addV a] 285 (0, 0)))) (c1 : Hid (∀ wx, Calls Tryz.prog 165 #[.agg #[.int .i64 K, .int .i64 D, .string ⟨U.toArray⟩]] wx fun e w' => e = .returned (.bool false) ∧ Below wx.heap.size wx w')) (c2 : Hid (∀ wx, Calls Tryz.prog 83 #[.agg #[.int .i64 K2, .int .i64 D2, .string ⟨U2.toArray⟩]] wx fun e w' => e = .returned (.bool false) ∧ Below wx.heap.size wx w')) (c3 : Hid (∀ wx, Calls Tryz.prog 179 #[.agg #[.int .i64 K2, .int .i64 D2, .string ⟨U2.toArray⟩]] wx fun e w' => e = .returned (.bool true) ∧ Below wx.heap.size wx w')) (cA : Hid (∀ wx, Below w.heap.size w wx → Calls Tryz.prog 198 #[.agg #[.int .i64 K2, .int .i64 D2, .string ⟨U2.toArray⟩], .pointer (some ⟨a + 1, 0, none⟩), .pointer (some ⟨a + 2, 0, none⟩), .pointer (some ⟨a + 3, 0, none⟩), .pointer (some ⟨a, 0, none⟩)] wx fun e w' => (∃ v, e = .returned v) ∧ gath M w' a (addP s ⟨K2, D2, U2⟩) ∧ BelowG M a wx w')) :
    Calls Tryz.prog 180 #[.agg #[.int .i64 K, .int .i64 D, .string ⟨U.toArray⟩], .agg #[.int .i64 K2, .int .i64 D2, .string ⟨U2.toArray⟩], .pointer (some ⟨β, 0, none⟩)] w (tookP M a s [⟨K2, D2, U2⟩] w) := by
  have hz : (ByteArray.mk U2.toArray).size = U2.length := by simp [ByteArray.size]
  go_enter Tryz.func180, Tryz.ntmps180
  go_wp2_with (first
    | (have _ := HB3; go_at_call 198; refine (cA.out _ HB3.out).mono ?_; rintro e w9 ⟨⟨v9, rfl⟩, hg9, hb9⟩)
    | (have _ := HB2; go_at_call 179; refine (c3.out _).mono ?_; rintro e w3 ⟨rfl, hb3⟩; have HR3 : Hid (w3.heap[w.heap.size]? = some (.cells #[.int .i64 K, .int .i64 D, .string ⟨U.toArray⟩] 50 (0, 0))) := (hb3.block _ (heap_lt HR2.out)).trans HR2.out; have HP3 : Hid (w3.heap[w.heap.size + 1]? = some (.cells #[.int .i64 K2, .int .i64 D2, .string ⟨U2.toArray⟩] 50 (0, 0))) := (hb3.block _ (heap_lt HP2.out)).trans HP2.out; have HB3 : Hid (Below w.heap.size w w3) := HB2.out.trans (hb3.mono HB2.out.size); have o0 : w3.cell? ⟨w.heap.size, 0, none⟩ = some (.int .i64 K) := Lib.cell_of_heap HR3.out 0; have o1 : w3.cell? ⟨w.heap.size, 1, none⟩ = some (.int .i64 D) := Lib.cell_of_heap HR3.out 1; have o2 : w3.cell? ⟨w.heap.size, 2, none⟩ = some (.string ⟨U.toArray⟩) := Lib.cell_of_heap HR3.out 2; have p0 : w3.cell? ⟨w.heap.size + 1, 0, none⟩ = some (.int .i64 K2) := Lib.cell_of_heap HP3.out 0; have p1 : w3.cell? ⟨w.heap.size + 1, 1, none⟩ = some (.int .i64 D2) := Lib.cell_of_heap HP3.out 1; have p2 : w3.cell? ⟨w.heap.size + 1, 2, none⟩ = some (.string ⟨U2.toArray⟩) := Lib.cell_of_heap HP3.out 2; have yf : w3.cell? ⟨β, 0, none⟩ = some (addV a) := Lib.cell_of_heap ((HB3.out.block β (heap_lt HX.out)).trans HX.out) 0; unfold addV at yf; clear hb3)
    | (have _ := HB1; go_at_call 83; refine (c2.out _).mono ?_; rintro e w2 ⟨rfl, hb2⟩; have HR2 : Hid (w2.heap[w.heap.size]? = some (.cells #[.int .i64 K, .int .i64 D, .string ⟨U.toArray⟩] 50 (0, 0))) := (hb2.block _ (heap_lt HR1.out)).trans HR1.out; have HP2 : Hid (w2.heap[w.heap.size + 1]? = some (.cells #[.int .i64 K2, .int .i64 D2, .string ⟨U2.toArray⟩] 50 (0, 0))) := (hb2.block _ (heap_lt HP1.out)).trans HP1.out; have HB2 : Hid (Below w.heap.size w w2) := HB1.out.trans (hb2.mono HB1.out.size); have o0 : w2.cell? ⟨w.heap.size, 0, none⟩ = some (.int .i64 K) := Lib.cell_of_heap HR2.out 0; have o1 : w2.cell? ⟨w.heap.size, 1, none⟩ = some (.int .i64 D) := Lib.cell_of_heap HR2.out 1; have o2 : w2.cell? ⟨w.heap.size, 2, none⟩ = some (.string ⟨U.toArray⟩) := Lib.cell_of_heap HR2.out 2; have p0 : w2.cell? ⟨w.heap.size + 1, 0, none⟩ = some (.int .i64 K2) := Lib.cell_of_heap HP2.out 0; have p1 : w2.cell? ⟨w.heap.size + 1, 1, none⟩ = some (.int .i64 D2) := Lib.cell_of_heap HP2.out 1; have p2 : w2.cell? ⟨w.heap.size + 1, 2, none⟩ = some (.string ⟨U2.toArray⟩) := Lib.cell_of_heap HP2.out 2; clear hb2)
    | (go_at_call 165; refine (c1.out _).mono ?_; rintro e w1 ⟨rfl, hb1⟩; obtain ⟨b1, b2, b3⟩ := two_boxes hb1; have HR1 : Hid (w1.heap[w.heap.size]? = some (.cells #[.int .i64 K, .int .i64 D, .string ⟨U.toArray⟩] 50 (0, 0))) := b1; have HP1 : Hid (w1.heap[w.heap.size + 1]? = some (.cells #[.int .i64 K2, .int .i64 D2, .string ⟨U2.toArray⟩] 50 (0, 0))) := b2; have HB1 : Hid (Below w.heap.size w w1) := b3; have o0 : w1.cell? ⟨w.heap.size, 0, none⟩ = some (.int .i64 K) := Lib.cell_of_heap HR1.out 0; have o1 : w1.cell? ⟨w.heap.size, 1, none⟩ = some (.int .i64 D) := Lib.cell_of_heap HR1.out 1; have o2 : w1.cell? ⟨w.heap.size, 2, none⟩ = some (.string ⟨U.toArray⟩) := Lib.cell_of_heap HR1.out 2; have p0 : w1.cell? ⟨w.heap.size + 1, 0, none⟩ = some (.int .i64 K2) := Lib.cell_of_heap HP1.out 0; have p1 : w1.cell? ⟨w.heap.size + 1, 1, none⟩ = some (.int .i64 D2) := Lib.cell_of_heap HP1.out 1; have p2 : w1.cell? ⟨w.heap.size + 1, 2, none⟩ = some (.string ⟨U2.toArray⟩) := Lib.cell_of_heap HP1.out 2; clear b1 b2 b3 hb1)
    | fail)
  go_end0
  exact took_step HB3.out (by omega) hg9 hb9
set_option maxRecDepth 100000 in
set_option maxHeartbeats 2000000 in
theorem comp_two (M a β : Nat) (s : NSt) (K D K2 D2 : Int) (U U2 : List UInt8) (w : World) (HG : Hid (gath M w a s)) (hlt : a + 3 < w.heap.size) (HX : Hid (w.heap[β]? = some (.cells #[addV a] 285 (0, 0)))) (c1 : Hid (∀ wx, Calls Tryz.prog 165 #[.agg #[.int .i64 K, .int .i64 D, .string ⟨U.toArray⟩]] wx fun e w' => e = .returned (.bool false) ∧ Below wx.heap.size wx w')) (c2 : Hid (∀ wx, Calls Tryz.prog 83 #[.agg #[.int .i64 K2, .int .i64 D2, .string ⟨U2.toArray⟩]] wx fun e w' => e = .returned (.bool false) ∧ Below wx.heap.size wx w')) (c3 : Hid (∀ wx, Calls Tryz.prog 179 #[.agg #[.int .i64 K2, .int .i64 D2, .string ⟨U2.toArray⟩]] wx fun e w' => e = .returned (.bool false) ∧ Below wx.heap.size wx w')) (c4 : Hid (∀ wx, Calls Tryz.prog 83 #[.agg #[.int .i64 K, .int .i64 D, .string ⟨U.toArray⟩]] wx fun e w' => e = .returned (.bool true) ∧ Below wx.heap.size wx w')) (cA : Hid (∀ wx, Below w.heap.size w wx → Calls Tryz.prog 198 #[.agg #[.int .i64 K2, .int .i64 D2, .string ⟨U2.toArray⟩], .pointer (some ⟨a + 1, 0, none⟩), .pointer (some ⟨a + 2, 0, none⟩), .pointer (some ⟨a + 3, 0, none⟩), .pointer (some ⟨a, 0, none⟩)] wx fun e w' => (∃ v, e = .returned v) ∧ gath M w' a (addP s ⟨K2, D2, U2⟩) ∧ BelowG M a wx w')) :
    Calls Tryz.prog 180 #[.agg #[.int .i64 K, .int .i64 D, .string ⟨U.toArray⟩], .agg #[.int .i64 K2, .int .i64 D2, .string ⟨U2.toArray⟩], .pointer (some ⟨β, 0, none⟩)] w (tookP M a s [⟨K2, D2, U2⟩] w) := by
  have hz : (ByteArray.mk U2.toArray).size = U2.length := by simp [ByteArray.size]
  go_enter Tryz.func180, Tryz.ntmps180
  go_wp2_with (first
    | (have _ := HB4; go_at_call 198; refine (cA.out _ HB4.out).mono ?_; rintro e w9 ⟨⟨v9, rfl⟩, hg9, hb9⟩)
    | (have _ := HB3; go_at_call 83; refine (c4.out _).mono ?_; rintro e w4 ⟨rfl, hb4⟩; have HR4 : Hid (w4.heap[w.heap.size]? = some (.cells #[.int .i64 K, .int .i64 D, .string ⟨U.toArray⟩] 50 (0, 0))) := (hb4.block _ (heap_lt HR3.out)).trans HR3.out; have HP4 : Hid (w4.heap[w.heap.size + 1]? = some (.cells #[.int .i64 K2, .int .i64 D2, .string ⟨U2.toArray⟩] 50 (0, 0))) := (hb4.block _ (heap_lt HP3.out)).trans HP3.out; have HB4 : Hid (Below w.heap.size w w4) := HB3.out.trans (hb4.mono HB3.out.size); have o0 : w4.cell? ⟨w.heap.size, 0, none⟩ = some (.int .i64 K) := Lib.cell_of_heap HR4.out 0; have o1 : w4.cell? ⟨w.heap.size, 1, none⟩ = some (.int .i64 D) := Lib.cell_of_heap HR4.out 1; have o2 : w4.cell? ⟨w.heap.size, 2, none⟩ = some (.string ⟨U.toArray⟩) := Lib.cell_of_heap HR4.out 2; have p0 : w4.cell? ⟨w.heap.size + 1, 0, none⟩ = some (.int .i64 K2) := Lib.cell_of_heap HP4.out 0; have p1 : w4.cell? ⟨w.heap.size + 1, 1, none⟩ = some (.int .i64 D2) := Lib.cell_of_heap HP4.out 1; have p2 : w4.cell? ⟨w.heap.size + 1, 2, none⟩ = some (.string ⟨U2.toArray⟩) := Lib.cell_of_heap HP4.out 2; have yf : w4.cell? ⟨β, 0, none⟩ = some (addV a) := Lib.cell_of_heap ((HB4.out.block β (heap_lt HX.out)).trans HX.out) 0; unfold addV at yf; clear hb4)
    | (have _ := HB2; go_at_call 179; refine (c3.out _).mono ?_; rintro e w3 ⟨rfl, hb3⟩; have HR3 : Hid (w3.heap[w.heap.size]? = some (.cells #[.int .i64 K, .int .i64 D, .string ⟨U.toArray⟩] 50 (0, 0))) := (hb3.block _ (heap_lt HR2.out)).trans HR2.out; have HP3 : Hid (w3.heap[w.heap.size + 1]? = some (.cells #[.int .i64 K2, .int .i64 D2, .string ⟨U2.toArray⟩] 50 (0, 0))) := (hb3.block _ (heap_lt HP2.out)).trans HP2.out; have HB3 : Hid (Below w.heap.size w w3) := HB2.out.trans (hb3.mono HB2.out.size); have o0 : w3.cell? ⟨w.heap.size, 0, none⟩ = some (.int .i64 K) := Lib.cell_of_heap HR3.out 0; have o1 : w3.cell? ⟨w.heap.size, 1, none⟩ = some (.int .i64 D) := Lib.cell_of_heap HR3.out 1; have o2 : w3.cell? ⟨w.heap.size, 2, none⟩ = some (.string ⟨U.toArray⟩) := Lib.cell_of_heap HR3.out 2; have p0 : w3.cell? ⟨w.heap.size + 1, 0, none⟩ = some (.int .i64 K2) := Lib.cell_of_heap HP3.out 0; have p1 : w3.cell? ⟨w.heap.size + 1, 1, none⟩ = some (.int .i64 D2) := Lib.cell_of_heap HP3.out 1; have p2 : w3.cell? ⟨w.heap.size + 1, 2, none⟩ = some (.string ⟨U2.toArray⟩) := Lib.cell_of_heap HP3.out 2; clear hb3)
    | (have _ := HB1; go_at_call 83; refine (c2.out _).mono ?_; rintro e w2 ⟨rfl, hb2⟩; have HR2 : Hid (w2.heap[w.heap.size]? = some (.cells #[.int .i64 K, .int .i64 D, .string ⟨U.toArray⟩] 50 (0, 0))) := (hb2.block _ (heap_lt HR1.out)).trans HR1.out; have HP2 : Hid (w2.heap[w.heap.size + 1]? = some (.cells #[.int .i64 K2, .int .i64 D2, .string ⟨U2.toArray⟩] 50 (0, 0))) := (hb2.block _ (heap_lt HP1.out)).trans HP1.out; have HB2 : Hid (Below w.heap.size w w2) := HB1.out.trans (hb2.mono HB1.out.size); have o0 : w2.cell? ⟨w.heap.size, 0, none⟩ = some (.int .i64 K) := Lib.cell_of_heap HR2.out 0; have o1 : w2.cell? ⟨w.heap.size, 1, none⟩ = some (.int .i64 D) := Lib.cell_of_heap HR2.out 1; have o2 : w2.cell? ⟨w.heap.size, 2, none⟩ = some (.string ⟨U.toArray⟩) := Lib.cell_of_heap HR2.out 2; have p0 : w2.cell? ⟨w.heap.size + 1, 0, none⟩ = some (.int .i64 K2) := Lib.cell_of_heap HP2.out 0; have p1 : w2.cell? ⟨w.heap.size + 1, 1, none⟩ = some (.int .i64 D2) := Lib.cell_of_heap HP2.out 1; have p2 : w2.cell? ⟨w.heap.size + 1, 2, none⟩ = some (.string ⟨U2.toArray⟩) := Lib.cell_of_heap HP2.out 2; clear hb2)
    | (go_at_call 165; refine (c1.out _).mono ?_; rintro e w1 ⟨rfl, hb1⟩; obtain ⟨b1, b2, b3⟩ := two_boxes hb1; have HR1 : Hid (w1.heap[w.heap.size]? = some (.cells #[.int .i64 K, .int .i64 D, .string ⟨U.toArray⟩] 50 (0, 0))) := b1; have HP1 : Hid (w1.heap[w.heap.size + 1]? = some (.cells #[.int .i64 K2, .int .i64 D2, .string ⟨U2.toArray⟩] 50 (0, 0))) := b2; have HB1 : Hid (Below w.heap.size w w1) := b3; have o0 : w1.cell? ⟨w.heap.size, 0, none⟩ = some (.int .i64 K) := Lib.cell_of_heap HR1.out 0; have o1 : w1.cell? ⟨w.heap.size, 1, none⟩ = some (.int .i64 D) := Lib.cell_of_heap HR1.out 1; have o2 : w1.cell? ⟨w.heap.size, 2, none⟩ = some (.string ⟨U.toArray⟩) := Lib.cell_of_heap HR1.out 2; have p0 : w1.cell? ⟨w.heap.size + 1, 0, none⟩ = some (.int .i64 K2) := Lib.cell_of_heap HP1.out 0; have p1 : w1.cell? ⟨w.heap.size + 1, 1, none⟩ = some (.int .i64 D2) := Lib.cell_of_heap HP1.out 1; have p2 : w1.cell? ⟨w.heap.size + 1, 2, none⟩ = some (.string ⟨U2.toArray⟩) := Lib.cell_of_heap HP1.out 2; clear b1 b2 b3 hb1)
    | fail)
  go_end0
  exact took_step HB4.out (by omega) hg9 hb9
set_option maxRecDepth 100000 in
set_option maxHeartbeats 2000000 in
theorem comp_none (M a β : Nat) (s : NSt) (K D K2 D2 : Int) (U U2 : List UInt8) (w : World) (HG : Hid (gath M w a s)) (hlt : a + 3 < w.heap.size) (HX : Hid (w.heap[β]? = some (.cells #[addV a] 285 (0, 0)))) (c1 : Hid (∀ wx, Calls Tryz.prog 165 #[.agg #[.int .i64 K, .int .i64 D, .string ⟨U.toArray⟩]] wx fun e w' => e = .returned (.bool false) ∧ Below wx.heap.size wx w')) (c2 : Hid (∀ wx, Calls Tryz.prog 83 #[.agg #[.int .i64 K2, .int .i64 D2, .string ⟨U2.toArray⟩]] wx fun e w' => e = .returned (.bool false) ∧ Below wx.heap.size wx w')) (c3 : Hid (∀ wx, Calls Tryz.prog 179 #[.agg #[.int .i64 K2, .int .i64 D2, .string ⟨U2.toArray⟩]] wx fun e w' => e = .returned (.bool false) ∧ Below wx.heap.size wx w')) (c4 : Hid (∀ wx, Calls Tryz.prog 83 #[.agg #[.int .i64 K, .int .i64 D, .string ⟨U.toArray⟩]] wx fun e w' => e = .returned (.bool false) ∧ Below wx.heap.size wx w')) :
    Calls Tryz.prog 180 #[.agg #[.int .i64 K, .int .i64 D, .string ⟨U.toArray⟩], .agg #[.int .i64 K2, .int .i64 D2, .string ⟨U2.toArray⟩], .pointer (some ⟨β, 0, none⟩)] w (tookP M a s [] w) := by
  have hz : (ByteArray.mk U2.toArray).size = U2.length := by simp [ByteArray.size]
  go_enter Tryz.func180, Tryz.ntmps180
  go_wp2_with (first
    | (have _ := HB3; go_at_call 83; refine (c4.out _).mono ?_; rintro e w4 ⟨rfl, hb4⟩; have HR4 : Hid (w4.heap[w.heap.size]? = some (.cells #[.int .i64 K, .int .i64 D, .string ⟨U.toArray⟩] 50 (0, 0))) := (hb4.block _ (heap_lt HR3.out)).trans HR3.out; have HP4 : Hid (w4.heap[w.heap.size + 1]? = some (.cells #[.int .i64 K2, .int .i64 D2, .string ⟨U2.toArray⟩] 50 (0, 0))) := (hb4.block _ (heap_lt HP3.out)).trans HP3.out; have HB4 : Hid (Below w.heap.size w w4) := HB3.out.trans (hb4.mono HB3.out.size); have o0 : w4.cell? ⟨w.heap.size, 0, none⟩ = some (.int .i64 K) := Lib.cell_of_heap HR4.out 0; have o1 : w4.cell? ⟨w.heap.size, 1, none⟩ = some (.int .i64 D) := Lib.cell_of_heap HR4.out 1; have o2 : w4.cell? ⟨w.heap.size, 2, none⟩ = some (.string ⟨U.toArray⟩) := Lib.cell_of_heap HR4.out 2; have p0 : w4.cell? ⟨w.heap.size + 1, 0, none⟩ = some (.int .i64 K2) := Lib.cell_of_heap HP4.out 0; have p1 : w4.cell? ⟨w.heap.size + 1, 1, none⟩ = some (.int .i64 D2) := Lib.cell_of_heap HP4.out 1; have p2 : w4.cell? ⟨w.heap.size + 1, 2, none⟩ = some (.string ⟨U2.toArray⟩) := Lib.cell_of_heap HP4.out 2; clear hb4)
    | (have _ := HB2; go_at_call 179; refine (c3.out _).mono ?_; rintro e w3 ⟨rfl, hb3⟩; have HR3 : Hid (w3.heap[w.heap.size]? = some (.cells #[.int .i64 K, .int .i64 D, .string ⟨U.toArray⟩] 50 (0, 0))) := (hb3.block _ (heap_lt HR2.out)).trans HR2.out; have HP3 : Hid (w3.heap[w.heap.size + 1]? = some (.cells #[.int .i64 K2, .int .i64 D2, .string ⟨U2.toArray⟩] 50 (0, 0))) := (hb3.block _ (heap_lt HP2.out)).trans HP2.out; have HB3 : Hid (Below w.heap.size w w3) := HB2.out.trans (hb3.mono HB2.out.size); have o0 : w3.cell? ⟨w.heap.size, 0, none⟩ = some (.int .i64 K) := Lib.cell_of_heap HR3.out 0; have o1 : w3.cell? ⟨w.heap.size, 1, none⟩ = some (.int .i64 D) := Lib.cell_of_heap HR3.out 1; have o2 : w3.cell? ⟨w.heap.size, 2, none⟩ = some (.string ⟨U.toArray⟩) := Lib.cell_of_heap HR3.out 2; have p0 : w3.cell? ⟨w.heap.size + 1, 0, none⟩ = some (.int .i64 K2) := Lib.cell_of_heap HP3.out 0; have p1 : w3.cell? ⟨w.heap.size + 1, 1, none⟩ = some (.int .i64 D2) := Lib.cell_of_heap HP3.out 1; have p2 : w3.cell? ⟨w.heap.size + 1, 2, none⟩ = some (.string ⟨U2.toArray⟩) := Lib.cell_of_heap HP3.out 2; clear hb3)
    | (have _ := HB1; go_at_call 83; refine (c2.out _).mono ?_; rintro e w2 ⟨rfl, hb2⟩; have HR2 : Hid (w2.heap[w.heap.size]? = some (.cells #[.int .i64 K, .int .i64 D, .string ⟨U.toArray⟩] 50 (0, 0))) := (hb2.block _ (heap_lt HR1.out)).trans HR1.out; have HP2 : Hid (w2.heap[w.heap.size + 1]? = some (.cells #[.int .i64 K2, .int .i64 D2, .string ⟨U2.toArray⟩] 50 (0, 0))) := (hb2.block _ (heap_lt HP1.out)).trans HP1.out; have HB2 : Hid (Below w.heap.size w w2) := HB1.out.trans (hb2.mono HB1.out.size); have o0 : w2.cell? ⟨w.heap.size, 0, none⟩ = some (.int .i64 K) := Lib.cell_of_heap HR2.out 0; have o1 : w2.cell? ⟨w.heap.size, 1, none⟩ = some (.int .i64 D) := Lib.cell_of_heap HR2.out 1; have o2 : w2.cell? ⟨w.heap.size, 2, none⟩ = some (.string ⟨U.toArray⟩) := Lib.cell_of_heap HR2.out 2; have p0 : w2.cell? ⟨w.heap.size + 1, 0, none⟩ = some (.int .i64 K2) := Lib.cell_of_heap HP2.out 0; have p1 : w2.cell? ⟨w.heap.size + 1, 1, none⟩ = some (.int .i64 D2) := Lib.cell_of_heap HP2.out 1; have p2 : w2.cell? ⟨w.heap.size + 1, 2, none⟩ = some (.string ⟨U2.toArray⟩) := Lib.cell_of_heap HP2.out 2; clear hb2)
    | (go_at_call 165; refine (c1.out _).mono ?_; rintro e w1 ⟨rfl, hb1⟩; obtain ⟨b1, b2, b3⟩ := two_boxes hb1; have HR1 : Hid (w1.heap[w.heap.size]? = some (.cells #[.int .i64 K, .int .i64 D, .string ⟨U.toArray⟩] 50 (0, 0))) := b1; have HP1 : Hid (w1.heap[w.heap.size + 1]? = some (.cells #[.int .i64 K2, .int .i64 D2, .string ⟨U2.toArray⟩] 50 (0, 0))) := b2; have HB1 : Hid (Below w.heap.size w w1) := b3; have o0 : w1.cell? ⟨w.heap.size, 0, none⟩ = some (.int .i64 K) := Lib.cell_of_heap HR1.out 0; have o1 : w1.cell? ⟨w.heap.size, 1, none⟩ = some (.int .i64 D) := Lib.cell_of_heap HR1.out 1; have o2 : w1.cell? ⟨w.heap.size, 2, none⟩ = some (.string ⟨U.toArray⟩) := Lib.cell_of_heap HR1.out 2; have p0 : w1.cell? ⟨w.heap.size + 1, 0, none⟩ = some (.int .i64 K2) := Lib.cell_of_heap HP1.out 0; have p1 : w1.cell? ⟨w.heap.size + 1, 1, none⟩ = some (.int .i64 D2) := Lib.cell_of_heap HP1.out 1; have p2 : w1.cell? ⟨w.heap.size + 1, 2, none⟩ = some (.string ⟨U2.toArray⟩) := Lib.cell_of_heap HP1.out 2; clear b1 b2 b3 hb1)
    | fail)
  go_end0
  exact ⟨⟨_, rfl⟩, gath_below HG.out HB4.out, BelowG.of HB4.out (by omega)⟩

/-- The gatherer's add, of whatever part a take comes to. -/
theorem take_adds (M a : Nat) (s : NSt) (l : List Pt) (w : World) (hg : gath M w a s) {T : Int} {n : Nat} (hB : Bd s T n) (hS : ∀ p ∈ l, soundP p) (hT : T + wts l < 1000000000) (hn : n < 10000000) (p : Pt) (hp : p ∈ l) (wx : World) (hb : Below w.heap.size w wx) :
    Calls Tryz.prog 198 #[partV p, .pointer (some ⟨a + 1, 0, none⟩), .pointer (some ⟨a + 2, 0, none⟩), .pointer (some ⟨a + 3, 0, none⟩), .pointer (some ⟨a, 0, none⟩)] wx fun e w' => (∃ v, e = .returned v) ∧ gath M w' a (addP s p) ∧ BelowG M a wx w' := by
  refine add_bd a s p wx (gath_below hg hb) hB (hS p hp) ?_ hn
  have h1 : wtP p ≤ wts l := by
    obtain ⟨l1, l2, rfl⟩ := List.append_of_mem hp
    have h2 := wts_nonneg (ps := l1) fun q hq => hS q (by simp [hq])
    have h3 := wts_nonneg (ps := l2) fun q hq => hS q (by simp [hq])
    unfold wts at h2 h3 ⊢
    simp only [List.map_append, List.sum_append, List.map_cons, List.sum_cons]
    omega
  omega

theorem turnO_any (M a β : Nat) (s : NSt) (one other : Pt) (w : World) (hg : gath M w a s) (hx : w.heap[β]? = some (.cells #[addV a] 285 (0, 0))) {T : Int} {n : Nat} (hB : Bd s T n) (hS : ∀ p ∈ turnP (one, other), soundP p) (hT : T + wts (turnP (one, other)) < 1000000000) (hn : n < 10000000) :
    Calls Tryz.prog 182 #[partV one, partV other, .pointer (some ⟨β, 0, none⟩)] w (tookP M a s (turnP (one, other)) w) := by
  have cA := take_adds M a s _ w hg hB hS hT hn
  have cO := isPut_any other
  have cP := isPut_any one
  have cK := isKeep_any other
  have hlt := gath_lt hg
  obtain ⟨K, D, U⟩ := one
  obtain ⟨K2, D2, U2⟩ := other
  by_cases h1 : U2 ≠ []
  · have ht : turnP (⟨K, D, U⟩, ⟨K2, D2, U2⟩) = [⟨U2.length, 0, []⟩] := by unfold turnP; rw [if_pos (by simp [isPutP, h1])]
    rw [show decide ((⟨K2, D2, U2⟩ : Pt).put ≠ []) = true from decide_eq_true h1] at cO
    rw [ht] at cA ⊢
    exact turn_len M a β s K D K2 D2 U U2 w hg hlt hx cO (cA _ (List.mem_singleton.2 rfl))
  · rw [show decide ((⟨K2, D2, U2⟩ : Pt).put ≠ []) = false from decide_eq_false h1] at cO
    by_cases h2 : U ≠ []
    · have ht : turnP (⟨K, D, U⟩, ⟨K2, D2, U2⟩) = [⟨K, D, U⟩] := by unfold turnP; rw [if_neg (by simpa [isPutP] using h1), if_pos (by simp [isPutP, h2])]
      rw [show decide ((⟨K, D, U⟩ : Pt).put ≠ []) = true from decide_eq_true h2] at cP
      rw [ht] at cA ⊢
      exact turn_put M a β s K D K2 D2 U U2 w hg hlt hx cO cP (cA _ (List.mem_singleton.2 rfl))
    · rw [show decide ((⟨K, D, U⟩ : Pt).put ≠ []) = false from decide_eq_false h2] at cP
      by_cases h3 : 0 < K2
      · have ht : turnP (⟨K, D, U⟩, ⟨K2, D2, U2⟩) = [⟨K, D, U⟩] := by unfold turnP; rw [if_neg (by simpa [isPutP] using h1), if_pos (by simp [isKeepP, h3])]
        rw [show decide (0 < (⟨K2, D2, U2⟩ : Pt).keep) = true from decide_eq_true h3] at cK
        rw [ht] at cA ⊢
        exact turn_unit1 M a β s K D K2 D2 U U2 w hg hlt hx cO cP cK (cA _ (List.mem_singleton.2 rfl))
      · have ht : turnP (⟨K, D, U⟩, ⟨K2, D2, U2⟩) = [] := by
          unfold turnP
          rw [if_neg (by simpa [isPutP] using h1), if_neg]
          simp only [isPutP, isKeepP, Bool.or_eq_true, decide_eq_true_eq, not_or]
          exact ⟨h2, h3⟩
        rw [show decide (0 < (⟨K2, D2, U2⟩ : Pt).keep) = false from decide_eq_false h3] at cK
        rw [ht]
        exact turn_none M a β s K D K2 D2 U U2 w hg hlt hx cO cP cK

theorem comp_any (M a β : Nat) (s : NSt) (one two : Pt) (w : World) (hg : gath M w a s) (hx : w.heap[β]? = some (.cells #[addV a] 285 (0, 0))) {T : Int} {n : Nat} (hB : Bd s T n) (hS : ∀ p ∈ compP (one, two), soundP p) (hT : T + wts (compP (one, two)) < 1000000000) (hn : n < 10000000) :
    Calls Tryz.prog 180 #[partV one, partV two, .pointer (some ⟨β, 0, none⟩)] w (tookP M a s (compP (one, two)) w) := by
  have cA := take_adds M a s _ w hg hB hS hT hn
  have c1 := isDrop_any one
  have c2 := isKeep_any two
  have c3 := isPut_any two
  have c4 := isKeep_any one
  have hlt := gath_lt hg
  obtain ⟨K, D, U⟩ := one
  obtain ⟨K2, D2, U2⟩ := two
  by_cases h1 : 0 < D
  · have ht : compP (⟨K, D, U⟩, ⟨K2, D2, U2⟩) = [⟨K, D, U⟩] := by unfold compP; rw [if_pos (by simp [isDropP, h1])]
    rw [show decide (0 < (⟨K, D, U⟩ : Pt).drop) = true from decide_eq_true h1] at c1
    rw [ht] at cA ⊢
    exact comp_drop M a β s K D K2 D2 U U2 w hg hlt hx c1 (cA _ (List.mem_singleton.2 rfl))
  · rw [show decide (0 < (⟨K, D, U⟩ : Pt).drop) = false from decide_eq_false h1] at c1
    by_cases h2 : 0 < K2
    · have ht : compP (⟨K, D, U⟩, ⟨K2, D2, U2⟩) = [⟨K, D, U⟩] := by unfold compP; rw [if_pos (by simp [isKeepP, h2])]
      rw [show decide (0 < (⟨K2, D2, U2⟩ : Pt).keep) = true from decide_eq_true h2] at c2
      rw [ht] at cA ⊢
      exact comp_keep M a β s K D K2 D2 U U2 w hg hlt hx c1 c2 (cA _ (List.mem_singleton.2 rfl))
    · rw [show decide (0 < (⟨K2, D2, U2⟩ : Pt).keep) = false from decide_eq_false h2] at c2
      have hf : ¬ ((isDropP (⟨K, D, U⟩ : Pt) || isKeepP (⟨K2, D2, U2⟩ : Pt)) = true) := by
        simp only [isDropP, isKeepP, Bool.or_eq_true, decide_eq_true_eq, not_or]
        exact ⟨h1, h2⟩
      by_cases h3 : U2 ≠ []
      · have ht : compP (⟨K, D, U⟩, ⟨K2, D2, U2⟩) = [⟨K2, D2, U2⟩] := by unfold compP; rw [if_neg hf, if_pos (by simp [isPutP, h3])]
        rw [show decide ((⟨K2, D2, U2⟩ : Pt).put ≠ []) = true from decide_eq_true h3] at c3
        rw [ht] at cA ⊢
        exact comp_put M a β s K D K2 D2 U U2 w hg hlt hx c1 c2 c3 (cA _ (List.mem_singleton.2 rfl))
      · rw [show decide ((⟨K2, D2, U2⟩ : Pt).put ≠ []) = false from decide_eq_false h3] at c3
        by_cases h4 : 0 < K
        · have ht : compP (⟨K, D, U⟩, ⟨K2, D2, U2⟩) = [⟨K2, D2, U2⟩] := by unfold compP; rw [if_neg hf, if_pos (by simp [isKeepP, h4])]
          rw [show decide (0 < (⟨K, D, U⟩ : Pt).keep) = true from decide_eq_true h4] at c4
          rw [ht] at cA ⊢
          exact comp_two M a β s K D K2 D2 U U2 w hg hlt hx c1 c2 c3 c4 (cA _ (List.mem_singleton.2 rfl))
        · have ht : compP (⟨K, D, U⟩, ⟨K2, D2, U2⟩) = [] := by
            unfold compP
            rw [if_neg hf, if_neg]
            simp only [isPutP, isKeepP, Bool.or_eq_true, decide_eq_true_eq, not_or]
            exact ⟨h3, h4⟩
          rw [show decide (0 < (⟨K, D, U⟩ : Pt).keep) = false from decide_eq_false h4] at c4
          rw [ht]
          exact comp_none M a β s K D K2 D2 U U2 w hg hlt hx c1 c2 c3 c4
end Go.Proofs.YtldhbjmillfjgabGreatDoor

namespace Go.Proofs.YtldhbjmillfjgabGreatDoor
open Go.RowKit
set_option linter.unusedVariables false
attribute [local go_sem] Oper.semAt_some

set_option maxRecDepth 100000 in
set_option maxHeartbeats 2000000 in
theorem turn2_any (M a β β2 : Nat) (s : NSt) (other one : Pt) (w : World) (hg : gath M w a s) (hx : w.heap[β]? = some (.cells #[addV a] 285 (0, 0))) (hx2 : w.heap[β2]? = some (.cells #[.func (.func 182) #[] #[.pointer (some ⟨β, 0, none⟩)]] 290 (0, 0))) {T : Int} {n : Nat} (hB : Bd s T n) (hS : ∀ p ∈ turnP (one, other), soundP p) (hT : T + wts (turnP (one, other)) < 1000000000) (hn : n < 10000000) :
    Calls Tryz.prog 183 #[partV other, partV one, .pointer (some ⟨β2, 0, none⟩)] w (tookP M a s (turnP (one, other)) w) := by
  have hlt := gath_lt hg
  have hlt2 := heap_lt hx2
  have cT : Hid (∀ wx, Below w.heap.size w wx → Calls Tryz.prog 182 #[partV one, partV other, .pointer (some ⟨β, 0, none⟩)] wx (tookP M a s (turnP (one, other)) wx)) := fun wx hb =>
    turnO_any M a β s one other wx (gath_below hg hb) ((hb.block β (heap_lt hx)).trans hx) hB hS hT hn
  obtain ⟨K, D, U⟩ := one
  obtain ⟨K2, D2, U2⟩ := other
  have y2 : w.cell? ⟨β2, 0, none⟩ = some (.func (.func 182) #[] #[.pointer (some ⟨β, 0, none⟩)]) := Lib.cell_of_heap hx2 0
  generalize turnP (⟨K, D, U⟩, ⟨K2, D2, U2⟩) = L at *
  unfold partV at cT ⊢
  clear hg hx hx2 hB hS hT
  go_enter Tryz.func183, Tryz.ntmps183
  have hW : Below w.heap.size w ((w.alloc (.cells #[.int .i64 K2, .int .i64 D2, .string ⟨U2.toArray⟩] 50)).alloc (.cells #[.int .i64 K, .int .i64 D, .string ⟨U.toArray⟩] 50)) := ((Below.refl _ w).alloc (Nat.le_refl _) _).alloc (by rw [World.size_alloc]; omega) _
  have HW : Hid _ := hW
  clear hW
  go_wp2_with (first
    | (go_at_call 182; refine (cT.out _ HW.out).mono ?_; rintro e w1 ⟨⟨v1, rfl⟩, hg1, hb1⟩)
    | fail)
  go_end0
  exact ⟨⟨_, rfl⟩, hg1, (BelowG.of HW.out (by omega)).trans hb1⟩

/-- The pairs of two operations side by side, one behind the other. -/
inductive Side (la lb : Pt → Bool) : List Pt → List Pt → List (Pt × Pt) → Prop
  | nil : Side la lb [] [] []
  | left {p : Pt} {a b : List Pt} {l : List (Pt × Pt)} : la p = true → Side la lb a b l → Side la lb (p :: a) b ((p, noP) :: l)
  | last {q : Pt} {b : List Pt} {l : List (Pt × Pt)} : lb q = true → Side la lb [] b l → Side la lb [] (q :: b) ((noP, q) :: l)
  | right {p q : Pt} {a b : List Pt} {l : List (Pt × Pt)} : la p = false → lb q = true → Side la lb (p :: a) b l → Side la lb (p :: a) (q :: b) ((noP, q) :: l)
  | both {p q : Pt} {a b : List Pt} {l : List (Pt × Pt)} (n : Nat) : la p = false → lb q = false → oneP p → oneP q → 0 < n → min (lengthP p) (lengthP q) = n → lengthP p < 1000000000 → lengthP q < 1000000000 →
      Side la lb ((cutP p n).2 ++ a) ((cutP q n).2 ++ b) l → Side la lb (p :: a) (q :: b) (((cutP p n).1, (cutP q n).1) :: l)

/-- What stands beside the walk: boxes. -/
def boxesP (L : List (Nat × Obj)) (w : World) : Prop := ∀ x ∈ L, w.heap[x.1]? = some x.2
def boxesOk (a g1 g2 : Nat) (L : List (Nat × Obj)) : Prop := ∀ x ∈ L, a + 4 ≤ x.1 ∧ x.1 ≠ g1 ∧ x.1 ≠ g2 ∧ (∀ c fz, x.2 ≠ .cells c 5 fz) ∧ ∀ c fz, x.2 ≠ .cells c 50 fz

/-- What the rounds keep. -/
structure sideI (M a g1 g2 : Nat) (bx : List (Nat × Obj)) (w : World) (v1 v2 : Value) (A B : List Pt) (s : NSt) (W : World) : Prop where
  below : Below a w W
  g : gath M W a s
  r1 : winP W g1 v1 A
  r2 : winP W g2 v2 B
  b : boxesP bx W
theorem sideI.grow {M a g1 g2 : Nat} {bx : List (Nat × Obj)} {w : World} {v1 v2 : Value} {A B : List Pt} {s : NSt} {W W' : World} (h : sideI M a g1 g2 bx w v1 v2 A B s W) (hb : Below W.heap.size W W') : sideI M a g1 g2 bx w v1 v2 A B s W' :=
  ⟨h.below.trans (hb.mono (by have := gath_lt h.g; omega)), gath_below h.g hb, winP_below h.r1 hb, winP_below h.r2 hb, fun x hx => (hb.block _ (heap_lt (h.b x hx))).trans (h.b x hx)⟩
theorem gath_but {M a g : Nat} {s : NSt} {w w' : World} (h : gath M w a s) (hb : ButO g w w') (h1 : a + 4 ≤ g) (h2 : g < M) : gath M w' a s := by
  have hM := h.le
  have hT := h.top
  have hlt := gath_lt h
  have hbl := hb.below h1 (by omega)
  have own : ∀ {e size n : Nat} {v : Value} {xs : List Value}, w.ownsRow M e size v n xs → w'.ownsRow M e size v n xs := by
    intro e size n v xs h
    obtain ⟨h0, hrow⟩ := h
    refine ⟨h0, ?_⟩
    rcases hrow with hx | ⟨g', cap, cur, rfl, hg, hgg, rest⟩
    · exact .inl hx
    · exact .inr ⟨g', cap, cur, rfl, hg, (hb.block g' (heap_lt hgg) (by omega)).trans hgg, rest⟩
  obtain ⟨⟨p, c, h1, h2⟩, h3, ⟨p', c', h4, h5⟩, h6, h7, h8, h9⟩ := h
  exact ⟨⟨p, c, (hbl.cell (p := ⟨a, 0, none⟩) (by show a < a + 4; omega)).trans h1, own h2⟩, (hbl.frozen (p := ⟨a, 0, none⟩) (by show a < a + 4; omega)).trans h3,
    ⟨p', c', (hbl.cell (p := ⟨a + 1, 0, none⟩) (by show a + 1 < a + 4; omega)).trans h4, own h5⟩, (hbl.frozen (p := ⟨a + 1, 0, none⟩) (by show a + 1 < a + 4; omega)).trans h6,
    (hbl.cell (p := ⟨a + 2, 0, none⟩) (by show a + 2 < a + 4; omega)).trans h7, (hbl.frozen (p := ⟨a + 2, 0, none⟩) (by show a + 2 < a + 4; omega)).trans h8, (hbl.cell (p := ⟨a + 3, 0, none⟩) (by show a + 3 < a + 4; omega)).trans h9, hM, Nat.le_trans hT hb.size⟩
theorem sideI.cut1 {M a g1 g2 : Nat} {bx : List (Nat × Obj)} {w : World} {v1 v2 v1' : Value} {A B A' : List Pt} {s : NSt} {W W' : World} (h : sideI M a g1 g2 bx w v1 v2 A B s W) (hb : ButO g1 W W') (ho : boxesOk a g1 g2 bx) (h1 : a + 4 ≤ g1) (h2 : g1 < M) (hne : g1 ≠ g2) (hr : winP W' g1 v1' A') : sideI M a g1 g2 bx w v1' v2 A' B s W' :=
  ⟨h.below.trans (hb.below (by omega) (by have := gath_lt h.g; omega)), gath_but h.g hb h1 h2, hr, winP_but h.r2 hb (Ne.symm hne), fun x hx => (hb.block _ (heap_lt (h.b x hx)) (ho x hx).2.1).trans (h.b x hx)⟩
theorem sideI.cut2 {M a g1 g2 : Nat} {bx : List (Nat × Obj)} {w : World} {v1 v2 v2' : Value} {A B B' : List Pt} {s : NSt} {W W' : World} (h : sideI M a g1 g2 bx w v1 v2 A B s W) (hb : ButO g2 W W') (ho : boxesOk a g1 g2 bx) (h1 : a + 4 ≤ g2) (h2 : g2 < M) (hne : g1 ≠ g2) (hr : winP W' g2 v2' B') : sideI M a g1 g2 bx w v1 v2' A B' s W' :=
  ⟨h.below.trans (hb.below (by omega) (by have := gath_lt h.g; omega)), gath_but h.g hb h1 h2, winP_but h.r1 hb hne, hr, fun x hx => (hb.block _ (heap_lt (h.b x hx)) (ho x hx).2.2.1).trans (h.b x hx)⟩
theorem winP_g {M a g : Nat} {w w' : World} {v : Value} {ps : List Pt} (h : winP w g v ps) (hb : BelowG M a w w') (h1 : a + 4 ≤ g) (h2 : g < M) : winP w' g v ps := by
  refine winP_kept h hb.size fun hg => ?_
  obtain ⟨o, ho⟩ : ∃ o, w.heap[g]? = some o := ⟨_, Array.getElem?_eq_getElem hg⟩
  rw [ho]
  exact hb.kept g o ho (by omega) (by omega) (by omega) (fun _ _ hM => absurd hM (by omega)) (fun _ _ hM => absurd hM (by omega))
theorem sideI.took {M a g1 g2 : Nat} {bx : List (Nat × Obj)} {w : World} {v1 v2 : Value} {A B : List Pt} {s s' : NSt} {W W' : World} (h : sideI M a g1 g2 bx w v1 v2 A B s W) (hb : BelowG M a W W') (hg : gath M W' a s') (ho : boxesOk a g1 g2 bx) (h1 : a + 4 ≤ g1) (h2 : g1 < M) (h3 : a + 4 ≤ g2) (h4 : g2 < M) : sideI M a g1 g2 bx w v1 v2 A B s' W' :=
  ⟨h.below.trans hb.below, hg, winP_g h.r1 hb h1 h2, winP_g h.r2 hb h3 h4, fun x hx => by
    obtain ⟨o1, _, _, o2, o3⟩ := ho x hx
    exact hb.kept _ _ (h.b x hx) (by omega) (by omega) (by omega) (fun c fz _ => o2 c fz) (fun c fz _ => o3 c fz)⟩
/-- The bounds of what is yet to come. -/
structure BdS (t : Pt × Pt → List Pt) (l : List (Pt × Pt)) (s : NSt) (T : Int) (n : Nat) : Prop where
  bd : Bd s T n
  w : T + wts (l.flatMap t) < 1000000000
  n : n + l.length < 10000000
  sound : ∀ x ∈ l, ∀ p ∈ t x, soundP p
  one : ∀ x ∈ l, (t x).length ≤ 1
theorem Bd.more {s : NSt} {T : Int} {n : Nat} (h : Bd s T n) : Bd s T (n + 1) := ⟨h.put, h.d0, h.dT, h.keep, by have := h.len; omega⟩
theorem BdS.head {t : Pt × Pt → List Pt} {x : Pt × Pt} {l : List (Pt × Pt)} {s : NSt} {T : Int} {n : Nat} (h : BdS t (x :: l) s T n) : (∀ p ∈ t x, soundP p) ∧ T + wts (t x) < 1000000000 ∧ n < 10000000 := by
  refine ⟨h.sound x (by simp), ?_, by have := h.n; simp at this; omega⟩
  have h1 := h.w
  have h2 : 0 ≤ wts (l.flatMap t) := wts_nonneg fun p hp => by
    obtain ⟨y, hy, hp⟩ := List.mem_flatMap.1 hp
    exact h.sound y (by simp [hy]) p hp
  rw [List.flatMap_cons] at h1
  unfold wts at h1 h2 ⊢
  rw [List.map_append, List.sum_append] at h1
  omega
theorem BdS.tail {t : Pt × Pt → List Pt} {x : Pt × Pt} {l : List (Pt × Pt)} {s : NSt} {T : Int} {n : Nat} (h : BdS t (x :: l) s T n) : BdS t l ((t x).foldl addP s) (T + wts (t x)) (n + 1) := by
  refine ⟨?_, ?_, by have := h.n; simp at this; omega, fun y hy => h.sound y (by simp [hy]), fun y hy => h.one y (by simp [hy])⟩
  · have h1 := h.one x (by simp)
    have h2 := h.sound x (by simp)
    generalize t x = L at *
    match L, h1 with
    | [], _ => simpa [wts] using h.bd.more
    | [p], _ =>
      have := h.bd.add p (h2 p (by simp))
      simpa [wts] using this
  · have h1 := h.w
    rw [List.flatMap_cons] at h1
    unfold wts at h1 ⊢
    rw [List.map_append, List.sum_append] at h1
    omega
end Go.Proofs.YtldhbjmillfjgabGreatDoor

namespace Go.Proofs.YtldhbjmillfjgabGreatDoor
set_option linter.unusedVariables false

/-- A byte of what comes: of the text, or put. -/
abbrev Cel := Int × UInt8
def putC (u : List UInt8) : List Cel := u.map fun c => (-1, c)
def fromC (at' : Int) : Nat → List Cel
  | 0 => []
  | k + 1 => (at', 0) :: fromC (at' + 1) k
def midP (at' : Int) : List Pt → List Cel
  | [] => []
  | p :: ps => fromC at' p.keep.toNat ++ (putC p.put ++ midP (at' + p.keep + p.drop) ps)
def endP (mid : List Cel) : List Pt → List Cel
  | [] => []
  | p :: ps => mid.take p.keep.toNat ++ (putC p.put ++ endP (mid.drop (p.keep + p.drop).toNat) ps)
/-- What cells come to: n is how long the text is, pos how much of it is behind. -/
def denC (n : Int) : List Cel → Int → NSt → NSt
  | [], pos, s => addP s ⟨0, n - pos, []⟩
  | (i, c) :: E, pos, s => if i < 0 then denC n E pos (addP s ⟨0, 0, [c]⟩) else denC n E (i + 1) (addP (addP s ⟨0, i - pos, []⟩) ⟨1, 0, []⟩)

theorem add_swap (s : NSt) (d : Int) (u : List UInt8) : addP (addP s ⟨0, d, []⟩) ⟨0, 0, u⟩ = addP (addP s ⟨0, 0, u⟩) ⟨0, d, []⟩ := by simp [addP]
theorem den_drop (n : Int) : ∀ (E : List Cel) (pos d : Int) (s : NSt), denC n E (pos + d) (addP s ⟨0, d, []⟩) = denC n E pos s
  | [], pos, d, s => by
    rw [denC, denC, addP_drops]
    congr 2
    omega
  | (i, c) :: E, pos, d, s => by
    rw [denC, denC]
    by_cases hi : i < 0
    · rw [if_pos hi, if_pos hi, add_swap, den_drop n E pos d]
    · rw [if_neg hi, if_neg hi, addP_drops]
      congr 3
      congr 1
      omega
theorem den_puts (n : Int) (E : List Cel) (pos : Int) : ∀ (u : List UInt8) (s : NSt), denC n (putC u ++ E) pos s = denC n E pos (addP s ⟨0, 0, u⟩)
  | [], s => by rw [addP_none]; rfl
  | c :: u, s => by
    show denC n ((-1, c) :: (putC u ++ E)) pos s = _
    rw [denC, if_pos (by decide), den_puts n E pos u, addP_puts]
    rfl
theorem den_keeps (n : Int) (E : List Cel) : ∀ (k : Nat) (pos : Int) (s : NSt), 0 ≤ pos → denC n (fromC pos k ++ E) pos s = denC n E (pos + k) (addP s ⟨k, 0, []⟩)
  | 0, pos, s, _ => by
    rw [show ((0 : Nat) : Int) = 0 from rfl, addP_none, Int.add_zero]; rfl
  | k + 1, pos, s, h => by
    show denC n ((pos, 0) :: (fromC (pos + 1) k ++ E)) pos s = _
    rw [denC, if_neg (by omega), den_keeps n E k (pos + 1) _ (by omega), Int.sub_self, addP_none, addP_keeps _ _ _ (by omega) (by omega)]
    congr 1
    · omega
    · congr 2
      omega

theorem putC_len (u : List UInt8) : (putC u).length = u.length := by simp [putC]
theorem fromC_len : ∀ (k : Nat) (i : Int), (fromC i k).length = k
  | 0, _ => rfl
  | k + 1, i => by rw [fromC, List.length_cons, fromC_len k]
theorem putC_append (u v : List UInt8) : putC (u ++ v) = putC u ++ putC v := by simp [putC]
theorem fromC_append : ∀ (a b : Nat) (i : Int), fromC i (a + b) = fromC i a ++ fromC (i + a) b
  | 0, b, i => by simp [fromC]
  | a + 1, b, i => by
    rw [show a + 1 + b = (a + b) + 1 by omega, fromC, fromC, fromC_append a b]
    simp only [List.cons_append]
    congr 3
    omega
theorem mid_len : ∀ (ps : List Pt) (i : Int), (∀ p ∈ ps, 0 ≤ p.keep) → ((midP i ps).length : Int) = (ps.map isP).sum
  | [], i, _ => rfl
  | p :: ps, i, h => by
    have h1 := h p (by simp)
    have := mid_len ps (i + p.keep + p.drop) fun q hq => h q (by simp [hq])
    simp only [midP, List.length_append, fromC_len, putC_len, List.map_cons, List.sum_cons, isP]
    push_cast
    rw [this]
    omega

/-- A first part, told apart. -/
theorem one_three {p : Pt} (h : oneP p) : (∃ u, u ≠ [] ∧ p = ⟨0, 0, u⟩) ∨ (∃ n : Nat, p = ⟨(n : Int) + 1, 0, []⟩) ∨ ∃ n : Nat, p = ⟨0, (n : Int) + 1, []⟩ := by
  rcases one_cases h with h | ⟨d, n, rfl⟩
  · exact .inl h
  · cases d with
    | true => exact .inr (.inr ⟨n, rfl⟩)
    | false => exact .inr (.inl ⟨n, rfl⟩)
theorem len_put (u : List UInt8) : lengthP ⟨0, 0, u⟩ = (u.length : Int) := by simp [lengthP]
theorem len_keep (n : Int) : lengthP ⟨n, 0, []⟩ = n := by simp [lengthP]
theorem len_drop (n : Int) : lengthP ⟨0, n, []⟩ = n := by simp [lengthP]

/-- What of a part is cut off, and what is left, are that part. -/
theorem mid_cut {p : Pt} (h : oneP p) (hd : ¬ 0 < p.drop) {n : Nat} (h0 : 0 < n) (hn : (n : Int) ≤ lengthP p) (i : Int) (ps : List Pt) :
    ((p.put = [] ∧ (cutP p n).1 = ⟨n, 0, []⟩ ∧ midP i (p :: ps) = fromC i n ++ midP (i + n) ((cutP p n).2 ++ ps)) ∨ ∃ u, u.length = n ∧ p.put ≠ [] ∧ (cutP p n).1 = ⟨0, 0, u⟩ ∧ midP i (p :: ps) = putC u ++ midP i ((cutP p n).2 ++ ps)) := by
  rcases one_three h with ⟨u, hu, rfl⟩ | ⟨m, rfl⟩ | ⟨m, rfl⟩
  · right
    rw [len_put] at hn
    by_cases e : (u.length : Int) = n
    · have hc : cutP ⟨0, 0, u⟩ (n : Int) = (⟨0, 0, u⟩, []) := by unfold cutP; rw [if_pos (by rw [len_put]; exact e)]
      rw [hc]
      refine ⟨u, by omega, hu, rfl, ?_⟩
      simp [midP, fromC]
    · have hc : cutP ⟨0, 0, u⟩ (n : Int) = (⟨0, 0, u.take n⟩, [⟨0, 0, u.drop n⟩]) := by
        unfold cutP
        rw [if_neg (by rw [len_put]; exact e), if_neg (by show ¬ (0 : Int) < 0; omega), if_neg (by show ¬ (0 : Int) < 0; omega)]
        rfl
      rw [hc]
      refine ⟨u.take n, by rw [List.length_take]; omega, hu, rfl, ?_⟩
      show fromC i 0 ++ (putC u ++ midP (i + 0 + 0) ps) = putC (u.take n) ++ (fromC i 0 ++ (putC (u.drop n) ++ midP (i + 0 + 0) ps))
      simp only [fromC, List.nil_append, ← List.append_assoc, ← putC_append, List.take_append_drop]
  · left
    rw [len_keep] at hn
    by_cases e : (m : Int) + 1 = n
    · have hc : cutP ⟨(m : Int) + 1, 0, []⟩ (n : Int) = (⟨n, 0, []⟩, []) := by unfold cutP; rw [if_pos (by rw [len_keep]; exact e), e]
      rw [hc, e]
      refine ⟨rfl, rfl, ?_⟩
      show fromC i (n : Int).toNat ++ ([] ++ midP (i + n + 0) ps) = _
      simp
    · have hc : cutP ⟨(m : Int) + 1, 0, []⟩ (n : Int) = (⟨n, 0, []⟩, [⟨(m : Int) + 1 - n, 0, []⟩]) := by
        unfold cutP
        rw [if_neg (by rw [len_keep]; exact e), if_pos (by show (0 : Int) < m + 1; omega)]
      rw [hc]
      refine ⟨rfl, rfl, ?_⟩
      show fromC i ((m : Int) + 1).toNat ++ ([] ++ midP (i + (m + 1) + 0) ps) = fromC i n ++ (fromC (i + n) ((m : Int) + 1 - n).toNat ++ ([] ++ midP (i + n + ((m : Int) + 1 - n) + 0) ps))
      rw [show ((m : Int) + 1).toNat = n + ((m : Int) + 1 - n).toNat by omega, fromC_append, List.append_assoc, show i + n + ((m : Int) + 1 - n) + 0 = i + (m + 1) + 0 by omega]
  · exact absurd (show (0 : Int) < m + 1 by omega) hd
theorem end_cut {q : Pt} (h : oneP q) (hp : q.put = []) {n : Nat} (h0 : 0 < n) (hn : (n : Int) ≤ lengthP q) (A B : List Cel) (hA : A.length = n) (qs : List Pt) :
    (((cutP q n).1 = ⟨n, 0, []⟩ ∧ endP (A ++ B) (q :: qs) = A ++ endP B ((cutP q n).2 ++ qs)) ∨ ((cutP q n).1 = ⟨0, n, []⟩ ∧ endP (A ++ B) (q :: qs) = endP B ((cutP q n).2 ++ qs))) := by
  rcases one_three h with ⟨u, hu, rfl⟩ | ⟨m, rfl⟩ | ⟨m, rfl⟩
  · exact absurd hp hu
  · left
    rw [len_keep] at hn
    by_cases e : (m : Int) + 1 = n
    · have hc : cutP ⟨(m : Int) + 1, 0, []⟩ (n : Int) = (⟨n, 0, []⟩, []) := by unfold cutP; rw [if_pos (by rw [len_keep]; exact e), e]
      rw [hc, e]
      refine ⟨rfl, ?_⟩
      show (A ++ B).take (n : Int).toNat ++ ([] ++ endP ((A ++ B).drop ((n : Int) + 0).toNat) qs) = _
      simp only [Int.add_zero, Int.toNat_natCast, List.nil_append]
      rw [List.take_left' hA, List.drop_left' hA]
    · have hc : cutP ⟨(m : Int) + 1, 0, []⟩ (n : Int) = (⟨n, 0, []⟩, [⟨(m : Int) + 1 - n, 0, []⟩]) := by
        unfold cutP
        rw [if_neg (by rw [len_keep]; exact e), if_pos (by show (0 : Int) < m + 1; omega)]
      rw [hc]
      refine ⟨rfl, ?_⟩
      show (A ++ B).take ((m : Int) + 1).toNat ++ ([] ++ endP ((A ++ B).drop ((m : Int) + 1 + 0).toNat) qs) = A ++ (B.take ((m : Int) + 1 - n).toNat ++ ([] ++ endP (B.drop ((m : Int) + 1 - n + 0).toNat) qs))
      rw [List.take_append, List.drop_append, List.take_of_length_le (by omega), List.drop_of_length_le (by omega)]
      simp only [List.nil_append, List.append_assoc, Int.add_zero]
      rw [show ((m : Int) + 1).toNat - A.length = ((m : Int) + 1 - n).toNat by omega]
  · right
    rw [len_drop] at hn
    by_cases e : (m : Int) + 1 = n
    · have hc : cutP ⟨0, (m : Int) + 1, []⟩ (n : Int) = (⟨0, n, []⟩, []) := by unfold cutP; rw [if_pos (by rw [len_drop]; exact e), e]
      rw [hc, e]
      refine ⟨rfl, ?_⟩
      show (A ++ B).take (0 : Int).toNat ++ ([] ++ endP ((A ++ B).drop (0 + (n : Int)).toNat) qs) = _
      simp only [Int.zero_add, Int.toNat_natCast, Int.toNat_zero, List.take_zero, List.nil_append]
      rw [List.drop_left' hA]
    · have hc : cutP ⟨0, (m : Int) + 1, []⟩ (n : Int) = (⟨0, n, []⟩, [⟨0, (m : Int) + 1 - n, []⟩]) := by
        unfold cutP
        rw [if_neg (by rw [len_drop]; exact e), if_neg (by show ¬ (0 : Int) < 0; omega), if_pos (by show (0 : Int) < m + 1; omega)]
      rw [hc]
      refine ⟨rfl, ?_⟩
      show (A ++ B).take (0 : Int).toNat ++ ([] ++ endP ((A ++ B).drop (0 + ((m : Int) + 1)).toNat) qs) = B.take (0 : Int).toNat ++ ([] ++ endP (B.drop (0 + ((m : Int) + 1 - n)).toNat) qs)
      rw [List.drop_append, List.drop_of_length_le (by omega)]
      simp only [List.nil_append, Int.zero_add, Int.toNat_zero, List.take_zero]
      rw [show ((m : Int) + 1).toNat - A.length = ((m : Int) + 1 - n).toNat by omega]

theorem cut_weigh {p : Pt} (h : oneP p) {n : Nat} (h0 : 0 < n) (hn : (n : Int) ≤ lengthP p) (ps : List Pt) : weight (p :: ps) = n + weight ((cutP p n).2 ++ ps) ∧ (p.put = [] → longP (p :: ps) = n + longP ((cutP p n).2 ++ ps)) ∧ (p.put ≠ [] → longP (p :: ps) = longP ((cutP p n).2 ++ ps)) := by
  rw [weight_cons, weight_append]
  have hL : ∀ l, longP (l ++ ps) = longP l + longP ps := fun l => long_append l ps
  have hL1 : longP (p :: ps) = lenP p + longP ps := by simp [longP]
  rw [hL, hL1]
  obtain ⟨c1, c2, c3, c4⟩ := cut_one h (n := n) (by omega) hn
  have hlen : lengthP p = lenP p + p.put.length := rfl
  by_cases e : lengthP p = n
  · have e2 := c4.2 e
    rw [e2]
    refine ⟨by simp [weight]; omega, fun hp => ?_, fun hp => ?_⟩
    · rw [hp] at hlen; simp only [longP, List.map_nil, List.sum_nil]; simp at hlen; omega
    · have : lenP p = 0 := by rcases h with ⟨h1, h2, h3⟩ | ⟨h1, h2, h3⟩ | ⟨h1, h2, h3⟩ <;> simp_all [lenP]
      simp only [longP, List.map_nil, List.sum_nil]; omega
  · have hne : (cutP p n).2 ≠ [] := fun h => e (c4.1 h)
    have h1 : ∃ q, (cutP p n).2 = [q] ∧ q.put.length = (p.put.length - if p.put = [] then 0 else n) := by
      unfold cutP
      rw [if_neg e]
      rcases h with ⟨h1, h2, h3⟩ | ⟨h1, h2, h3⟩ | ⟨h1, h2, h3⟩
      · rw [if_pos h1]; exact ⟨_, rfl, by simp [h3]⟩
      · rw [if_neg (by omega), if_pos h2]; exact ⟨_, rfl, by simp [h3]⟩
      · rw [if_neg (by omega), if_neg (by omega)]; exact ⟨_, rfl, by simp [h3]⟩
    obtain ⟨q, hq, hq2⟩ := h1
    obtain ⟨d1, d2⟩ := c3 q (by rw [hq]; simp)
    rw [hq]
    have hlq : lengthP q = lenP q + q.put.length := rfl
    refine ⟨by simp [weight]; omega, fun hp => ?_, fun hp => ?_⟩
    · rw [if_pos hp, hp] at hq2
      rw [hp] at hlen
      simp only [List.length_nil] at hlen hq2
      simp only [longP, List.map_cons, List.map_nil, List.sum_cons, List.sum_nil]
      omega
    · rw [if_neg hp] at hq2
      have : lenP p = 0 := by rcases h with ⟨h1, h2, h3⟩ | ⟨h1, h2, h3⟩ | ⟨h1, h2, h3⟩ <;> simp_all [lenP]
      simp only [longP, List.map_cons, List.map_nil, List.sum_cons, List.sum_nil]
      omega

/-- What is side by side in Compose adds up to the cells. -/
theorem comp_side (N : Int) : ∀ (f : Nat) (a b : List Pt) (i : Int) (s : NSt), (∀ p ∈ a, oneP p) → (∀ p ∈ b, oneP p) → 0 ≤ i → ((midP i a).length : Int) = longP b → i + longP a = N → weight a + weight b ≤ f →
    runS compP (sideP isDropP isPutP f a b) s = denC N (endP (midP i a) b) i s := by
  have base : ∀ (i : Int) (s : NSt), i + longP [] = N → s = denC N (endP (midP i []) []) i s := by
    intro i s h
    show s = addP s ⟨0, N - i, []⟩
    have : N - i = 0 := by simp [longP] at h; omega
    rw [this, addP_none]
  have hnil : ∀ (l : List Pt), (∀ p ∈ l, oneP p) → weight l = 0 → l = [] := by
    intro l hl hw
    cases l with
    | nil => rfl
    | cons p l =>
      have := length_pos (hl p (by simp))
      rw [weight_cons] at hw
      omega
  intro f
  induction f with
  | zero =>
    intro a b i s ha hb hi hm hn hw
    obtain rfl := hnil a ha (by omega)
    obtain rfl := hnil b hb (by omega)
    exact base i s hn
  | succ f ih =>
    intro a b i s ha hb hi hm hn hw
    have hputs : ∀ (a : List Pt) (u : List UInt8) (bs : List Pt), (∀ p ∈ a, oneP p) → (∀ p ∈ (⟨0, 0, u⟩ : Pt) :: bs, oneP p) → ((midP i a).length : Int) = longP (⟨0, 0, u⟩ :: bs) → i + longP a = N → weight a + weight (⟨0, 0, u⟩ :: bs) ≤ f + 1 → u ≠ [] →
        runS compP ((noP, ⟨0, 0, u⟩) :: sideP isDropP isPutP f a bs) s = denC N (endP (midP i a) (⟨0, 0, u⟩ :: bs)) i s := by
      intro a u bs ha hb hm hn hw hu
      have h1 : compP (noP, ⟨0, 0, u⟩) = [⟨0, 0, u⟩] := by simp [compP, isDropP, isKeepP, isPutP, noP, hu]
      show runS compP (sideP isDropP isPutP f a bs) ((compP (noP, ⟨0, 0, u⟩)).foldl addP s) = _
      rw [h1]
      have hl : 0 < u.length := List.length_pos_iff.2 hu
      rw [weight_cons, len_put] at hw
      rw [ih a bs i _ ha (fun p hp => hb p (by simp [hp])) hi (by rw [hm]; simp [longP, lenP]) hn (by omega)]
      show denC N _ i (addP s ⟨0, 0, u⟩) = denC N ((midP i a).take (0 : Int).toNat ++ (putC u ++ endP ((midP i a).drop ((0 : Int) + 0).toNat) bs)) i s
      simp only [Int.add_zero, Int.toNat_zero, List.take_zero, List.drop_zero, List.nil_append]
      rw [den_puts]
    have hlong : ∀ l : List Pt, (∀ p ∈ l, oneP p) → 0 ≤ longP l := by
      intro l hl
      induction l with
      | nil => simp [longP]
      | cons p l ih =>
        have h1 := ih fun q hq => hl q (by simp [hq])
        have h2 : 0 ≤ lenP p := by rcases hl p (by simp) with ⟨h1, h2, h3⟩ | ⟨h1, h2, h3⟩ | ⟨h1, h2, h3⟩ <;> simp only [lenP] <;> omega
        simp only [longP, List.map_cons, List.sum_cons] at h1 ⊢
        omega
    cases a with
    | nil =>
      cases b with
      | nil => exact base i s hn
      | cons q bs =>
        have h2 := hlong bs fun p hp => hb p (by simp [hp])
        have h0 : longP (q :: bs) = lenP q + longP bs := by simp [longP]
        have hm' : (0 : Int) = longP (q :: bs) := hm
        rcases one_three (hb q (by simp)) with ⟨u, hu, rfl⟩ | ⟨m, rfl⟩ | ⟨m, rfl⟩
        · have h1 : sideP isDropP isPutP (f + 1) [] (⟨0, 0, u⟩ :: bs) = (noP, ⟨0, 0, u⟩) :: sideP isDropP isPutP f [] bs := by rw [sideP, if_pos (by simp [isPutP, hu])]
          rw [h1]
          exact hputs [] u bs ha hb hm hn hw hu
        · have : lenP (⟨(m : Int) + 1, 0, []⟩ : Pt) = m + 1 := by simp [lenP]
          omega
        · have : lenP (⟨0, (m : Int) + 1, []⟩ : Pt) = m + 1 := by simp [lenP]
          omega
    | cons p az =>
      have hp1 := ha p (by simp)
      by_cases hd : 0 < p.drop
      · have h1 : sideP isDropP isPutP (f + 1) (p :: az) b = (p, noP) :: sideP isDropP isPutP f az b := by
          cases b <;> (rw [sideP]; rw [if_pos (by simp [isDropP, hd])])
        rw [h1]
        have h2 : compP (p, noP) = [p] := by simp [compP, isDropP, hd]
        show runS compP (sideP isDropP isPutP f az b) ((compP (p, noP)).foldl addP s) = _
        rw [h2]
        have hw2 := length_pos hp1
        rw [weight_cons] at hw
        rcases one_three hp1 with ⟨u, hu, rfl⟩ | ⟨m, rfl⟩ | ⟨m, rfl⟩
        · exact absurd hd (by show ¬ (0 : Int) < 0; omega)
        · exact absurd hd (by show ¬ (0 : Int) < 0; omega)
        · have e : midP i (⟨0, (m : Int) + 1, []⟩ :: az) = midP (i + (m + 1)) az := by
            show fromC i (0 : Int).toNat ++ ([] ++ midP (i + 0 + (m + 1)) az) = _
            simp [fromC]
          rw [e] at hm ⊢
          rw [ih az b (i + (m + 1)) _ (fun q hq => ha q (by simp [hq])) hb (by omega) hm (by rw [← hn]; simp [longP, lenP]; omega) (by omega)]
          exact den_drop N _ i _ s
      · have hmid : 0 < (midP i (p :: az)).length := by
          rcases one_three hp1 with ⟨u, hu, rfl⟩ | ⟨m, rfl⟩ | ⟨m, rfl⟩
          · have : 0 < u.length := List.length_pos_iff.2 hu
            simp only [midP, List.length_append, putC_len]; omega
          · simp only [midP, List.length_append, fromC_len]; omega
          · exact absurd (show (0 : Int) < m + 1 by omega) hd
        cases b with
        | nil => simp [longP] at hm; rw [hm] at hmid; simp at hmid
        | cons q bs =>
          have hq1 := hb q (by simp)
          by_cases hu : q.put ≠ []
          · rcases one_three hq1 with ⟨u, hu', rfl⟩ | ⟨m, rfl⟩ | ⟨m, rfl⟩
            · have h1 : sideP isDropP isPutP (f + 1) (p :: az) (⟨0, 0, u⟩ :: bs) = (noP, ⟨0, 0, u⟩) :: sideP isDropP isPutP f (p :: az) bs := by
                rw [sideP, if_neg (by simp [isDropP, hd]), if_pos (by simp [isPutP, hu'])]
              rw [h1]
              exact hputs (p :: az) u bs ha hb hm hn hw hu'
            · exact absurd rfl hu
            · exact absurd rfl hu
          · have hu := Classical.not_not.1 hu
            have h1 : sideP isDropP isPutP (f + 1) (p :: az) (q :: bs) = ((cutP p (min (lengthP p) (lengthP q))).1, (cutP q (min (lengthP p) (lengthP q))).1) :: sideP isDropP isPutP f ((cutP p (min (lengthP p) (lengthP q))).2 ++ az) ((cutP q (min (lengthP p) (lengthP q))).2 ++ bs) := by
              rw [sideP, if_neg (by simp [isDropP, hd]), if_neg (by simp [isPutP, hu])]
            rw [h1]
            have hlp := length_pos hp1
            have hlq := length_pos hq1
            obtain ⟨k, hk⟩ : ∃ k : Nat, min (lengthP p) (lengthP q) = (k : Int) := ⟨(min (lengthP p) (lengthP q)).toNat, by omega⟩
            rw [hk]
            have k0 : 0 < k := by omega
            have kp : (k : Int) ≤ lengthP p := by omega
            have kq : (k : Int) ≤ lengthP q := by omega
            obtain ⟨wp, lp, lp'⟩ := cut_weigh hp1 k0 kp az
            obtain ⟨wq, lq, _⟩ := cut_weigh hq1 k0 kq bs
            have lq := lq hu
            have op := (cut_one hp1 (n := k) (by omega) kp).2.2.1
            have oq := (cut_one hq1 (n := k) (by omega) kq).2.2.1
            have ha' : ∀ x ∈ (cutP p k).2 ++ az, oneP x := by
              intro x hx
              rcases List.mem_append.1 hx with hx | hx
              · exact (op x hx).1
              · exact ha x (by simp [hx])
            have hb' : ∀ x ∈ (cutP q k).2 ++ bs, oneP x := by
              intro x hx
              rcases List.mem_append.1 hx with hx | hx
              · exact (oq x hx).1
              · exact hb x (by simp [hx])
            show runS compP (sideP isDropP isPutP f ((cutP p k).2 ++ az) ((cutP q k).2 ++ bs)) ((compP ((cutP p k).1, (cutP q k).1)).foldl addP s) = _
            rcases mid_cut hp1 hd k0 kp i az with ⟨hpu, e1, e2⟩ | ⟨u, hul, hpu, e1, e2⟩
            · have lp := lp hpu
              rw [e2] at hm ⊢
              rw [List.length_append, fromC_len] at hm
              have hm' : ((midP (i + k) ((cutP p k).2 ++ az)).length : Int) = longP ((cutP q k).2 ++ bs) := by omega
              rcases end_cut hq1 hu k0 kq (fromC i k) (midP (i + k) ((cutP p k).2 ++ az)) (fromC_len k i) bs with ⟨e3, e4⟩ | ⟨e3, e4⟩
              · rw [e1, e3, e4, den_keeps _ _ _ _ _ hi]
                have hc : compP (⟨k, 0, []⟩, ⟨k, 0, []⟩) = [⟨k, 0, []⟩] := by simp [compP, isDropP, isKeepP, k0]
                rw [hc]
                exact ih _ _ (i + k) _ ha' hb' (by omega) hm' (by omega) (by omega)
              · rw [e1, e3, e4]
                have hc : compP (⟨k, 0, []⟩, ⟨0, k, []⟩) = [⟨0, k, []⟩] := by simp [compP, isDropP, isKeepP, k0]
                rw [hc, ← den_drop N _ i k s]
                exact ih _ _ (i + k) _ ha' hb' (by omega) hm' (by omega) (by omega)
            · have lp' := lp' hpu
              rw [e2] at hm ⊢
              rw [List.length_append, putC_len] at hm
              have hm' : ((midP i ((cutP p k).2 ++ az)).length : Int) = longP ((cutP q k).2 ++ bs) := by omega
              rcases end_cut hq1 hu k0 kq (putC u) (midP i ((cutP p k).2 ++ az)) (by rw [putC_len]; exact hul) bs with ⟨e3, e4⟩ | ⟨e3, e4⟩
              · rw [e1, e3, e4, den_puts]
                have hc : compP (⟨0, 0, u⟩, ⟨k, 0, []⟩) = [⟨0, 0, u⟩] := by simp [compP, isDropP, isKeepP, k0]
                rw [hc]
                exact ih _ _ i _ ha' hb' hi hm' (by omega) (by omega)
              · rw [e1, e3, e4]
                have hc : compP (⟨0, 0, u⟩, ⟨0, k, []⟩) = [] := by simp [compP, isDropP, isKeepP, isPutP]
                rw [hc]
                exact ih _ _ i _ ha' hb' hi hm' (by omega) (by omega)
end Go.Proofs.YtldhbjmillfjgabGreatDoor

namespace Go.Proofs.YtldhbjmillfjgabGreatDoor
set_option linter.unusedVariables false

/-- What a reading of parts must keep, that a least form is read alike. -/
structure ActP {X : Type} (act : X → Pt → X) : Prop where
  none : ∀ x, act x ⟨0, 0, []⟩ = x
  puts : ∀ x u v, act (act x ⟨0, 0, u⟩) ⟨0, 0, v⟩ = act x ⟨0, 0, u ++ v⟩
  drops : ∀ x (a b : Int), 0 ≤ a → 0 ≤ b → act (act x ⟨0, a, []⟩) ⟨0, b, []⟩ = act x ⟨0, a + b, []⟩
  keeps : ∀ x (a b : Int), 0 < a → 0 < b → act (act x ⟨a, 0, []⟩) ⟨b, 0, []⟩ = act x ⟨a + b, 0, []⟩
  split : ∀ x k d u, act x ⟨k, d, u⟩ = act (act (act x ⟨0, 0, u⟩) ⟨0, d, []⟩) ⟨k, 0, []⟩
  swap : ∀ x d u, act (act x ⟨0, d, []⟩) ⟨0, 0, u⟩ = act (act x ⟨0, 0, u⟩) ⟨0, d, []⟩
theorem act_tell {X : Type} {act : X → Pt → X} (h : ActP act) (s : NSt) (x : X) : (tellP s).foldl act x = act (act (s.out.foldl act x) ⟨0, 0, s.put⟩) ⟨0, s.drop, []⟩ := by
  unfold tellP
  rw [List.foldl_append, List.foldl_append]
  by_cases hp : s.put = [] <;> by_cases hd : s.drop = 0 <;> simp [hp, hd, h.none]
theorem act_push {X : Type} {act : X → Pt → X} (h : ActP act) (l : List Pt) (k : Int) (hk : 0 < k) (x : X) : (pushKeep l k).foldl act x = act (l.foldl act x) ⟨k, 0, []⟩ := by
  unfold pushKeep
  cases hq : l.getLast? with
  | none => simp
  | some q =>
    simp only
    split
    · rename_i hq0
      obtain ⟨init, rfl⟩ : ∃ init, l = init ++ [q] := List.getLast?_eq_some_iff.1 hq
      rw [List.dropLast_concat, List.foldl_append, List.foldl_append]
      simp only [List.foldl_cons, List.foldl_nil]
      rw [h.split _ (q.keep + k), h.split _ q.keep q.drop q.put, h.keeps _ _ _ hq0 hk]
    · simp
theorem act_add {X : Type} {act : X → Pt → X} (h : ActP act) (s : NSt) (p : Pt) (hs : 0 ≤ s.drop) (hk : 0 ≤ p.keep) (hd : 0 ≤ p.drop) (x : X) : (tellP (addP s p)).foldl act x = act ((tellP s).foldl act x) p := by
  have e1 : act ((tellP s).foldl act x) p = act (act (act (s.out.foldl act x) ⟨0, 0, s.put ++ p.put⟩) ⟨0, s.drop + p.drop, []⟩) ⟨p.keep, 0, []⟩ := by
    rw [act_tell h, h.split _ p.keep p.drop p.put, h.swap, h.puts, h.drops _ _ _ hs hd]
  rw [e1]
  unfold addP
  split
  · rename_i h0
    rw [act_tell h, h0, h.none]
  · rw [tellP_done, act_push h _ _ (by omega), act_tell h]
theorem act_norm {X : Type} {act : X → Pt → X} (h : ActP act) (ps : List Pt) (hs : ∀ p ∈ ps, 0 ≤ p.keep ∧ 0 ≤ p.drop) (x : X) : (normP ps).foldl act x = ps.foldl act x := by
  have key : ∀ (ps : List Pt), (∀ p ∈ ps, 0 ≤ p.keep ∧ 0 ≤ p.drop) → ∀ s, OneS s → (tellP (ps.foldl addP s)).foldl act x = ps.foldl act ((tellP s).foldl act x) := by
    intro ps
    induction ps with
    | nil => intros; rfl
    | cons p ps ih =>
      intro hs s h1
      have hp := hs p (by simp)
      rw [List.foldl_cons, ih (fun q hq => hs q (by simp [hq])) _ (add_one h1 p hp.1 hp.2), act_add h s p h1.drop hp.1 hp.2]
      rfl
  exact key ps hs nst0 ⟨by simp [nst0], by simp [nst0]⟩

def actM (x : List Cel × Int) (p : Pt) : List Cel × Int := (x.1 ++ (putC p.put ++ fromC (x.2 + p.drop) p.keep.toNat), x.2 + p.drop + p.keep)
def actE (x : List Cel × List Cel) (p : Pt) : List Cel × List Cel := (x.1 ++ (putC p.put ++ (x.2.drop p.drop.toNat).take p.keep.toNat), (x.2.drop p.drop.toNat).drop p.keep.toNat)
theorem actM_ok : ActP actM := by
  constructor
  · intro x; simp [actM, putC, fromC]
  · intro x u v; simp [actM, putC_append, fromC]
  · intro x a b _ _; simp [actM, fromC, putC]; omega
  · intro x a b ha hb
    simp only [actM, putC, List.map_nil, List.nil_append, Int.add_zero]
    rw [show (a + b).toNat = a.toNat + b.toNat by omega, fromC_append, List.append_assoc, show x.2 + (a.toNat : Int) = x.2 + a by omega]
    simp; omega
  · intro x k d u; simp [actM, fromC, putC]
  · intro x d u; simp [actM, fromC, putC]
theorem actE_ok : ActP actE := by
  constructor
  · intro x; simp [actE, putC]
  · intro x u v; simp [actE, putC_append]
  · intro x a b ha hb
    simp only [actE, putC, List.map_nil, Int.toNat_zero, List.take_zero, List.append_nil, List.drop_drop, Nat.add_zero]
    rw [show a.toNat + b.toNat = (a + b).toNat by omega]
  · intro x a b ha hb
    simp only [actE, putC, List.map_nil, List.nil_append, Int.toNat_zero, List.drop_zero, List.drop_drop, List.append_assoc]
    rw [show (a + b).toNat = a.toNat + b.toNat by omega, List.take_add]
    simp only [Nat.add_zero]
  · intro x k d u; simp [actE, putC]
  · intro x d u; simp [actE, putC]
theorem actM_mid : ∀ (ps : List Pt), (∀ p ∈ ps, oneP p) → ∀ (l : List Cel) (i : Int), ps.foldl actM (l, i) = (l ++ midP i ps, i + longP ps)
  | [], _, l, i => by simp [midP, longP]
  | p :: ps, h, l, i => by
    have ih := actM_mid ps (fun q hq => h q (by simp [hq]))
    rw [List.foldl_cons, actM, ih]
    have hL : longP (p :: ps) = lenP p + longP ps := by simp [longP]
    rw [hL]
    rcases one_three (h p (by simp)) with ⟨u, hu, rfl⟩ | ⟨m, rfl⟩ | ⟨m, rfl⟩
    · simp [midP, fromC, lenP, putC]
    · simp [midP, lenP, putC]; omega
    · simp [midP, fromC, lenP, putC]; omega
theorem actE_end : ∀ (ps : List Pt), (∀ p ∈ ps, oneP p) → ∀ (l mid : List Cel), (ps.foldl actE (l, mid)).1 = l ++ endP mid ps
  | [], _, l, mid => by simp [endP]
  | p :: ps, h, l, mid => by
    have ih := actE_end ps (fun q hq => h q (by simp [hq]))
    rw [List.foldl_cons, actE, ih]
    rcases one_three (h p (by simp)) with ⟨u, hu, rfl⟩ | ⟨m, rfl⟩ | ⟨m, rfl⟩
    · simp [endP, putC]
    · simp [endP, putC]
    · simp [endP, putC]
theorem ones_sound {ps : List Pt} (h : ∀ p ∈ ps, oneP p) : ∀ p ∈ ps, 0 ≤ p.keep ∧ 0 ≤ p.drop := by
  intro p hp
  rcases h p hp with ⟨h1, h2, h3⟩ | ⟨h1, h2, h3⟩ | ⟨h1, h2, h3⟩ <;> exact ⟨by omega, by omega⟩
theorem mid_norm (ps : List Pt) (h : ∀ p ∈ ps, oneP p) : midP 0 (normP ps) = midP 0 ps := by
  have e := act_norm actM_ok ps (ones_sound h) ([], 0)
  rw [actM_mid ps h, actM_mid _ (norm_one ps (ones_sound h))] at e
  simpa using congrArg Prod.fst e
theorem end_norm (ps : List Pt) (h : ∀ p ∈ ps, oneP p) (mid : List Cel) : endP mid (normP ps) = endP mid ps := by
  have e := congrArg Prod.fst (act_norm actE_ok ps (ones_sound h) ([], mid))
  rw [actE_end ps h, actE_end _ (norm_one ps (ones_sound h))] at e
  simpa using e

/-- So many bytes dropped, what is put ahead of the first. -/
def dropG (acc : List UInt8) : Nat → (List UInt8 → GSt) → GSt
  | 0, f => f acc
  | m + 1, f => ((acc, true) :: (dropG [] m f).1, (dropG [] m f).2)
def gapE (n : Int) : List Cel → List UInt8 → Int → GSt
  | [], acc, pos => dropG acc (n - pos).toNat fun acc => ([], acc)
  | (i, c) :: E, acc, pos => if i < 0 then gapE n E (acc ++ [c]) pos else dropG acc (i - pos).toNat fun acc => ((acc, false) :: (gapE n E [] (i + 1)).1, (gapE n E [] (i + 1)).2)
/-- The places rise, and are places. -/
def okC (n : Int) : List Cel → Int → Prop
  | [], pos => pos ≤ n
  | (i, c) :: E, pos => if i < 0 then okC n E pos else pos ≤ i ∧ i < n ∧ okC n E (i + 1)
def denG (s : NSt) (g : GSt) : NSt := addP (g.1.foldl gapAdd s) ⟨0, 0, g.2⟩
theorem den_dropG (f : List UInt8 → GSt) (K : NSt → NSt) (hK : ∀ acc s, denG s (f acc) = K (addP s ⟨0, 0, acc⟩)) : ∀ (m : Nat) (acc : List UInt8) (s : NSt), denG s (dropG acc m f) = K (addP (addP s ⟨0, 0, acc⟩) ⟨0, m, []⟩)
  | 0, acc, s => by
    rw [show ((0 : Nat) : Int) = 0 from rfl, addP_none]
    exact hK acc s
  | m + 1, acc, s => by
    show denG (gapAdd s (acc, true)) (dropG [] m f) = _
    rw [den_dropG f K hK m]
    show K (addP (addP (addP (addP s ⟨0, 0, acc⟩) ⟨0, 1, []⟩) ⟨0, 0, []⟩) ⟨0, m, []⟩) = _
    rw [addP_none, addP_drops]
    congr 3
    omega
theorem den_gapE (n : Int) : ∀ (E : List Cel) (acc : List UInt8) (pos : Int) (s : NSt), okC n E pos → denG s (gapE n E acc pos) = denC n E pos (addP s ⟨0, 0, acc⟩)
  | [], acc, pos, s, h => by
    have h : pos ≤ n := h
    rw [gapE, den_dropG _ id (fun acc s => rfl), denC]
    show addP _ _ = _
    rw [Int.toNat_of_nonneg (by omega)]
  | (i, c) :: E, acc, pos, s, h => by
    rw [okC] at h
    rw [gapE, denC]
    by_cases hi : i < 0
    · rw [if_pos hi] at h ⊢
      rw [if_pos hi, den_gapE n E _ pos s h, addP_puts]
    · rw [if_neg hi] at h ⊢
      rw [if_neg hi, den_dropG _ (fun s => denC n E (i + 1) (addP s ⟨1, 0, []⟩))]
      · rw [Int.toNat_of_nonneg (by omega)]
      · intro acc s
        have := den_gapE n E [] (i + 1) (gapAdd s (acc, false)) h.2.2
        rw [addP_none] at this
        exact this

/-- The document's rows of gaps: what is put, what is dropped. -/
structure CSt where
  put : List (List UInt8)
  drop : List Bool
  last : Nat
def stepC (s : CSt) (x : Cel) : CSt := if x.1 < 0 then ⟨s.put.set s.last (s.put[s.last]?.getD [] ++ [x.2]), s.drop, s.last⟩ else ⟨s.put, s.drop.set x.1.toNat false, (x.1 + 1).toNat⟩
def strsG (g : GSt) : List (List UInt8) := g.1.map (·.1) ++ [g.2]
def boolsG (g : GSt) : List Bool := g.1.map (·.2)
theorem rows_gapE (n : Nat) : ∀ (E : List Cel) (m : Nat) (P0 : List (List UInt8)) (D0 : List Bool) (acc : List UInt8) (pos : Nat), P0.length = pos → D0.length = pos → pos + m = n → okC n E pos →
    (E.foldl stepC ⟨P0 ++ acc :: List.replicate m [], D0 ++ List.replicate m true, pos⟩).put = P0 ++ strsG (gapE n E acc pos) ∧ (E.foldl stepC ⟨P0 ++ acc :: List.replicate m [], D0 ++ List.replicate m true, pos⟩).drop = D0 ++ boolsG (gapE n E acc pos)
  | [], m, P0, D0, acc, pos, hP, hD, hm, h => by
    have key : ∀ (m : Nat) (acc : List UInt8), strsG (dropG acc m fun acc => ([], acc)) = acc :: List.replicate m [] ∧ boolsG (dropG acc m fun acc => ([], acc)) = List.replicate m true := by
      intro m
      induction m with
      | zero => intro acc; exact ⟨rfl, rfl⟩
      | succ m ih =>
        intro acc
        obtain ⟨h1, h2⟩ := ih []
        refine ⟨?_, ?_⟩
        · show acc :: strsG (dropG [] m fun acc => ([], acc)) = _
          rw [h1]; rfl
        · show true :: boolsG (dropG [] m fun acc => ([], acc)) = _
          rw [h2]; rfl
    rw [gapE, show ((n : Int) - (pos : Int)).toNat = m by omega, (key m acc).1, (key m acc).2]
    exact ⟨rfl, rfl⟩
  | (i, c) :: E, m, P0, D0, acc, pos, hP, hD, hm, h => by
    rw [okC] at h
    rw [List.foldl_cons, gapE]
    by_cases hi : i < 0
    · rw [if_pos hi] at h ⊢
      have e : stepC ⟨P0 ++ acc :: List.replicate m [], D0 ++ List.replicate m true, pos⟩ (i, c) = ⟨P0 ++ (acc ++ [c]) :: List.replicate m [], D0 ++ List.replicate m true, pos⟩ := by
        unfold stepC
        rw [if_pos hi]
        congr 1
        subst hP
        simp
      rw [e]
      exact rows_gapE n E m P0 D0 (acc ++ [c]) pos hP hD hm h
    · rw [if_neg hi] at h ⊢
      obtain ⟨h1, h2, h3⟩ := h
      obtain ⟨j, rfl⟩ : ∃ j : Nat, i = ((pos + j : Nat) : Int) := ⟨(i - pos).toNat, by omega⟩
      rw [show (((pos + j : Nat) : Int) - (pos : Int)).toNat = j by omega]
      have hjn : pos + j < n := by omega
      clear h1 h2 hi
      revert P0 D0 acc pos
      induction j generalizing m with
      | zero =>
        intro P0 D0 acc pos hP hD hm h3 hjn
        obtain ⟨m, rfl⟩ : ∃ k, m = k + 1 := ⟨m - 1, by omega⟩
        have e : stepC ⟨P0 ++ acc :: List.replicate (m + 1) [], D0 ++ List.replicate (m + 1) true, pos⟩ (((pos + 0 : Nat) : Int), c) = ⟨(P0 ++ [acc]) ++ [] :: List.replicate m [], (D0 ++ [false]) ++ List.replicate m true, pos + 1⟩ := by
          unfold stepC
          rw [if_neg (by show ¬ ((pos + 0 : Nat) : Int) < 0; omega)]
          subst hD
          simp [List.replicate_succ]
        rw [e]
        have := rows_gapE n E m (P0 ++ [acc]) (D0 ++ [false]) [] (pos + 1) (by simp [hP]) (by simp [hD]) (by omega) (by rw [show (((pos + 0 : Nat) : Int) + 1) = ((pos + 1 : Nat) : Int) by omega] at h3; exact h3)
        rw [this.1, this.2]
        rw [show (((pos + 0 : Nat) : Int) + 1) = ((pos + 1 : Nat) : Int) by omega]
        simp [dropG, strsG, boolsG]
      | succ j ih =>
        intro P0 D0 acc pos hP hD hm h3 hjn
        obtain ⟨m, rfl⟩ : ∃ k, m = k + 1 := ⟨m - 1, by omega⟩
        have e : stepC ⟨P0 ++ acc :: List.replicate (m + 1) [], D0 ++ List.replicate (m + 1) true, pos⟩ (((pos + (j + 1) : Nat) : Int), c) = stepC ⟨(P0 ++ [acc]) ++ [] :: List.replicate m [], (D0 ++ [true]) ++ List.replicate m true, pos + 1⟩ (((pos + 1 + j : Nat) : Int), c) := by
          rw [show pos + (j + 1) = pos + 1 + j by omega]
          unfold stepC
          rw [if_neg (by show ¬ ((pos + 1 + j : Nat) : Int) < 0; omega), if_neg (by show ¬ ((pos + 1 + j : Nat) : Int) < 0; omega)]
          simp [List.replicate_succ]
        rw [e]
        have hx : pos + (j + 1) = pos + 1 + j := by omega
        have := ih m (P0 ++ [acc]) (D0 ++ [true]) [] (pos + 1) (by simp [hP]) (by simp [hD]) (by omega) (by rw [← hx]; exact h3) (by omega)
        rw [this.1, this.2, hx]
        simp [dropG, strsG, boolsG]

/-- The cells of a composition are places that rise. -/
theorem ok_puts (n : Int) (E : List Cel) (pos : Int) : ∀ u, okC n (putC u ++ E) pos ↔ okC n E pos
  | [] => Iff.rfl
  | c :: u => by
    show okC n ((-1, c) :: (putC u ++ E)) pos ↔ _
    rw [okC, if_pos (by decide)]
    exact ok_puts n E pos u
theorem ok_mono (n : Int) : ∀ (E : List Cel) (a b : Int), a ≤ b → okC n E b → okC n E a
  | [], a, b, h, hk => Int.le_trans h hk
  | (i, c) :: E, a, b, h, hk => by
    rw [okC] at hk ⊢
    by_cases hi : i < 0
    · rw [if_pos hi] at hk ⊢; exact ok_mono n E a b h hk
    · rw [if_neg hi] at hk ⊢; exact ⟨by omega, hk.2⟩
/-- What is left where some is taken out is in order, too. -/
theorem ok_sub (n : Int) : ∀ (E F : List Cel), List.Sublist F E → ∀ pos, okC n E pos → okC n F pos := by
  intro E F h
  induction h with
  | slnil => intro pos h; exact h
  | @cons F E x h ih =>
    intro pos hk
    obtain ⟨i, c⟩ := x
    rw [okC] at hk
    by_cases hi : i < 0
    · rw [if_pos hi] at hk; exact ih pos hk
    · rw [if_neg hi] at hk; exact ok_mono n F pos (i + 1) (by omega) (ih _ hk.2.2)
  | @cons_cons F E x h ih =>
    intro pos hk
    obtain ⟨i, c⟩ := x
    rw [okC] at hk ⊢
    by_cases hi : i < 0
    · rw [if_pos hi] at hk ⊢; exact ih pos hk
    · rw [if_neg hi] at hk ⊢; exact ⟨hk.1, hk.2.1, ih _ hk.2.2⟩
theorem ok_from (n : Int) (E : List Cel) : ∀ (k : Nat) (pos : Int), 0 ≤ pos → pos + k ≤ n → okC n E (pos + k) → okC n (fromC pos k ++ E) pos
  | 0, pos, h0, hn, h => by simpa [fromC] using h
  | k + 1, pos, h0, hn, h => by
    show okC n ((pos, 0) :: (fromC (pos + 1) k ++ E)) pos
    rw [okC, if_neg (by omega)]
    exact ⟨by omega, by omega, ok_from n E k (pos + 1) (by omega) (by omega) (by rw [show pos + 1 + (k : Int) = pos + (k + 1 : Nat) by omega]; exact h)⟩
theorem ok_mid (n : Int) : ∀ (ps : List Pt) (pos : Int), (∀ p ∈ ps, oneP p) → 0 ≤ pos → pos + longP ps = n → okC n (midP pos ps) pos
  | [], pos, h, h0, hn => by
    show pos ≤ n
    simp [longP] at hn; omega
  | p :: ps, pos, h, h0, hn => by
    have hL : longP (p :: ps) = lenP p + longP ps := by simp [longP]
    have hnn : 0 ≤ longP ps := by
      have := lensU_long ps (ones_sound fun q hq => h q (by simp [hq]))
      omega
    have h1 := ones_sound h p (by simp)
    unfold midP
    have ih := ok_mid n ps (pos + p.keep + p.drop) (fun q hq => h q (by simp [hq])) (by omega) (by rw [← hn, hL]; unfold lenP; omega)
    unfold lenP at hL
    refine ok_from n _ _ pos h0 (by omega) ?_
    rw [ok_puts]
    exact ok_mono n _ _ _ (by omega) ih
/-- Cells without what is put. -/
theorem ok_ends (n : Int) : ∀ (ps : List Pt) (mid : List Cel) (pos : Int), (∀ p ∈ ps, 0 ≤ p.keep ∧ 0 ≤ p.drop) → okC n mid pos → okC n (endP mid ps) pos := by
  have key : ∀ (F : List Cel) (A : List Cel) (pos : Int), okC n (A ++ F) pos → ∀ G, (∀ q, okC n F q → okC n G q) → okC n (A ++ G) pos := by
    intro F A
    induction A with
    | nil => intro pos h G hG; exact hG pos h
    | cons x A ih =>
      intro pos h G hG
      obtain ⟨i, c⟩ := x
      rw [List.cons_append, okC] at h ⊢
      by_cases hi : i < 0
      · rw [if_pos hi] at h ⊢; exact ih pos h G hG
      · rw [if_neg hi] at h ⊢; exact ⟨h.1, h.2.1, ih _ h.2.2 G hG⟩
  intro ps
  induction ps with
  | nil =>
    intro mid pos _ h
    exact ok_sub n mid [] (List.nil_sublist _) pos h
  | cons p ps ih =>
    intro mid pos hps h
    have hpp := hps p (by simp)
    unfold endP
    have h' : okC n (mid.take p.keep.toNat ++ mid.drop p.keep.toNat) pos := by rw [List.take_append_drop]; exact h
    refine key _ _ pos h' _ fun q hq => ?_
    rw [ok_puts]
    refine ih _ q (fun q hq => hps q (by simp [hq])) (ok_sub n _ _ ?_ q hq)
    have : mid.drop (p.keep + p.drop).toNat = (mid.drop p.keep.toNat).drop ((p.keep + p.drop).toNat - p.keep.toNat) := by rw [List.drop_drop]; congr 1; omega
    rw [this]
    exact List.drop_sublist _ _
end Go.Proofs.YtldhbjmillfjgabGreatDoor

namespace Go.Proofs.YtldhbjmillfjgabGreatDoor
set_option linter.unusedVariables false

def measP (la : Pt → Bool) (A : List Pt) : Int := (A.map fun p => if la p then 0 else lengthP p).sum
theorem meas_cons (la : Pt → Bool) (p : Pt) (A : List Pt) : measP la (p :: A) = (if la p then 0 else lengthP p) + measP la A := by simp [measP]
theorem meas_append (la : Pt → Bool) (A B : List Pt) : measP la (A ++ B) = measP la A + measP la B := by simp [measP]
theorem meas_nonneg (la : Pt → Bool) : ∀ (A : List Pt), (∀ p ∈ A, oneP p) → 0 ≤ measP la A
  | [], _ => by simp [measP]
  | p :: A, h => by
    have h1 := length_pos (h p (by simp))
    have h2 := meas_nonneg la A fun q hq => h q (by simp [hq])
    rw [meas_cons]
    split <;> omega
def kindOk (la : Pt → Bool) : Prop := ∀ p (n : Int), oneP p → la p = false → ∀ r ∈ (cutP p n).2, la r = false
theorem kind_put : kindOk isPutP := by
  intro p n hp hl r hr
  have hu : p.put = [] := by simpa [isPutP] using hl
  unfold cutP at hr
  split at hr
  · cases hr
  · split at hr
    · obtain rfl := List.mem_singleton.1 hr; simp [isPutP, hu]
    · split at hr
      · obtain rfl := List.mem_singleton.1 hr; simp [isPutP, hu]
      · obtain rfl := List.mem_singleton.1 hr; simp [isPutP, hu]
theorem kind_drop : kindOk isDropP := by
  intro p n hp hl r hr
  have hu : ¬ 0 < p.drop := by simpa [isDropP] using hl
  unfold cutP at hr
  split at hr
  · cases hr
  · split at hr
    · obtain rfl := List.mem_singleton.1 hr; simpa [isDropP] using hu
    · obtain rfl := List.mem_singleton.1 hr; simpa [isDropP] using hu
def okX (x : Pt × Pt) : Prop := (oneP x.1 ∨ x.1 = noP) ∧ (oneP x.2 ∨ x.2 = noP)
def pairW (l : List (Pt × Pt)) : Int := (l.map fun x => lengthP x.1 + lengthP x.2).sum
theorem meas_cut {la : Pt → Bool} (hk : kindOk la) {p : Pt} (hp : oneP p) (hl : la p = false) {n : Nat} (h0 : 0 < n) (hn : (n : Int) ≤ lengthP p) (A : List Pt) : measP la (p :: A) = n + measP la ((cutP p n).2 ++ A) := by
  rw [meas_cons, meas_append, if_neg (by rw [hl]; simp)]
  obtain ⟨c1, c2, c3, c4⟩ := cut_one hp (n := n) (by omega) hn
  have hkk := hk p n hp hl
  have hlen : (cutP p n).2.length ≤ 1 := by
    unfold cutP
    split
    · simp
    · split
      · simp
      · split <;> simp
  generalize (cutP p n).2 = R at *
  match R, hlen with
  | [], _ => have := c4.1 rfl; simp [measP]; omega
  | [r], _ =>
    have h1 := c3 r (by simp)
    have h2 := hkk r (by simp)
    simp only [measP, List.map_cons, List.map_nil, List.sum_cons, List.sum_nil, h2]
    simp
    omega
theorem side_ok {la lb : Pt → Bool} (hka : kindOk la) (hkb : kindOk lb) : ∀ (f : Nat) (A B : List Pt), (∀ p ∈ A, oneP p ∧ lengthP p < 1000000000) → (∀ p ∈ B, oneP p ∧ lengthP p < 1000000000) → measP la A = measP lb B → weight A + weight B ≤ f →
    Side la lb A B (sideP la lb f A B) ∧ (∀ x ∈ sideP la lb f A B, okX x) ∧ pairW (sideP la lb f A B) = weight A + weight B ∧ (sideP la lb f A B).length ≤ weight A + weight B := by
  have hnil : ∀ (l : List Pt), (∀ p ∈ l, oneP p ∧ lengthP p < 1000000000) → weight l = 0 → l = [] := by
    intro l hl hw
    cases l with
    | nil => rfl
    | cons p l =>
      have := length_pos (hl p (by simp)).1
      rw [weight_cons] at hw
      omega
  have hlen0 : lengthP noP = 0 := by simp [lengthP, noP]
  have hw0 : weight [] = 0 := by simp [weight]
  have hpw : ∀ x l, pairW (x :: l) = lengthP x.1 + lengthP x.2 + pairW l := by intro x l; simp [pairW]
  intro f
  induction f with
  | zero =>
    intro A B ha hb _ hw
    obtain rfl := hnil A ha (by omega)
    obtain rfl := hnil B hb (by omega)
    exact ⟨.nil, by simp [sideP], by simp [sideP, pairW, weight], by simp [sideP]⟩
  | succ f ih =>
    intro A B ha hb hm hw
    cases A with
    | nil =>
      cases B with
      | nil => exact ⟨.nil, by simp [sideP], by simp [sideP, pairW, weight], by simp [sideP]⟩
      | cons q B =>
        have hq := (hb q (by simp)).1
        have hq0 := length_pos hq
        have hb' : ∀ p ∈ B, oneP p ∧ lengthP p < 1000000000 := fun p hp => hb p (by simp [hp])
        have hn2 := meas_nonneg lb B fun p hp => (hb' p hp).1
        have hm' : (0 : Int) = measP lb (q :: B) := hm
        rw [meas_cons] at hm'
        have hl : lb q = true := by
          cases h : lb q with
          | true => rfl
          | false => rw [h] at hm'; simp at hm'; omega
        rw [hl] at hm'
        have e : sideP la lb (f + 1) [] (q :: B) = (noP, q) :: sideP la lb f [] B := by rw [sideP, if_pos hl]
        rw [weight_cons] at hw
        obtain ⟨i1, i2, i3, i4⟩ := ih [] B (by simp) hb' (by simpa [measP] using hm') (by omega)
        rw [e, weight_cons, hpw]
        refine ⟨.last hl i1, ?_, by simp only [hlen0]; omega, by simp only [List.length_cons]; omega⟩
        intro x hx
        rcases List.mem_cons.1 hx with rfl | hx
        · exact ⟨.inr rfl, .inl hq⟩
        · exact i2 x hx
    | cons p A =>
      have hp := (ha p (by simp)).1
      have hp0 := length_pos hp
      have ha' : ∀ p ∈ A, oneP p ∧ lengthP p < 1000000000 := fun q hq => ha q (by simp [hq])
      cases hl : la p with
      | true =>
        have e : sideP la lb (f + 1) (p :: A) B = (p, noP) :: sideP la lb f A B := by cases B <;> (rw [sideP]; rw [if_pos hl])
        rw [meas_cons, hl] at hm
        rw [weight_cons] at hw
        obtain ⟨i1, i2, i3, i4⟩ := ih A B ha' hb (by simpa using hm) (by omega)
        rw [e, weight_cons, hpw]
        refine ⟨.left hl i1, ?_, by simp only [hlen0]; omega, by simp only [List.length_cons]; omega⟩
        intro x hx
        rcases List.mem_cons.1 hx with rfl | hx
        · exact ⟨.inl hp, .inr rfl⟩
        · exact i2 x hx
      | false =>
        have hn1 := meas_nonneg la A fun p hp => (ha' p hp).1
        cases B with
        | nil =>
          rw [meas_cons, hl] at hm
          simp [measP] at hm
          unfold measP at hn1
          omega
        | cons q B =>
          have hq := (hb q (by simp)).1
          have hq0 := length_pos hq
          have hb' : ∀ p ∈ B, oneP p ∧ lengthP p < 1000000000 := fun p hp => hb p (by simp [hp])
          cases hlq : lb q with
          | true =>
            have e : sideP la lb (f + 1) (p :: A) (q :: B) = (noP, q) :: sideP la lb f (p :: A) B := by rw [sideP, if_neg (by rw [hl]; simp), if_pos hlq]
            rw [meas_cons lb, hlq] at hm
            rw [weight_cons q] at hw
            obtain ⟨i1, i2, i3, i4⟩ := ih (p :: A) B ha hb' (by simpa using hm) (by omega)
            rw [e, weight_cons q, hpw]
            refine ⟨.right hl hlq i1, ?_, by simp only [hlen0]; omega, by simp only [List.length_cons]; omega⟩
            intro x hx
            rcases List.mem_cons.1 hx with rfl | hx
            · exact ⟨.inr rfl, .inl hq⟩
            · exact i2 x hx
          | false =>
            obtain ⟨k, hk⟩ : ∃ k : Nat, min (lengthP p) (lengthP q) = (k : Int) := ⟨(min (lengthP p) (lengthP q)).toNat, by omega⟩
            have e : sideP la lb (f + 1) (p :: A) (q :: B) = ((cutP p k).1, (cutP q k).1) :: sideP la lb f ((cutP p k).2 ++ A) ((cutP q k).2 ++ B) := by
              rw [sideP, if_neg (by rw [hl]; simp), if_neg (by rw [hlq]; simp), hk]
            have k0 : 0 < k := by omega
            have kp : (k : Int) ≤ lengthP p := by omega
            have kq : (k : Int) ≤ lengthP q := by omega
            have w1 := (cut_weigh hp k0 kp A).1
            have w2 := (cut_weigh hq k0 kq B).1
            have m1 := meas_cut hka hp hl k0 kp A
            have m2 := meas_cut hkb hq hlq k0 kq B
            obtain ⟨c1, c2, c3, _⟩ := cut_one hp (n := k) (by omega) kp
            obtain ⟨d1, d2, d3, _⟩ := cut_one hq (n := k) (by omega) kq
            have bp := (ha p (by simp)).2
            have bq := (hb q (by simp)).2
            obtain ⟨i1, i2, i3, i4⟩ := ih ((cutP p k).2 ++ A) ((cutP q k).2 ++ B) (fun x hx => by
              rcases List.mem_append.1 hx with hx | hx
              · exact ⟨(c3 x hx).1, by rw [(c3 x hx).2]; omega⟩
              · exact ha' x hx) (fun x hx => by
              rcases List.mem_append.1 hx with hx | hx
              · exact ⟨(d3 x hx).1, by rw [(d3 x hx).2]; omega⟩
              · exact hb' x hx) (by omega) (by omega)
            rw [e, hpw]
            refine ⟨.both k hl hlq hp hq k0 hk bp bq i1, ?_, by simp only [c2, d2]; omega, by simp only [List.length_cons]; omega⟩
            intro x hx
            rcases List.mem_cons.1 hx with rfl | hx
            · exact ⟨.inl c1, .inl d1⟩
            · exact i2 x hx

/-- What is taken of a pair: one part at most, no heavier than the pair. -/
def takeOk (t : Pt × Pt → List Pt) : Prop := ∀ x, okX x → (t x).length ≤ 1 ∧ ∀ p ∈ t x, soundP p ∧ wtP p ≤ lengthP x.1 + lengthP x.2
theorem part_ok {p : Pt} (h : oneP p ∨ p = noP) : soundP p ∧ wtP p = lengthP p ∧ 0 ≤ lengthP p ∧ (p.put.length : Int) ≤ lengthP p := by
  rcases h with h | rfl
  · have h1 := ones_sound (ps := [p]) (by simpa using h) p (by simp)
    refine ⟨h1, rfl, by have := length_pos h; omega, ?_⟩
    unfold lengthP; omega
  · exact ⟨⟨by simp [noP], by simp [noP]⟩, rfl, by simp [lengthP, noP], by simp [lengthP, noP]⟩
theorem take_turn : takeOk turnP := by
  intro x ⟨h1, h2⟩
  obtain ⟨a1, a2, a3, a4⟩ := part_ok h1
  obtain ⟨b1, b2, b3, b4⟩ := part_ok h2
  unfold turnP
  split
  · refine ⟨by simp, fun p hp => ?_⟩
    obtain rfl := List.mem_singleton.1 hp
    refine ⟨⟨by simp, by simp⟩, ?_⟩
    simp only [wtP, List.length_nil]
    omega
  · split
    · refine ⟨by simp, fun p hp => ?_⟩
      obtain rfl := List.mem_singleton.1 hp
      exact ⟨a1, by omega⟩
    · exact ⟨by simp, by simp⟩
theorem take_turn2 : takeOk fun x => turnP (x.2, x.1) := by
  intro x ⟨h1, h2⟩
  have := take_turn (x.2, x.1) ⟨h2, h1⟩
  exact ⟨this.1, fun p hp => ⟨(this.2 p hp).1, by have := (this.2 p hp).2; simp only at this; omega⟩⟩
theorem take_comp : takeOk compP := by
  intro x ⟨h1, h2⟩
  obtain ⟨a1, a2, a3, a4⟩ := part_ok h1
  obtain ⟨b1, b2, b3, b4⟩ := part_ok h2
  unfold compP
  split
  · refine ⟨by simp, fun p hp => ?_⟩
    obtain rfl := List.mem_singleton.1 hp
    exact ⟨a1, by omega⟩
  · split
    · refine ⟨by simp, fun p hp => ?_⟩
      obtain rfl := List.mem_singleton.1 hp
      exact ⟨b1, by omega⟩
    · exact ⟨by simp, by simp⟩
theorem take_wts {t : Pt × Pt → List Pt} (ht : takeOk t) : ∀ (l : List (Pt × Pt)), (∀ x ∈ l, okX x) → wts (l.flatMap t) ≤ pairW l
  | [], _ => by simp [wts, pairW]
  | x :: l, h => by
    have ih := take_wts ht l fun y hy => h y (by simp [hy])
    obtain ⟨h1, h2⟩ := ht x (h x (by simp))
    have hx := h x (by simp)
    obtain ⟨_, _, a3, _⟩ := part_ok hx.1
    obtain ⟨_, _, b3, _⟩ := part_ok hx.2
    have e : pairW (x :: l) = lengthP x.1 + lengthP x.2 + pairW l := by simp [pairW]
    have e2 : wts (t x) ≤ lengthP x.1 + lengthP x.2 := by
      generalize t x = L at *
      match L, h1 with
      | [], _ => simp [wts]; omega
      | [p], _ => have := (h2 p (by simp)).2; simpa [wts] using this
    rw [List.flatMap_cons, e]
    unfold wts at ih e2 ⊢
    rw [List.map_append, List.sum_append]
    omega
theorem bdS_of {t : Pt × Pt → List Pt} (ht : takeOk t) {l : List (Pt × Pt)} (h : ∀ x ∈ l, okX x) (hw : pairW l < 1000000000) (hl : l.length < 10000000) : BdS t l nst0 0 0 :=
  ⟨bd0, by have := take_wts ht l h; omega, by omega, fun x hx p hp => ((ht x (h x hx)).2 p hp).1, fun x hx => (ht x (h x hx)).1⟩
end Go.Proofs.YtldhbjmillfjgabGreatDoor

namespace Go.Proofs.YtldhbjmillfjgabGreatDoor
open Go.RowKit
set_option linter.unusedVariables false
attribute [local go_sem] Oper.semAt_some

theorem sideI.tail1 {M a g1 g2 o c : Nat} {bx : List (Nat × Obj)} {w : World} {v2 : Value} {p : Pt} {A B : List Pt} {s : NSt} {W W' : World} (h : sideI M a g1 g2 bx w (.slice (some ⟨g1, o, none⟩) (A.length + 1) c) v2 (p :: A) B s W) (hb : Below W.heap.size W W') :
    sideI M a g1 g2 bx w (.slice (some ⟨g1, o + 3, none⟩) A.length (c - 1)) v2 A B s W' ∧ (c = 1 → sideI M a g1 g2 bx w (.slice (some ⟨g1, o, none⟩) A.length 0) v2 A B s W') := by
  obtain ⟨h1, h2⟩ := cut_rest h.r1 hb
  have hg := h.grow hb
  exact ⟨⟨hg.below, hg.g, h1, hg.r2, hg.b⟩, fun hc => ⟨hg.below, hg.g, h2 hc, hg.r2, hg.b⟩⟩
theorem sideI.tail2 {M a g1 g2 o c : Nat} {bx : List (Nat × Obj)} {w : World} {v1 : Value} {p : Pt} {A B : List Pt} {s : NSt} {W W' : World} (h : sideI M a g1 g2 bx w v1 (.slice (some ⟨g2, o, none⟩) (B.length + 1) c) A (p :: B) s W) (hb : Below W.heap.size W W') :
    sideI M a g1 g2 bx w v1 (.slice (some ⟨g2, o + 3, none⟩) B.length (c - 1)) A B s W' ∧ (c = 1 → sideI M a g1 g2 bx w v1 (.slice (some ⟨g2, o, none⟩) B.length 0) A B s W') := by
  obtain ⟨h1, h2⟩ := cut_rest h.r2 hb
  have hg := h.grow hb
  exact ⟨⟨hg.below, hg.g, hg.r1, h1, hg.b⟩, fun hc => ⟨hg.below, hg.g, hg.r1, h2 hc, hg.b⟩⟩
/-- What a round hands on. -/
def sideR (la lb : Pt → Bool) (t : Pt × Pt → List Pt) (M a g1 g2 : Nat) (bx : List (Nat × Obj)) (w : World) (S : NSt) (k : Nat) (u1 u2 : Value) (W : World) : Prop :=
  ∃ A B l s T n, l.length = k ∧ Side la lb A B l ∧ sideI M a g1 g2 bx w u1 u2 A B s W ∧ BdS t l s T n ∧ runS t l s = S
theorem sideR_next {la lb : Pt → Bool} {t : Pt × Pt → List Pt} {M a g1 g2 : Nat} {bx : List (Nat × Obj)} {w : World} {S : NSt} {u1 u2 : Value} {W W' : World} {A B : List Pt} {x : Pt × Pt} {l : List (Pt × Pt)} {s : NSt} {T : Int} {n : Nat}
    (hS : Side la lb A B l) (hI : sideI M a g1 g2 bx w u1 u2 A B s W) (hB : BdS t (x :: l) s T n) (hR : runS t (x :: l) s = S) (hg : gath M W' a ((t x).foldl addP s)) (hb : BelowG M a W W') (ho : boxesOk a g1 g2 bx) (h1 : a + 4 ≤ g1) (h2 : g1 < M) (h3 : a + 4 ≤ g2) (h4 : g2 < M) :
    sideR la lb t M a g1 g2 bx w S l.length u1 u2 W' :=
  ⟨A, B, l, _, _, _, rfl, hS, hI.took hb hg ho h1 h2 h3 h4, hB.tail, hR⟩

theorem box_set {w : World} {b : Nat} {y0 y1 y2 : Value} {T : TypeId} (h : w.heap[b]? = some (.cells #[y0, y1, y2] T (0, 0))) (x0 x1 x2 : Value) :
    (((w.setCell ⟨b, 0, none⟩ x0).setCell ⟨b, 1, none⟩ x1).setCell ⟨b, 2, none⟩ x2).heap[b]? = some (.cells #[x0, x1, x2] T (0, 0)) := by
  simp [World.setCell, Array.getElem?_modify, h]
theorem box_set_ne {w : World} {b k : Nat} {x0 x1 x2 : Value} (h : k ≠ b) : (((w.setCell ⟨b, 0, none⟩ x0).setCell ⟨b, 1, none⟩ x1).setCell ⟨b, 2, none⟩ x2).heap[k]? = w.heap[k]? := by
  rw [Below.heap_setCell _ _ _ _ (by show k ≠ b; exact h), Below.heap_setCell _ _ _ _ (by show k ≠ b; exact h), Below.heap_setCell _ _ _ _ (by show k ≠ b; exact h)]
theorem ButO.above3 {g b : Nat} {w W : World} (h : ButO g w W) (hb : w.heap.size ≤ b) (x0 x1 x2 : Value) : ButO g w (((W.setCell ⟨b, 0, none⟩ x0).setCell ⟨b, 1, none⟩ x1).setCell ⟨b, 2, none⟩ x2) :=
  h.trans' (by simp) (fun k hk => box_set_ne (by omega)) ⟨rfl, rfl, rfl⟩
/-- Every block but g1 and g2 that was there stands. -/
structure But2 (g1 g2 : Nat) (w w' : World) : Prop where
  os : w'.os = w.os
  tape : w'.tape = w.tape
  output : w'.output = w.output
  size : w.heap.size ≤ w'.heap.size
  block : ∀ k, k < w.heap.size → k ≠ g1 → k ≠ g2 → w'.heap[k]? = w.heap[k]?
theorem But2.of1 {g1 g2 : Nat} {w w' : World} (h : ButO g1 w w') : But2 g1 g2 w w' := ⟨h.os, h.tape, h.output, h.size, fun k hk hg _ => h.block k hk hg⟩
theorem But2.cut2 {g1 g2 : Nat} {a b c : World} (h : But2 g1 g2 a b) (k : ButO g2 b c) : But2 g1 g2 a c :=
  ⟨k.os.trans h.os, k.tape.trans h.tape, k.output.trans h.output, Nat.le_trans h.size k.size, fun i hi hg1 hg2 => (k.block i (Nat.lt_of_lt_of_le hi h.size) hg2).trans (h.block i hi hg1 hg2)⟩
theorem But2.above3 {g1 g2 b : Nat} {w W : World} (h : But2 g1 g2 w W) (hb : w.heap.size ≤ b) (x0 x1 x2 : Value) : But2 g1 g2 w (((W.setCell ⟨b, 0, none⟩ x0).setCell ⟨b, 1, none⟩ x1).setCell ⟨b, 2, none⟩ x2) :=
  ⟨h.os, h.tape, h.output, by simpa using h.size, fun k hk e1 e2 => (box_set_ne (by omega)).trans (h.block k hk e1 e2)⟩
theorem sideI.both {M a g1 g2 : Nat} {bx : List (Nat × Obj)} {w : World} {v1 v2 v1' v2' : Value} {A B A' B' : List Pt} {s : NSt} {W W' : World} (h : sideI M a g1 g2 bx w v1 v2 A B s W) (hb : But2 g1 g2 W W') (ho : boxesOk a g1 g2 bx) (h1 : a + 4 ≤ g1) (h2 : g1 < M) (h3 : a + 4 ≤ g2) (h4 : g2 < M) (r1 : winP W' g1 v1' A') (r2 : winP W' g2 v2' B') :
    sideI M a g1 g2 bx w v1' v2' A' B' s W' := by
  have hM := h.g.le
  have hT := h.g.top
  have hlt := gath_lt h.g
  have hbl : Below (a + 4) W W' := ⟨hb.os, hb.tape, hb.output, hb.size, fun k hk => hb.block k (by omega) (by omega) (by omega)⟩
  have own : ∀ {e size n : Nat} {v : Value} {xs : List Value}, W.ownsRow M e size v n xs → W'.ownsRow M e size v n xs := by
    intro e size n v xs h
    obtain ⟨h0, hrow⟩ := h
    refine ⟨h0, ?_⟩
    rcases hrow with hx | ⟨g', cap, cur, rfl, hg, hgg, rest⟩
    · exact .inl hx
    · exact .inr ⟨g', cap, cur, rfl, hg, (hb.block g' (heap_lt hgg) (by omega) (by omega)).trans hgg, rest⟩
  refine ⟨h.below.trans (hbl.mono (by omega)), ?_, r1, r2, fun x hx => (hb.block _ (heap_lt (h.b x hx)) (ho x hx).2.1 (ho x hx).2.2.1).trans (h.b x hx)⟩
  obtain ⟨⟨p, c, h1, h2⟩, h3, ⟨p', c', h4, h5⟩, h6, h7, h8, h9⟩ := h.g
  exact ⟨⟨p, c, (hbl.cell (p := ⟨a, 0, none⟩) (by show a < a + 4; omega)).trans h1, own h2⟩, (hbl.frozen (p := ⟨a, 0, none⟩) (by show a < a + 4; omega)).trans h3,
    ⟨p', c', (hbl.cell (p := ⟨a + 1, 0, none⟩) (by show a + 1 < a + 4; omega)).trans h4, own h5⟩, (hbl.frozen (p := ⟨a + 1, 0, none⟩) (by show a + 1 < a + 4; omega)).trans h6,
    (hbl.cell (p := ⟨a + 2, 0, none⟩) (by show a + 2 < a + 4; omega)).trans h7, (hbl.frozen (p := ⟨a + 2, 0, none⟩) (by show a + 2 < a + 4; omega)).trans h8, (hbl.cell (p := ⟨a + 3, 0, none⟩) (by show a + 3 < a + 4; omega)).trans h9, hM, Nat.le_trans hT hb.size⟩

end Go.Proofs.YtldhbjmillfjgabGreatDoor

namespace Go.Proofs.YtldhbjmillfjgabGreatDoor
open Go.RowKit
set_option linter.unusedVariables false
attribute [local go_sem] Oper.semAt_some

set_option maxRecDepth 100000 in
set_option maxHeartbeats 16000000 in
theorem side_turn (M a g1 g2 β : Nat) (bx : List (Nat × Obj)) (v1 v2 : Value) (A0 B0 : List Pt) (l0 : List (Pt × Pt)) (s0 : NSt) (w : World) {T0 : Int} {n0 : Nat} (hI0 : sideI M a g1 g2 bx w v1 v2 A0 B0 s0 w) (hS0 : Side isPutP isPutP A0 B0 l0) (hB0 : BdS turnP l0 s0 T0 n0) (ho0 : boxesOk a g1 g2 bx) (h1 : a + 4 ≤ g1) (h2 : g1 < M) (h3 : a + 4 ≤ g2) (h4 : g2 < M) (hne0 : g1 ≠ g2)
    (cT0 : ∀ (s : NSt) (x : Pt × Pt) (T : Int) (n : Nat) (W : World), gath M W a s → boxesP bx W → Bd s T n → (∀ p ∈ turnP x, soundP p) → T + wts (turnP x) < 1000000000 → n < 10000000 → Calls Tryz.prog 182 #[partV x.1, partV x.2, .pointer (some ⟨β, 0, none⟩)] W (tookP M a s (turnP x) W)) :
    Calls Tryz.prog 177 #[v1, v2, .func (.func 179) #[] #[], .func (.func 179) #[] #[], .func (.func 182) #[] #[.pointer (some ⟨β, 0, none⟩)]] w fun e w' => (∃ v, e = .returned v) ∧ gath M w' a (runS turnP l0 s0) ∧ boxesP bx w' ∧ Below a w w' := by
  obtain ⟨S, hS⟩ : ∃ S, runS turnP l0 s0 = S := ⟨_, rfl⟩
  rw [hS]
  obtain ⟨t, ht⟩ : ∃ t : Pt × Pt → List Pt, t = turnP := ⟨_, rfl⟩
  rw [← ht] at hB0 hS cT0
  have cT : Hid (∀ (s : NSt) (x : Pt × Pt) (T : Int) (n : Nat) (l : List (Pt × Pt)) (W : World), gath M W a s → boxesP bx W → BdS t (x :: l) s T n → Calls Tryz.prog 182 #[partV x.1, partV x.2, .pointer (some ⟨β, 0, none⟩)] W (tookP M a s (t x) W)) := fun s x T n l W hg hb hB => cT0 s x T n W hg hb hB.bd hB.head.1 hB.head.2.1 hB.head.2.2
  have hst : sideR isPutP isPutP t M a g1 g2 bx w S l0.length v1 v2 w := ⟨A0, B0, l0, s0, T0, n0, rfl, hS0, hI0, hB0, hS⟩
  have HST : Hid (sideR isPutP isPutP t M a g1 g2 bx w S l0.length v1 v2 w) := hst
  have HO : Hid (boxesOk a g1 g2 bx) := ho0
  have HNE : Hid (g1 ≠ g2) := hne0
  clear ht cT0 hI0 hS0 hB0 ho0 hS hst hne0
  go_enter Tryz.func177, Tryz.ntmps177
  go_wp2
  go_loopg [0, 1] l0.length (fun k u1 u2 wr => sideR isPutP isPutP t M a g1 g2 bx w S k u1 u2 wr)
  case atStart => exact HST.out
  case round =>
    obtain ⟨A, B, l, s, T, n, hk, hSd, hI, hB, hR⟩ := hrel
    have hwz := hI.below.size
    have HK : Hid (l.length = gk) := hk
    have HI : Hid _ := hI
    have HB : Hid _ := hB
    have HR : Hid _ := hR
    clear HST
    clear hk hB hR
    cases hSd with
    | nil =>
      obtain ⟨p1, c1, rfl, _, _, _⟩ := hI.r1
      obtain ⟨p2, c2, rfl, _, _, _⟩ := hI.r2
      clear hI
      go_wp2
      go_end0
      have hx := HI.out
      exact ⟨⟨_, rfl⟩, by rw [← HR.out]; exact hx.g, hx.b, hx.below⟩
    | left =>
      rename_i p A l hl hS'
      obtain ⟨o, c, rfl, e1, e2, eg, e3, k0, k1, k2⟩ := winP_head hI.r1
      obtain ⟨p2, c2, rfl, _, _, _⟩ := hI.r2
      have cL : Hid (∀ wx, Calls Tryz.prog 179 #[partV p] wx fun e w' => e = .returned (.bool true) ∧ Below wx.heap.size wx w') := fun wx => by
        have := isPut_any p wx
        rw [show decide (p.put ≠ []) = true from hl] at this
        exact this
      have CT : Hid (∀ W', Below wr.heap.size wr W' → Calls Tryz.prog 182 #[partV (p, noP).1, partV (p, noP).2, .pointer (some ⟨β, 0, none⟩)] W' (tookP M a s (t (p, noP)) W')) := fun W' hb => cT.out s (p, noP) T n l W' (HI.out.grow hb).g (HI.out.grow hb).b HB.out
      have HS : Hid (Side isPutP isPutP _ _ l) := hS'
      have HT : Hid (∀ W', Below wr.heap.size wr W' → _ ∧ _) := fun W' hb => sideI.tail1 HI.out hb
      obtain ⟨K, D, U⟩ := p
      simp only at k0 k1 k2
      have HKC : Hid (wr.cell? ⟨g1, o, none⟩ = some (.int .i64 K) ∧ wr.cell? ⟨g1, o + 1, none⟩ = some (.int .i64 D) ∧ wr.cell? ⟨g1, o + 2, none⟩ = some (.string ⟨U.toArray⟩)) := ⟨k0, k1, k2⟩
      have HEG : Hid (g1 < wr.heap.size) := eg
      have hi0 : (0 : Int) < (A.length : Int) + 1 := by omega
      have hi1 : (1 : Int) ≤ (A.length : Int) + 1 := by omega
      unfold noP at CT
      unfold partV at cL CT
      clear hI hS' hl
      go_wp2_with (first
        | (go_at_call 179; refine (cL.out _).mono ?_; rintro e w1 ⟨rfl, hb1⟩; obtain ⟨b1, b2, b3⟩ := two_boxes hb1; have HR1 : Hid (w1.heap[wr.heap.size]? = some (.cells #[.int .i64 0, .int .i64 0, .string ⟨#[]⟩] 50 (0, 0))) := b1; have HP1 : Hid (w1.heap[wr.heap.size + 1]? = some (.cells #[.int .i64 0, .int .i64 0, .string ⟨#[]⟩] 50 (0, 0))) := b2; have HB1 : Hid (Below wr.heap.size wr w1) := b3; clear b1 b2 b3 hb1; have r0 : w1.cell? ⟨wr.heap.size, 0, none⟩ = some (.int .i64 0) := Lib.cell_of_heap HR1.out 0; have r1 : w1.cell? ⟨wr.heap.size, 1, none⟩ = some (.int .i64 0) := Lib.cell_of_heap HR1.out 1; have r2 : w1.cell? ⟨wr.heap.size, 2, none⟩ = some (.string ⟨#[]⟩) := Lib.cell_of_heap HR1.out 2; have rF0 : w1.frozen? ⟨wr.heap.size, 0, none⟩ = false := frozen_of_heap HR1.out 0; have rF1 : w1.frozen? ⟨wr.heap.size, 1, none⟩ = false := frozen_of_heap HR1.out 1; have rF2 : w1.frozen? ⟨wr.heap.size, 2, none⟩ = false := frozen_of_heap HR1.out 2; have q0 : w1.cell? ⟨wr.heap.size + 1, 0, none⟩ = some (.int .i64 0) := Lib.cell_of_heap HP1.out 0; have q1 : w1.cell? ⟨wr.heap.size + 1, 1, none⟩ = some (.int .i64 0) := Lib.cell_of_heap HP1.out 1; have q2 : w1.cell? ⟨wr.heap.size + 1, 2, none⟩ = some (.string ⟨#[]⟩) := Lib.cell_of_heap HP1.out 2; have qF0 : w1.frozen? ⟨wr.heap.size + 1, 0, none⟩ = false := frozen_of_heap HP1.out 0; have qF1 : w1.frozen? ⟨wr.heap.size + 1, 1, none⟩ = false := frozen_of_heap HP1.out 1; have qF2 : w1.frozen? ⟨wr.heap.size + 1, 2, none⟩ = false := frozen_of_heap HP1.out 2; have x0 : w1.cell? ⟨g1, o, none⟩ = some (.int .i64 K) := (HB1.out.cell HEG.out).trans HKC.out.1; have x1 : w1.cell? ⟨g1, o + 1, none⟩ = some (.int .i64 D) := (HB1.out.cell HEG.out).trans HKC.out.2.1; have x2 : w1.cell? ⟨g1, o + 2, none⟩ = some (.string ⟨U.toArray⟩) := (HB1.out.cell HEG.out).trans HKC.out.2.2)
        | fail)
      obtain ⟨s0, s1, s2, hsz, hoth⟩ := three_set r0 r1 r2 (.int .i64 K) (.int .i64 D) (.string ⟨U.toArray⟩)
      go_region
      all_goals (go_wp2_with (first
        | (go_at_call 182; have HBW : Hid (Below wr.heap.size wr _) := ((((HB1.out.setCell (p := ⟨wr.heap.size, 0, none⟩) (Nat.le_refl _) (.int .i64 K)).setCell (p := ⟨wr.heap.size, 1, none⟩) (Nat.le_refl _) (.int .i64 D)).setCell (p := ⟨wr.heap.size, 2, none⟩) (Nat.le_refl _) (.string ⟨U.toArray⟩)).drew); refine (CT.out _ HBW.out).mono ?_; rintro e w5 ⟨⟨v5, rfl⟩, hg5, hb5⟩)
        | fail))
      · have hc1 : c = 1 := by assumption
        subst hc1
        go_roundg l.length
        case measure => have := HK.out; simp only [List.length_cons] at this; omega
        case rel => exact sideR_next HS.out ((HT.out _ HBW.out).2 rfl) HB.out HR.out hg5 hb5 HO.out h1 h2 h3 h4
      · go_roundg l.length
        case measure => have := HK.out; simp only [List.length_cons] at this; omega
        case rel => exact sideR_next HS.out (HT.out _ HBW.out).1 HB.out HR.out hg5 hb5 HO.out h1 h2 h3 h4
    | last =>
      rename_i p B l hl hS'
      obtain ⟨p2, c2, rfl, _, _, _⟩ := hI.r1
      obtain ⟨o, c, rfl, e1, e2, eg, e3, k0, k1, k2⟩ := winP_head hI.r2
      have cL : Hid (∀ wx, Calls Tryz.prog 179 #[partV p] wx fun e w' => e = .returned (.bool true) ∧ Below wx.heap.size wx w') := fun wx => by
        have := isPut_any p wx
        rw [show decide (p.put ≠ []) = true from hl] at this
        exact this
      have CT : Hid (∀ W', Below wr.heap.size wr W' → Calls Tryz.prog 182 #[partV (noP, p).1, partV (noP, p).2, .pointer (some ⟨β, 0, none⟩)] W' (tookP M a s (t (noP, p)) W')) := fun W' hb => cT.out s (noP, p) T n l W' (HI.out.grow hb).g (HI.out.grow hb).b HB.out
      have HS : Hid (Side isPutP isPutP _ _ l) := hS'
      have HT : Hid (∀ W', Below wr.heap.size wr W' → _ ∧ _) := fun W' hb => sideI.tail2 HI.out hb
      obtain ⟨K, D, U⟩ := p
      simp only at k0 k1 k2
      have HKC : Hid (wr.cell? ⟨g2, o, none⟩ = some (.int .i64 K) ∧ wr.cell? ⟨g2, o + 1, none⟩ = some (.int .i64 D) ∧ wr.cell? ⟨g2, o + 2, none⟩ = some (.string ⟨U.toArray⟩)) := ⟨k0, k1, k2⟩
      have HEG : Hid (g2 < wr.heap.size) := eg
      have hi0 : (0 : Int) < (B.length : Int) + 1 := by omega
      have hi1 : (1 : Int) ≤ (B.length : Int) + 1 := by omega
      unfold noP at CT
      unfold partV at cL CT
      clear hI hS' hl
      go_wp2_with (first
        | (go_at_call 179; refine (cL.out _).mono ?_; rintro e w1 ⟨rfl, hb1⟩; obtain ⟨b1, b2, b3⟩ := two_boxes hb1; have HR1 : Hid (w1.heap[wr.heap.size]? = some (.cells #[.int .i64 0, .int .i64 0, .string ⟨#[]⟩] 50 (0, 0))) := b1; have HP1 : Hid (w1.heap[wr.heap.size + 1]? = some (.cells #[.int .i64 0, .int .i64 0, .string ⟨#[]⟩] 50 (0, 0))) := b2; have HB1 : Hid (Below wr.heap.size wr w1) := b3; clear b1 b2 b3 hb1; have r0 : w1.cell? ⟨wr.heap.size, 0, none⟩ = some (.int .i64 0) := Lib.cell_of_heap HR1.out 0; have r1 : w1.cell? ⟨wr.heap.size, 1, none⟩ = some (.int .i64 0) := Lib.cell_of_heap HR1.out 1; have r2 : w1.cell? ⟨wr.heap.size, 2, none⟩ = some (.string ⟨#[]⟩) := Lib.cell_of_heap HR1.out 2; have rF0 : w1.frozen? ⟨wr.heap.size, 0, none⟩ = false := frozen_of_heap HR1.out 0; have rF1 : w1.frozen? ⟨wr.heap.size, 1, none⟩ = false := frozen_of_heap HR1.out 1; have rF2 : w1.frozen? ⟨wr.heap.size, 2, none⟩ = false := frozen_of_heap HR1.out 2; have q0 : w1.cell? ⟨wr.heap.size + 1, 0, none⟩ = some (.int .i64 0) := Lib.cell_of_heap HP1.out 0; have q1 : w1.cell? ⟨wr.heap.size + 1, 1, none⟩ = some (.int .i64 0) := Lib.cell_of_heap HP1.out 1; have q2 : w1.cell? ⟨wr.heap.size + 1, 2, none⟩ = some (.string ⟨#[]⟩) := Lib.cell_of_heap HP1.out 2; have qF0 : w1.frozen? ⟨wr.heap.size + 1, 0, none⟩ = false := frozen_of_heap HP1.out 0; have qF1 : w1.frozen? ⟨wr.heap.size + 1, 1, none⟩ = false := frozen_of_heap HP1.out 1; have qF2 : w1.frozen? ⟨wr.heap.size + 1, 2, none⟩ = false := frozen_of_heap HP1.out 2; have x0 : w1.cell? ⟨g2, o, none⟩ = some (.int .i64 K) := (HB1.out.cell HEG.out).trans HKC.out.1; have x1 : w1.cell? ⟨g2, o + 1, none⟩ = some (.int .i64 D) := (HB1.out.cell HEG.out).trans HKC.out.2.1; have x2 : w1.cell? ⟨g2, o + 2, none⟩ = some (.string ⟨U.toArray⟩) := (HB1.out.cell HEG.out).trans HKC.out.2.2)
        | fail)
      obtain ⟨s0, s1, s2, hsz, hoth⟩ := three_set q0 q1 q2 (.int .i64 K) (.int .i64 D) (.string ⟨U.toArray⟩)
      go_region
      all_goals (go_wp2_with (first
        | (go_at_call 182; have HBW : Hid (Below wr.heap.size wr _) := ((((HB1.out.setCell (p := ⟨wr.heap.size + 1, 0, none⟩) (Nat.le_succ _) (.int .i64 K)).setCell (p := ⟨wr.heap.size + 1, 1, none⟩) (Nat.le_succ _) (.int .i64 D)).setCell (p := ⟨wr.heap.size + 1, 2, none⟩) (Nat.le_succ _) (.string ⟨U.toArray⟩)).drew); refine (CT.out _ HBW.out).mono ?_; rintro e w5 ⟨⟨v5, rfl⟩, hg5, hb5⟩)
        | fail))
      · have hc1 : c = 1 := by assumption
        subst hc1
        go_roundg l.length
        case measure => have := HK.out; simp only [List.length_cons] at this; omega
        case rel => exact sideR_next HS.out ((HT.out _ HBW.out).2 rfl) HB.out HR.out hg5 hb5 HO.out h1 h2 h3 h4
      · go_roundg l.length
        case measure => have := HK.out; simp only [List.length_cons] at this; omega
        case rel => exact sideR_next HS.out (HT.out _ HBW.out).1 HB.out HR.out hg5 hb5 HO.out h1 h2 h3 h4
    | right =>
      rename_i pa p A B l hla hl hS'
      obtain ⟨oa, ca, rfl, ea1, ea2, eag, ea3, ka0, ka1, ka2⟩ := winP_head hI.r1
      obtain ⟨o, c, rfl, e1, e2, eg, e3, k0, k1, k2⟩ := winP_head hI.r2
      have cLA : Hid (∀ wx, Calls Tryz.prog 179 #[partV pa] wx fun e w' => e = .returned (.bool false) ∧ Below wx.heap.size wx w') := fun wx => by
        have := isPut_any pa wx
        rw [show decide (pa.put ≠ []) = false from hla] at this
        exact this
      have cL : Hid (∀ wx, Calls Tryz.prog 179 #[partV p] wx fun e w' => e = .returned (.bool true) ∧ Below wx.heap.size wx w') := fun wx => by
        have := isPut_any p wx
        rw [show decide (p.put ≠ []) = true from hl] at this
        exact this
      have CT : Hid (∀ W', Below wr.heap.size wr W' → Calls Tryz.prog 182 #[partV (noP, p).1, partV (noP, p).2, .pointer (some ⟨β, 0, none⟩)] W' (tookP M a s (t (noP, p)) W')) := fun W' hb => cT.out s (noP, p) T n l W' (HI.out.grow hb).g (HI.out.grow hb).b HB.out
      have HS : Hid (Side isPutP isPutP _ _ l) := hS'
      have HT : Hid (∀ W', Below wr.heap.size wr W' → _ ∧ _) := fun W' hb => sideI.tail2 HI.out hb
      obtain ⟨KA, DA, UA⟩ := pa
      simp only at ka0 ka1 ka2
      have HKA : Hid (wr.cell? ⟨g1, oa, none⟩ = some (.int .i64 KA) ∧ wr.cell? ⟨g1, oa + 1, none⟩ = some (.int .i64 DA) ∧ wr.cell? ⟨g1, oa + 2, none⟩ = some (.string ⟨UA.toArray⟩)) := ⟨ka0, ka1, ka2⟩
      have hia : (0 : Int) < (A.length : Int) + 1 := by omega
      unfold partV at cLA
      obtain ⟨K, D, U⟩ := p
      simp only at k0 k1 k2
      have HKC : Hid (wr.cell? ⟨g2, o, none⟩ = some (.int .i64 K) ∧ wr.cell? ⟨g2, o + 1, none⟩ = some (.int .i64 D) ∧ wr.cell? ⟨g2, o + 2, none⟩ = some (.string ⟨U.toArray⟩)) := ⟨k0, k1, k2⟩
      have HEG : Hid (g2 < wr.heap.size) := eg
      have hi0 : (0 : Int) < (B.length : Int) + 1 := by omega
      have hi1 : (1 : Int) ≤ (B.length : Int) + 1 := by omega
      unfold noP at CT
      unfold partV at cL CT
      clear hI hS' hl hla
      go_wp2_with (first
        | (have _ := HB1; go_at_call 179; refine (cL.out _).mono ?_; rintro e w2 ⟨rfl, hb2⟩; have HR2 : Hid (w2.heap[wr.heap.size]? = some (.cells #[.int .i64 0, .int .i64 0, .string ⟨#[]⟩] 50 (0, 0))) := (hb2.block _ (heap_lt HR1.out)).trans HR1.out; have HP2 : Hid (w2.heap[wr.heap.size + 1]? = some (.cells #[.int .i64 0, .int .i64 0, .string ⟨#[]⟩] 50 (0, 0))) := (hb2.block _ (heap_lt HP1.out)).trans HP1.out; have HB2 : Hid (Below wr.heap.size wr w2) := HB1.out.trans (hb2.mono HB1.out.size); clear hb2; have r0 : w2.cell? ⟨wr.heap.size, 0, none⟩ = some (.int .i64 0) := Lib.cell_of_heap HR2.out 0; have r1 : w2.cell? ⟨wr.heap.size, 1, none⟩ = some (.int .i64 0) := Lib.cell_of_heap HR2.out 1; have r2 : w2.cell? ⟨wr.heap.size, 2, none⟩ = some (.string ⟨#[]⟩) := Lib.cell_of_heap HR2.out 2; have rF0 : w2.frozen? ⟨wr.heap.size, 0, none⟩ = false := frozen_of_heap HR2.out 0; have rF1 : w2.frozen? ⟨wr.heap.size, 1, none⟩ = false := frozen_of_heap HR2.out 1; have rF2 : w2.frozen? ⟨wr.heap.size, 2, none⟩ = false := frozen_of_heap HR2.out 2; have q0 : w2.cell? ⟨wr.heap.size + 1, 0, none⟩ = some (.int .i64 0) := Lib.cell_of_heap HP2.out 0; have q1 : w2.cell? ⟨wr.heap.size + 1, 1, none⟩ = some (.int .i64 0) := Lib.cell_of_heap HP2.out 1; have q2 : w2.cell? ⟨wr.heap.size + 1, 2, none⟩ = some (.string ⟨#[]⟩) := Lib.cell_of_heap HP2.out 2; have qF0 : w2.frozen? ⟨wr.heap.size + 1, 0, none⟩ = false := frozen_of_heap HP2.out 0; have qF1 : w2.frozen? ⟨wr.heap.size + 1, 1, none⟩ = false := frozen_of_heap HP2.out 1; have qF2 : w2.frozen? ⟨wr.heap.size + 1, 2, none⟩ = false := frozen_of_heap HP2.out 2; have x0 : w2.cell? ⟨g2, o, none⟩ = some (.int .i64 K) := (HB2.out.cell HEG.out).trans HKC.out.1; have x1 : w2.cell? ⟨g2, o + 1, none⟩ = some (.int .i64 D) := (HB2.out.cell HEG.out).trans HKC.out.2.1; have x2 : w2.cell? ⟨g2, o + 2, none⟩ = some (.string ⟨U.toArray⟩) := (HB2.out.cell HEG.out).trans HKC.out.2.2)
        | (go_at_call 179; refine (cLA.out _).mono ?_; rintro e w1 ⟨rfl, hb1⟩; obtain ⟨b1, b2, b3⟩ := two_boxes hb1; have HR1 : Hid (w1.heap[wr.heap.size]? = some (.cells #[.int .i64 0, .int .i64 0, .string ⟨#[]⟩] 50 (0, 0))) := b1; have HP1 : Hid (w1.heap[wr.heap.size + 1]? = some (.cells #[.int .i64 0, .int .i64 0, .string ⟨#[]⟩] 50 (0, 0))) := b2; have HB1 : Hid (Below wr.heap.size wr w1) := b3; clear b1 b2 b3 hb1; have x0 : w1.cell? ⟨g2, o, none⟩ = some (.int .i64 K) := (HB1.out.cell HEG.out).trans HKC.out.1; have x1 : w1.cell? ⟨g2, o + 1, none⟩ = some (.int .i64 D) := (HB1.out.cell HEG.out).trans HKC.out.2.1; have x2 : w1.cell? ⟨g2, o + 2, none⟩ = some (.string ⟨U.toArray⟩) := (HB1.out.cell HEG.out).trans HKC.out.2.2)
        | fail)
      obtain ⟨s0, s1, s2, hsz, hoth⟩ := three_set q0 q1 q2 (.int .i64 K) (.int .i64 D) (.string ⟨U.toArray⟩)
      go_region
      all_goals (go_wp2_with (first
        | (go_at_call 182; have HBW : Hid (Below wr.heap.size wr _) := ((((HB2.out.setCell (p := ⟨wr.heap.size + 1, 0, none⟩) (Nat.le_succ _) (.int .i64 K)).setCell (p := ⟨wr.heap.size + 1, 1, none⟩) (Nat.le_succ _) (.int .i64 D)).setCell (p := ⟨wr.heap.size + 1, 2, none⟩) (Nat.le_succ _) (.string ⟨U.toArray⟩)).drew); refine (CT.out _ HBW.out).mono ?_; rintro e w5 ⟨⟨v5, rfl⟩, hg5, hb5⟩)
        | fail))
      · have hc1 : c = 1 := by assumption
        subst hc1
        go_roundg l.length
        case measure => have := HK.out; simp only [List.length_cons] at this; omega
        case rel => exact sideR_next HS.out ((HT.out _ HBW.out).2 rfl) HB.out HR.out hg5 hb5 HO.out h1 h2 h3 h4
      · go_roundg l.length
        case measure => have := HK.out; simp only [List.length_cons] at this; omega
        case rel => exact sideR_next HS.out (HT.out _ HBW.out).1 HB.out HR.out hg5 hb5 HO.out h1 h2 h3 h4
    | both =>
      rename_i p q A B l m hla hlb o1 o2 m0 hm b1 b2 hS'
      obtain ⟨oa, ca, rfl, ea1, ea2, eag, ea3, ka0, ka1, ka2⟩ := winP_head hI.r1
      obtain ⟨ob, cb, rfl, eb1, eb2, ebg, eb3, kb0, kb1, kb2⟩ := winP_head hI.r2
      have hlp := length_pos o1
      have hlq := length_pos o2
      have cLA : Hid (∀ wx, Calls Tryz.prog 179 #[partV p] wx fun e w' => e = .returned (.bool false) ∧ Below wx.heap.size wx w') := fun wx => by
        have := isPut_any p wx
        rw [show decide (p.put ≠ []) = false from hla] at this
        exact this
      have cLB : Hid (∀ wx, Calls Tryz.prog 179 #[partV q] wx fun e w' => e = .returned (.bool false) ∧ Below wx.heap.size wx w') := fun wx => by
        have := isPut_any q wx
        rw [show decide (q.put ≠ []) = false from hlb] at this
        exact this
      have cNP : Hid (∀ wx, Calls Tryz.prog 200 #[partV p] wx fun e w' => e = .returned (.int .i64 (lengthP p)) ∧ Below wx.heap.size wx w') := fun wx => length_any p wx (by rcases o1 with ⟨h1, h2, h3⟩ | ⟨h1, h2, h3⟩ | ⟨h1, h2, h3⟩ <;> exact ⟨by omega, by omega⟩) (by unfold lengthP at b1; omega)
      have cNQ : Hid (∀ wx, Calls Tryz.prog 200 #[partV q] wx fun e w' => e = .returned (.int .i64 (lengthP q)) ∧ Below wx.heap.size wx w') := fun wx => length_any q wx (by rcases o2 with ⟨h1, h2, h3⟩ | ⟨h1, h2, h3⟩ | ⟨h1, h2, h3⟩ <;> exact ⟨by omega, by omega⟩) (by unfold lengthP at b2; omega)
      have CC1 : Hid (∀ W', winP W' g1 (.slice (some ⟨g1, oa, none⟩) (A.length + 1) ca) (p :: A) → Calls Tryz.prog 201 #[.slice (some ⟨g1, oa, none⟩) (A.length + 1) ca, .int .i64 m] W' fun e w' => ∃ v', e = .returned (.tuple #[partV (cutP p m).1, v']) ∧ winP w' g1 v' ((cutP p m).2 ++ A) ∧ ButO g1 W' w') := fun W' h => cut_any g1 _ p A m W' h o1 m0 (by omega) b1
      have CC2 : Hid (∀ W', winP W' g2 (.slice (some ⟨g2, ob, none⟩) (B.length + 1) cb) (q :: B) → Calls Tryz.prog 201 #[.slice (some ⟨g2, ob, none⟩) (B.length + 1) cb, .int .i64 m] W' fun e w' => ∃ v', e = .returned (.tuple #[partV (cutP q m).1, v']) ∧ winP w' g2 v' ((cutP q m).2 ++ B) ∧ ButO g2 W' w') := fun W' h => cut_any g2 _ q B m W' h o2 m0 (by omega) b2
      have CT : Hid (∀ W', gath M W' a s → boxesP bx W' → Calls Tryz.prog 182 #[partV (cutP p m).1, partV (cutP q m).1, .pointer (some ⟨β, 0, none⟩)] W' (tookP M a s (t ((cutP p m).1, (cutP q m).1)) W')) := fun W' hg hb => cT.out s ((cutP p m).1, (cutP q m).1) T n l W' hg hb HB.out
      have HS : Hid (Side isPutP isPutP ((cutP p m).2 ++ A) ((cutP q m).2 ++ B) l) := hS'
      have hm1 : (m : Int) < 1000000000 := by omega
      clear hS' hla hlb o1 o2 hlp hlq b1 b2
      generalize lengthP p = LP at *
      generalize lengthP q = LQ at *
      obtain ⟨R1, hR1⟩ : ∃ R, (cutP p m).2 ++ A = R := ⟨_, rfl⟩
      obtain ⟨R2, hR2⟩ : ∃ R, (cutP q m).2 ++ B = R := ⟨_, rfl⟩
      obtain ⟨x1, hx1⟩ : ∃ x, (cutP p m).1 = x := ⟨_, rfl⟩
      obtain ⟨x2, hx2⟩ : ∃ x, (cutP q m).1 = x := ⟨_, rfl⟩
      rw [hR1, hx1] at CC1
      rw [hR2, hx2] at CC2
      rw [hx1, hx2] at CT HB HR
      rw [hR1, hR2] at HS
      rw [hx1, hx2] at HK
      clear hR1 hR2 hx1 hx2
      obtain ⟨K1, D1, U1⟩ := x1
      obtain ⟨K2, D2, U2⟩ := x2
      have HW1 : Hid (winP wr g1 (.slice (some ⟨g1, oa, none⟩) (A.length + 1) ca) (p :: A)) := hI.r1
      have HW2 : Hid (winP wr g2 (.slice (some ⟨g2, ob, none⟩) (B.length + 1) cb) (q :: B)) := hI.r2
      have HEG1 : Hid (g1 < wr.heap.size) := eag
      have HEG2 : Hid (g2 < wr.heap.size) := ebg
      obtain ⟨KA, DA, UA⟩ := p
      obtain ⟨KB, DB, UB⟩ := q
      simp only at ka0 ka1 ka2 kb0 kb1 kb2
      have HKA : Hid (wr.cell? ⟨g1, oa, none⟩ = some (.int .i64 KA) ∧ wr.cell? ⟨g1, oa + 1, none⟩ = some (.int .i64 DA) ∧ wr.cell? ⟨g1, oa + 2, none⟩ = some (.string ⟨UA.toArray⟩)) := ⟨ka0, ka1, ka2⟩
      have HKB : Hid (wr.cell? ⟨g2, ob, none⟩ = some (.int .i64 KB) ∧ wr.cell? ⟨g2, ob + 1, none⟩ = some (.int .i64 DB) ∧ wr.cell? ⟨g2, ob + 2, none⟩ = some (.string ⟨UB.toArray⟩)) := ⟨kb0, kb1, kb2⟩
      have hia : (0 : Int) < (A.length : Int) + 1 := by omega
      have hib : (0 : Int) < (B.length : Int) + 1 := by omega
      unfold partV at cLA cLB cNP cNQ CC1 CC2 CT
      clear hI ea3 eb3
      go_wp2_with (first
        | (have _ := HB1; go_at_call 179; refine (cLB.out _).mono ?_; rintro e w2 ⟨rfl, hb2⟩; have HR2 : Hid (w2.heap[wr.heap.size]? = some (.cells #[.int .i64 0, .int .i64 0, .string ⟨#[]⟩] 50 (0, 0))) := (hb2.block _ (heap_lt HR1.out)).trans HR1.out; have HP2 : Hid (w2.heap[wr.heap.size + 1]? = some (.cells #[.int .i64 0, .int .i64 0, .string ⟨#[]⟩] 50 (0, 0))) := (hb2.block _ (heap_lt HP1.out)).trans HP1.out; have HB2 : Hid (Below wr.heap.size wr w2) := HB1.out.trans (hb2.mono HB1.out.size); clear hb2; have xa0 : w2.cell? ⟨g1, oa, none⟩ = some (.int .i64 KA) := (HB2.out.cell HEG1.out).trans HKA.out.1; have xa1 : w2.cell? ⟨g1, oa + 1, none⟩ = some (.int .i64 DA) := (HB2.out.cell HEG1.out).trans HKA.out.2.1; have xa2 : w2.cell? ⟨g1, oa + 2, none⟩ = some (.string ⟨UA.toArray⟩) := (HB2.out.cell HEG1.out).trans HKA.out.2.2; have xc0 : w2.cell? ⟨g2, ob, none⟩ = some (.int .i64 KB) := (HB2.out.cell HEG2.out).trans HKB.out.1; have xc1 : w2.cell? ⟨g2, ob + 1, none⟩ = some (.int .i64 DB) := (HB2.out.cell HEG2.out).trans HKB.out.2.1; have xc2 : w2.cell? ⟨g2, ob + 2, none⟩ = some (.string ⟨UB.toArray⟩) := (HB2.out.cell HEG2.out).trans HKB.out.2.2)
        | (go_at_call 179; refine (cLA.out _).mono ?_; rintro e w1 ⟨rfl, hb1⟩; obtain ⟨y1, y2, y3⟩ := two_boxes hb1; have HR1 : Hid (w1.heap[wr.heap.size]? = some (.cells #[.int .i64 0, .int .i64 0, .string ⟨#[]⟩] 50 (0, 0))) := y1; have HP1 : Hid (w1.heap[wr.heap.size + 1]? = some (.cells #[.int .i64 0, .int .i64 0, .string ⟨#[]⟩] 50 (0, 0))) := y2; have HB1 : Hid (Below wr.heap.size wr w1) := y3; clear y1 y2 y3 hb1; have xb0 : w1.cell? ⟨g2, ob, none⟩ = some (.int .i64 KB) := (HB1.out.cell HEG2.out).trans HKB.out.1; have xb1 : w1.cell? ⟨g2, ob + 1, none⟩ = some (.int .i64 DB) := (HB1.out.cell HEG2.out).trans HKB.out.2.1; have xb2 : w1.cell? ⟨g2, ob + 2, none⟩ = some (.string ⟨UB.toArray⟩) := (HB1.out.cell HEG2.out).trans HKB.out.2.2)
        | fail)
      go_region_with (first
        | (have _ := HB3; go_at_call 200; refine (cNQ.out _).mono ?_; rintro e w4 ⟨rfl, hb4⟩; have HR4 : Hid (w4.heap[wr.heap.size]? = some (.cells #[.int .i64 0, .int .i64 0, .string ⟨#[]⟩] 50 (0, 0))) := (hb4.block _ (heap_lt HR3.out)).trans HR3.out; have HP4 : Hid (w4.heap[wr.heap.size + 1]? = some (.cells #[.int .i64 0, .int .i64 0, .string ⟨#[]⟩] 50 (0, 0))) := (hb4.block _ (heap_lt HP3.out)).trans HP3.out; have HB4 : Hid (Below wr.heap.size wr w4) := HB3.out.trans (hb4.mono HB3.out.size); clear hb4)
        | (have _ := HB2; go_at_call 200; refine (cNP.out _).mono ?_; rintro e w3 ⟨rfl, hb3⟩; have HR3 : Hid (w3.heap[wr.heap.size]? = some (.cells #[.int .i64 0, .int .i64 0, .string ⟨#[]⟩] 50 (0, 0))) := (hb3.block _ (heap_lt HR2.out)).trans HR2.out; have HP3 : Hid (w3.heap[wr.heap.size + 1]? = some (.cells #[.int .i64 0, .int .i64 0, .string ⟨#[]⟩] 50 (0, 0))) := (hb3.block _ (heap_lt HP2.out)).trans HP2.out; have HB3 : Hid (Below wr.heap.size wr w3) := HB2.out.drew.trans (hb3.mono HB2.out.size); clear hb3; have xd0 : w3.cell? ⟨g2, ob, none⟩ = some (.int .i64 KB) := (HB3.out.cell HEG2.out).trans HKB.out.1; have xd1 : w3.cell? ⟨g2, ob + 1, none⟩ = some (.int .i64 DB) := (HB3.out.cell HEG2.out).trans HKB.out.2.1; have xd2 : w3.cell? ⟨g2, ob + 2, none⟩ = some (.string ⟨UB.toArray⟩) := (HB3.out.cell HEG2.out).trans HKB.out.2.2)
        | fail)
      all_goals (
        go_wp2_with (first
          | (have _ := HT7; go_at_call 182; have HI8 : Hid (sideI M a g1 g2 bx w _ _ R1 R2 s (((w7.setCell ⟨wr.heap.size + 1, 0, none⟩ (.int .i64 K2)).setCell ⟨wr.heap.size + 1, 1, none⟩ (.int .i64 D2)).setCell ⟨wr.heap.size + 1, 2, none⟩ (.string ⟨U2.toArray⟩))) := HI.out.both (HT7.out.above3 (Nat.le_succ _) _ _ _) HO.out h1 h2 h3 h4 (winP_kept HO7.out (by simp) fun _ => box_set_ne (by have := HEG1.out; omega)) (winP_kept HQ7.out (by simp) fun _ => box_set_ne (by have := HEG2.out; omega)); refine (CT.out _ HI8.out.g HI8.out.b).mono ?_; rintro e w9 ⟨⟨v9, rfl⟩, hg9, hb9⟩)
          | (have _ := HT5; go_at_call 201; have HT6 : Hid (ButO g1 wr (((w5.setCell ⟨wr.heap.size, 0, none⟩ (.int .i64 K1)).setCell ⟨wr.heap.size, 1, none⟩ (.int .i64 D1)).setCell ⟨wr.heap.size, 2, none⟩ (.string ⟨U1.toArray⟩))) := HT5.out.above3 (Nat.le_refl _) _ _ _; have HR6 : Hid ((((w5.setCell ⟨wr.heap.size, 0, none⟩ (.int .i64 K1)).setCell ⟨wr.heap.size, 1, none⟩ (.int .i64 D1)).setCell ⟨wr.heap.size, 2, none⟩ (.string ⟨U1.toArray⟩)).heap[wr.heap.size]? = some (.cells #[.int .i64 K1, .int .i64 D1, .string ⟨U1.toArray⟩] 50 (0, 0))) := box_set HR5.out _ _ _; have HP6 : Hid ((((w5.setCell ⟨wr.heap.size, 0, none⟩ (.int .i64 K1)).setCell ⟨wr.heap.size, 1, none⟩ (.int .i64 D1)).setCell ⟨wr.heap.size, 2, none⟩ (.string ⟨U1.toArray⟩)).heap[wr.heap.size + 1]? = some (.cells #[.int .i64 0, .int .i64 0, .string ⟨#[]⟩] 50 (0, 0))) := (box_set_ne (by omega)).trans HP5.out; have HQ6 : Hid (winP (((w5.setCell ⟨wr.heap.size, 0, none⟩ (.int .i64 K1)).setCell ⟨wr.heap.size, 1, none⟩ (.int .i64 D1)).setCell ⟨wr.heap.size, 2, none⟩ (.string ⟨U1.toArray⟩)) g1 _ R1) := winP_kept HQ5.out (by simp) fun _ => box_set_ne (by have := HEG1.out; omega); refine (CC2.out _ (winP_kept HW2.out HT6.out.size fun hg => HT6.out.block g2 hg (Ne.symm HNE.out))).mono ?_; rintro e w7 ⟨v7, rfl, hw7, hb7⟩; have HQ7 : Hid (winP w7 g2 v7 R2) := hw7; have hbz : ButO g2 (((w5.setCell ⟨wr.heap.size, 0, none⟩ (.int .i64 K1)).setCell ⟨wr.heap.size, 1, none⟩ (.int .i64 D1)).setCell ⟨wr.heap.size, 2, none⟩ (.string ⟨U1.toArray⟩)) w7 := ⟨hb7.os, hb7.tape, hb7.output, hb7.size, hb7.block⟩; obtain ⟨p7, c7, rfl, _⟩ := hw7; have HO7 : Hid (winP w7 g1 _ R1) := winP_but HQ6.out hbz HNE.out; have HR7 : Hid (w7.heap[wr.heap.size]? = some (.cells #[.int .i64 K1, .int .i64 D1, .string ⟨U1.toArray⟩] 50 (0, 0))) := (hbz.block _ (heap_lt HR6.out) (by have := HEG2.out; omega)).trans HR6.out; have HP7 : Hid (w7.heap[wr.heap.size + 1]? = some (.cells #[.int .i64 0, .int .i64 0, .string ⟨#[]⟩] 50 (0, 0))) := (hbz.block _ (heap_lt HP6.out) (by have := HEG2.out; omega)).trans HP6.out; have HT7 : Hid (But2 g1 g2 wr w7) := (But2.of1 HT6.out).cut2 hbz; clear hb7 hbz; have t0 : w7.cell? ⟨wr.heap.size, 0, none⟩ = some (.int .i64 K1) := Lib.cell_of_heap HR7.out 0; have t1 : w7.cell? ⟨wr.heap.size, 1, none⟩ = some (.int .i64 D1) := Lib.cell_of_heap HR7.out 1; have t2 : w7.cell? ⟨wr.heap.size, 2, none⟩ = some (.string ⟨U1.toArray⟩) := Lib.cell_of_heap HR7.out 2; have q0 : w7.cell? ⟨wr.heap.size + 1, 0, none⟩ = some (.int .i64 0) := Lib.cell_of_heap HP7.out 0; have q1 : w7.cell? ⟨wr.heap.size + 1, 1, none⟩ = some (.int .i64 0) := Lib.cell_of_heap HP7.out 1; have q2 : w7.cell? ⟨wr.heap.size + 1, 2, none⟩ = some (.string ⟨#[]⟩) := Lib.cell_of_heap HP7.out 2; have qF0 : w7.frozen? ⟨wr.heap.size + 1, 0, none⟩ = false := frozen_of_heap HP7.out 0; have qF1 : w7.frozen? ⟨wr.heap.size + 1, 1, none⟩ = false := frozen_of_heap HP7.out 1; have qF2 : w7.frozen? ⟨wr.heap.size + 1, 2, none⟩ = false := frozen_of_heap HP7.out 2)
          | (have _ := HB4; go_at_call 201; refine (CC1.out _ (winP_kept HW1.out HB4.out.size fun hg => HB4.out.block g1 hg)).mono ?_; rintro e w5 ⟨v5, rfl, hw5, hb5⟩; have HQ5 : Hid (winP w5 g1 v5 R1) := hw5; have hbz : ButO g1 w4 w5 := ⟨hb5.os, hb5.tape, hb5.output, hb5.size, hb5.block⟩; obtain ⟨p5, c5, rfl, _⟩ := hw5; have HR5 : Hid (w5.heap[wr.heap.size]? = some (.cells #[.int .i64 0, .int .i64 0, .string ⟨#[]⟩] 50 (0, 0))) := (hbz.block _ (heap_lt HR4.out) (by have := HEG1.out; omega)).trans HR4.out; have HP5 : Hid (w5.heap[wr.heap.size + 1]? = some (.cells #[.int .i64 0, .int .i64 0, .string ⟨#[]⟩] 50 (0, 0))) := (hbz.block _ (heap_lt HP4.out) (by have := HEG1.out; omega)).trans HP4.out; have HT5 : Hid (ButO g1 wr w5) := (ButO.of HB4.out).trans hbz; clear hb5 hbz; have r0 : w5.cell? ⟨wr.heap.size, 0, none⟩ = some (.int .i64 0) := Lib.cell_of_heap HR5.out 0; have r1 : w5.cell? ⟨wr.heap.size, 1, none⟩ = some (.int .i64 0) := Lib.cell_of_heap HR5.out 1; have r2 : w5.cell? ⟨wr.heap.size, 2, none⟩ = some (.string ⟨#[]⟩) := Lib.cell_of_heap HR5.out 2; have rF0 : w5.frozen? ⟨wr.heap.size, 0, none⟩ = false := frozen_of_heap HR5.out 0; have rF1 : w5.frozen? ⟨wr.heap.size, 1, none⟩ = false := frozen_of_heap HR5.out 1; have rF2 : w5.frozen? ⟨wr.heap.size, 2, none⟩ = false := frozen_of_heap HR5.out 2)
          | fail)
        go_roundg l.length
        case measure => have := HK.out; simp only [List.length_cons] at this; omega
        case rel => exact sideR_next HS.out HI8.out HB.out HR.out hg9 hb9 HO.out h1 h2 h3 h4)
end Go.Proofs.YtldhbjmillfjgabGreatDoor
