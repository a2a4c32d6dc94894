/-
  What Transform's and Compose's closures take of a pair.
-/
import Derived.Test.YtedgnlgjmnccgabGreatDoorOpsCutX
import Derived.Test.YtedgnlgjmnccgabGreatDoorOpsTurnP
namespace Go.Proofs.YtedgnlgjmnccgabGreatDoor
open Go.RowKit
set_option linter.unusedVariables false
attribute [local go_sem] Oper.semAt_some

theorem cut_any (g : Nat) (v : Value) (p : Pt) (ps : List Pt) (n : Nat) (w : World) (h : winP w g v (p :: ps)) (hp : oneP p) (h0 : 0 < n) (hn : (n : Int) ≤ lengthP p) (hb : lengthP p < 1000000000) :
    Calls Tryz.prog 268 #[v, .int .i64 n] w fun e w' => ∃ v', e = .returned (.tuple #[partV (cutP p n).1, v']) ∧ winP w' g v' ((cutP p n).2 ++ ps) ∧ ButO g w w' := by
  by_cases e : lengthP p = n
  · have hc : cutP p n = (p, []) := by unfold cutP; rw [if_pos e]
    rw [hc]
    exact cut_all g v p ps n w h (by rcases hp with ⟨h1, h2, h3⟩ | ⟨h1, h2, h3⟩ | ⟨h1, h2, h3⟩ <;> exact ⟨by omega, by omega⟩) e (by omega)
  · obtain ⟨K, D, U⟩ := p
    have hl : lengthP ⟨K, D, U⟩ = K + D + U.length := rfl
    rw [hl] at e hn hb
    have he : ¬ lengthP ⟨K, D, U⟩ = n := e
    rcases hp with ⟨h1, h2, h3⟩ | ⟨h1, h2, h3⟩ | ⟨h1, h2, h3⟩
    · replace h1 : 0 < K := h1
      obtain rfl : D = 0 := h2
      obtain rfl : U = [] := h3
      simp only [List.length_nil, Int.add_zero, Int.natCast_zero] at e hn hb
      have hc : cutP ⟨K, 0, []⟩ n = (⟨n, 0, []⟩, [⟨K - n, 0, []⟩]) := by unfold cutP; rw [if_neg he, if_pos h1]
      rw [hc]
      exact cut_keep g v K ps n w h h0 (by omega) (by omega)
    · obtain rfl : K = 0 := h1
      replace h2 : 0 < D := h2
      obtain rfl : U = [] := h3
      simp only [List.length_nil, Int.add_zero, Int.zero_add, Int.natCast_zero] at e hn hb
      have hc : cutP ⟨0, D, []⟩ n = (⟨0, n, []⟩, [⟨0, D - n, []⟩]) := by unfold cutP; rw [if_neg he, if_neg (by show ¬ (0 : Int) < 0; omega), if_pos h2]
      rw [hc]
      exact cut_drop g v D ps n w h h0 (by omega) (by omega)
    · obtain rfl : K = 0 := h1
      obtain rfl : D = 0 := h2
      simp only [Int.zero_add] at e hn hb
      have hc : cutP ⟨0, 0, U⟩ n = (⟨0, 0, U.take n⟩, [⟨0, 0, U.drop n⟩]) := by unfold cutP; rw [if_neg he, if_neg (by show ¬ (0 : Int) < 0; omega), if_neg (by show ¬ (0 : Int) < 0; omega)]; rfl
      rw [hc]
      exact cut_put g v U ps n w h h0 (by omega) (by omega)

/-- What a gatherer's add is. -/
def addV (a : Nat) : Value := .func (.func 265) #[] #[.pointer (some ⟨a + 1, 0, none⟩), .pointer (some ⟨a + 2, 0, none⟩), .pointer (some ⟨a + 3, 0, none⟩), .pointer (some ⟨a, 0, none⟩)]
/-- One part that is taken, or none. -/
def tookP (M a : Nat) (s : NSt) (l : List Pt) (w : World) (e : Ending) (w' : World) : Prop := (∃ v, e = .returned v) ∧ gath M w' a (l.foldl addP s) ∧ BelowG M a w w'
theorem took_step {M a : Nat} {s : NSt} {p : Pt} {w wx w' : World} {v : Value} (hb : Below w.heap.size w wx) (ha : a ≤ w.heap.size) (hg : gath M w' a (addP s p)) (hb' : BelowG M a wx w') : tookP M a s [p] w (.returned v) w' :=
  ⟨⟨v, rfl⟩, hg, (BelowG.of hb ha).trans hb'⟩

set_option maxRecDepth 100000 in
set_option maxHeartbeats 2000000 in
theorem turn_len (M a β : Nat) (s : NSt) (K D K2 D2 : Int) (U U2 : List UInt8) (w : World) (HG : Hid (gath M w a s)) (hlt : a + 3 < w.heap.size) (HX : Hid (w.heap[β]? = some (.cells #[addV a] 342 (0, 0)))) (c1 : Hid (∀ wx, Calls Tryz.prog 225 #[.agg #[.int .i64 K2, .int .i64 D2, .string ⟨U2.toArray⟩]] wx fun e w' => e = .returned (.bool true) ∧ Below wx.heap.size wx w')) (cA : Hid (∀ wx, Below w.heap.size w wx → Calls Tryz.prog 265 #[.agg #[.int .i64 (U2.length : Int), .int .i64 0, .string ⟨#[]⟩], .pointer (some ⟨a + 1, 0, none⟩), .pointer (some ⟨a + 2, 0, none⟩), .pointer (some ⟨a + 3, 0, none⟩), .pointer (some ⟨a, 0, none⟩)] wx fun e w' => (∃ v, e = .returned v) ∧ gath M w' a (addP s ⟨(U2.length : Int), 0, []⟩) ∧ BelowG M a wx w')) :
    Calls Tryz.prog 228 #[.agg #[.int .i64 K, .int .i64 D, .string ⟨U.toArray⟩], .agg #[.int .i64 K2, .int .i64 D2, .string ⟨U2.toArray⟩], .pointer (some ⟨β, 0, none⟩)] w (tookP M a s [⟨(U2.length : Int), 0, []⟩] w) := by
  have hz : (ByteArray.mk U2.toArray).size = U2.length := by simp [ByteArray.size]
  go_enter Tryz.func228, Tryz.ntmps228
  go_wp2_with (first
    | (have _ := HB1; go_at_call 265; refine (cA.out _ HB1.out).mono ?_; rintro e w9 ⟨⟨v9, rfl⟩, hg9, hb9⟩)
    | (go_at_call 225; refine (c1.out _).mono ?_; rintro e w1 ⟨rfl, hb1⟩; obtain ⟨b1, b2, b3⟩ := two_boxes hb1; have HR1 : Hid (w1.heap[w.heap.size]? = some (.cells #[.int .i64 K, .int .i64 D, .string ⟨U.toArray⟩] 50 (0, 0))) := b1; have HP1 : Hid (w1.heap[w.heap.size + 1]? = some (.cells #[.int .i64 K2, .int .i64 D2, .string ⟨U2.toArray⟩] 50 (0, 0))) := b2; have HB1 : Hid (Below w.heap.size w w1) := b3; have o0 : w1.cell? ⟨w.heap.size, 0, none⟩ = some (.int .i64 K) := Lib.cell_of_heap HR1.out 0; have o1 : w1.cell? ⟨w.heap.size, 1, none⟩ = some (.int .i64 D) := Lib.cell_of_heap HR1.out 1; have o2 : w1.cell? ⟨w.heap.size, 2, none⟩ = some (.string ⟨U.toArray⟩) := Lib.cell_of_heap HR1.out 2; have p0 : w1.cell? ⟨w.heap.size + 1, 0, none⟩ = some (.int .i64 K2) := Lib.cell_of_heap HP1.out 0; have p1 : w1.cell? ⟨w.heap.size + 1, 1, none⟩ = some (.int .i64 D2) := Lib.cell_of_heap HP1.out 1; have p2 : w1.cell? ⟨w.heap.size + 1, 2, none⟩ = some (.string ⟨U2.toArray⟩) := Lib.cell_of_heap HP1.out 2; have yf : w1.cell? ⟨β, 0, none⟩ = some (addV a) := Lib.cell_of_heap ((HB1.out.block β (heap_lt HX.out)).trans HX.out) 0; unfold addV at yf; clear b1 b2 b3 hb1)
    | fail)
  go_end0
  exact took_step HB1.out (by omega) hg9 hb9
set_option maxRecDepth 100000 in
set_option maxHeartbeats 2000000 in
theorem turn_put (M a β : Nat) (s : NSt) (K D K2 D2 : Int) (U U2 : List UInt8) (w : World) (HG : Hid (gath M w a s)) (hlt : a + 3 < w.heap.size) (HX : Hid (w.heap[β]? = some (.cells #[addV a] 342 (0, 0)))) (c1 : Hid (∀ wx, Calls Tryz.prog 225 #[.agg #[.int .i64 K2, .int .i64 D2, .string ⟨U2.toArray⟩]] wx fun e w' => e = .returned (.bool false) ∧ Below wx.heap.size wx w')) (c2 : Hid (∀ wx, Calls Tryz.prog 225 #[.agg #[.int .i64 K, .int .i64 D, .string ⟨U.toArray⟩]] wx fun e w' => e = .returned (.bool true) ∧ Below wx.heap.size wx w')) (cA : Hid (∀ wx, Below w.heap.size w wx → Calls Tryz.prog 265 #[.agg #[.int .i64 K, .int .i64 D, .string ⟨U.toArray⟩], .pointer (some ⟨a + 1, 0, none⟩), .pointer (some ⟨a + 2, 0, none⟩), .pointer (some ⟨a + 3, 0, none⟩), .pointer (some ⟨a, 0, none⟩)] wx fun e w' => (∃ v, e = .returned v) ∧ gath M w' a (addP s ⟨K, D, U⟩) ∧ BelowG M a wx w')) :
    Calls Tryz.prog 228 #[.agg #[.int .i64 K, .int .i64 D, .string ⟨U.toArray⟩], .agg #[.int .i64 K2, .int .i64 D2, .string ⟨U2.toArray⟩], .pointer (some ⟨β, 0, none⟩)] w (tookP M a s [⟨K, D, U⟩] w) := by
  have hz : (ByteArray.mk U2.toArray).size = U2.length := by simp [ByteArray.size]
  go_enter Tryz.func228, Tryz.ntmps228
  go_wp2_with (first
    | (have _ := HB2; go_at_call 265; refine (cA.out _ HB2.out).mono ?_; rintro e w9 ⟨⟨v9, rfl⟩, hg9, hb9⟩)
    | (have _ := HB1; go_at_call 225; refine (c2.out _).mono ?_; rintro e w2 ⟨rfl, hb2⟩; have HR2 : Hid (w2.heap[w.heap.size]? = some (.cells #[.int .i64 K, .int .i64 D, .string ⟨U.toArray⟩] 50 (0, 0))) := (hb2.block _ (heap_lt HR1.out)).trans HR1.out; have HP2 : Hid (w2.heap[w.heap.size + 1]? = some (.cells #[.int .i64 K2, .int .i64 D2, .string ⟨U2.toArray⟩] 50 (0, 0))) := (hb2.block _ (heap_lt HP1.out)).trans HP1.out; have HB2 : Hid (Below w.heap.size w w2) := HB1.out.trans (hb2.mono HB1.out.size); have o0 : w2.cell? ⟨w.heap.size, 0, none⟩ = some (.int .i64 K) := Lib.cell_of_heap HR2.out 0; have o1 : w2.cell? ⟨w.heap.size, 1, none⟩ = some (.int .i64 D) := Lib.cell_of_heap HR2.out 1; have o2 : w2.cell? ⟨w.heap.size, 2, none⟩ = some (.string ⟨U.toArray⟩) := Lib.cell_of_heap HR2.out 2; have p0 : w2.cell? ⟨w.heap.size + 1, 0, none⟩ = some (.int .i64 K2) := Lib.cell_of_heap HP2.out 0; have p1 : w2.cell? ⟨w.heap.size + 1, 1, none⟩ = some (.int .i64 D2) := Lib.cell_of_heap HP2.out 1; have p2 : w2.cell? ⟨w.heap.size + 1, 2, none⟩ = some (.string ⟨U2.toArray⟩) := Lib.cell_of_heap HP2.out 2; have yf : w2.cell? ⟨β, 0, none⟩ = some (addV a) := Lib.cell_of_heap ((HB2.out.block β (heap_lt HX.out)).trans HX.out) 0; unfold addV at yf; clear hb2)
    | (go_at_call 225; refine (c1.out _).mono ?_; rintro e w1 ⟨rfl, hb1⟩; obtain ⟨b1, b2, b3⟩ := two_boxes hb1; have HR1 : Hid (w1.heap[w.heap.size]? = some (.cells #[.int .i64 K, .int .i64 D, .string ⟨U.toArray⟩] 50 (0, 0))) := b1; have HP1 : Hid (w1.heap[w.heap.size + 1]? = some (.cells #[.int .i64 K2, .int .i64 D2, .string ⟨U2.toArray⟩] 50 (0, 0))) := b2; have HB1 : Hid (Below w.heap.size w w1) := b3; have o0 : w1.cell? ⟨w.heap.size, 0, none⟩ = some (.int .i64 K) := Lib.cell_of_heap HR1.out 0; have o1 : w1.cell? ⟨w.heap.size, 1, none⟩ = some (.int .i64 D) := Lib.cell_of_heap HR1.out 1; have o2 : w1.cell? ⟨w.heap.size, 2, none⟩ = some (.string ⟨U.toArray⟩) := Lib.cell_of_heap HR1.out 2; have p0 : w1.cell? ⟨w.heap.size + 1, 0, none⟩ = some (.int .i64 K2) := Lib.cell_of_heap HP1.out 0; have p1 : w1.cell? ⟨w.heap.size + 1, 1, none⟩ = some (.int .i64 D2) := Lib.cell_of_heap HP1.out 1; have p2 : w1.cell? ⟨w.heap.size + 1, 2, none⟩ = some (.string ⟨U2.toArray⟩) := Lib.cell_of_heap HP1.out 2; clear b1 b2 b3 hb1)
    | fail)
  go_end0
  exact took_step HB2.out (by omega) hg9 hb9
set_option maxRecDepth 100000 in
set_option maxHeartbeats 2000000 in
theorem turn_unit1 (M a β : Nat) (s : NSt) (K D K2 D2 : Int) (U U2 : List UInt8) (w : World) (HG : Hid (gath M w a s)) (hlt : a + 3 < w.heap.size) (HX : Hid (w.heap[β]? = some (.cells #[addV a] 342 (0, 0)))) (c1 : Hid (∀ wx, Calls Tryz.prog 225 #[.agg #[.int .i64 K2, .int .i64 D2, .string ⟨U2.toArray⟩]] wx fun e w' => e = .returned (.bool false) ∧ Below wx.heap.size wx w')) (c2 : Hid (∀ wx, Calls Tryz.prog 225 #[.agg #[.int .i64 K, .int .i64 D, .string ⟨U.toArray⟩]] wx fun e w' => e = .returned (.bool false) ∧ Below wx.heap.size wx w')) (c3 : Hid (∀ wx, Calls Tryz.prog 107 #[.agg #[.int .i64 K2, .int .i64 D2, .string ⟨U2.toArray⟩]] wx fun e w' => e = .returned (.bool true) ∧ Below wx.heap.size wx w')) (cA : Hid (∀ wx, Below w.heap.size w wx → Calls Tryz.prog 265 #[.agg #[.int .i64 K, .int .i64 D, .string ⟨U.toArray⟩], .pointer (some ⟨a + 1, 0, none⟩), .pointer (some ⟨a + 2, 0, none⟩), .pointer (some ⟨a + 3, 0, none⟩), .pointer (some ⟨a, 0, none⟩)] wx fun e w' => (∃ v, e = .returned v) ∧ gath M w' a (addP s ⟨K, D, U⟩) ∧ BelowG M a wx w')) :
    Calls Tryz.prog 228 #[.agg #[.int .i64 K, .int .i64 D, .string ⟨U.toArray⟩], .agg #[.int .i64 K2, .int .i64 D2, .string ⟨U2.toArray⟩], .pointer (some ⟨β, 0, none⟩)] w (tookP M a s [⟨K, D, U⟩] w) := by
  have hz : (ByteArray.mk U2.toArray).size = U2.length := by simp [ByteArray.size]
  go_enter Tryz.func228, Tryz.ntmps228
  go_wp2_with (first
    | (have _ := HB3; go_at_call 265; refine (cA.out _ HB3.out).mono ?_; rintro e w9 ⟨⟨v9, rfl⟩, hg9, hb9⟩)
    | (have _ := HB2; go_at_call 107; refine (c3.out _).mono ?_; rintro e w3 ⟨rfl, hb3⟩; have HR3 : Hid (w3.heap[w.heap.size]? = some (.cells #[.int .i64 K, .int .i64 D, .string ⟨U.toArray⟩] 50 (0, 0))) := (hb3.block _ (heap_lt HR2.out)).trans HR2.out; have HP3 : Hid (w3.heap[w.heap.size + 1]? = some (.cells #[.int .i64 K2, .int .i64 D2, .string ⟨U2.toArray⟩] 50 (0, 0))) := (hb3.block _ (heap_lt HP2.out)).trans HP2.out; have HB3 : Hid (Below w.heap.size w w3) := HB2.out.trans (hb3.mono HB2.out.size); have o0 : w3.cell? ⟨w.heap.size, 0, none⟩ = some (.int .i64 K) := Lib.cell_of_heap HR3.out 0; have o1 : w3.cell? ⟨w.heap.size, 1, none⟩ = some (.int .i64 D) := Lib.cell_of_heap HR3.out 1; have o2 : w3.cell? ⟨w.heap.size, 2, none⟩ = some (.string ⟨U.toArray⟩) := Lib.cell_of_heap HR3.out 2; have p0 : w3.cell? ⟨w.heap.size + 1, 0, none⟩ = some (.int .i64 K2) := Lib.cell_of_heap HP3.out 0; have p1 : w3.cell? ⟨w.heap.size + 1, 1, none⟩ = some (.int .i64 D2) := Lib.cell_of_heap HP3.out 1; have p2 : w3.cell? ⟨w.heap.size + 1, 2, none⟩ = some (.string ⟨U2.toArray⟩) := Lib.cell_of_heap HP3.out 2; have yf : w3.cell? ⟨β, 0, none⟩ = some (addV a) := Lib.cell_of_heap ((HB3.out.block β (heap_lt HX.out)).trans HX.out) 0; unfold addV at yf; clear hb3)
    | (have _ := HB1; go_at_call 225; refine (c2.out _).mono ?_; rintro e w2 ⟨rfl, hb2⟩; have HR2 : Hid (w2.heap[w.heap.size]? = some (.cells #[.int .i64 K, .int .i64 D, .string ⟨U.toArray⟩] 50 (0, 0))) := (hb2.block _ (heap_lt HR1.out)).trans HR1.out; have HP2 : Hid (w2.heap[w.heap.size + 1]? = some (.cells #[.int .i64 K2, .int .i64 D2, .string ⟨U2.toArray⟩] 50 (0, 0))) := (hb2.block _ (heap_lt HP1.out)).trans HP1.out; have HB2 : Hid (Below w.heap.size w w2) := HB1.out.trans (hb2.mono HB1.out.size); have o0 : w2.cell? ⟨w.heap.size, 0, none⟩ = some (.int .i64 K) := Lib.cell_of_heap HR2.out 0; have o1 : w2.cell? ⟨w.heap.size, 1, none⟩ = some (.int .i64 D) := Lib.cell_of_heap HR2.out 1; have o2 : w2.cell? ⟨w.heap.size, 2, none⟩ = some (.string ⟨U.toArray⟩) := Lib.cell_of_heap HR2.out 2; have p0 : w2.cell? ⟨w.heap.size + 1, 0, none⟩ = some (.int .i64 K2) := Lib.cell_of_heap HP2.out 0; have p1 : w2.cell? ⟨w.heap.size + 1, 1, none⟩ = some (.int .i64 D2) := Lib.cell_of_heap HP2.out 1; have p2 : w2.cell? ⟨w.heap.size + 1, 2, none⟩ = some (.string ⟨U2.toArray⟩) := Lib.cell_of_heap HP2.out 2; clear hb2)
    | (go_at_call 225; refine (c1.out _).mono ?_; rintro e w1 ⟨rfl, hb1⟩; obtain ⟨b1, b2, b3⟩ := two_boxes hb1; have HR1 : Hid (w1.heap[w.heap.size]? = some (.cells #[.int .i64 K, .int .i64 D, .string ⟨U.toArray⟩] 50 (0, 0))) := b1; have HP1 : Hid (w1.heap[w.heap.size + 1]? = some (.cells #[.int .i64 K2, .int .i64 D2, .string ⟨U2.toArray⟩] 50 (0, 0))) := b2; have HB1 : Hid (Below w.heap.size w w1) := b3; have o0 : w1.cell? ⟨w.heap.size, 0, none⟩ = some (.int .i64 K) := Lib.cell_of_heap HR1.out 0; have o1 : w1.cell? ⟨w.heap.size, 1, none⟩ = some (.int .i64 D) := Lib.cell_of_heap HR1.out 1; have o2 : w1.cell? ⟨w.heap.size, 2, none⟩ = some (.string ⟨U.toArray⟩) := Lib.cell_of_heap HR1.out 2; have p0 : w1.cell? ⟨w.heap.size + 1, 0, none⟩ = some (.int .i64 K2) := Lib.cell_of_heap HP1.out 0; have p1 : w1.cell? ⟨w.heap.size + 1, 1, none⟩ = some (.int .i64 D2) := Lib.cell_of_heap HP1.out 1; have p2 : w1.cell? ⟨w.heap.size + 1, 2, none⟩ = some (.string ⟨U2.toArray⟩) := Lib.cell_of_heap HP1.out 2; clear b1 b2 b3 hb1)
    | fail)
  go_end0
  exact took_step HB3.out (by omega) hg9 hb9
set_option maxRecDepth 100000 in
set_option maxHeartbeats 2000000 in
theorem turn_none (M a β : Nat) (s : NSt) (K D K2 D2 : Int) (U U2 : List UInt8) (w : World) (HG : Hid (gath M w a s)) (hlt : a + 3 < w.heap.size) (HX : Hid (w.heap[β]? = some (.cells #[addV a] 342 (0, 0)))) (c1 : Hid (∀ wx, Calls Tryz.prog 225 #[.agg #[.int .i64 K2, .int .i64 D2, .string ⟨U2.toArray⟩]] wx fun e w' => e = .returned (.bool false) ∧ Below wx.heap.size wx w')) (c2 : Hid (∀ wx, Calls Tryz.prog 225 #[.agg #[.int .i64 K, .int .i64 D, .string ⟨U.toArray⟩]] wx fun e w' => e = .returned (.bool false) ∧ Below wx.heap.size wx w')) (c3 : Hid (∀ wx, Calls Tryz.prog 107 #[.agg #[.int .i64 K2, .int .i64 D2, .string ⟨U2.toArray⟩]] wx fun e w' => e = .returned (.bool false) ∧ Below wx.heap.size wx w')) :
    Calls Tryz.prog 228 #[.agg #[.int .i64 K, .int .i64 D, .string ⟨U.toArray⟩], .agg #[.int .i64 K2, .int .i64 D2, .string ⟨U2.toArray⟩], .pointer (some ⟨β, 0, none⟩)] w (tookP M a s [] w) := by
  have hz : (ByteArray.mk U2.toArray).size = U2.length := by simp [ByteArray.size]
  go_enter Tryz.func228, Tryz.ntmps228
  go_wp2_with (first
    | (have _ := HB2; go_at_call 107; refine (c3.out _).mono ?_; rintro e w3 ⟨rfl, hb3⟩; have HR3 : Hid (w3.heap[w.heap.size]? = some (.cells #[.int .i64 K, .int .i64 D, .string ⟨U.toArray⟩] 50 (0, 0))) := (hb3.block _ (heap_lt HR2.out)).trans HR2.out; have HP3 : Hid (w3.heap[w.heap.size + 1]? = some (.cells #[.int .i64 K2, .int .i64 D2, .string ⟨U2.toArray⟩] 50 (0, 0))) := (hb3.block _ (heap_lt HP2.out)).trans HP2.out; have HB3 : Hid (Below w.heap.size w w3) := HB2.out.trans (hb3.mono HB2.out.size); have o0 : w3.cell? ⟨w.heap.size, 0, none⟩ = some (.int .i64 K) := Lib.cell_of_heap HR3.out 0; have o1 : w3.cell? ⟨w.heap.size, 1, none⟩ = some (.int .i64 D) := Lib.cell_of_heap HR3.out 1; have o2 : w3.cell? ⟨w.heap.size, 2, none⟩ = some (.string ⟨U.toArray⟩) := Lib.cell_of_heap HR3.out 2; have p0 : w3.cell? ⟨w.heap.size + 1, 0, none⟩ = some (.int .i64 K2) := Lib.cell_of_heap HP3.out 0; have p1 : w3.cell? ⟨w.heap.size + 1, 1, none⟩ = some (.int .i64 D2) := Lib.cell_of_heap HP3.out 1; have p2 : w3.cell? ⟨w.heap.size + 1, 2, none⟩ = some (.string ⟨U2.toArray⟩) := Lib.cell_of_heap HP3.out 2; clear hb3)
    | (have _ := HB1; go_at_call 225; refine (c2.out _).mono ?_; rintro e w2 ⟨rfl, hb2⟩; have HR2 : Hid (w2.heap[w.heap.size]? = some (.cells #[.int .i64 K, .int .i64 D, .string ⟨U.toArray⟩] 50 (0, 0))) := (hb2.block _ (heap_lt HR1.out)).trans HR1.out; have HP2 : Hid (w2.heap[w.heap.size + 1]? = some (.cells #[.int .i64 K2, .int .i64 D2, .string ⟨U2.toArray⟩] 50 (0, 0))) := (hb2.block _ (heap_lt HP1.out)).trans HP1.out; have HB2 : Hid (Below w.heap.size w w2) := HB1.out.trans (hb2.mono HB1.out.size); have o0 : w2.cell? ⟨w.heap.size, 0, none⟩ = some (.int .i64 K) := Lib.cell_of_heap HR2.out 0; have o1 : w2.cell? ⟨w.heap.size, 1, none⟩ = some (.int .i64 D) := Lib.cell_of_heap HR2.out 1; have o2 : w2.cell? ⟨w.heap.size, 2, none⟩ = some (.string ⟨U.toArray⟩) := Lib.cell_of_heap HR2.out 2; have p0 : w2.cell? ⟨w.heap.size + 1, 0, none⟩ = some (.int .i64 K2) := Lib.cell_of_heap HP2.out 0; have p1 : w2.cell? ⟨w.heap.size + 1, 1, none⟩ = some (.int .i64 D2) := Lib.cell_of_heap HP2.out 1; have p2 : w2.cell? ⟨w.heap.size + 1, 2, none⟩ = some (.string ⟨U2.toArray⟩) := Lib.cell_of_heap HP2.out 2; clear hb2)
    | (go_at_call 225; refine (c1.out _).mono ?_; rintro e w1 ⟨rfl, hb1⟩; obtain ⟨b1, b2, b3⟩ := two_boxes hb1; have HR1 : Hid (w1.heap[w.heap.size]? = some (.cells #[.int .i64 K, .int .i64 D, .string ⟨U.toArray⟩] 50 (0, 0))) := b1; have HP1 : Hid (w1.heap[w.heap.size + 1]? = some (.cells #[.int .i64 K2, .int .i64 D2, .string ⟨U2.toArray⟩] 50 (0, 0))) := b2; have HB1 : Hid (Below w.heap.size w w1) := b3; have o0 : w1.cell? ⟨w.heap.size, 0, none⟩ = some (.int .i64 K) := Lib.cell_of_heap HR1.out 0; have o1 : w1.cell? ⟨w.heap.size, 1, none⟩ = some (.int .i64 D) := Lib.cell_of_heap HR1.out 1; have o2 : w1.cell? ⟨w.heap.size, 2, none⟩ = some (.string ⟨U.toArray⟩) := Lib.cell_of_heap HR1.out 2; have p0 : w1.cell? ⟨w.heap.size + 1, 0, none⟩ = some (.int .i64 K2) := Lib.cell_of_heap HP1.out 0; have p1 : w1.cell? ⟨w.heap.size + 1, 1, none⟩ = some (.int .i64 D2) := Lib.cell_of_heap HP1.out 1; have p2 : w1.cell? ⟨w.heap.size + 1, 2, none⟩ = some (.string ⟨U2.toArray⟩) := Lib.cell_of_heap HP1.out 2; clear b1 b2 b3 hb1)
    | fail)
  go_end0
  exact ⟨⟨_, rfl⟩, gath_below HG.out HB3.out, BelowG.of HB3.out (by omega)⟩
set_option maxRecDepth 100000 in
set_option maxHeartbeats 2000000 in
theorem comp_drop (M a β : Nat) (s : NSt) (K D K2 D2 : Int) (U U2 : List UInt8) (w : World) (HG : Hid (gath M w a s)) (hlt : a + 3 < w.heap.size) (HX : Hid (w.heap[β]? = some (.cells #[addV a] 342 (0, 0)))) (c1 : Hid (∀ wx, Calls Tryz.prog 211 #[.agg #[.int .i64 K, .int .i64 D, .string ⟨U.toArray⟩]] wx fun e w' => e = .returned (.bool true) ∧ Below wx.heap.size wx w')) (cA : Hid (∀ wx, Below w.heap.size w wx → Calls Tryz.prog 265 #[.agg #[.int .i64 K, .int .i64 D, .string ⟨U.toArray⟩], .pointer (some ⟨a + 1, 0, none⟩), .pointer (some ⟨a + 2, 0, none⟩), .pointer (some ⟨a + 3, 0, none⟩), .pointer (some ⟨a, 0, none⟩)] wx fun e w' => (∃ v, e = .returned v) ∧ gath M w' a (addP s ⟨K, D, U⟩) ∧ BelowG M a wx w')) :
    Calls Tryz.prog 226 #[.agg #[.int .i64 K, .int .i64 D, .string ⟨U.toArray⟩], .agg #[.int .i64 K2, .int .i64 D2, .string ⟨U2.toArray⟩], .pointer (some ⟨β, 0, none⟩)] w (tookP M a s [⟨K, D, U⟩] w) := by
  have hz : (ByteArray.mk U2.toArray).size = U2.length := by simp [ByteArray.size]
  go_enter Tryz.func226, Tryz.ntmps226
  go_wp2_with (first
    | (have _ := HB1; go_at_call 265; refine (cA.out _ HB1.out).mono ?_; rintro e w9 ⟨⟨v9, rfl⟩, hg9, hb9⟩)
    | (go_at_call 211; refine (c1.out _).mono ?_; rintro e w1 ⟨rfl, hb1⟩; obtain ⟨b1, b2, b3⟩ := two_boxes hb1; have HR1 : Hid (w1.heap[w.heap.size]? = some (.cells #[.int .i64 K, .int .i64 D, .string ⟨U.toArray⟩] 50 (0, 0))) := b1; have HP1 : Hid (w1.heap[w.heap.size + 1]? = some (.cells #[.int .i64 K2, .int .i64 D2, .string ⟨U2.toArray⟩] 50 (0, 0))) := b2; have HB1 : Hid (Below w.heap.size w w1) := b3; have o0 : w1.cell? ⟨w.heap.size, 0, none⟩ = some (.int .i64 K) := Lib.cell_of_heap HR1.out 0; have o1 : w1.cell? ⟨w.heap.size, 1, none⟩ = some (.int .i64 D) := Lib.cell_of_heap HR1.out 1; have o2 : w1.cell? ⟨w.heap.size, 2, none⟩ = some (.string ⟨U.toArray⟩) := Lib.cell_of_heap HR1.out 2; have p0 : w1.cell? ⟨w.heap.size + 1, 0, none⟩ = some (.int .i64 K2) := Lib.cell_of_heap HP1.out 0; have p1 : w1.cell? ⟨w.heap.size + 1, 1, none⟩ = some (.int .i64 D2) := Lib.cell_of_heap HP1.out 1; have p2 : w1.cell? ⟨w.heap.size + 1, 2, none⟩ = some (.string ⟨U2.toArray⟩) := Lib.cell_of_heap HP1.out 2; have yf : w1.cell? ⟨β, 0, none⟩ = some (addV a) := Lib.cell_of_heap ((HB1.out.block β (heap_lt HX.out)).trans HX.out) 0; unfold addV at yf; clear b1 b2 b3 hb1)
    | fail)
  go_end0
  exact took_step HB1.out (by omega) hg9 hb9
set_option maxRecDepth 100000 in
set_option maxHeartbeats 2000000 in
theorem comp_keep (M a β : Nat) (s : NSt) (K D K2 D2 : Int) (U U2 : List UInt8) (w : World) (HG : Hid (gath M w a s)) (hlt : a + 3 < w.heap.size) (HX : Hid (w.heap[β]? = some (.cells #[addV a] 342 (0, 0)))) (c1 : Hid (∀ wx, Calls Tryz.prog 211 #[.agg #[.int .i64 K, .int .i64 D, .string ⟨U.toArray⟩]] wx fun e w' => e = .returned (.bool false) ∧ Below wx.heap.size wx w')) (c2 : Hid (∀ wx, Calls Tryz.prog 107 #[.agg #[.int .i64 K2, .int .i64 D2, .string ⟨U2.toArray⟩]] wx fun e w' => e = .returned (.bool true) ∧ Below wx.heap.size wx w')) (cA : Hid (∀ wx, Below w.heap.size w wx → Calls Tryz.prog 265 #[.agg #[.int .i64 K, .int .i64 D, .string ⟨U.toArray⟩], .pointer (some ⟨a + 1, 0, none⟩), .pointer (some ⟨a + 2, 0, none⟩), .pointer (some ⟨a + 3, 0, none⟩), .pointer (some ⟨a, 0, none⟩)] wx fun e w' => (∃ v, e = .returned v) ∧ gath M w' a (addP s ⟨K, D, U⟩) ∧ BelowG M a wx w')) :
    Calls Tryz.prog 226 #[.agg #[.int .i64 K, .int .i64 D, .string ⟨U.toArray⟩], .agg #[.int .i64 K2, .int .i64 D2, .string ⟨U2.toArray⟩], .pointer (some ⟨β, 0, none⟩)] w (tookP M a s [⟨K, D, U⟩] w) := by
  have hz : (ByteArray.mk U2.toArray).size = U2.length := by simp [ByteArray.size]
  go_enter Tryz.func226, Tryz.ntmps226
  go_wp2_with (first
    | (have _ := HB2; go_at_call 265; refine (cA.out _ HB2.out).mono ?_; rintro e w9 ⟨⟨v9, rfl⟩, hg9, hb9⟩)
    | (have _ := HB1; go_at_call 107; refine (c2.out _).mono ?_; rintro e w2 ⟨rfl, hb2⟩; have HR2 : Hid (w2.heap[w.heap.size]? = some (.cells #[.int .i64 K, .int .i64 D, .string ⟨U.toArray⟩] 50 (0, 0))) := (hb2.block _ (heap_lt HR1.out)).trans HR1.out; have HP2 : Hid (w2.heap[w.heap.size + 1]? = some (.cells #[.int .i64 K2, .int .i64 D2, .string ⟨U2.toArray⟩] 50 (0, 0))) := (hb2.block _ (heap_lt HP1.out)).trans HP1.out; have HB2 : Hid (Below w.heap.size w w2) := HB1.out.trans (hb2.mono HB1.out.size); have o0 : w2.cell? ⟨w.heap.size, 0, none⟩ = some (.int .i64 K) := Lib.cell_of_heap HR2.out 0; have o1 : w2.cell? ⟨w.heap.size, 1, none⟩ = some (.int .i64 D) := Lib.cell_of_heap HR2.out 1; have o2 : w2.cell? ⟨w.heap.size, 2, none⟩ = some (.string ⟨U.toArray⟩) := Lib.cell_of_heap HR2.out 2; have p0 : w2.cell? ⟨w.heap.size + 1, 0, none⟩ = some (.int .i64 K2) := Lib.cell_of_heap HP2.out 0; have p1 : w2.cell? ⟨w.heap.size + 1, 1, none⟩ = some (.int .i64 D2) := Lib.cell_of_heap HP2.out 1; have p2 : w2.cell? ⟨w.heap.size + 1, 2, none⟩ = some (.string ⟨U2.toArray⟩) := Lib.cell_of_heap HP2.out 2; have yf : w2.cell? ⟨β, 0, none⟩ = some (addV a) := Lib.cell_of_heap ((HB2.out.block β (heap_lt HX.out)).trans HX.out) 0; unfold addV at yf; clear hb2)
    | (go_at_call 211; refine (c1.out _).mono ?_; rintro e w1 ⟨rfl, hb1⟩; obtain ⟨b1, b2, b3⟩ := two_boxes hb1; have HR1 : Hid (w1.heap[w.heap.size]? = some (.cells #[.int .i64 K, .int .i64 D, .string ⟨U.toArray⟩] 50 (0, 0))) := b1; have HP1 : Hid (w1.heap[w.heap.size + 1]? = some (.cells #[.int .i64 K2, .int .i64 D2, .string ⟨U2.toArray⟩] 50 (0, 0))) := b2; have HB1 : Hid (Below w.heap.size w w1) := b3; have o0 : w1.cell? ⟨w.heap.size, 0, none⟩ = some (.int .i64 K) := Lib.cell_of_heap HR1.out 0; have o1 : w1.cell? ⟨w.heap.size, 1, none⟩ = some (.int .i64 D) := Lib.cell_of_heap HR1.out 1; have o2 : w1.cell? ⟨w.heap.size, 2, none⟩ = some (.string ⟨U.toArray⟩) := Lib.cell_of_heap HR1.out 2; have p0 : w1.cell? ⟨w.heap.size + 1, 0, none⟩ = some (.int .i64 K2) := Lib.cell_of_heap HP1.out 0; have p1 : w1.cell? ⟨w.heap.size + 1, 1, none⟩ = some (.int .i64 D2) := Lib.cell_of_heap HP1.out 1; have p2 : w1.cell? ⟨w.heap.size + 1, 2, none⟩ = some (.string ⟨U2.toArray⟩) := Lib.cell_of_heap HP1.out 2; clear b1 b2 b3 hb1)
    | fail)
  go_end0
  exact took_step HB2.out (by omega) hg9 hb9
set_option maxRecDepth 100000 in
set_option maxHeartbeats 2000000 in
theorem comp_put (M a β : Nat) (s : NSt) (K D K2 D2 : Int) (U U2 : List UInt8) (w : World) (HG : Hid (gath M w a s)) (hlt : a + 3 < w.heap.size) (HX : Hid (w.heap[β]? = some (.cells #[addV a] 342 (0, 0)))) (c1 : Hid (∀ wx, Calls Tryz.prog 211 #[.agg #[.int .i64 K, .int .i64 D, .string ⟨U.toArray⟩]] wx fun e w' => e = .returned (.bool false) ∧ Below wx.heap.size wx w')) (c2 : Hid (∀ wx, Calls Tryz.prog 107 #[.agg #[.int .i64 K2, .int .i64 D2, .string ⟨U2.toArray⟩]] wx fun e w' => e = .returned (.bool false) ∧ Below wx.heap.size wx w')) (c3 : Hid (∀ wx, Calls Tryz.prog 225 #[.agg #[.int .i64 K2, .int .i64 D2, .string ⟨U2.toArray⟩]] wx fun e w' => e = .returned (.bool true) ∧ Below wx.heap.size wx w')) (cA : Hid (∀ wx, Below w.heap.size w wx → Calls Tryz.prog 265 #[.agg #[.int .i64 K2, .int .i64 D2, .string ⟨U2.toArray⟩], .pointer (some ⟨a + 1, 0, none⟩), .pointer (some ⟨a + 2, 0, none⟩), .pointer (some ⟨a + 3, 0, none⟩), .pointer (some ⟨a, 0, none⟩)] wx fun e w' => (∃ v, e = .returned v) ∧ gath M w' a (addP s ⟨K2, D2, U2⟩) ∧ BelowG M a wx w')) :
    Calls Tryz.prog 226 #[.agg #[.int .i64 K, .int .i64 D, .string ⟨U.toArray⟩], .agg #[.int .i64 K2, .int .i64 D2, .string ⟨U2.toArray⟩], .pointer (some ⟨β, 0, none⟩)] w (tookP M a s [⟨K2, D2, U2⟩] w) := by
  have hz : (ByteArray.mk U2.toArray).size = U2.length := by simp [ByteArray.size]
  go_enter Tryz.func226, Tryz.ntmps226
  go_wp2_with (first
    | (have _ := HB3; go_at_call 265; refine (cA.out _ HB3.out).mono ?_; rintro e w9 ⟨⟨v9, rfl⟩, hg9, hb9⟩)
    | (have _ := HB2; go_at_call 225; refine (c3.out _).mono ?_; rintro e w3 ⟨rfl, hb3⟩; have HR3 : Hid (w3.heap[w.heap.size]? = some (.cells #[.int .i64 K, .int .i64 D, .string ⟨U.toArray⟩] 50 (0, 0))) := (hb3.block _ (heap_lt HR2.out)).trans HR2.out; have HP3 : Hid (w3.heap[w.heap.size + 1]? = some (.cells #[.int .i64 K2, .int .i64 D2, .string ⟨U2.toArray⟩] 50 (0, 0))) := (hb3.block _ (heap_lt HP2.out)).trans HP2.out; have HB3 : Hid (Below w.heap.size w w3) := HB2.out.trans (hb3.mono HB2.out.size); have o0 : w3.cell? ⟨w.heap.size, 0, none⟩ = some (.int .i64 K) := Lib.cell_of_heap HR3.out 0; have o1 : w3.cell? ⟨w.heap.size, 1, none⟩ = some (.int .i64 D) := Lib.cell_of_heap HR3.out 1; have o2 : w3.cell? ⟨w.heap.size, 2, none⟩ = some (.string ⟨U.toArray⟩) := Lib.cell_of_heap HR3.out 2; have p0 : w3.cell? ⟨w.heap.size + 1, 0, none⟩ = some (.int .i64 K2) := Lib.cell_of_heap HP3.out 0; have p1 : w3.cell? ⟨w.heap.size + 1, 1, none⟩ = some (.int .i64 D2) := Lib.cell_of_heap HP3.out 1; have p2 : w3.cell? ⟨w.heap.size + 1, 2, none⟩ = some (.string ⟨U2.toArray⟩) := Lib.cell_of_heap HP3.out 2; have yf : w3.cell? ⟨β, 0, none⟩ = some (addV a) := Lib.cell_of_heap ((HB3.out.block β (heap_lt HX.out)).trans HX.out) 0; unfold addV at yf; clear hb3)
    | (have _ := HB1; go_at_call 107; refine (c2.out _).mono ?_; rintro e w2 ⟨rfl, hb2⟩; have HR2 : Hid (w2.heap[w.heap.size]? = some (.cells #[.int .i64 K, .int .i64 D, .string ⟨U.toArray⟩] 50 (0, 0))) := (hb2.block _ (heap_lt HR1.out)).trans HR1.out; have HP2 : Hid (w2.heap[w.heap.size + 1]? = some (.cells #[.int .i64 K2, .int .i64 D2, .string ⟨U2.toArray⟩] 50 (0, 0))) := (hb2.block _ (heap_lt HP1.out)).trans HP1.out; have HB2 : Hid (Below w.heap.size w w2) := HB1.out.trans (hb2.mono HB1.out.size); have o0 : w2.cell? ⟨w.heap.size, 0, none⟩ = some (.int .i64 K) := Lib.cell_of_heap HR2.out 0; have o1 : w2.cell? ⟨w.heap.size, 1, none⟩ = some (.int .i64 D) := Lib.cell_of_heap HR2.out 1; have o2 : w2.cell? ⟨w.heap.size, 2, none⟩ = some (.string ⟨U.toArray⟩) := Lib.cell_of_heap HR2.out 2; have p0 : w2.cell? ⟨w.heap.size + 1, 0, none⟩ = some (.int .i64 K2) := Lib.cell_of_heap HP2.out 0; have p1 : w2.cell? ⟨w.heap.size + 1, 1, none⟩ = some (.int .i64 D2) := Lib.cell_of_heap HP2.out 1; have p2 : w2.cell? ⟨w.heap.size + 1, 2, none⟩ = some (.string ⟨U2.toArray⟩) := Lib.cell_of_heap HP2.out 2; clear hb2)
    | (go_at_call 211; refine (c1.out _).mono ?_; rintro e w1 ⟨rfl, hb1⟩; obtain ⟨b1, b2, b3⟩ := two_boxes hb1; have HR1 : Hid (w1.heap[w.heap.size]? = some (.cells #[.int .i64 K, .int .i64 D, .string ⟨U.toArray⟩] 50 (0, 0))) := b1; have HP1 : Hid (w1.heap[w.heap.size + 1]? = some (.cells #[.int .i64 K2, .int .i64 D2, .string ⟨U2.toArray⟩] 50 (0, 0))) := b2; have HB1 : Hid (Below w.heap.size w w1) := b3; have o0 : w1.cell? ⟨w.heap.size, 0, none⟩ = some (.int .i64 K) := Lib.cell_of_heap HR1.out 0; have o1 : w1.cell? ⟨w.heap.size, 1, none⟩ = some (.int .i64 D) := Lib.cell_of_heap HR1.out 1; have o2 : w1.cell? ⟨w.heap.size, 2, none⟩ = some (.string ⟨U.toArray⟩) := Lib.cell_of_heap HR1.out 2; have p0 : w1.cell? ⟨w.heap.size + 1, 0, none⟩ = some (.int .i64 K2) := Lib.cell_of_heap HP1.out 0; have p1 : w1.cell? ⟨w.heap.size + 1, 1, none⟩ = some (.int .i64 D2) := Lib.cell_of_heap HP1.out 1; have p2 : w1.cell? ⟨w.heap.size + 1, 2, none⟩ = some (.string ⟨U2.toArray⟩) := Lib.cell_of_heap HP1.out 2; clear b1 b2 b3 hb1)
    | fail)
  go_end0
  exact took_step HB3.out (by omega) hg9 hb9
set_option maxRecDepth 100000 in
set_option maxHeartbeats 2000000 in
theorem comp_two (M a β : Nat) (s : NSt) (K D K2 D2 : Int) (U U2 : List UInt8) (w : World) (HG : Hid (gath M w a s)) (hlt : a + 3 < w.heap.size) (HX : Hid (w.heap[β]? = some (.cells #[addV a] 342 (0, 0)))) (c1 : Hid (∀ wx, Calls Tryz.prog 211 #[.agg #[.int .i64 K, .int .i64 D, .string ⟨U.toArray⟩]] wx fun e w' => e = .returned (.bool false) ∧ Below wx.heap.size wx w')) (c2 : Hid (∀ wx, Calls Tryz.prog 107 #[.agg #[.int .i64 K2, .int .i64 D2, .string ⟨U2.toArray⟩]] wx fun e w' => e = .returned (.bool false) ∧ Below wx.heap.size wx w')) (c3 : Hid (∀ wx, Calls Tryz.prog 225 #[.agg #[.int .i64 K2, .int .i64 D2, .string ⟨U2.toArray⟩]] wx fun e w' => e = .returned (.bool false) ∧ Below wx.heap.size wx w')) (c4 : Hid (∀ wx, Calls Tryz.prog 107 #[.agg #[.int .i64 K, .int .i64 D, .string ⟨U.toArray⟩]] wx fun e w' => e = .returned (.bool true) ∧ Below wx.heap.size wx w')) (cA : Hid (∀ wx, Below w.heap.size w wx → Calls Tryz.prog 265 #[.agg #[.int .i64 K2, .int .i64 D2, .string ⟨U2.toArray⟩], .pointer (some ⟨a + 1, 0, none⟩), .pointer (some ⟨a + 2, 0, none⟩), .pointer (some ⟨a + 3, 0, none⟩), .pointer (some ⟨a, 0, none⟩)] wx fun e w' => (∃ v, e = .returned v) ∧ gath M w' a (addP s ⟨K2, D2, U2⟩) ∧ BelowG M a wx w')) :
    Calls Tryz.prog 226 #[.agg #[.int .i64 K, .int .i64 D, .string ⟨U.toArray⟩], .agg #[.int .i64 K2, .int .i64 D2, .string ⟨U2.toArray⟩], .pointer (some ⟨β, 0, none⟩)] w (tookP M a s [⟨K2, D2, U2⟩] w) := by
  have hz : (ByteArray.mk U2.toArray).size = U2.length := by simp [ByteArray.size]
  go_enter Tryz.func226, Tryz.ntmps226
  go_wp2_with (first
    | (have _ := HB4; go_at_call 265; refine (cA.out _ HB4.out).mono ?_; rintro e w9 ⟨⟨v9, rfl⟩, hg9, hb9⟩)
    | (have _ := HB3; go_at_call 107; refine (c4.out _).mono ?_; rintro e w4 ⟨rfl, hb4⟩; have HR4 : Hid (w4.heap[w.heap.size]? = some (.cells #[.int .i64 K, .int .i64 D, .string ⟨U.toArray⟩] 50 (0, 0))) := (hb4.block _ (heap_lt HR3.out)).trans HR3.out; have HP4 : Hid (w4.heap[w.heap.size + 1]? = some (.cells #[.int .i64 K2, .int .i64 D2, .string ⟨U2.toArray⟩] 50 (0, 0))) := (hb4.block _ (heap_lt HP3.out)).trans HP3.out; have HB4 : Hid (Below w.heap.size w w4) := HB3.out.trans (hb4.mono HB3.out.size); have o0 : w4.cell? ⟨w.heap.size, 0, none⟩ = some (.int .i64 K) := Lib.cell_of_heap HR4.out 0; have o1 : w4.cell? ⟨w.heap.size, 1, none⟩ = some (.int .i64 D) := Lib.cell_of_heap HR4.out 1; have o2 : w4.cell? ⟨w.heap.size, 2, none⟩ = some (.string ⟨U.toArray⟩) := Lib.cell_of_heap HR4.out 2; have p0 : w4.cell? ⟨w.heap.size + 1, 0, none⟩ = some (.int .i64 K2) := Lib.cell_of_heap HP4.out 0; have p1 : w4.cell? ⟨w.heap.size + 1, 1, none⟩ = some (.int .i64 D2) := Lib.cell_of_heap HP4.out 1; have p2 : w4.cell? ⟨w.heap.size + 1, 2, none⟩ = some (.string ⟨U2.toArray⟩) := Lib.cell_of_heap HP4.out 2; have yf : w4.cell? ⟨β, 0, none⟩ = some (addV a) := Lib.cell_of_heap ((HB4.out.block β (heap_lt HX.out)).trans HX.out) 0; unfold addV at yf; clear hb4)
    | (have _ := HB2; go_at_call 225; refine (c3.out _).mono ?_; rintro e w3 ⟨rfl, hb3⟩; have HR3 : Hid (w3.heap[w.heap.size]? = some (.cells #[.int .i64 K, .int .i64 D, .string ⟨U.toArray⟩] 50 (0, 0))) := (hb3.block _ (heap_lt HR2.out)).trans HR2.out; have HP3 : Hid (w3.heap[w.heap.size + 1]? = some (.cells #[.int .i64 K2, .int .i64 D2, .string ⟨U2.toArray⟩] 50 (0, 0))) := (hb3.block _ (heap_lt HP2.out)).trans HP2.out; have HB3 : Hid (Below w.heap.size w w3) := HB2.out.trans (hb3.mono HB2.out.size); have o0 : w3.cell? ⟨w.heap.size, 0, none⟩ = some (.int .i64 K) := Lib.cell_of_heap HR3.out 0; have o1 : w3.cell? ⟨w.heap.size, 1, none⟩ = some (.int .i64 D) := Lib.cell_of_heap HR3.out 1; have o2 : w3.cell? ⟨w.heap.size, 2, none⟩ = some (.string ⟨U.toArray⟩) := Lib.cell_of_heap HR3.out 2; have p0 : w3.cell? ⟨w.heap.size + 1, 0, none⟩ = some (.int .i64 K2) := Lib.cell_of_heap HP3.out 0; have p1 : w3.cell? ⟨w.heap.size + 1, 1, none⟩ = some (.int .i64 D2) := Lib.cell_of_heap HP3.out 1; have p2 : w3.cell? ⟨w.heap.size + 1, 2, none⟩ = some (.string ⟨U2.toArray⟩) := Lib.cell_of_heap HP3.out 2; clear hb3)
    | (have _ := HB1; go_at_call 107; refine (c2.out _).mono ?_; rintro e w2 ⟨rfl, hb2⟩; have HR2 : Hid (w2.heap[w.heap.size]? = some (.cells #[.int .i64 K, .int .i64 D, .string ⟨U.toArray⟩] 50 (0, 0))) := (hb2.block _ (heap_lt HR1.out)).trans HR1.out; have HP2 : Hid (w2.heap[w.heap.size + 1]? = some (.cells #[.int .i64 K2, .int .i64 D2, .string ⟨U2.toArray⟩] 50 (0, 0))) := (hb2.block _ (heap_lt HP1.out)).trans HP1.out; have HB2 : Hid (Below w.heap.size w w2) := HB1.out.trans (hb2.mono HB1.out.size); have o0 : w2.cell? ⟨w.heap.size, 0, none⟩ = some (.int .i64 K) := Lib.cell_of_heap HR2.out 0; have o1 : w2.cell? ⟨w.heap.size, 1, none⟩ = some (.int .i64 D) := Lib.cell_of_heap HR2.out 1; have o2 : w2.cell? ⟨w.heap.size, 2, none⟩ = some (.string ⟨U.toArray⟩) := Lib.cell_of_heap HR2.out 2; have p0 : w2.cell? ⟨w.heap.size + 1, 0, none⟩ = some (.int .i64 K2) := Lib.cell_of_heap HP2.out 0; have p1 : w2.cell? ⟨w.heap.size + 1, 1, none⟩ = some (.int .i64 D2) := Lib.cell_of_heap HP2.out 1; have p2 : w2.cell? ⟨w.heap.size + 1, 2, none⟩ = some (.string ⟨U2.toArray⟩) := Lib.cell_of_heap HP2.out 2; clear hb2)
    | (go_at_call 211; refine (c1.out _).mono ?_; rintro e w1 ⟨rfl, hb1⟩; obtain ⟨b1, b2, b3⟩ := two_boxes hb1; have HR1 : Hid (w1.heap[w.heap.size]? = some (.cells #[.int .i64 K, .int .i64 D, .string ⟨U.toArray⟩] 50 (0, 0))) := b1; have HP1 : Hid (w1.heap[w.heap.size + 1]? = some (.cells #[.int .i64 K2, .int .i64 D2, .string ⟨U2.toArray⟩] 50 (0, 0))) := b2; have HB1 : Hid (Below w.heap.size w w1) := b3; have o0 : w1.cell? ⟨w.heap.size, 0, none⟩ = some (.int .i64 K) := Lib.cell_of_heap HR1.out 0; have o1 : w1.cell? ⟨w.heap.size, 1, none⟩ = some (.int .i64 D) := Lib.cell_of_heap HR1.out 1; have o2 : w1.cell? ⟨w.heap.size, 2, none⟩ = some (.string ⟨U.toArray⟩) := Lib.cell_of_heap HR1.out 2; have p0 : w1.cell? ⟨w.heap.size + 1, 0, none⟩ = some (.int .i64 K2) := Lib.cell_of_heap HP1.out 0; have p1 : w1.cell? ⟨w.heap.size + 1, 1, none⟩ = some (.int .i64 D2) := Lib.cell_of_heap HP1.out 1; have p2 : w1.cell? ⟨w.heap.size + 1, 2, none⟩ = some (.string ⟨U2.toArray⟩) := Lib.cell_of_heap HP1.out 2; clear b1 b2 b3 hb1)
    | fail)
  go_end0
  exact took_step HB4.out (by omega) hg9 hb9
set_option maxRecDepth 100000 in
set_option maxHeartbeats 2000000 in
theorem comp_none (M a β : Nat) (s : NSt) (K D K2 D2 : Int) (U U2 : List UInt8) (w : World) (HG : Hid (gath M w a s)) (hlt : a + 3 < w.heap.size) (HX : Hid (w.heap[β]? = some (.cells #[addV a] 342 (0, 0)))) (c1 : Hid (∀ wx, Calls Tryz.prog 211 #[.agg #[.int .i64 K, .int .i64 D, .string ⟨U.toArray⟩]] wx fun e w' => e = .returned (.bool false) ∧ Below wx.heap.size wx w')) (c2 : Hid (∀ wx, Calls Tryz.prog 107 #[.agg #[.int .i64 K2, .int .i64 D2, .string ⟨U2.toArray⟩]] wx fun e w' => e = .returned (.bool false) ∧ Below wx.heap.size wx w')) (c3 : Hid (∀ wx, Calls Tryz.prog 225 #[.agg #[.int .i64 K2, .int .i64 D2, .string ⟨U2.toArray⟩]] wx fun e w' => e = .returned (.bool false) ∧ Below wx.heap.size wx w')) (c4 : Hid (∀ wx, Calls Tryz.prog 107 #[.agg #[.int .i64 K, .int .i64 D, .string ⟨U.toArray⟩]] wx fun e w' => e = .returned (.bool false) ∧ Below wx.heap.size wx w')) :
    Calls Tryz.prog 226 #[.agg #[.int .i64 K, .int .i64 D, .string ⟨U.toArray⟩], .agg #[.int .i64 K2, .int .i64 D2, .string ⟨U2.toArray⟩], .pointer (some ⟨β, 0, none⟩)] w (tookP M a s [] w) := by
  have hz : (ByteArray.mk U2.toArray).size = U2.length := by simp [ByteArray.size]
  go_enter Tryz.func226, Tryz.ntmps226
  go_wp2_with (first
    | (have _ := HB3; go_at_call 107; refine (c4.out _).mono ?_; rintro e w4 ⟨rfl, hb4⟩; have HR4 : Hid (w4.heap[w.heap.size]? = some (.cells #[.int .i64 K, .int .i64 D, .string ⟨U.toArray⟩] 50 (0, 0))) := (hb4.block _ (heap_lt HR3.out)).trans HR3.out; have HP4 : Hid (w4.heap[w.heap.size + 1]? = some (.cells #[.int .i64 K2, .int .i64 D2, .string ⟨U2.toArray⟩] 50 (0, 0))) := (hb4.block _ (heap_lt HP3.out)).trans HP3.out; have HB4 : Hid (Below w.heap.size w w4) := HB3.out.trans (hb4.mono HB3.out.size); have o0 : w4.cell? ⟨w.heap.size, 0, none⟩ = some (.int .i64 K) := Lib.cell_of_heap HR4.out 0; have o1 : w4.cell? ⟨w.heap.size, 1, none⟩ = some (.int .i64 D) := Lib.cell_of_heap HR4.out 1; have o2 : w4.cell? ⟨w.heap.size, 2, none⟩ = some (.string ⟨U.toArray⟩) := Lib.cell_of_heap HR4.out 2; have p0 : w4.cell? ⟨w.heap.size + 1, 0, none⟩ = some (.int .i64 K2) := Lib.cell_of_heap HP4.out 0; have p1 : w4.cell? ⟨w.heap.size + 1, 1, none⟩ = some (.int .i64 D2) := Lib.cell_of_heap HP4.out 1; have p2 : w4.cell? ⟨w.heap.size + 1, 2, none⟩ = some (.string ⟨U2.toArray⟩) := Lib.cell_of_heap HP4.out 2; clear hb4)
    | (have _ := HB2; go_at_call 225; refine (c3.out _).mono ?_; rintro e w3 ⟨rfl, hb3⟩; have HR3 : Hid (w3.heap[w.heap.size]? = some (.cells #[.int .i64 K, .int .i64 D, .string ⟨U.toArray⟩] 50 (0, 0))) := (hb3.block _ (heap_lt HR2.out)).trans HR2.out; have HP3 : Hid (w3.heap[w.heap.size + 1]? = some (.cells #[.int .i64 K2, .int .i64 D2, .string ⟨U2.toArray⟩] 50 (0, 0))) := (hb3.block _ (heap_lt HP2.out)).trans HP2.out; have HB3 : Hid (Below w.heap.size w w3) := HB2.out.trans (hb3.mono HB2.out.size); have o0 : w3.cell? ⟨w.heap.size, 0, none⟩ = some (.int .i64 K) := Lib.cell_of_heap HR3.out 0; have o1 : w3.cell? ⟨w.heap.size, 1, none⟩ = some (.int .i64 D) := Lib.cell_of_heap HR3.out 1; have o2 : w3.cell? ⟨w.heap.size, 2, none⟩ = some (.string ⟨U.toArray⟩) := Lib.cell_of_heap HR3.out 2; have p0 : w3.cell? ⟨w.heap.size + 1, 0, none⟩ = some (.int .i64 K2) := Lib.cell_of_heap HP3.out 0; have p1 : w3.cell? ⟨w.heap.size + 1, 1, none⟩ = some (.int .i64 D2) := Lib.cell_of_heap HP3.out 1; have p2 : w3.cell? ⟨w.heap.size + 1, 2, none⟩ = some (.string ⟨U2.toArray⟩) := Lib.cell_of_heap HP3.out 2; clear hb3)
    | (have _ := HB1; go_at_call 107; refine (c2.out _).mono ?_; rintro e w2 ⟨rfl, hb2⟩; have HR2 : Hid (w2.heap[w.heap.size]? = some (.cells #[.int .i64 K, .int .i64 D, .string ⟨U.toArray⟩] 50 (0, 0))) := (hb2.block _ (heap_lt HR1.out)).trans HR1.out; have HP2 : Hid (w2.heap[w.heap.size + 1]? = some (.cells #[.int .i64 K2, .int .i64 D2, .string ⟨U2.toArray⟩] 50 (0, 0))) := (hb2.block _ (heap_lt HP1.out)).trans HP1.out; have HB2 : Hid (Below w.heap.size w w2) := HB1.out.trans (hb2.mono HB1.out.size); have o0 : w2.cell? ⟨w.heap.size, 0, none⟩ = some (.int .i64 K) := Lib.cell_of_heap HR2.out 0; have o1 : w2.cell? ⟨w.heap.size, 1, none⟩ = some (.int .i64 D) := Lib.cell_of_heap HR2.out 1; have o2 : w2.cell? ⟨w.heap.size, 2, none⟩ = some (.string ⟨U.toArray⟩) := Lib.cell_of_heap HR2.out 2; have p0 : w2.cell? ⟨w.heap.size + 1, 0, none⟩ = some (.int .i64 K2) := Lib.cell_of_heap HP2.out 0; have p1 : w2.cell? ⟨w.heap.size + 1, 1, none⟩ = some (.int .i64 D2) := Lib.cell_of_heap HP2.out 1; have p2 : w2.cell? ⟨w.heap.size + 1, 2, none⟩ = some (.string ⟨U2.toArray⟩) := Lib.cell_of_heap HP2.out 2; clear hb2)
    | (go_at_call 211; refine (c1.out _).mono ?_; rintro e w1 ⟨rfl, hb1⟩; obtain ⟨b1, b2, b3⟩ := two_boxes hb1; have HR1 : Hid (w1.heap[w.heap.size]? = some (.cells #[.int .i64 K, .int .i64 D, .string ⟨U.toArray⟩] 50 (0, 0))) := b1; have HP1 : Hid (w1.heap[w.heap.size + 1]? = some (.cells #[.int .i64 K2, .int .i64 D2, .string ⟨U2.toArray⟩] 50 (0, 0))) := b2; have HB1 : Hid (Below w.heap.size w w1) := b3; have o0 : w1.cell? ⟨w.heap.size, 0, none⟩ = some (.int .i64 K) := Lib.cell_of_heap HR1.out 0; have o1 : w1.cell? ⟨w.heap.size, 1, none⟩ = some (.int .i64 D) := Lib.cell_of_heap HR1.out 1; have o2 : w1.cell? ⟨w.heap.size, 2, none⟩ = some (.string ⟨U.toArray⟩) := Lib.cell_of_heap HR1.out 2; have p0 : w1.cell? ⟨w.heap.size + 1, 0, none⟩ = some (.int .i64 K2) := Lib.cell_of_heap HP1.out 0; have p1 : w1.cell? ⟨w.heap.size + 1, 1, none⟩ = some (.int .i64 D2) := Lib.cell_of_heap HP1.out 1; have p2 : w1.cell? ⟨w.heap.size + 1, 2, none⟩ = some (.string ⟨U2.toArray⟩) := Lib.cell_of_heap HP1.out 2; clear b1 b2 b3 hb1)
    | fail)
  go_end0
  exact ⟨⟨_, rfl⟩, gath_below HG.out HB4.out, BelowG.of HB4.out (by omega)⟩

/-- The gatherer's add, of whatever part a take comes to. -/
theorem take_adds (M a : Nat) (s : NSt) (l : List Pt) (w : World) (hg : gath M w a s) {T : Int} {n : Nat} (hB : Bd s T n) (hS : ∀ p ∈ l, soundP p) (hT : T + wts l < 1000000000) (hn : n < 10000000) (p : Pt) (hp : p ∈ l) (wx : World) (hb : Below w.heap.size w wx) :
    Calls Tryz.prog 265 #[partV p, .pointer (some ⟨a + 1, 0, none⟩), .pointer (some ⟨a + 2, 0, none⟩), .pointer (some ⟨a + 3, 0, none⟩), .pointer (some ⟨a, 0, none⟩)] wx fun e w' => (∃ v, e = .returned v) ∧ gath M w' a (addP s p) ∧ BelowG M a wx w' := by
  refine add_bd a s p wx (gath_below hg hb) hB (hS p hp) ?_ hn
  have h1 : wtP p ≤ wts l := by
    obtain ⟨l1, l2, rfl⟩ := List.append_of_mem hp
    have h2 := wts_nonneg (ps := l1) fun q hq => hS q (by simp [hq])
    have h3 := wts_nonneg (ps := l2) fun q hq => hS q (by simp [hq])
    unfold wts at h2 h3 ⊢
    simp only [List.map_append, List.sum_append, List.map_cons, List.sum_cons]
    omega
  omega

theorem turnO_any (M a β : Nat) (s : NSt) (one other : Pt) (w : World) (hg : gath M w a s) (hx : w.heap[β]? = some (.cells #[addV a] 342 (0, 0))) {T : Int} {n : Nat} (hB : Bd s T n) (hS : ∀ p ∈ turnP (one, other), soundP p) (hT : T + wts (turnP (one, other)) < 1000000000) (hn : n < 10000000) :
    Calls Tryz.prog 228 #[partV one, partV other, .pointer (some ⟨β, 0, none⟩)] w (tookP M a s (turnP (one, other)) w) := by
  have cA := take_adds M a s _ w hg hB hS hT hn
  have cO := isPut_any other
  have cP := isPut_any one
  have cK := isKeep_any other
  have hlt := gath_lt hg
  obtain ⟨K, D, U⟩ := one
  obtain ⟨K2, D2, U2⟩ := other
  by_cases h1 : U2 ≠ []
  · have ht : turnP (⟨K, D, U⟩, ⟨K2, D2, U2⟩) = [⟨U2.length, 0, []⟩] := by unfold turnP; rw [if_pos (by simp [isPutP, h1])]
    rw [show decide ((⟨K2, D2, U2⟩ : Pt).put ≠ []) = true from decide_eq_true h1] at cO
    rw [ht] at cA ⊢
    exact turn_len M a β s K D K2 D2 U U2 w hg hlt hx cO (cA _ (List.mem_singleton.2 rfl))
  · rw [show decide ((⟨K2, D2, U2⟩ : Pt).put ≠ []) = false from decide_eq_false h1] at cO
    by_cases h2 : U ≠ []
    · have ht : turnP (⟨K, D, U⟩, ⟨K2, D2, U2⟩) = [⟨K, D, U⟩] := by unfold turnP; rw [if_neg (by simpa [isPutP] using h1), if_pos (by simp [isPutP, h2])]
      rw [show decide ((⟨K, D, U⟩ : Pt).put ≠ []) = true from decide_eq_true h2] at cP
      rw [ht] at cA ⊢
      exact turn_put M a β s K D K2 D2 U U2 w hg hlt hx cO cP (cA _ (List.mem_singleton.2 rfl))
    · rw [show decide ((⟨K, D, U⟩ : Pt).put ≠ []) = false from decide_eq_false h2] at cP
      by_cases h3 : 0 < K2
      · have ht : turnP (⟨K, D, U⟩, ⟨K2, D2, U2⟩) = [⟨K, D, U⟩] := by unfold turnP; rw [if_neg (by simpa [isPutP] using h1), if_pos (by simp [isKeepP, h3])]
        rw [show decide (0 < (⟨K2, D2, U2⟩ : Pt).keep) = true from decide_eq_true h3] at cK
        rw [ht] at cA ⊢
        exact turn_unit1 M a β s K D K2 D2 U U2 w hg hlt hx cO cP cK (cA _ (List.mem_singleton.2 rfl))
      · have ht : turnP (⟨K, D, U⟩, ⟨K2, D2, U2⟩) = [] := by
          unfold turnP
          rw [if_neg (by simpa [isPutP] using h1), if_neg]
          simp only [isPutP, isKeepP, Bool.or_eq_true, decide_eq_true_eq, not_or]
          exact ⟨h2, h3⟩
        rw [show decide (0 < (⟨K2, D2, U2⟩ : Pt).keep) = false from decide_eq_false h3] at cK
        rw [ht]
        exact turn_none M a β s K D K2 D2 U U2 w hg hlt hx cO cP cK

theorem comp_any (M a β : Nat) (s : NSt) (one two : Pt) (w : World) (hg : gath M w a s) (hx : w.heap[β]? = some (.cells #[addV a] 342 (0, 0))) {T : Int} {n : Nat} (hB : Bd s T n) (hS : ∀ p ∈ compP (one, two), soundP p) (hT : T + wts (compP (one, two)) < 1000000000) (hn : n < 10000000) :
    Calls Tryz.prog 226 #[partV one, partV two, .pointer (some ⟨β, 0, none⟩)] w (tookP M a s (compP (one, two)) w) := by
  have cA := take_adds M a s _ w hg hB hS hT hn
  have c1 := isDrop_any one
  have c2 := isKeep_any two
  have c3 := isPut_any two
  have c4 := isKeep_any one
  have hlt := gath_lt hg
  obtain ⟨K, D, U⟩ := one
  obtain ⟨K2, D2, U2⟩ := two
  by_cases h1 : 0 < D
  · have ht : compP (⟨K, D, U⟩, ⟨K2, D2, U2⟩) = [⟨K, D, U⟩] := by unfold compP; rw [if_pos (by simp [isDropP, h1])]
    rw [show decide (0 < (⟨K, D, U⟩ : Pt).drop) = true from decide_eq_true h1] at c1
    rw [ht] at cA ⊢
    exact comp_drop M a β s K D K2 D2 U U2 w hg hlt hx c1 (cA _ (List.mem_singleton.2 rfl))
  · rw [show decide (0 < (⟨K, D, U⟩ : Pt).drop) = false from decide_eq_false h1] at c1
    by_cases h2 : 0 < K2
    · have ht : compP (⟨K, D, U⟩, ⟨K2, D2, U2⟩) = [⟨K, D, U⟩] := by unfold compP; rw [if_pos (by simp [isKeepP, h2])]
      rw [show decide (0 < (⟨K2, D2, U2⟩ : Pt).keep) = true from decide_eq_true h2] at c2
      rw [ht] at cA ⊢
      exact comp_keep M a β s K D K2 D2 U U2 w hg hlt hx c1 c2 (cA _ (List.mem_singleton.2 rfl))
    · rw [show decide (0 < (⟨K2, D2, U2⟩ : Pt).keep) = false from decide_eq_false h2] at c2
      have hf : ¬ ((isDropP (⟨K, D, U⟩ : Pt) || isKeepP (⟨K2, D2, U2⟩ : Pt)) = true) := by
        simp only [isDropP, isKeepP, Bool.or_eq_true, decide_eq_true_eq, not_or]
        exact ⟨h1, h2⟩
      by_cases h3 : U2 ≠ []
      · have ht : compP (⟨K, D, U⟩, ⟨K2, D2, U2⟩) = [⟨K2, D2, U2⟩] := by unfold compP; rw [if_neg hf, if_pos (by simp [isPutP, h3])]
        rw [show decide ((⟨K2, D2, U2⟩ : Pt).put ≠ []) = true from decide_eq_true h3] at c3
        rw [ht] at cA ⊢
        exact comp_put M a β s K D K2 D2 U U2 w hg hlt hx c1 c2 c3 (cA _ (List.mem_singleton.2 rfl))
      · rw [show decide ((⟨K2, D2, U2⟩ : Pt).put ≠ []) = false from decide_eq_false h3] at c3
        by_cases h4 : 0 < K
        · have ht : compP (⟨K, D, U⟩, ⟨K2, D2, U2⟩) = [⟨K2, D2, U2⟩] := by unfold compP; rw [if_neg hf, if_pos (by simp [isKeepP, h4])]
          rw [show decide (0 < (⟨K, D, U⟩ : Pt).keep) = true from decide_eq_true h4] at c4
          rw [ht] at cA ⊢
          exact comp_two M a β s K D K2 D2 U U2 w hg hlt hx c1 c2 c3 c4 (cA _ (List.mem_singleton.2 rfl))
        · have ht : compP (⟨K, D, U⟩, ⟨K2, D2, U2⟩) = [] := by
            unfold compP
            rw [if_neg hf, if_neg]
            simp only [isPutP, isKeepP, Bool.or_eq_true, decide_eq_true_eq, not_or]
            exact ⟨h3, h4⟩
          rw [show decide (0 < (⟨K, D, U⟩ : Pt).keep) = false from decide_eq_false h4] at c4
          rw [ht]
          exact comp_none M a β s K D K2 D2 U U2 w hg hlt hx c1 c2 c3 c4
end Go.Proofs.YtedgnlgjmnccgabGreatDoor
