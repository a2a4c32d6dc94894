/-
  bridge.steps, and what it tells, by runes.
-/
import Derived.Test.YtldhbjmillfjgabGreatDoorConv
import Derived.Test.YtldhbjmillfjgabGreatDoorOpsSpread
namespace Go.Proofs.YtldhbjmillfjgabGreatDoor
open Go.RowKit
set_option linter.unusedVariables false
attribute [local go_sem] Oper.semAt_some

/-- The boxes of steps: where it is, and how much is ahead. -/
structure stp (W : World) (s b : Nat) (u v a h : Int) : Prop where
  r : W.cell? ⟨s, 0, none⟩ = some (.pointer (some ⟨b, 0, none⟩))
  u : W.cell? ⟨s + 1, 0, none⟩ = some (.int .i64 u)
  v : W.cell? ⟨s + 2, 0, none⟩ = some (.int .i64 v)
  a : W.cell? ⟨s + 3, 0, none⟩ = some (.int .i64 a)
  af : W.frozen? ⟨s + 3, 0, none⟩ = false
  h : W.cell? ⟨s + 4, 0, none⟩ = some (.int .i64 h)
  hf : W.frozen? ⟨s + 4, 0, none⟩ = false
theorem stp.below {W W' : World} {s b : Nat} {u v a h : Int} (k : stp W s b u v a h) (hb : Below W.heap.size W W') : stp W' s b u v a h := by
  have l0 := World.block_lt_of_cell? W _ k.r
  have l1 := World.block_lt_of_cell? W _ k.u
  have l2 := World.block_lt_of_cell? W _ k.v
  have l3 := World.block_lt_of_cell? W _ k.a
  have l4 := World.block_lt_of_cell? W _ k.h
  exact ⟨(hb.cell l0).trans k.r, (hb.cell l1).trans k.u, (hb.cell l2).trans k.v, (hb.cell l3).trans k.a, (hb.frozen l3).trans k.af, (hb.cell l4).trans k.h, (hb.frozen l4).trans k.hf⟩
def stepsV (s : Nat) : Value := .func (.func 164) #[] #[.pointer (some ⟨s + 3, 0, none⟩), .pointer (some ⟨s, 0, none⟩), .pointer (some ⟨s + 1, 0, none⟩), .pointer (some ⟨s + 2, 0, none⟩), .pointer (some ⟨s + 4, 0, none⟩)]

set_option maxHeartbeats 1000000 in
theorem bsteps_any (b : Nat) (u v : Int) (w : World) : Calls Tryz.prog 120 #[.pointer (some ⟨b, 0, none⟩), .int .i64 u, .int .i64 v] w fun e w' => e = .returned (stepsV w.heap.size) ∧ stp w' w.heap.size b u v 0 0 ∧ Below w.heap.size w w' ∧ w'.heap.size = w.heap.size + 5 := by
  unfold stepsV
  go_enter Tryz.func120, Tryz.ntmps120
  go_wp2
  go_ret
  refine ⟨rfl, ⟨?_, ?_, ?_, ?_, ?_, ?_, ?_⟩, ?_, ?_⟩
  all_goals first
    | simp [go_sem]
    | exact (((((Below.refl w.heap.size w).alloc (Nat.le_refl _) _).alloc (by simp) _).alloc (by simp; omega) _).alloc (by simp; omega) _).alloc (by simp; omega) _

set_option maxRecDepth 100000 in
set_option maxHeartbeats 2000000 in
theorem steps1_any (s b : Nat) (rs X : List Nat) (u v a h n : Int) (W : World) (k : stp W s b u v a h) (hu : u = 1 ∨ u = 2 ∨ u = 3) (hv : v = 1 ∨ v = 2 ∨ v = 3) (h0 : 0 ≤ a + n) (h1 : a + n ≤ by_ u rs) (hX : find (reachesBy u (a + n)) [] rs = X) (hfine : by_ u X = a + n)
    (hT : Lib.Utf8Tabs 2 3 W) (hR : isRope W b rs) (hbs : b < s) (hz : C1 rs ≤ 100000000) (hh : 0 ≤ h) (hhx : h ≤ by_ v X) (hvx : by_ v X ≤ 100000000) (hbig : by_ u rs ≤ 100000000)
    (hK : ∀ W', Below s W W' → Lib.Utf8Tabs 2 3 W' ∧ isRope W' b rs) :
    Calls Tryz.prog 164 #[.int .i64 n, .pointer (some ⟨s + 3, 0, none⟩), .pointer (some ⟨s, 0, none⟩), .pointer (some ⟨s + 1, 0, none⟩), .pointer (some ⟨s + 2, 0, none⟩), .pointer (some ⟨s + 4, 0, none⟩)] W fun e w' =>
      e = .returned (.tuple #[.int .i64 (by_ v X - h), .nilIface]) ∧ stp w' s b u v (a + n) (by_ v X) ∧ Below s W w' ∧ W.heap.size ≤ w'.heap.size ∧ (∀ B e size m v' xs, s + 5 ≤ B → B ≤ W.heap.size → W.ownsRow B e size v' m xs → w'.ownsRow B e size v' m xs) ∧ ∀ k, k ≠ s + 3 → k ≠ s + 4 → k < W.heap.size → w'.heap[k]? = W.heap[k]? := by
  have l3 := World.block_lt_of_cell? W _ k.a
  have l4 := World.block_lt_of_cell? W _ k.h
  obtain ⟨k1, k2, k3, k4, k5, k6, k7⟩ := k
  have hw1 : IntKind.i64.wrap (a + n) = a + n := by rw [IntKind.wrap_i64]; omega
  have hw2 : IntKind.i64.wrap (by_ v X - h) = by_ v X - h := by rw [IntKind.wrap_i64]; omega
  have hb1 : Below s W (W.setCell ⟨s + 3, 0, none⟩ (.int .i64 (a + n))) := (Below.refl s W).setCell (p := ⟨s + 3, 0, none⟩) (Nat.le_add_right _ _) _
  obtain ⟨hT1, hR1⟩ := hK _ hb1
  have cC : Hid _ := convert_any b rs u v (a + n) hu hv h0 h1 (W.setCell ⟨s + 3, 0, none⟩ (.int .i64 (a + n))) hT1 hR1 hz X hX hfine
  have KS : Hid (stp (W.setCell ⟨s + 3, 0, none⟩ (.int .i64 (a + n))) s b u v (a + n) h) := by
    refine ⟨?_, ?_, ?_, ?_, ?_, ?_, ?_⟩ <;> simp [go_sem, k1, k2, k3, k4, k5, k6, k7]
  have HB1 : Hid (Below s W (W.setCell ⟨s + 3, 0, none⟩ (.int .i64 (a + n)))) := hb1
  generalize by_ v X = x at *
  clear hX hfine hu hv h0 h1 hT hR hz hK hT1 hR1 hb1 hbig
  go_enter Tryz.func164, Tryz.ntmps164
  go_wp2_with (first
    | (go_at_call 119; refine Calls.mono cC.out ?_; rintro e w2 ⟨rfl, hb2⟩; have KS2 : Hid (stp w2 s b u v (a + n) h) := KS.out.below hb2; have HB2 : Hid (Below s W w2) := HB1.out.trans (hb2.mono (by simp; omega)); have HS2 := hb2.size; have HW2 : Hid _ := hb2; obtain ⟨m1, m2, m3, m4, m5, m6, m7⟩ := KS.out.below hb2; clear hb2)
    | fail)
  go_ret2
  have hz2 : W.heap.size ≤ w2.heap.size := by simpa using HS2
  refine ⟨rfl, ?_, HB2.out.setCell (p := ⟨s + 4, 0, none⟩) (Nat.le_add_right _ _) _, by simpa using hz2, ?_, ?_⟩
  · refine ⟨?_, ?_, ?_, ?_, ?_, ?_, ?_⟩ <;> simp [go_sem, m1, m2, m3, m4, m5, m6, m7]
  · intro B e size m v' xs hB hBW ho
    refine own_setAt ?_ (by omega) _
    exact own_below (own_setAt ho (by omega) _) HW2.out
  · intro k hk3 hk4 hk
    have e1 := Below.heap_setCell w2 (⟨s + 4, 0, none⟩ : Addr) (.int .i64 x) k (by show k ≠ s + 4; exact hk4)
    have e2 := HW2.out.block k (by simpa using hk)
    have e3 := Below.heap_setCell W (⟨s + 3, 0, none⟩ : Addr) (.int .i64 (a + n)) k (by show k ≠ s + 3; exact hk3)
    exact e1.trans (e2.trans e3)
end Go.Proofs.YtldhbjmillfjgabGreatDoor
