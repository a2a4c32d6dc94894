/-
  pos.Convert at a place that there is.
-/
import Derived.Test.YtldhbjmillfjgabGreatDoorAheadAny
namespace Go.Proofs.YtldhbjmillfjgabGreatDoor
open Go.RowKit
set_option linter.unusedVariables false
attribute [local go_sem] Oper.semAt_some

theorem find_zero (u : Int) (rs : List Nat) : find (reachesBy u 0) [] rs = [] := by
  unfold find
  have : reachesBy u 0 [] = true := decide_eq_true (by_pos u [])
  rw [if_pos this]
theorem by_nil (u : Int) : by_ u [] = 0 := by
  unfold by_
  split
  · rfl
  · split
    · rfl
    · split <;> rfl
set_option maxRecDepth 100000 in
set_option maxHeartbeats 2000000 in
theorem unitError_good (b : Nat) (rs : List Nat) (u : Int) (hu : u = 1 ∨ u = 2 ∨ u = 3) (w : World) (hT : Lib.Utf8Tabs 2 3 w) (h : isRope w b rs) (hz : C1 rs ≤ 100000000) :
    Calls Tryz.prog 162 #[.pointer (some ⟨b, 0, none⟩), .int .i64 u] w fun e w' => e = .returned .nilIface ∧ Below w.heap.size w w' := by
  have cA := ahead_any b rs u 0 hu (Int.le_refl _) (by_pos u rs) w hT h hz
  rw [find_zero, by_nil, if_pos rfl] at cA
  have HA : Hid _ := cA
  unfold cntV at HA
  clear cA hT h hu hz
  go_enter Tryz.func162, Tryz.ntmps162
  go_wp2_with (first
    | (go_at_call 163; refine Calls.mono HA.out ?_; rintro e w1 ⟨rfl, hb1⟩)
    | fail)
  go_ret
  exact ⟨rfl, hb1.alloc hb1.size _⟩

/-- A place by u as one by v. -/
theorem convert_any (b : Nat) (rs : List Nat) (u v at_ : Int) (hu : u = 1 ∨ u = 2 ∨ u = 3) (hv : v = 1 ∨ v = 2 ∨ v = 3) (hl0 : 0 ≤ at_) (hl1 : at_ ≤ by_ u rs) (w : World) (hT : Lib.Utf8Tabs 2 3 w) (h : isRope w b rs) (hz : C1 rs ≤ 100000000) (X : List Nat) (hX : find (reachesBy u at_) [] rs = X) (hfine : by_ u X = at_) :
    Calls Tryz.prog 119 #[.pointer (some ⟨b, 0, none⟩), .int .i64 u, .int .i64 v, .int .i64 at_] w fun e w' => e = .returned (.tuple #[.int .i64 (by_ v X), .nilIface]) ∧ Below w.heap.size w w' := by
  have cU : Hid _ := unitError_good b rs v hv w hT h hz
  have cA : Hid (∀ wx, Below w.heap.size w wx → Calls Tryz.prog 163 #[.pointer (some ⟨b, 0, none⟩), .int .i64 u, .int .i64 at_] wx fun e w' => e = .returned (.tuple #[cntV X, .nilIface]) ∧ Below wx.heap.size wx w') := fun wx hb => by
    have := ahead_any b rs u at_ hu hl0 hl1 wx (Go.Proofs.Utf8Tabs_below hT hb) (isRope_below h hb) hz
    rw [hX, if_pos hfine] at this
    exact this
  have cI : Hid (∀ wx, Calls Tryz.prog 19 #[cntV X, .int .i64 v] wx fun e w' => e = .returned (.int .i64 (by_ v X)) ∧ Below wx.heap.size wx w') := fun wx => In_any v X wx
  unfold cntV at cA cI
  clear hT h hu hz hv hl0 hl1 hX hfine
  generalize by_ v X = nx at *
  go_enter Tryz.func119, Tryz.ntmps119
  go_wp2_with (first
    | (go_at_call 162; refine Calls.mono cU.out ?_; rintro e w1 ⟨rfl, hb1⟩; have HB1 : Hid (Below w.heap.size w w1) := hb1; clear hb1)
    | (go_at_call 163; refine (cA.out _ HB1.out).mono ?_; rintro e w2 ⟨rfl, hb2⟩; have HB2 : Hid (Below w.heap.size w w2) := HB1.out.trans (hb2.mono HB1.out.size); clear hb2)
    | (go_at_call 19; refine (cI.out _).mono ?_; rintro e w3 ⟨rfl, hb3⟩)
    | fail)
  go_ret2
  have hb2' := HB2.out.alloc HB2.out.size (.cells #[.int .i64 (C1 X), .int .i64 (C2 X), .int .i64 (C3 X), .int .i64 (C4 X)] 25)
  exact ⟨rfl, hb2'.trans (hb3.mono hb2'.size)⟩
end Go.Proofs.YtldhbjmillfjgabGreatDoor
