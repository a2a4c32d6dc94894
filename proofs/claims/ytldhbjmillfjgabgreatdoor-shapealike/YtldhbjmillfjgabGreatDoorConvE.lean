/-
  pos.Convert by units that are none, and within a rune.
-/
import Derived.Test.YtldhbjmillfjgabGreatDoorConv
import Derived.Test.YtldhbjmillfjgabGreatDoorErrNum
namespace Go.Proofs.YtldhbjmillfjgabGreatDoor
open Go.RowKit
set_option linter.unusedVariables false
attribute [local go_sem] Oper.semAt_some

def unitOk (u : Int) : Prop := u = 1 ∨ u = 2 ∨ u = 3
theorem isUnit_bad (u : Int) (hu : ¬ unitOk u) (w : World) : Calls Tryz.prog 192 #[.int .i64 u] w fun e w' => e = .returned (.bool false) ∧ w' = w := by
  have k1 : (u == 1) = false := beq_eq_false_iff_ne.2 fun e => hu (.inl e)
  have k2 : (u == 2) = false := beq_eq_false_iff_ne.2 fun e => hu (.inr (.inl e))
  have k3 : (u == 3) = false := beq_eq_false_iff_ne.2 fun e => hu (.inr (.inr e))
  clear hu
  go_enter Tryz.func192, Tryz.ntmps192
  go_wp2
  go_ret
  exact ⟨rfl, rfl⟩
set_option maxRecDepth 100000 in
set_option maxHeartbeats 1000000 in
theorem ahead_bad (b : Nat) (u at_ : Int) (hu : ¬ unitOk u) (w : World) :
    Calls Tryz.prog 163 #[.pointer (some ⟨b, 0, none⟩), .int .i64 u, .int .i64 at_] w fun e w' => e = .returned (.tuple #[cntV [], errV 1]) ∧ Below w.heap.size w w' := by
  have cN := fun wx => isUnit_bad u hu wx
  have hb2 : Below w.heap.size w (((w.alloc (.cells #[.int .i64 u] 3)).alloc (.cells #[.int .i64 at_] 3)).alloc (.cells #[.int .i64 0, .int .i64 0, .int .i64 0, .int .i64 0] 25)) := (((Below.refl _ w).alloc (Nat.le_refl _) _).alloc (by simp) _).alloc (by simp; omega) _
  have HB2 : Hid _ := hb2
  have hV : errV 1 = .iface 26 (.int .i64 1) := rfl
  have hC : cntV [] = .agg #[.int .i64 0, .int .i64 0, .int .i64 0, .int .i64 0] := rfl
  rw [hV, hC]
  clear hu hb2 hV hC
  go_enter Tryz.func163, Tryz.ntmps163
  go_wp2_with (first
    | (go_at_call 192; refine (cN _).mono ?_; rintro e w1 ⟨rfl, hw1⟩; obtain rfl := hw1.symm)
    | fail)
  refine bodyPost_ret (v := .tuple #[.agg #[.int .i64 0, .int .i64 0, .int .i64 0, .int .i64 0], .iface 26 (.int .i64 1)]) (by simp [results, Tryz.results163, go_sem]) rfl ⟨rfl, HB2.out⟩
set_option maxHeartbeats 1000000 in
theorem unitError_bad (b : Nat) (u : Int) (hu : ¬ unitOk u) (w : World) :
    Calls Tryz.prog 162 #[.pointer (some ⟨b, 0, none⟩), .int .i64 u] w fun e w' => e = .returned (errV 1) ∧ Below w.heap.size w w' := by
  have cA : Hid _ := ahead_bad b u 0 hu w
  have hV : errV 1 = .iface 26 (.int .i64 1) := rfl
  have hC : cntV [] = .agg #[.int .i64 0, .int .i64 0, .int .i64 0, .int .i64 0] := rfl
  rw [hV] at cA ⊢
  rw [hC] at cA
  clear hu hV hC
  go_enter Tryz.func162, Tryz.ntmps162
  go_wp2_with (first
    | (go_at_call 163; refine Calls.mono cA.out ?_; rintro e w1 ⟨rfl, hb1⟩)
    | fail)
  go_ret
  exact ⟨rfl, hb1.alloc hb1.size _⟩
set_option maxHeartbeats 1000000 in
theorem convert_to (b : Nat) (u v at_ : Int) (hv : ¬ unitOk v) (w : World) :
    Calls Tryz.prog 119 #[.pointer (some ⟨b, 0, none⟩), .int .i64 u, .int .i64 v, .int .i64 at_] w fun e w' => e = .returned (.tuple #[.int .i64 0, errV 1]) ∧ Below w.heap.size w w' := by
  have cU : Hid _ := unitError_bad b v hv w
  have hV : errV 1 = .iface 26 (.int .i64 1) := rfl
  rw [hV] at cU ⊢
  clear hv hV
  go_enter Tryz.func119, Tryz.ntmps119
  go_wp2_with (first
    | (go_at_call 162; refine Calls.mono cU.out ?_; rintro e w1 ⟨rfl, hb1⟩)
    | fail)
  go_ret2
  exact ⟨rfl, hb1⟩
set_option maxHeartbeats 1000000 in
theorem convert_from (b : Nat) (rs : List Nat) (u v at_ : Int) (hv : unitOk v) (hu : ¬ unitOk u) (w : World) (hT : Lib.Utf8Tabs 2 3 w) (h : isRope w b rs) (hz : C1 rs ≤ 100000000) :
    Calls Tryz.prog 119 #[.pointer (some ⟨b, 0, none⟩), .int .i64 u, .int .i64 v, .int .i64 at_] w fun e w' => e = .returned (.tuple #[.int .i64 0, errV 1]) ∧ Below w.heap.size w w' := by
  have cU : Hid _ := unitError_good b rs v hv w hT h hz
  have cA : Hid (∀ wx, Calls Tryz.prog 163 #[.pointer (some ⟨b, 0, none⟩), .int .i64 u, .int .i64 at_] wx fun e w' => e = .returned (.tuple #[.agg #[.int .i64 0, .int .i64 0, .int .i64 0, .int .i64 0], .iface 26 (.int .i64 1)]) ∧ Below wx.heap.size wx w') := fun wx => ahead_bad b u at_ hu wx
  have hV : errV 1 = .iface 26 (.int .i64 1) := rfl
  rw [hV]
  clear hv hu hV hT h hz
  go_enter Tryz.func119, Tryz.ntmps119
  go_wp2_with (first
    | (go_at_call 162; refine Calls.mono cU.out ?_; rintro e w1 ⟨rfl, hb1⟩; have HB1 : Hid (Below w.heap.size w w1) := hb1; clear hb1)
    | (go_at_call 163; refine (cA.out _).mono ?_; rintro e w2 ⟨rfl, hb2⟩; have HB2 : Hid (Below w.heap.size w w2) := HB1.out.trans (hb2.mono HB1.out.size); clear hb2)
    | fail)
  go_ret2
  exact ⟨rfl, HB2.out.alloc HB2.out.size _⟩
set_option maxHeartbeats 1000000 in
theorem convert_ord (b : Nat) (rs : List Nat) (u v at_ : Int) (hu : unitOk u) (hv : unitOk v) (hl0 : 0 ≤ at_) (hl1 : at_ ≤ by_ u rs) (w : World) (hT : Lib.Utf8Tabs 2 3 w) (h : isRope w b rs) (hz : C1 rs ≤ 100000000) (X : List Nat) (hX : find (reachesBy u at_) [] rs = X) (hfine : by_ u X ≠ at_) :
    Calls Tryz.prog 119 #[.pointer (some ⟨b, 0, none⟩), .int .i64 u, .int .i64 v, .int .i64 at_] w fun e w' => e = .returned (.tuple #[.int .i64 0, errV 10]) ∧ Below w.heap.size w w' := by
  have cU : Hid _ := unitError_good b rs v hv w hT h hz
  have cA : Hid (∀ wx, Below w.heap.size w wx → Calls Tryz.prog 163 #[.pointer (some ⟨b, 0, none⟩), .int .i64 u, .int .i64 at_] wx fun e w' => e = .returned (.tuple #[.agg #[.int .i64 0, .int .i64 0, .int .i64 0, .int .i64 0], .iface 26 (.int .i64 10)]) ∧ Below wx.heap.size wx w') := fun wx hb => by
    have := ahead_any b rs u at_ hu hl0 hl1 wx (Go.Proofs.Utf8Tabs_below hT hb) (isRope_below h hb) hz
    rw [hX, if_neg hfine] at this
    exact this
  have hV : errV 10 = .iface 26 (.int .i64 10) := rfl
  rw [hV]
  clear hT h hu hz hv hl0 hl1 hX hfine hV
  go_enter Tryz.func119, Tryz.ntmps119
  go_wp2_with (first
    | (go_at_call 162; refine Calls.mono cU.out ?_; rintro e w1 ⟨rfl, hb1⟩; have HB1 : Hid (Below w.heap.size w w1) := hb1; clear hb1)
    | (go_at_call 163; refine (cA.out _ HB1.out).mono ?_; rintro e w2 ⟨rfl, hb2⟩; have HB2 : Hid (Below w.heap.size w w2) := HB1.out.trans (hb2.mono HB1.out.size); clear hb2)
    | fail)
  go_ret2
  exact ⟨rfl, HB2.out.alloc HB2.out.size _⟩
end Go.Proofs.YtldhbjmillfjgabGreatDoor
