/-
  rosettakeep.PosBack: the law's own walk.
  rosettakeep.PosBack at every argument.
-/
import Derived.Test.YtgmgkbbnciglhaaDoorPartG
import Derived.Test.YtgmgkbbnciglhaaDoorPartH
import Derived.Test.YtgmgkbbnciglhaaDoorPartF
import Derived.Test.YtgmgkbbnciglhaaDoorPartE
namespace Go.Proofs.YtgmgkbbnciglhaaDoor
open Go.RowKit
set_option linter.unusedVariables false
attribute [local go_sem] Oper.semAt_some

theorem ropeb_lt {w : World} {b : Nat} {rs : List Nat} (h : isRope w b rs) : b < w.heap.size := by obtain ⟨q, t, h1, _⟩ := h; exact World.block_lt_of_cell? w _ h1
theorem abc_eq : (⟨#[97, 98, 99]⟩ : ByteArray) = bytesOf [97, 98, 99] := by decide
theorem xy_eq : (⟨#[120, 121]⟩ : ByteArray) = bytesOf [120, 121] := by decide
theorem axyc_eq : (⟨#[97, 120, 121, 99]⟩ : ByteArray) = bytesOf [97, 120, 121, 99] := by decide
set_option maxRecDepth 100000 in
set_option maxHeartbeats 2000000 in
theorem laid_any (w : World) (hT : Lib.Utf8Tabs 0 1 w) :
    Calls Tryd.prog 34 #[] w fun e w' => e = .returned (.bool true) ∧ Below w.heap.size w w' := by
  have r3 : ∀ r ∈ [97, 98, 99], isRune r := fun r h => by simp at h; unfold isRune; omega
  have r2 : ∀ r ∈ [120, 121], isRune r := fun r h => by simp at h; unfold isRune; omega
  have cN := new_good [97, 98, 99] r3 (by decide) w hT
  rw [← abc_eq] at cN
  have cS : Hid (∀ b wx, Below w.heap.size w wx → isRope wx b [97, 98, 99] → Calls Tryd.prog 32 #[.pointer (some ⟨b, 0, none⟩), .int .i64 1, .int .i64 1, .string ⟨#[120, 121]⟩] wx fun e w' => e = .returned .nilIface ∧ isRope w' b [97, 120, 121, 99] ∧ But b wx w') := fun b wx hb h => by
    have c := splice_all b [97, 98, 99] [120, 121] 1 1 r2 (by decide) wx (Go.Proofs.Utf8Tabs_below hT hb) h (by decide)
    have e0 : spliceE [97, 98, 99] 1 1 (C1 [120, 121]) = 0 := by decide +kernel
    have e1 : errV (spliceE [97, 98, 99] 1 1 (C1 [120, 121])) = .nilIface := by rw [e0]; rfl
    have e2 : spliceR [97, 98, 99] [120, 121] 1 1 = [97, 120, 121, 99] := by decide +kernel
    rw [e1, e2, ← xy_eq] at c
    exact c
  have cA : Hid (∀ b wx, Below w.heap.size w wx → isRope wx b [97, 120, 121, 99] → Calls Tryd.prog 42 #[.pointer (some ⟨b, 0, none⟩), .int .i64 3, .int .i64 3] wx fun e w' => e = .returned (.tuple #[.agg #[.int .i64 3, .int .i64 3, .int .i64 3, .int .i64 0], .nilIface]) ∧ Below wx.heap.size wx w') := fun b wx hb h => by
    have c := ahead_all b [97, 120, 121, 99] 3 3 (.inr (.inr rfl)) wx (Go.Proofs.Utf8Tabs_below hT hb) h (by decide)
    have e1 : aheadE 3 3 [97, 120, 121, 99] = .tuple #[.agg #[.int .i64 3, .int .i64 3, .int .i64 3, .int .i64 0], .nilIface] := by rfl
    rw [e1] at c
    exact c
  have cT : Hid (∀ b wx, isRope wx b [97, 120, 121, 99] → Calls Tryd.prog 33 #[.pointer (some ⟨b, 0, none⟩)] wx fun e w' => e = .returned (.string ⟨#[97, 120, 121, 99]⟩) ∧ Below wx.heap.size wx w') := fun b wx h => by
    rw [axyc_eq]
    exact ropetext_any b _ wx h (by decide)
  clear hT
  go_enter Tryd.func34, Tryd.ntmps34
  go_wp2_with (first
    | (go_at_call 29; refine cN.mono ?_; rintro e w1 ⟨b, rfl, hbl, hR, hb1⟩; have HR1 : Hid (isRope w1 b [97, 98, 99]) := hR; have HL1 : Hid (w.heap.size ≤ b) := hbl; have HB1 : Hid (Below w.heap.size w w1) := hb1; clear hR hb1 hbl)
    | (go_at_call 32; refine (cS.out _ _ HB1.out HR1.out).mono ?_; rintro e w2 ⟨rfl, hR2, hB2⟩; have HR2 : Hid (isRope w2 b [97, 120, 121, 99]) := hR2; have HB2 : Hid (Below w.heap.size w w2) := HB1.out.trans ((hB2.below (Nat.le_of_lt (ropeb_lt HR1.out))).mono HL1.out); clear hR2 hB2)
    | (go_at_call 42; refine (cA.out _ _ HB2.out HR2.out).mono ?_; rintro e w3 ⟨rfl, hb3⟩; have hby : Below w2.heap.size w2 (w3.alloc (.cells #[.int .i64 3, .int .i64 3, .int .i64 3, .int .i64 0] 36)) := hb3.alloc hb3.size _; have HB3 : Hid (Below w.heap.size w (w3.alloc (.cells #[.int .i64 3, .int .i64 3, .int .i64 3, .int .i64 0] 36))) := HB2.out.trans (hby.mono HB2.out.size); have HR3 : Hid (isRope (w3.alloc (.cells #[.int .i64 3, .int .i64 3, .int .i64 3, .int .i64 0] 36)) b [97, 120, 121, 99]) := isRope_below HR2.out hby; have HC3 : Hid (counted (w3.alloc (.cells #[.int .i64 3, .int .i64 3, .int .i64 3, .int .i64 0] 36)) w3.heap.size 3 3 3 0) := counted_new w3 _ _ _ _ _; clear hb3 hby)
    | (go_at_call 33; refine (cT.out _ _ HR3.out).mono ?_; rintro e w4 ⟨rfl, hb4⟩; have HB4 : Hid (Below w.heap.size w w4) := HB3.out.trans (hb4.mono HB3.out.size); have ⟨⟨z0, _⟩, _⟩ := counted_below HC3.out hb4; clear hb4)
    | fail)
  go_ret
  exact ⟨rfl, HB4.out⟩

set_option maxRecDepth 100000 in
set_option maxHeartbeats 8000000 in
theorem posBack_off (s : ByteArray) (rs X : List Nat) (f t a b f0 t0 u v n A B x y sx sy : Int) (e2 : Value) (hu : 1 + f0 = u) (hv : 1 + t0 = v) (hf0 : 0 ≤ f0 ∧ f0 ≤ 2) (ht0 : 0 ≤ t0 ∧ t0 ≤ 2) (hn : 0 ≤ n ∧ n ≤ 100000)  (w : World)
    (cL : Hid (∀ wx, Below w.heap.size w wx → Calls Tryd.prog 34 #[] wx fun e w' => e = .returned (.bool true) ∧ Below wx.heap.size wx w'))
    (cD : Hid (∀ wx, Below w.heap.size w wx → Calls Tryd.prog 35 #[.string s] wx fun e w' => ∃ b, e = .returned (.pointer (some ⟨b, 0, none⟩)) ∧ isRope w' b rs ∧ Below wx.heap.size wx w'))
    (cP1 : Hid (∀ wx, Calls Tryd.prog 36 #[.int .i64 f, .int .i64 3] wx fun e w' => e = .returned (.int .i64 f0) ∧ Below wx.heap.size wx w'))
    (cP2 : Hid (∀ wx, Calls Tryd.prog 36 #[.int .i64 t, .int .i64 3] wx fun e w' => e = .returned (.int .i64 t0) ∧ Below wx.heap.size wx w'))
    (cP3 : Hid (∀ wx, Calls Tryd.prog 36 #[.int .i64 a, .int .i64 (n + 1)] wx fun e w' => e = .returned (.int .i64 A) ∧ Below wx.heap.size wx w'))
    (cP4 : Hid (∀ wx, Calls Tryd.prog 36 #[.int .i64 b, .int .i64 (n + 1)] wx fun e w' => e = .returned (.int .i64 B) ∧ Below wx.heap.size wx w'))
    (cC : Hid (∀ b wx, isRope wx b rs → Calls Tryd.prog 38 #[.pointer (some ⟨b, 0, none⟩)] wx fun e w' => e = .returned (cntV rs) ∧ Below wx.heap.size wx w'))
    (cI : Hid (∀ wx, Calls Tryd.prog 37 #[cntV rs, .int .i64 u] wx fun e w' => e = .returned (.int .i64 n) ∧ Below wx.heap.size wx w'))
    (cV1 : Hid (∀ b wx, Below w.heap.size w wx → isRope wx b rs → Calls Tryd.prog 39 #[.pointer (some ⟨b, 0, none⟩), .int .i64 u, .int .i64 v, .int .i64 A] wx fun e w' => e = .returned (.tuple #[.int .i64 0, .iface 23 (.int .i64 10)]) ∧ Below wx.heap.size wx w'))
    (cV2 : Hid (∀ b wx, Below w.heap.size w wx → isRope wx b rs → Calls Tryd.prog 39 #[.pointer (some ⟨b, 0, none⟩), .int .i64 u, .int .i64 v, .int .i64 B] wx fun e w' => e = .returned (.tuple #[.int .i64 y, e2]) ∧ Below wx.heap.size wx w'))
    (cS : Hid (∀ b wx, Below w.heap.size w wx → isRope wx b rs → Calls Tryd.prog 40 #[.pointer (some ⟨b, 0, none⟩), .int .i64 u, .int .i64 A] wx fun e w' => e = .returned (.tuple #[.agg #[.int .i64 0, .int .i64 0], .iface 23 (.int .i64 10)]) ∧ Below wx.heap.size wx w'))
    (cA : Hid (∀ b wx, Below w.heap.size w wx → isRope wx b rs → Calls Tryd.prog 42 #[.pointer (some ⟨b, 0, none⟩), .int .i64 u, .int .i64 A] wx fun e w' => e = .returned (.tuple #[cntV [], .iface 23 (.int .i64 10)]) ∧ Below wx.heap.size wx w')) :
    Calls Tryd.prog 7 #[.string s, .int .i64 f, .int .i64 t, .int .i64 a, .int .i64 b] w fun e w' => e = .returned (.bool true) ∧ Below w.heap.size w w' := by
  have hC : cntV [] = .agg #[.int .i64 0, .int .i64 0, .int .i64 0, .int .i64 0] := rfl
  rw [hC] at cA
  clear hC
  unfold cntV at cC cI
  obtain ⟨f1, f2⟩ := hf0
  obtain ⟨t1, t2⟩ := ht0
  obtain ⟨n1, n2⟩ := hn
  go_enter Tryd.func7, Tryd.ntmps7
  go_wp2_with (first
    | (go_at_call 34; refine (cL.out _ (Below.refl _ _)).mono ?_; rintro e w1 ⟨rfl, hb1⟩; have HB1 : Hid (Below w.heap.size w w1) := hb1; clear hb1)
    | (go_at_call 35; refine (cD.out _ HB1.out).mono ?_; rintro e w2 ⟨b, rfl, hR2, hb2⟩; have HB2 : Hid (Below w.heap.size w w2) := HB1.out.trans (hb2.mono HB1.out.size); have HR2 : Hid (isRope w2 b rs) := hR2; clear hb2 hR2)
    | (have _ := HB7; go_at_call 36; refine (cP4.out _).mono ?_; rintro e w8 ⟨rfl, hb8⟩; have HB8 : Hid (Below w.heap.size w w8) := HB7.out.trans (hb8.mono HB7.out.size); have HR8 : Hid (isRope w8 b rs) := isRope_below HR7.out hb8; clear hb8)
    | (have _ := HB6; go_at_call 36; refine (cP3.out _).mono ?_; rintro e w7 ⟨rfl, hb7⟩; have HB7 : Hid (Below w.heap.size w w7) := HB6.out.trans (hb7.mono HB6.out.size); have HR7 : Hid (isRope w7 b rs) := isRope_below HR6.out hb7; clear hb7)
    | (have _ := HB3; go_at_call 36; refine (cP2.out _).mono ?_; rintro e w4 ⟨rfl, hb4⟩; have HB4 : Hid (Below w.heap.size w w4) := HB3.out.trans (hb4.mono HB3.out.size); have HR4 : Hid (isRope w4 b rs) := isRope_below HR3.out hb4; clear hb4)
    | (go_at_call 36; refine (cP1.out _).mono ?_; rintro e w3 ⟨rfl, hb3⟩; have HB3 : Hid (Below w.heap.size w w3) := HB2.out.trans (hb3.mono HB2.out.size); have HR3 : Hid (isRope w3 b rs) := isRope_below HR2.out hb3; clear hb3)
    | (go_at_call 38; refine (cC.out _ _ HR4.out).mono ?_; rintro e w5 ⟨rfl, hb5⟩; have HB5 : Hid (Below w.heap.size w w5) := HB4.out.trans (hb5.mono HB4.out.size); have HR5 : Hid (isRope w5 b rs) := isRope_below HR4.out hb5; clear hb5)
    | (go_at_call 37; refine (cI.out _).mono ?_; rintro e w6 ⟨rfl, hb6⟩; have HB6 : Hid (Below w.heap.size w w6) := HB5.out.trans (hb6.mono HB5.out.size); have HR6 : Hid (isRope w6 b rs) := isRope_below HR5.out hb6; clear hb6)
    | (have _ := HB9; go_at_call 39; refine (cV2.out _ _ HB9.out HR9.out).mono ?_; rintro e w10 ⟨rfl, hb10⟩; have HB10 : Hid (Below w.heap.size w w10) := HB9.out.trans (hb10.mono HB9.out.size); have HR10 : Hid (isRope w10 b rs) := isRope_below HR9.out hb10; clear hb10)
    | (go_at_call 39; refine (cV1.out _ _ HB8.out HR8.out).mono ?_; rintro e w9 ⟨rfl, hb9⟩; have HB9 : Hid (Below w.heap.size w w9) := HB8.out.trans (hb9.mono HB8.out.size); have HR9 : Hid (isRope w9 b rs) := isRope_below HR8.out hb9; clear hb9)
    | (have _ := HB14; go_at_call 40; refine (cS.out _ _ HB14.out HR14.out).mono ?_; rintro e w15 ⟨rfl, hb15⟩; have hby : Below (w14.alloc (.cells #[.int .i64 0, .int .i64 0, .int .i64 0, .int .i64 0] 36)).heap.size (w14.alloc (.cells #[.int .i64 0, .int .i64 0, .int .i64 0, .int .i64 0] 36)) (w15.alloc (.cells #[.int .i64 0, .int .i64 0] 77)) := hb15.alloc hb15.size _; have HB15 : Hid (Below w.heap.size w (w15.alloc (.cells #[.int .i64 0, .int .i64 0] 77))) := HB14.out.trans (hby.mono HB14.out.size); have HR15 : Hid (isRope (w15.alloc (.cells #[.int .i64 0, .int .i64 0] 77)) b rs) := isRope_below HR14.out hby; clear hb15 hby)
    | (go_at_call 42; refine (cA.out _ _ HB10.out HR10.out).mono ?_; rintro e w14 ⟨rfl, hb14⟩; have hby : Below w10.heap.size w10 (w14.alloc (.cells #[.int .i64 0, .int .i64 0, .int .i64 0, .int .i64 0] 36)) := hb14.alloc hb14.size _; have HB14 : Hid (Below w.heap.size w (w14.alloc (.cells #[.int .i64 0, .int .i64 0, .int .i64 0, .int .i64 0] 36))) := HB10.out.trans (hby.mono HB10.out.size); have HR14 : Hid (isRope (w14.alloc (.cells #[.int .i64 0, .int .i64 0, .int .i64 0, .int .i64 0] 36)) b rs) := isRope_below HR10.out hby; clear hb14 hby)
    | fail)
  go_region
  all_goals
    go_wp2
    go_ret
    exact ⟨rfl, HB15.out.drew⟩

set_option maxRecDepth 100000 in
set_option maxHeartbeats 8000000 in
theorem posBack_onoff (s : ByteArray) (rs X : List Nat) (f t a b f0 t0 u v n A B x y sx sy : Int) (e2 : Value) (hu : 1 + f0 = u) (hv : 1 + t0 = v) (hf0 : 0 ≤ f0 ∧ f0 ≤ 2) (ht0 : 0 ≤ t0 ∧ t0 ≤ 2) (hn : 0 ≤ n ∧ n ≤ 100000)  (w : World)
    (cL : Hid (∀ wx, Below w.heap.size w wx → Calls Tryd.prog 34 #[] wx fun e w' => e = .returned (.bool true) ∧ Below wx.heap.size wx w'))
    (cD : Hid (∀ wx, Below w.heap.size w wx → Calls Tryd.prog 35 #[.string s] wx fun e w' => ∃ b, e = .returned (.pointer (some ⟨b, 0, none⟩)) ∧ isRope w' b rs ∧ Below wx.heap.size wx w'))
    (cP1 : Hid (∀ wx, Calls Tryd.prog 36 #[.int .i64 f, .int .i64 3] wx fun e w' => e = .returned (.int .i64 f0) ∧ Below wx.heap.size wx w'))
    (cP2 : Hid (∀ wx, Calls Tryd.prog 36 #[.int .i64 t, .int .i64 3] wx fun e w' => e = .returned (.int .i64 t0) ∧ Below wx.heap.size wx w'))
    (cP3 : Hid (∀ wx, Calls Tryd.prog 36 #[.int .i64 a, .int .i64 (n + 1)] wx fun e w' => e = .returned (.int .i64 A) ∧ Below wx.heap.size wx w'))
    (cP4 : Hid (∀ wx, Calls Tryd.prog 36 #[.int .i64 b, .int .i64 (n + 1)] wx fun e w' => e = .returned (.int .i64 B) ∧ Below wx.heap.size wx w'))
    (cC : Hid (∀ b wx, isRope wx b rs → Calls Tryd.prog 38 #[.pointer (some ⟨b, 0, none⟩)] wx fun e w' => e = .returned (cntV rs) ∧ Below wx.heap.size wx w'))
    (cI : Hid (∀ wx, Calls Tryd.prog 37 #[cntV rs, .int .i64 u] wx fun e w' => e = .returned (.int .i64 n) ∧ Below wx.heap.size wx w'))
    (cV1 : Hid (∀ b wx, Below w.heap.size w wx → isRope wx b rs → Calls Tryd.prog 39 #[.pointer (some ⟨b, 0, none⟩), .int .i64 u, .int .i64 v, .int .i64 A] wx fun e w' => e = .returned (.tuple #[.int .i64 x, .nilIface]) ∧ Below wx.heap.size wx w'))
    (cV2 : Hid (∀ b wx, Below w.heap.size w wx → isRope wx b rs → Calls Tryd.prog 39 #[.pointer (some ⟨b, 0, none⟩), .int .i64 u, .int .i64 v, .int .i64 B] wx fun e w' => e = .returned (.tuple #[.int .i64 0, .iface 23 (.int .i64 10)]) ∧ Below wx.heap.size wx w'))
    (cS : Hid (∀ b wx, Below w.heap.size w wx → isRope wx b rs → Calls Tryd.prog 40 #[.pointer (some ⟨b, 0, none⟩), .int .i64 u, .int .i64 A] wx fun e w' => e = .returned (.tuple #[.agg #[.int .i64 sx, .int .i64 sy], .nilIface]) ∧ Below wx.heap.size wx w'))
    (cA : Hid (∀ b wx, Below w.heap.size w wx → isRope wx b rs → Calls Tryd.prog 42 #[.pointer (some ⟨b, 0, none⟩), .int .i64 u, .int .i64 A] wx fun e w' => e = .returned (.tuple #[cntV X, .nilIface]) ∧ Below wx.heap.size wx w'))
    (cV3 : Hid (∀ b wx, Below w.heap.size w wx → isRope wx b rs → Calls Tryd.prog 39 #[.pointer (some ⟨b, 0, none⟩), .int .i64 v, .int .i64 u, .int .i64 x] wx fun e w' => e = .returned (.tuple #[.int .i64 A, .nilIface]) ∧ Below wx.heap.size wx w'))
    (cQ : Hid (∀ b wx, Below w.heap.size w wx → isRope wx b rs → Calls Tryd.prog 41 #[.pointer (some ⟨b, 0, none⟩), .int .i64 u, .agg #[.int .i64 sx, .int .i64 sy]] wx fun e w' => e = .returned (.tuple #[.int .i64 A, .nilIface]) ∧ Below wx.heap.size wx w')) :
    Calls Tryd.prog 7 #[.string s, .int .i64 f, .int .i64 t, .int .i64 a, .int .i64 b] w fun e w' => e = .returned (.bool true) ∧ Below w.heap.size w w' := by
  unfold cntV at cC cI cA
  obtain ⟨f1, f2⟩ := hf0
  obtain ⟨t1, t2⟩ := ht0
  obtain ⟨n1, n2⟩ := hn
  go_enter Tryd.func7, Tryd.ntmps7
  go_wp2_with (first
    | (go_at_call 34; refine (cL.out _ (Below.refl _ _)).mono ?_; rintro e w1 ⟨rfl, hb1⟩; have HB1 : Hid (Below w.heap.size w w1) := hb1; clear hb1)
    | (go_at_call 35; refine (cD.out _ HB1.out).mono ?_; rintro e w2 ⟨b, rfl, hR2, hb2⟩; have HB2 : Hid (Below w.heap.size w w2) := HB1.out.trans (hb2.mono HB1.out.size); have HR2 : Hid (isRope w2 b rs) := hR2; clear hb2 hR2)
    | (have _ := HB7; go_at_call 36; refine (cP4.out _).mono ?_; rintro e w8 ⟨rfl, hb8⟩; have HB8 : Hid (Below w.heap.size w w8) := HB7.out.trans (hb8.mono HB7.out.size); have HR8 : Hid (isRope w8 b rs) := isRope_below HR7.out hb8; clear hb8)
    | (have _ := HB6; go_at_call 36; refine (cP3.out _).mono ?_; rintro e w7 ⟨rfl, hb7⟩; have HB7 : Hid (Below w.heap.size w w7) := HB6.out.trans (hb7.mono HB6.out.size); have HR7 : Hid (isRope w7 b rs) := isRope_below HR6.out hb7; clear hb7)
    | (have _ := HB3; go_at_call 36; refine (cP2.out _).mono ?_; rintro e w4 ⟨rfl, hb4⟩; have HB4 : Hid (Below w.heap.size w w4) := HB3.out.trans (hb4.mono HB3.out.size); have HR4 : Hid (isRope w4 b rs) := isRope_below HR3.out hb4; clear hb4)
    | (go_at_call 36; refine (cP1.out _).mono ?_; rintro e w3 ⟨rfl, hb3⟩; have HB3 : Hid (Below w.heap.size w w3) := HB2.out.trans (hb3.mono HB2.out.size); have HR3 : Hid (isRope w3 b rs) := isRope_below HR2.out hb3; clear hb3)
    | (go_at_call 38; refine (cC.out _ _ HR4.out).mono ?_; rintro e w5 ⟨rfl, hb5⟩; have HB5 : Hid (Below w.heap.size w w5) := HB4.out.trans (hb5.mono HB4.out.size); have HR5 : Hid (isRope w5 b rs) := isRope_below HR4.out hb5; clear hb5)
    | (go_at_call 37; refine (cI.out _).mono ?_; rintro e w6 ⟨rfl, hb6⟩; have HB6 : Hid (Below w.heap.size w w6) := HB5.out.trans (hb6.mono HB5.out.size); have HR6 : Hid (isRope w6 b rs) := isRope_below HR5.out hb6; clear hb6)
    | (have _ := HB10; go_at_call 39; refine (cV3.out _ _ HB10.out HR10.out).mono ?_; rintro e w11 ⟨rfl, hb11⟩; have HB11 : Hid (Below w.heap.size w w11) := HB10.out.trans (hb11.mono HB10.out.size); have HR11 : Hid (isRope w11 b rs) := isRope_below HR10.out hb11; clear hb11)
    | (have _ := HB9; go_at_call 39; refine (cV2.out _ _ HB9.out HR9.out).mono ?_; rintro e w10 ⟨rfl, hb10⟩; have HB10 : Hid (Below w.heap.size w w10) := HB9.out.trans (hb10.mono HB9.out.size); have HR10 : Hid (isRope w10 b rs) := isRope_below HR9.out hb10; clear hb10)
    | (go_at_call 39; refine (cV1.out _ _ HB8.out HR8.out).mono ?_; rintro e w9 ⟨rfl, hb9⟩; have HB9 : Hid (Below w.heap.size w w9) := HB8.out.trans (hb9.mono HB8.out.size); have HR9 : Hid (isRope w9 b rs) := isRope_below HR8.out hb9; clear hb9)
    | (have _ := HB14; go_at_call 40; refine (cS.out _ _ HB14.out HR14.out).mono ?_; rintro e w15 ⟨rfl, hb15⟩; have hby : Below (w14.alloc (.cells #[.int .i64 (C1 X), .int .i64 (C2 X), .int .i64 (C3 X), .int .i64 (C4 X)] 36)).heap.size (w14.alloc (.cells #[.int .i64 (C1 X), .int .i64 (C2 X), .int .i64 (C3 X), .int .i64 (C4 X)] 36)) (w15.alloc (.cells #[.int .i64 sx, .int .i64 sy] 77)) := hb15.alloc hb15.size _; have HB15 : Hid (Below w.heap.size w (w15.alloc (.cells #[.int .i64 sx, .int .i64 sy] 77))) := HB14.out.trans (hby.mono HB14.out.size); have HR15 : Hid (isRope (w15.alloc (.cells #[.int .i64 sx, .int .i64 sy] 77)) b rs) := isRope_below HR14.out hby; clear hb15 hby)
    | (go_at_call 40; refine (cS.out _ _ HB11.out HR11.out).mono ?_; rintro e w12 ⟨rfl, hb12⟩; have hby : Below w11.heap.size w11 (w12.alloc (.cells #[.int .i64 sx, .int .i64 sy] 77)) := hb12.alloc hb12.size _; have HB12 : Hid (Below w.heap.size w (w12.alloc (.cells #[.int .i64 sx, .int .i64 sy] 77))) := HB11.out.trans (hby.mono HB11.out.size); have HR12 : Hid (isRope (w12.alloc (.cells #[.int .i64 sx, .int .i64 sy] 77)) b rs) := isRope_below HR11.out hby; clear hb12 hby)
    | (go_at_call 41; refine (cQ.out _ _ HB12.out HR12.out).mono ?_; rintro e w13 ⟨rfl, hb13⟩; have HB13 : Hid (Below w.heap.size w w13) := HB12.out.trans (hb13.mono HB12.out.size); have HR13 : Hid (isRope w13 b rs) := isRope_below HR12.out hb13; clear hb13)
    | (go_at_call 42; refine (cA.out _ _ HB13.out HR13.out).mono ?_; rintro e w14 ⟨rfl, hb14⟩; have hby : Below w13.heap.size w13 (w14.alloc (.cells #[.int .i64 (C1 X), .int .i64 (C2 X), .int .i64 (C3 X), .int .i64 (C4 X)] 36)) := hb14.alloc hb14.size _; have HB14 : Hid (Below w.heap.size w (w14.alloc (.cells #[.int .i64 (C1 X), .int .i64 (C2 X), .int .i64 (C3 X), .int .i64 (C4 X)] 36))) := HB13.out.trans (hby.mono HB13.out.size); have HR14 : Hid (isRope (w14.alloc (.cells #[.int .i64 (C1 X), .int .i64 (C2 X), .int .i64 (C3 X), .int .i64 (C4 X)] 36)) b rs) := isRope_below HR13.out hby; clear hb14 hby)
    | fail)
  go_region
  all_goals
    go_wp2
    go_ret
    exact ⟨rfl, HB15.out.drew⟩

set_option maxRecDepth 100000 in
set_option maxHeartbeats 8000000 in
theorem posBack_onon (s : ByteArray) (rs X : List Nat) (f t a b f0 t0 u v n A B x y sx sy : Int) (e2 : Value) (hu : 1 + f0 = u) (hv : 1 + t0 = v) (hf0 : 0 ≤ f0 ∧ f0 ≤ 2) (ht0 : 0 ≤ t0 ∧ t0 ≤ 2) (hn : 0 ≤ n ∧ n ≤ 100000) (h1 : (decide (A < B) == decide (x < y)) = true) (h2 : ((A == B) == (x == y)) = true) (w : World)
    (cL : Hid (∀ wx, Below w.heap.size w wx → Calls Tryd.prog 34 #[] wx fun e w' => e = .returned (.bool true) ∧ Below wx.heap.size wx w'))
    (cD : Hid (∀ wx, Below w.heap.size w wx → Calls Tryd.prog 35 #[.string s] wx fun e w' => ∃ b, e = .returned (.pointer (some ⟨b, 0, none⟩)) ∧ isRope w' b rs ∧ Below wx.heap.size wx w'))
    (cP1 : Hid (∀ wx, Calls Tryd.prog 36 #[.int .i64 f, .int .i64 3] wx fun e w' => e = .returned (.int .i64 f0) ∧ Below wx.heap.size wx w'))
    (cP2 : Hid (∀ wx, Calls Tryd.prog 36 #[.int .i64 t, .int .i64 3] wx fun e w' => e = .returned (.int .i64 t0) ∧ Below wx.heap.size wx w'))
    (cP3 : Hid (∀ wx, Calls Tryd.prog 36 #[.int .i64 a, .int .i64 (n + 1)] wx fun e w' => e = .returned (.int .i64 A) ∧ Below wx.heap.size wx w'))
    (cP4 : Hid (∀ wx, Calls Tryd.prog 36 #[.int .i64 b, .int .i64 (n + 1)] wx fun e w' => e = .returned (.int .i64 B) ∧ Below wx.heap.size wx w'))
    (cC : Hid (∀ b wx, isRope wx b rs → Calls Tryd.prog 38 #[.pointer (some ⟨b, 0, none⟩)] wx fun e w' => e = .returned (cntV rs) ∧ Below wx.heap.size wx w'))
    (cI : Hid (∀ wx, Calls Tryd.prog 37 #[cntV rs, .int .i64 u] wx fun e w' => e = .returned (.int .i64 n) ∧ Below wx.heap.size wx w'))
    (cV1 : Hid (∀ b wx, Below w.heap.size w wx → isRope wx b rs → Calls Tryd.prog 39 #[.pointer (some ⟨b, 0, none⟩), .int .i64 u, .int .i64 v, .int .i64 A] wx fun e w' => e = .returned (.tuple #[.int .i64 x, .nilIface]) ∧ Below wx.heap.size wx w'))
    (cV2 : Hid (∀ b wx, Below w.heap.size w wx → isRope wx b rs → Calls Tryd.prog 39 #[.pointer (some ⟨b, 0, none⟩), .int .i64 u, .int .i64 v, .int .i64 B] wx fun e w' => e = .returned (.tuple #[.int .i64 y, .nilIface]) ∧ Below wx.heap.size wx w'))
    (cS : Hid (∀ b wx, Below w.heap.size w wx → isRope wx b rs → Calls Tryd.prog 40 #[.pointer (some ⟨b, 0, none⟩), .int .i64 u, .int .i64 A] wx fun e w' => e = .returned (.tuple #[.agg #[.int .i64 sx, .int .i64 sy], .nilIface]) ∧ Below wx.heap.size wx w'))
    (cA : Hid (∀ b wx, Below w.heap.size w wx → isRope wx b rs → Calls Tryd.prog 42 #[.pointer (some ⟨b, 0, none⟩), .int .i64 u, .int .i64 A] wx fun e w' => e = .returned (.tuple #[cntV X, .nilIface]) ∧ Below wx.heap.size wx w'))
    (cV3 : Hid (∀ b wx, Below w.heap.size w wx → isRope wx b rs → Calls Tryd.prog 39 #[.pointer (some ⟨b, 0, none⟩), .int .i64 v, .int .i64 u, .int .i64 x] wx fun e w' => e = .returned (.tuple #[.int .i64 A, .nilIface]) ∧ Below wx.heap.size wx w'))
    (cQ : Hid (∀ b wx, Below w.heap.size w wx → isRope wx b rs → Calls Tryd.prog 41 #[.pointer (some ⟨b, 0, none⟩), .int .i64 u, .agg #[.int .i64 sx, .int .i64 sy]] wx fun e w' => e = .returned (.tuple #[.int .i64 A, .nilIface]) ∧ Below wx.heap.size wx w')) :
    Calls Tryd.prog 7 #[.string s, .int .i64 f, .int .i64 t, .int .i64 a, .int .i64 b] w fun e w' => e = .returned (.bool true) ∧ Below w.heap.size w w' := by
  unfold cntV at cC cI cA
  obtain ⟨f1, f2⟩ := hf0
  obtain ⟨t1, t2⟩ := ht0
  obtain ⟨n1, n2⟩ := hn
  go_enter Tryd.func7, Tryd.ntmps7
  go_wp2_with (first
    | (go_at_call 34; refine (cL.out _ (Below.refl _ _)).mono ?_; rintro e w1 ⟨rfl, hb1⟩; have HB1 : Hid (Below w.heap.size w w1) := hb1; clear hb1)
    | (go_at_call 35; refine (cD.out _ HB1.out).mono ?_; rintro e w2 ⟨b, rfl, hR2, hb2⟩; have HB2 : Hid (Below w.heap.size w w2) := HB1.out.trans (hb2.mono HB1.out.size); have HR2 : Hid (isRope w2 b rs) := hR2; clear hb2 hR2)
    | (have _ := HB7; go_at_call 36; refine (cP4.out _).mono ?_; rintro e w8 ⟨rfl, hb8⟩; have HB8 : Hid (Below w.heap.size w w8) := HB7.out.trans (hb8.mono HB7.out.size); have HR8 : Hid (isRope w8 b rs) := isRope_below HR7.out hb8; clear hb8)
    | (have _ := HB6; go_at_call 36; refine (cP3.out _).mono ?_; rintro e w7 ⟨rfl, hb7⟩; have HB7 : Hid (Below w.heap.size w w7) := HB6.out.trans (hb7.mono HB6.out.size); have HR7 : Hid (isRope w7 b rs) := isRope_below HR6.out hb7; clear hb7)
    | (have _ := HB3; go_at_call 36; refine (cP2.out _).mono ?_; rintro e w4 ⟨rfl, hb4⟩; have HB4 : Hid (Below w.heap.size w w4) := HB3.out.trans (hb4.mono HB3.out.size); have HR4 : Hid (isRope w4 b rs) := isRope_below HR3.out hb4; clear hb4)
    | (go_at_call 36; refine (cP1.out _).mono ?_; rintro e w3 ⟨rfl, hb3⟩; have HB3 : Hid (Below w.heap.size w w3) := HB2.out.trans (hb3.mono HB2.out.size); have HR3 : Hid (isRope w3 b rs) := isRope_below HR2.out hb3; clear hb3)
    | (go_at_call 38; refine (cC.out _ _ HR4.out).mono ?_; rintro e w5 ⟨rfl, hb5⟩; have HB5 : Hid (Below w.heap.size w w5) := HB4.out.trans (hb5.mono HB4.out.size); have HR5 : Hid (isRope w5 b rs) := isRope_below HR4.out hb5; clear hb5)
    | (go_at_call 37; refine (cI.out _).mono ?_; rintro e w6 ⟨rfl, hb6⟩; have HB6 : Hid (Below w.heap.size w w6) := HB5.out.trans (hb6.mono HB5.out.size); have HR6 : Hid (isRope w6 b rs) := isRope_below HR5.out hb6; clear hb6)
    | (have _ := HB10; go_at_call 39; refine (cV3.out _ _ HB10.out HR10.out).mono ?_; rintro e w11 ⟨rfl, hb11⟩; have HB11 : Hid (Below w.heap.size w w11) := HB10.out.trans (hb11.mono HB10.out.size); have HR11 : Hid (isRope w11 b rs) := isRope_below HR10.out hb11; clear hb11)
    | (have _ := HB9; go_at_call 39; refine (cV2.out _ _ HB9.out HR9.out).mono ?_; rintro e w10 ⟨rfl, hb10⟩; have HB10 : Hid (Below w.heap.size w w10) := HB9.out.trans (hb10.mono HB9.out.size); have HR10 : Hid (isRope w10 b rs) := isRope_below HR9.out hb10; clear hb10)
    | (go_at_call 39; refine (cV1.out _ _ HB8.out HR8.out).mono ?_; rintro e w9 ⟨rfl, hb9⟩; have HB9 : Hid (Below w.heap.size w w9) := HB8.out.trans (hb9.mono HB8.out.size); have HR9 : Hid (isRope w9 b rs) := isRope_below HR8.out hb9; clear hb9)
    | (have _ := HB14; go_at_call 40; refine (cS.out _ _ HB14.out HR14.out).mono ?_; rintro e w15 ⟨rfl, hb15⟩; have hby : Below (w14.alloc (.cells #[.int .i64 (C1 X), .int .i64 (C2 X), .int .i64 (C3 X), .int .i64 (C4 X)] 36)).heap.size (w14.alloc (.cells #[.int .i64 (C1 X), .int .i64 (C2 X), .int .i64 (C3 X), .int .i64 (C4 X)] 36)) (w15.alloc (.cells #[.int .i64 sx, .int .i64 sy] 77)) := hb15.alloc hb15.size _; have HB15 : Hid (Below w.heap.size w (w15.alloc (.cells #[.int .i64 sx, .int .i64 sy] 77))) := HB14.out.trans (hby.mono HB14.out.size); have HR15 : Hid (isRope (w15.alloc (.cells #[.int .i64 sx, .int .i64 sy] 77)) b rs) := isRope_below HR14.out hby; clear hb15 hby)
    | (go_at_call 40; refine (cS.out _ _ HB11.out HR11.out).mono ?_; rintro e w12 ⟨rfl, hb12⟩; have hby : Below w11.heap.size w11 (w12.alloc (.cells #[.int .i64 sx, .int .i64 sy] 77)) := hb12.alloc hb12.size _; have HB12 : Hid (Below w.heap.size w (w12.alloc (.cells #[.int .i64 sx, .int .i64 sy] 77))) := HB11.out.trans (hby.mono HB11.out.size); have HR12 : Hid (isRope (w12.alloc (.cells #[.int .i64 sx, .int .i64 sy] 77)) b rs) := isRope_below HR11.out hby; clear hb12 hby)
    | (go_at_call 41; refine (cQ.out _ _ HB12.out HR12.out).mono ?_; rintro e w13 ⟨rfl, hb13⟩; have HB13 : Hid (Below w.heap.size w w13) := HB12.out.trans (hb13.mono HB12.out.size); have HR13 : Hid (isRope w13 b rs) := isRope_below HR12.out hb13; clear hb13)
    | (go_at_call 42; refine (cA.out _ _ HB13.out HR13.out).mono ?_; rintro e w14 ⟨rfl, hb14⟩; have hby : Below w13.heap.size w13 (w14.alloc (.cells #[.int .i64 (C1 X), .int .i64 (C2 X), .int .i64 (C3 X), .int .i64 (C4 X)] 36)) := hb14.alloc hb14.size _; have HB14 : Hid (Below w.heap.size w (w14.alloc (.cells #[.int .i64 (C1 X), .int .i64 (C2 X), .int .i64 (C3 X), .int .i64 (C4 X)] 36))) := HB13.out.trans (hby.mono HB13.out.size); have HR14 : Hid (isRope (w14.alloc (.cells #[.int .i64 (C1 X), .int .i64 (C2 X), .int .i64 (C3 X), .int .i64 (C4 X)] 36)) b rs) := isRope_below HR13.out hby; clear hb14 hby)
    | fail)
  go_region
  all_goals
    go_wp2
    go_ret
    exact ⟨by first | rfl | (simp [h1, h2]), HB15.out.drew⟩
end Go.Proofs.YtgmgkbbnciglhaaDoor

namespace Go.Proofs.YtgmgkbbnciglhaaDoor
open Go.RowKit
set_option linter.unusedVariables false
attribute [local go_sem] Oper.semAt_some

set_option maxRecDepth 100000 in
set_option maxHeartbeats 2000000 in
theorem posBack_none (s : ByteArray) (f t a b : Int) (w : World)
    (cL : Hid (∀ wx, Below w.heap.size w wx → Calls Tryd.prog 34 #[] wx fun e w' => e = .returned (.bool true) ∧ Below wx.heap.size wx w'))
    (cD : Hid (∀ wx, Below w.heap.size w wx → Calls Tryd.prog 35 #[.string s] wx fun e w' => e = .returned (.pointer none) ∧ Below wx.heap.size wx w')) :
    Calls Tryd.prog 7 #[.string s, .int .i64 f, .int .i64 t, .int .i64 a, .int .i64 b] w fun e w' => e = .returned (.bool true) ∧ Below w.heap.size w w' := by
  go_enter Tryd.func7, Tryd.ntmps7
  go_wp2_with (first
    | (go_at_call 34; refine (cL.out _ (Below.refl _ _)).mono ?_; rintro e w1 ⟨rfl, hb1⟩; have HB1 : Hid (Below w.heap.size w w1) := hb1; clear hb1)
    | (go_at_call 35; refine (cD.out _ HB1.out).mono ?_; rintro e w2 ⟨rfl, hb2⟩; have HB2 : Hid (Below w.heap.size w w2) := HB1.out.trans (hb2.mono HB1.out.size); clear hb2)
    | fail)
  go_ret
  exact ⟨rfl, HB2.out⟩

theorem conv_on {u v a : Int} {rs X : List Nat} (hu : unitOk u) (hv : unitOk v) (h0 : 0 ≤ a) (h1 : a ≤ by_ u rs) (hX : upTo rs u a = X) (hx : by_ u X = a) : convE u v a rs = .tuple #[.int .i64 (by_ v X), .nilIface] := by
  have hX2 : find (reachesBy u a) [] rs = X := hX
  unfold convE
  rw [if_neg (show ¬ ¬ (v = 1 ∨ v = 2 ∨ v = 3) from not_not_intro hv), if_neg (show ¬ ¬ (u = 1 ∨ u = 2 ∨ u = 3) from not_not_intro hu), if_neg (by omega), hX2, if_pos hx]
theorem conv_off {u v a : Int} {rs : List Nat} (hu : unitOk u) (hv : unitOk v) (h0 : 0 ≤ a) (h1 : a ≤ by_ u rs) (hx : ¬ by_ u (upTo rs u a) = a) : convE u v a rs = .tuple #[.int .i64 0, errV 10] := by
  have hx2 : ¬ by_ u (find (reachesBy u a) [] rs) = a := hx
  unfold convE
  rw [if_neg (show ¬ ¬ (v = 1 ∨ v = 2 ∨ v = 3) from not_not_intro hv), if_neg (show ¬ ¬ (u = 1 ∨ u = 2 ∨ u = 3) from not_not_intro hu), if_neg (by omega), if_neg hx2]

theorem posBack_any (s : List UInt8) (f t a b : Int) (w : World) (hf : -9223372036854775808 ≤ f ∧ f < 9223372036854775808) (ht : -9223372036854775808 ≤ t ∧ t < 9223372036854775808) (ha : -9223372036854775808 ≤ a ∧ a < 9223372036854775808) (hb : -9223372036854775808 ≤ b ∧ b < 9223372036854775808) (hT : Lib.Utf8Tabs 0 1 w) :
    Calls Tryd.prog 7 #[.string ⟨s.toArray⟩, .int .i64 f, .int .i64 t, .int .i64 a, .int .i64 b] w fun e w' => e = .returned (.bool true) ∧ Below w.heap.size w w' := by
  have tT := fun (wx : World) (hb : Below w.heap.size w wx) => Go.Proofs.Utf8Tabs_below hT hb
  have cL := fun (wx : World) (hb : Below w.heap.size w wx) => laid_any wx (tT wx hb)
  by_cases hd : isDoc s
  case neg => exact posBack_none _ f t a b w cL fun wx hb => document_none s hd wx (tT wx hb)
  case pos =>
  have cD := fun (wx : World) (hb : Below w.heap.size w wx) => document_some s hd wx (tT wx hb)
  obtain ⟨rs, hrs⟩ : ∃ rs, runesOf s = rs := ⟨_, rfl⟩
  have hC1 : C1 rs ≤ 1500 := by
    have h := hd.2
    rw [← hrs, C1_len, encs_runesOf hd.1]; omega
  rw [hrs] at cD
  have pf := pkb_bd f 3 (by decide)
  have pt := pkb_bd t 3 (by decide)
  have hu : unitOk (1 + pkb f 3) := by unfold unitOk; omega
  have hv : unitOk (1 + pkb t 3) := by unfold unitOk; omega
  have cP1 := fun wx => pickb_any f 3 hf (by decide) (by decide) wx
  have cP2 := fun wx => pickb_any t 3 ht (by decide) (by decide) wx
  obtain ⟨f0, hf0⟩ : ∃ f0, pkb f 3 = f0 := ⟨_, rfl⟩
  obtain ⟨t0, ht0⟩ : ∃ t0, pkb t 3 = t0 := ⟨_, rfl⟩
  rw [hf0] at pf hu cP1
  rw [ht0] at pt hv cP2
  obtain ⟨u, hue⟩ : ∃ u, 1 + f0 = u := ⟨_, rfl⟩
  obtain ⟨v, hve⟩ : ∃ v, 1 + t0 = v := ⟨_, rfl⟩
  rw [hue] at hu
  rw [hve] at hv
  have n0 := by_pos u rs
  have n1 := by_le u rs
  have c0 := C1_pos rs
  have hn : 0 ≤ by_ u rs ∧ by_ u rs ≤ 100000 := by omega
  have cP3 := fun wx => pickb_any a (by_ u rs + 1) ha (by omega) (by omega) wx
  have cP4 := fun wx => pickb_any b (by_ u rs + 1) hb (by omega) (by omega) wx
  have pa := pkb_bd a (by_ u rs + 1) (by omega)
  have pb := pkb_bd b (by_ u rs + 1) (by omega)
  obtain ⟨A, hA⟩ : ∃ A, pkb a (by_ u rs + 1) = A := ⟨_, rfl⟩
  obtain ⟨B, hB⟩ : ∃ B, pkb b (by_ u rs + 1) = B := ⟨_, rfl⟩
  rw [hA] at cP3 pa
  rw [hB] at cP4 pb
  have hz : C1 rs ≤ 100000000 := by omega
  have cC := fun (b : Nat) (wx : World) (h : isRope wx b rs) => ropecounts_any b rs wx h
  have cI := fun wx => In_any u rs wx
  have cV := fun (u v a : Int) (b : Nat) (wx : World) (hb : Below w.heap.size w wx) (h : isRope wx b rs) => convert_all b rs u v a wx (tT wx hb) h hz
  have cS := fun (b : Nat) (wx : World) (hb : Below w.heap.size w wx) (h : isRope wx b rs) => spot_all b rs u A wx (tT wx hb) h hz
  have cA := fun (b : Nat) (wx : World) (hb : Below w.heap.size w wx) (h : isRope wx b rs) => ahead_all b rs u A hu wx (tT wx hb) h hz
  have cQ := fun (l c : Int) (b : Nat) (wx : World) (hb : Below w.heap.size w wx) (h : isRope wx b rs) => place_all b rs u l c wx (tT wx hb) h hz
  have cV1 := cV u v A
  have cV2 := cV u v B
  have eA := edge_first hu (rs := rs) (a := A) (by omega)
  have eB := edge_first hu (rs := rs) (a := B) (by omega)
  have hf02 : 0 ≤ f0 ∧ f0 ≤ 2 := by omega
  have ht02 : 0 ≤ t0 ∧ t0 ≤ 2 := by omega
  cases hoA : onEdge rs u A with
  | false =>
    have hx : ¬ by_ u (upTo rs u A) = A := of_decide_eq_false hoA
    have hx2 : ¬ by_ u (find (reachesBy u A) [] rs) = A := hx
    rw [conv_off hu hv (by omega) (by omega) hx] at cV1
    unfold spotE at cS
    unfold aheadE at cA
    rw [if_neg (show ¬ ¬ (u = 1 ∨ u = 2 ∨ u = 3) from not_not_intro hu), if_neg (by omega), if_neg hx] at cS
    rw [if_neg (by omega), if_neg hx2] at cA
    have cV2' : ∀ (b : Nat) (wx : World), Below w.heap.size w wx → isRope wx b rs → ∃ y e2, Calls Tryd.prog 39 #[.pointer (some ⟨b, 0, none⟩), .int .i64 u, .int .i64 v, .int .i64 B] wx fun e w' => e = .returned (.tuple #[.int .i64 y, e2]) ∧ Below wx.heap.size wx w' := fun b wx hb h => by
      have c := cV2 b wx hb h
      by_cases hy : by_ u (upTo rs u B) = B
      · rw [conv_on hu hv (by omega) (by omega) rfl hy] at c; exact ⟨_, _, c⟩
      · rw [conv_off hu hv (by omega) (by omega) hy] at c; exact ⟨_, _, c⟩
    by_cases hy : by_ u (upTo rs u B) = B
    · rw [conv_on hu hv (by omega) (by omega) rfl hy] at cV2
      exact posBack_off _ rs [] f t a b f0 t0 u v _ A B 0 _ 0 0 _ hue hve hf02 ht02 hn w cL cD cP1 cP2 cP3 cP4 cC cI cV1 cV2 cS cA
    · rw [conv_off hu hv (by omega) (by omega) hy] at cV2
      exact posBack_off _ rs [] f t a b f0 t0 u v _ A B 0 _ 0 0 _ hue hve hf02 ht02 hn w cL cD cP1 cP2 cP3 cP4 cC cI cV1 cV2 cS cA
  | true =>
    obtain ⟨i, hi, ei, ci, _⟩ := eA.1 hoA
    have hx : by_ u (upTo rs u A) = A := of_decide_eq_true hoA
    have hx2 : by_ u (find (reachesBy u A) [] rs) = A := hx
    have ei2 : find (reachesBy u A) [] rs = rs.take i := ei
    have hxv : 0 ≤ by_ v (rs.take i) ∧ by_ v (rs.take i) ≤ by_ v rs := by
      have := by_append v (rs.take i) (rs.drop i)
      rw [List.take_append_drop] at this
      have := by_pos v (rs.drop i)
      have := by_pos v (rs.take i)
      omega
    rw [conv_on hu hv (by omega) (by omega) ei ci] at cV1
    have cV3 := cV v u (by_ v (rs.take i))
    rw [conv_on hv hu hxv.1 hxv.2 (upTo_back hv rs i hi) rfl, ci] at cV3
    unfold spotE at cS
    unfold aheadE at cA
    rw [if_neg (show ¬ ¬ (u = 1 ∨ u = 2 ∨ u = 3) from not_not_intro hu), if_neg (by omega), if_pos hx, hx, ei] at cS
    rw [if_neg (by omega), if_pos hx2, ei2] at cA
    have cQ1 := cQ (C4 (rs.take i)) (A - by_ u (find (reachesLine (C4 (rs.take i))) [] rs))
    rw [place_back hu rs i hi ci] at cQ1
    cases hoB : onEdge rs u B with
    | false =>
      have hy : ¬ by_ u (upTo rs u B) = B := of_decide_eq_false hoB
      rw [conv_off hu hv (by omega) (by omega) hy] at cV2
      exact posBack_onoff _ rs _ f t a b f0 t0 u v _ A B _ 0 _ _ .nilIface hue hve hf02 ht02 hn w cL cD cP1 cP2 cP3 cP4 cC cI cV1 cV2 cS cA cV3 cQ1
    | true =>
      obtain ⟨j, hj, ej, cj, _⟩ := eB.1 hoB
      rw [conv_on hu hv (by omega) (by omega) ej cj] at cV2
      have key : (A < B ↔ by_ v (rs.take i) < by_ v (rs.take j)) ∧ (A = B ↔ by_ v (rs.take i) = by_ v (rs.take j)) := by
        rcases Nat.lt_trichotomy i j with h | h | h
        · have g1 := by_mono hu rs i j h hj
          have g2 := by_mono hv rs i j h hj
          constructor <;> constructor <;> intro _ <;> omega
        · subst h
          constructor <;> constructor <;> intro _ <;> omega
        · have g1 := by_mono hu rs j i h hi
          have g2 := by_mono hv rs j i h hi
          constructor <;> constructor <;> intro _ <;> omega
      have k1 : (decide (A < B) == decide (by_ v (rs.take i) < by_ v (rs.take j))) = true := by
        have h : decide (A < B) = decide (by_ v (rs.take i) < by_ v (rs.take j)) := decide_eq_decide.2 key.1
        rw [h]; simp
      have k2 : ((A == B) == (by_ v (rs.take i) == by_ v (rs.take j))) = true := by
        have : (A == B) = (by_ v (rs.take i) == by_ v (rs.take j)) := by
          by_cases h : A = B
          · rw [beq_iff_eq.2 h, beq_iff_eq.2 (key.2.1 h)]
          · rw [beq_eq_false_iff_ne.2 h, beq_eq_false_iff_ne.2 (fun e => h (key.2.2 e))]
        rw [this]; simp
      exact posBack_onon _ rs _ f t a b f0 t0 u v _ A B _ _ _ _ .nilIface hue hve hf02 ht02 hn k1 k2 w cL cD cP1 cP2 cP3 cP4 cC cI cV1 cV2 cS cA cV3 cQ1
end Go.Proofs.YtgmgkbbnciglhaaDoor
