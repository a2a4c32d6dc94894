/-
  rosettakeep.shaped: a fact: halves; api.Tell of any error that is a number, or none.
-/
import Derived.Test.YtldhbjmillfjgabGreatDoorShapeLaw
import Derived.Test.YtldhbjmillfjgabGreatDoorOver
namespace Go.Proofs.YtldhbjmillfjgabGreatDoor
open Go.RowKit
set_option linter.unusedVariables false
attribute [local go_sem] Oper.semAt_some

def fR : List Nat := [97, 128512, 98]
def fQ : List Pt := [⟨1, 0, []⟩, ⟨0, 2, []⟩, ⟨1, 0, []⟩]
theorem fR_rune : ∀ r ∈ fR, isRune r := by
  intro r hr
  simp only [fR, List.mem_cons, List.not_mem_nil, or_false] at hr
  unfold isRune
  omega
theorem fR_bytes : bytesOf fR = ⟨#[97, 240, 159, 152, 128, 98]⟩ := by kernel_rfl
theorem fR_len : by_ 2 fR = 4 := by kernel_rfl
theorem fR_e : shE 2 fR fQ = 0 := by kernel_rfl
theorem fR_r : bytesOf (shR 2 fR fQ) = ⟨#[97, 98]⟩ := by kernel_rfl
theorem fR_C1 : C1 fR = 6 := by kernel_rfl
theorem fR_sh : shR 2 fR fQ = [97, 98] := by kernel_rfl
theorem fQ_wf : ∀ q ∈ fQ, wfP q := by
  intro q hq
  simp only [fQ, List.mem_cons, List.not_mem_nil, or_false] at hq
  rcases hq with rfl | rfl | rfl <;> (refine ⟨?_, ?_, ?_, ?_, ?_⟩ <;> simp)
theorem tellV_any (n : Int) (w : World) (hg : asLaid w) : Calls Tryz.prog 23 #[errV n] w fun e w' => e = .returned (.int .i64 n) ∧ Below w.heap.size w w' := by
  unfold errV
  by_cases h : n = 0
  · rw [if_pos h, h]
    exact (Tell_nil w).mono fun e w' ⟨h1, h2⟩ => ⟨h1, h2 ▸ Below.refl _ _⟩
  · rw [if_neg h]
    exact Tell_number n w hg
set_option maxHeartbeats 1000000 in
theorem shaped_any (w : World) (hT : Lib.Utf8Tabs 2 3 w) : Calls Tryz.prog 15 #[] w fun e w' => e = .returned (.bool true) ∧ Below w.heap.size w w' := by
  have cN : Hid (Calls Tryz.prog 21 #[.int .i64 2, .string ⟨#[97, 240, 159, 152, 128, 98]⟩] w fun e w' => ∃ b, e = .returned (.tuple #[.pointer (some ⟨b, 0, none⟩), .nilIface]) ∧ isShape w' b 2 fR ∧ w.heap.size ≤ b ∧ Below w.heap.size w w') := by
    have := shnew_good 2 (.inr (.inl rfl)) fR fR_rune (by rw [fR_C1]; omega) w hT
    rw [fR_bytes] at this
    exact this
  have HT : Hid _ := hT
  have cL : Hid (∀ b wx, isShape wx b 2 fR → Calls Tryz.prog 29 #[.pointer (some ⟨b, 0, none⟩)] wx fun e w' => e = .returned (.int .i64 4) ∧ w' = wx) := fun b wx h => by
    have := shlen2_any b fR wx h
    rw [fR_len] at this
    exact this
  have cA : Hid (∀ b v wx, Below w.heap.size w wx → isShape wx b 2 fR → opAt wx v fQ → Calls Tryz.prog 22 #[.pointer (some ⟨b, 0, none⟩), v] wx fun e w' => e = .returned .nilIface ∧ isShape w' b 2 (shR 2 fR fQ) ∧ Below b wx w') := fun b v wx hb h ho => by
    have := shapply2_any b fR fQ v wx h fR_rune (by rw [fR_C1]; omega) (Go.Proofs.Utf8Tabs_below HT.out hb) ho fQ_wf (by simp [fQ]) (fun q hq => by
      simp only [fQ, List.mem_cons, List.not_mem_nil, or_false] at hq
      rcases hq with rfl | rfl | rfl <;> simp)
    rw [fR_e, errV_0] at this
    exact this
  have cT : Hid (∀ b wx, Below w.heap.size w wx → isShape wx b 2 (shR 2 fR fQ) → Calls Tryz.prog 24 #[.pointer (some ⟨b, 0, none⟩)] wx fun e w' => e = .returned (.string ⟨#[97, 98]⟩) ∧ Below wx.heap.size wx w') := fun b wx hb h => by
    have := shtext2_any b (shR 2 fR fQ) wx h (by rw [fR_sh]; intro r hr; simp only [List.mem_cons, List.not_mem_nil, or_false] at hr; unfold isRune; omega) (by rw [fR_sh]; decide) (Go.Proofs.Utf8Tabs_below HT.out hb)
    rw [fR_r] at this
    exact this
  clear hT
  go_enter Tryz.func15, Tryz.ntmps15
  go_wp2_with (first
    | (go_at_call 21; refine Calls.mono cN.out ?_; rintro e w1 ⟨b, rfl, hs1, hlb, hb1⟩; have HS1 : Hid _ := hs1; have HB1 : Hid (Below w.heap.size w w1) := hb1; have HLB : Hid (w.heap.size ≤ b) := hlb; have HBL : Hid (b < w1.heap.size) := isShape_lt hs1; clear hs1 hb1 hlb)
    | (go_at_call 29; refine (cL.out b _ HS1.out).mono ?_; rintro e w2 ⟨rfl, hw2⟩; obtain rfl := hw2.symm)
    | (go_at_call 9999)
    | fail)
  have HX : Hid (Below w1.heap.size w1 (w1.alloc (.cells (cellsP fQ).toArray 50))) := (Below.refl _ _).alloc (Nat.le_refl _) _
  refine (cA.out b _ _ (HB1.out.trans (HX.out.mono HB1.out.size)) (isShape_below HS1.out HX.out) (opAt_lit (t := 50) (ps := fQ) (fz := (0, 0)) (heap_alloc_new _ _) (by simp [maxLen, fQ]))).mono ?_
  rintro e w3 ⟨rfl, hs3, hb3⟩
  have HS3 : Hid _ := hs3
  have HB3 : Hid (Below w.heap.size w w3) := (HB1.out.trans (HX.out.mono HB1.out.size)).trans (hb3.mono HLB.out)
  clear hs3 hb3
  go_wp2_with (first
    | (go_at_call 24; refine (cT.out b _ HB3.out HS3.out).mono ?_; rintro e w4 ⟨rfl, hb4⟩; have HB4 : Hid (Below w.heap.size w w4) := HB3.out.trans (hb4.mono HB3.out.size); clear hb4)
    | fail)
  go_ret
  exact ⟨rfl, HB4.out⟩
end Go.Proofs.YtldhbjmillfjgabGreatDoor
