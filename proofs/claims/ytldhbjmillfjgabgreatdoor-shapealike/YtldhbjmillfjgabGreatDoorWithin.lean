/-
  rope.within: as few of a chunk's runes as are enough.
-/
import Derived.Test.YtldhbjmillfjgabGreatDoorRope
import Derived.Test.YtldhbjmillfjgabGreatDoorChain
import Derived.Test.YtldhbjmillfjgabGreatDoorWalkIter
import Derived.Test.YtldhbjmillfjgabGreatDoorReadsFacts
import Derived.RangeFuncRecord
import Derived.Test.YtldhbjmillfjgabGreatDoorRoundGrow
namespace Go.Proofs.YtldhbjmillfjgabGreatDoor
open Go.RowKit
set_option linter.unusedVariables false
attribute [local go_sem] Oper.semAt_some yieldsUpon okUpon

theorem Walk_one (s : ByteArray) (w : World) : Calls Tryz.prog 174 #[.string s] w fun e w' => e = .returned (.func (.func 195) #[] #[.pointer (some ⟨w.heap.size, 0, none⟩)]) ∧ w' = w.alloc (.cells #[.string s] 9) := by
  go_enter Tryz.func174, Tryz.ntmps174
  go_wp2
  go_ret
  exact ⟨rfl, rfl⟩

/-- What some runes count, as a value. -/
def cntV (rs : List Nat) : Value := .agg #[.int .i64 (C1 rs), .int .i64 (C2 rs), .int .i64 (C3 rs), .int .i64 (C4 rs)]

/-- The least beginning, with one rune at least behind pre, that is enough. -/
def seek (f : List Nat → Bool) : List Nat → List Nat → Option (List Nat)
  | _, [] => none
  | pre, r :: rs => if f (pre ++ [r]) then some (pre ++ [r]) else seek f (pre ++ [r]) rs
theorem seek_none (f : List Nat → Bool) : ∀ (c1 pre c2 : List Nat), seek f pre c1 = none → seek f pre (c1 ++ c2) = seek f (pre ++ c1) c2
  | [], pre, c2, _ => by simp
  | r :: c1, pre, c2, h => by
    simp only [seek] at h
    by_cases hf : f (pre ++ [r]) = true
    · rw [if_pos hf] at h; cases h
    · rw [if_neg hf] at h
      rw [List.cons_append, seek, if_neg hf, seek_none f c1 (pre ++ [r]) c2 h]
      simp

/-- What a closure answers of counts, in all worlds behind W. -/
def asks (W : World) (F : Nat) (cap : Array Value) (f : List Nat → Bool) : Prop :=
  (∀ args w, (callFunc F args).run Tryz.prog w = .ok (.enter F args) w) ∧
  ∀ rs wx, C1 rs ≤ 200000000 → Below W.heap.size W wx → Calls Tryz.prog F (#[cntV rs] ++ cap) wx fun e w' => e = .returned (.bool (f rs)) ∧ Below wx.heap.size wx w'

theorem plus_cnt (a b : List Nat) (hz : C1 (a ++ b) ≤ 200000000) (w : World) : Calls Tryz.prog 110 #[cntV a, cntV b] w fun e w' => e = .returned (cntV (a ++ b)) ∧ Below w.heap.size w w' := by
  have h := plus_any (C1 a) (C2 a) (C3 a) (C4 a) (C1 b) (C2 b) (C3 b) (C4 b) w
  rw [C1_append] at hz
  have a2 := C2_le a
  have a3 := C3_le a
  have a4 := C4_le a
  have b2 := C2_le b
  have b3 := C3_le b
  have b4 := C4_le b
  rw [wrap64_small (by omega) (by omega), wrap64_small (by omega) (by omega), wrap64_small (by omega) (by omega), wrap64_small (by omega) (by omega), ← C1_append, ← C2_append, ← C3_append, ← C4_append] at h
  exact h
theorem walkArgs_cut (c1 : List Nat) (r : Nat) : walkArgs (wide c1) (r, (enc r).length) = #[cntV c1, cntV [r]] := by
  simp [walkArgs, cnt, cntV, C1, C2, C3, C4, wide, sum1, sum2, sum4]

set_option maxRecDepth 100000 in
set_option maxHeartbeats 4000000 in
theorem within_any (f : List Nat → Bool) (F : Nat) (cap : Array Value) (fs c : List Nat) (hc : ∀ r ∈ c, isRune r) (hz : C1 (fs ++ c) ≤ 100000000) (w : World) (hT : Lib.Utf8Tabs 2 3 w) (hE : asks w F cap f) :
    Calls Tryz.prog 204 #[cntV fs, .string (bytesOf c), .func (.func F) #[] cap] w fun e w' => e = .returned (cntV ((seek f fs c).getD fs)) ∧ Below w.heap.size w w' := by
  have HC : Hid (∀ r ∈ c, isRune r) := hc
  have HZ : Hid (C1 (fs ++ c) ≤ 100000000) := hz
  have HT : Hid (Lib.Utf8Tabs 2 3 w) := hT
  have hent := hE.1
  have HE : Hid (∀ rs wx, C1 rs ≤ 200000000 → Below w.heap.size w wx → Calls Tryz.prog F (#[cntV rs] ++ cap) wx fun e w' => e = .returned (.bool (f rs)) ∧ Below wx.heap.size wx w') := hE.2
  have HSC : Hid ((scan (bytesOf c).data.toList).1 = wide c) := by show _ = _; rw [bytesOf_list, scan_encs c hc]
  have hsz : (bytesOf c).size ≤ 100000000 := by rw [bytesOf_size]; have := C1_right hz; rw [C1_len] at this; omega
  clear hE hc hz hT
  have HV : Hid (cntV fs = .agg #[.int .i64 (C1 fs), .int .i64 (C2 fs), .int .i64 (C3 fs), .int .i64 (C4 fs)]) := rfl
  rw [HV.out]
  refine (callsIn_wide (n := 3)).1 ?_
  refine callsIn_of_wp_marks Tryz.func204 rfl trivial ?_ rfl
  simp only [Tryz.ntmps204, List.size_toArray, List.length_cons, List.length_nil, Nat.reduceAdd, Nat.reduceSub, Array.replicate_succ, Array.replicate_zero, List.push_toArray, List.append_toArray, List.nil_append, List.cons_append]
  gi_wp2_with (first
    | (refine ⟨trivial, ?_⟩; gi_at_call 174; refine (callsIn_wide.2 (Walk_one (bytesOf c) _)).mono ?_; rintro e w13 ⟨rfl, rfl⟩)
    | fail)
  obtain ⟨W4, hW4⟩ : ∃ W4, W4 = (((w.alloc (Obj.cells #[Value.int IntKind.i64 (C1 fs), Value.int IntKind.i64 (C2 fs), Value.int IntKind.i64 (C3 fs), Value.int IntKind.i64 (C4 fs)] 25)).alloc (Obj.cells #[Value.func (Fn.func F) #[] cap] 293)).alloc (Obj.cells #[Value.int IntKind.i64 0, Value.int IntKind.i64 0, Value.int IntKind.i64 0, Value.int IntKind.i64 0] 25)).alloc (.cells #[.string (bytesOf c)] 9) := ⟨_, rfl⟩
  have hb4 : Below w.heap.size w W4 := by rw [hW4]; exact ((((Below.refl _ w).alloc (Nat.le_refl _) _).alloc (by simp) _).alloc (by simp; omega) _).alloc (by simp; omega) _
  have hs4 : W4.heap.size = w.heap.size + 4 := by rw [hW4]; simp
  have f4 : counted W4 w.heap.size (C1 fs) (C2 fs) (C3 fs) (C4 fs) := by rw [hW4]; refine ⟨⟨?_, ?_, ?_, ?_⟩, ?_, ?_, ?_, ?_⟩ <;> simp [go_sem]
  have e4 : W4.cell? ⟨w.heap.size + 1, 0, none⟩ = some (.func (.func F) #[] cap) := by rw [hW4]; simp [go_sem]
  have r4 : counted W4 (w.heap.size + 2) 0 0 0 0 := by rw [hW4]; refine ⟨⟨?_, ?_, ?_, ?_⟩, ?_, ?_, ?_, ?_⟩ <;> simp [go_sem]
  have s4 : W4.cell? ⟨w.heap.size + 3, 0, none⟩ = some (.string (bytesOf c)) := by rw [hW4]; simp [go_sem]
  rw [← hW4]
  clear hW4
  refine wp_range_own (gf := 195) (lb := #[.pointer (some ⟨w.heap.size + 3, 0, none⟩)]) rfl (enters_of Tryz.func195 (by kernel_rfl) rfl) (encs := walkArgs) (fun _ _ => rfl)
    (It := Below (w.heap.size + 6)) (Kp := KeepUp (w.heap.size + 6)) (Z := Below w.heap.size w) (S := fun xs => xs = (scan (bytesOf c).data.toList).1) (Sp := fun pre => ∃ rest, (scan (bytesOf c).data.toList).1 = pre ++ rest)
    ?seq ?its (fun h k => h.trans k) (fun A o => KeepUp.putObj A (.loop o) (by rw [hs4]; omega))
    (fun pre W => Below (w.heap.size + 4) W4 W ∧ ∃ c1 c2, c = c1 ++ c2 ∧ pre = wide c1 ∧ seek f fs c1 = none)
    (fun k pre W => k = .ret ∧ ∃ x, seek f fs c = some x ∧ counted W (w.heap.size + 2) (C1 x) (C2 x) (C3 x) (C4 x) ∧ Below w.heap.size w W ∧ w.heap.size + 6 ≤ W.heap.size) ?iz ?ixz ?ii ?ib ?ix ?ixb ?h0 ?round ?done ?stop
  case seq =>
    intro W hs1 hb1
    rw [hs4] at hs1 hb1
    have := walk_seq (bytesOf c) (by omega) w HT.out (w.heap.size + 3) W ((hb1.cell (p := ⟨w.heap.size + 3, 0, none⟩) (by show w.heap.size + 3 < _; omega)).trans s4)
    rw [hs1] at this
    exact this
  case its => exact fun A B h => Same2.of_below h (by rw [hs4]; omega)
  case iz => exact fun pre A h => hb4.trans (h.1.mono (by omega))
  case ixz => exact fun k pre A h => by obtain ⟨_, x, _, _, h, _⟩ := h; exact h
  case ii => exact fun pre A B h hb => ⟨h.1.trans (hb.mono (by omega)), h.2⟩
  case ib => exact fun pre A o h => ⟨h.1.trans ((Put1.putObj _ A (.loop o)).below (by rw [hs4]; omega)), h.2⟩
  case ix => exact fun k pre A B h hb => by obtain ⟨h0, x, h1, h2, h3, h4⟩ := h; exact ⟨h0, x, h1, counted_old h2 hb (by omega), h3.trans (hb.mono (by omega)), Nat.le_trans h4 hb.size⟩
  case ixb =>
    rintro k pre A o ⟨h0, x, h1, h2, h3, h4⟩
    have hb : Below (w.heap.size + 5) A (A.putObj (w.heap.size + 5) (.loop o)) := (Put1.putObj _ A (.loop o)).below (Nat.le_refl _)
    rw [hs4]
    exact ⟨h0, x, h1, counted_old h2 hb (by omega), h3.trans (hb.mono (by omega)), Nat.le_trans h4 hb.size⟩
  case h0 => exact fun W hs hb _ => by rw [hs4] at hb; exact ⟨hb, [], c, rfl, rfl, rfl⟩
  case round =>
    rintro l pre x W ⟨hI, c1, c2, hcc, rfl, hsk⟩ hlW ⟨rest, hsp⟩
    rw [hs4] at hlW ⊢
    rw [HSC.out, List.append_assoc, hcc, wide_append] at hsp
    have hsp2 := List.append_cancel_left hsp
    obtain ⟨r, d2, rfl, rfl⟩ : ∃ r d2, c2 = r :: d2 ∧ x = (r, (enc r).length) := by
      cases c2 with
      | nil => simp [wide] at hsp2
      | cons r d2 => simp only [wide, List.map_cons, List.singleton_append, List.cons.injEq] at hsp2; exact ⟨r, d2, rfl, hsp2.1.symm⟩
    have HW : Hid (wide c1 ++ [(r, (enc r).length)] = wide (c1 ++ [r])) := by show _ = _; rw [wide_append]; rfl
    have HCC : Hid (c = (c1 ++ [r]) ++ d2) := by show _ = _; rw [hcc]; simp
    have HSK : Hid (seek f fs c1 = none) := hsk
    have hzc : C1 (fs ++ (c1 ++ [r])) ≤ 100000000 := by have := HZ.out; rw [HCC.out, ← List.append_assoc] at this; exact C1_left this
    have HP1 : Hid (∀ wx, Calls Tryz.prog 110 #[cntV c1, cntV [r]] wx fun e w' => e = .returned (cntV (c1 ++ [r])) ∧ Below wx.heap.size wx w') := fun wx => plus_cnt c1 [r] (by have := C1_right hzc; omega) wx
    have HP2 : Hid (∀ wx, Calls Tryz.prog 110 #[cntV fs, cntV (c1 ++ [r])] wx fun e w' => e = .returned (cntV (fs ++ (c1 ++ [r]))) ∧ Below wx.heap.size wx w') := fun wx => plus_cnt fs (c1 ++ [r]) (by omega) wx
    have HQ : Hid (∀ wx, Below w.heap.size w wx → Calls Tryz.prog F (#[cntV (fs ++ (c1 ++ [r]))] ++ cap) wx fun e w' => e = .returned (.bool (f (fs ++ (c1 ++ [r])))) ∧ Below wx.heap.size wx w') := fun wx hb => HE.out _ wx (by omega) hb
    rw [walkArgs_cut]
    clear hsp hsp2 hcc hsk hzc
    unfold cntV at HP1 HP2 HQ ⊢
    generalize C1 c1 = y1 at *
    generalize C2 c1 = y2 at *
    generalize C3 c1 = y3 at *
    generalize C4 c1 = y4 at *
    generalize C1 [r] = u1 at *
    generalize C2 [r] = u2 at *
    generalize C3 [r] = u3 at *
    generalize C4 [r] = u4 at *
    gi_wp2
    refine ⟨(((Same2.refl _ W).alloc (by omega) _).alloc (by rw [World.size_alloc]; omega) _), ((KeepUp.refl _ W).alloc _).alloc _, ?_⟩
    intro w20 hp _
    have hww : Below W.heap.size W ((W.alloc (.cells #[.int .i64 y1, .int .i64 y2, .int .i64 y3, .int .i64 y4] 25)).alloc (.cells #[.int .i64 u1, .int .i64 u2, .int .i64 u3, .int .i64 u4] 25)) := ((Below.refl _ W).alloc (Nat.le_refl _) _).alloc (by rw [World.size_alloc]; exact Nat.le_succ _) _
    have hs20 : w20.heap.size = W.heap.size + 2 := by rw [hp.size, World.size_alloc, World.size_alloc]
    have hWW : Below (w.heap.size + 4) W4 w20 := hI.trans ((hww.mono (by omega)).trans (hp.below (by omega)))
    have hKU : KeepUp (w.heap.size + 6) W w20 := ⟨by omega, fun k h1 h2 => (hp.block k (by omega)).trans (hww.block k h2)⟩
    have hS2 : Same2 (w.heap.size + 4) ((W.alloc (.cells #[.int .i64 y1, .int .i64 y2, .int .i64 y3, .int .i64 y4] 25)).alloc (.cells #[.int .i64 u1, .int .i64 u2, .int .i64 u3, .int .i64 u4] 25)) w20 → True := fun _ => trivial
    have f20 := counted_old f4 hWW (by omega)
    have r20 := counted_old r4 hWW (by omega)
    have e20 := (hWW.cell (p := ⟨w.heap.size + 1, 0, none⟩) (by show w.heap.size + 1 < _; omega)).trans e4
    have a20 : counted w20 W.heap.size y1 y2 y3 y4 := by
      have h : counted ((W.alloc (.cells #[.int .i64 y1, .int .i64 y2, .int .i64 y3, .int .i64 y4] 25)).alloc (.cells #[.int .i64 u1, .int .i64 u2, .int .i64 u3, .int .i64 u4] 25)) W.heap.size y1 y2 y3 y4 := counted_below (counted_new W y1 y2 y3 y4 _) ((Below.refl _ _).alloc (Nat.le_refl _) _)
      obtain ⟨⟨h0, h1, h2, h3⟩, k0, k1, k2, k3⟩ := h
      exact ⟨⟨(hp.cell (by omega)).trans h0, (hp.cell (by omega)).trans h1, (hp.cell (by omega)).trans h2, (hp.cell (by omega)).trans h3⟩, (hp.frozen (by omega)).trans k0, (hp.frozen (by omega)).trans k1, (hp.frozen (by omega)).trans k2, (hp.frozen (by omega)).trans k3⟩
    have o20 : counted w20 (W.heap.size + 1) u1 u2 u3 u4 := by
      have h : counted ((W.alloc (.cells #[.int .i64 y1, .int .i64 y2, .int .i64 y3, .int .i64 y4] 25)).alloc (.cells #[.int .i64 u1, .int .i64 u2, .int .i64 u3, .int .i64 u4] 25)) (W.heap.size + 1) u1 u2 u3 u4 := by have := counted_new (W.alloc (.cells #[.int .i64 y1, .int .i64 y2, .int .i64 y3, .int .i64 y4] 25)) u1 u2 u3 u4 25; rwa [World.size_alloc] at this
      obtain ⟨⟨h0, h1, h2, h3⟩, k0, k1, k2, k3⟩ := h
      exact ⟨⟨(hp.cell (by omega)).trans h0, (hp.cell (by omega)).trans h1, (hp.cell (by omega)).trans h2, (hp.cell (by omega)).trans h3⟩, (hp.frozen (by omega)).trans k0, (hp.frozen (by omega)).trans k1, (hp.frozen (by omega)).trans k2, (hp.frozen (by omega)).trans k3⟩
    have hw20 : Below w.heap.size w w20 := hb4.trans (hWW.mono (by omega))
    clear hp hww hS2 f4 r4 e4 s4
    gi_wp2
    refine wpR_region_rel 6 7 (by kernel_rfl) rfl (by kernel_rfl) ?_
    intro w21 hb21
    obtain ⟨G, hG⟩ := exists_growth w21
    have f21 := counted_below f20 hb21
    have a21 := counted_below a20 hb21
    have o21 := counted_below o20 hb21
    obtain ⟨⟨f0, f1, f2, f3⟩, _⟩ := f21
    obtain ⟨⟨a0, a1, a2, a3⟩, _⟩ := a21
    obtain ⟨⟨o0, o1, o2, o3⟩, _⟩ := o21
    have gf0 := hG.cell f0
    have gf1 := hG.cell f1
    have gf2 := hG.cell f2
    have gf3 := hG.cell f3
    have ga0 := hG.cell a0
    have ga1 := hG.cell a1
    have ga2 := hG.cell a2
    have ga3 := hG.cell a3
    have go0 := hG.cell o0
    have go1 := hG.cell o1
    have go2 := hG.cell o2
    have go3 := hG.cell o3
    clear f0 f1 f2 f3 a0 a1 a2 a3 o0 o1 o2 o3
    (refine anyG_step hG (i := 0) rfl (by kernel_rfl) (by kernel_rfl) (by kernel_rfl) (fun K hK => ?_); go_simp; refine hK _ ?_; clear hK K)
    (refine anyG_step hG (i := 1) rfl (by kernel_rfl) (by kernel_rfl) (by kernel_rfl) (fun K hK => ?_); go_simp; refine hK _ ?_; clear hK K)
    (refine anyG_step hG (i := 2) rfl (by kernel_rfl) (by kernel_rfl) (by kernel_rfl) (fun K hK => ?_); go_simp; refine hK _ ?_; clear hK K)
    (refine anyG_step hG (i := 3) rfl (by kernel_rfl) (by kernel_rfl) (by kernel_rfl) (fun K hK => ?_); go_simp; apply Exists.intro; refine ⟨fun _ => ?_, hK _ ?_⟩; exact HP1.out _; clear hK K)
    (refine anyG_step hG (i := 4) rfl (by kernel_rfl) (by kernel_rfl) (by kernel_rfl) (fun K hK => ?_); go_simp; apply Exists.intro; refine ⟨fun _ => ?_, hK _ ?_⟩; exact HP2.out _; clear hK K)
    clear gf0 gf1 gf2 gf3 ga0 ga1 ga2 ga3 go0 go1 go2 go3 hG
    refine anyG_one (i := 5) rfl (by kernel_rfl) ?_
    intro w22 hb22 K hK
    go_simp
    have hb22a : Below w22.heap.size w22 (w22.alloc (.cells #[.int .i64 0, .int .i64 0, .int .i64 0, .int .i64 0] 25)) := (Below.refl _ w22).alloc (Nat.le_refl _) _
    refine hK _ _ hb22a ?_
    clear hK K
    refine anyG_late (i := 6) rfl (by kernel_rfl) (by kernel_rfl) ?_
    intro w23 hb23 K hK
    have hh := counted_below (counted_new w22 0 0 0 0 25) hb23
    have HH : Hid _ := hh
    obtain ⟨⟨h0, h1, h2, h3⟩, k0, k1, k2, k3⟩ := hh
    go_simp
    refine hK _ _ ?_
    clear hK K
    refine anyG_end (by kernel_rfl) ?_
    intro w24 hb24
    have hb23' := hb21.trans (hb22.mono hb21.size)
    have hb2a := hb23'.trans (hb22a.mono hb23'.size)
    have hb2b := hb2a.trans (hb23.mono hb2a.size)
    have hb2c := below_set4 hb2b (B := w22.heap.size) hb23'.size (.int .i64 (C1 (fs ++ (c1 ++ [r])))) (.int .i64 (C2 (fs ++ (c1 ++ [r])))) (.int .i64 (C3 (fs ++ (c1 ++ [r])))) (.int .i64 (C4 (fs ++ (c1 ++ [r]))))
    have hbF := hb2c.trans (hb24.mono hb2c.size)
    have h24 := counted_below (counted_set (m1 := C1 (fs ++ (c1 ++ [r]))) (m2 := C2 (fs ++ (c1 ++ [r]))) (m3 := C3 (fs ++ (c1 ++ [r]))) (m4 := C4 (fs ++ (c1 ++ [r]))) HH.out) hb24
    have e24 := (hbF.cell (p := ⟨w.heap.size + 1, 0, none⟩) (by show w.heap.size + 1 < _; omega)).trans e20
    have r24 := counted_below r20 hbF
    have hw24 : Below w.heap.size w w24 := hw20.trans (hbF.mono hw20.size)
    have hKU24 : KeepUp (w.heap.size + 6) W w24 := hKU.trans (KeepUp.of_below hbF)
    have HCQ := HQ.out w24 hw24
    have H24 : Hid _ := h24
    have HR24 : Hid _ := r24
    have HBF : Hid _ := hbF
    have HWW : Hid _ := hWW
    have HKU : Hid _ := hKU24
    clear hb21 hb22 hb22a hb23 hb24 hb23' hb2a hb2b hb2c HH h0 h1 h2 h3 k0 k1 k2 k3 f20 r20 a20 o20 e20 hKU hKU24 hbF hWW
    generalize w22.heap.size = hB at *
    obtain ⟨⟨h0, h1, h2, h3⟩, _⟩ := h24
    obtain ⟨_, t0, t1, t2, t3⟩ := r24
    generalize hX1 : C1 (fs ++ (c1 ++ [r])) = X1 at *
    generalize hX2 : C2 (fs ++ (c1 ++ [r])) = X2 at *
    generalize hX3 : C3 (fs ++ (c1 ++ [r])) = X3 at *
    generalize hX4 : C4 (fs ++ (c1 ++ [r])) = X4 at *
    generalize hfx : f (fs ++ (c1 ++ [r])) = fx at *
    gi_wp2
    refine ⟨trivial, rfl, ?_⟩
    refine (CallsIn.inRound l (callsIn_wide.2 HCQ)).mono ?_
    rintro e w25 ⟨rfl, hb25⟩
    have h25 := counted_below H24.out hb25
    have r25 := counted_below HR24.out hb25
    have HR25 : Hid _ := r25
    have hbZ := HBF.out.trans (hb25.mono HBF.out.size)
    have HBZ : Hid _ := hbZ
    have HWZ : Hid _ := hw24.trans (hb25.mono hw24.size)
    clear h0 h1 h2 h3 t0 t1 t2 t3 e24 hb25 hbZ HCQ
    obtain ⟨⟨h0, h1, h2, h3⟩, _⟩ := h25
    obtain ⟨⟨z0, z1, z2, z3⟩, t0, t1, t2, t3⟩ := r25
    cases fx with
    | false =>
      gi_wp2
      refine ⟨Same2.of_below HBZ.out (by omega), KeepUp.of_below HBZ.out, HWW.out.trans (HBZ.out.mono (by omega)), c1 ++ [r], d2, HCC.out, HW.out, ?_⟩
      rw [seek_none f c1 fs [r] HSK.out, seek, List.append_assoc, hfx]
      rfl
    | true =>
      gi_wp2
      have hkk : KeepUp (w.heap.size + 6) w20 w25 := KeepUp.of_below HBZ.out
      refine ⟨((((Same2.of_below HBZ.out (by omega)).setCell (by show w.heap.size + 2 ≠ _; omega) (by show w.heap.size + 2 ≠ _; omega) _).setCell (by show w.heap.size + 2 ≠ _; omega) (by show w.heap.size + 2 ≠ _; omega) _).setCell (by show w.heap.size + 2 ≠ _; omega) (by show w.heap.size + 2 ≠ _; omega) _).setCell (by show w.heap.size + 2 ≠ _; omega) (by show w.heap.size + 2 ≠ _; omega) _,
        (((hkk.setCell (by show w.heap.size + 2 < _; omega) _).setCell (by show w.heap.size + 2 < _; omega) _).setCell (by show w.heap.size + 2 < _; omega) _).setCell (by show w.heap.size + 2 < _; omega) _, rfl, fs ++ (c1 ++ [r]), ?_, ?_, below_set4 HWZ.out (by omega) _ _ _ _, ?_⟩
      · rw [HCC.out, List.append_assoc, seek_none f c1 fs ([r] ++ d2) HSK.out, List.singleton_append, seek, List.append_assoc, hfx]
        rfl
      · rw [hX1, hX2, hX3, hX4]
        exact counted_set HR25.out
      · have := HBZ.out.size
        simp [World.setCell]
        omega
  case done =>
    rintro xs W rfl ⟨hI, c1, c2, hcc, hx, hsk⟩ hDef
    rw [hs4] at hDef ⊢
    have HN : Hid (seek f fs c = none) := by
      show _ = _
      rw [HSC.out] at hx
      have : c2 = [] := by
        have := congrArg List.length hx
        rw [hcc] at this
        simp only [wide, List.length_map, List.length_append] at this
        exact List.length_eq_zero_iff.1 (by omega)
      subst this
      rw [hcc, List.append_nil]
      exact hsk
    have f5 := counted_old f4 hI (by omega)
    have r5 := counted_old r4 hI (by omega)
    have HR5 : Hid _ := r5
    have hbW : Below w.heap.size w W := hb4.trans (hI.mono (by omega))
    have HBW : Hid _ := hbW
    have hIs := hI.size
    clear hcc hx hsk hbW hI f4 r4 e4 s4
    obtain ⟨⟨f0, f1, f2, f3⟩, _⟩ := f5
    obtain ⟨⟨z0, z1, z2, z3⟩, t0, t1, t2, t3⟩ := r5
    generalize C1 fs = y1 at *
    generalize C2 fs = y2 at *
    generalize C3 fs = y3 at *
    generalize C4 fs = y4 at *
    gi_wp2
    have hset := counted_set (m1 := y1) (m2 := y2) (m3 := y3) (m4 := y4) HR5.out
    obtain ⟨⟨x0, x1, x2, x3⟩, _⟩ := hset
    have hDef' : ((((W.setCell ⟨w.heap.size + 2, 0, none⟩ (.int .i64 y1)).setCell ⟨w.heap.size + 2, 1, none⟩ (.int .i64 y2)).setCell ⟨w.heap.size + 2, 2, none⟩ (.int .i64 y3)).setCell ⟨w.heap.size + 2, 3, none⟩ (.int .i64 y4)).heap[w.heap.size + 4]? = some (.deferred (some [])) := by
      refine (Below.heap_setCell _ _ _ _ ?_).trans ((Below.heap_setCell _ _ _ _ ?_).trans ((Below.heap_setCell _ _ _ _ ?_).trans ((Below.heap_setCell _ _ _ _ ?_).trans hDef))) <;> (show w.heap.size + 4 ≠ w.heap.size + 2; omega)
    have hP := Put1.putObj (w.heap.size + 4) ((((W.setCell ⟨w.heap.size + 2, 0, none⟩ (.int .i64 y1)).setCell ⟨w.heap.size + 2, 1, none⟩ (.int .i64 y2)).setCell ⟨w.heap.size + 2, 2, none⟩ (.int .i64 y3)).setCell ⟨w.heap.size + 2, 3, none⟩ (.int .i64 y4)) (.deferred none)
    have p0 := (hP.cell (b := w.heap.size + 2) (o := 0) (by omega)).trans x0
    have p1 := (hP.cell (b := w.heap.size + 2) (o := 1) (by omega)).trans x1
    have p2 := (hP.cell (b := w.heap.size + 2) (o := 2) (by omega)).trans x2
    have p3 := (hP.cell (b := w.heap.size + 2) (o := 3) (by omega)).trans x3
    refine ⟨by simp, .inl ⟨_, _, rfl, run_takeDeferred hDef', ?_⟩⟩
    refine ⟨.agg #[.int .i64 y1, .int .i64 y2, .int .i64 y3, .int .i64 y4], by simp [results, Tryz.results204, go_sem, p0, p1, p2, p3], ?_, (below_set4 HBW.out (B := w.heap.size + 2) (by omega) _ _ _ _).trans (hP.below (by omega))⟩
    rw [HN.out]
    exact congrArg Ending.returned HV.out.symm
  case stop =>
    rintro k pre W hsp ⟨rfl, x, hx, hc2, hbW, hsW⟩ hDef
    rw [hs4] at hDef ⊢
    have HC2 : Hid _ := hc2
    obtain ⟨⟨z0, z1, z2, z3⟩, _⟩ := hc2
    clear f4 r4 e4 s4
    gi_wp2
    have hP := Put1.putObj (w.heap.size + 4) W (.deferred none)
    have p0 := (hP.cell (b := w.heap.size + 2) (o := 0) (by omega)).trans z0
    have p1 := (hP.cell (b := w.heap.size + 2) (o := 1) (by omega)).trans z1
    have p2 := (hP.cell (b := w.heap.size + 2) (o := 2) (by omega)).trans z2
    have p3 := (hP.cell (b := w.heap.size + 2) (o := 3) (by omega)).trans z3
    refine ⟨by simp, .inl ⟨_, _, rfl, run_takeDeferred hDef, ?_⟩⟩
    refine ⟨cntV x, by simp [results, Tryz.results204, go_sem, p0, p1, p2, p3, cntV], ?_, hbW.trans (hP.below (by omega))⟩
    rw [hx]; rfl
end Go.Proofs.YtldhbjmillfjgabGreatDoor
