/-
  client.head: the first of a unit, of a text that has so many.
-/
import Derived.Test.YtedgnlgjmnccgabGreatDoorUnits
import Derived.Test.YtedgnlgjmnccgabGreatDoorShapeP
namespace Go.Proofs.YtedgnlgjmnccgabGreatDoor
open Go.RowKit
set_option linter.unusedVariables false
attribute [local go_sem] Oper.semAt_some yieldsUpon okUpon

theorem upTo_is {u n : Int} (hu : unitOk u) {rs c1 c2 : List Nat} (h : rs = c1 ++ c2) (h1 : n ≤ by_ u c1) (h2 : ∀ i, i < c1.length → by_ u (rs.take i) < n) : upTo rs u n = c1 := by
  have hle : n ≤ by_ u rs := by rw [h, by_append]; have := by_pos u c2; omega
  have ht : rs.take c1.length = c1 := by rw [h, List.take_left' rfl]
  obtain ⟨k, k1, k2, k3, k4⟩ := upTo_least rs u n hle
  have hk : k = c1.length := by
    rcases Nat.lt_trichotomy k c1.length with hlt | e | hlt
    · have := h2 k hlt; omega
    · exact e
    · have := k4 c1.length hlt
      rw [ht] at this; omega
  rw [k2, hk, ht]
/-- What the walk keeps: the counts of the runes gone through. -/
def headI (W4 : World) (B : Nat) (u n : Int) (rs : List Nat) (pre : List (Nat × Nat)) (W : World) : Prop :=
  Below (B + 2) W4 W ∧ ∃ c1 c2, rs = c1 ++ c2 ∧ pre = wide c1 ∧ counted W (B + 2) (C1 c1) (C2 c1) (C3 c1) (C4 c1) ∧ ∀ i, i < c1.length → by_ u (rs.take i) < n
def headX (W4 : World) (B : Nat) (u n : Int) (rs : List Nat) (W : World) : Prop :=
  Below (B + 2) W4 W ∧ B + 6 ≤ W.heap.size ∧ ∃ c1 c2, rs = c1 ++ c2 ∧ n ≤ by_ u c1 ∧ counted W (B + 2) (C1 c1) (C2 c1) (C3 c1) (C4 c1) ∧ ∀ i, i < c1.length → by_ u (rs.take i) < n

set_option maxRecDepth 100000 in
set_option maxHeartbeats 4000000 in
theorem head_any (rs : List Nat) (hr : ∀ r ∈ rs, isRune r) (hz : C1 rs ≤ 10000000) (u n : Int) (hu : unitOk u) (hn : n ≤ by_ u rs) (w : World) (hT : Lib.Utf8Tabs 2 3 w) :
    Calls Tryz.prog 180 #[.string (bytesOf rs), .int .i64 u, .int .i64 n] w fun e w' => e = .returned (.tuple #[.int .i64 (by_ 1 (upTo rs u n)), .bool (onEdge rs u n)]) ∧ Below w.heap.size w w' := by
  have HR : Hid (∀ r ∈ rs, isRune r) := hr
  have HZ : Hid (C1 rs ≤ 10000000) := hz
  have HN : Hid (n ≤ by_ u rs) := hn
  have HU : Hid (unitOk u) := hu
  have HT : Hid (Lib.Utf8Tabs 2 3 w) := hT
  have HSC : Hid ((scan (bytesOf rs).data.toList).1 = wide rs) := by show _ = _; rw [bytesOf_list, scan_encs rs hr]
  have hsz : (bytesOf rs).size ≤ 100000000 := by rw [bytesOf_size]; rw [C1_len] at hz; omega
  have FIN : Hid (∀ c1 c2, rs = c1 ++ c2 → (n ≤ by_ u c1 ∨ c2 = []) → (∀ i, i < c1.length → by_ u (rs.take i) < n) → by_ 1 (upTo rs u n) = C1 c1 ∧ onEdge rs u n = decide (by_ u c1 = n)) := fun c1 c2 h1 h2 h3 => by
    have h2 : n ≤ by_ u c1 := h2.elim id fun e => by subst e; rw [List.append_nil] at h1; rw [← h1]; exact hn
    have := upTo_is hu h1 h2 h3
    unfold onEdge
    rw [this]
    exact ⟨by unfold by_; rw [if_pos rfl], rfl⟩
  clear hr hz hT hn hu
  refine (callsIn_wide (n := 3)).1 ?_
  refine callsIn_of_wp_marks Tryz.func180 rfl trivial ?_ rfl
  simp only [Tryz.ntmps180, List.size_toArray, List.length_cons, List.length_nil, Nat.reduceAdd, Nat.reduceSub, Array.replicate_succ, Array.replicate_zero, List.push_toArray, List.append_toArray, List.nil_append, List.cons_append]
  gi_wp2_with (first
    | (refine ⟨trivial, ?_⟩; gi_at_call 220; refine (callsIn_wide.2 (Walk_one (bytesOf rs) _)).mono ?_; rintro e w13 ⟨rfl, rfl⟩)
    | fail)
  obtain ⟨W4, hW4⟩ : ∃ W4, W4 = (((w.alloc (Obj.cells #[Value.int IntKind.i64 u] 3)).alloc (Obj.cells #[Value.int IntKind.i64 n] 3)).alloc (Obj.cells #[Value.int IntKind.i64 0, Value.int IntKind.i64 0, Value.int IntKind.i64 0, Value.int IntKind.i64 0] 25)).alloc (.cells #[.string (bytesOf rs)] 9) := ⟨_, rfl⟩
  have hb4 : Below w.heap.size w W4 := by rw [hW4]; exact ((((Below.refl _ w).alloc (Nat.le_refl _) _).alloc (by simp) _).alloc (by simp; omega) _).alloc (by simp; omega) _
  have hs4 : W4.heap.size = w.heap.size + 4 := by rw [hW4]; simp
  have u4 : W4.cell? ⟨w.heap.size, 0, none⟩ = some (.int .i64 u) := by rw [hW4]; simp [go_sem]
  have n4 : W4.cell? ⟨w.heap.size + 1, 0, none⟩ = some (.int .i64 n) := by rw [hW4]; simp [go_sem]
  have r4 : counted W4 (w.heap.size + 2) 0 0 0 0 := by rw [hW4]; refine ⟨⟨?_, ?_, ?_, ?_⟩, ?_, ?_, ?_, ?_⟩ <;> simp [go_sem]
  have s4 : W4.cell? ⟨w.heap.size + 3, 0, none⟩ = some (.string (bytesOf rs)) := by rw [hW4]; simp [go_sem]
  rw [← hW4]
  clear hW4
  refine wp_range_own (gf := 262) (lb := #[.pointer (some ⟨w.heap.size + 3, 0, none⟩)]) rfl (enters_of Tryz.func262 (by kernel_rfl) rfl) (encs := walkArgs) (fun _ _ => rfl)
    (It := Below (w.heap.size + 6)) (Kp := KeepUp (w.heap.size + 6)) (Z := Below w.heap.size w) (S := fun xs => xs = (scan (bytesOf rs).data.toList).1) (Sp := fun pre => ∃ rest, (scan (bytesOf rs).data.toList).1 = pre ++ rest)
    ?seq ?its (fun h k => h.trans k) (fun A o => KeepUp.putObj A (.loop o) (by rw [hs4]; omega))
    (headI W4 w.heap.size u n rs)
    (fun k pre W => k = .exit 0 ∧ headX W4 w.heap.size u n rs W) ?iz ?ixz ?ii ?ib ?ix ?ixb ?h0 ?round ?done ?stop
  case seq =>
    intro W hs1 hb1
    rw [hs4] at hs1 hb1
    have := walk_seq (bytesOf rs) (by omega) w HT.out (w.heap.size + 3) W ((hb1.cell (p := ⟨w.heap.size + 3, 0, none⟩) (by show w.heap.size + 3 < _; omega)).trans s4)
    rw [hs1] at this
    exact this
  case its => exact fun A B h => Same2.of_below h (by rw [hs4]; omega)
  case iz => exact fun pre A h => hb4.trans (h.1.mono (by omega))
  case ixz => exact fun k pre A h => hb4.trans (h.2.1.mono (by omega))
  case ii =>
    rintro pre A B ⟨h1, c1, c2, h2, h3, h4, h5⟩ hb
    exact ⟨h1.trans (hb.mono (by omega)), c1, c2, h2, h3, counted_old h4 hb (by omega), h5⟩
  case ib =>
    rintro pre A o ⟨h1, c1, c2, h2, h3, h4, h5⟩
    have hb : Below (w.heap.size + 5) A (A.putObj (w.heap.size + 5) (.loop o)) := (Put1.putObj _ A (.loop o)).below (Nat.le_refl _)
    rw [hs4]
    exact ⟨h1.trans (hb.mono (by omega)), c1, c2, h2, h3, counted_old h4 hb (by omega), h5⟩
  case ix =>
    rintro k pre A B ⟨h0, h1, hs, c1, c2, h2, h3, h4, h5⟩ hb
    exact ⟨h0, h1.trans (hb.mono (by omega)), Nat.le_trans hs hb.size, c1, c2, h2, h3, counted_old h4 hb (by omega), h5⟩
  case ixb =>
    rintro k pre A o ⟨h0, h1, hs, c1, c2, h2, h3, h4, h5⟩
    have hb : Below (w.heap.size + 5) A (A.putObj (w.heap.size + 5) (.loop o)) := (Put1.putObj _ A (.loop o)).below (Nat.le_refl _)
    rw [hs4]
    exact ⟨h0, h1.trans (hb.mono (by omega)), Nat.le_trans hs hb.size, c1, c2, h2, h3, counted_old h4 hb (by omega), h5⟩
  case h0 => exact fun W hs hb _ => by rw [hs4] at hb; exact ⟨hb.mono (by omega), [], rs, rfl, rfl, counted_old r4 hb (by omega), fun i hi => absurd hi (Nat.not_lt_zero _)⟩
  case round =>
    rintro l pre x W ⟨hI, c1, c2, hcc, rfl, hcnt, hlow⟩ hlW ⟨rest, hsp⟩
    rw [hs4] at hlW ⊢
    rw [HSC.out, List.append_assoc, hcc, wide_append] at hsp
    have hsp2 := List.append_cancel_left hsp
    obtain ⟨r, d2, rfl, rfl⟩ : ∃ r d2, c2 = r :: d2 ∧ x = (r, (enc r).length) := by
      cases c2 with
      | nil => simp [wide] at hsp2
      | cons r d2 => simp only [wide, List.map_cons, List.singleton_append, List.cons.injEq] at hsp2; exact ⟨r, d2, rfl, hsp2.1.symm⟩
    have HW : Hid (wide c1 ++ [(r, (enc r).length)] = wide (c1 ++ [r])) := by show _ = _; rw [wide_append]; rfl
    have HCC : Hid (rs = (c1 ++ [r]) ++ d2) := by show _ = _; rw [hcc]; simp
    have HCC0 : Hid (rs = c1 ++ (r :: d2)) := hcc
    have HLOW : Hid (∀ i, i < c1.length → by_ u (rs.take i) < n) := hlow
    have HTC : Hid (rs.take c1.length = c1) := by show _ = _; rw [hcc, List.take_left' rfl]
    have hzc : C1 (c1 ++ [r]) ≤ 100000000 := by have := HZ.out; rw [HCC.out] at this; have := C1_left this; omega
    have HP1 : Hid (∀ wx, Calls Tryz.prog 137 #[cntV c1, cntV [r]] wx fun e w' => e = .returned (cntV (c1 ++ [r])) ∧ Below wx.heap.size wx w') := fun wx => plus_cnt c1 [r] (by omega) wx
    have HI1 : Hid (∀ wx, Calls Tryz.prog 23 #[cntV c1, .int .i64 u] wx fun e w' => e = .returned (.int .i64 (by_ u c1)) ∧ Below wx.heap.size wx w') := fun wx => In_any u c1 wx
    rw [walkArgs_cut]
    clear hsp hsp2 hcc hlow hzc
    unfold cntV at HP1 HI1 ⊢
    have HCN : Hid (counted W (w.heap.size + 2) (C1 c1) (C2 c1) (C3 c1) (C4 c1)) := hcnt
    clear hcnt
    generalize hy1 : C1 c1 = y1 at *
    generalize hy2 : C2 c1 = y2 at *
    generalize hy3 : C3 c1 = y3 at *
    generalize hy4 : C4 c1 = y4 at *
    have HY : Hid (C1 c1 = y1 ∧ C2 c1 = y2 ∧ C3 c1 = y3 ∧ C4 c1 = y4) := ⟨hy1, hy2, hy3, hy4⟩
    clear hy1 hy2 hy3 hy4
    generalize C1 [r] = u1 at *
    generalize C2 [r] = u2 at *
    generalize C3 [r] = u3 at *
    generalize C4 [r] = u4' at *
    gi_wp2
    refine ⟨(((Same2.refl _ W).alloc (by omega) _).alloc (by rw [World.size_alloc]; omega) _), ((KeepUp.refl _ W).alloc _).alloc _, ?_⟩
    intro w20 hp _
    have hww : Below W.heap.size W ((W.alloc (.cells #[.int .i64 y1, .int .i64 y2, .int .i64 y3, .int .i64 y4] 25)).alloc (.cells #[.int .i64 u1, .int .i64 u2, .int .i64 u3, .int .i64 u4'] 25)) := ((Below.refl _ W).alloc (Nat.le_refl _) _).alloc (by rw [World.size_alloc]; exact Nat.le_succ _) _
    have hs20 : w20.heap.size = W.heap.size + 2 := by rw [hp.size, World.size_alloc, World.size_alloc]
    have hWW : Below (w.heap.size + 2) W4 w20 := hI.trans ((hww.mono (by omega)).trans (hp.below (by omega)))
    have hW5 : Below (w.heap.size + 5) W w20 := (hww.mono (by omega)).trans (hp.below (by omega))
    have hKU : KeepUp (w.heap.size + 6) W w20 := ⟨by omega, fun k h1 h2 => (hp.block k (by omega)).trans (hww.block k h2)⟩
    have u20 := (hWW.cell (p := ⟨w.heap.size, 0, none⟩) (by show w.heap.size < _; omega)).trans u4
    have n20 := (hWW.cell (p := ⟨w.heap.size + 1, 0, none⟩) (by show w.heap.size + 1 < _; omega)).trans n4
    have r20 := counted_old HCN.out hW5 (by omega)
    have a20 : counted w20 W.heap.size y1 y2 y3 y4 := by
      have h : counted ((W.alloc (.cells #[.int .i64 y1, .int .i64 y2, .int .i64 y3, .int .i64 y4] 25)).alloc (.cells #[.int .i64 u1, .int .i64 u2, .int .i64 u3, .int .i64 u4'] 25)) W.heap.size y1 y2 y3 y4 := counted_below (counted_new W y1 y2 y3 y4 _) ((Below.refl _ _).alloc (Nat.le_refl _) _)
      obtain ⟨⟨h0, h1, h2, h3⟩, k0, k1, k2, k3⟩ := h
      exact ⟨⟨(hp.cell (by omega)).trans h0, (hp.cell (by omega)).trans h1, (hp.cell (by omega)).trans h2, (hp.cell (by omega)).trans h3⟩, (hp.frozen (by omega)).trans k0, (hp.frozen (by omega)).trans k1, (hp.frozen (by omega)).trans k2, (hp.frozen (by omega)).trans k3⟩
    have o20 : counted w20 (W.heap.size + 1) u1 u2 u3 u4' := by
      have h : counted ((W.alloc (.cells #[.int .i64 y1, .int .i64 y2, .int .i64 y3, .int .i64 y4] 25)).alloc (.cells #[.int .i64 u1, .int .i64 u2, .int .i64 u3, .int .i64 u4'] 25)) (W.heap.size + 1) u1 u2 u3 u4' := by have := counted_new (W.alloc (.cells #[.int .i64 y1, .int .i64 y2, .int .i64 y3, .int .i64 y4] 25)) u1 u2 u3 u4' 25; rwa [World.size_alloc] at this
      obtain ⟨⟨h0, h1, h2, h3⟩, k0, k1, k2, k3⟩ := h
      exact ⟨⟨(hp.cell (by omega)).trans h0, (hp.cell (by omega)).trans h1, (hp.cell (by omega)).trans h2, (hp.cell (by omega)).trans h3⟩, (hp.frozen (by omega)).trans k0, (hp.frozen (by omega)).trans k1, (hp.frozen (by omega)).trans k2, (hp.frozen (by omega)).trans k3⟩
    have hSize : w.heap.size + 8 ≤ w20.heap.size := by omega
    clear hp hww u4 n4 r4 s4
    gi_wp2
    refine wpR_region_rel 5 5 (by kernel_rfl) rfl (by kernel_rfl) ?_
    intro w21 hb21
    obtain ⟨G, hG⟩ := exists_growth w21
    have HR20 : Hid _ := r20
    have r21 := counted_below r20 hb21
    have u21 := (hb21.cell (p := ⟨w.heap.size, 0, none⟩) (by show w.heap.size < _; omega)).trans u20
    have n21 := (hb21.cell (p := ⟨w.heap.size + 1, 0, none⟩) (by show w.heap.size + 1 < _; omega)).trans n20
    obtain ⟨⟨f0, f1, f2, f3⟩, _⟩ := r21
    have gf0 := hG.cell f0
    have gf1 := hG.cell f1
    have gf2 := hG.cell f2
    have gf3 := hG.cell f3
    have gu := hG.cell u21
    have gn := hG.cell n21
    clear f0 f1 f2 f3 u21 n21
    generalize hYY : by_ u c1 = YY at *
    have HYY : Hid (by_ u c1 = YY) := hYY
    clear hYY
    by_cases hge : n ≤ YY
    all_goals
      (refine anyG_step hG (i := 0) rfl (by kernel_rfl) (by kernel_rfl) (by kernel_rfl) (fun K hK => ?_); go_simp; refine hK _ ?_; clear hK K)
      (refine anyG_step hG (i := 1) rfl (by kernel_rfl) (by kernel_rfl) (by kernel_rfl) (fun K hK => ?_); go_simp; refine hK _ ?_; clear hK K)
      (refine anyG_step hG (i := 2) rfl (by kernel_rfl) (by kernel_rfl) (by kernel_rfl) (fun K hK => ?_); go_simp; apply Exists.intro; refine ⟨fun _ => ?_, hK _ ?_⟩; exact HI1.out _; clear hK K)
      (refine anyG_step hG (i := 3) rfl (by kernel_rfl) (by kernel_rfl) (by kernel_rfl) (fun K hK => ?_); go_simp; refine hK _ ?_; clear hK K)
      (refine anyG_step hG (i := 4) rfl (by kernel_rfl) (by kernel_rfl) (by kernel_rfl) (fun K hK => ?_); go_simp; refine hK _ ?_; clear hK K)
      clear gf0 gf1 gf2 gf3 gu gn hG
      refine anyG_end (by kernel_rfl) ?_
      intro w24 hb24
      have hbF := hb21.trans (hb24.mono hb21.size)
      have HBF : Hid (Below w20.heap.size w20 w24) := hbF
      have HWW : Hid (Below (w.heap.size + 2) W4 w20) := hWW
      have HKU : Hid (KeepUp (w.heap.size + 6) W w20) := hKU
      have HSZ : Hid (w.heap.size + 8 ≤ w20.heap.size) := hSize
      have HA24 : Hid (counted w24 W.heap.size y1 y2 y3 y4) := counted_below a20 hbF
      have HO24 : Hid (counted w24 (W.heap.size + 1) u1 u2 u3 u4') := counted_below o20 hbF
      have HR24 : Hid (counted w24 (w.heap.size + 2) y1 y2 y3 y4) := counted_below HR20.out hbF
      clear hb21 hb24 hbF r20 a20 o20 u20 n20
    · gi_wp2
      have hy := HY.out
      exact ⟨Same2.of_below HBF.out (by have := HSZ.out; omega), KeepUp.of_below HBF.out, rfl, HWW.out.trans (HBF.out.mono (by have := HSZ.out; omega)), by have := HBF.out.size; have := HSZ.out; omega, c1, r :: d2, HCC0.out, by rw [HYY.out]; exact hge, by rw [hy.1, hy.2.1, hy.2.2.1, hy.2.2.2]; exact HR24.out, HLOW.out⟩
    · obtain ⟨⟨a0, a1, a2, a3⟩, _⟩ := HA24.out
      obtain ⟨⟨o0, o1, o2, o3⟩, _⟩ := HO24.out
      obtain ⟨⟨z0, z1, z2, z3⟩, t0, t1, t2, t3⟩ := HR24.out
      have HGE : Hid (YY < n) := by show YY < n; omega
      clear hge
      have hnl : ∀ i, i < (c1 ++ [r]).length → by_ u (rs.take i) < n := fun i hi => by
        rw [List.length_append, List.length_singleton] at hi
        rcases Nat.lt_or_ge i c1.length with hlt | hge'
        · exact HLOW.out i hlt
        · obtain rfl : i = c1.length := by omega
          rw [HTC.out, HYY.out]
          exact HGE.out
      have HNL : Hid _ := hnl
      clear hnl
      gi_wp2
      refine ⟨trivial, rfl, ?_⟩
      refine (CallsIn.inRound l (callsIn_wide.2 (HP1.out _))).mono ?_
      rintro e w25 ⟨rfl, hb25⟩
      have hr25 := counted_below HR24.out hb25
      have HR25 : Hid _ := hr25
      have hbZ := HBF.out.trans (hb25.mono HBF.out.size)
      have HBZ : Hid (Below w20.heap.size w20 w25) := hbZ
      clear a0 a1 a2 a3 o0 o1 o2 o3 z0 z1 z2 z3 t0 t1 t2 t3 hb25 hbZ
      obtain ⟨⟨z0, z1, z2, z3⟩, t0, t1, t2, t3⟩ := hr25
      generalize hX1 : C1 (c1 ++ [r]) = X1 at *
      generalize hX2 : C2 (c1 ++ [r]) = X2 at *
      generalize hX3 : C3 (c1 ++ [r]) = X3 at *
      generalize hX4 : C4 (c1 ++ [r]) = X4 at *
      have HX : Hid (C1 (c1 ++ [r]) = X1 ∧ C2 (c1 ++ [r]) = X2 ∧ C3 (c1 ++ [r]) = X3 ∧ C4 (c1 ++ [r]) = X4) := ⟨hX1, hX2, hX3, hX4⟩
      clear hX1 hX2 hX3 hX4
      gi_wp2
      have hx := HX.out
      have hkk : KeepUp (w.heap.size + 6) w20 w25 := KeepUp.of_below HBZ.out
      have hszz := HSZ.out
      refine ⟨((((Same2.of_below HBZ.out (by omega)).setCell (by show w.heap.size + 2 ≠ _; omega) (by show w.heap.size + 2 ≠ _; omega) _).setCell (by show w.heap.size + 2 ≠ _; omega) (by show w.heap.size + 2 ≠ _; omega) _).setCell (by show w.heap.size + 2 ≠ _; omega) (by show w.heap.size + 2 ≠ _; omega) _).setCell (by show w.heap.size + 2 ≠ _; omega) (by show w.heap.size + 2 ≠ _; omega) _,
        (((hkk.setCell (by show w.heap.size + 2 < _; omega) _).setCell (by show w.heap.size + 2 < _; omega) _).setCell (by show w.heap.size + 2 < _; omega) _).setCell (by show w.heap.size + 2 < _; omega) _, ?_, c1 ++ [r], d2, HCC.out, HW.out, ?_, HNL.out⟩
      · exact below_set4 (HWW.out.trans (HBZ.out.mono (by omega))) (by omega) _ _ _ _
      · rw [hx.1, hx.2.1, hx.2.2.1, hx.2.2.2]
        exact counted_set HR25.out
  case done =>
    rintro xs W rfl ⟨hI, c1, c2, hcc, hx, hcnt, hlow⟩ hDef
    rw [hs4] at hDef ⊢
    have hc2 : c2 = [] := by
      rw [HSC.out] at hx
      have := congrArg List.length hx
      rw [hcc] at this
      simp only [wide, List.length_map, List.length_append] at this
      exact List.length_eq_zero_iff.1 (by omega)
    have hsW : w.heap.size + 5 ≤ W.heap.size := by
      rcases Nat.lt_or_ge (w.heap.size + 4) W.heap.size with h | h
      · omega
      · rw [Array.getElem?_eq_none h] at hDef; cases hDef
    have HFN : Hid _ := FIN.out c1 c2 hcc (.inr hc2) hlow
    clear hx hc2
    have hu5 := (hI.cell (p := ⟨w.heap.size, 0, none⟩) (by show w.heap.size < _; omega)).trans u4
    have hn5 := (hI.cell (p := ⟨w.heap.size + 1, 0, none⟩) (by show w.heap.size + 1 < _; omega)).trans n4
    have hs5 := hI.size
    rw [hs4] at hs5
    have hbW : Below w.heap.size w W := hb4.trans (hI.mono (by omega))
    have HI1 : Hid (∀ wx, Calls Tryz.prog 23 #[cntV c1, .int .i64 u] wx fun e w' => e = .returned (.int .i64 (by_ u c1)) ∧ Below wx.heap.size wx w') := fun wx => In_any u c1 wx
    unfold cntV at HI1
    clear hI u4 n4 r4 s4 hcc hlow
    generalize C1 c1 = y1 at *
    generalize C2 c1 = y2 at *
    generalize C3 c1 = y3 at *
    generalize C4 c1 = y4 at *
    gi_wp2
    refine wpIn_wide.2 ?_
    refine wp_region_rel 9 9 (by kernel_rfl) rfl ?_
    intro w41 hb41
    obtain ⟨G, hG⟩ := exists_growth w41
    obtain ⟨⟨f0, f1, f2, f3⟩, _⟩ := counted_below hcnt hb41
    have u41 := (hb41.cell (p := ⟨w.heap.size, 0, none⟩) (by show w.heap.size < _; omega)).trans hu5
    have n41 := (hb41.cell (p := ⟨w.heap.size + 1, 0, none⟩) (by show w.heap.size + 1 < _; omega)).trans hn5
    have gf0 := hG.cell f0
    have gf1 := hG.cell f1
    have gf2 := hG.cell f2
    have gf3 := hG.cell f3
    have gu := hG.cell u41
    have gn := hG.cell n41
    clear f0 f1 f2 f3 u41 n41 hu5 hn5
    (refine anyG_step hG (i := 0) rfl (by kernel_rfl) (by kernel_rfl) (by kernel_rfl) (fun K hK => ?_); go_simp; refine hK _ ?_; clear hK K)
    (refine anyG_step hG (i := 1) rfl (by kernel_rfl) (by kernel_rfl) (by kernel_rfl) (fun K hK => ?_); go_simp; refine hK _ ?_; clear hK K)
    (refine anyG_step hG (i := 2) rfl (by kernel_rfl) (by kernel_rfl) (by kernel_rfl) (fun K hK => ?_); go_simp; refine hK _ ?_; clear hK K)
    (refine anyG_step hG (i := 3) rfl (by kernel_rfl) (by kernel_rfl) (by kernel_rfl) (fun K hK => ?_); go_simp; refine hK _ ?_; clear hK K)
    (refine anyG_step hG (i := 4) rfl (by kernel_rfl) (by kernel_rfl) (by kernel_rfl) (fun K hK => ?_); go_simp; apply Exists.intro; refine ⟨fun _ => ?_, hK _ ?_⟩; exact HI1.out _; clear hK K)
    (refine anyG_step hG (i := 5) rfl (by kernel_rfl) (by kernel_rfl) (by kernel_rfl) (fun K hK => ?_); go_simp; refine hK _ ?_; clear hK K)
    (refine anyG_step hG (i := 6) rfl (by kernel_rfl) (by kernel_rfl) (by kernel_rfl) (fun K hK => ?_); go_simp; refine hK _ ?_; clear hK K)
    (refine anyG_step hG (i := 7) rfl (by kernel_rfl) (by kernel_rfl) (by kernel_rfl) (fun K hK => ?_); go_simp; refine hK _ ?_; clear hK K)
    (refine anyG_step hG (i := 8) rfl (by kernel_rfl) (by kernel_rfl) (by kernel_rfl) (fun K hK => ?_); go_simp; refine hK _ ?_; clear hK K)
    clear gf0 gf1 gf2 gf3 gu gn hG
    refine anyG_end (by kernel_rfl) ?_
    intro w44 hb44
    have hbF := hb41.trans (hb44.mono hb41.size)
    gi_wp2
    have hDef' : w44.heap[w.heap.size + 4]? = some (.deferred (some [])) := (hbF.block _ (by omega)).trans hDef
    have hP := Put1.putObj (w.heap.size + 4) w44 (.deferred none)
    have hFin : Below w.heap.size w (w44.putObj (w.heap.size + 4) (.deferred none)) := (hbW.trans (hbF.mono hbW.size)).trans (hP.below (by omega))
    refine ⟨by simp, .inl ⟨_, _, rfl, run_takeDeferred hDef', ?_⟩⟩
    refine ⟨.tuple #[.int .i64 y1, .bool (by_ u c1 == n)], by simp [results, Tryz.results180, go_sem], ?_, hFin⟩
    have hf := HFN.out
    rw [hf.1, hf.2]
    rfl
  case stop =>
    rintro k pre W hsp ⟨rfl, hI, hsW, c1, c2, hcc, hge, hcnt, hlow⟩ hDef
    rw [hs4] at hDef ⊢
    have HFN : Hid _ := FIN.out c1 c2 hcc (.inl hge) hlow
    clear hge
    have hu5 := (hI.cell (p := ⟨w.heap.size, 0, none⟩) (by show w.heap.size < _; omega)).trans u4
    have hn5 := (hI.cell (p := ⟨w.heap.size + 1, 0, none⟩) (by show w.heap.size + 1 < _; omega)).trans n4
    have hs5 := hI.size
    rw [hs4] at hs5
    have hbW : Below w.heap.size w W := hb4.trans (hI.mono (by omega))
    have HI1 : Hid (∀ wx, Calls Tryz.prog 23 #[cntV c1, .int .i64 u] wx fun e w' => e = .returned (.int .i64 (by_ u c1)) ∧ Below wx.heap.size wx w') := fun wx => In_any u c1 wx
    unfold cntV at HI1
    clear hI u4 n4 r4 s4 hcc hlow
    generalize C1 c1 = y1 at *
    generalize C2 c1 = y2 at *
    generalize C3 c1 = y3 at *
    generalize C4 c1 = y4 at *
    gi_wp2
    refine wpIn_wide.2 ?_
    refine wp_region_rel 9 9 (by kernel_rfl) rfl ?_
    intro w41 hb41
    obtain ⟨G, hG⟩ := exists_growth w41
    obtain ⟨⟨f0, f1, f2, f3⟩, _⟩ := counted_below hcnt hb41
    have u41 := (hb41.cell (p := ⟨w.heap.size, 0, none⟩) (by show w.heap.size < _; omega)).trans hu5
    have n41 := (hb41.cell (p := ⟨w.heap.size + 1, 0, none⟩) (by show w.heap.size + 1 < _; omega)).trans hn5
    have gf0 := hG.cell f0
    have gf1 := hG.cell f1
    have gf2 := hG.cell f2
    have gf3 := hG.cell f3
    have gu := hG.cell u41
    have gn := hG.cell n41
    clear f0 f1 f2 f3 u41 n41 hu5 hn5
    (refine anyG_step hG (i := 0) rfl (by kernel_rfl) (by kernel_rfl) (by kernel_rfl) (fun K hK => ?_); go_simp; refine hK _ ?_; clear hK K)
    (refine anyG_step hG (i := 1) rfl (by kernel_rfl) (by kernel_rfl) (by kernel_rfl) (fun K hK => ?_); go_simp; refine hK _ ?_; clear hK K)
    (refine anyG_step hG (i := 2) rfl (by kernel_rfl) (by kernel_rfl) (by kernel_rfl) (fun K hK => ?_); go_simp; refine hK _ ?_; clear hK K)
    (refine anyG_step hG (i := 3) rfl (by kernel_rfl) (by kernel_rfl) (by kernel_rfl) (fun K hK => ?_); go_simp; refine hK _ ?_; clear hK K)
    (refine anyG_step hG (i := 4) rfl (by kernel_rfl) (by kernel_rfl) (by kernel_rfl) (fun K hK => ?_); go_simp; apply Exists.intro; refine ⟨fun _ => ?_, hK _ ?_⟩; exact HI1.out _; clear hK K)
    (refine anyG_step hG (i := 5) rfl (by kernel_rfl) (by kernel_rfl) (by kernel_rfl) (fun K hK => ?_); go_simp; refine hK _ ?_; clear hK K)
    (refine anyG_step hG (i := 6) rfl (by kernel_rfl) (by kernel_rfl) (by kernel_rfl) (fun K hK => ?_); go_simp; refine hK _ ?_; clear hK K)
    (refine anyG_step hG (i := 7) rfl (by kernel_rfl) (by kernel_rfl) (by kernel_rfl) (fun K hK => ?_); go_simp; refine hK _ ?_; clear hK K)
    (refine anyG_step hG (i := 8) rfl (by kernel_rfl) (by kernel_rfl) (by kernel_rfl) (fun K hK => ?_); go_simp; refine hK _ ?_; clear hK K)
    clear gf0 gf1 gf2 gf3 gu gn hG
    refine anyG_end (by kernel_rfl) ?_
    intro w44 hb44
    have hbF := hb41.trans (hb44.mono hb41.size)
    gi_wp2
    have hDef' : w44.heap[w.heap.size + 4]? = some (.deferred (some [])) := (hbF.block _ (by omega)).trans hDef
    have hP := Put1.putObj (w.heap.size + 4) w44 (.deferred none)
    have hFin : Below w.heap.size w (w44.putObj (w.heap.size + 4) (.deferred none)) := (hbW.trans (hbF.mono hbW.size)).trans (hP.below (by omega))
    refine ⟨by simp, .inl ⟨_, _, rfl, run_takeDeferred hDef', ?_⟩⟩
    refine ⟨.tuple #[.int .i64 y1, .bool (by_ u c1 == n)], by simp [results, Tryz.results180, go_sem], ?_, hFin⟩
    have hf := HFN.out
    rw [hf.1, hf.2]
    rfl
end Go.Proofs.YtedgnlgjmnccgabGreatDoor
