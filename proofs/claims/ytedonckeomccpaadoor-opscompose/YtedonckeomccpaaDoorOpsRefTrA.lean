/-
  The document's Transform, where what it puts comes first.
-/
import Derived.Test.YtedonckeomccpaaDoorOpsRefTr
import Derived.Deep.Cut
import Derived.Deep.LoopGhost
namespace Go.Proofs.YtedonckeomccpaaDoor
open Go.RowKit
set_option linter.unusedVariables false
attribute [local go_sem] Oper.semAt_some

set_option maxRecDepth 100000 in
set_option maxHeartbeats 8000000 in
theorem refTrans_true (v1 v2 : Value) (a b : List Pt) (w : World) (h1 : opAt w v1 a) (h2 : opAt w v2 b) (w1 : ∀ p ∈ a, wfP p) (w2 : ∀ p ∈ b, wfP p) (s1 : ∀ p ∈ a, p.put.length < 100000000) (s2 : ∀ p ∈ b, p.put.length < 100000000) (f1 : fineP a) (f2 : fineP b) (he : bothE a b = 0) (hl : (lensW b).1 = (lensW a).1) :
    Calls Tryd.prog 59 #[v1, v2, .bool true] w fun e w' => ∃ v', e = .returned (.tuple #[v', .int .i64 0]) ∧ opAt w' v' (normP (outJ true (spreads (normP a)) (spreads (normP b)) ((spreads (normP a)).1.length + 1))) ∧ Below w.heap.size w w' := by
  have cB : Hid _ := refBoth_any v1 v2 a b w h1 h2 w1 w2 s1 s2 f1.len f2.len
  rw [he] at cB
  have cL1 : Hid (∀ wx, Below w.heap.size w wx → Calls Tryd.prog 47 #[v1] wx fun e w' => e = .returned (.tuple #[.int .i64 (lensW a).1, .int .i64 (lensW a).2]) ∧ Below wx.heap.size wx w') := fun wx hb => refLens_any v1 a wx (opAt_grown h1 hb) f1.len
  have cL2 : Hid (∀ wx, Below w.heap.size w wx → Calls Tryd.prog 47 #[v2] wx fun e w' => e = .returned (.tuple #[.int .i64 (lensW b).1, .int .i64 (lensW b).2]) ∧ Below wx.heap.size wx w') := fun wx hb => refLens_any v2 b wx (opAt_grown h2 hb) f2.len
  obtain ⟨n1, n2, n3, n4⟩ := fine_norm f1
  obtain ⟨m1, m2, m3, m4⟩ := fine_norm f2
  have sn1 := ones_sound fun p hp => (n1 p hp).1
  have sm1 := ones_sound fun p hp => (m1 p hp).1
  have hwn : wts (normP a) < 10000000 := by rw [norm_wts a (ones_sound f1.one)]; have := f1.w; omega
  have hwm : wts (normP b) < 10000000 := by rw [norm_wts b (ones_sound f2.one)]; have := f2.w; omega
  have hln : (normP a).length < 10000000 := by
    have := weight_wts _ fun p hp => (n1 p hp).1
    have key : ∀ (l : List Pt), (∀ p ∈ l, oneP p) → l.length ≤ weight l := by
      intro l
      induction l with
      | nil => intro _; simp
      | cons p l ih => intro h; have h1 := length_pos (h p (by simp)); have h2 := ih fun q hq => h q (by simp [hq]); rw [weight_cons, List.length_cons]; omega
    have := key _ fun p hp => (n1 p hp).1
    omega
  have hlm : (normP b).length < 10000000 := by
    have key : ∀ (l : List Pt), (∀ p ∈ l, oneP p) → l.length ≤ weight l := by
      intro l
      induction l with
      | nil => intro _; simp
      | cons p l ih => intro h; have h1 := length_pos (h p (by simp)); have h2 := ih fun q hq => h q (by simp [hq]); rw [weight_cons, List.length_cons]; omega
    have := key _ fun p hp => (m1 p hp).1
    omega
  have hA1 : (lensW a).1 = ((spreads (normP a)).1.length : Int) := by
    rw [(fine_lens f1).1, ← n3, ← lensU_long _ sn1, spreads_eq]; rfl
  have hB1 : (lensW b).1 = ((spreads (normP b)).1.length : Int) := by
    rw [(fine_lens f2).1, ← m3, ← lensU_long _ sm1, spreads_eq]; rfl
  have hnn : (spreads (normP b)).1.length = (spreads (normP a)).1.length := by omega
  have hn9 : (spreads (normP a)).1.length < 3000000 := by
    have h8 := (lens_plain (normP a) sn1 (by omega)).2.2.1
    rw [norm_wts a (ones_sound f1.one)] at h8
    have := f1.w
    omega
  have cS1 : Hid (∀ wx, Below w.heap.size w wx → _) := fun wx (hb : Below w.heap.size w wx) => refNorm_any v1 a wx (opAt_grown h1 hb) (ones_sound f1.one) (by have := f1.w; omega) f1.len
  have cS3 : Hid (∀ wx, Below w.heap.size w wx → _) := fun wx (hb : Below w.heap.size w wx) => refNorm_any v2 b wx (opAt_grown h2 hb) (ones_sound f2.one) (by have := f2.w; omega) f2.len
  have cS2 : Hid (∀ (v' : Value) wx, opAt wx v' (normP a) → _) := fun v' wx (ho : opAt wx v' (normP a)) => Spread_any v' (normP a) wx ho sn1 hwn hln _ rfl
  have cS4 : Hid (∀ (v' : Value) wx, opAt wx v' (normP b) → _) := fun v' wx (ho : opAt wx v' (normP b)) => Spread_any v' (normP b) wx ho sm1 hwm hlm _ hnn
  have hSm : ∀ p ∈ outJ true (spreads (normP a)) (spreads (normP b)) ((spreads (normP a)).1.length + 1), soundP p := outJ_sound _ _ _ _
  have hWt : wts (outJ true (spreads (normP a)) (spreads (normP b)) ((spreads (normP a)).1.length + 1)) < 10000000 := by
    have e1 := putsK_spreads (normP a) sn1
    have e2 := putsK_spreads (normP b) sm1
    have e3 := outJ_wts true (spreads (normP a)) (spreads (normP b)) ((spreads (normP a)).1.length + 1)
    have e4 := norm_wts a (ones_sound f1.one)
    have e5 := norm_wts b (ones_sound f2.one)
    have e6 := f1.w
    have e7 := f2.w
    have e8 := (lens_plain (normP a) sn1 (by omega)).2.2.1
    omega
  obtain ⟨x, hx⟩ : ∃ x, spreads (normP a) = x := ⟨_, rfl⟩
  obtain ⟨y, hy⟩ : ∃ y, spreads (normP b) = y := ⟨_, rfl⟩
  rw [hx] at hA1 hnn hn9 cS2 hSm hWt ⊢
  rw [hy] at hB1 hnn cS4 hSm hWt ⊢
  rw [hx] at cS4
  obtain ⟨n, hn⟩ : ∃ n, x.1.length = n := ⟨_, rfl⟩
  rw [hn] at hA1 hnn hn9 cS2 cS4 hSm hWt ⊢
  rw [hl] at cL2
  have hN : (lensW a).1 = (n : Int) := hA1
  generalize (lensW a).1 = N at cL1 cL2 hN
  have HN : Hid (N = (n : Int)) := hN
  have hN1 : 0 ≤ N := by omega
  have hN2 : N < 3000000 := by omega
  clear hN
  have HXL : Hid (x.1.length = n) := hn
  have HYL : Hid (y.1.length = n) := hnn
  have HSm : Hid _ := hSm
  have HWt : Hid _ := hWt
  clear hl hA1
  generalize (lensW a).2 = A2 at *
  generalize (lensW b).2 = B2 at *
  obtain ⟨p1, c1, rfl, _⟩ := h1
  obtain ⟨p2, c2, rfl, _⟩ := h2
  clear w1 w2 s1 s2 f1 f2 he hB1 hnn hn hSm hWt n1 n2 n3 n4 m1 m2 m3 m4 sn1 sm1 hwn hwm hln hlm hx hy
  obtain ⟨na, hna⟩ : ∃ l, normP a = l := ⟨_, rfl⟩
  obtain ⟨nb, hnb⟩ : ∃ l, normP b = l := ⟨_, rfl⟩
  rw [hna] at cS1 cS2
  rw [hnb] at cS3 cS4
  clear hna hnb
  obtain ⟨LF, hLF⟩ : ∃ l, outJ true x y (n + 1) = l := ⟨_, rfl⟩
  rw [hLF] at HSm HWt ⊢
  have HLF : Hid (outJ true x y (n + 1) = LF) := hLF
  clear hLF
  go_enter Tryd.func59, Tryd.ntmps59
  go_wp2_with (first
    | (have _ := HO6; go_at_call 51; refine (cS4.out _ _ (opAt_own HO6.out)).mono ?_; rintro e w9 ⟨gy1, gy2, rfl, o1, o2, hb⟩; have HY1 : Hid (w9.ownsRow w8.heap.size 9 1 (.slice (some ⟨gy1, 0, none⟩) (n + 1) (n + 1)) (n + 1) ((strsP n y).map strV)) := o1; have HY2 : Hid (w9.ownsRow w8.heap.size 4 1 (.slice (some ⟨gy2, 0, none⟩) n n) n ((boolsP n y).map Value.bool)) := o2; have HB89 : Hid (Below w8.heap.size w8 w9) := hb; clear o1 o2 hb)
    | (have _ := HG7; go_at_call 50; refine Calls.mono HG7.out ?_; rintro e w8 ⟨v8, rfl, o8, hb8⟩; have HO6 : Hid (w8.ownsRow w7.heap.size 151 3 v8 nb.length (cellsP nb)) := o8; have HB8 : Hid (Below w.heap.size w w8) := HB7.out.trans (hb8.mono HB7.out.size); have HB68 : Hid (Below w6.heap.size w6 w8) := HB67.out.trans (hb8.mono HB67.out.size); obtain ⟨p8, c8, rfl⟩ := own_slice o8; clear o8 hb8)
    | (have _ := HX1; go_at_call 51; refine (cS3.out _ HB6.out).mono ?_; rintro e w7 ⟨g7, rfl, hb7, hc7⟩; have HG7 : Hid _ := hc7; have HB7 : Hid (Below w.heap.size w w7) := HB6.out.trans (hb7.mono HB6.out.size); have HB67 : Hid (Below w6.heap.size w6 w7) := hb7; clear hb7 hc7)
    | (have _ := HO5; go_at_call 51; refine (cS2.out _ _ (opAt_own HO5.out)).mono ?_; rintro e w6 ⟨gx1, gx2, rfl, o1, o2, hb⟩; have HX1 : Hid (w6.ownsRow w5.heap.size 9 1 (.slice (some ⟨gx1, 0, none⟩) (n + 1) (n + 1)) (n + 1) ((strsP n x).map strV)) := o1; have HX2 : Hid (w6.ownsRow w5.heap.size 4 1 (.slice (some ⟨gx2, 0, none⟩) n n) n ((boolsP n x).map Value.bool)) := o2; have HB6 : Hid (Below w.heap.size w w6) := HB5.out.trans (hb.mono HB5.out.size); clear o1 o2 hb)
    | (have _ := HG4; go_at_call 50; refine Calls.mono HG4.out ?_; rintro e w5 ⟨v5, rfl, o5, hb5⟩; have HO5 : Hid (w5.ownsRow w4.heap.size 151 3 v5 na.length (cellsP na)) := o5; have HB5 : Hid (Below w.heap.size w w5) := HB4.out.trans (hb5.mono HB4.out.size); obtain ⟨p5, c5, rfl⟩ := own_slice o5; clear o5 hb5)
    | (have _ := HB3; go_at_call 51; refine (cS1.out _ HB3.out).mono ?_; rintro e w4 ⟨g4, rfl, hb4, hc4⟩; have HG4 : Hid _ := hc4; have HB4 : Hid (Below w.heap.size w w4) := HB3.out.trans (hb4.mono HB3.out.size); clear hb4 hc4)
    | (have _ := HB2; go_at_call 47; refine (cL2.out _ HB2.out).mono ?_; rintro e w3 ⟨rfl, hb3⟩; have HB3 : Hid (Below w.heap.size w w3) := HB2.out.trans (hb3.mono HB2.out.size); clear hb3)
    | (have _ := HB1; go_at_call 47; refine (cL1.out _ HB1.out).mono ?_; rintro e w2 ⟨rfl, hb2⟩; have HB2 : Hid (Below w.heap.size w w2) := HB1.out.trans (hb2.mono HB1.out.size); clear hb2)
    | (go_at_call 103; refine Calls.mono cB.out ?_; rintro e w1 ⟨rfl, hb1⟩; have HB1 : Hid (Below w.heap.size w w1) := hb1; clear hb1)
    | fail)
  obtain ⟨W0, hW0⟩ : ∃ W0, W0 = (((w9.alloc (.cells #[.slice (some ⟨gx1, 0, none⟩) (n + 1) (n + 1), .slice (some ⟨gx2, 0, none⟩) n n] 96)).alloc (.cells #[.slice (some ⟨gy1, 0, none⟩) (n + 1) (n + 1), .slice (some ⟨gy2, 0, none⟩) n n] 96)).alloc (.cells #[.slice none 0 0] 84)) := ⟨_, rfl⟩
  rw [← hW0]
  have hb90 : Below w9.heap.size w9 W0 := by rw [hW0]; exact (((Below.refl _ _).alloc (Nat.le_refl _) _).alloc (by simp) _).alloc (by simp; omega) _
  have hs0 : W0.heap.size = w9.heap.size + 1 + 1 + 1 := by rw [hW0]; simp
  have hb69 : Below w6.heap.size w6 W0 := (HB68.out.trans (HB89.out.mono HB68.out.size)).trans (hb90.mono (Nat.le_trans HB68.out.size HB89.out.size))
  have hb80 : Below w9.heap.size w9 W0 := hb90
  have HGP : Hid (gapsAt W0 w9.heap.size gx1 gx2 gy1 gy2 n x y) := rows_gaps HXL.out HYL.out HX1.out HX2.out HY1.out HY2.out hb69 hb90 (Nat.le_trans HB68.out.size HB89.out.size) (Nat.le_refl _)
    (by rw [hW0]; simp [go_sem]) (by rw [hW0]; simp [go_sem]) (by rw [hW0]; simp [go_sem]) (by rw [hW0]; simp [go_sem])
  have HBW : Hid (Below w.heap.size w W0) := (HB8.out.trans (HB89.out.mono HB8.out.size)).trans (hb90.mono (Nat.le_trans HB8.out.size HB89.out.size))
  have HSZ : Hid (w.heap.size ≤ w9.heap.size) := Nat.le_trans HB8.out.size HB89.out.size
  have hst : trR true x y n (w9.heap.size + 1 + 1) W0 (n + 1) (.int .i64 0) W0 := by
    refine ⟨0, rfl, by omega, ⟨⟨none, 0, ?_, ?_⟩, ?_⟩, .refl _ _⟩
    · have e : outJ true x y 0 = [] := by simp [outJ]
      rw [e, hW0]; simp [go_sem]
    · have e : outJ true x y 0 = [] := by simp [outJ]
      rw [e]; exact World.ownsRow_nil _ _ _ _
    · rw [hW0]; simp [go_sem]
  have HST : Hid (trR true x y n (w9.heap.size + 1 + 1) W0 (n + 1) (.int .i64 0) W0) := hst
  clear hst hW0 hb90 hs0 hb69 hb80 HB1 HB2 HB3 HG4 HB4 HO5 HB5 HX1 HX2 HB6 HG7 HB7 HB67 HO6 HB8 HB68 HY1 HY2 HB89 cB cL1 cL2 cS1 cS2 cS3 cS4
  go_loopg [50] (n + 1) (fun k i wr => trR true x y n (w9.heap.size + 1 + 1) W0 k i wr)
  case atStart => exact HST.out
  case round =>
    obtain ⟨j, rfl, hjk, ho, hb⟩ := hrel
    have HOR : Hid (outAt wr (w9.heap.size + 1 + 1) (outJ true x y j)) := ho
    have HBR : Hid (Below (w9.heap.size + 1 + 1) W0 wr) := hb
    have hlen := outJ_len true x y j
    clear HST ho hb
    rcases Nat.lt_or_ge n j with hj | hj
    · obtain rfl : gk = 0 := by omega
      obtain rfl : j = n + 1 := by omega
      rw [HLF.out] at HOR hlen
      have ho := HOR.out
      obtain ⟨⟨pL, cL, k1, k2⟩, k3⟩ := ho
      have CS : Hid _ := refNorm_any _ LF wr (opAt_own k2) HSm.out HWt.out (by omega)
      have HLT : Hid (w9.heap.size + 1 + 1 < wr.heap.size) := outAt_lt HOR.out
      have hNn := HN.out
      have hjn : ¬ (((n + 1 : Nat) : Int) < N + 1) := by omega
      clear hj hjk hlen k2 hNn
      go_wp2_with (first
        | (go_at_call 51; refine Calls.mono CS.out ?_; rintro e w2 ⟨g2, rfl, hb2, hc2⟩; have HC2 : Hid _ := hc2; have HB2 : Hid (Below wr.heap.size wr w2) := hb2; clear hb2 hc2)
        | (have _ := HC2; go_at_call 50; refine Calls.mono HC2.out ?_; rintro e w3 ⟨v3, rfl, o3, hb3⟩)
        | fail)
      obtain ⟨p3, c3, rfl⟩ := own_slice o3
      go_ret2
      have hB := HBW.out.trans (HBR.out.mono (show w.heap.size ≤ w9.heap.size + 1 + 1 by have := HSZ.out; omega))
      exact ⟨_, rfl, opAt_own o3, (hB.trans (HB2.out.mono hB.size)).trans (hb3.mono (Nat.le_trans hB.size HB2.out.size))⟩
    rcases Nat.lt_or_ge j n with hj2 | hj2
    rotate_left
    · obtain rfl : j = n := by omega
      obtain rfl : gk = 1 := by omega
      have hstep : outJ true x y (j + 1) = outJ true x y j ++ (putO x.2 ++ keepO y.2.length) := by
        have := outJ_last (first := true) (HXL.out.trans HYL.out.symm)
        rw [HXL.out] at this
        exact this
      obtain ⟨L, hL⟩ : ∃ L, outJ true x y j = L := ⟨_, rfl⟩
      rw [hL] at HOR hlen hstep
      have GPwr : Hid (gapsAt wr w9.heap.size gx1 gx2 gy1 gy2 j x y) := gapsAt_below HGP.out HBR.out (Nat.le_refl _)
      have fa0wr := GPwr.out.a0
      have fb0wr := GPwr.out.b0
      have fxwr := GPwr.out.x2
      have fywr := GPwr.out.y2
      have HXE : Hid (gapsAt W0 w9.heap.size gx1 gx2 gy1 gy2 j x y) := HGP.out
      obtain ⟨U, hU⟩ : ∃ U, x.2 = U := ⟨_, rfl⟩
      obtain ⟨V, hV⟩ : ∃ V, y.2 = V := ⟨_, rfl⟩
      rw [hU] at hstep fxwr
      rw [hV] at hstep fywr
      have HU : Hid (x.2 = U) := hU
      have HV : Hid (y.2 = V) := hV
      have hzv : (ByteArray.mk V.toArray).size = V.length := by simp [ByteArray.size]
      have cP : Hid (∀ W l, outAt W (w9.heap.size + 1 + 1) l → l.length < 1000000000 → Calls Tryd.prog 109 #[.string ⟨U.toArray⟩, .pointer (some ⟨w9.heap.size + 1 + 1, 0, none⟩)] W fun e w' => (∃ v, e = .returned v) ∧ outAt w' (w9.heap.size + 1 + 1) (l ++ putO U) ∧ Below (w9.heap.size + 1 + 1) W w') := fun W l h hl => tPut_any _ l U W h hl
      have cK : Hid (∀ W l, outAt W (w9.heap.size + 1 + 1) l → l.length < 1000000000 → Calls Tryd.prog 108 #[.int .i64 (V.length : Int), .pointer (some ⟨w9.heap.size + 1 + 1, 0, none⟩)] W fun e w' => (∃ v, e = .returned v) ∧ outAt w' (w9.heap.size + 1 + 1) (l ++ keepO V.length) ∧ Below (w9.heap.size + 1 + 1) W w') := fun W l h hl => tKeep_any _ l V.length W h hl
      have HSTEP : Hid (outJ true x y (j + 1) = (L ++ putO U) ++ keepO V.length) := by rw [List.append_assoc]; exact hstep
      have hpk : (putO U).length ≤ 1 ∧ (keepO V.length).length ≤ 1 := ⟨by unfold putO; split <;> simp, by unfold keepO; split <;> simp⟩
      have HL0 : Hid (L.length < 1000000000) := show L.length < 1000000000 by omega
      have HL1 : Hid ((L ++ putO U).length < 1000000000) := show (L ++ putO U).length < 1000000000 by rw [List.length_append]; omega
      have hNn := HN.out
      have hjn : (j : Int) < N + 1 := by omega
      have hjd : (j : Int) = N := by omega
      clear hNn
      subst hjd
      have hj9 : (j : Int) < 10000000 := by omega
      clear hL hstep hU hV hpk hjk hlen hj hj2
      go_wp2_with (first
        | (have _ := HO1; go_at_call 108; refine (cK.out _ _ HO1.out HL1.out).mono ?_; rintro e w2 ⟨⟨v2, rfl⟩, ho2, hb2⟩; have HO2 : Hid (outAt w2 (w9.heap.size + 1 + 1) ((L ++ putO U) ++ keepO V.length)) := ho2; have HB2 : Hid (Below (w9.heap.size + 1 + 1) W0 w2) := HB1.out.trans hb2; have GPw2 : Hid (gapsAt w2 w9.heap.size gx1 gx2 gy1 gy2 j x y) := gapsAt_below HGP.out HB2.out (Nat.le_refl _); have fa0w2 := GPw2.out.a0; have fb0w2 := GPw2.out.b0; have fxw2 := GPw2.out.x2; rw [HU.out] at fxw2; have fyw2 := GPw2.out.y2; rw [HV.out] at fyw2; clear ho2 hb2)
        | (go_at_call 109; refine (cP.out _ _ HOR.out HL0.out).mono ?_; rintro e w1 ⟨⟨v1, rfl⟩, ho1, hb1⟩; have HO1 : Hid (outAt w1 (w9.heap.size + 1 + 1) (L ++ putO U)) := ho1; have HB1 : Hid (Below (w9.heap.size + 1 + 1) W0 w1) := HBR.out.trans hb1; have GPw1 : Hid (gapsAt w1 w9.heap.size gx1 gx2 gy1 gy2 j x y) := gapsAt_below HGP.out HB1.out (Nat.le_refl _); have fa0w1 := GPw1.out.a0; have fb0w1 := GPw1.out.b0; have fxw1 := GPw1.out.x2; rw [HU.out] at fxw1; have fyw1 := GPw1.out.y2; rw [HV.out] at fyw1; clear ho1 hb1)
        | fail)
      go_roundg 0
      case measure => omega
      case rel => exact ⟨j + 1, by go_num, by omega, by rw [HSTEP.out]; exact HO2.out, HB2.out⟩
    · obtain ⟨⟨u, d⟩, hxj⟩ : ∃ z, x.1[j]? = some z := ⟨_, List.getElem?_eq_getElem (by rw [HXL.out]; exact hj2)⟩
      obtain ⟨⟨v, e⟩, hyj⟩ : ∃ z, y.1[j]? = some z := ⟨_, List.getElem?_eq_getElem (by rw [HYL.out]; exact hj2)⟩
      have HXJ : Hid (x.1[j]? = some (u, d)) := hxj
      have HYJ : Hid (y.1[j]? = some (v, e)) := hyj
      have hstep : outJ true x y (j + 1) = outJ true x y j ++ ((putO u ++ keepO v.length) ++ unitO e d) := outJ_step (first := true) (HXL.out.trans HYL.out.symm) (by rw [HXL.out]; exact hj2) hxj hyj
      obtain ⟨L, hL⟩ : ∃ L, outJ true x y j = L := ⟨_, rfl⟩
      rw [hL] at HOR hlen hstep
      have GPwr : Hid (gapsAt wr w9.heap.size gx1 gx2 gy1 gy2 n x y) := gapsAt_below HGP.out HBR.out (Nat.le_refl _)
      have fa0wr := GPwr.out.a0
      have fa1wr := GPwr.out.a1
      have fb0wr := GPwr.out.b0
      have fb1wr := GPwr.out.b1
      have fxwr := (GPwr.out.x1 _ _ _ HXJ.out).1
      have fxdwr := (GPwr.out.x1 _ _ _ HXJ.out).2
      have fywr := (GPwr.out.y1 _ _ _ HYJ.out).1
      have fydwr := (GPwr.out.y1 _ _ _ HYJ.out).2
      have hzv : (ByteArray.mk v.toArray).size = v.length := by simp [ByteArray.size]
      have cP : Hid (∀ W l, outAt W (w9.heap.size + 1 + 1) l → l.length < 1000000000 → Calls Tryd.prog 109 #[.string ⟨u.toArray⟩, .pointer (some ⟨w9.heap.size + 1 + 1, 0, none⟩)] W fun e w' => (∃ v, e = .returned v) ∧ outAt w' (w9.heap.size + 1 + 1) (l ++ putO u) ∧ Below (w9.heap.size + 1 + 1) W w') := fun W l h hl => tPut_any _ l u W h hl
      have cK : Hid (∀ W l, outAt W (w9.heap.size + 1 + 1) l → l.length < 1000000000 → Calls Tryd.prog 108 #[.int .i64 (v.length : Int), .pointer (some ⟨w9.heap.size + 1 + 1, 0, none⟩)] W fun e w' => (∃ v, e = .returned v) ∧ outAt w' (w9.heap.size + 1 + 1) (l ++ keepO v.length) ∧ Below (w9.heap.size + 1 + 1) W w') := fun W l h hl => tKeep_any _ l v.length W h hl
      have cU : Hid (∀ W l, outAt W (w9.heap.size + 1 + 1) l → l.length < 1000000000 → Calls Tryd.prog 108 #[.int .i64 1, .pointer (some ⟨w9.heap.size + 1 + 1, 0, none⟩)] W fun e w' => (∃ v, e = .returned v) ∧ outAt w' (w9.heap.size + 1 + 1) (l ++ [⟨1, 0, []⟩]) ∧ Below (w9.heap.size + 1 + 1) W w') := fun W l h hl => tKeep_any _ l 1 W h hl
      have HSTEP : Hid (outJ true x y (j + 1) = ((L ++ putO u) ++ keepO v.length) ++ unitO e d) := by rw [List.append_assoc L, List.append_assoc L]; exact hstep
      have hpk : (putO u).length ≤ 1 ∧ (keepO v.length).length ≤ 1 := ⟨by unfold putO; split <;> simp, by unfold keepO; split <;> simp⟩
      have HL0 : Hid (L.length < 1000000000) := show L.length < 1000000000 by omega
      have HL1 : Hid ((L ++ putO u).length < 1000000000) := show (L ++ putO u).length < 1000000000 by rw [List.length_append]; omega
      have HL2' : ((L ++ putO u) ++ keepO v.length).length < 100000000 := by rw [List.length_append, List.length_append]; omega
      obtain ⟨L2, hL2⟩ : ∃ l, (L ++ putO u) ++ keepO v.length = l := ⟨_, rfl⟩
      rw [hL2] at HSTEP HL2'
      have HL2 : Hid (L2.length < 100000000) := HL2'
      have HE2 : Hid ((L ++ putO u) ++ keepO v.length = L2) := hL2
      clear HL2' hL2
      have hjn2 : (j : Int) < (n : Int) := by omega
      have hNn := HN.out
      have hjn : (j : Int) < N + 1 := by omega
      have hjd : ((j : Int) == N) = false := beq_eq_false_iff_ne.2 (by omega)
      clear hNn
      have hj9 : (j : Int) < 10000000 := by omega
      obtain ⟨k, rfl⟩ : ∃ k, gk = k + 1 := ⟨gk - 1, by omega⟩
      have HJK : Hid (j + (k + 1) = n + 1) := hjk
      clear hL hstep hpk hjk hlen hj hj2 hxj hyj
      cases e with
      | true =>
        go_wp2_with (first
          | (have _ := HO1; go_at_call 108; refine (cK.out _ _ HO1.out HL1.out).mono ?_; rintro e w2 ⟨⟨v2, rfl⟩, ho2, hb2⟩; have HO2 : Hid (outAt w2 (w9.heap.size + 1 + 1) L2) := (by rw [← HE2.out]; exact ho2); have HB2 : Hid (Below (w9.heap.size + 1 + 1) W0 w2) := HB1.out.trans hb2; have GPw2 : Hid (gapsAt w2 w9.heap.size gx1 gx2 gy1 gy2 n x y) := gapsAt_below HGP.out HB2.out (Nat.le_refl _); have fa0w2 := GPw2.out.a0; have fa1w2 := GPw2.out.a1; have fb0w2 := GPw2.out.b0; have fb1w2 := GPw2.out.b1; have fxw2 := (GPw2.out.x1 _ _ _ HXJ.out).1; have fxdw2 := (GPw2.out.x1 _ _ _ HXJ.out).2; have fyw2 := (GPw2.out.y1 _ _ _ HYJ.out).1; have fydw2 := (GPw2.out.y1 _ _ _ HYJ.out).2; clear ho2 hb2)
          | (go_at_call 109; refine (cP.out _ _ HOR.out HL0.out).mono ?_; rintro e w1 ⟨⟨v1, rfl⟩, ho1, hb1⟩; have HO1 : Hid (outAt w1 (w9.heap.size + 1 + 1) (L ++ putO u)) := ho1; have HB1 : Hid (Below (w9.heap.size + 1 + 1) W0 w1) := HBR.out.trans hb1; have GPw1 : Hid (gapsAt w1 w9.heap.size gx1 gx2 gy1 gy2 n x y) := gapsAt_below HGP.out HB1.out (Nat.le_refl _); have fa0w1 := GPw1.out.a0; have fa1w1 := GPw1.out.a1; have fb0w1 := GPw1.out.b0; have fb1w1 := GPw1.out.b1; have fxw1 := (GPw1.out.x1 _ _ _ HXJ.out).1; have fxdw1 := (GPw1.out.x1 _ _ _ HXJ.out).2; have fyw1 := (GPw1.out.y1 _ _ _ HYJ.out).1; have fydw1 := (GPw1.out.y1 _ _ _ HYJ.out).2; clear ho1 hb1)
          | fail)
        go_roundg k
        case measure => omega
        case rel => exact ⟨j + 1, by go_num, by have := HJK.out; omega, by rw [HSTEP.out]; exact (List.append_nil _).symm ▸ HO2.out, HB2.out⟩
      | false =>
        cases d with
        | false =>
          go_wp2_with (first
            | (have _ := HO2; go_at_call 108; refine (cU.out _ _ HO2.out (Nat.lt_trans HL2.out (by decide))).mono ?_; rintro e w3 ⟨⟨v3, rfl⟩, ho3, hb3⟩)
            | (have _ := HO1; go_at_call 108; refine (cK.out _ _ HO1.out HL1.out).mono ?_; rintro e w2 ⟨⟨v2, rfl⟩, ho2, hb2⟩; have HO2 : Hid (outAt w2 (w9.heap.size + 1 + 1) L2) := (by rw [← HE2.out]; exact ho2); have HB2 : Hid (Below (w9.heap.size + 1 + 1) W0 w2) := HB1.out.trans hb2; have GPw2 : Hid (gapsAt w2 w9.heap.size gx1 gx2 gy1 gy2 n x y) := gapsAt_below HGP.out HB2.out (Nat.le_refl _); have fa0w2 := GPw2.out.a0; have fa1w2 := GPw2.out.a1; have fb0w2 := GPw2.out.b0; have fb1w2 := GPw2.out.b1; have fxw2 := (GPw2.out.x1 _ _ _ HXJ.out).1; have fxdw2 := (GPw2.out.x1 _ _ _ HXJ.out).2; have fyw2 := (GPw2.out.y1 _ _ _ HYJ.out).1; have fydw2 := (GPw2.out.y1 _ _ _ HYJ.out).2; clear ho2 hb2)
            | (go_at_call 109; refine (cP.out _ _ HOR.out HL0.out).mono ?_; rintro e w1 ⟨⟨v1, rfl⟩, ho1, hb1⟩; have HO1 : Hid (outAt w1 (w9.heap.size + 1 + 1) (L ++ putO u)) := ho1; have HB1 : Hid (Below (w9.heap.size + 1 + 1) W0 w1) := HBR.out.trans hb1; have GPw1 : Hid (gapsAt w1 w9.heap.size gx1 gx2 gy1 gy2 n x y) := gapsAt_below HGP.out HB1.out (Nat.le_refl _); have fa0w1 := GPw1.out.a0; have fa1w1 := GPw1.out.a1; have fb0w1 := GPw1.out.b0; have fb1w1 := GPw1.out.b1; have fxw1 := (GPw1.out.x1 _ _ _ HXJ.out).1; have fxdw1 := (GPw1.out.x1 _ _ _ HXJ.out).2; have fyw1 := (GPw1.out.y1 _ _ _ HYJ.out).1; have fydw1 := (GPw1.out.y1 _ _ _ HYJ.out).2; clear ho1 hb1)
            | fail)
          go_roundg k
          case measure => omega
          case rel => exact ⟨j + 1, by go_num, by have := HJK.out; omega, by rw [HSTEP.out]; exact ho3, HB2.out.trans hb3⟩
        | true =>
          go_upto_region 22 with (first
            | (have _ := HO1; go_at_call 108; refine (cK.out _ _ HO1.out HL1.out).mono ?_; rintro e w2 ⟨⟨v2, rfl⟩, ho2, hb2⟩; have HO2 : Hid (outAt w2 (w9.heap.size + 1 + 1) L2) := (by rw [← HE2.out]; exact ho2); have HB2 : Hid (Below (w9.heap.size + 1 + 1) W0 w2) := HB1.out.trans hb2; have GPw2 : Hid (gapsAt w2 w9.heap.size gx1 gx2 gy1 gy2 n x y) := gapsAt_below HGP.out HB2.out (Nat.le_refl _); have fa0w2 := GPw2.out.a0; have fa1w2 := GPw2.out.a1; have fb0w2 := GPw2.out.b0; have fb1w2 := GPw2.out.b1; have fxw2 := (GPw2.out.x1 _ _ _ HXJ.out).1; have fxdw2 := (GPw2.out.x1 _ _ _ HXJ.out).2; have fyw2 := (GPw2.out.y1 _ _ _ HYJ.out).1; have fydw2 := (GPw2.out.y1 _ _ _ HYJ.out).2; clear ho2 hb2; have ho2' := HO2.out; obtain ⟨⟨pq, cq, kq1, kq2⟩, kq3⟩ := ho2'; have HRW : Hid (w2.ownsRow (w9.heap.size + 1 + 1 + 1) 151 3 (.slice pq L2.length cq) L2.length (cellsP L2)) := kq2; have HCQ : Hid (w2.cell? ⟨w9.heap.size + 1 + 1, 0, none⟩ = some (.slice pq L2.length cq)) := kq1; have HQ2 : Hid (w9.heap.size + 1 + 1 < w2.heap.size) := outAt_lt HO2.out; have HQ3 : Hid (w2.frozen? ⟨w9.heap.size + 1 + 1, 0, none⟩ = false) := kq3; clear kq1 kq2 kq3)
            | (go_at_call 109; refine (cP.out _ _ HOR.out HL0.out).mono ?_; rintro e w1 ⟨⟨v1, rfl⟩, ho1, hb1⟩; have HO1 : Hid (outAt w1 (w9.heap.size + 1 + 1) (L ++ putO u)) := ho1; have HB1 : Hid (Below (w9.heap.size + 1 + 1) W0 w1) := HBR.out.trans hb1; have GPw1 : Hid (gapsAt w1 w9.heap.size gx1 gx2 gy1 gy2 n x y) := gapsAt_below HGP.out HB1.out (Nat.le_refl _); have fa0w1 := GPw1.out.a0; have fa1w1 := GPw1.out.a1; have fb0w1 := GPw1.out.b0; have fb1w1 := GPw1.out.b1; have fxw1 := (GPw1.out.x1 _ _ _ HXJ.out).1; have fxdw1 := (GPw1.out.x1 _ _ _ HXJ.out).2; have fyw1 := (GPw1.out.y1 _ _ _ HYJ.out).1; have fydw1 := (GPw1.out.y1 _ _ _ HYJ.out).2; clear ho1 hb1)
            | fail)
          obtain ⟨i0, hi, hz0, hz1, hz2⟩ := info_parts info_part
          have kq1 := HCQ.out
          have kq3 := HQ3.out
          have hq2 := HQ2.out
          go_wp2_with (first
            | (have _ := HO2; at_builtin; refine wpList_append_own _ rfl _ _ 84 rfl (w9.heap.size + 1 + 1 + 1) 151 i0 (.agg #[.int .i64 0, .int .i64 0, .string ⟨#[]⟩]) 3 32 Tryd.underlying84 hi hz0 hz1 hz2 rfl (by decide) _ _ _ rfl (HRW.out.alloc _) ⟨w2.heap.size, 0, none⟩ 1 1 (partCells ⟨0, 1, []⟩) rfl rfl (cells_new _ _ _) (partCells_one _) (by have := HL2.out; unfold maxLen; omega) (by have := HL2.out; omega) (by first | omega | (simp; omega)) ?_)
            | fail)
          intro v3 w3 hown3 hg3 _
          have P3 := outAt_push (q := ⟨0, 1, []⟩) HO2.out HCQ.out hown3 hg3
          obtain ⟨p3, q3, hv3⟩ := own_slice hown3
          rw [hv3] at P3 hown3 ⊢
          obtain ⟨G3, B3, r1, r2⟩ := P3
          have HG3 : Hid _ := G3
          have HB3 : Hid _ := B3
          clear G3 B3 hown3 hg3 hv3
          go_wp2
          go_roundg k
          case measure => omega
          case rel => exact ⟨j + 1, by go_num, by have := HJK.out; omega, by rw [HSTEP.out]; exact HG3.out, HB2.out.trans HB3.out⟩
end Go.Proofs.YtedonckeomccpaaDoor
