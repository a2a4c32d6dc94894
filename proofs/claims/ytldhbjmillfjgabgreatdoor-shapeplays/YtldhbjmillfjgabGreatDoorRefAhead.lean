/-
  The document's own Ahead: all places are looked at.
-/
import Derived.Test.YtldhbjmillfjgabGreatDoorRefIn
import Derived.Test.YtldhbjmillfjgabGreatDoorTurnZ
import Derived.Test.YtldhbjmillfjgabGreatDoorRefText
namespace Go.Proofs.YtldhbjmillfjgabGreatDoor
open Go.RowKit
set_option linter.unusedVariables false
attribute [local go_sem] Oper.semAt_some

theorem inB_unit (u : Int) : inB u 1 3 = true ↔ unitOk u := by
  unfold inB unitOk
  rw [decide_eq_true_iff]
  constructor
  · intro h; omega
  · intro h; omega
set_option maxRecDepth 100000 in
set_option maxHeartbeats 8000000 in
theorem refAhead_any (s : ByteArray) (rs : List Nat) (u a : Int) (hr : ∀ r ∈ rs, isRune r) (he : encs rs = s.data.toList) (hs : s.size < 1000000) (hu : unitOk u) (h0 : 0 ≤ a) (h1 : a ≤ by_ u rs) (w : World) :
    Calls Tryz.prog 63 #[.string s, .int .i64 u, .int .i64 a] w fun e w' => e = .returned (.tuple #[cntV (if onEdge rs u a then upTo rs u a else []), .int .i64 (if onEdge rs u a then 0 else 10)]) ∧ Below w.heap.size w w' := by
  have hC1 : C1 rs = s.size := by rw [C1_len, he, ← Lib.size_eq]
  have hru : inB u 1 3 = true := (inB_unit u).2 hu
  have hra : inB a 0 (by_ u rs) = true := decide_eq_true ⟨h0, h1⟩
  have hu0 : -9223372036854775808 ≤ u ∧ u < 9223372036854775808 := by unfold unitOk at hu; omega
  have cI1 := fun wx => in_any u 1 3 wx
  rw [hru] at cI1
  have cI2 := fun wx => in_any a 0 (by_ u rs) wx
  rw [hra] at cI2
  have cC : Hid (∀ wx, Calls Tryz.prog 8 #[.string s] wx fun e w' => e = .returned (.tuple #[cntV rs, .agg #[.int .i64 0, .int .i64 (-1)]]) ∧ Below wx.heap.size wx w') := fun wx => refCount_of s rs hr he (by omega) wx
  have cN : Hid (∀ wx, Calls Tryz.prog 30 #[cntV rs, .int .i64 u] wx fun e w' => e = .returned (.int .i64 (by_ u rs)) ∧ Below wx.heap.size wx w') := fun wx => refIn_any u rs hu0.1 hu0.2 (by omega) wx
  have hsc := scan_encs rs hr
  rw [he] at hsc
  have hro : runesOf s.data.toList = rs := by
    unfold runesOf
    rw [hsc]
    simp [wide, List.map_map, Function.comp_def]
  have cE : Hid (∀ wx, Calls Tryz.prog 118 #[.string s] wx fun e w' => ∃ v, e = .returned v ∧ w'.ownsRow wx.heap.size 25 4 v (rs.length + 1) (edges rs (rs.length + 1)) ∧ Below wx.heap.size wx w') := fun wx => by
    have := refEdges_any s (by omega) wx (by rw [hsc])
    rw [hro] at this
    exact this
  obtain ⟨e1, e2⟩ := edge_first hu h1
  have HE1 : Hid _ := e1
  have HE2 : Hid _ := e2
  have HR : Hid (∀ r ∈ rs, isRune r) := hr
  have cT : Hid (∀ i wx, Calls Tryz.prog 30 #[cntV (rs.take i), .int .i64 u] wx fun e w' => e = .returned (.int .i64 (by_ u (rs.take i))) ∧ Below wx.heap.size wx w') := fun i wx => refIn_any u (rs.take i) hu0.1 hu0.2 (by
    have e : C1 rs = C1 (rs.take i) + C1 (rs.drop i) := by rw [← C1_append, List.take_append_drop]
    have := C1_pos (rs.drop i)
    omega) wx
  have hrl : rs.length < 1000000 := by have := C3_le rs; unfold C3 at this; omega
  have hb0 : Below w.heap.size w (w.alloc (.cells #[.int .i64 0, .int .i64 0, .int .i64 0, .int .i64 0] 25)) := (Below.refl _ w).alloc (Nat.le_refl _) _
  have HB0 : Hid _ := hb0
  have HK0 : Hid (counted (w.alloc (.cells #[.int .i64 0, .int .i64 0, .int .i64 0, .int .i64 0] 25)) w.heap.size 0 0 0 0) := counted_new w 0 0 0 0 25
  obtain ⟨Bu, hBu⟩ : ∃ Bu, by_ u rs = Bu := ⟨_, rfl⟩
  rw [hBu] at cI2 cN
  obtain ⟨XA, hXA⟩ : ∃ XA, (if onEdge rs u a then upTo rs u a else []) = XA := ⟨_, rfl⟩
  obtain ⟨EA, hEA⟩ : ∃ EA : Int, (if onEdge rs u a then 0 else 10) = EA := ⟨_, rfl⟩
  have HXA : Hid _ := hXA
  have HEA : Hid _ := hEA
  rw [hXA, hEA]
  clear hXA hEA
  unfold cntV at cC cN cT
  clear hr he hs hu h0 h1 hC1 hru hra hu0 hsc hro e1 e2 hb0 hBu
  go_enter Tryz.func63, Tryz.ntmps63
  go_wp2_with (first
    | (have _ := HB2; go_at_call 61; refine (cI2 _).mono ?_; rintro e w1 ⟨rfl, hw1⟩; obtain rfl := hw1.symm)
    | (go_at_call 61; refine (cI1 _).mono ?_; rintro e w1 ⟨rfl, hw1⟩; obtain rfl := hw1.symm)
    | (go_at_call 8; refine (cC.out _).mono ?_; rintro e w1 ⟨rfl, hb1⟩; have HB1 : Hid (Below w.heap.size w w1) := HB0.out.trans (hb1.mono HB0.out.size); have HK1 : Hid (counted w1 w.heap.size 0 0 0 0) := counted_below HK0.out hb1; have hbx := (Below.refl w1.heap.size w1).alloc (Nat.le_refl _) (.cells #[.int .i64 (C1 rs), .int .i64 (C2 rs), .int .i64 (C3 rs), .int .i64 (C4 rs)] 25); have hby := hbx.alloc hbx.size (.cells #[.int .i64 0, .int .i64 (-1)] 28); have HBY : Hid (Below w1.heap.size w1 ((w1.alloc (.cells #[.int .i64 (C1 rs), .int .i64 (C2 rs), .int .i64 (C3 rs), .int .i64 (C4 rs)] 25)).alloc (.cells #[.int .i64 0, .int .i64 (-1)] 28))) := hby; clear hb1 hbx hby)
    | (go_at_call 30; refine (cN.out _).mono ?_; rintro e w2 ⟨rfl, hb2⟩; have HB2 : Hid (Below w.heap.size w w2) := HB1.out.trans ((HBY.out.trans (hb2.mono HBY.out.size)).mono HB1.out.size); have HK2 : Hid (counted w2 w.heap.size 0 0 0 0) := counted_below HK1.out (HBY.out.trans (hb2.mono HBY.out.size)); clear hb2)
    | (go_at_call 118; refine (cE.out _).mono ?_; rintro e w3 ⟨v3, rfl, ho3, hb3⟩; obtain ⟨g, c3, rfl, hg1, hg2⟩ := own_pos ho3 (Nat.succ_pos _); have HO3 : Hid (w3.ownsRow w2.heap.size 25 4 (.slice (some ⟨g, 0, none⟩) (rs.length + 1) c3) (rs.length + 1) (edges rs (rs.length + 1))) := ho3; have HB3 : Hid (Below w.heap.size w w3) := HB2.out.trans (hb3.mono HB2.out.size); have HK3 : Hid (counted w3 w.heap.size 0 0 0 0) := counted_below HK2.out hb3; clear ho3 hb3)
    | fail)
  clear cI1 cI2 cC cN cE HB0 HB1 HBY HB2 HK0 HK1 HK2
  go_loopw [31] (fun i wr => ∃ k : Nat, i = .int .i64 k ∧ k ≤ rs.length + 1 ∧ (∀ j, j < k → by_ u (rs.take j) ≠ a) ∧ Below w3.heap.size w3 wr) (fun i _ => rs.length + 1 - (intOf i).toNat)
  case atStart => exact ⟨0, rfl, Nat.zero_le _, fun j hj => absurd hj (Nat.not_lt_zero _), Below.refl _ _⟩
  case round =>
    obtain ⟨k, rfl, hk, hno, hbw⟩ := hrel
    have HNO : Hid (∀ j, j < k → by_ u (rs.take j) ≠ a) := hno
    have HBW : Hid (Below w3.heap.size w3 wr) := hbw
    have hKr := counted_below HK3.out hbw
    have HKR : Hid (counted wr w.heap.size 0 0 0 0) := hKr
    have HWR : Hid (Below w.heap.size w wr) := HB3.out.trans (hbw.mono HB3.out.size)
    clear hno hKr
    by_cases hlt : k < rs.length + 1
    · have hkl : (k : Int) < (rs.length : Int) + 1 := by omega
      have hown := own_below HO3.out hbw
      have hec := edge_cnt HR.out (i := k) (by omega)
      have g0 : wr.cell? ⟨g, k * 4, none⟩ = some (.int .i64 (C1 (rs.take k))) := edge_cell hown k 0 hlt (by omega) (by rw [hec]; rfl)
      have g1 : wr.cell? ⟨g, k * 4 + 1, none⟩ = some (.int .i64 (C2 (rs.take k))) := edge_cell hown k 1 hlt (by omega) (by rw [hec]; rfl)
      have g2 : wr.cell? ⟨g, k * 4 + 2, none⟩ = some (.int .i64 (C3 (rs.take k))) := edge_cell hown k 2 hlt (by omega) (by rw [hec]; rfl)
      have g3 : wr.cell? ⟨g, k * 4 + 3, none⟩ = some (.int .i64 (C4 (rs.take k))) := edge_cell hown k 3 hlt (by omega) (by rw [hec]; rfl)
      have hbx : Below wr.heap.size wr (wr.alloc (.cells #[.int .i64 (C1 (rs.take k)), .int .i64 (C2 (rs.take k)), .int .i64 (C3 (rs.take k)), .int .i64 (C4 (rs.take k))] 25)) := (Below.refl _ _).alloc (Nat.le_refl _) _
      have HBX : Hid (Below wr.heap.size wr (wr.alloc (.cells #[.int .i64 (C1 (rs.take k)), .int .i64 (C2 (rs.take k)), .int .i64 (C3 (rs.take k)), .int .i64 (C4 (rs.take k))] 25))) := hbx
      have HCX : Hid (counted (wr.alloc (.cells #[.int .i64 (C1 (rs.take k)), .int .i64 (C2 (rs.take k)), .int .i64 (C3 (rs.take k)), .int .i64 (C4 (rs.take k))] 25)) wr.heap.size (C1 (rs.take k)) (C2 (rs.take k)) (C3 (rs.take k)) (C4 (rs.take k))) := counted_new wr _ _ _ _ _
      have cK := fun wx => cT.out k wx
      have CK : Hid (∀ wx, Calls Tryz.prog 30 #[.agg #[.int .i64 (C1 (rs.take k)), .int .i64 (C2 (rs.take k)), .int .i64 (C3 (rs.take k)), .int .i64 (C4 (rs.take k))], .int .i64 u] wx fun e w' => e = .returned (.int .i64 (by_ u (rs.take k))) ∧ Below wx.heap.size wx w') := cK
      by_cases heq : by_ u (rs.take k) = a
      · have HEQ : Hid (onEdge rs u a = true ∧ upTo rs u a = rs.take k) := by
          show onEdge rs u a = true ∧ upTo rs u a = rs.take k
          cases hE : onEdge rs u a with
          | false => exact absurd heq (HE2.out hE k (by omega))
          | true =>
            obtain ⟨j, j1, j2, j3, j4⟩ := HE1.out hE
            have : j = k := by
              by_cases h1 : j < k
              · exact absurd j3 (HNO.out j h1)
              · by_cases h2 : k < j
                · exact absurd heq (j4 k h2)
                · omega
            subst this
            exact ⟨rfl, j2⟩
        rw [heq] at CK
        clear hown hec hbx cK heq hbw HNO
        go_wp2_with (first
          | (go_at_call 30; refine (CK.out _).mono ?_; rintro e w5 ⟨rfl, hb5⟩; have hg := HBX.out.trans (hb5.mono HBX.out.size); have HB5 : Hid (Below w.heap.size w w5) := HWR.out.trans (hg.mono HWR.out.size); have HK5 : Hid (counted w5 w.heap.size 0 0 0 0) := counted_below HKR.out hg; have hC5 := counted_below HCX.out hb5; have HC5 : Hid _ := hC5; obtain ⟨⟨m0, m1, m2, m3⟩, _⟩ := hC5; obtain ⟨⟨z0, z1, z2, z3⟩, y0, y1, y2, y3⟩ := counted_below HKR.out hg; clear hb5 hg)
          | fail)
        have hset := counted_set (m1 := C1 (rs.take k)) (m2 := C2 (rs.take k)) (m3 := C3 (rs.take k)) (m4 := C4 (rs.take k)) HK5.out
        obtain ⟨⟨s0, s1, s2, s3⟩, _⟩ := hset
        refine bodyPost_ret (v := .tuple #[.agg #[.int .i64 (C1 (rs.take k)), .int .i64 (C2 (rs.take k)), .int .i64 (C3 (rs.take k)), .int .i64 (C4 (rs.take k))], .int .i64 0]) (by simp [results, Tryz.results63, go_sem, s0, s1, s2, s3]) rfl ⟨?_, below_set4 HB5.out (Nat.le_refl _) _ _ _ _⟩
        rw [← HXA.out, ← HEA.out, HEQ.out.1, HEQ.out.2]; rfl
      · have hne : (by_ u (rs.take k) == a) = false := beq_eq_false_iff_ne.2 heq
        have HNE : Hid (by_ u (rs.take k) ≠ a) := heq
        obtain ⟨bx, hbxe⟩ : ∃ bx, by_ u (rs.take k) = bx := ⟨_, rfl⟩
        rw [hbxe] at CK hne
        clear hown hec hbx cK heq hbw hbxe
        go_wp2_with (first
          | (go_at_call 30; refine (CK.out _).mono ?_; rintro e w5 ⟨rfl, hb5⟩; have hg := HBX.out.trans (hb5.mono HBX.out.size); have HB5 : Hid (Below w3.heap.size w3 w5) := HBW.out.trans (hg.mono HBW.out.size); clear hb5 hg)
          | fail)
        go_roundw
        case rel =>
          refine ⟨k + 1, by go_num, by omega, fun j hj => ?_, HB5.out⟩
          by_cases h1 : j = k
          · subst h1; exact HNE.out
          · exact HNO.out j (by omega)
        case measure => simp [intOf]; omega
    · obtain rfl : k = rs.length + 1 := by omega
      have hkl : ¬ ((rs.length + 1 : Nat) : Int) < (rs.length : Int) + 1 := by omega
      have HEQ : Hid (onEdge rs u a = false) := by
        show onEdge rs u a = false
        cases hE : onEdge rs u a with
        | false => rfl
        | true =>
          obtain ⟨j, j1, j2, j3, j4⟩ := HE1.out hE
          exact absurd j3 (HNO.out j (by omega))
      clear hbw HNO
      obtain ⟨⟨z0, z1, z2, z3⟩, y0, y1, y2, y3⟩ := HKR.out
      go_wp2
      have hset := counted_set (m1 := 0) (m2 := 0) (m3 := 0) (m4 := 0) HKR.out
      obtain ⟨⟨s0, s1, s2, s3⟩, _⟩ := hset
      refine bodyPost_ret (v := .tuple #[.agg #[.int .i64 0, .int .i64 0, .int .i64 0, .int .i64 0], .int .i64 10]) (by simp [results, Tryz.results63, go_sem, s0, s1, s2, s3]) rfl ⟨?_, below_set4 HWR.out (Nat.le_refl _) _ _ _ _⟩
      rw [← HXA.out, ← HEA.out, HEQ.out]; rfl
end Go.Proofs.YtldhbjmillfjgabGreatDoor
