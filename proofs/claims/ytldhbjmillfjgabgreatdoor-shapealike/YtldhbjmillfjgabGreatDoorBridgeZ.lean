/-
  bridge.turn by any units: what comes, or a part that ends within a rune.
-/
import Derived.Test.YtldhbjmillfjgabGreatDoorBridge
import Derived.Test.YtldhbjmillfjgabGreatDoorTurnZ
namespace Go.Proofs.YtldhbjmillfjgabGreatDoor
open Go.RowKit
set_option linter.unusedVariables false
attribute [local go_sem] Oper.semAt_some

set_option maxRecDepth 100000 in
set_option maxHeartbeats 2000000 in
theorem steps1_err (s b : Nat) (rs : List Nat) (u v a h n : Int) (W : World) (k : stp W s b u v a h) (hu : unitOk u) (hv : unitOk v) (h0 : 0 ≤ a + n) (h1 : a + n ≤ by_ u rs) (hfine : by_ u (upTo rs u (a + n)) ≠ a + n)
    (hz : C1 rs ≤ 100000000) (hbig : by_ u rs ≤ 300000000)
    (hK : ∀ W', Below s W W' → Lib.Utf8Tabs 2 3 W' ∧ isRope W' b rs) :
    Calls Tryz.prog 164 #[.int .i64 n, .pointer (some ⟨s + 3, 0, none⟩), .pointer (some ⟨s, 0, none⟩), .pointer (some ⟨s + 1, 0, none⟩), .pointer (some ⟨s + 2, 0, none⟩), .pointer (some ⟨s + 4, 0, none⟩)] W fun e w' =>
      e = .returned (.tuple #[.int .i64 0, .iface 26 (.int .i64 10)]) ∧ Below s W w' := by
  have l3 := World.block_lt_of_cell? W _ k.a
  obtain ⟨k1, k2, k3, k4, k5, k6, k7⟩ := k
  have hw1 : IntKind.i64.wrap (a + n) = a + n := by rw [IntKind.wrap_i64]; omega
  have hb1 : Below s W (W.setCell ⟨s + 3, 0, none⟩ (.int .i64 (a + n))) := (Below.refl s W).setCell (p := ⟨s + 3, 0, none⟩) (Nat.le_add_right _ _) _
  obtain ⟨hT1, hR1⟩ := hK _ hb1
  have cC : Hid (Calls Tryz.prog 119 #[.pointer (some ⟨b, 0, none⟩), .int .i64 u, .int .i64 v, .int .i64 (a + n)] (W.setCell ⟨s + 3, 0, none⟩ (.int .i64 (a + n))) fun e w' => e = .returned (.tuple #[.int .i64 0, .iface 26 (.int .i64 10)]) ∧ Below (W.setCell ⟨s + 3, 0, none⟩ (.int .i64 (a + n))).heap.size (W.setCell ⟨s + 3, 0, none⟩ (.int .i64 (a + n))) w') := convert_ord b rs u v (a + n) hu hv h0 h1 (W.setCell ⟨s + 3, 0, none⟩ (.int .i64 (a + n))) hT1 hR1 hz _ rfl hfine
  have HB1 : Hid (Below s W (W.setCell ⟨s + 3, 0, none⟩ (.int .i64 (a + n)))) := hb1
  clear hfine hu hv h0 h1 hz hK hT1 hR1 hb1 hbig
  go_enter Tryz.func164, Tryz.ntmps164
  go_wp2_with (first
    | (go_at_call 119; refine Calls.mono cC.out ?_; rintro e w2 ⟨rfl, hb2⟩; have HB2 : Hid (Below s W w2) := HB1.out.trans (hb2.mono (by simp; omega)); clear hb2)
    | fail)
  go_ret2
  exact ⟨rfl, HB2.out⟩

/-- What comes of parts in another unit; none, where one ends within a rune. -/
def turnO (rs : List Nat) (u v : Int) (qs : List Pt) : List Pt := if (turnZ rs u v 0 qs).2 then (turnZ rs u v 0 qs).1 else []
def turnX (rs : List Nat) (u v : Int) (qs : List Pt) : Int := if (turnZ rs u v 0 qs).2 then 0 else 10
/-- Where the loop stands. -/
def brZ (ws : World) (b : Nat) (rs : List Nat) (u v : Int) (qs : List Pt) (k : Nat) (val : Value) (wr : World) : Prop :=
  ∃ L : List Pt, L.length = k ∧ turnZ rs u v 0 qs = (L ++ (turnZ rs u v (longP (qs.take k)) (qs.drop k)).1, (turnZ rs u v (longP (qs.take k)) (qs.drop k)).2) ∧
  k ≤ qs.length ∧ wr.ownsRow (ws.heap.size + 5) 50 3 val k (cellsP L) ∧ stp wr ws.heap.size b u v (longP (qs.take k)) (by_ v (upTo rs u (longP (qs.take k)))) ∧ Below ws.heap.size ws wr ∧ ws.heap.size + 5 ≤ wr.heap.size

set_option maxRecDepth 100000 in
set_option maxHeartbeats 8000000 in
theorem turnz_chk (b : Nat) (rs : List Nat) (u v : Int) (qs : List Pt) (val : Value) (w : World) (hu : unitOk u) (hv : unitOk v) (hT : Lib.Utf8Tabs 2 3 w) (hR : isRope w b rs) (hr : opAt w val qs) (hwf : ∀ q ∈ qs, wfP q) (hl : qs.length ≤ 1000) (hpl : ∀ q ∈ qs, q.put.length ≤ 10000000) (hz : C1 rs ≤ 1000000) (hbu : by_ u rs ≤ 10000000) (hbv : by_ v rs ≤ 10000000) (hc : chkE qs (by_ u rs) = 0) (hbw : b < w.heap.size) :
    Calls Tryz.prog 64 #[.pointer (some ⟨b, 0, none⟩), .int .i64 u, .int .i64 v, val] w fun e w' => ∃ v', e = .returned (.tuple #[v', errV (turnX rs u v qs)]) ∧ opAt w' v' (turnO rs u v qs) ∧ Below w.heap.size w w' := by
  obtain ⟨hp1, hp2, hp3⟩ := chkE_parts hc
  have cV : Hid (Calls Tryz.prog 119 #[.pointer (some ⟨b, 0, none⟩), .int .i64 u, .int .i64 v, .int .i64 0] w fun e w' => e = .returned (.tuple #[.int .i64 0, .nilIface]) ∧ Below w.heap.size w w') := by
    have := convert_any b rs u v 0 hu hv (Int.le_refl _) (by_pos u rs) w hT hR (by omega) [] (find_zero u rs) (by_nil u)
    rw [by_nil] at this
    exact this
  have cN : Hid (∀ wx, Below w.heap.size w wx → Calls Tryz.prog 20 #[.pointer (some ⟨b, 0, none⟩)] wx fun e w' => e = .returned (cntV rs) ∧ Below wx.heap.size wx w') := fun wx hb => ropecounts_any b rs wx (isRope_below hR hb)
  have cI : Hid (∀ wx, Calls Tryz.prog 19 #[cntV rs, .int .i64 u] wx fun e w' => e = .returned (.int .i64 (by_ u rs)) ∧ Below wx.heap.size wx w') := fun wx => In_any u rs wx
  have hup := by_pos u rs
  have cK : Hid (∀ wx, Below w.heap.size w wx → Calls Tryz.prog 68 #[val, .int .i64 (by_ u rs)] wx fun e w' => e = .returned .nilIface ∧ Below wx.heap.size wx w') := fun wx hb => by
    have := Check_any val qs (by_ u rs) wx (Go.Proofs.Utf8Tabs_below hT hb) (opAt_below hr hb (Nat.le_refl _)) hwf (by omega) (by omega)
    rw [hc] at this
    exact this
  have cS : Hid (∀ wx, Calls Tryz.prog 120 #[.pointer (some ⟨b, 0, none⟩), .int .i64 u, .int .i64 v] wx fun e w' => e = .returned (stepsV wx.heap.size) ∧ stp w' wx.heap.size b u v 0 0 ∧ Below wx.heap.size wx w' ∧ w'.heap.size = wx.heap.size + 5) := fun wx => bsteps_any b u v wx
  have HRW : Hid (isRope w b rs) := hR
  have HTW : Hid (Lib.Utf8Tabs 2 3 w) := hT
  have HOP : Hid (opAt w val qs) := hr
  have HP1 : Hid (∀ p ∈ qs, oneB p = true ∧ (scan p.put).2 = true) := hp1
  have HP2 : Hid (longP qs = by_ u rs) := hp2
  have HP3 : Hid (∀ q ∈ qs, 0 ≤ lenP q) := hp3
  have HPL : Hid (∀ q ∈ qs, q.put.length ≤ 10000000) := hpl
  have HU : Hid (unitOk u) := hu
  have HV : Hid (unitOk v) := hv
  have HZ : Hid (C1 rs ≤ 1000000) := hz
  have HBV : Hid (by_ v rs ≤ 10000000) := hbv
  obtain ⟨p, c, rfl, r1, r2, r3⟩ := hr
  obtain ⟨n, hn⟩ : ∃ n, qs.length = n := ⟨_, rfl⟩
  have HN : Hid (qs.length = n) := hn
  rw [hn] at r1 hl cK ⊢
  obtain ⟨i0, hi, hz0, hz1, hz2⟩ := info_parts info_part
  obtain ⟨RL, hRL⟩ : ∃ RL : Int, by_ u rs = RL := ⟨_, rfl⟩
  rw [hRL] at cI cK hbu hup
  have HRL : Hid (by_ u rs = RL) := hRL
  unfold cntV at cN cI
  unfold stepsV at cS
  clear hT hR hwf hp1 hp2 hp3 hpl hc hn r3 hRL hu hv hz hbv
  unfold maxLen at r2
  go_enter Tryz.func64, Tryz.ntmps64
  go_wp2_with (first
    | (go_at_call 119; refine Calls.mono cV.out ?_; rintro e w1 ⟨rfl, hb1⟩; have HB1 : Hid (Below w.heap.size w w1) := hb1; clear hb1)
    | (go_at_call 20; refine (cN.out _ HB1.out).mono ?_; rintro e w2 ⟨rfl, hb2⟩; have HB2 : Hid (Below w.heap.size w w2) := HB1.out.trans (hb2.mono HB1.out.size); clear hb2)
    | (go_at_call 19; refine (cI.out _).mono ?_; rintro e w3 ⟨rfl, hb3⟩; have HB3 : Hid (Below w.heap.size w w3) := HB2.out.trans (hb3.mono HB2.out.size); clear hb3)
    | (go_at_call 68; refine (cK.out _ HB3.out).mono ?_; rintro e w4 ⟨rfl, hb4⟩; have HB4 : Hid (Below w.heap.size w w4) := HB3.out.trans (hb4.mono HB3.out.size); clear hb4)
    | (go_at_call 120; refine (cS.out _).mono ?_; rintro e w5 ⟨rfl, hs5, hb5, hz5⟩; have HB5 : Hid (Below w4.heap.size w4 w5) := hb5; have HS5 : Hid (stp w5 w4.heap.size b u v 0 0) := hs5; clear hs5 hb5)
    | (at_make; refine wpList_make_own _ rfl _ _ 23 rfl (w4.heap.size + 5) 50 i0 (.agg #[.int .i64 0, .int .i64 0, .string ⟨#[]⟩]) 3 Tryz.underlying23 hi hz0 hz1 .i64 .i64 n n rfl rfl rfl (by rw [hz2]; omega) (by unfold maxLen; omega) (by omega) ?_)
    | fail)
  intro w6 hown6 hg6
  have HO6 : Hid (w6.ownsRow (w4.heap.size + 5) 50 3 (.slice (some ⟨w4.heap.size + 5, 0, none⟩) 0 n) 0 []) := hown6
  have HB6 : Hid (Below w4.heap.size w4 w6) := HB5.out.grown hg6 HB5.out.size fun k hk => by cases hk
  have HS6 : Hid (stp w6 w4.heap.size b u v 0 0) := stp_grown HS5.out hg6 fun k hk => by cases hk
  have hs6 := hg6.size
  rw [hz5] at hs6
  clear hown6 hg6 cV cN cI cK cS HB1 HB2 HB3 HB5 HS5
  go_wp2
  go_loopw [14, 47] (fun v14 i wr => ∃ (k : Nat), i = .int .i64 k ∧ brZ w4 b rs u v qs k v14 wr) (fun _ i _ => n - (intOf i).toNat)
  case atStart =>
    have e1 : longP (qs.take 0) = 0 := by simp [longP]
    refine ⟨0, rfl, [], rfl, ?_, Nat.zero_le _, HO6.out, ?_, HB6.out, hs6⟩
    · rw [e1]; rfl
    · rw [e1, upTo_zero, by_nil]
      exact HS6.out
  case round =>
    obtain ⟨k, rfl, L, hLk, htz, hk, hown, hst, hbw', hsz0⟩ := hrel
    obtain ⟨pv, cv, rfl⟩ := own_slice hown
    clear HO6 HB6 HS6
    by_cases hlt : k < n
    · have hkr : k < qs.length := by rw [HN.out]; exact hlt
      have hne : qs ≠ [] := by intro e; rw [e] at hkr; exact absurd hkr (Nat.not_lt_zero _)
      have HBW0 : Hid (Below w.heap.size w wr) := HB4.out.trans (hbw'.mono HB4.out.size)
      obtain ⟨p0, c0, hvv, _, _, hcell⟩ := HOP.out
      obtain ⟨b0, o, rfl, hb0, hcell⟩ := hcell hne
      obtain ⟨f0, f1, f2⟩ := hcell k qs[k] (List.getElem?_eq_getElem hkr)
      have g0 := (HBW0.out.cell (p := ⟨b0, o + k * 3, none⟩) hb0).trans f0
      have g1 := (HBW0.out.cell (p := ⟨b0, o + k * 3 + 1, none⟩) hb0).trans f1
      have g2 := (HBW0.out.cell (p := ⟨b0, o + k * 3 + 2, none⟩) hb0).trans f2
      obtain rfl : p = some ⟨b0, o, none⟩ := by injection hvv
      clear hvv hcell f0 f1 f2 hne
      have hqm : qs[k] ∈ qs := List.getElem_mem _
      have hsnd := (one_sound (HP1.out _ hqm).1).1
      have hplq := HPL.out _ hqm
      have hts : qs.take (k + 1) = qs.take k ++ [qs[k]] := List.take_succ_eq_append_getElem hkr
      have hA1' : longP (qs.take (k + 1)) = longP (qs.take k) + lenP qs[k] := by rw [hts, long_append]; simp [longP]
      have hA0 : 0 ≤ longP (qs.take k) := sum_pos fun q hq => HP3.out q (List.mem_of_mem_take hq)
      have hAN : longP (qs.take (k + 1)) ≤ RL := by
        have e2 : longP qs = longP (qs.take (k + 1)) + longP (qs.drop (k + 1)) := by rw [← long_append, List.take_append_drop]
        have := sum_pos fun q hq => HP3.out q (List.mem_of_mem_drop (i := k + 1) hq)
        have := HP2.out; have := HRL.out
        omega
      have hdk : qs.drop k = qs[k] :: qs.drop (k + 1) := List.drop_eq_getElem_cons hkr
      rw [hdk] at htz
      have HQD : Hid (∀ a, turnZ rs u v a (qs.drop (k + 1)) = turnZ rs u v a (qs.drop (k + 1))) := fun _ => rfl
      generalize qs[k] = q at *
      obtain ⟨K, D, U⟩ := q
      obtain ⟨A, hA⟩ : ∃ A, longP (qs.take k) = A := ⟨_, rfl⟩
      rw [hA] at hst hA1' hA0 htz
      have hld : lenP ⟨K, D, U⟩ = K + D := rfl
      rw [hld] at hA1'
      have HOW : Hid ((wr.alloc (.cells #[.int .i64 K, .int .i64 D, .string ⟨U.toArray⟩] 50)).ownsRow (w4.heap.size + 5) 50 3 (.slice pv k cv) k (cellsP L)) := hown.alloc _
      have HBW : Hid (Below w4.heap.size w4 (wr.alloc (.cells #[.int .i64 K, .int .i64 D, .string ⟨U.toArray⟩] 50))) := hbw'.alloc hbw'.size _
      obtain ⟨s1, s2⟩ := hsnd
      have s1 : 0 ≤ K := s1
      have s2 : 0 ≤ D := s2
      have hw0 : IntKind.i64.wrap (K + D) = K + D := by rw [IntKind.wrap_i64]; omega
      have hj : (k : Int) < (n : Int) := by omega
      have hbx : Below wr.heap.size wr (wr.alloc (.cells #[.int .i64 K, .int .i64 D, .string ⟨U.toArray⟩] 50)) := (Below.refl _ _).alloc (Nat.le_refl _) _
      have hRLe := HRL.out
      have hKK : ∀ W', Below w4.heap.size (wr.alloc (.cells #[.int .i64 K, .int .i64 D, .string ⟨U.toArray⟩] 50)) W' → Lib.Utf8Tabs 2 3 W' ∧ isRope W' b rs := fun W' hW' => ⟨Go.Proofs.Utf8Tabs_below HTW.out (HB4.out.trans ((HBW.out.trans hW').mono HB4.out.size)), isRope_below HRW.out (HB4.out.trans ((HBW.out.trans hW').mono HB4.out.size))⟩
      have hzz := HZ.out
      by_cases hed : onEdge rs u (A + (K + D)) = true
      · have hX3 : by_ u (upTo rs u (A + (K + D))) = A + (K + D) := of_decide_eq_true hed
        have hXle := upTo_le (v := v) rs (u := u) (a := A + (K + D)) (by omega)
        have hmono := upTo_mono (u := u) (v := v) rs (a := A) (b := A + (K + D)) (by omega) (by omega)
        have hp0 := by_pos v (upTo rs u A)
        have hbv := HBV.out
        have cX := steps1_any w4.heap.size b rs (upTo rs u (A + (K + D))) u v A (by_ v (upTo rs u A)) (K + D) _ (hst.below hbx) HU.out HV.out (by omega) (by omega) rfl hX3
          (hKK _ (Below.refl _ _)).1 (hKK _ (Below.refl _ _)).2 (by have := HB4.out.size; omega) (by omega) hp0 (by omega) (by omega) (by omega) hKK
        rw [turnZ, if_pos (by rw [hld]; exact hed)] at htz
        obtain ⟨XV, hXV⟩ : ∃ XV, by_ v (upTo rs u (A + (K + D))) = XV := ⟨_, rfl⟩
        obtain ⟨M, hM⟩ : ∃ M, XV - by_ v (upTo rs u A) = M := ⟨_, rfl⟩
        rw [hXV, hM] at cX
        rw [hld, hXV, hM] at htz
        have CX : Hid _ := cX
        have HA1 : Hid (longP (qs.take (k + 1)) = A + (K + D)) := hA1'
        have HXV : Hid (by_ v (upTo rs u (A + (K + D))) = XV) := hXV
        have HLL : Hid (L.length = k) := hLk
        have HTK0 : Hid (turnZ rs u v 0 qs = ((L ++ [unit1 M ⟨K, D, U⟩]) ++ (turnZ rs u v (longP (qs.take (k + 1))) (qs.drop (k + 1))).1, (turnZ rs u v (longP (qs.take (k + 1))) (qs.drop (k + 1))).2)) := by
          show turnZ rs u v 0 qs = _
          rw [htz, hA1']; simp
        have x0 : (wr.alloc (.cells #[.int .i64 K, .int .i64 D, .string ⟨U.toArray⟩] 50)).cell? ⟨wr.heap.size, 0, none⟩ = some (.int .i64 K) := by simp [go_sem]
        have x1 : (wr.alloc (.cells #[.int .i64 K, .int .i64 D, .string ⟨U.toArray⟩] 50)).cell? ⟨wr.heap.size, 1, none⟩ = some (.int .i64 D) := by simp [go_sem]
        have x2 : (wr.alloc (.cells #[.int .i64 K, .int .i64 D, .string ⟨U.toArray⟩] 50)).cell? ⟨wr.heap.size, 2, none⟩ = some (.string ⟨U.toArray⟩) := by simp [go_sem]
        have hne3 : wr.heap.size ≠ w4.heap.size + 3 := by omega
        have hne4 : wr.heap.size ≠ w4.heap.size + 4 := by omega
        have hltw : wr.heap.size < (wr.alloc (.cells #[.int .i64 K, .int .i64 D, .string ⟨U.toArray⟩] 50)).heap.size := by simp
        have hsz0 : w4.heap.size + 5 ≤ (wr.alloc (.cells #[.int .i64 K, .int .i64 D, .string ⟨U.toArray⟩] 50)).heap.size := by rw [World.size_alloc]; omega
        clear hown hst hbw' hXle hmono cX hA1' htz hA hbx hAN hts hqm hkr hp0 hbv hX3 hed hKK hRLe hXV hM hLk hdk HQD
        by_cases hK : 0 < K
        · have HTK := HTK0
          have e1 : unit1 M ⟨K, D, U⟩ = ⟨M, 0, []⟩ := by unfold unit1; rw [if_pos hK]
          rw [e1] at HTK
          clear e1 HTK0
          go_wp2_with (first
            | (go_at_call 164; refine Calls.mono CX.out ?_; rintro e w7 ⟨rfl, hs7, hb7, hz7, ho7, hk7⟩; have HS7 : Hid (stp w7 w4.heap.size b u v (A + (K + D)) XV) := hs7; have HB7 : Hid (Below w4.heap.size w4 w7) := HBW.out.trans hb7; have HO7 : Hid (w7.ownsRow (w4.heap.size + 5) 50 3 (.slice pv k cv) k (cellsP L)) := ho7 _ _ _ _ _ _ (Nat.le_refl _) hsz0 HOW.out; have y0 := (cellOnF (hk7 wr.heap.size hne3 hne4 hltw) 0).trans x0; have y1 := (cellOnF (hk7 wr.heap.size hne3 hne4 hltw) 1).trans x1; have y2 := (cellOnF (hk7 wr.heap.size hne3 hne4 hltw) 2).trans x2; have hs57 := sz_le hz7; clear hs7 hb7 ho7 hk7)
            | (at_builtin; refine wpList_append_own _ rfl _ _ 23 rfl (w4.heap.size + 5) 50 i0 (.agg #[.int .i64 0, .int .i64 0, .string ⟨#[]⟩]) 3 32 Tryz.underlying23 hi hz0 hz1 hz2 rfl (by decide) _ _ _ rfl (HO7.out.alloc _) ⟨w7.heap.size, 0, none⟩ 1 1 (partCells ⟨M, 0, []⟩) rfl rfl (cells_newN _ _ (by first | rfl | simp) _ _) (partCells_one _) (by unfold maxLen; omega) (by omega) (by first | omega | (simp; omega)) ?_)
            | fail)
          intro v' w' hown' hg' _
          obtain ⟨p', c', rfl⟩ := own_slice hown'
          have HB9 : Hid (Below w4.heap.size w4 w') := (HB7.out.alloc HB7.out.size _).grown hg' (by simp; omega) fun k hk => by have := (HO7.out.lt k hk).1; omega
          have HS9 : Hid (stp w' w4.heap.size b u v (A + (K + D)) XV) := stp_grown (HS7.out.below ((Below.refl _ _).alloc (Nat.le_refl _) _)) hg' fun k hk => (HO7.out.lt k hk).1
          have HO9 : Hid (w'.ownsRow (w4.heap.size + 5) 50 3 (.slice p' (k + 1) c') (k + 1) (cellsP L ++ partCells ⟨M, 0, []⟩)) := hown'
          have hs9 := hg'.size
          rw [World.size_alloc] at hs9
          clear hown' hg'
          go_wp2
          go_roundw
          case rel =>
            refine ⟨k + 1, by go_num, L ++ [⟨M, 0, []⟩], by rw [List.length_append, HLL.out]; rfl, HTK.out, ?_, ?_, ?_, HB9.out, by omega⟩
            · have := HN.out; omega
            · rw [cellsP_snoc]
              exact HO9.out
            · rw [HA1.out, HXV.out]; exact HS9.out
          case measure => simp [intOf]; omega

        · by_cases hD : 0 < D
          · have HTK := HTK0
            have e1 : unit1 M ⟨K, D, U⟩ = ⟨0, M, []⟩ := by unfold unit1; rw [if_neg hK, if_pos hD]
            rw [e1] at HTK
            clear e1 HTK0
            go_wp2_with (first
              | (go_at_call 164; refine Calls.mono CX.out ?_; rintro e w7 ⟨rfl, hs7, hb7, hz7, ho7, hk7⟩; have HS7 : Hid (stp w7 w4.heap.size b u v (A + (K + D)) XV) := hs7; have HB7 : Hid (Below w4.heap.size w4 w7) := HBW.out.trans hb7; have HO7 : Hid (w7.ownsRow (w4.heap.size + 5) 50 3 (.slice pv k cv) k (cellsP L)) := ho7 _ _ _ _ _ _ (Nat.le_refl _) hsz0 HOW.out; have y0 := (cellOnF (hk7 wr.heap.size hne3 hne4 hltw) 0).trans x0; have y1 := (cellOnF (hk7 wr.heap.size hne3 hne4 hltw) 1).trans x1; have y2 := (cellOnF (hk7 wr.heap.size hne3 hne4 hltw) 2).trans x2; have hs57 := sz_le hz7; clear hs7 hb7 ho7 hk7)
              | (at_builtin; refine wpList_append_own _ rfl _ _ 23 rfl (w4.heap.size + 5) 50 i0 (.agg #[.int .i64 0, .int .i64 0, .string ⟨#[]⟩]) 3 32 Tryz.underlying23 hi hz0 hz1 hz2 rfl (by decide) _ _ _ rfl (HO7.out.alloc _) ⟨w7.heap.size, 0, none⟩ 1 1 (partCells ⟨0, M, []⟩) rfl rfl (cells_newN _ _ (by first | rfl | simp) _ _) (partCells_one _) (by unfold maxLen; omega) (by omega) (by first | omega | (simp; omega)) ?_)
              | fail)
            intro v' w' hown' hg' _
            obtain ⟨p', c', rfl⟩ := own_slice hown'
            have HB9 : Hid (Below w4.heap.size w4 w') := (HB7.out.alloc HB7.out.size _).grown hg' (by simp; omega) fun k hk => by have := (HO7.out.lt k hk).1; omega
            have HS9 : Hid (stp w' w4.heap.size b u v (A + (K + D)) XV) := stp_grown (HS7.out.below ((Below.refl _ _).alloc (Nat.le_refl _) _)) hg' fun k hk => (HO7.out.lt k hk).1
            have HO9 : Hid (w'.ownsRow (w4.heap.size + 5) 50 3 (.slice p' (k + 1) c') (k + 1) (cellsP L ++ partCells ⟨0, M, []⟩)) := hown'
            have hs9 := hg'.size
            rw [World.size_alloc] at hs9
            clear hown' hg'
            go_wp2
            go_roundw
            case rel =>
              refine ⟨k + 1, by go_num, L ++ [⟨0, M, []⟩], by rw [List.length_append, HLL.out]; rfl, HTK.out, ?_, ?_, ?_, HB9.out, by omega⟩
              · have := HN.out; omega
              · rw [cellsP_snoc]
                exact HO9.out
              · rw [HA1.out, HXV.out]; exact HS9.out
            case measure => simp [intOf]; omega

          · have HTK := HTK0
            have e1 : unit1 M ⟨K, D, U⟩ = ⟨0, 0, U⟩ := by unfold unit1; rw [if_neg hK, if_neg hD]
            rw [e1] at HTK
            clear e1 HTK0
            have CL : Hid (∀ wx, Calls Tryz.prog 88 #[.string ⟨U.toArray⟩] wx fun e w' => e = .returned (.string ⟨U.toArray⟩) ∧ Below wx.heap.size wx w') := fun wx => clone_any U hplq wx
            go_wp2_with (first
              | (go_at_call 164; refine Calls.mono CX.out ?_; rintro e w7 ⟨rfl, hs7, hb7, hz7, ho7, hk7⟩; have HS7 : Hid (stp w7 w4.heap.size b u v (A + (K + D)) XV) := hs7; have HB7 : Hid (Below w4.heap.size w4 w7) := HBW.out.trans hb7; have HO7 : Hid (w7.ownsRow (w4.heap.size + 5) 50 3 (.slice pv k cv) k (cellsP L)) := ho7 _ _ _ _ _ _ (Nat.le_refl _) hsz0 HOW.out; have y0 := (cellOnF (hk7 wr.heap.size hne3 hne4 hltw) 0).trans x0; have y1 := (cellOnF (hk7 wr.heap.size hne3 hne4 hltw) 1).trans x1; have y2 := (cellOnF (hk7 wr.heap.size hne3 hne4 hltw) 2).trans x2; have hs57 := sz_le hz7; clear hs7 hb7 ho7 hk7)
              | (go_at_call 88; refine (CL.out _).mono ?_; rintro e w8 ⟨rfl, hb8⟩; have HB8 : Hid (Below w4.heap.size w4 w8) := HB7.out.trans (hb8.mono HB7.out.size); have HS8 : Hid (stp w8 w4.heap.size b u v (A + (K + D)) XV) := HS7.out.below hb8; have HO8 : Hid (w8.ownsRow (w4.heap.size + 5) 50 3 (.slice pv k cv) k (cellsP L)) := own_below HO7.out hb8; have hs58 := hb8.size; clear hb8)
              | (at_builtin; refine wpList_append_own _ rfl _ _ 23 rfl (w4.heap.size + 5) 50 i0 (.agg #[.int .i64 0, .int .i64 0, .string ⟨#[]⟩]) 3 32 Tryz.underlying23 hi hz0 hz1 hz2 rfl (by decide) _ _ _ rfl (HO8.out.alloc _) ⟨w8.heap.size, 0, none⟩ 1 1 (partCells ⟨0, 0, U⟩) rfl rfl (cells_newN _ _ (by first | rfl | simp) _ _) (partCells_one _) (by unfold maxLen; omega) (by omega) (by first | omega | (simp; omega)) ?_)
              | fail)
            intro v' w' hown' hg' _
            obtain ⟨p', c', rfl⟩ := own_slice hown'
            have HB9 : Hid (Below w4.heap.size w4 w') := (HB8.out.alloc HB8.out.size _).grown hg' (by simp; omega) fun k hk => by have := (HO8.out.lt k hk).1; omega
            have HS9 : Hid (stp w' w4.heap.size b u v (A + (K + D)) XV) := stp_grown (HS8.out.below ((Below.refl _ _).alloc (Nat.le_refl _) _)) hg' fun k hk => (HO8.out.lt k hk).1
            have HO9 : Hid (w'.ownsRow (w4.heap.size + 5) 50 3 (.slice p' (k + 1) c') (k + 1) (cellsP L ++ partCells ⟨0, 0, U⟩)) := hown'
            have hs9 := hg'.size
            rw [World.size_alloc] at hs9
            clear hown' hg'
            go_wp2
            go_roundw
            case rel =>
              refine ⟨k + 1, by go_num, L ++ [⟨0, 0, U⟩], by rw [List.length_append, HLL.out]; rfl, HTK.out, ?_, ?_, ?_, HB9.out, by omega⟩
              · have := HN.out; omega
              · rw [cellsP_snoc]
                exact HO9.out
              · rw [HA1.out, HXV.out]; exact HS9.out
            case measure => simp [intOf]; omega

      · have hed : onEdge rs u (A + (K + D)) = false := Bool.eq_false_iff.2 hed
        have hX3 : by_ u (upTo rs u (A + (K + D))) ≠ A + (K + D) := of_decide_eq_false hed
        have cX := steps1_err w4.heap.size b rs u v A (by_ v (upTo rs u A)) (K + D) _ (hst.below hbx) HU.out HV.out (by omega) (by omega) hX3 (by omega) (by omega) hKK
        have CX : Hid _ := cX
        rw [turnZ, if_neg (by rw [hld, hed]; decide)] at htz
        have e2 : (turnZ rs u v 0 qs).2 = false := by rw [htz]
        have HRX : Hid (turnX rs u v qs = 10 ∧ turnO rs u v qs = []) := by
          show turnX rs u v qs = 10 ∧ turnO rs u v qs = []
          unfold turnX turnO
          rw [e2]; exact ⟨rfl, rfl⟩
        clear hown hst hbw' cX hA1' htz hA hbx hAN hts hqm hkr hX3 hed hKK hRLe e2 hLk hdk HQD
        go_wp2_with (first
          | (go_at_call 164; refine Calls.mono CX.out ?_; rintro e w7 ⟨rfl, hb7⟩; have HB7 : Hid (Below w.heap.size w w7) := HB4.out.trans ((HBW.out.trans hb7).mono HB4.out.size); clear hb7)
          | fail)
        go_ret2
        refine ⟨.slice none 0 0, ?_, ?_, HB7.out⟩
        · rw [HRX.out.1]; rfl
        · rw [HRX.out.2]; exact ⟨none, 0, rfl, Nat.le_refl _, Nat.zero_le _, fun h => absurd rfl h⟩
    · obtain rfl : k = n := by have := HN.out; omega
      have e : qs.drop k = [] := List.drop_of_length_le (by rw [HN.out]; exact Nat.le_refl _)
      rw [e] at htz
      have htz2 : turnZ rs u v 0 qs = (L, true) := by rw [htz]; simp [turnZ]
      have HRX : Hid (turnX rs u v qs = 0 ∧ turnO rs u v qs = L) := by
        show turnX rs u v qs = 0 ∧ turnO rs u v qs = L
        unfold turnX turnO
        rw [htz2]; exact ⟨rfl, rfl⟩
      have HO : Hid (wr.ownsRow (w4.heap.size + 5) 50 3 (.slice pv k cv) k (cellsP L)) := hown
      have HB : Hid (Below w.heap.size w wr) := HB4.out.trans (hbw'.mono HB4.out.size)
      have hop : opAt wr (.slice pv k cv) L := by
        have := HO.out
        rw [← hLk] at this ⊢
        exact opAt_own this
      have HOPW : Hid (opAt wr (.slice pv k cv) L) := hop
      clear hop hown e hst hbw' htz htz2 hLk
      go_wp2
      go_ret2
      refine ⟨.slice pv k cv, ?_, ?_, HB.out⟩
      · rw [HRX.out.1]; rfl
      · rw [HRX.out.2]; exact HOPW.out
end Go.Proofs.YtldhbjmillfjgabGreatDoor
