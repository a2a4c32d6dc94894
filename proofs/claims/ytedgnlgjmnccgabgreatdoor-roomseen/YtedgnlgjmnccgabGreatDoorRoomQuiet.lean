/-
  room.Send, Quiet.
-/
import Derived.Test.YtedgnlgjmnccgabGreatDoorRoomSettle
namespace Go.Proofs.YtedgnlgjmnccgabGreatDoor
open Go.RowKit Go.Maps
set_option linter.unusedVariables false
attribute [local go_sem] Oper.semAt_some yieldsUpon okUpon rmF0 rmF1 rmF2 rmF3

set_option maxRecDepth 100000 in
set_option maxHeartbeats 1000000 in
theorem rmSendC_ok {lo : Nat} {w : World} {r bx bmx : Nat} {bs : List Nat} {R : Rm} {l0 n : Int} {D : List (List UInt8)} (h : isRoom lo w r bx bmx bs R) (hi : Inv l0 n D R) {k : Nat} (hk : k < R.cl.length) (hbl : bs.length ≤ 1000) (hpot : potR R ≤ 100000000) :
    Calls Tryz.prog 64 #[.pointer (some ⟨r, 0, none⟩), .int .i64 (k : Int)] w fun e w' => e = .returned .nilIface ∧ isRoom lo w' r bx bmx bs (sendC R k) ∧ sameBut w w' (touchM lo w bmx) := by
  obtain ⟨b, hb, hcl⟩ := rm_client h hk
  obtain ⟨_, hck⟩ := hi.clk hk
  obtain ⟨k1, k2, k3⟩ := hi.counts (by omega)
  have CC : Hid _ := rmClient_ok h hb hbl
  by_cases hm : (clK R k).2.mine = []
  · have ha : askP R k = ⟨2, k, (clK R k).2.rev, 0, noSE⟩ := by unfold askP; rw [if_pos hm]
    have CA : Hid (∀ wx, Below w.heap.size w wx → _) := fun wx hb' => clAsks_none (isCl_below hcl hb') hm
    have CS : Hid (∀ wx, Below w.heap.size w wx → Calls Tryz.prog 130 #[.pointer (some ⟨r, 0, none⟩), pkV ⟨2, k, (clK R k).2.rev, 0, noSE⟩ (.slice none 0 0)] wx fun e w' => e = .returned (.tuple #[]) ∧ isRoom lo w' r bx bmx bs (sendC R k) ∧ sameBut w w' (touchM lo w bmx)) := fun wx hbw => by
      have hr := isRoom_below h hbw
      refine (rmSend_any hr ⟨2, k, (clK R k).2.rev, 0, noSE⟩ (.slice none 0 0) (opX_of_new (opN_none 0 wx)) (by omega) k3).mono ?_
      rintro e w' ⟨rfl, a, c⟩
      refine ⟨rfl, ?_, touchM_below hbw (touchF_M (c.touch hr))⟩
      unfold sendC
      rw [ha]; exact a
    unfold pkV noSE at CS
    generalize (clK R k).2.rev = rv at *
    clear h hi hk hb hcl hck hbl hpot k1 k2 k3 ha hm
    go_enter Tryz.func64, Tryz.ntmps64
    go_wp2_with (first
      | (go_at_call 62; refine Calls.mono CC.out ?_; rintro e w1 ⟨rfl, hb1⟩; have HB1 : Hid (Below w.heap.size w w1) := hb1; clear hb1)
      | (go_at_call 53; refine (CA.out _ HB1.out).mono ?_; rintro e w2 ⟨rfl, hb2⟩; have HB2 : Hid (Below w.heap.size w w2) := HB1.out.trans (hb2.mono HB1.out.size); clear hb2)
      | (go_at_call 130; refine (CS.out _ HB2.out).mono ?_; rintro e w3 ⟨rfl, h3, hs3⟩; have H3 : Hid _ := h3; have HS3 : Hid _ := hs3; clear h3 hs3)
      | fail)
    go_ret
    exact ⟨rfl, H3.out, HS3.out⟩
  · have ha : askP R k = ⟨1, k, (clK R k).2.rev, (clK R k).2.id, ⟨k, (clK R k).2.id, headM (clK R k).2⟩⟩ := by unfold askP; rw [if_neg hm]
    obtain ⟨hgd, hpu⟩ := good_head hck.ok hm
    have hsm := hck.small hi.lk
    obtain ⟨_, hhl⟩ := good_small hgd (by omega) (by omega)
    have CA : Hid (∀ wx, Below w.heap.size w wx → _) := fun wx hb' => clAsks_some (isCl_below hcl hb') hm (by omega)
    have CS : Hid (∀ wx v, Below w.heap.size w wx → opX lo wx v (headM (clK R k).2) → Calls Tryz.prog 130 #[.pointer (some ⟨r, 0, none⟩), pkV ⟨1, k, (clK R k).2.rev, (clK R k).2.id, ⟨k, (clK R k).2.id, headM (clK R k).2⟩⟩ v] wx fun e w' => e = .returned (.tuple #[]) ∧ isRoom lo w' r bx bmx bs (sendC R k) ∧ sameBut w w' (touchM lo w bmx)) := fun wx v hbw hv => by
      have hr := isRoom_below h hbw
      refine (rmSend_any hr ⟨1, k, (clK R k).2.rev, (clK R k).2.id, ⟨k, (clK R k).2.id, headM (clK R k).2⟩⟩ v hv (by omega) k3).mono ?_
      rintro e w' ⟨rfl, a, c⟩
      refine ⟨rfl, ?_, touchM_below hbw (touchF_M (c.touch hr))⟩
      unfold sendC
      rw [ha]; exact a
    unfold pkV at CS
    simp only at CS
    generalize (clK R k).2.rev = rv at *
    generalize (clK R k).2.id = ii at *
    generalize headM (clK R k).2 = hd at *
    clear h hi hk hb hcl hck hbl hpot k1 k2 k3 ha hm hgd hpu hsm hhl
    go_enter Tryz.func64, Tryz.ntmps64
    go_wp2_with (first
      | (go_at_call 62; refine Calls.mono CC.out ?_; rintro e w1 ⟨rfl, hb1⟩; have HB1 : Hid (Below w.heap.size w w1) := hb1; clear hb1)
      | (go_at_call 53; refine (CA.out _ HB1.out).mono ?_; rintro e w2 ⟨v2, rfl, ho, hb2⟩; have HO : Hid _ := ho lo; obtain ⟨pv, cv, rfl⟩ := opX_shape (ho lo); have HB2 : Hid (Below w.heap.size w w2) := HB1.out.trans (hb2.mono HB1.out.size); clear hb2 ho)
      | (go_at_call 130; refine (CS.out _ _ HB2.out HO.out).mono ?_; rintro e w3 ⟨rfl, h3, hs3⟩; have H3 : Hid _ := h3; have HS3 : Hid _ := hs3; clear h3 hs3)
      | fail)
    go_ret
    exact ⟨rfl, H3.out, HS3.out⟩
set_option maxRecDepth 100000 in
set_option maxHeartbeats 1000000 in
theorem rmQuiet_any {lo : Nat} {w : World} {r bx bmx : Nat} {bs : List Nat} {R : Rm} {l0 n : Int} {D : List (List UInt8)} (he : Env lo w) (h : isRoom lo w r bx bmx bs R) (hi : Inv l0 n D R) (hn : n ≤ 100000) (hbl : bs.length ≤ 1000) (hpot : potR R ≤ 90000000) :
    Calls Tryz.prog 71 #[.pointer (some ⟨r, 0, none⟩)] w fun e w' => e = .returned (.tuple #[]) ∧ isRoom lo w' r bx bmx bs (quietR l0 R) ∧ sameBut w w' (touchM lo w bmx) := by
  have HE : Hid (Env lo w) := he
  have hlen := h.cls.len
  have CS0 : Hid _ := rmSettle_any he h hi hn hbl (by omega)
  obtain ⟨D1, i1, _, i3, i4, i5⟩ := hi.settle
  have I1 : Hid (Inv l0 n D1 (settleR l0 R) ∧ (settleR l0 R).cl.length = bs.length ∧ potR (settleR l0 R) ≤ 90000000) := ⟨i1, i3.trans hlen.symm, by omega⟩
  have HQ : Hid (quietR l0 R = quietK l0 bs.length 0 (settleR l0 R)) := by show quietR l0 R = _; unfold quietR; rw [hlen]
  have hbi : (bs.length : Int) ≤ 1000 := by omega
  clear he h hi hpot i1 i3 i4 i5 hlen
  rw [HQ.out]
  generalize settleR l0 R = R1 at *
  obtain ⟨N, hN⟩ : ∃ N, bs.length = N := ⟨_, rfl⟩
  have HN : Hid (bs.length = N) := hN
  rw [hN] at hbi hbl
  go_enter Tryz.func71, Tryz.ntmps71
  go_wp2_with (first
    | (go_at_call 134; refine Calls.mono CS0.out ?_; rintro e w1 ⟨rfl, h1, hs1⟩; have H1 : Hid _ := h1; have HS1 : Hid _ := hs1; clear h1 hs1)
    | (go_at_call 128; refine (rmNow_any H1.out).mono ?_; rintro e w2 ⟨pc, cc, pf, cf, rfl, _, _, hb2⟩; have HB2 : Hid (Below w1.heap.size w1 w2) := hb2; clear hb2)
    | fail)
  try rw [hN]
  go_loopw [9] (fun i wr => ∃ k : Nat, i = .int .i64 k ∧ k ≤ N ∧ ∃ R' D', isRoom lo wr r bx bmx bs R' ∧ Inv l0 n D' R' ∧ R'.cl.length = N ∧ quietK l0 (N - k) k R' = quietK l0 N 0 R1 ∧ potR R' ≤ 90000000 + 400 * k ∧ sameBut w wr (touchM lo w bmx)) (fun i _ => N - (intOf i).toNat)
  case atStart => exact ⟨0, rfl, Nat.zero_le _, R1, D1, isRoom_below H1.out HB2.out, I1.out.1, I1.out.2.1.trans HN.out, rfl, I1.out.2.2, touchM_after HS1.out HB2.out⟩
  case round =>
    obtain ⟨k, rfl, hk, R', D', h1, h2, h3, h4, h5, h6⟩ := hrel
    have HH1 : Hid _ := h1
    have HH2 : Hid _ := h2
    have HH4 : Hid (R'.cl.length = N ∧ quietK l0 (N - k) k R' = quietK l0 N 0 R1 ∧ potR R' ≤ 90000000 + 400 * k) := ⟨h3, h4, h5⟩
    have HH6 : Hid _ := h6
    have hki : (k : Int) ≤ 1000 := by omega
    by_cases hlt : k < N
    · have hki2 : (k : Int) < (N : Int) := by omega
      have hkc : k < R'.cl.length := by omega
      have CSD : Hid _ := rmSendC_ok h1 h2 hkc (by omega) (by omega)
      have h2s := h2.sendK hkc
      have hps := pot_sendAny R' (askP R' k)
      have hps : potR (sendC R' k) ≤ potR R' + 400 := hps
      have hcs : (sendC R' k).cl.length = R'.cl.length := by unfold sendC; rw [(send_keeps _ _).2.2.2.2]
      obtain ⟨D2, j1, j2, j3, j4, j5⟩ := h2s.settle
      have J : Hid (Inv l0 n D2 (settleR l0 (sendC R' k)) ∧ (settleR l0 (sendC R' k)).cl.length = N ∧ potR (settleR l0 (sendC R' k)) ≤ 90000000 + 400 * (k + 1)) := ⟨j1, by omega, by omega⟩
      have HQS : Hid (quietK l0 (N - (k + 1)) (k + 1) (settleR l0 (sendC R' k)) = quietK l0 N 0 R1) := by
        show _ = _
        rw [← h4, show N - k = (N - (k + 1)) + 1 by omega]
        rfl
      have CST : Hid (∀ wx, isRoom lo wx r bx bmx bs (sendC R' k) → Env lo wx → Calls Tryz.prog 134 #[.pointer (some ⟨r, 0, none⟩)] wx fun e w' => e = .returned (.tuple #[]) ∧ isRoom lo w' r bx bmx bs (settleR l0 (sendC R' k)) ∧ sameBut wx w' (touchM lo wx bmx)) := fun wx hr he => rmSettle_any he hr h2s hn (by omega) (by omega)
      have HEW : Hid (Env lo wr) := HE.out.room h6
      clear h1 h2 h3 h4 h5 h6 hkc h2s hps hcs j1 j2 j3 j4 j5
      go_wp2_with (first
        | (go_at_call 64; refine Calls.mono CSD.out ?_; rintro e w3 ⟨rfl, h3, hs3⟩; have H3 : Hid _ := h3; have HS3 : Hid _ := touchM_trans HH6.out hs3; have HE3 : Hid (Env lo w3) := HEW.out.room hs3; clear h3 hs3)
        | (go_at_call 134; refine (CST.out _ H3.out HE3.out).mono ?_; rintro e w4 ⟨rfl, h4, hs4⟩; have H4 : Hid _ := h4; have HS4 : Hid _ := touchM_trans HS3.out hs4; clear h4 hs4)
        | fail)
      go_roundw
      case rel => exact ⟨k + 1, by go_num, by omega, _, D2, H4.out, J.out.1, J.out.2.1, HQS.out, J.out.2.2, HS4.out⟩
      case measure => simp [intOf]; omega
    · obtain rfl : k = N := by omega
      have hki2 : ¬ ((k : Int) < (k : Int)) := by omega
      clear h1 h2 h3 h4 h5 h6
      go_wp2
      go_end0
      have e := HH4.out.2.1
      rw [Nat.sub_self] at e
      rw [← e]
      exact ⟨rfl, HH1.out, HH6.out⟩
end Go.Proofs.YtedgnlgjmnccgabGreatDoor
