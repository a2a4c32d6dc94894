/-
  rosettakeep.ShapeAlike: what an operation does in its own form.
-/
import Derived.Test.YtldhbjmillfjgabGreatDoorAlikeEdge
namespace Go.Proofs.YtldhbjmillfjgabGreatDoor
open Go.RowKit
set_option linter.unusedVariables false
attribute [local go_sem] Oper.semAt_some

set_option maxRecDepth 100000 in
set_option maxHeartbeats 4000000 in
theorem alike_doc (u0 : Int) (hu0 : -9223372036854775808 ≤ u0 ∧ u0 < 9223372036854775808) (s : List UInt8) (hd : isDoc s) (v : Value) (ps : List Pt) (raw : Bool) (w : World) (hg : asLaid w) (hT : Lib.Utf8Tabs 2 3 w) (hr : opAt w v ps) (hwf : playWf ps) (hl : ps.length ≤ 60) :
    Calls Tryz.prog 4 #[.int .i64 u0, .string ⟨s.toArray⟩, v, .bool raw] w fun e w' => e = .returned (.bool true) ∧ Below w.heap.size w w' := by
  have HG : Hid (asLaid w) := hg
  have HT : Hid (Lib.Utf8Tabs 2 3 w) := hT
  have HOP : Hid (opAt w v ps) := hr
  have HWF : Hid (playWf ps) := hwf
  obtain ⟨hd1, hd2⟩ := hd
  obtain ⟨rs, hrs⟩ : ∃ rs, runesOf s = rs := ⟨_, rfl⟩
  have he : encs rs = s := by rw [← hrs]; exact encs_runesOf hd1
  have hR : ∀ r ∈ rs, isRune r := fun r h => runesOf_rune (by rw [hrs]; exact h)
  have hC1 : C1 rs = s.length := by rw [C1_len, he]
  have hS : (ByteArray.mk s.toArray) = bytesOf rs := by unfold bytesOf; rw [he]
  have HR : Hid (∀ r ∈ rs, isRune r) := hR
  have HC : Hid (C1 rs ≤ 1500) := show C1 rs ≤ 1500 by omega
  obtain ⟨un, hun, huv⟩ : ∃ un : Nat, unitN un ∧ 1 + pk u0 3 = (un : Int) := by
    have := pk_bd u0 3 (by decide)
    refine ⟨(1 + pk u0 3).toNat, ?_, by omega⟩
    unfold unitN; omega
  have HUN : Hid (unitN un) := hun
  have HUO : Hid (unitOk (un : Int)) := unitN_ok hun
  have hunb : (un : Int) ≤ 3 := by unfold unitN at hun; omega
  have cS : Hid _ := shaped_any w hT
  have cP : Hid (∀ wx, Calls Tryz.prog 16 #[.int .i64 u0, .int .i64 3] wx fun e w' => e = .returned (.int .i64 (pk u0 3)) ∧ Below wx.heap.size wx w') := fun wx => pick_any u0 3 hu0 (by decide) (by decide) wx
  have cD : Hid (∀ wx, Below w.heap.size w wx → Calls Tryz.prog 17 #[.string (bytesOf rs)] wx fun e w' => ∃ b, e = .returned (.pointer (some ⟨b, 0, none⟩)) ∧ isRope w' b rs ∧ Below wx.heap.size wx w') := fun wx hb => by
    have := document_some s ⟨hd1, hd2⟩ wx (Go.Proofs.Utf8Tabs_below HT.out hb)
    rw [hS, hrs] at this
    exact this
  have cC : Hid (∀ b wx, isRope wx b rs → Calls Tryz.prog 20 #[.pointer (some ⟨b, 0, none⟩)] wx fun e w' => e = .returned (.agg #[.int .i64 (C1 rs), .int .i64 (C2 rs), .int .i64 (C3 rs), .int .i64 (C4 rs)]) ∧ Below wx.heap.size wx w') := fun b wx h => ropecounts_any b rs wx h
  have cI : Hid (∀ wx, Calls Tryz.prog 19 #[.agg #[.int .i64 (C1 rs), .int .i64 (C2 rs), .int .i64 (C3 rs), .int .i64 (C4 rs)], .int .i64 (un : Int)] wx fun e w' => e = .returned (.int .i64 (by_ (un : Int) rs)) ∧ Below wx.heap.size wx w') := fun wx => In_any (un : Int) rs wx
  have hby0 := by_pos (un : Int) rs
  have hby1 := by_le3 (unitN_ok hun) rs
  have cF : Hid (∀ wx, Below w.heap.size w wx → Calls Tryz.prog 18 #[v, .int .i64 (by_ (un : Int) rs)] wx fun e w' => ∃ p c qs, e = .returned (.slice p qs.length c) ∧ opAt w' (.slice p qs.length c) qs ∧ qs.length ≤ 61 ∧ playWf qs ∧ Below wx.heap.size wx w') := fun wx hb => by
    refine (fit_any v ps (by_ (un : Int) rs) wx (Go.Proofs.Utf8Tabs_below HT.out hb) (opAt_below HOP.out hb (Nat.le_refl _)) HWF.out hby0 (by have := HC.out; omega)).mono ?_
    rintro e w' ⟨v', qs, rfl, ho, hl, hq, hb'⟩
    obtain ⟨p, c, rfl⟩ := own_slice ho
    refine ⟨p, c, qs, rfl, opAt_own ho, hl, fun q hqm h150 => ?_, hb'⟩
    obtain ⟨s1, s2, s3, s4, s5⟩ := hq q hqm
    have := HC.out
    exact ⟨by omega, by omega, by omega, by omega, by omega⟩
  rw [hS]
  obtain ⟨pv, cv, rfl, r1, r2, _⟩ := hr
  unfold maxLen at r2
  have hl60 : ¬ (60 : Int) < (ps.length : Int) := by omega
  have HP : Hid (ps.length ≤ 61) := show ps.length ≤ 61 by omega
  have hpb := pk_bd u0 3 (by decide)
  clear hT hg hwf hd1 hd2 he hR hC1 hrs hS hun hby1 hu0
  generalize pk u0 3 = P at *
  go_enter Tryz.func4, Tryz.ntmps4
  go_upto_if 35 with (first
    | (go_at_call 15; refine Calls.mono cS.out ?_; rintro e w1 ⟨rfl, hb1⟩; have HB1 : Hid (Below w.heap.size w w1) := hb1; clear hb1)
    | (go_at_call 16; refine (cP.out _).mono ?_; rintro e w2 ⟨rfl, hb2⟩; have HB2 : Hid (Below w.heap.size w w2) := HB1.out.trans (hb2.mono HB1.out.size); clear hb2)
    | (go_at_call 17; refine (cD.out _ HB2.out).mono ?_; rintro e w3 ⟨br, rfl, hro, hb3⟩; have HB3 : Hid (Below w.heap.size w w3) := HB2.out.trans (hb3.mono HB2.out.size); have HRO : Hid (isRope w3 br rs) := hro; clear hb3 hro)
    | fail)
  clear cS cP cD
  go_cut [2] from 36 to 41 (fun v2 wc => ∃ p c qs, v2 = .slice p qs.length c ∧ opAt wc (.slice p qs.length c) qs ∧ qs.length ≤ 61 ∧ playWf qs ∧ Below w3.heap.size w3 wc)
  case first =>
    cases raw with
    | true =>
      go_wp2
      go_meet
      case rel => exact ⟨pv, cv, ps, rfl, opAt_below HOP.out HB3.out (Nat.le_refl _), HP.out, HWF.out, Below.refl _ _⟩
    | false =>
      go_wp2_with (first
        | (go_at_call 20; refine (cC.out _ _ HRO.out).mono ?_; rintro e w4 ⟨rfl, hb4⟩; have HB4 : Hid (Below w3.heap.size w3 w4) := hb4; clear hb4)
        | (go_at_call 19; refine (cI.out _).mono ?_; rintro e w5 ⟨rfl, hb5⟩; have HB5 : Hid (Below w3.heap.size w3 w5) := HB4.out.trans (hb5.mono HB4.out.size); clear hb5)
        | (go_at_call 18; refine (cF.out _ (HB3.out.trans (HB5.out.mono HB3.out.size))).mono ?_; rintro e w6 ⟨p6, c6, qs, rfl, ho6, hl6, hw6, hb6⟩; have HB6 : Hid (Below w3.heap.size w3 w6) := HB5.out.trans (hb6.mono HB5.out.size); have HO6 : Hid (opAt w6 (.slice p6 qs.length c6) qs) := ho6; have HW6 : Hid (playWf qs) := hw6; have HL6 : Hid (qs.length ≤ 61) := hl6; clear hb6 ho6 hw6 hl6)
        | fail)
      go_meet
      case rel => exact ⟨p6, c6, qs, rfl, HO6.out, HL6.out, HW6.out, HB6.out⟩
  case rest =>
    obtain ⟨p2, c2, qs, rfl, hop2, hl2, hwf2, hbc⟩ := hcut
    have HRC : Hid (isRope wc br rs) := isRope_below HRO.out hbc
    have HBC : Hid (Below w.heap.size w wc) := HB3.out.trans (hbc.mono HB3.out.size)
    have HQ : Hid (opAt wc (.slice p2 qs.length c2) qs) := hop2
    have HQL : Hid (qs.length ≤ 61) := hl2
    have HQW : Hid (playWf qs) := hwf2
    have hqc : qs.length ≤ c2 ∧ c2 ≤ maxLen := by obtain ⟨p', c', e, e2, e3, _⟩ := hop2; injection e with _ _ e4; subst e4; exact ⟨e2, e3⟩
    obtain ⟨hqc1, hqc2⟩ := hqc
    unfold maxLen at hqc2
    obtain ⟨N, hN⟩ : ∃ N, qs.length = N := ⟨_, rfl⟩
    rw [hN] at hqc1 hl2 ⊢
    have HN : Hid (qs.length = N) := hN
    have hN61 : (N : Int) ≤ 61 := by omega
    clear hop2 hwf2 hbc cC cI cF HB3 HRO HP HWF hN
    go_wp2
    go_loopw [10] (fun i wr => ∃ x : Nat, i = .int .i64 x ∧ x ≤ N ∧ wr = wc ∧ ∀ j, j < x → ∀ q, qs[j]? = some q → q.put.length ≤ 150) (fun i _ => N - (intOf i).toNat)
    case atStart => exact ⟨0, rfl, Nat.zero_le _, rfl, fun j hj => absurd hj (Nat.not_lt_zero _)⟩
    case round =>
      obtain ⟨x, rfl, hxN, rfl, hall⟩ := hrel
      have HALL : Hid (∀ j, j < x → ∀ q, qs[j]? = some q → q.put.length ≤ 150) := hall
      clear hall
      by_cases hlt : x < N
      case pos =>
        have hxr : x < qs.length := by rw [HN.out]; exact hlt
        have hne : qs ≠ [] := by intro e; rw [e] at hxr; exact absurd hxr (Nat.not_lt_zero _)
        obtain ⟨p0, c0, hvv, _, _, hcell⟩ := HQ.out
        obtain ⟨b0, o, rfl, hb0, hcell⟩ := hcell hne
        obtain ⟨f0, f1, f2⟩ := hcell x qs[x] (List.getElem?_eq_getElem hxr)
        obtain rfl : p2 = some ⟨b0, o, none⟩ := by injection hvv
        have hxi : (x : Int) < (N : Int) := by omega
        have HXQ : Hid (qs[x]? = some qs[x]) := List.getElem?_eq_getElem hxr
        clear hvv hcell f0 f1 hne
        generalize qs[x] = q at *
        have hUz : (ByteArray.mk q.put.toArray).size = q.put.length := by simp [ByteArray.size]
        by_cases hp : 150 < q.put.length
        case pos =>
          have hp' : (150 : Int) < (q.put.length : Int) := by omega
          go_wp2
          go_ret
          exact ⟨rfl, HBC.out⟩
        case neg =>
          have hp' : ¬ (150 : Int) < (q.put.length : Int) := by omega
          have HNP : Hid (q.put.length ≤ 150) := show q.put.length ≤ 150 by omega
          clear hp
          go_wp2
          refine ⟨⟨x + 1, by go_num, hlt, trivial, fun j hj q' hq' => ?_⟩, by simp [intOf]; omega⟩
          rcases Nat.lt_or_ge j x with h | h
          · exact HALL.out j h q' hq'
          · obtain rfl : j = x := by omega
            rw [HXQ.out] at hq'
            exact Option.some.inj hq' ▸ HNP.out
      case neg =>
        obtain rfl : x = N := by omega
        have hxi : ¬ ((x : Int) < (x : Int)) := by omega
        have hq150 : ∀ q ∈ qs, q.put.length ≤ 150 := fun q hq => by
          obtain ⟨j, hj, e⟩ := List.mem_iff_getElem.1 hq
          exact HALL.out j (by rw [← HN.out]; exact hj) q (by rw [List.getElem?_eq_getElem hj, e])
        have hwq : ∀ q ∈ qs, wfP q := fun q hq => HQW.out q hq (hq150 q hq)
        have HLB : Hid (Lib.Utf8Tabs 2 3 wr) := Go.Proofs.Utf8Tabs_below HT.out HBC.out
        have cN : Hid (Calls Tryz.prog 21 #[.int .i64 (un : Int), .string (bytesOf rs)] wr fun e w' => ∃ b, e = .returned (.tuple #[.pointer (some ⟨b, 0, none⟩), .nilIface]) ∧ isShape w' b un rs ∧ wr.heap.size ≤ b ∧ Below wr.heap.size wr w') := shnew_good un HUN.out rs HR.out (by have := HC.out; omega) wr HLB.out
        have cA : Hid (∀ b wx, Below wr.heap.size wr wx → isShape wx b un rs → Calls Tryz.prog 22 #[.pointer (some ⟨b, 0, none⟩), .slice p2 qs.length c2] wx fun e w' => e = .returned (errV (shE (un : Int) rs qs)) ∧ isShape w' b un (shR (un : Int) rs qs) ∧ Below b wx w') := fun b wx hb hs => shapply_any b un HUN.out rs qs _ wx hs HR.out (by have := HC.out; omega) (Go.Proofs.Utf8Tabs_below HLB.out hb) (opAt_below HQ.out hb (Nat.le_refl _)) hwq (by have := HQL.out; omega) (fun p hp => by have := hq150 p hp; omega)
        have cTo : Hid (∀ wx, Below wr.heap.size wr wx → Calls Tryz.prog 11 #[.pointer (some ⟨br, 0, none⟩), .int .i64 (un : Int), .slice p2 qs.length c2] wx fun e w' => ∃ p3 c3, e = .returned (.tuple #[.slice p3 (tzO rs (un : Int) 1 qs).length c3, errV (tzE rs (un : Int) 1 qs)]) ∧ opAt w' (.slice p3 (tzO rs (un : Int) 1 qs).length c3) (tzO rs (un : Int) 1 qs) ∧ Below wx.heap.size wx w') := fun wx hb => by
          refine (to_all br rs (un : Int) qs _ wx (Go.Proofs.Utf8Tabs_below HLB.out hb) (isRope_below HRC.out hb) (opAt_below HQ.out hb (Nat.le_refl _)) hwq (by have := HQL.out; omega) (fun p hp => by have := hq150 p hp; omega) (by have := HC.out; omega)).mono ?_
          rintro e w' ⟨v', h1, h2, h3⟩
          have h2' := h2
          obtain ⟨p3, c3, rfl, _⟩ := h2'
          exact ⟨p3, c3, h1, h2, h3⟩
        have cTx : Hid (∀ b R wx, Below wr.heap.size wr wx → isShape wx b un R → (∀ r ∈ R, isRune r) → C1 R ≤ 1000000 → Calls Tryz.prog 24 #[.pointer (some ⟨b, 0, none⟩)] wx fun e w' => e = .returned (.string (bytesOf R)) ∧ Below wx.heap.size wx w') := fun b R wx hb h1 h2 h3 => shtext_any b un HUN.out R wx h1 h2 h3 (Go.Proofs.Utf8Tabs_below HLB.out hb)
        have cTl : Hid (∀ E wx, Below wr.heap.size wr wx → Calls Tryz.prog 23 #[errV E] wx fun e w' => e = .returned (.int .i64 E) ∧ Below wx.heap.size wx w') := fun E wx hb => tellV_any E wx (asLaid_below (asLaid_below HG.out HBC.out) hb)
        rw [HN.out] at cA cTo
        have hSz : ((bytesOf rs).size : Int) = C1 rs := by rw [C1_len]; simp [bytesOf, ByteArray.size]
        by_cases hE : tzE rs (un : Int) 1 qs = 0
        case neg =>
          obtain ⟨b1, b2⟩ := sh_bad HUO.out hE
          rw [b1, b2] at cA
          have cT1 : Hid (∀ wx, Below wr.heap.size wr wx → Calls Tryz.prog 23 #[errV (tzE rs (un : Int) 1 qs)] wx fun e w' => e = .returned (.int .i64 (tzE rs (un : Int) 1 qs)) ∧ Below wx.heap.size wx w') := cTl.out _
          have hV : errV (tzE rs (un : Int) 1 qs) = .iface 26 (.int .i64 (tzE rs (un : Int) 1 qs)) := by unfold errV; rw [if_neg hE]
          rw [hV] at cA cTo cT1
          have cTs : Hid (∀ b wx, Below wr.heap.size wr wx → isShape wx b un rs → Calls Tryz.prog 24 #[.pointer (some ⟨b, 0, none⟩)] wx fun e w' => e = .returned (.string (bytesOf rs)) ∧ Below wx.heap.size wx w') := fun b wx hb h1 => cTx.out b rs wx hb h1 HR.out (by have := HC.out; omega)
          generalize tzE rs (un : Int) 1 qs = E at *
          generalize (tzO rs (un : Int) 1 qs) = TO at *
          obtain ⟨S, hS⟩ : ∃ S, bytesOf rs = S := ⟨_, rfl⟩
          rw [hS] at cN cTs ⊢
          clear b1 b2 hV cTl cTx hE hS hSz hq150 hwq hlt
          go_wp2_with (first
            | (go_at_call 21; refine Calls.mono cN.out ?_; rintro e w4 ⟨b, rfl, hs4, hlb, hb4⟩; have HB4 : Hid (Below wr.heap.size wr w4) := hb4; have HS4 : Hid (isShape w4 b un rs) := hs4; have HLB2 : Hid (wr.heap.size ≤ b) := hlb; clear hs4 hb4 hlb)
            | (go_at_call 22; refine (cA.out _ _ HB4.out HS4.out).mono ?_; rintro e w5 ⟨rfl, hs5, hb5⟩; have HB5 : Hid (Below wr.heap.size wr w5) := HB4.out.trans (hb5.mono HLB2.out); have HS5 : Hid (isShape w5 b un rs) := hs5; clear hs5 hb5)
            | (go_at_call 11; refine (cTo.out _ HB5.out).mono ?_; rintro e w6 ⟨p3, c3, rfl, ho6, hb6⟩; have HB6 : Hid (Below wr.heap.size wr w6) := HB5.out.trans (hb6.mono HB5.out.size); have HS6 : Hid (isShape w6 b un rs) := isShape_below HS5.out hb6; have HO6 : Hid _ := ho6; clear hb6 ho6)
            | (have _ := HB7; go_at_call 23; refine (cT1.out _ HB7.out).mono ?_; rintro e w8 ⟨rfl, hb8⟩; have HB8 : Hid (Below wr.heap.size wr w8) := HB7.out.trans (hb8.mono HB7.out.size); have HS8 : Hid (isShape w8 b un rs) := isShape_below HS7.out hb8; clear hb8)
            | (go_at_call 23; refine (cT1.out _ HB6.out).mono ?_; rintro e w7 ⟨rfl, hb7⟩; have HB7 : Hid (Below wr.heap.size wr w7) := HB6.out.trans (hb7.mono HB6.out.size); have HS7 : Hid (isShape w7 b un rs) := isShape_below HS6.out hb7; clear hb7)
            | (go_at_call 24; refine (cTs.out _ _ HB8.out HS8.out).mono ?_; rintro e w9 ⟨rfl, hb9⟩; have HB9 : Hid (Below wr.heap.size wr w9) := HB8.out.trans (hb9.mono HB8.out.size); clear hb9)
            | fail)
          go_ret
          exact ⟨rfl, HBC.out.trans (HB9.out.mono HBC.out.size)⟩
        case pos =>
          obtain ⟨g1, g2, g3, g4, g5, g6, g7, g8⟩ := sh_fine HUO.out HR.out hE
          obtain ⟨k1, k2⟩ := back_self HUO.out HR.out hE
          have hones : ∀ p ∈ qs, oneB p = true := fun p hp => ((chkE_parts g6).1 p hp).1
          have hpu : putsP (tzO rs (un : Int) 1 qs) ≤ 18300 := by
            rw [g8, in_puts qs rs hones]
            have := putsP_le qs (fun p hp => by have := hq150 p hp; omega)
            have := HQL.out
            omega
          have hCl := C1_len rs
          have hbd : (encs rs).length + putsP (tzO rs (un : Int) 1 qs) < 1000000 := by have := HC.out; omega
          have hwt := g1.wf hbd
          have hlt2 : (tzO rs (un : Int) 1 qs).length ≤ 61 := by rw [g8, in_len]; exact HQL.out
          have cAp : Hid (∀ p3 c3 wx, Below wr.heap.size wr wx → opAt wx (.slice p3 (tzO rs (un : Int) 1 qs).length c3) (tzO rs (un : Int) 1 qs) → Calls Tryz.prog 25 #[.slice p3 (tzO rs (un : Int) 1 qs).length c3, .string (bytesOf rs)] wx fun e w' => e = .returned (.tuple #[.string (bytesOf (comesZ (un : Int) rs qs)), .nilIface]) ∧ Below wx.heap.size wx w') := fun p3 c3 wx hb ho => by
            have := kApply _ (tzO rs (un : Int) 1 qs) (encs rs) wx (Go.Proofs.Utf8Tabs_below HLB.out hb) ho g1 hbd
            rw [g2] at this
            exact this
          have cFr : Hid (∀ p3 c3 wx, Below wr.heap.size wr wx → opAt wx (.slice p3 (tzO rs (un : Int) 1 qs).length c3) (tzO rs (un : Int) 1 qs) → Calls Tryz.prog 12 #[.pointer (some ⟨br, 0, none⟩), .int .i64 (un : Int), .slice p3 (tzO rs (un : Int) 1 qs).length c3] wx fun e w' => ∃ p4 c4, e = .returned (.tuple #[.slice p4 x c4, .nilIface]) ∧ opAt w' (.slice p4 qs.length c4) qs ∧ Below wx.heap.size wx w') := fun p3 c3 wx hb ho => by
            refine (from_all br rs (un : Int) (tzO rs (un : Int) 1 qs) _ wx (Go.Proofs.Utf8Tabs_below HLB.out hb) (isRope_below HRC.out hb) ho hwt (by omega) (fun p hp => by have := put_le_puts p _ hp; omega) (by have := HC.out; omega)).mono ?_
            rintro e w' ⟨v', h1, h2, h3⟩
            rw [k1, errV_0] at h1
            rw [k2] at h2
            have h2' := h2
            obtain ⟨p4, c4, rfl, _⟩ := h2'
            rw [HN.out] at h1
            exact ⟨p4, c4, h1, h2, h3⟩
          have cSm : Hid (∀ p4 c4 wx, Below wr.heap.size wr wx → opAt wx (.slice p4 qs.length c4) qs → Calls Tryz.prog 14 #[.slice p4 x c4, .slice p2 x c2] wx fun e w' => e = .returned (.bool true) ∧ Below wx.heap.size wx w') := fun p4 c4 wx hb ho => by
            have := Same_any _ _ qs wx ho (opAt_below HQ.out hb (Nat.le_refl _)) (by have := HQL.out; omega)
            rw [HN.out] at this
            exact this
          have hCZ : C1 (comesZ (un : Int) rs qs) ≤ 1000000 := by
            have e1 := apply_le g1
            rw [g2] at e1
            have := C1_len (comesZ (un : Int) rs qs)
            have := HC.out
            omega
          rw [g4, g5] at cA
          rw [hE, errV_0] at cTo
          have hcs : ((bytesOf (comesZ (un : Int) rs qs)).size : Int) = C1 (comesZ (un : Int) rs qs) := by rw [C1_len]; simp [bytesOf, ByteArray.size]
          have HG3 : Hid (∀ r ∈ comesZ (un : Int) rs qs, isRune r) := g3
          generalize (tzO rs (un : Int) 1 qs) = TO at *
          generalize (comesZ (un : Int) rs qs) = CZ at *
          clear g1 g2 g3 g4 g5 g6 g7 g8 k1 k2 hones hpu hCl hbd hwt hlt2 hE hlt
          by_cases h8 : C1 CZ ≤ 8000
          case pos =>
            rw [if_pos h8, if_pos h8, errV_0] at cA
            have h8' : ¬ (8000 : Int) < ((bytesOf CZ).size : Int) := by omega
            have cTs : Hid (∀ b wx, Below wr.heap.size wr wx → isShape wx b un CZ → Calls Tryz.prog 24 #[.pointer (some ⟨b, 0, none⟩)] wx fun e w' => e = .returned (.string (bytesOf CZ)) ∧ Below wx.heap.size wx w') := fun b wx hb h1 => cTx.out b CZ wx hb h1 HG3.out hCZ
            obtain ⟨S, hS⟩ : ∃ S, bytesOf rs = S := ⟨_, rfl⟩
            rw [hS] at cN cAp ⊢
            obtain ⟨S2, hS2⟩ : ∃ S2, bytesOf CZ = S2 := ⟨_, rfl⟩
            rw [hS2] at cTs cAp h8' hcs
            clear cTl cTx hS hS2 hSz hq150 hwq h8 hcs hCZ
            go_wp2_with (first
              | (go_at_call 21; refine Calls.mono cN.out ?_; rintro e w4 ⟨b, rfl, hs4, hlb, hb4⟩; have HB4 : Hid (Below wr.heap.size wr w4) := hb4; have HS4 : Hid (isShape w4 b un rs) := hs4; have HLB2 : Hid (wr.heap.size ≤ b) := hlb; clear hs4 hb4 hlb)
              | (go_at_call 22; refine (cA.out _ _ HB4.out HS4.out).mono ?_; rintro e w5 ⟨rfl, hs5, hb5⟩; have HB5 : Hid (Below wr.heap.size wr w5) := HB4.out.trans (hb5.mono HLB2.out); have HS5 : Hid (isShape w5 b un CZ) := hs5; clear hs5 hb5)
              | (go_at_call 11; refine (cTo.out _ HB5.out).mono ?_; rintro e w6 ⟨p3, c3, rfl, ho6, hb6⟩; have HB6 : Hid (Below wr.heap.size wr w6) := HB5.out.trans (hb6.mono HB5.out.size); have HS6 : Hid (isShape w6 b un CZ) := isShape_below HS5.out hb6; have HO6 : Hid _ := ho6; clear hb6 ho6)
              | (go_at_call 25; refine (cAp.out _ _ _ HB6.out HO6.out).mono ?_; rintro e w7 ⟨rfl, hb7⟩; have HB7 : Hid (Below wr.heap.size wr w7) := HB6.out.trans (hb7.mono HB6.out.size); have HS7 : Hid (isShape w7 b un CZ) := isShape_below HS6.out hb7; have HO7 : Hid _ := opAt_grown HO6.out hb7; clear hb7)
              | (go_at_call 12; refine (cFr.out _ _ _ HB7.out HO7.out).mono ?_; rintro e w8 ⟨p4, c4, rfl, ho8, hb8⟩; have HB8 : Hid (Below wr.heap.size wr w8) := HB7.out.trans (hb8.mono HB7.out.size); have HS8 : Hid (isShape w8 b un CZ) := isShape_below HS7.out hb8; have HO8 : Hid _ := ho8; clear hb8 ho8)
              | (go_at_call 14; refine (cSm.out _ _ _ HB8.out HO8.out).mono ?_; rintro e w9 ⟨rfl, hb9⟩; have HB9 : Hid (Below wr.heap.size wr w9) := HB8.out.trans (hb9.mono HB8.out.size); have HS9 : Hid (isShape w9 b un CZ) := isShape_below HS8.out hb9; clear hb9)
              | (go_at_call 24; refine (cTs.out _ _ HB9.out HS9.out).mono ?_; rintro e w10 ⟨rfl, hb10⟩; have HB10 : Hid (Below wr.heap.size wr w10) := HB9.out.trans (hb10.mono HB9.out.size); clear hb10)
              | fail)
            go_ret
            exact ⟨rfl, HBC.out.trans (HB10.out.mono HBC.out.size)⟩
          case neg =>
            rw [if_neg h8, if_neg h8] at cA
            have h8' : (8000 : Int) < ((bytesOf CZ).size : Int) := by omega
            have cT1 : Hid (∀ wx, Below wr.heap.size wr wx → Calls Tryz.prog 23 #[errV 12] wx fun e w' => e = .returned (.int .i64 12) ∧ Below wx.heap.size wx w') := cTl.out _
            have cTs : Hid (∀ b wx, Below wr.heap.size wr wx → isShape wx b un rs → Calls Tryz.prog 24 #[.pointer (some ⟨b, 0, none⟩)] wx fun e w' => e = .returned (.string (bytesOf rs)) ∧ Below wx.heap.size wx w') := fun b wx hb h1 => cTx.out b rs wx hb h1 HR.out (by have := HC.out; omega)
            obtain ⟨V, hV⟩ : ∃ V, errV 12 = V := ⟨_, rfl⟩
            rw [hV] at cA cT1
            obtain ⟨S, hS⟩ : ∃ S, bytesOf rs = S := ⟨_, rfl⟩
            rw [hS] at cN cAp cTs ⊢
            obtain ⟨S2, hS2⟩ : ∃ S2, bytesOf CZ = S2 := ⟨_, rfl⟩
            rw [hS2] at cAp h8' hcs
            clear cTl cTx hS hS2 hSz hq150 hwq h8 hcs hCZ hV
            go_wp2_with (first
              | (go_at_call 21; refine Calls.mono cN.out ?_; rintro e w4 ⟨b, rfl, hs4, hlb, hb4⟩; have HB4 : Hid (Below wr.heap.size wr w4) := hb4; have HS4 : Hid (isShape w4 b un rs) := hs4; have HLB2 : Hid (wr.heap.size ≤ b) := hlb; clear hs4 hb4 hlb)
              | (go_at_call 22; refine (cA.out _ _ HB4.out HS4.out).mono ?_; rintro e w5 ⟨rfl, hs5, hb5⟩; have HB5 : Hid (Below wr.heap.size wr w5) := HB4.out.trans (hb5.mono HLB2.out); have HS5 : Hid (isShape w5 b un rs) := hs5; clear hs5 hb5)
              | (go_at_call 11; refine (cTo.out _ HB5.out).mono ?_; rintro e w6 ⟨p3, c3, rfl, ho6, hb6⟩; have HB6 : Hid (Below wr.heap.size wr w6) := HB5.out.trans (hb6.mono HB5.out.size); have HS6 : Hid (isShape w6 b un rs) := isShape_below HS5.out hb6; have HO6 : Hid _ := ho6; clear hb6 ho6)
              | (go_at_call 25; refine (cAp.out _ _ _ HB6.out HO6.out).mono ?_; rintro e w7 ⟨rfl, hb7⟩; have HB7 : Hid (Below wr.heap.size wr w7) := HB6.out.trans (hb7.mono HB6.out.size); have HS7 : Hid (isShape w7 b un rs) := isShape_below HS6.out hb7; have HO7 : Hid _ := opAt_grown HO6.out hb7; clear hb7)
              | (go_at_call 12; refine (cFr.out _ _ _ HB7.out HO7.out).mono ?_; rintro e w8 ⟨p4, c4, rfl, ho8, hb8⟩; have HB8 : Hid (Below wr.heap.size wr w8) := HB7.out.trans (hb8.mono HB7.out.size); have HS8 : Hid (isShape w8 b un rs) := isShape_below HS7.out hb8; have HO8 : Hid _ := ho8; clear hb8 ho8)
              | (go_at_call 14; refine (cSm.out _ _ _ HB8.out HO8.out).mono ?_; rintro e w9 ⟨rfl, hb9⟩; have HB9 : Hid (Below wr.heap.size wr w9) := HB8.out.trans (hb9.mono HB8.out.size); have HS9 : Hid (isShape w9 b un rs) := isShape_below HS8.out hb9; clear hb9)
              | (go_at_call 23; refine (cT1.out _ HB9.out).mono ?_; rintro e w10 ⟨rfl, hb10⟩; have HB10 : Hid (Below wr.heap.size wr w10) := HB9.out.trans (hb10.mono HB9.out.size); have HS10 : Hid (isShape w10 b un rs) := isShape_below HS9.out hb10; clear hb10)
              | (go_at_call 24; refine (cTs.out _ _ HB10.out HS10.out).mono ?_; rintro e w11 ⟨rfl, hb11⟩; have HB11 : Hid (Below wr.heap.size wr w11) := HB10.out.trans (hb11.mono HB10.out.size); clear hb11)
              | fail)
            go_ret
            exact ⟨rfl, HBC.out.trans (HB11.out.mono HBC.out.size)⟩
end Go.Proofs.YtldhbjmillfjgabGreatDoor
