/-
  rosettakeep.RoomMeets where there is a room.
-/
import Derived.Test.YtedgnlgjmnccgabGreatDoorKeepLawA
namespace Go.Proofs.YtedgnlgjmnccgabGreatDoor
open Go.RowKit Go.Maps
set_option linter.unusedVariables false
attribute [local go_sem] Oper.semAt_some yieldsUpon okUpon

def quietsR (l0 : Int) : Nat → Rm → Rm
  | 0, R => R
  | n + 1, R => quietR l0 (quietsR l0 n R)
set_option maxRecDepth 100000 in
set_option maxHeartbeats 20000000 in
theorem meets_good (s : List UInt8) (v1 v2 : Value) (zs : List Int) (l : List Sa) (w : World) (he : Env w.heap.size w) (h1 : intsAt w v1 zs) (hzn : ∀ z ∈ zs, isNum z) (h2 : saysAt w v2 l) (hwf : ∀ q ∈ l, sayWf q) (hs : s.length ≤ 1900) (hz1 : 1 ≤ zs.length) (hz6 : zs.length ≤ 6) (hl : l.length ≤ 60) (hV : V s) :
    Calls Tryz.prog 10 #[.string ⟨s.toArray⟩, v1, v2] w fun e w' => e = .returned (.bool true) ∧ Below w.heap.size w w' := by
  have hzs : (ByteArray.mk s.toArray).size = s.length := by simp [ByteArray.size]
  have hsc := V_scan hV
  have CM : Hid (Calls Tryz.prog 77 #[] w fun e w' => e = .returned (.bool true) ∧ Below w.heap.size w w') := met_any w he
  have CC : Hid (∀ wx, Below w.heap.size w wx → Calls Tryz.prog 78 #[.string ⟨s.toArray⟩] wx fun e w' => ∃ n1 n2 n3 n4, e = .returned (.tuple #[.agg #[.int .i64 n1, .int .i64 n2, .int .i64 n3, .int .i64 n4], .nilIface]) ∧ Below wx.heap.size wx w') := fun wx hb => srvNew_count s (by omega) hsc wx (he.below hb).tabs
  obtain ⟨p1, c1, rfl, a1, a2, a3⟩ := h1
  obtain ⟨p2, c2, rfl, d1, d2, d3⟩ := h2
  have HZS : Hid _ := a3
  have HZN : Hid (∀ z ∈ zs, isNum z) := hzn
  have HL : Hid _ := d3
  have HWF : Hid (∀ q ∈ l, sayWf q) := hwf
  obtain ⟨N, hN⟩ : ∃ N, zs.length = N := ⟨_, rfl⟩
  have HN : Hid (zs.length = N) := hN
  obtain ⟨M, hM⟩ : ∃ M, l.length = M := ⟨_, rfl⟩
  have HM : Hid (l.length = M) := hM
  rw [hN] at a1 hz1 hz6 ⊢
  rw [hM] at d1 hl ⊢
  unfold maxLen at a2 d2
  have q1 : ¬ (1900 : Int) < (s.length : Int) := by omega
  have q2 : ¬ (60 : Int) < (M : Int) := by omega
  have q3 : ¬ (N : Int) < 1 := by omega
  have q4 : ¬ (6 : Int) < (N : Int) := by omega
  have HE : Hid _ := he
  have CN : Hid (∀ wx v, UI w.heap.size w N v wx → Calls Tryz.prog 60 #[.string ⟨s.toArray⟩, v] wx fun e w' => ∃ r bx bmx bs R, e = .returned (.tuple #[.pointer (some ⟨r, 0, none⟩), .nilIface]) ∧ bs.length = N ∧ R.t = s ∧ R.cl.length = N ∧ Rl w.heap.size w r bx bmx bs (s.length : Int) 0 [s] R w') := fun wx v h => Rl.new hV hs hz1 hz6 (Env.mk (asLaid_below he.lay (h.low)) (Go.Proofs.Utf8Tabs_below he.tabs h.low) he.g1 he.g2) h
  obtain ⟨i0, hi0, hq0, hq1, hq2⟩ := info_parts info_int
  have hMi : (M : Int) ≤ 60 := by omega
  have hN1 : 1 ≤ N := hz1
  have hN6 : N ≤ 6 := hz6
  clear he hzn hwf hs hV hsc a3 d3 hN hM
  go_enter Tryz.func10, Tryz.ntmps10
  go_wp2_with (first
    | (go_at_call 77; refine Calls.mono CM.out ?_; rintro e w1 ⟨rfl, hb1⟩; have HW1 : Hid (Below w.heap.size w w1) := hb1; clear hb1)
    | (go_at_call 78; refine (CC.out _ HW1.out).mono ?_; rintro e w2 ⟨n1, n2, n3, n4, rfl, hb2⟩; have HW2 : Hid (∀ o, Below w.heap.size w (w2.alloc o)) := fun o => (HW1.out.trans (hb2.mono HW1.out.size)).alloc (Nat.le_trans HW1.out.size hb2.size) o; clear hb2)
    | fail)
  have HB2 : Hid (Below w.heap.size w (w2.alloc (.cells #[.int .i64 n1, .int .i64 n2, .int .i64 n3, .int .i64 n4] 25))) := HW2.out _
  clear HW2
  generalize w2.alloc (.cells #[.int .i64 n1, .int .i64 n2, .int .i64 n3, .int .i64 n4] 25) = W2 at *
  go_loopw [9, 10] (fun uv i wr => ∃ k : Nat, i = .int .i64 k ∧ k ≤ N ∧ UI w.heap.size w k uv wr ∧ ∀ j, uv.ownBlock = some j → w.heap.size ≤ j) (fun _ i _ => N - (intOf i).toNat)
  case atStart => exact ⟨0, rfl, Nat.zero_le _, ⟨⟨[], rfl, (fun u hu => by cases hu), World.ownsRow_nil _ _ _ _⟩, HB2.out, HB2.out.size⟩, fun j hj => by cases hj⟩
  case round =>
    obtain ⟨k, rfl, hk, h1, h3⟩ := hrel
    have HI1 : Hid _ := h1
    have HOWN : Hid _ := h3
    have hki : (k : Int) ≤ 6 := by omega
    by_cases hlt : k < N
    · have hki2 : (k : Int) < (N : Int) := by omega
      have hkul : k < zs.length := by rw [HN.out]; exact hlt
      have hku : zs[k]? = some zs[k] := List.getElem?_eq_getElem hkul
      have hne : zs ≠ [] := fun e => by have := HN.out; rw [e] at this; simp at this; omega
      obtain ⟨b0, o, rfl, hb0, hat⟩ := HZS.out hne
      have g0 := (HI1.out.low.cell (p := ⟨b0, o + k, none⟩) hb0).trans (hat k _ hku)
      obtain ⟨pk0, hpk, PK⟩ := pick_nat zs[k] 3 (HZN.out _ (List.getElem_mem hkul)) (by decide) (by decide)
      generalize zs[k] = z at *
      have HPK : Hid _ := PK
      have hp2 : (pk0 : Int) ≤ 2 := by omega
      obtain ⟨us, e1, e2, e3⟩ := h1.row
      obtain ⟨pc, cc, evc⟩ := own_slice e3
      subst evc
      have HROW : Hid _ := e3
      have HUL : Hid (us.length = k) := e1
      have HUO : Hid (∀ u ∈ us, unitOk u) := e2
      clear h1 h3 hat hku hne PK e1 e2 e3 hkul
      go_wp2_with (first
        | (go_at_call 20; refine (HPK.out _).mono ?_; rintro e w3 ⟨rfl, hb3⟩
           have HI3 : Hid _ := HI1.out.grow hb3
           have HR3 : Hid _ := own_below HROW.out hb3
           clear hb3)
        | (at_builtin
           have hba : Below w3.heap.size w3 (w3.alloc (.cells #[.int .i64 (1 + (pk0 : Int))] 3)) := (Below.refl _ _).alloc (Nat.le_refl _) _
           have HIA : Hid _ := HI3.out.grow hba
           have HRA := own_below HR3.out hba
           have HSZ : Hid (w.heap.size ≤ (w3.alloc (.cells #[.int .i64 (1 + (pk0 : Int))] 3)).heap.size) := HIA.out.le
           refine wpList_append_new _ rfl _ _ 111 rfl w.heap.size 3 i0 (.int .i64 0) 1 8 Tryz.underlying111 hi0 hq0 hq1 hq2 rfl (by decide) _ _ _ rfl HRA ⟨w3.heap.size, 0, none⟩ 1 1 [.int .i64 (1 + (pk0 : Int))] rfl rfl (new_one _ _ _) (fun u hu => by rw [List.mem_singleton.1 hu]; rfl) (by unfold maxLen; omega) (by omega) HSZ.out (by omega) ?_
           clear hba HRA)
        | fail)
      intro v2 w6 hown' hg' hvn
      rw [intRow_snoc] at hown'
      have HI6 : Hid (UI w.heap.size w (k + 1) v2 w6) := ⟨⟨_, by rw [List.length_append, HUL.out]; rfl, fun u hu => by
        rcases List.mem_append.1 hu with hu | hu
        · exact HUO.out u hu
        · rw [List.mem_singleton.1 hu]; unfold unitOk; omega, hown'⟩, HIA.out.low.grown hg' HSZ.out (fun j hj => HOWN.out j hj), Nat.le_trans HSZ.out hg'.size⟩
      have HVN : Hid (∀ j, v2.ownBlock = some j → w.heap.size ≤ j) := fun j hj => (hvn j hj).elim (HOWN.out j) fun h => by have h1 := HSZ.out; rw [World.size_alloc] at h1; have h : w3.heap.size + 1 ≤ j := h; omega
      obtain ⟨p6, c6, rfl⟩ := own_slice hown'
      clear hown' hg' hvn
      go_wp2
      go_roundw
      case rel => exact ⟨k + 1, by go_num, by omega, HI6.out, HVN.out⟩
      case measure => simp [intOf]; omega
    · obtain rfl : k = N := by omega
      have hki2 : ¬ ((k : Int) < (k : Int)) := by omega
      obtain ⟨pu, cu, euv⟩ := own_slice h1.row.choose_spec.2.2
      subst euv
      clear h1 h3
      go_wp2_with (first
        | (go_at_call 60; refine (CN.out _ _ HI1.out).mono ?_; rintro e w3 ⟨r, bx, bmx, bs, R0, rfl, e1, e2, e3, h3⟩
           have HBN : Hid (bs.length = k) := e1
           have HCN : Hid (R0.cl.length = k) := e3
           have HR3 : Hid _ := h3
           clear e1 e2 e3 h3)
        | fail)
      go_loopw [13] (fun i wr => ∃ m : Nat, i = .int .i64 m ∧ m ≤ M ∧ ∃ D R, Rl w.heap.size w r bx bmx bs (s.length : Int) m D R wr ∧ R.cl.length = k) (fun i _ => M - (intOf i).toNat)
      case atStart => exact ⟨0, rfl, Nat.zero_le _, _, _, HR3.out, HCN.out⟩
      case round =>
        obtain ⟨m, rfl, hm, D, R, h4, h5⟩ := hrel
        have HR4 : Hid _ := h4
        have HC4 : Hid (R.cl.length = k) := h5
        have hmi : (m : Int) ≤ 60 := by omega
        clear h4 h5
        by_cases hmlt : m < M
        · have hmi2 : (m : Int) < (M : Int) := by omega
          have hml : m < l.length := by rw [HM.out]; exact hmlt
          have hlq : l[m]? = some l[m] := List.getElem?_eq_getElem hml
          have hne : l ≠ [] := fun e => by have := HM.out; rw [e] at this; simp at this; omega
          obtain ⟨b2, o2, rfl, hb2, hat2⟩ := HL.out hne
          obtain ⟨f0, f1, f2, v', f3, hop⟩ := hat2 m _ hlq
          have g0 := (HR4.out.low.cell (p := ⟨b2, o2 + m * 4, none⟩) hb2).trans f0
          have g1 := (HR4.out.low.cell (p := ⟨b2, o2 + m * 4 + 1, none⟩) hb2).trans f1
          have g2 := (HR4.out.low.cell (p := ⟨b2, o2 + m * 4 + 2, none⟩) hb2).trans f2
          have g3 := (HR4.out.low.cell (p := ⟨b2, o2 + m * 4 + 3, none⟩) hb2).trans f3
          have CP : Hid _ := HR4.out.plays (by omega) (by rw [HBN.out]; exact hN1) (by rw [HBN.out]; exact hN6) l[m] (HWF.out _ (List.getElem_mem hml)) v' (opAt_below hop HR4.out.low (Nat.le_refl _))
          rw [HBN.out] at CP
          obtain ⟨pv, cv, rfl, _⟩ := hop
          generalize l[m] = q at *
          obtain ⟨qa, qb, qc, qo⟩ := q
          simp only at g0 g1 g2 g3 CP
          clear hat2 f0 f1 f2 f3 hlq hne
          go_wp2_with (first
            | (go_at_call 79; refine Calls.mono CP.out ?_; rintro e w4 ⟨rfl, R', D', a1', a2', _, _⟩
               have HR5 : Hid _ := a1'
               have HC5 : Hid (R'.cl.length = k) := a2'.trans HC4.out
               clear a1' a2')
            | fail)
          go_roundw
          case rel => exact ⟨m + 1, by go_num, by omega, D', R', HR5.out, HC5.out⟩
          case measure => simp [intOf]; omega
        · obtain rfl : m = M := by omega
          have hmi2 : ¬ ((m : Int) < (m : Int)) := by omega
          go_upto_region 22 with (fail)
          go_loopw [14] (fun i wr => ∃ j : Nat, i = .int .i64 j ∧ j ≤ 3 ∧ ∃ D', Rl w.heap.size w r bx bmx bs (s.length : Int) (m + j) D' (quietsR (s.length : Int) j R) wr) (fun i _ => 3 - (intOf i).toNat)
          case atStart => exact ⟨0, rfl, Nat.zero_le _, D, HR4.out⟩
          case round =>
            obtain ⟨j, rfl, hj, D', h6⟩ := hrel
            have HR6 : Hid _ := h6
            have hji : (j : Int) ≤ 3 := by omega
            clear h6
            by_cases hjl : j < 3
            · have hji2 : (j : Int) < 3 := by omega
              have CQ : Hid _ := HR6.out.quiet (by omega) (by rw [HBN.out]; exact hN6)
              go_wp2_with (first
                | (go_at_call 71; refine Calls.mono CQ.out ?_; rintro e w5 ⟨rfl, D2, h7⟩; have HR7 : Hid _ := h7; clear h7)
                | fail)
              go_roundw
              case rel => exact ⟨j + 1, by go_num, by omega, D2, HR7.out⟩
              case measure => simp [intOf]; omega
            · obtain rfl : j = 3 := by omega
              have hji2 : ¬ (((3 : Nat) : Int) < 3) := by omega
              obtain ⟨n4, _, i4⟩ := HR4.out.inv
              obtain ⟨D9, i9, fl9, len9, all9⟩ := meets i4 HR4.out.inv2
              have HALL : Hid _ := all9
              have HFL : Hid _ := fl9
              have HLEN : Hid _ := len9.trans HC4.out
              have hQ : quietsR (s.length : Int) 3 R = quietR (s.length : Int) (quietR (s.length : Int) (quietR (s.length : Int) R)) := rfl
              rw [hQ] at HR6
              rw [HC4.out] at HALL
              generalize quietR (s.length : Int) (quietR (s.length : Int) (quietR (s.length : Int) R)) = T at *
              clear i4 i9 fl9 len9 all9 hQ
              go_upto_region 26 with (fail)
              go_loopw [15] (fun i wr => ∃ c : Nat, i = .int .i64 c ∧ c ≤ k ∧ Rl w.heap.size w r bx bmx bs (s.length : Int) (m + 3) D' T wr) (fun i _ => k - (intOf i).toNat)
              case atStart => exact ⟨0, rfl, Nat.zero_le _, HR6.out⟩
              case round =>
                obtain ⟨c, rfl, hc, h8⟩ := hrel
                have HR8 : Hid _ := h8
                have hci : (c : Int) ≤ 6 := by omega
                clear h8
                by_cases hcl : c < k
                · have hci2 : (c : Int) < (k : Int) := by omega
                  obtain ⟨t1, t2, t3, t4⟩ := HALL.out c hcl
                  obtain ⟨b, hb, hclc⟩ := rm_client HR8.out.room (k := c) (by rw [HLEN.out]; exact hcl)
                  have CC1 : Hid _ := rmClient_ok HR8.out.room hb (by rw [HBN.out]; omega)
                  have CP1 : Hid (∀ wx, Below wr.heap.size wr wx → Calls Tryz.prog 58 #[.pointer (some ⟨b, 0, none⟩)] wx fun e w' => e = .returned (.bool false) ∧ Below wx.heap.size wx w') := fun wx hbx => by
                    have := clPending_any (isCl_below hclc hbx)
                    rw [t1] at this
                    exact this
                  have CT1 : Hid (∀ wx, Below wr.heap.size wr wx → Calls Tryz.prog 54 #[.pointer (some ⟨b, 0, none⟩)] wx fun e w' => e = .returned (.string ⟨T.t.toArray⟩) ∧ Below wx.heap.size wx w') := fun wx hbx => by
                    have := clText_any (isCl_below hclc hbx)
                    rw [t2] at this
                    exact this
                  have CS1 : Hid (∀ wx, Below wr.heap.size wr wx → Calls Tryz.prog 55 #[.pointer (some ⟨b, 0, none⟩)] wx fun e w' => e = .returned (.string ⟨T.t.toArray⟩) ∧ Below wx.heap.size wx w') := fun wx hbx => by
                    have := clSeen_any (isCl_below hclc hbx)
                    rw [t3] at this
                    exact this
                  have CR1 : Hid (∀ wx, Below wr.heap.size wr wx → Calls Tryz.prog 56 #[.pointer (some ⟨b, 0, none⟩)] wx fun e w' => e = .returned (.int .i64 (T.E.length : Int)) ∧ Below wx.heap.size wx w') := fun wx hbx => by
                    have := clRev_any (isCl_below hclc hbx)
                    rw [t4] at this
                    exact this
                  have CT2 : Hid (∀ wx, Below wr.heap.size wr wx → Calls Tryz.prog 75 #[.pointer (some ⟨r, 0, none⟩)] wx fun e w' => e = .returned (.string ⟨T.t.toArray⟩) ∧ Below wx.heap.size wx w') := fun wx hbx => rmText_any (isRoom_below HR8.out.room hbx)
                  have CR2 : Hid (∀ wx, Below wr.heap.size wr wx → Calls Tryz.prog 76 #[.pointer (some ⟨r, 0, none⟩)] wx fun e w' => e = .returned (.int .i64 (T.E.length : Int)) ∧ Below wx.heap.size wx w') := fun wx hbx => rmRev_any (isRoom_below HR8.out.room hbx)
                  generalize T.t = tt at *
                  generalize hEl : (T.E.length : Int) = el at *
                  clear t1 t2 t3 t4 hb hclc hEl
                  go_wp2_with (first
                    | (go_at_call 62; refine Calls.mono CC1.out ?_; rintro e x1 ⟨rfl, hx⟩; have HX1 : Hid (Below wr.heap.size wr x1) := hx; clear hx)
                    | (go_at_call 58; refine (CP1.out _ HX1.out).mono ?_; rintro e x2 ⟨rfl, hx⟩; have HX2 : Hid (Below wr.heap.size wr x2) := HX1.out.trans (hx.mono HX1.out.size); clear hx)
                    | (go_at_call 54; refine (CT1.out _ HX2.out).mono ?_; rintro e x3 ⟨rfl, hx⟩; have HX3 : Hid (Below wr.heap.size wr x3) := HX2.out.trans (hx.mono HX2.out.size); clear hx)
                    | (go_at_call 75; refine (CT2.out _ HX3.out).mono ?_; rintro e x4 ⟨rfl, hx⟩; have HX4 : Hid (Below wr.heap.size wr x4) := HX3.out.trans (hx.mono HX3.out.size); clear hx HX3)
                    | (go_at_call 55; refine (CS1.out _ HX4.out).mono ?_; rintro e x5 ⟨rfl, hx⟩; have HX5 : Hid (Below wr.heap.size wr x5) := HX4.out.trans (hx.mono HX4.out.size); clear hx)
                    | (go_at_call 75; refine (CT2.out _ HX5.out).mono ?_; rintro e x6 ⟨rfl, hx⟩; have HX6 : Hid (Below wr.heap.size wr x6) := HX5.out.trans (hx.mono HX5.out.size); clear hx HX5)
                    | (go_at_call 56; refine (CR1.out _ HX6.out).mono ?_; rintro e x7 ⟨rfl, hx⟩; have HX7 : Hid (Below wr.heap.size wr x7) := HX6.out.trans (hx.mono HX6.out.size); clear hx)
                    | (go_at_call 76; refine (CR2.out _ HX7.out).mono ?_; rintro e x8 ⟨rfl, hx⟩; have HX8 : Hid (Below wr.heap.size wr x8) := HX7.out.trans (hx.mono HX7.out.size); clear hx)
                    | fail)
                  go_roundw
                  case rel => exact ⟨c + 1, by go_num, by omega, HR8.out.grow HX8.out⟩
                  case measure => simp [intOf]; omega
                · obtain rfl : c = k := by omega
                  have hci2 : ¬ ((c : Int) < (c : Int)) := by omega
                  have CMY : Hid _ := rmMany_any HR8.out.room
                  rw [HFL.out] at CMY
                  go_wp2_with (first
                    | (go_at_call 73; refine Calls.mono CMY.out ?_; rintro e x1 ⟨rfl, hx⟩; have HX1 : Hid (Below wr.heap.size wr x1) := hx; clear hx)
                    | fail)
                  go_ret
                  exact ⟨rfl, (HR8.out.grow HX1.out).low⟩
end Go.Proofs.YtedgnlgjmnccgabGreatDoor
