/-
  rosettakeep.RoomSeen where there is a room.
-/
import Derived.Test.YtedgnlgjmnccgabGreatDoorKeepSeenA
namespace Go.Proofs.YtedgnlgjmnccgabGreatDoor
open Go.RowKit Go.Maps
set_option linter.unusedVariables false
attribute [local go_sem] Oper.semAt_some yieldsUpon okUpon

set_option maxRecDepth 100000 in
set_option maxHeartbeats 20000000 in
theorem seen_good (s : List UInt8) (v1 v2 : Value) (zs : List Int) (l : List Sa) (w : World) (he : Env w.heap.size w) (h1 : intsAt w v1 zs) (hzn : ∀ z ∈ zs, isNum z) (h2 : saysAt w v2 l) (hwf : ∀ q ∈ l, sayWf q) (hs : s.length ≤ 500) (hz1 : 1 ≤ zs.length) (hz6 : zs.length ≤ 5) (hl : l.length ≤ 60) (hV : V s) :
    Calls Tryz.prog 9 #[.string ⟨s.toArray⟩, v1, v2] w fun e w' => e = .returned (.bool true) ∧ Below w.heap.size w w' := by
  have hzs : (ByteArray.mk s.toArray).size = s.length := by simp [ByteArray.size]
  have hsc := V_scan hV
  have CM : Hid (Calls Tryz.prog 77 #[] w fun e w' => e = .returned (.bool true) ∧ Below w.heap.size w w') := met_any w he
  have CC : Hid (∀ wx, Below w.heap.size w wx → Calls Tryz.prog 78 #[.string ⟨s.toArray⟩] wx fun e w' => ∃ n1 n2 n3 n4, e = .returned (.tuple #[.agg #[.int .i64 n1, .int .i64 n2, .int .i64 n3, .int .i64 n4], .nilIface]) ∧ Below wx.heap.size wx w') := fun wx hb => srvNew_count s (by omega) hsc wx (he.below hb).tabs
  obtain ⟨p1, c1, rfl, a1, a2, a3⟩ := h1
  obtain ⟨p2, c2, rfl, d1, d2, d3⟩ := h2
  have HZS : Hid _ := a3
  have HZN : Hid (∀ z ∈ zs, isNum z) := hzn
  have HL : Hid _ := d3
  have HWF : Hid (∀ q ∈ l, sayWf q) := hwf
  obtain ⟨N, hN⟩ : ∃ N, zs.length = N := ⟨_, rfl⟩
  have HN : Hid (zs.length = N) := hN
  obtain ⟨M, hM⟩ : ∃ M, l.length = M := ⟨_, rfl⟩
  have HM : Hid (l.length = M) := hM
  rw [hN] at a1 hz1 hz6 ⊢
  rw [hM] at d1 hl ⊢
  unfold maxLen at a2 d2
  have q1 : ¬ (500 : Int) < (s.length : Int) := by omega
  have q2 : ¬ (60 : Int) < (M : Int) := by omega
  have q3 : ¬ (N : Int) < 1 := by omega
  have q4 : ¬ (5 : Int) < (N : Int) := by omega
  have HE : Hid _ := he
  have CN : Hid (∀ wx v, UI w.heap.size w N v wx → Calls Tryz.prog 60 #[.string ⟨s.toArray⟩, v] wx fun e w' => ∃ r bx bmx bs R, e = .returned (.tuple #[.pointer (some ⟨r, 0, none⟩), .nilIface]) ∧ bs.length = N ∧ R.t = s ∧ R.cl.length = N ∧ Rl w.heap.size w r bx bmx bs (s.length : Int) 0 [s] R w') := fun wx v h => Rl.new hV (Nat.le_trans hs (by decide)) hz1 (Nat.le_trans hz6 (by decide)) (Env.mk (asLaid_below he.lay (h.low)) (Go.Proofs.Utf8Tabs_below he.tabs h.low) he.g1 he.g2) h
  obtain ⟨i0, hi0, hq0, hq1, hq2⟩ := info_parts info_int
  have hMi : (M : Int) ≤ 60 := by omega
  have hN1 : 1 ≤ N := hz1
  have hN6 : N ≤ 6 := by omega
  clear he hzn hwf hs hV hsc a3 d3 hN hM
  go_enter Tryz.func9, Tryz.ntmps9
  go_wp2_with (first
    | (go_at_call 77; refine Calls.mono CM.out ?_; rintro e w1 ⟨rfl, hb1⟩; have HW1 : Hid (Below w.heap.size w w1) := hb1; clear hb1)
    | (go_at_call 78; refine (CC.out _ HW1.out).mono ?_; rintro e w2 ⟨n1, n2, n3, n4, rfl, hb2⟩; have HW2 : Hid (∀ o, Below w.heap.size w (w2.alloc o)) := fun o => (HW1.out.trans (hb2.mono HW1.out.size)).alloc (Nat.le_trans HW1.out.size hb2.size) o; clear hb2)
    | fail)
  have HB2 : Hid (Below w.heap.size w (w2.alloc (.cells #[.int .i64 n1, .int .i64 n2, .int .i64 n3, .int .i64 n4] 25))) := HW2.out _
  clear HW2
  generalize w2.alloc (.cells #[.int .i64 n1, .int .i64 n2, .int .i64 n3, .int .i64 n4] 25) = W2 at *
  go_loopw [9, 10] (fun uv i wr => ∃ k : Nat, i = .int .i64 k ∧ k ≤ N ∧ UI w.heap.size w k uv wr ∧ ∀ j, uv.ownBlock = some j → w.heap.size ≤ j) (fun _ i _ => N - (intOf i).toNat)
  case atStart => exact ⟨0, rfl, Nat.zero_le _, ⟨⟨[], rfl, (fun u hu => by cases hu), World.ownsRow_nil _ _ _ _⟩, HB2.out, HB2.out.size⟩, fun j hj => by cases hj⟩
  case round =>
    obtain ⟨k, rfl, hk, h1, h3⟩ := hrel
    have HI1 : Hid _ := h1
    have HOWN : Hid _ := h3
    have hki : (k : Int) ≤ 6 := by omega
    by_cases hlt : k < N
    · have hki2 : (k : Int) < (N : Int) := by omega
      have hkul : k < zs.length := by rw [HN.out]; exact hlt
      have hku : zs[k]? = some zs[k] := List.getElem?_eq_getElem hkul
      have hne : zs ≠ [] := fun e => by have := HN.out; rw [e] at this; simp at this; omega
      obtain ⟨b0, o, rfl, hb0, hat⟩ := HZS.out hne
      have g0 := (HI1.out.low.cell (p := ⟨b0, o + k, none⟩) hb0).trans (hat k _ hku)
      obtain ⟨pk0, hpk, PK⟩ := pick_nat zs[k] 3 (HZN.out _ (List.getElem_mem hkul)) (by decide) (by decide)
      generalize zs[k] = z at *
      have HPK : Hid _ := PK
      have hp2 : (pk0 : Int) ≤ 2 := by omega
      obtain ⟨us, e1, e2, e3⟩ := h1.row
      obtain ⟨pc, cc, evc⟩ := own_slice e3
      subst evc
      have HROW : Hid _ := e3
      have HUL : Hid (us.length = k) := e1
      have HUO : Hid (∀ u ∈ us, unitOk u) := e2
      clear h1 h3 hat hku hne PK e1 e2 e3 hkul
      go_wp2_with (first
        | (go_at_call 20; refine (HPK.out _).mono ?_; rintro e w3 ⟨rfl, hb3⟩
           have HI3 : Hid _ := HI1.out.grow hb3
           have HR3 : Hid _ := own_below HROW.out hb3
           clear hb3)
        | (at_builtin
           have hba : Below w3.heap.size w3 (w3.alloc (.cells #[.int .i64 (1 + (pk0 : Int))] 3)) := (Below.refl _ _).alloc (Nat.le_refl _) _
           have HIA : Hid _ := HI3.out.grow hba
           have HRA := own_below HR3.out hba
           have HSZ : Hid (w.heap.size ≤ (w3.alloc (.cells #[.int .i64 (1 + (pk0 : Int))] 3)).heap.size) := HIA.out.le
           refine wpList_append_new _ rfl _ _ 111 rfl w.heap.size 3 i0 (.int .i64 0) 1 8 Tryz.underlying111 hi0 hq0 hq1 hq2 rfl (by decide) _ _ _ rfl HRA ⟨w3.heap.size, 0, none⟩ 1 1 [.int .i64 (1 + (pk0 : Int))] rfl rfl (new_one _ _ _) (fun u hu => by rw [List.mem_singleton.1 hu]; rfl) (by unfold maxLen; omega) (by omega) HSZ.out (by omega) ?_
           clear hba HRA)
        | fail)
      intro v2 w6 hown' hg' hvn
      rw [intRow_snoc] at hown'
      have HI6 : Hid (UI w.heap.size w (k + 1) v2 w6) := ⟨⟨_, by rw [List.length_append, HUL.out]; rfl, fun u hu => by
        rcases List.mem_append.1 hu with hu | hu
        · exact HUO.out u hu
        · rw [List.mem_singleton.1 hu]; unfold unitOk; omega, hown'⟩, HIA.out.low.grown hg' HSZ.out (fun j hj => HOWN.out j hj), Nat.le_trans HSZ.out hg'.size⟩
      have HVN : Hid (∀ j, v2.ownBlock = some j → w.heap.size ≤ j) := fun j hj => (hvn j hj).elim (HOWN.out j) fun h => by have h1 := HSZ.out; rw [World.size_alloc] at h1; have h : w3.heap.size + 1 ≤ j := h; omega
      obtain ⟨p6, c6, rfl⟩ := own_slice hown'
      clear hown' hg' hvn
      go_wp2
      go_roundw
      case rel => exact ⟨k + 1, by go_num, by omega, HI6.out, HVN.out⟩
      case measure => simp [intOf]; omega
    · obtain rfl : k = N := by omega
      have hki2 : ¬ ((k : Int) < (k : Int)) := by omega
      obtain ⟨pu, cu, euv⟩ := own_slice h1.row.choose_spec.2.2
      subst euv
      clear h1 h3
      go_wp2_with (first
        | (go_at_call 60; refine (CN.out _ _ HI1.out).mono ?_; rintro e w3 ⟨r, bx, bmx, bs, R0, rfl, e1, e2, e3, h3⟩
           have HBN : Hid (bs.length = k) := e1
           have HCN : Hid (R0.cl.length = k) := e3
           have HR3 : Hid _ := h3
           clear e1 e2 e3 h3)
        | fail)
      have HST : Hid (Sn w.heap.size w r bx bmx bs (s.length : Int) 0 [s] R0 (.slice (some ⟨w3.heap.size, 0, none⟩) 1 1) (w3.alloc (.cells #[.string ⟨s.toArray⟩] 9))) := ⟨HR3.out.grow ((Below.refl _ _).alloc (Nat.le_refl _) _), World.ownsRow_lit w3 #[.string ⟨s.toArray⟩] 1 HR3.out.le (by decide) rfl⟩
      go_upto_region 18 with (fail)
      generalize w3.alloc (.cells #[.string ⟨s.toArray⟩] 9) = W3 at *
      clear HR3
      go_loopw [13, 14] (fun uw i wr => ∃ m : Nat, i = .int .i64 m ∧ m ≤ M ∧ ∃ D R, Sn w.heap.size w r bx bmx bs (s.length : Int) m D R uw wr ∧ R.cl.length = k) (fun _ i _ => M - (intOf i).toNat)
      case atStart => exact ⟨0, rfl, Nat.zero_le _, _, _, HST.out, HCN.out⟩
      case round =>
        obtain ⟨m, rfl, hm, D, R, h4, h5⟩ := hrel
        have HS4 : Hid _ := h4
        have HC4 : Hid (R.cl.length = k) := h5
        have hmi : (m : Int) ≤ 60 := by omega
        obtain ⟨pw, cw, euw⟩ := own_slice h4.was
        subst euw
        obtain ⟨dl, dlast, dV, dt, dE⟩ := h4.rl.docs
        by_cases hmlt : m < M
        · as_aux_lemma =>
          have hmi2 : (m : Int) < (M : Int) := by omega
          have hml : m < l.length := by rw [HM.out]; exact hmlt
          have hlq : l[m]? = some l[m] := List.getElem?_eq_getElem hml
          have hne : l ≠ [] := fun e => by have := HM.out; rw [e] at this; simp at this; omega
          obtain ⟨b2, o2, rfl, hb2, hat2⟩ := HL.out hne
          obtain ⟨f0, f1, f2, v', f3, hop⟩ := hat2 m _ hlq
          have g0 := (h4.rl.low.cell (p := ⟨b2, o2 + m * 4, none⟩) hb2).trans f0
          have g1 := (h4.rl.low.cell (p := ⟨b2, o2 + m * 4 + 1, none⟩) hb2).trans f1
          have g2 := (h4.rl.low.cell (p := ⟨b2, o2 + m * 4 + 2, none⟩) hb2).trans f2
          have g3 := (h4.rl.low.cell (p := ⟨b2, o2 + m * 4 + 3, none⟩) hb2).trans f3
          have HWQ : Hid (sayWf l[m]) := HWF.out _ (List.getElem_mem hml)
          have HOPW : Hid (opAt wr v' l[m].op) := opAt_below hop h4.rl.low (Nat.le_refl _)
          obtain ⟨pv, cv, rfl, _⟩ := hop
          generalize l[m] = q at *
          obtain ⟨qa, qb, qc, qo⟩ := q
          simp only at g0 g1 g2 g3 HOPW
          have HDL : Hid (D.length = R.E.length + 1) := dl
          clear hat2 f0 f1 f2 f3 hlq hne h4 h5 dl dlast dV dt
          by_cases q5 : qa = 5
          · as_aux_lemma =>
            subst q5
            have HS5 : Hid (∀ o, Sn w.heap.size w r bx bmx bs (s.length : Int) (m + 1) D R (.slice pw D.length cw) (wr.alloc o)) := fun o => have h := HS4.out.grow ((Below.refl _ _).alloc (Nat.le_refl _) o); ⟨h.rl.later (Nat.le_succ _), h.was⟩
            go_wp2
            go_roundw
            case rel => exact ⟨m + 1, by go_num, by omega, D, R, HS5.out _, HC4.out⟩
            case measure => simp [intOf]; omega
          · as_aux_lemma =>
            have q5' : (qa == 5) = false := beq_eq_false_iff_ne.2 q5
            have CP : Hid (∀ o, Calls Tryz.prog 79 #[.pointer (some ⟨r, 0, none⟩), .int .i64 (k : Int), .agg #[.int .i64 qa, .int .i64 qb, .int .i64 qc, .slice pv qo.length cv]] (wr.alloc o) fun e w' => e = .returned (.bool true) ∧ ∃ R' D', Rl w.heap.size w r bx bmx bs (s.length : Int) (m + 1) D' R' w' ∧ R'.cl.length = R.cl.length ∧ (D' = D ∨ D' = D ++ [R'.t]) ∧ w'.ownsRow w.heap.size 9 1 (.slice pw D.length cw) D.length (strRow D)) := fun o => by
              have hb := (Below.refl wr.heap.size wr).alloc (Nat.le_refl _) o
              have := (HS4.out.grow hb).plays (by omega) (by rw [HBN.out]; exact hN1) (by rw [HBN.out]; exact hN6) ⟨qa, qb, qc, qo⟩ HWQ.out q5 (.slice pv qo.length cv) (opAt_below HOPW.out hb (Nat.le_refl _))
              rw [HBN.out] at this
              exact this
            go_upto_region 24 with (first
              | (go_at_call 79; refine (CP.out _).mono ?_; rintro e w4 ⟨rfl, R', D', a1', a2', a3', a4'⟩
                 have HR5 : Hid _ := a1'
                 have HC5 : Hid (R'.cl.length = k) := a2'.trans HC4.out
                 have H35 : Hid (D' = D ∨ D' = D ++ [R'.t]) := a3'
                 have HW5 : Hid _ := a4'
                 clear a1' a2' a3' a4')
              | fail)
            clear g0 g1 g2 g3 q5 q5'
            have CRV : Hid _ := rmRev_any HR5.out.room
            have CTX : Hid (∀ wx, Below w4.heap.size w4 wx → Calls Tryz.prog 75 #[.pointer (some ⟨r, 0, none⟩)] wx fun e w' => e = .returned (.string ⟨R'.t.toArray⟩) ∧ Below wx.heap.size wx w') := fun wx hbx => rmText_any (isRoom_below HR5.out.room hbx)
            have hDL := HDL.out
            obtain ⟨dl', dlast', _, _, dE'⟩ := HR5.out.docs
            have H5D : Hid (D'.length = R'.E.length + 1) := dl'
            have hEi : (R'.E.length : Int) ≤ 300 := by omega
            have hDi : (D.length : Int) ≤ 302 := by omega
            have hD1 : 1 ≤ (D.length : Int) := by omega
            clear hDL dl' dlast' dE' dE
            go_upto_block 4 with (first
              | (go_at_call 76; refine Calls.mono CRV.out ?_; rintro e x1 ⟨rfl, hx⟩; have HX1 : Hid (Below w4.heap.size w4 x1) := hx; clear hx)
              | fail)
            go_cut [13] from 77 to 173 (fun v13 wc => ∃ D2, Sn w.heap.size w r bx bmx bs (s.length : Int) (m + 1) D2 R' v13 wc)
            case first =>
              as_aux_lemma =>
              rcases H35.out with e | e
              · subst e
                have dl' := H5D.out
                have t1 : ((R'.E.length : Int) == (D'.length : Int)) = false := beq_eq_false_iff_ne.2 (by omega)
                have t2 : ((R'.E.length : Int) == (D'.length : Int) - 1) = true := by rw [beq_iff_eq]; omega
                have t3 : ¬ (R'.E.length : Int) = (D'.length : Int) := by omega
                have t4 : (R'.E.length : Int) = (D'.length : Int) - 1 := by omega
                have HF : Hid (Sn w.heap.size w r bx bmx bs (s.length : Int) (m + 1) D' R' (.slice pw D'.length cw) x1) := (⟨HR5.out, HW5.out⟩ : Sn w.heap.size w r bx bmx bs (s.length : Int) (m + 1) D' R' (.slice pw D'.length cw) w4).grow HX1.out
                clear CRV CTX HR5 HW5 H35 dl' H5D
                generalize (R'.E.length : Int) = EL at *
                go_wp2
                go_meet
                case rel => exact ⟨_, HF.out⟩
              · subst e
                have dl' := H5D.out
                have hEe : R'.E.length = D.length := by rw [List.length_append, List.length_singleton] at dl'; omega
                have HB1 := HX1.out
                have HROW : Hid _ := own_below HW5.out HX1.out
                have HRX : Hid _ := HR5.out.grow HX1.out
                have HLO : Hid (w.heap.size ≤ x1.heap.size) := HRX.out.le
                obtain ⟨i0, hi0, hq0, hq1, hq2⟩ := info_parts info_str
                rw [hEe]
                clear dl' hEe HB1 hEi H35 H5D
                go_wp2_with (first
                  | (go_at_call 75; refine (CTX.out _ HX1.out).mono ?_; rintro e x2 ⟨rfl, hx⟩
                     have HX2 : Hid (Below x1.heap.size x1 x2) := hx; clear hx)
                  | (at_builtin
                     have hba : Below x1.heap.size x1 (x2.alloc (.cells #[.string ⟨R'.t.toArray⟩] 9)) := HX2.out.trans (((Below.refl _ _).alloc (Nat.le_refl _) _).mono HX2.out.size)
                     have HRA := own_below HROW.out hba
                     have HRL : Hid _ := HRX.out.grow hba
                     have HRO : Hid _ := HRA
                     refine wpList_append_new _ rfl _ _ 80 rfl w.heap.size 9 i0 (.string ⟨#[]⟩) 1 16 Tryz.underlying80 hi0 hq0 hq1 hq2 rfl (by decide) _ _ _ rfl HRA ⟨x2.heap.size, 0, none⟩ 1 1 [.string ⟨R'.t.toArray⟩] rfl rfl (new_one _ _ _) (fun u hu => by rw [List.mem_singleton.1 hu]; rfl) (by unfold maxLen; omega) (by omega) (Nat.le_trans HLO.out hba.size) (by omega) ?_
                     clear hba HRA)
                  | fail)
                intro v2 w6 hown' hg' hvn
                rw [strRow_snoc] at hown'
                have HF : Hid (Sn w.heap.size w r bx bmx bs (s.length : Int) (m + 1) (D ++ [R'.t]) R' v2 w6) := ⟨HRL.out.row HRO.out hg', by rw [List.length_append]; exact hown'⟩
                obtain ⟨p6, c6, rfl⟩ := own_slice hown'
                clear hown' hg' hvn
                go_wp2
                go_meet
                case rel => exact ⟨_, HF.out⟩
            case rest =>
              as_aux_lemma =>
              obtain ⟨D2, hs2⟩ := hcut
              have HS6 : Hid _ := hs2
              clear CRV CTX HR5 HW5 H35 H5D hEi hDi hD1 HDL HX1 HS4 HOPW
              obtain ⟨p7, c7, ev7⟩ := own_slice hs2.was
              subst ev7
              obtain ⟨dl, dlast, dV, dt, dE⟩ := hs2.rl.docs
              have HROW6 : Hid _ := hs2.was
              have CTX : Hid (∀ wx, Below wc.heap.size wc wx → Calls Tryz.prog 75 #[.pointer (some ⟨r, 0, none⟩)] wx fun e w' => e = .returned (.string ⟨R'.t.toArray⟩) ∧ Below wx.heap.size wx w') := fun wx hbx => rmText_any (isRoom_below hs2.rl.room hbx)
              have CCT : Hid (∀ wx, Below wc.heap.size wc wx → Calls Tryz.prog 78 #[.string ⟨R'.t.toArray⟩] wx fun e w' => ∃ n1 n2 n3 n4, e = .returned (.tuple #[.agg #[.int .i64 n1, .int .i64 n2, .int .i64 n3, .int .i64 n4], .nilIface]) ∧ Below wx.heap.size wx w') := fun wx hb => srvNew_count R'.t (by omega) (V_scan dV) wx (hs2.rl.env.below hb).tabs
              have htz : (ByteArray.mk R'.t.toArray).size = R'.t.length := by simp [ByteArray.size]
              have htl : ¬ (2000 : Int) < (R'.t.length : Int) := by omega
              have hDi : (D2.length : Int) ≤ 302 := by omega
              clear hs2 dl dlast dV dt dE
              go_upto_region 33 with (first
                | (go_at_call 75; refine (CTX.out _ (Below.refl _ _)).mono ?_; rintro e x1 ⟨rfl, hx⟩; have HX1 : Hid (Below wc.heap.size wc x1) := hx; clear hx)
                | (go_at_call 78; refine (CCT.out _ HX1.out).mono ?_; rintro e x2 ⟨n1, n2, n3, n4, rfl, hx⟩
                   have HX2 : Hid (∀ o, Below wc.heap.size wc (x2.alloc o)) := fun o => (HX1.out.trans (hx.mono HX1.out.size)).alloc (Nat.le_trans HX1.out.size hx.size) o
                   clear hx HX1)
                | (go_at_call 75; refine (CTX.out _ (HX2.out _)).mono ?_; rintro e x3 ⟨rfl, hx⟩; have HX3 : Hid (Below wc.heap.size wc x3) := (HX2.out _).trans (hx.mono (HX2.out _).size); clear hx)
                | fail)
              have HS7 : Hid _ := HS6.out.grow HX3.out
              clear HX2 HX3 HS6 HROW6 CTX CCT
              go_loopw [18] (fun i wr => ∃ c : Nat, i = .int .i64 c ∧ c ≤ k ∧ Sn w.heap.size w r bx bmx bs (s.length : Int) (m + 1) D2 R' (.slice p7 D2.length c7) wr) (fun i _ => k - (intOf i).toNat)
              case atStart => exact ⟨0, rfl, Nat.zero_le _, HS7.out⟩
              case round =>
                as_aux_lemma =>
                obtain ⟨c, rfl, hc, h8⟩ := hrel
                have HS8 : Hid _ := h8
                have hci : (c : Int) ≤ 6 := by omega
                clear HS7
                by_cases hcl : c < k
                · have hci2 : (c : Int) < (k : Int) := by omega
                  obtain ⟨t1, t2, t3, t4⟩ := h8.rl.client (c := c) (by rw [HC5.out]; exact hcl)
                  obtain ⟨b, hb, hclc⟩ := rm_client h8.rl.room (k := c) (by rw [HC5.out]; exact hcl)
                  have CC1 : Hid _ := rmClient_ok h8.rl.room hb (by rw [HBN.out]; omega)
                  obtain ⟨g, egp, hgl, hgc⟩ := own_cell h8.was (strRow_get t3)
                  subst egp
                  have hrn : (clK R' c).2.rev = ((clK R' c).2.rev.toNat : Int) := by omega
                  have CR1 : Hid (∀ wx, Below wr.heap.size wr wx → Calls Tryz.prog 56 #[.pointer (some ⟨b, 0, none⟩)] wx fun e w' => e = .returned (.int .i64 ((clK R' c).2.rev.toNat : Int)) ∧ Below wx.heap.size wx w') := fun wx hbx => by
                    have := clRev_any (isCl_below hclc hbx)
                    rw [hrn] at this
                    exact this
                  have HY : Hid (∀ wx, Below wr.heap.size wr wx → wx.cell? ⟨g, (clK R' c).2.rev.toNat, none⟩ = some (.string ⟨(clK R' c).2.seen.toArray⟩)) := fun wx hbx => (hbx.cell (p := ⟨g, (clK R' c).2.rev.toNat, none⟩) hgl).trans hgc
                  have CS1 : Hid (∀ wx, Below wr.heap.size wr wx → Calls Tryz.prog 55 #[.pointer (some ⟨b, 0, none⟩)] wx fun e w' => e = .returned (.string ⟨(clK R' c).2.seen.toArray⟩) ∧ Below wx.heap.size wx w') := fun wx hbx => clSeen_any (isCl_below hclc hbx)
                  have CP1 : Hid (∀ wx, Below wr.heap.size wr wx → Calls Tryz.prog 58 #[.pointer (some ⟨b, 0, none⟩)] wx fun e w' => e = .returned (.bool (decide (0 < (clK R' c).2.mine.length))) ∧ Below wx.heap.size wx w') := fun wx hbx => clPending_any (isCl_below hclc hbx)
                  have CT1 : Hid (∀ wx, Below wr.heap.size wr wx → Calls Tryz.prog 54 #[.pointer (some ⟨b, 0, none⟩)] wx fun e w' => e = .returned (.string ⟨(clK R' c).2.doc.toArray⟩) ∧ Below wx.heap.size wx w') := fun wx hbx => clText_any (isCl_below hclc hbx)
                  have hr1 : ¬ ((clK R' c).2.rev.toNat : Int) < 0 := by omega
                  have hr2 : ((clK R' c).2.rev.toNat : Int) < (D2.length : Int) := by omega
                  have hr3 : ¬ (D2.length : Int) ≤ ((clK R' c).2.rev.toNat : Int) := by omega
                  by_cases hmn : (clK R' c).2.mine = []
                  · have hpd : decide (0 < (clK R' c).2.mine.length) = false := by rw [hmn]; rfl
                    rw [hpd] at CP1
                    rw [t4 hmn] at CT1
                    clear t1 t2 t3 t4 hb hclc hgc hrn hmn hpd h8
                    generalize (clK R' c).2.rev.toNat = rn at *
                    generalize (clK R' c).2.seen = sn at *
                    go_wp2_with (first
                      | (go_at_call 62; refine Calls.mono CC1.out ?_; rintro e x1 ⟨rfl, hx⟩; have HX1 : Hid (Below wr.heap.size wr x1) := hx; clear hx)
                      | (go_at_call 56; refine (CR1.out _ HX4.out).mono ?_; rintro e x5 ⟨rfl, hx⟩; have HX5 : Hid (Below wr.heap.size wr x5) := HX4.out.trans (hx.mono HX4.out.size); have y5 := HY.out _ HX5.out; clear hx HX4)
                      | (go_at_call 56; refine (CR1.out _ HX2.out).mono ?_; rintro e x3 ⟨rfl, hx⟩; have HX3 : Hid (Below wr.heap.size wr x3) := HX2.out.trans (hx.mono HX2.out.size); clear hx HX2)
                      | (go_at_call 56; refine (CR1.out _ HX1.out).mono ?_; rintro e x2 ⟨rfl, hx⟩; have HX2 : Hid (Below wr.heap.size wr x2) := HX1.out.trans (hx.mono HX1.out.size); clear hx HX1)
                      | (go_at_call 55; refine (CS1.out _ HX7.out).mono ?_; rintro e x8 ⟨rfl, hx⟩; have HX8 : Hid (Below wr.heap.size wr x8) := HX7.out.trans (hx.mono HX7.out.size); clear hx HX7)
                      | (go_at_call 55; refine (CS1.out _ HX3.out).mono ?_; rintro e x4 ⟨rfl, hx⟩; have HX4 : Hid (Below wr.heap.size wr x4) := HX3.out.trans (hx.mono HX3.out.size); clear hx HX3)
                      | (go_at_call 58; refine (CP1.out _ HX5.out).mono ?_; rintro e x6 ⟨rfl, hx⟩; have HX6 : Hid (Below wr.heap.size wr x6) := HX5.out.trans (hx.mono HX5.out.size); clear hx HX5)
                      | (go_at_call 54; refine (CT1.out _ HX6.out).mono ?_; rintro e x7 ⟨rfl, hx⟩; have HX7 : Hid (Below wr.heap.size wr x7) := HX6.out.trans (hx.mono HX6.out.size); clear hx HX6)
                      | fail)
                    go_roundw
                    case rel => exact ⟨c + 1, by go_num, by omega, HS8.out.grow HX8.out⟩
                    case measure => simp [intOf]; omega
                  · have hpd : decide (0 < (clK R' c).2.mine.length) = true := decide_eq_true (List.length_pos_iff.2 hmn)
                    rw [hpd] at CP1
                    clear t1 t2 t3 t4 hb hclc hgc hrn hmn hpd h8 CT1
                    generalize (clK R' c).2.rev.toNat = rn at *
                    generalize (clK R' c).2.seen = sn at *
                    go_wp2_with (first
                      | (go_at_call 62; refine Calls.mono CC1.out ?_; rintro e x1 ⟨rfl, hx⟩; have HX1 : Hid (Below wr.heap.size wr x1) := hx; clear hx)
                      | (go_at_call 56; refine (CR1.out _ HX4.out).mono ?_; rintro e x5 ⟨rfl, hx⟩; have HX5 : Hid (Below wr.heap.size wr x5) := HX4.out.trans (hx.mono HX4.out.size); have y5 := HY.out _ HX5.out; clear hx HX4)
                      | (go_at_call 56; refine (CR1.out _ HX2.out).mono ?_; rintro e x3 ⟨rfl, hx⟩; have HX3 : Hid (Below wr.heap.size wr x3) := HX2.out.trans (hx.mono HX2.out.size); clear hx HX2)
                      | (go_at_call 56; refine (CR1.out _ HX1.out).mono ?_; rintro e x2 ⟨rfl, hx⟩; have HX2 : Hid (Below wr.heap.size wr x2) := HX1.out.trans (hx.mono HX1.out.size); clear hx HX1)
                      | (go_at_call 55; refine (CS1.out _ HX7.out).mono ?_; rintro e x8 ⟨rfl, hx⟩; have HX8 : Hid (Below wr.heap.size wr x8) := HX7.out.trans (hx.mono HX7.out.size); clear hx HX7)
                      | (go_at_call 55; refine (CS1.out _ HX3.out).mono ?_; rintro e x4 ⟨rfl, hx⟩; have HX4 : Hid (Below wr.heap.size wr x4) := HX3.out.trans (hx.mono HX3.out.size); clear hx HX3)
                      | (go_at_call 58; refine (CP1.out _ HX5.out).mono ?_; rintro e x6 ⟨rfl, hx⟩; have HX6 : Hid (Below wr.heap.size wr x6) := HX5.out.trans (hx.mono HX5.out.size); clear hx HX5)
                      | (go_at_call 54; refine (CT1.out _ HX6.out).mono ?_; rintro e x7 ⟨rfl, hx⟩; have HX7 : Hid (Below wr.heap.size wr x7) := HX6.out.trans (hx.mono HX6.out.size); clear hx HX6)
                      | fail)
                    go_roundw
                    case rel => exact ⟨c + 1, by go_num, by omega, HS8.out.grow HX6.out⟩
                    case measure => simp [intOf]; omega
                · obtain rfl : c = k := by omega
                  have hci2 : ¬ ((c : Int) < (c : Int)) := by omega
                  clear h8
                  go_wp2
                  go_roundw
                  case rel => exact ⟨m + 1, by go_num, by omega, D2, R', HS8.out, HC5.out⟩
                  case measure => simp [intOf]; omega
        · as_aux_lemma =>
          obtain rfl : m = M := by omega
          have hmi2 : ¬ ((m : Int) < (m : Int)) := by omega
          obtain ⟨g, egp, hgl, hgc⟩ := own_cell h4.was (strRow_get dlast)
          subst egp
          have CTX : Hid (∀ wx, Below wr.heap.size wr wx → Calls Tryz.prog 75 #[.pointer (some ⟨r, 0, none⟩)] wx fun e w' => e = .returned (.string ⟨R.t.toArray⟩) ∧ Below wx.heap.size wx w') := fun wx hbx => rmText_any (isRoom_below h4.rl.room hbx)
          have HY : Hid (∀ wx, Below wr.heap.size wr wx → wx.cell? ⟨g, R.E.length, none⟩ = some (.string ⟨R.t.toArray⟩)) := fun wx hbx => (hbx.cell (p := ⟨g, R.E.length, none⟩) hgl).trans hgc
          have hsub : (D.length : Int) - 1 = (R.E.length : Int) := by omega
          have hwr : wrap64 ((D.length : Int) - 1) = (R.E.length : Int) := by rw [wrap64_small (by omega) (by omega)]; exact hsub
          have hlt : (R.E.length : Int) < (D.length : Int) := by omega
          have hDi : (D.length : Int) ≤ 302 := by omega
          have HLW : Hid (Below w.heap.size w wr ∧ w.heap.size ≤ wr.heap.size) := ⟨h4.rl.low, h4.rl.le⟩
          clear h4 h5 dl dlast dV dt dE HS4
          go_upto_region 38 with (fail)
          generalize R.E.length = EN at *
          generalize D.length = DN at *
          generalize R.t = tt at *
          have hwr2 : IntKind.i64.wrap (EN : Int) = (EN : Int) := by rw [IntKind.wrap_i64]; omega
          refine wp_region_set (fun wx : World => wx.cell? ⟨g, EN, none⟩ = some (.string ⟨tt.toArray⟩)) 10 10 (by kernel_rfl) rfl ?_
          intro w30 hb30
          have hz1 := HY.out w30 hb30
          obtain ⟨G, hG⟩ := exists_growZ (Z := fun wx : World => wx.cell? ⟨g, EN, none⟩ = some (.string ⟨tt.toArray⟩)) hz1 (fun {w w'} h hb => (hb.cell (p := ⟨g, EN, none⟩) (World.block_lt_of_cell? w _ h)).trans h)
          have y0 : ∀ yy, (G yy).cell? ⟨g, EN, none⟩ = some (.string ⟨tt.toArray⟩) := fun yy => hG.but yy
          (refine anyZ_step hG hz1 (i := 0) rfl (by kernel_rfl) (by kernel_rfl) (by kernel_rfl) (fun K hK => ?_); go_simp; refine hK _ ?_; clear hK K)
          (refine anyZ_step hG hz1 (i := 2) rfl (by kernel_rfl) (by kernel_rfl) (by kernel_rfl) (fun K hK => ?_); go_simp; refine hK _ ?_; clear hK K)
          (refine anyZ_step hG hz1 (i := 3) rfl (by kernel_rfl) (by kernel_rfl) (by kernel_rfl) (fun K hK => ?_); go_simp; refine hK _ ?_; clear hK K)
          (refine anyZ_step hG hz1 (i := 4) rfl (by kernel_rfl) (by kernel_rfl) (by kernel_rfl) (fun K hK => ?_); go_simp; refine hK _ ?_; clear hK K)
          (refine anyZ_step hG hz1 (i := 5) rfl (by kernel_rfl) (by kernel_rfl) (by kernel_rfl) (fun K hK => ?_); go_simp; refine hK _ ?_; clear hK K)
          (refine anyZ_step hG hz1 (i := 6) rfl (by kernel_rfl) (by kernel_rfl) (by kernel_rfl) (fun K hK => ?_); go_simp; refine hK _ ?_; clear hK K)
          (refine anyZ_step hG hz1 (i := 7) rfl (by kernel_rfl) (by kernel_rfl) (by kernel_rfl) (fun K hK => ?_); go_simp; refine hK _ ?_; clear hK K)
          clear y0 hG
          refine anyZ_one (i := 1) (by kernel_rfl) ⟨_, rfl, ?_⟩
          intro w31 hb31 K hK
          have hbA := hb30.trans (hb31.mono hb30.size)
          go_simp
          refine (CTX.out w31 hbA).mono ?_
          rintro e w2 ⟨rfl, hx⟩
          have HX2 : Hid (Below wr.heap.size wr w2) := hbA.trans (hx.mono hbA.size)
          refine ⟨_, rfl, hK _ _ (fun hz => (hx.cell (p := ⟨g, EN, none⟩) (World.block_lt_of_cell? w31 _ hz)).trans hz) ?_⟩
          clear hK K hbA hx hb30 hb31 hz1
          refine anyZ_one (i := 8) (by kernel_rfl) ⟨_, rfl, ?_⟩
          intro w32 hb32 K hK
          go_simp
          refine hK _ _ (fun hz => hz) ?_
          clear hK K
          refine anyZ_one (i := 9) (by kernel_rfl) ⟨_, rfl, ?_⟩
          intro w33 hb33 K hK
          go_simp
          refine hK _ _ (fun hz => hz) ?_
          clear hK K
          refine anyZ_end (by kernel_rfl) ?_
          intro w3 hb3
          have hb23 := (hb32.trans (hb33.mono hb32.size)).trans (hb3.mono (hb32.trans (hb33.mono hb32.size)).size)
          have HFIN : Hid (Below w.heap.size w w3) := HLW.out.1.trans ((HX2.out.trans (hb23.mono HX2.out.size)).mono HLW.out.2)
          clear hb32 hb33 hb3 hb23
          go_wp2
          go_ret
          exact ⟨rfl, HFIN.out⟩
end Go.Proofs.YtedgnlgjmnccgabGreatDoor
