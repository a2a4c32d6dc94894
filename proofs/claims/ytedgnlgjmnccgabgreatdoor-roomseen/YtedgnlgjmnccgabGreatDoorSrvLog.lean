/-
  server.Log.
-/
import Derived.Test.YtedgnlgjmnccgabGreatDoorSrvTake
namespace Go.Proofs.YtedgnlgjmnccgabGreatDoor
open Go.RowKit Go.Maps
set_option linter.unusedVariables false
attribute [local go_sem] Oper.semAt_some

set_option maxRecDepth 100000 in
set_option maxHeartbeats 2000000 in
theorem srvLog_ok {lo n : Nat} {w : World} {b bm : Nat} {t : List UInt8} {E : List SE} {M : Told} (h : isSrv lo n w b bm t E M) {l0 : Int} (hok : okS l0 t E) (k : Nat) (hk : k ≤ E.length) (hn : E.length ≤ 1000) :
    Calls Tryz.prog 44 #[.pointer (some ⟨b, 0, none⟩), .int .i64 (k : Int)] w fun e w' => ∃ v', e = .returned (.tuple #[v', .nilIface]) ∧ isLog 105 lo w.heap.size w' v' (E.drop k) ∧ Below w.heap.size w w' := by
  have CR : Hid _ := srvRev_any lo n w b bm t E M h
  have CD : Hid _ := srvDone_any lo n w b bm t E M h
  obtain ⟨hlo, _, ⟨v1, h3, h4⟩, _⟩ := h
  obtain ⟨p, c1, rfl⟩ := isLog_shape h4
  have x1 : w.cell? ⟨b, 1, none⟩ = some (.slice p E.length c1) := Lib.cell_of_heap h3 1
  have HX1 : Hid (w.cell? ⟨b, 1, none⟩ = some (.slice p E.length c1)) := x1
  have HE : Hid (logAt lo w (if c1 = k then p else Option.map (fun x => x.add (k * 3)) p) (E.length - k) (c1 - k) (E.drop k)) := logAt_cut (logAt_of h4) hk
  have HLO : Hid (lo ≤ w.heap.size) := Nat.le_of_lt (Nat.lt_of_le_of_lt hlo (Array.getElem?_eq_some_iff.1 h3).1)
  have hc1 := (logAt_of h4).2.1
  have HOK : Hid (∀ x ∈ E.drop k, (∀ q ∈ x.op, q.put.length ≤ 10000000) ∧ x.op.length ≤ 10000000) := fun x hx => by
    obtain ⟨j, hj, rfl⟩ := List.getElem_of_mem (List.mem_of_mem_drop hx)
    obtain ⟨t1, t2, t3, t4, t5⟩ := chain_at E l0 j hj hok.chain hok.top
    have hb1 : endE l0 (E.take j) + putsP E[j].op < 1000000 := by omega
    exact ⟨fun q hq => by have := put_le_putsS q _ hq; omega, Nat.le_of_lt (t2.fine hb1).len⟩
  have hdl : (E.drop k).length = E.length - k := List.length_drop
  generalize hF : E.drop k = F at *
  have h0 : ¬ (k : Int) < 0 := by omega
  have h1 : ¬ (E.length : Int) < (k : Int) := by omega
  have h2 : (k : Int) ≤ (E.length : Int) := by omega
  have HN : Hid (E.length - k = F.length) := hdl.symm
  have HNN : Hid (F.length ≤ 1000) := by rw [hdl]; exact Nat.le_trans (Nat.sub_le _ _) hn
  obtain ⟨i0, hi, hq0, hq1, hq2⟩ := info_parts info_sentry
  have HI : Hid _ := hi
  have HQ0 : Hid _ := hq0
  have HQ1 : Hid _ := hq1
  have HQ2 : Hid _ := hq2
  clear hi hq0 hq1 hq2
  clear h3 h4 hok hdl hlo x1
  have hFL := HN.out
  have hni : (F.length : Int) ≤ 1000 := by have := HNN.out; omega
  by_cases hck : c1 = k
  · rw [if_pos hck, hck, Nat.sub_self, hFL] at HE
    rw [hck] at HX1
    go_enter Tryz.func44, Tryz.ntmps44
    go_wp2_with (first
      | (go_at_call 41; refine Calls.mono CR.out ?_; rintro e w1 ⟨hw, rfl⟩; obtain rfl := hw.symm)
      | (go_at_call 115; refine Calls.mono CD.out ?_; rintro e w1 ⟨hw, v1', rfl, hcc, _⟩; obtain rfl := hw.symm; rw [HX1.out] at hcc; obtain rfl := (Option.some.inj hcc).symm; clear hcc)
      | fail)
    all_goals
      go_loopw [6, 23] (fun v6 i wr => ∃ j : Nat, i = .int .i64 j ∧ j ≤ F.length ∧ isLog 105 lo w.heap.size wr v6 (F.take j) ∧ Below w.heap.size w wr) (fun _ i _ => F.length - (intOf i).toNat)
      case atStart => exact ⟨0, rfl, Nat.zero_le _, isLog_nil _ _ _ _, Below.refl _ _⟩
      case round =>
        obtain ⟨j, rfl, hj, hown, hbw⟩ := hrel
        obtain ⟨p6, c6, rfl⟩ := isLog_shape hown
        have hjl : (F.take j).length = j := by rw [List.length_take]; omega
        rw [hjl]
        have HOW : Hid (isLog 105 lo w.heap.size wr (.slice p6 j c6) (F.take j)) := by
          have := hown; rw [hjl] at this; exact this
        have HBW : Hid (Below w.heap.size w wr) := hbw
        have hws := hbw.size
        have HWS : Hid (w.heap.size ≤ wr.heap.size) := hws
        have HJL : Hid ((F.take j).length = j) := hjl
        have hjle := hown
        by_cases hlt : j < F.length
        · have hne : F ≠ [] := by intro e; rw [e] at hlt; exact absurd hlt (Nat.not_lt_zero _)
          have hcell0 := HE.out.2.2.2
          obtain ⟨g, o, ePP, hg, hcell⟩ := hcell0 hne
          clear hcell0
          subst ePP
          obtain ⟨ve, f0, f1, f2, f3⟩ := hcell j F[j] (List.getElem?_eq_getElem hlt)
          have g0 := (HBW.out.cell (p := ⟨g, o + j * 3, none⟩) hg).trans f0
          have g1 := (HBW.out.cell (p := ⟨g, o + j * 3 + 1, none⟩) hg).trans f1
          have g2 := (HBW.out.cell (p := ⟨g, o + j * 3 + 2, none⟩) hg).trans f2
          have HX : Hid (opAt wr ve F[j].op) := opAt_below f3.1 HBW.out (Nat.le_refl _)
          have HTK : Hid (F.take (j + 1) = F.take j ++ [F[j]]) := List.take_succ_eq_append_getElem hlt
          have HPL : Hid _ := HOK.out F[j] (List.getElem_mem hlt)
          have hki : (j : Int) < (F.length : Int) := by omega
          have hsh : ∃ p c, ve = .slice p F[j].op.length c := by obtain ⟨p, c, e, _⟩ := HX.out; exact ⟨p, c, e⟩
          obtain ⟨pe, ce, rfl⟩ := hsh
          clear hcell f0 f1 f2 f3 hne hown hbw hjle
          generalize F[j] = x at *
          obtain ⟨xc, xi, xo⟩ := x
          simp only at g0 g1 g2 HX HPL
          obtain ⟨xn, hxn⟩ : ∃ m, xo.length = m := ⟨_, rfl⟩
          rw [hxn] at g2 HX
          have HXN : Hid (xo.length = xn) := hxn
          have CO : Hid (∀ wx, Below wr.heap.size wr wx → Calls Tryz.prog 116 #[.slice pe xn ce] wx fun e w' => ∃ p' c', e = .returned (.slice p' xn c') ∧ opX lo w' (.slice p' xn c') xo ∧ Below wx.heap.size wx w') := fun wx hb =>
            (own_any _ xo wx (opAt_below HX.out hb (Nat.le_refl _)) HPL.out.1 HPL.out.2).mono fun e w' ⟨v', e1, ho, hb'⟩ => by
              obtain ⟨p', c', rfl⟩ := own_slice ho
              rw [HXN.out] at e1 ho
              exact ⟨p', c', e1, opX_own (by rw [HXN.out]; exact ho), hb'⟩
          obtain ⟨β, hβ⟩ : ∃ β, wr.heap.size = β := ⟨_, rfl⟩
          have HBT : Hid (wr.heap.size = β) := hβ
          clear hxn hjl hFL hck HN HOK
          go_wp2_with (first
            | (go_at_call 116; refine (CO.out _ ((Below.refl _ _).alloc (Nat.le_refl _) _)).mono ?_; rintro e w2 ⟨p', c', rfl, hx2, hb2⟩
               have hbox : w2.heap[β]? = some (.cells #[.int .i64 xc, .int .i64 xi, .slice pe xn ce] 105 (0, 0)) := (hb2.block β (by rw [World.size_alloc, HBT.out]; omega)).trans (by have := heap_alloc_new wr (.cells #[.int .i64 xc, .int .i64 xi, .slice pe xn ce] 105); rwa [HBT.out] at this)
               have y0 : w2.cell? ⟨β, 0, none⟩ = some (.int .i64 xc) := Lib.cell_of_heap hbox 0
               have y1 : w2.cell? ⟨β, 1, none⟩ = some (.int .i64 xi) := Lib.cell_of_heap hbox 1
               have y2 : w2.cell? ⟨β, 2, none⟩ = some (.slice pe xn ce) := Lib.cell_of_heap hbox 2
               have xf : w2.frozen? ⟨β, 2, none⟩ = false := frozen_block hbox
               have HB2 : Hid (Below w.heap.size w w2) := (HBW.out.alloc HWS.out _).trans (hb2.mono (by rw [World.size_alloc]; have := HWS.out; omega))
               have hs2 : β + 1 ≤ w2.heap.size := by have := hb2.size; rw [World.size_alloc, HBT.out] at this; exact this
               have HS2 : Hid (β + 1 ≤ w2.heap.size) := hs2
               have HLW : Hid (lo ≤ β) := by have := HLO.out; have := HWS.out; have := HBT.out; show lo ≤ β; omega
               have hlg2 : isLog 105 lo w.heap.size w2 (.slice p6 j c6) (F.take j) := isLog_below (isLog_below HOW.out ((Below.refl _ _).alloc (Nat.le_refl _) _)) hb2
               have hnp : noPart w2 β := noPart_of hbox (by decide)
               have hset : sameBut w2 (w2.setCell ⟨β, 2, none⟩ (.slice p' xn c')) (fun k => k = β) := sameBut_set rfl
               have hlg3 : ∃ vs, vs.length = (F.take j).length ∧ ((w2.setCell ⟨β, 2, none⟩ (.slice p' xn c')).alloc (.cells #[.int .i64 xc, .int .i64 xi, .slice p' xn c'] 105)).ownsRow w.heap.size 105 3 (.slice p6 j c6) j (logC (F.take j) vs) ∧ ∀ w6 v2, w6.ownsRow w.heap.size 105 3 v2 (j + 1) (logC (F.take j) vs ++ [.int .i64 xc, .int .i64 xi, .slice p' xn c']) → ((w2.setCell ⟨β, 2, none⟩ (.slice p' xn c')).alloc (.cells #[.int .i64 xc, .int .i64 xi, .slice p' xn c'] 105)).grownBy w6 (Value.slice p6 j c6).ownBlock → isLog 105 lo w.heap.size w6 v2 (F.take j ++ [⟨xc, xi, xo⟩]) := by
                 obtain ⟨vs, q1, q2, q3⟩ := hlg2
                 have hbw3 : Below (w2.setCell ⟨β, 2, none⟩ (.slice p' xn c')).heap.size (w2.setCell ⟨β, 2, none⟩ (.slice p' xn c')) ((w2.setCell ⟨β, 2, none⟩ (.slice p' xn c')).alloc (.cells #[.int .i64 xc, .int .i64 xi, .slice p' xn c'] 105)) := (Below.refl _ _).alloc (Nat.le_refl _) _
                 have hmv : ∀ {v q}, opX lo w2 v q → opX lo ((w2.setCell ⟨β, 2, none⟩ (.slice p' xn c')).alloc (.cells #[.int .i64 xc, .int .i64 xi, .slice p' xn c'] 105)) v q := fun hx => opX_grown (opX_but hx hset fun k hk => by obtain rfl := hk; exact ⟨HLW.out, hnp⟩) hbw3
                 have hnb : ∀ k, (Value.slice p6 j c6).ownBlock = some k → k < β := fun k hk => by
                   have := (log_own HOW.out hk).2.1
                   have := HBT.out; omega
                 have q2' := own_below (own_setS q2 hnb (.slice p' xn c')) hbw3
                 rw [HJL.out] at q2'
                 refine ⟨vs, q1, q2', fun w6 v2 hn6 hg6 => ?_⟩
                 refine isLog_snoc (x := ⟨xc, xi, xo⟩) (by decide) HLO.out q1 (by rw [HJL.out]; exact q2') (fun i y v hy hv => hmv (q3 i y v hy hv)) (hmv hx2) hg6 ?_
                 rw [HJL.out]; exact hn6
               obtain ⟨vs, m1, m2, m3⟩ := hlg3
               have M2 : Hid _ := m2
               have M3 : Hid _ := m3
               clear hb2 hbox hlg2 hnp hset m2 m3 hx2)
            | (at_builtin; refine wpList_append_own _ rfl _ _ 87 rfl w.heap.size 105 i0 (.agg #[.int .i64 0, .int .i64 0, .slice none 0 0]) 3 40 Tryz.underlying87 HI.out HQ0.out HQ1.out HQ2.out rfl (by decide) _ _ _ rfl M2.out ⟨w2.heap.size, 0, none⟩ 1 1 [.int .i64 xc, .int .i64 xi, .slice p' xn c'] rfl rfl (cells_newS _ _ (by first | rfl | simp) _ _) (entry_one _ _ _ _ _) (by have := HNN.out; unfold maxLen; omega) (by have := HNN.out; omega) (by have := HB2.out.size; simp; omega) ?_)
            | fail)
          all_goals
            intro v2 w6 hown' hg' _
            obtain ⟨p7, c7, rfl⟩ := own_slice hown'
            have HO3 : Hid (isLog 105 lo w.heap.size w6 (.slice p7 (j + 1) c7) (F.take (j + 1))) := by
              rw [HTK.out]; exact M3.out w6 _ hown' hg'
            have HB3 : Hid (Below w.heap.size w w6) := ((HB2.out.setCell (p := ⟨β, 2, none⟩) (by show w.heap.size ≤ β; have := HWS.out; have := HBT.out; omega) _).alloc (by rw [World.size_setCell]; exact HB2.out.size) _).grown hg' (by simp; have := HB2.out.size; omega) fun k hk => (log_own HOW.out hk).1
            clear hown' hg' y0 y1 y2 xf g0 g1 g2
            go_wp2
            exact ⟨⟨j + 1, by go_num, by omega, HO3.out, HB3.out⟩, by simp [intOf]; omega⟩
        · obtain rfl : j = F.length := by omega
          have hki : ¬ ((F.length : Int) < (F.length : Int)) := by omega
          have HTK : Hid (F.take F.length = F) := List.take_length
          clear hown hbw hjle
          go_wp2
          go_ret2
          have := HOW.out
          rw [HTK.out] at this
          exact ⟨_, rfl, this, HBW.out⟩
  · rw [if_neg hck, hFL] at HE
    go_enter Tryz.func44, Tryz.ntmps44
    go_wp2_with (first
      | (go_at_call 41; refine Calls.mono CR.out ?_; rintro e w1 ⟨hw, rfl⟩; obtain rfl := hw.symm)
      | (go_at_call 115; refine Calls.mono CD.out ?_; rintro e w1 ⟨hw, v1', rfl, hcc, _⟩; obtain rfl := hw.symm; rw [HX1.out] at hcc; obtain rfl := (Option.some.inj hcc).symm; clear hcc)
      | fail)
    all_goals
      generalize Option.map (fun x => x.add (k * 3)) p = P at *
      go_loopw [6, 23] (fun v6 i wr => ∃ j : Nat, i = .int .i64 j ∧ j ≤ F.length ∧ isLog 105 lo w.heap.size wr v6 (F.take j) ∧ Below w.heap.size w wr) (fun _ i _ => F.length - (intOf i).toNat)
      case atStart => exact ⟨0, rfl, Nat.zero_le _, isLog_nil _ _ _ _, Below.refl _ _⟩
      case round =>
        obtain ⟨j, rfl, hj, hown, hbw⟩ := hrel
        obtain ⟨p6, c6, rfl⟩ := isLog_shape hown
        have hjl : (F.take j).length = j := by rw [List.length_take]; omega
        rw [hjl]
        have HOW : Hid (isLog 105 lo w.heap.size wr (.slice p6 j c6) (F.take j)) := by
          have := hown; rw [hjl] at this; exact this
        have HBW : Hid (Below w.heap.size w wr) := hbw
        have hws := hbw.size
        have HWS : Hid (w.heap.size ≤ wr.heap.size) := hws
        have HJL : Hid ((F.take j).length = j) := hjl
        have hjle := hown
        by_cases hlt : j < F.length
        · have hne : F ≠ [] := by intro e; rw [e] at hlt; exact absurd hlt (Nat.not_lt_zero _)
          have hcell0 := HE.out.2.2.2
          obtain ⟨g, o, ePP, hg, hcell⟩ := hcell0 hne
          clear hcell0
          subst ePP
          obtain ⟨ve, f0, f1, f2, f3⟩ := hcell j F[j] (List.getElem?_eq_getElem hlt)
          have g0 := (HBW.out.cell (p := ⟨g, o + j * 3, none⟩) hg).trans f0
          have g1 := (HBW.out.cell (p := ⟨g, o + j * 3 + 1, none⟩) hg).trans f1
          have g2 := (HBW.out.cell (p := ⟨g, o + j * 3 + 2, none⟩) hg).trans f2
          have HX : Hid (opAt wr ve F[j].op) := opAt_below f3.1 HBW.out (Nat.le_refl _)
          have HTK : Hid (F.take (j + 1) = F.take j ++ [F[j]]) := List.take_succ_eq_append_getElem hlt
          have HPL : Hid _ := HOK.out F[j] (List.getElem_mem hlt)
          have hki : (j : Int) < (F.length : Int) := by omega
          have hsh : ∃ p c, ve = .slice p F[j].op.length c := by obtain ⟨p, c, e, _⟩ := HX.out; exact ⟨p, c, e⟩
          obtain ⟨pe, ce, rfl⟩ := hsh
          clear hcell f0 f1 f2 f3 hne hown hbw hjle
          generalize F[j] = x at *
          obtain ⟨xc, xi, xo⟩ := x
          simp only at g0 g1 g2 HX HPL
          obtain ⟨xn, hxn⟩ : ∃ m, xo.length = m := ⟨_, rfl⟩
          rw [hxn] at g2 HX
          have HXN : Hid (xo.length = xn) := hxn
          have CO : Hid (∀ wx, Below wr.heap.size wr wx → Calls Tryz.prog 116 #[.slice pe xn ce] wx fun e w' => ∃ p' c', e = .returned (.slice p' xn c') ∧ opX lo w' (.slice p' xn c') xo ∧ Below wx.heap.size wx w') := fun wx hb =>
            (own_any _ xo wx (opAt_below HX.out hb (Nat.le_refl _)) HPL.out.1 HPL.out.2).mono fun e w' ⟨v', e1, ho, hb'⟩ => by
              obtain ⟨p', c', rfl⟩ := own_slice ho
              rw [HXN.out] at e1 ho
              exact ⟨p', c', e1, opX_own (by rw [HXN.out]; exact ho), hb'⟩
          obtain ⟨β, hβ⟩ : ∃ β, wr.heap.size = β := ⟨_, rfl⟩
          have HBT : Hid (wr.heap.size = β) := hβ
          clear hxn hjl hFL hck HN HOK
          go_wp2_with (first
            | (go_at_call 116; refine (CO.out _ ((Below.refl _ _).alloc (Nat.le_refl _) _)).mono ?_; rintro e w2 ⟨p', c', rfl, hx2, hb2⟩
               have hbox : w2.heap[β]? = some (.cells #[.int .i64 xc, .int .i64 xi, .slice pe xn ce] 105 (0, 0)) := (hb2.block β (by rw [World.size_alloc, HBT.out]; omega)).trans (by have := heap_alloc_new wr (.cells #[.int .i64 xc, .int .i64 xi, .slice pe xn ce] 105); rwa [HBT.out] at this)
               have y0 : w2.cell? ⟨β, 0, none⟩ = some (.int .i64 xc) := Lib.cell_of_heap hbox 0
               have y1 : w2.cell? ⟨β, 1, none⟩ = some (.int .i64 xi) := Lib.cell_of_heap hbox 1
               have y2 : w2.cell? ⟨β, 2, none⟩ = some (.slice pe xn ce) := Lib.cell_of_heap hbox 2
               have xf : w2.frozen? ⟨β, 2, none⟩ = false := frozen_block hbox
               have HB2 : Hid (Below w.heap.size w w2) := (HBW.out.alloc HWS.out _).trans (hb2.mono (by rw [World.size_alloc]; have := HWS.out; omega))
               have hs2 : β + 1 ≤ w2.heap.size := by have := hb2.size; rw [World.size_alloc, HBT.out] at this; exact this
               have HS2 : Hid (β + 1 ≤ w2.heap.size) := hs2
               have HLW : Hid (lo ≤ β) := by have := HLO.out; have := HWS.out; have := HBT.out; show lo ≤ β; omega
               have hlg2 : isLog 105 lo w.heap.size w2 (.slice p6 j c6) (F.take j) := isLog_below (isLog_below HOW.out ((Below.refl _ _).alloc (Nat.le_refl _) _)) hb2
               have hnp : noPart w2 β := noPart_of hbox (by decide)
               have hset : sameBut w2 (w2.setCell ⟨β, 2, none⟩ (.slice p' xn c')) (fun k => k = β) := sameBut_set rfl
               have hlg3 : ∃ vs, vs.length = (F.take j).length ∧ ((w2.setCell ⟨β, 2, none⟩ (.slice p' xn c')).alloc (.cells #[.int .i64 xc, .int .i64 xi, .slice p' xn c'] 105)).ownsRow w.heap.size 105 3 (.slice p6 j c6) j (logC (F.take j) vs) ∧ ∀ w6 v2, w6.ownsRow w.heap.size 105 3 v2 (j + 1) (logC (F.take j) vs ++ [.int .i64 xc, .int .i64 xi, .slice p' xn c']) → ((w2.setCell ⟨β, 2, none⟩ (.slice p' xn c')).alloc (.cells #[.int .i64 xc, .int .i64 xi, .slice p' xn c'] 105)).grownBy w6 (Value.slice p6 j c6).ownBlock → isLog 105 lo w.heap.size w6 v2 (F.take j ++ [⟨xc, xi, xo⟩]) := by
                 obtain ⟨vs, q1, q2, q3⟩ := hlg2
                 have hbw3 : Below (w2.setCell ⟨β, 2, none⟩ (.slice p' xn c')).heap.size (w2.setCell ⟨β, 2, none⟩ (.slice p' xn c')) ((w2.setCell ⟨β, 2, none⟩ (.slice p' xn c')).alloc (.cells #[.int .i64 xc, .int .i64 xi, .slice p' xn c'] 105)) := (Below.refl _ _).alloc (Nat.le_refl _) _
                 have hmv : ∀ {v q}, opX lo w2 v q → opX lo ((w2.setCell ⟨β, 2, none⟩ (.slice p' xn c')).alloc (.cells #[.int .i64 xc, .int .i64 xi, .slice p' xn c'] 105)) v q := fun hx => opX_grown (opX_but hx hset fun k hk => by obtain rfl := hk; exact ⟨HLW.out, hnp⟩) hbw3
                 have hnb : ∀ k, (Value.slice p6 j c6).ownBlock = some k → k < β := fun k hk => by
                   have := (log_own HOW.out hk).2.1
                   have := HBT.out; omega
                 have q2' := own_below (own_setS q2 hnb (.slice p' xn c')) hbw3
                 rw [HJL.out] at q2'
                 refine ⟨vs, q1, q2', fun w6 v2 hn6 hg6 => ?_⟩
                 refine isLog_snoc (x := ⟨xc, xi, xo⟩) (by decide) HLO.out q1 (by rw [HJL.out]; exact q2') (fun i y v hy hv => hmv (q3 i y v hy hv)) (hmv hx2) hg6 ?_
                 rw [HJL.out]; exact hn6
               obtain ⟨vs, m1, m2, m3⟩ := hlg3
               have M2 : Hid _ := m2
               have M3 : Hid _ := m3
               clear hb2 hbox hlg2 hnp hset m2 m3 hx2)
            | (at_builtin; refine wpList_append_own _ rfl _ _ 87 rfl w.heap.size 105 i0 (.agg #[.int .i64 0, .int .i64 0, .slice none 0 0]) 3 40 Tryz.underlying87 HI.out HQ0.out HQ1.out HQ2.out rfl (by decide) _ _ _ rfl M2.out ⟨w2.heap.size, 0, none⟩ 1 1 [.int .i64 xc, .int .i64 xi, .slice p' xn c'] rfl rfl (cells_newS _ _ (by first | rfl | simp) _ _) (entry_one _ _ _ _ _) (by have := HNN.out; unfold maxLen; omega) (by have := HNN.out; omega) (by have := HB2.out.size; simp; omega) ?_)
            | fail)
          all_goals
            intro v2 w6 hown' hg' _
            obtain ⟨p7, c7, rfl⟩ := own_slice hown'
            have HO3 : Hid (isLog 105 lo w.heap.size w6 (.slice p7 (j + 1) c7) (F.take (j + 1))) := by
              rw [HTK.out]; exact M3.out w6 _ hown' hg'
            have HB3 : Hid (Below w.heap.size w w6) := ((HB2.out.setCell (p := ⟨β, 2, none⟩) (by show w.heap.size ≤ β; have := HWS.out; have := HBT.out; omega) _).alloc (by rw [World.size_setCell]; exact HB2.out.size) _).grown hg' (by simp; have := HB2.out.size; omega) fun k hk => (log_own HOW.out hk).1
            clear hown' hg' y0 y1 y2 xf g0 g1 g2
            go_wp2
            exact ⟨⟨j + 1, by go_num, by omega, HO3.out, HB3.out⟩, by simp [intOf]; omega⟩
        · obtain rfl : j = F.length := by omega
          have hki : ¬ ((F.length : Int) < (F.length : Int)) := by omega
          have HTK : Hid (F.take F.length = F) := List.take_length
          clear hown hbw hjle
          go_wp2
          go_ret2
          have := HOW.out
          rw [HTK.out] at this
          exact ⟨_, rfl, this, HBW.out⟩
end Go.Proofs.YtedgnlgjmnccgabGreatDoor
