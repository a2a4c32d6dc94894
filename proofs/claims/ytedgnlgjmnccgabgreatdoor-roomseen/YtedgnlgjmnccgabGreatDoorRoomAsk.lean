/-
  room.comes of an operation that is asked for; comes, whole.
-/
import Derived.Test.YtedgnlgjmnccgabGreatDoorRoomComes
namespace Go.Proofs.YtedgnlgjmnccgabGreatDoor
open Go.RowKit Go.Maps
set_option linter.unusedVariables false
attribute [local go_sem] Oper.semAt_some yieldsUpon okUpon

set_option maxRecDepth 100000 in
set_option maxHeartbeats 4000000 in
theorem rmComes_ask {lo : Nat} {w : World} {r bx bmx : Nat} {bs : List Nat} {R : Rm} {l0 n : Int} {D : List (List UInt8)} (he : Env lo w) (h : isRoom lo w r bx bmx bs R) (hi : Inv l0 n D R) (p : Pk) (hp : okPk R.E D R.cl.length p) (hk : p.kind = 1) (v : Value) (hx : opX lo w v p.x.op) (hbl : bs.length ≤ 1000) (hpot : potR R ≤ 100000000) :
    Calls Tryz.prog 133 #[.pointer (some ⟨r, 0, none⟩), pkV p v] w fun e w' => e = .returned (.tuple #[]) ∧ isRoom lo w' r bx bmx bs (askR l0 R p) ∧ sameBut w w' (touchM lo w bmx) := by
  obtain ⟨pv, cv, rfl⟩ := opX_shape hx
  obtain ⟨g1, g2, g3, g4⟩ := rm_box h p hx
  obtain ⟨k1, k2, k3⟩ := hi.counts (by omega)
  have hkn : R.n < 1000000000 := by unfold potR at hpot; omega
  obtain ⟨pc, cc, pf, cf, h2, h3, h4⟩ := isRoom_cells h
  obtain ⟨vc, hvc⟩ : ∃ vc, vc = Value.slice pc bs.length cc := ⟨_, rfl⟩
  rw [← hvc] at h2
  obtain ⟨xc, xi, d, hd, hgd, hpu⟩ := hp.ask hk
  have hdl := (hi.lk.fair d (List.mem_of_getElem? hd)).2
  obtain ⟨hwf, hxl⟩ := good_small hgd (by omega) (by omega)
  obtain ⟨D', hi', _, hEx, _⟩ := hi.srvK hp hk
  obtain ⟨m, hm⟩ : ∃ m : Nat, p.rev = (m : Int) := ⟨p.rev.toNat, by have := hp.rev.1; omega⟩
  have hml : m ≤ (srvR l0 R p).E.length := by
    have h1 := hp.rev.2
    rcases Nat.eq_zero_or_pos R.E.length with h0 | h0
    · omega
    · have := (List.getElem?_eq_some_iff.1 (hEx (R.E.length - 1) R.E[R.E.length - 1] (List.getElem?_eq_getElem (by omega)))).1
      omega
  have hcr : rng (p.c : Int) := by
    have := hp.c
    have := h.cls.len
    constructor <;> omega
  have hown := fun k => isPks_own (k := k) h4
  have HOWN : Hid (∀ k, (Value.slice pf R.fl.length cf).ownBlock = some k → k < w.heap.size) := fun k hk => (hown k hk).2.1
  have CT : Hid (∀ wx, Below w.heap.size w wx → Calls Tryz.prog 38 #[.pointer (some ⟨bx, 0, none⟩), .int .i64 (p.c : Int), .int .i64 p.id, .int .i64 p.rev, .slice pv p.x.op.length cv] wx fun e w' => e = .returned (errV (srvE l0 R p)) ∧ isRoom lo w' r bx bmx bs (srvR l0 R p) ∧ Env lo w' ∧ sameBut w w' (touchM lo w bmx) ∧ ∀ β, ZB r β r (.cells #[.pointer (some ⟨bx, 0, none⟩), vc, .slice pf R.fl.length cf, .int .i64 (R.lost : Int)] 215 (0, 0)) (.cells #[.int .i64 p.kind, .int .i64 (p.c : Int), .int .i64 p.rev, .int .i64 p.id, .int .i64 p.x.c, .int .i64 p.x.i, .slice pv p.x.op.length cv] 219 (0, 0)) (.cells #[.pointer (some ⟨bx, 0, none⟩), vc, .slice pf R.fl.length cf, .int .i64 (R.lost : Int)] 215 (0, 0)) wx → ZB r β r (.cells #[.pointer (some ⟨bx, 0, none⟩), vc, .slice pf R.fl.length cf, .int .i64 (R.lost : Int)] 215 (0, 0)) (.cells #[.int .i64 p.kind, .int .i64 (p.c : Int), .int .i64 p.rev, .int .i64 p.id, .int .i64 p.x.c, .int .i64 p.x.i, .slice pv p.x.op.length cv] 219 (0, 0)) (.cells #[.pointer (some ⟨bx, 0, none⟩), vc, .slice pf R.fl.length cf, .int .i64 (R.lost : Int)] 215 (0, 0)) w') := fun wx hbw => by
    have hr := isRoom_below h hbw
    have he := he.below hbw
    refine (srvTake_any hr.srv hi.srv (p.c : Int) p.id p.rev hcr (.slice pv p.x.op.length cv) p.x.op he.lay he.g1 he.tabs (opX_grown hx hbw).1 hwf (by omega) (by omega) hi.few hkn).mono ?_
    rintro e w' ⟨rfl, a, c⟩
    obtain ⟨i1, i2⟩ := isRoom_srv (R' := srvR l0 R p) hr a c rfl rfl rfl
    have no : ∀ x cs T fz, wx.heap[x]? = some (.cells cs T fz) → T ≠ 196 → T ≠ 105 → ¬ touchS lo wx bmx x := fun x cs T fz hx t1 t2 e => by
      rcases e.2 with rfl | ⟨cs', T', hc', hT⟩
      · exact noCells_map hr.srv.2.2.2 _ _ _ hx
      · have := not_type hx hc'
        subst this
        rcases hT with e | e
        · exact t1 e
        · exact t2 e
    exact ⟨rfl, i1, he.room i2, touchM_below hbw i2, fun β hz => hz.same c (no _ _ _ _ hz.b1 (by decide) (by decide)) (no _ _ _ _ hz.b2 (by decide) (by decide)) (no _ _ _ _ hz.b3 (by decide) (by decide))⟩
  have CTL : Hid (∀ wx, isRoom lo wx r bx bmx bs (srvR l0 R p) → Calls Tryz.prog 192 #[.pointer (some ⟨r, 0, none⟩), .int .i64 (p.c : Int), .int .i64 p.rev] wx fun e w' => e = .returned (.tuple #[]) ∧ isRoom lo w' r bx bmx bs (tellR (srvR l0 R p) p.c p.rev) ∧ keptF wx w' r) := fun wx hr => by
    rw [hm]
    exact rmTell_ok hr hi'.srv hi'.few p.c m hml (by show R.lost ≤ _; omega) k3
  have hls : (tellR (srvR l0 R p) p.c p.rev).lost ≤ R.lost + 300 ∧ (tellR (srvR l0 R p) p.c p.rev).fl.length ≤ 400 := by
    have hf := hi'.few
    unfold tellR
    split
    · exact ⟨Nat.le_add_right _ _, k3⟩
    · obtain ⟨a, b⟩ := tellL_lost p.c ((srvR l0 R p).E.drop p.rev.toNat) p.rev (srvR l0 R p) k3
      rw [List.length_drop] at a
      exact ⟨Nat.le_trans a (by show R.lost + _ ≤ R.lost + 300; omega), b⟩
  have CS : Hid (∀ wx, isRoom lo wx r bx bmx bs (tellR (srvR l0 R p) p.c p.rev) → Calls Tryz.prog 130 #[.pointer (some ⟨r, 0, none⟩), pkV (refuseP p) (.slice none 0 0)] wx fun e w' => e = .returned (.tuple #[]) ∧ isRoom lo w' r bx bmx bs (sendR (tellR (srvR l0 R p) p.c p.rev) (refuseP p)) ∧ keptF wx w' r) := fun wx hr =>
    rmSend_any hr (refuseP p) (.slice none 0 0) (opX_of_new (opN_none 0 wx)) (by omega) hls.2
  have CTE : Hid (∀ wx, Env lo wx → Calls Tryz.prog 27 #[errV (srvE l0 R p)] wx fun e w' => e = .returned (.int .i64 (srvE l0 R p)) ∧ Below wx.heap.size wx w') := fun wx he => srvTell_any _ wx he.lay
  have HB : Hid _ := g3
  have HE0 : Hid (Env lo w) := he
  have HZ : Hid (ZB r w.heap.size r (.cells #[.pointer (some ⟨bx, 0, none⟩), vc, .slice pf R.fl.length cf, .int .i64 (R.lost : Int)] 215 (0, 0)) (.cells #[.int .i64 p.kind, .int .i64 (p.c : Int), .int .i64 p.rev, .int .i64 p.id, .int .i64 p.x.c, .int .i64 p.x.i, .slice pv p.x.op.length cv] 219 (0, 0)) (.cells #[.pointer (some ⟨bx, 0, none⟩), vc, .slice pf R.fl.length cf, .int .i64 (R.lost : Int)] 215 (0, 0)) (w.alloc (.cells #[.int .i64 p.kind, .int .i64 (p.c : Int), .int .i64 p.rev, .int .i64 p.id, .int .i64 p.x.c, .int .i64 p.x.i, .slice pv p.x.op.length cv] 219))) :=
    ⟨(g3.block r (isRoom_lt h)).trans h2, g4, (g3.block r (isRoom_lt h)).trans h2⟩
  have hask : askR l0 R p = if srvE l0 R p ≠ 0 ∧ srvE l0 R p ≠ 8 then sendR (tellR (srvR l0 R p) p.c p.rev) (refuseP p) else tellR (srvR l0 R p) p.c p.rev := rfl
  rw [hask]
  unfold pkV at CS ⊢
  unfold refuseP noSE at *
  rw [hk] at *
  obtain ⟨β, hβ⟩ : ∃ β, w.heap.size = β := ⟨_, rfl⟩
  have HBT : Hid (w.heap.size = β) := hβ
  rw [hβ] at HZ
  have HRL : Hid (r < w.heap.size) := isRoom_lt h
  generalize tellR (srvR l0 R p) p.c p.rev = R2 at *
  generalize sendR R2 _ = R3 at *
  generalize srvR l0 R p = R1 at *
  generalize srvE l0 R p = EE at *
  generalize p.c = a1 at *
  generalize p.rev = a2 at *
  generalize p.id = a3 at *
  generalize p.x.c = a4 at *
  generalize p.x.i = a5 at *
  generalize p.x.op.length = a6 at *
  generalize R.fl.length = a7 at *
  generalize (R.lost : Int) = a8 at *
  clear h hi hp hx g1 g2 g3 g4 h2 h3 h4 hvc hd hgd hpu hdl hwf hxl hi' hEx hm hml hcr hown hls he hβ hask k1 k2 k3 hkn hpot xc xi hk hbl
  obtain ⟨RX, hRX⟩ : ∃ RX, (if EE ≠ 0 ∧ EE ≠ 8 then R3 else R2) = RX := ⟨_, rfl⟩
  rw [hRX]
  have HRX : Hid ((if EE ≠ 0 ∧ EE ≠ 8 then R3 else R2) = RX) := hRX
  clear hRX
  have hEV : ∃ u, errV EE = u := ⟨_, rfl⟩
  obtain ⟨u, hu⟩ := hEV
  rw [hu] at CT CTE
  clear hu
  go_enter Tryz.func133, Tryz.ntmps133
  go_wp2
  refine wp_region_set (fun wx : World => ZB r β r (.cells #[.pointer (some ⟨bx, 0, none⟩), vc, .slice pf a7 cf, .int .i64 a8] 215 (0, 0)) (.cells #[.int .i64 1, .int .i64 (a1 : Int), .int .i64 a2, .int .i64 a3, .int .i64 a4, .int .i64 a5, .slice pv a6 cv] 219 (0, 0)) (.cells #[.pointer (some ⟨bx, 0, none⟩), vc, .slice pf a7 cf, .int .i64 a8] 215 (0, 0)) wx) 16 16 (by kernel_rfl) rfl ?_
  intro w30 hb30
  have hz1 := HZ.out.grow hb30
  have hbA := HB.out.trans (hb30.mono HB.out.size)
  obtain ⟨G, hG⟩ := exists_growZ (Z := fun wx : World => ZB r β r (.cells #[.pointer (some ⟨bx, 0, none⟩), vc, .slice pf a7 cf, .int .i64 a8] 215 (0, 0)) (.cells #[.int .i64 1, .int .i64 (a1 : Int), .int .i64 a2, .int .i64 a3, .int .i64 a4, .int .i64 a5, .slice pv a6 cv] 219 (0, 0)) (.cells #[.pointer (some ⟨bx, 0, none⟩), vc, .slice pf a7 cf, .int .i64 a8] 215 (0, 0)) wx) hz1 (fun {w w'} h hb => ZB.grow h hb)
  have y0 : ∀ y, (G y).cell? ⟨r, 0, none⟩ = some (.pointer (some ⟨bx, 0, none⟩)) := fun y => Lib.cell_of_heap (hG.but y).b1 0
  have c1 : ∀ y, (G y).cell? ⟨β, 1, none⟩ = some (.int .i64 (a1 : Int)) := fun y => Lib.cell_of_heap (hG.but y).b2 1
  have c2 : ∀ y, (G y).cell? ⟨β, 2, none⟩ = some (.int .i64 a2) := fun y => Lib.cell_of_heap (hG.but y).b2 2
  have c3 : ∀ y, (G y).cell? ⟨β, 3, none⟩ = some (.int .i64 a3) := fun y => Lib.cell_of_heap (hG.but y).b2 3
  have c6 : ∀ y, (G y).cell? ⟨β, 6, none⟩ = some (.slice pv a6 cv) := fun y => Lib.cell_of_heap (hG.but y).b2 6
  rw [HBT.out]
  (refine anyZ_step hG hz1 (i := 0) rfl (by kernel_rfl) (by kernel_rfl) (by kernel_rfl) (fun K hK => ?_); go_simp; refine hK _ ?_; clear hK K)
  (refine anyZ_step hG hz1 (i := 1) rfl (by kernel_rfl) (by kernel_rfl) (by kernel_rfl) (fun K hK => ?_); go_simp; refine hK _ ?_; clear hK K)
  (refine anyZ_step hG hz1 (i := 2) rfl (by kernel_rfl) (by kernel_rfl) (by kernel_rfl) (fun K hK => ?_); go_simp; refine hK _ ?_; clear hK K)
  (refine anyZ_step hG hz1 (i := 3) rfl (by kernel_rfl) (by kernel_rfl) (by kernel_rfl) (fun K hK => ?_); go_simp; refine hK _ ?_; clear hK K)
  (refine anyZ_step hG hz1 (i := 4) rfl (by kernel_rfl) (by kernel_rfl) (by kernel_rfl) (fun K hK => ?_); go_simp; refine hK _ ?_; clear hK K)
  (refine anyZ_step hG hz1 (i := 5) rfl (by kernel_rfl) (by kernel_rfl) (by kernel_rfl) (fun K hK => ?_); go_simp; refine hK _ ?_; clear hK K)
  (refine anyZ_step hG hz1 (i := 6) rfl (by kernel_rfl) (by kernel_rfl) (by kernel_rfl) (fun K hK => ?_); go_simp; refine hK _ ?_; clear hK K)
  (refine anyZ_step hG hz1 (i := 7) rfl (by kernel_rfl) (by kernel_rfl) (by kernel_rfl) (fun K hK => ?_); go_simp; refine hK _ ?_; clear hK K)
  (refine anyZ_step hG hz1 (i := 8) rfl (by kernel_rfl) (by kernel_rfl) (by kernel_rfl) (fun K hK => ?_); go_simp; refine hK _ ?_; clear hK K)
  (refine anyZ_step hG hz1 (i := 9) rfl (by kernel_rfl) (by kernel_rfl) (by kernel_rfl) (fun K hK => ?_); go_simp; refine hK _ ?_; clear hK K)
  (refine anyZ_step hG hz1 (i := 10) rfl (by kernel_rfl) (by kernel_rfl) (by kernel_rfl) (fun K hK => ?_); go_simp; refine hK _ ?_; clear hK K)
  (refine anyZ_step hG hz1 (i := 11) rfl (by kernel_rfl) (by kernel_rfl) (by kernel_rfl) (fun K hK => ?_); go_simp; refine hK _ ?_; clear hK K)
  (refine anyZ_step hG hz1 (i := 12) rfl (by kernel_rfl) (by kernel_rfl) (by kernel_rfl) (fun K hK => ?_); go_simp; refine hK _ ?_; clear hK K)
  clear y0 c1 c2 c3 c6 hG
  refine anyZ_one (i := 13) (by kernel_rfl) ⟨_, rfl, ?_⟩
  intro w31 hb31 K hK
  have hz2 := hz1.grow hb31
  have hbB := hbA.trans (hb31.mono hbA.size)
  go_simp
  refine (CT.out w31 hbB).mono ?_
  rintro e w2 ⟨rfl, h2, he2, hs2, hzz⟩
  refine ⟨_, rfl, hK _ _ (fun hz => hzz β hz) ?_⟩
  have HZ2 : Hid (ZB r β r (.cells #[.pointer (some ⟨bx, 0, none⟩), vc, .slice pf a7 cf, .int .i64 a8] 215 (0, 0)) (.cells #[.int .i64 1, .int .i64 (a1 : Int), .int .i64 a2, .int .i64 a3, .int .i64 a4, .int .i64 a5, .slice pv a6 cv] 219 (0, 0)) (.cells #[.pointer (some ⟨bx, 0, none⟩), vc, .slice pf a7 cf, .int .i64 a8] 215 (0, 0)) w2) := hzz β hz2
  have H2 : Hid _ := h2
  have HE2 : Hid _ := he2
  have HS2 : Hid _ := hs2
  clear hK K hz1 hz2 hbA hbB hb30 hb31 h2 hs2 hzz he2
  refine anyZ_one (i := 14) (by kernel_rfl) ⟨_, rfl, ?_⟩
  intro w32 hb32 K hK
  go_simp
  refine (CTE.out w32 (HE2.out.below hb32)).mono ?_
  rintro e w3 ⟨rfl, hb3⟩
  refine ⟨_, rfl, hK _ _ (fun hz => ZB.grow hz hb3) ?_⟩
  have hb23 := hb32.trans (hb3.mono hb32.size)
  clear hK K
  refine anyZ_one (i := 15) (by kernel_rfl) ⟨_, rfl, ?_⟩
  intro w33 hb33 K hK
  go_simp
  refine hK _ _ (fun hz => hz) ?_
  clear hK K
  refine anyZ_end (by kernel_rfl) ?_
  intro w4 hb4
  have hb34 := hb33.trans (hb4.mono hb33.size)
  have hb24 := hb23.trans (hb34.mono hb23.size)
  have HB24 : Hid _ := hb24
  have hz4 := HZ2.out.grow hb24
  have HZ4 : Hid (ZB r β r (.cells #[.pointer (some ⟨bx, 0, none⟩), vc, .slice pf a7 cf, .int .i64 a8] 215 (0, 0)) (.cells #[.int .i64 1, .int .i64 (a1 : Int), .int .i64 a2, .int .i64 a3, .int .i64 a4, .int .i64 a5, .slice pv a6 cv] 219 (0, 0)) (.cells #[.pointer (some ⟨bx, 0, none⟩), vc, .slice pf a7 cf, .int .i64 a8] 215 (0, 0)) w4) := hz4
  have d1 : w4.cell? ⟨β, 1, none⟩ = some (.int .i64 (a1 : Int)) := Lib.cell_of_heap hz4.b2 1
  have d2 : w4.cell? ⟨β, 2, none⟩ = some (.int .i64 a2) := Lib.cell_of_heap hz4.b2 2
  have H4 : Hid _ := isRoom_below H2.out hb24
  have HS4 : Hid _ := touchM_after HS2.out hb24
  clear hb32 hb3 hb23 hb33 hb4 hb34 hb24 hz4
  have KB : Hid (∀ w5, keptF w4 w5 r → w5.heap[β]? = some (.cells #[.int .i64 1, .int .i64 (a1 : Int), .int .i64 a2, .int .i64 a3, .int .i64 a4, .int .i64 a5, .slice pv a6 cv] 219 (0, 0))) := fun w5 hf => by
    refine (hf.1.2 β (Array.getElem?_eq_some_iff.1 HZ4.out.b2).1 fun e => ?_).trans HZ4.out.b2
    rcases e with e | ⟨v, e, hk⟩
    · have h1 := HRL.out; have h2 := HBT.out; omega
    · have x2 : w4.cell? ⟨r, 2, none⟩ = some (.slice pf a7 cf) := Lib.cell_of_heap HZ4.out.b1 2
      rw [x2] at e
      obtain rfl := Option.some.inj e
      have h1 := HOWN.out β hk
      have h2 := HBT.out
      omega
  by_cases hz0 : EE = 0
  · subst hz0
    have HRY : Hid (R2 = RX) := (if_neg (fun e => e.1 rfl)).symm.trans HRX.out
    go_wp2_with (first
      | (go_at_call 192; refine (CTL.out _ H4.out).mono ?_; rintro e w5 ⟨rfl, h5, hs5⟩; have H5 : Hid _ := h5; have HS5 : Hid _ := touchM_trans HS4.out (touchF_M (hs5.touch H4.out)); clear h5 hs5)
      | fail)
    go_end0
    rw [← HRY.out]; exact ⟨rfl, H5.out, HS5.out⟩
  · by_cases hz8 : EE = 8
    · subst hz8
      have HRY : Hid (R2 = RX) := (if_neg (fun e => e.2 rfl)).symm.trans HRX.out
      go_wp2_with (first
        | (go_at_call 192; refine (CTL.out _ H4.out).mono ?_; rintro e w5 ⟨rfl, h5, hs5⟩; have H5 : Hid _ := h5; have HS5 : Hid _ := touchM_trans HS4.out (touchF_M (hs5.touch H4.out)); clear h5 hs5)
        | fail)
      go_end0
      rw [← HRY.out]; exact ⟨rfl, H5.out, HS5.out⟩
    · have HRY : Hid (R3 = RX) := (if_pos ⟨hz0, hz8⟩).symm.trans HRX.out
      have e0 : (EE != 0) = true := by simpa using hz0
      have e8 : (EE != 8) = true := by simpa using hz8
      go_wp2_with (first
        | (go_at_call 192; refine (CTL.out _ H4.out).mono ?_; rintro e w5 ⟨rfl, h5, hs5⟩; have H5 : Hid _ := h5; have hbx := KB.out w5 hs5; have q1 : w5.cell? ⟨β, 1, none⟩ = some (.int .i64 (a1 : Int)) := Lib.cell_of_heap hbx 1; have q3 : w5.cell? ⟨β, 3, none⟩ = some (.int .i64 a3) := Lib.cell_of_heap hbx 3; have HS5 : Hid _ := touchM_trans HS4.out (touchF_M (hs5.touch H4.out)); clear h5 hs5 hbx)
        | (go_at_call 130; refine (CS.out _ H5.out).mono ?_; rintro e w6 ⟨rfl, h6, hs6⟩; have H6 : Hid _ := h6; have HS6 : Hid _ := touchM_trans HS5.out (touchF_M (hs6.touch H5.out)); clear h6 hs6)
        | fail)
      go_end0
      rw [← HRY.out]; exact ⟨rfl, H6.out, HS6.out⟩
theorem rmComes_any {lo : Nat} {w : World} {r bx bmx : Nat} {bs : List Nat} {R : Rm} {l0 n : Int} {D : List (List UInt8)} (he : Env lo w) (h : isRoom lo w r bx bmx bs R) (hi : Inv l0 n D R) (hn : n ≤ 100000) (p : Pk) (hp : okPk R.E D R.cl.length p) (v : Value) (hx : opX lo w v p.x.op) (hbl : bs.length ≤ 1000) (hpot : potR R ≤ 100000000) :
    Calls Tryz.prog 133 #[.pointer (some ⟨r, 0, none⟩), pkV p v] w fun e w' => e = .returned (.tuple #[]) ∧ isRoom lo w' r bx bmx bs (comesR l0 R p) ∧ sameBut w w' (touchM lo w bmx) := by
  unfold comesR
  rcases hp.kind with k | k | k | k
  · rw [if_pos k]
    exact rmComes_ask he h hi p hp k v hx hbl hpot
  · rw [if_neg (by rw [k]; decide), if_pos k]
    exact rmComes_look h hi p hp k v hx (by omega)
  · rw [if_neg (by rw [k]; decide), if_neg (by rw [k]; decide), if_pos k]
    exact rmComes_told he h hi hn p hp k v hx hbl
  · rw [if_neg (by rw [k]; decide), if_neg (by rw [k]; decide), if_neg (by rw [k]; decide), if_pos k]
    exact rmComes_refuse he h hi hn p hp k v hx hbl
end Go.Proofs.YtedgnlgjmnccgabGreatDoor
