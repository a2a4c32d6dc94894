/-
  rosettakeep.plays: an edit, and every act.
-/
import Derived.Test.YtedgnlgjmnccgabGreatDoorKeepPlays
import Derived.Test.YtedgnlgjmnccgabGreatDoorShapePl
namespace Go.Proofs.YtedgnlgjmnccgabGreatDoor
open Go.RowKit Go.Maps
set_option linter.unusedVariables false
attribute [local go_sem] Oper.semAt_some yieldsUpon okUpon

theorem box_keptK {wx w' : World} {lo b : Nat} {who u : Int} {S : Cl} {β : Nat} {cs : Array Value} {T : TypeId} (h : isCl lo wx b who u S) (hk : keptC wx w' b) (hb : wx.heap[β]? = some (.cells cs T (0, 0))) (t1 : T ≠ 203) (t2 : T ≠ 23) : w'.heap[β]? = some (.cells cs T (0, 0)) :=
  (hk.1.2 β (Array.getElem?_eq_some_iff.1 hb).1 fun e => by
    obtain ⟨_, _, cs', T', hc, hT⟩ := ownC_of h e
    have := not_type hb hc
    subst this
    rcases hT with e | e
    · exact t1 e
    · exact t2 e).trans hb
set_option maxRecDepth 100000 in
set_option maxHeartbeats 4000000 in
theorem plays_edit {lo : Nat} {w : World} {r bx bmx : Nat} {bs : List Nat} {l0 n : Int} {D : List (List UInt8)} {R : Rm} (h : Rok lo w r bx bmx bs l0 n D R) (kk pp : Int) (hkk : -9223372036854775808 ≤ kk ∧ kk < 9223372036854775808) (hpp : -9223372036854775808 ≤ pp ∧ pp < 9223372036854775808) (v : Value) (ps : List Pt) (hv : opAt w v ps) (hwf : ∀ p ∈ ps, p.put.length ≤ 150 → wfP p) :
    Calls Tryz.prog 79 #[.pointer (some ⟨r, 0, none⟩), .int .i64 (bs.length : Int), .agg #[.int .i64 0, .int .i64 kk, .int .i64 pp, v]] w fun e w' => e = .returned (.bool true) ∧ LeftK True lo w r bx bmx bs l0 n D R w' := by
  obtain ⟨k, hk, PK⟩ := pick_nat kk bs.length hkk (by have := h.one; omega) (by have := h.len; omega)
  have HPK : Hid _ := PK
  have HR : Hid _ := h
  have hkc : k < R.cl.length := by rw [← h.cl]; exact hk
  obtain ⟨b, hb, hcl⟩ := rm_client h.room hkc
  obtain ⟨_, hck⟩ := h.inv.clk hkc
  have hsm := hck.small h.inv.lk
  have hdl := hck.ok.len
  obtain ⟨rs, hRr, hd⟩ := hck.ok.V
  obtain ⟨mu, hmu, hmn⟩ : ∃ m : Nat, (clK R k).1 = (m : Int) ∧ unitN m := by
    rcases hck.unit with e | e | e
    · exact ⟨1, e, .inl rfl⟩
    · exact ⟨2, e, .inr (.inl rfl)⟩
    · exact ⟨3, e, .inr (.inr rfl)⟩
  have hC1 : C1 rs ≤ 6000 := by
    have : (encs rs).length = C1 rs := (C1_len rs).symm
    rw [← this, ← hd]; omega
  have hN0 := by_pos (mu : Int) rs
  have hN1 := by_le3 (u := (mu : Int)) (by rw [← hmu]; exact hck.unit) rs
  have HV : Hid (opAt w v ps) := hv
  obtain ⟨pv, cv, rfl, _, _, _⟩ := hv
  obtain ⟨β, hβ⟩ : ∃ β, w.heap.size = β := ⟨_, rfl⟩
  have HBT : Hid (w.heap.size = β) := hβ
  have HMY : Hid (∀ wx, Below w.heap.size w wx → Calls Tryz.prog 73 #[.pointer (some ⟨r, 0, none⟩)] wx fun e w' => e = .returned (.int .i64 (R.fl.length : Int)) ∧ Below wx.heap.size wx w') := fun wx hb => rmMany_any (h.grow hb).room
  have CC : Hid (∀ wx, Below w.heap.size w wx → Calls Tryz.prog 62 #[.pointer (some ⟨r, 0, none⟩), .int .i64 (k : Int)] wx fun e w' => e = .returned (.tuple #[.pointer (some ⟨b, 0, none⟩), .nilIface]) ∧ Below wx.heap.size wx w') := fun wx hbx => rmClient_ok (h.grow hbx).room hb (by have := h.len; omega)
  have CU : Hid (∀ wx, Below w.heap.size w wx → Calls Tryz.prog 57 #[.pointer (some ⟨b, 0, none⟩)] wx fun e w' => e = .returned (.int .i64 (mu : Int)) ∧ Below wx.heap.size wx w') := fun wx hbx => by rw [← hmu]; exact clUnit_any (isCl_below hcl hbx)
  have CT : Hid (∀ wx, Below w.heap.size w wx → Calls Tryz.prog 54 #[.pointer (some ⟨b, 0, none⟩)] wx fun e w' => e = .returned (.string (bytesOf rs)) ∧ Below wx.heap.size wx w') := fun wx hbx => by
    have := clText_any (isCl_below hcl hbx)
    rw [hd] at this
    exact this
  have CN : Hid (∀ wx, Below w.heap.size w wx → Calls Tryz.prog 25 #[.int .i64 (mu : Int), .string (bytesOf rs)] wx fun e w' => ∃ s, e = .returned (.tuple #[.pointer (some ⟨s, 0, none⟩), .nilIface]) ∧ isShape w' s mu rs ∧ Below wx.heap.size wx w') := fun wx hbx => (shnew_good mu hmn rs hRr (by omega) wx (h.env.below hbx).tabs).mono fun e w' ⟨s, h1, h2, _, h3⟩ => ⟨s, h1, h2, h3⟩
  have CL : ∀ s wx, isShape wx s mu rs → Calls Tryz.prog 33 #[.pointer (some ⟨s, 0, none⟩)] wx fun e w' => e = .returned (.int .i64 (by_ (mu : Int) rs)) ∧ Below wx.heap.size wx w' := fun s wx hs => (shlen_any s mu hmn rs wx hs).mono fun e w' ⟨h1, h2⟩ => ⟨h1, by rw [h2]; exact Below.refl _ _⟩
  have CF : Hid (∀ wx, Below w.heap.size w wx → Calls Tryz.prog 22 #[.slice pv ps.length cv, .int .i64 (by_ (mu : Int) rs)] wx fun e w' => ∃ v' qs, e = .returned v' ∧ opAt w' v' qs ∧ qs.length ≤ 61 ∧ (∀ q ∈ qs, smallQ (by_ (mu : Int) rs) q) ∧ Below wx.heap.size wx w') := fun wx hbx => (fit_any _ ps _ wx (h.env.below hbx).tabs (opAt_below HV.out hbx (Nat.le_refl _)) hwf hN0 (by omega)).mono fun e w' ⟨v', qs, h1, h2, h3, h4, h5⟩ => ⟨v', qs, h1, (opX_own (lo := 0) h2).1, h3, h4, h5⟩
  have CE : Hid (∀ wx v' qs, Below w.heap.size w wx → opAt wx v' qs → qs.length ≤ 61 → (∀ q ∈ qs, smallQ (by_ (mu : Int) rs) q) → Calls Tryz.prog 47 #[.pointer (some ⟨b, 0, none⟩), v'] wx fun e w' => ∃ x, e = .returned x ∧ LeftK True lo w r bx bmx bs l0 n D R w' ∧ ∀ cs, wx.heap[β]? = some (.cells cs 136 (0, 0)) → w'.heap[β]? = some (.cells cs 136 (0, 0))) := fun wx v' qs hbx ho hl hs => by
    have H := HR.out.grow hbx
    refine (clEdit_any (isCl_below hcl hbx) hck.ok hck.unit v' qs ho (fun q hq => by have := hs q hq; unfold smallQ at this; unfold wfP; omega) (fun q hq => by have := (hs q hq).2.2.2.2; omega) (by omega) (by omega) ⟨hck.id.1, by have := hck.id.2; have := h.num; split at * <;> omega⟩ H.env.g2 H.env.tabs).mono ?_
    rintro e w' ⟨rfl, a, c⟩
    obtain ⟨m1, m2⟩ := isRoom_client H.room hb a c
    exact ⟨_, rfl, ⟨touchM_below hbx m2, _, m1, stp_edit H.inv H.inv2 hkc qs⟩, fun cs hcs => box_keptK (isCl_below hcl hbx) c hcs (by decide) (by decide)⟩
  have hfl := h.inv.room
  generalize by_ (mu : Int) rs = N at *
  generalize bytesOf rs = txt at *
  by_cases hf : R.fl.length = 0
  · have hgt : ¬ (0 : Int) < (0 : Int) := by decide
    rw [hf] at HMY
    clear hf hfl PK hkk hpp h hk hkc hb hcl hck hsm hdl hRr hd hmu hmn hC1 hN0 hN1 hwf
    skip
    go_enter Tryz.func79, Tryz.ntmps79
    go_wp2_with (first
      | (go_at_call 20; refine (HPK.out _).mono ?_; rintro e w1 ⟨rfl, hb1⟩
         obtain ⟨hx1, hy1⟩ := box4 HBT.out hb1
         have HB1 : Hid _ := hy1
         have HBH1 : Hid _ := hx1
         have b0_1 : w1.cell? ⟨β, 0, none⟩ = some (.int .i64 0) := Lib.cell_of_heap HBH1.out 0
         have b1_1 : w1.cell? ⟨β, 1, none⟩ = some (.int .i64 kk) := Lib.cell_of_heap HBH1.out 1
         have b2_1 : w1.cell? ⟨β, 2, none⟩ = some (.int .i64 pp) := Lib.cell_of_heap HBH1.out 2
         have b3_1 : w1.cell? ⟨β, 3, none⟩ = some (.slice pv ps.length cv) := Lib.cell_of_heap HBH1.out 3
         clear hb1 hx1 hy1 HPK)
      | (go_at_call 73; refine (HMY.out _ HB1.out).mono ?_; rintro e w2 ⟨rfl, hb2⟩
         clear b0_1 b1_1 b2_1 b3_1
         have HB2 : Hid (Below w.heap.size w w2) := HB1.out.trans (hb2.mono HB1.out.size)
         have HBH2 : Hid _ := box_gr HBH1.out hb2
         have b0_2 : w2.cell? ⟨β, 0, none⟩ = some (.int .i64 0) := Lib.cell_of_heap HBH2.out 0
         have b1_2 : w2.cell? ⟨β, 1, none⟩ = some (.int .i64 kk) := Lib.cell_of_heap HBH2.out 1
         have b2_2 : w2.cell? ⟨β, 2, none⟩ = some (.int .i64 pp) := Lib.cell_of_heap HBH2.out 2
         have b3_2 : w2.cell? ⟨β, 3, none⟩ = some (.slice pv ps.length cv) := Lib.cell_of_heap HBH2.out 3
         clear hb2)
      | (go_at_call 62; refine (CC.out _ HB2.out).mono ?_; rintro e w4 ⟨rfl, hb4⟩
         clear b0_2 b1_2 b2_2 b3_2
         have HB4 : Hid (Below w.heap.size w w4) := HB2.out.trans (hb4.mono HB2.out.size)
         have HBH4 : Hid _ := box_gr HBH2.out hb4
         have b0_4 : w4.cell? ⟨β, 0, none⟩ = some (.int .i64 0) := Lib.cell_of_heap HBH4.out 0
         have b1_4 : w4.cell? ⟨β, 1, none⟩ = some (.int .i64 kk) := Lib.cell_of_heap HBH4.out 1
         have b2_4 : w4.cell? ⟨β, 2, none⟩ = some (.int .i64 pp) := Lib.cell_of_heap HBH4.out 2
         have b3_4 : w4.cell? ⟨β, 3, none⟩ = some (.slice pv ps.length cv) := Lib.cell_of_heap HBH4.out 3
         clear hb4)
      | (go_at_call 57; refine (CU.out _ HB4.out).mono ?_; rintro e w5 ⟨rfl, hb5⟩
         clear b0_4 b1_4 b2_4 b3_4
         have HB5 : Hid (Below w.heap.size w w5) := HB4.out.trans (hb5.mono HB4.out.size)
         have HBH5 : Hid _ := box_gr HBH4.out hb5
         have b0_5 : w5.cell? ⟨β, 0, none⟩ = some (.int .i64 0) := Lib.cell_of_heap HBH5.out 0
         have b1_5 : w5.cell? ⟨β, 1, none⟩ = some (.int .i64 kk) := Lib.cell_of_heap HBH5.out 1
         have b2_5 : w5.cell? ⟨β, 2, none⟩ = some (.int .i64 pp) := Lib.cell_of_heap HBH5.out 2
         have b3_5 : w5.cell? ⟨β, 3, none⟩ = some (.slice pv ps.length cv) := Lib.cell_of_heap HBH5.out 3
         clear hb5)
      | (go_at_call 54; refine (CT.out _ HB5.out).mono ?_; rintro e w6 ⟨rfl, hb6⟩
         clear b0_5 b1_5 b2_5 b3_5
         have HB6 : Hid (Below w.heap.size w w6) := HB5.out.trans (hb6.mono HB5.out.size)
         have HBH6 : Hid _ := box_gr HBH5.out hb6
         have b0_6 : w6.cell? ⟨β, 0, none⟩ = some (.int .i64 0) := Lib.cell_of_heap HBH6.out 0
         have b1_6 : w6.cell? ⟨β, 1, none⟩ = some (.int .i64 kk) := Lib.cell_of_heap HBH6.out 1
         have b2_6 : w6.cell? ⟨β, 2, none⟩ = some (.int .i64 pp) := Lib.cell_of_heap HBH6.out 2
         have b3_6 : w6.cell? ⟨β, 3, none⟩ = some (.slice pv ps.length cv) := Lib.cell_of_heap HBH6.out 3
         clear hb6)
      | (go_at_call 25; refine (CN.out _ HB6.out).mono ?_; rintro e w7 ⟨sb, rfl, hsh, hb7⟩
         have HSH : Hid _ := hsh
         clear b0_6 b1_6 b2_6 b3_6
         have HB7 : Hid (Below w.heap.size w w7) := HB6.out.trans (hb7.mono HB6.out.size)
         have HBH7 : Hid _ := box_gr HBH6.out hb7
         have b0_7 : w7.cell? ⟨β, 0, none⟩ = some (.int .i64 0) := Lib.cell_of_heap HBH7.out 0
         have b1_7 : w7.cell? ⟨β, 1, none⟩ = some (.int .i64 kk) := Lib.cell_of_heap HBH7.out 1
         have b2_7 : w7.cell? ⟨β, 2, none⟩ = some (.int .i64 pp) := Lib.cell_of_heap HBH7.out 2
         have b3_7 : w7.cell? ⟨β, 3, none⟩ = some (.slice pv ps.length cv) := Lib.cell_of_heap HBH7.out 3
         clear hb7
         clear hsh)
      | fail)
    clear b0_7 b1_7 b2_7 b3_7
    refine wp_region_set (fun wx : World => wx.heap[β]? = some (.cells #[.int .i64 0, .int .i64 kk, .int .i64 pp, .slice pv ps.length cv] 136 (0, 0))) 7 7 (by kernel_rfl) rfl ?_
    intro w30 hb30
    have hz0 : w30.heap[β]? = some (.cells #[.int .i64 0, .int .i64 kk, .int .i64 pp, .slice pv ps.length cv] 136 (0, 0)) := box_gr HBH7.out hb30
    have HZ30 : Hid _ := hz0
    have HSH30 : Hid (isShape w30 sb mu rs) := isShape_below HSH.out hb30
    obtain ⟨G, hG⟩ := exists_growZ (Z := (fun wx : World => wx.heap[β]? = some (.cells #[.int .i64 0, .int .i64 kk, .int .i64 pp, .slice pv ps.length cv] 136 (0, 0)))) hz0 (fun {w w'} h hb => box_gr h hb)
    have e3 : ∀ x, (G x).cell? ⟨β, 3, none⟩ = some (.slice pv ps.length cv) := fun x => Lib.cell_of_heap (hG.but x) 3
    have HB30 : Hid (Below w.heap.size w w30) := HB7.out.trans (hb30.mono HB7.out.size)
    clear hb30
    (refine anyZ_step hG hz0 (i := 0) rfl (by kernel_rfl) (by kernel_rfl) (by kernel_rfl) (fun K hK => ?_); go_simp; refine hK _ ?_; clear hK K)
    (refine anyZ_step hG hz0 (i := 1) rfl (by kernel_rfl) (by kernel_rfl) (by kernel_rfl) (fun K hK => ?_); go_simp; refine hK _ ?_; clear hK K)
    (refine anyZ_step hG hz0 (i := 2) rfl (by kernel_rfl) (by kernel_rfl) (by kernel_rfl) (fun K hK => ?_); go_simp; refine hK _ ?_; clear hK K)
    (refine anyZ_step hG hz0 (i := 3) rfl (by kernel_rfl) (by kernel_rfl) (by kernel_rfl) (fun K hK => ?_); go_simp; refine hK _ ?_; clear hK K)
    clear e3 hG hz0
    refine anyZ_one (i := 4) (by kernel_rfl) ⟨_, rfl, ?_⟩
    intro w40 hb40 K hK
    go_simp
    refine (CL _ w40 (isShape_below HSH30.out hb40)).mono ?_
    rintro e w41 ⟨rfl, hb41⟩
    have hb31 := hb40.trans (hb41.mono hb40.size)
    have HZ31 : Hid _ := box_gr HZ30.out hb31
    have HB31 : Hid (Below w.heap.size w w41) := HB30.out.trans (hb31.mono HB30.out.size)
    refine ⟨_, rfl, hK _ _ (fun _ => HZ31.out) ?_⟩
    clear hK K hb31 hb40 hb41
    refine anyZ_one (i := 5) (by kernel_rfl) ⟨_, rfl, ?_⟩
    intro w31 hb31 K hK
    go_simp
    have hb31' : Below w.heap.size w w31 := HB31.out.trans (hb31.mono HB31.out.size)
    refine (CF.out w31 hb31').mono ?_
    rintro e w8 ⟨v8, qs, rfl, ho, hql, hqs, hb8⟩
    have HO : Hid _ := ho
    have HQL : Hid _ := hql
    have HQS : Hid _ := hqs
    have HB8 : Hid (Below w.heap.size w w8) := hb31'.trans (hb8.mono hb31'.size)
    have HZ8 : Hid _ := box_gr HZ31.out (hb31.trans (hb8.mono hb31.size))
    refine ⟨_, rfl, hK _ _ (fun _ => HZ8.out) ?_⟩
    clear hK K ho hql hqs hb8 hb31' hb31
    refine anyZ_one (i := 6) (by kernel_rfl) ⟨_, rfl, ?_⟩
    intro w32 hb32 K hK
    go_simp
    refine (CE.out w32 v8 qs (HB8.out.trans (hb32.mono HB8.out.size)) (opAt_below HO.out hb32 (Nat.le_refl _)) HQL.out HQS.out).mono ?_
    rintro e w9 ⟨x, rfl, hL, hbx⟩
    have HL : Hid _ := hL
    refine ⟨_, rfl, hK _ _ (fun _ => hbx _ (box_gr HZ8.out hb32)) ?_⟩
    clear hK K hL hb32 hbx
    refine anyZ_end (by kernel_rfl) ?_
    intro w10 hb10
    have HL2 : Hid (LeftK True lo w r bx bmx bs l0 n D R w10) := ⟨touchM_after HL.out.1 hb10, by obtain ⟨R', a, c⟩ := HL.out.2; exact ⟨R', isRoom_below a hb10, c⟩⟩
    clear hb10
    go_wp2
    go_ret
    exact ⟨rfl, HL2.out⟩
  · obtain ⟨i, hi, PQ⟩ := pick_nat pp R.fl.length hpp (by omega) (by omega)
    have HPQ : Hid _ := PQ
    have hgt : (0 : Int) < (R.fl.length : Int) := by omega
    clear hf hfl PK hkk hpp h hk hkc hb hcl hck hsm hdl hRr hd hmu hmn hC1 hN0 hN1 hwf PQ hi
    generalize R.fl.length = m at *
    go_enter Tryz.func79, Tryz.ntmps79
    go_wp2_with (first
      | (go_at_call 20; refine (HPK.out _).mono ?_; rintro e w1 ⟨rfl, hb1⟩
         obtain ⟨hx1, hy1⟩ := box4 HBT.out hb1
         have HB1 : Hid _ := hy1
         have HBH1 : Hid _ := hx1
         have b0_1 : w1.cell? ⟨β, 0, none⟩ = some (.int .i64 0) := Lib.cell_of_heap HBH1.out 0
         have b1_1 : w1.cell? ⟨β, 1, none⟩ = some (.int .i64 kk) := Lib.cell_of_heap HBH1.out 1
         have b2_1 : w1.cell? ⟨β, 2, none⟩ = some (.int .i64 pp) := Lib.cell_of_heap HBH1.out 2
         have b3_1 : w1.cell? ⟨β, 3, none⟩ = some (.slice pv ps.length cv) := Lib.cell_of_heap HBH1.out 3
         clear hb1 hx1 hy1 HPK)
      | (go_at_call 73; refine (HMY.out _ HB1.out).mono ?_; rintro e w2 ⟨rfl, hb2⟩
         clear b0_1 b1_1 b2_1 b3_1
         have HB2 : Hid (Below w.heap.size w w2) := HB1.out.trans (hb2.mono HB1.out.size)
         have HBH2 : Hid _ := box_gr HBH1.out hb2
         have b0_2 : w2.cell? ⟨β, 0, none⟩ = some (.int .i64 0) := Lib.cell_of_heap HBH2.out 0
         have b1_2 : w2.cell? ⟨β, 1, none⟩ = some (.int .i64 kk) := Lib.cell_of_heap HBH2.out 1
         have b2_2 : w2.cell? ⟨β, 2, none⟩ = some (.int .i64 pp) := Lib.cell_of_heap HBH2.out 2
         have b3_2 : w2.cell? ⟨β, 3, none⟩ = some (.slice pv ps.length cv) := Lib.cell_of_heap HBH2.out 3
         clear hb2)
      | (go_at_call 20; refine (HPQ.out _).mono ?_; rintro e w3 ⟨rfl, hb3⟩
         clear b0_2 b1_2 b2_2 b3_2
         have HB3 : Hid (Below w.heap.size w w3) := HB2.out.trans (hb3.mono HB2.out.size)
         have HBH3 : Hid _ := box_gr HBH2.out hb3
         have b0_3 : w3.cell? ⟨β, 0, none⟩ = some (.int .i64 0) := Lib.cell_of_heap HBH3.out 0
         have b1_3 : w3.cell? ⟨β, 1, none⟩ = some (.int .i64 kk) := Lib.cell_of_heap HBH3.out 1
         have b2_3 : w3.cell? ⟨β, 2, none⟩ = some (.int .i64 pp) := Lib.cell_of_heap HBH3.out 2
         have b3_3 : w3.cell? ⟨β, 3, none⟩ = some (.slice pv ps.length cv) := Lib.cell_of_heap HBH3.out 3
         clear hb3)
      | (go_at_call 62; refine (CC.out _ HB3.out).mono ?_; rintro e w4 ⟨rfl, hb4⟩
         clear b0_3 b1_3 b2_3 b3_3
         have HB4 : Hid (Below w.heap.size w w4) := HB3.out.trans (hb4.mono HB3.out.size)
         have HBH4 : Hid _ := box_gr HBH3.out hb4
         have b0_4 : w4.cell? ⟨β, 0, none⟩ = some (.int .i64 0) := Lib.cell_of_heap HBH4.out 0
         have b1_4 : w4.cell? ⟨β, 1, none⟩ = some (.int .i64 kk) := Lib.cell_of_heap HBH4.out 1
         have b2_4 : w4.cell? ⟨β, 2, none⟩ = some (.int .i64 pp) := Lib.cell_of_heap HBH4.out 2
         have b3_4 : w4.cell? ⟨β, 3, none⟩ = some (.slice pv ps.length cv) := Lib.cell_of_heap HBH4.out 3
         clear hb4)
      | (go_at_call 57; refine (CU.out _ HB4.out).mono ?_; rintro e w5 ⟨rfl, hb5⟩
         clear b0_4 b1_4 b2_4 b3_4
         have HB5 : Hid (Below w.heap.size w w5) := HB4.out.trans (hb5.mono HB4.out.size)
         have HBH5 : Hid _ := box_gr HBH4.out hb5
         have b0_5 : w5.cell? ⟨β, 0, none⟩ = some (.int .i64 0) := Lib.cell_of_heap HBH5.out 0
         have b1_5 : w5.cell? ⟨β, 1, none⟩ = some (.int .i64 kk) := Lib.cell_of_heap HBH5.out 1
         have b2_5 : w5.cell? ⟨β, 2, none⟩ = some (.int .i64 pp) := Lib.cell_of_heap HBH5.out 2
         have b3_5 : w5.cell? ⟨β, 3, none⟩ = some (.slice pv ps.length cv) := Lib.cell_of_heap HBH5.out 3
         clear hb5)
      | (go_at_call 54; refine (CT.out _ HB5.out).mono ?_; rintro e w6 ⟨rfl, hb6⟩
         clear b0_5 b1_5 b2_5 b3_5
         have HB6 : Hid (Below w.heap.size w w6) := HB5.out.trans (hb6.mono HB5.out.size)
         have HBH6 : Hid _ := box_gr HBH5.out hb6
         have b0_6 : w6.cell? ⟨β, 0, none⟩ = some (.int .i64 0) := Lib.cell_of_heap HBH6.out 0
         have b1_6 : w6.cell? ⟨β, 1, none⟩ = some (.int .i64 kk) := Lib.cell_of_heap HBH6.out 1
         have b2_6 : w6.cell? ⟨β, 2, none⟩ = some (.int .i64 pp) := Lib.cell_of_heap HBH6.out 2
         have b3_6 : w6.cell? ⟨β, 3, none⟩ = some (.slice pv ps.length cv) := Lib.cell_of_heap HBH6.out 3
         clear hb6)
      | (go_at_call 25; refine (CN.out _ HB6.out).mono ?_; rintro e w7 ⟨sb, rfl, hsh, hb7⟩
         have HSH : Hid _ := hsh
         clear b0_6 b1_6 b2_6 b3_6
         have HB7 : Hid (Below w.heap.size w w7) := HB6.out.trans (hb7.mono HB6.out.size)
         have HBH7 : Hid _ := box_gr HBH6.out hb7
         have b0_7 : w7.cell? ⟨β, 0, none⟩ = some (.int .i64 0) := Lib.cell_of_heap HBH7.out 0
         have b1_7 : w7.cell? ⟨β, 1, none⟩ = some (.int .i64 kk) := Lib.cell_of_heap HBH7.out 1
         have b2_7 : w7.cell? ⟨β, 2, none⟩ = some (.int .i64 pp) := Lib.cell_of_heap HBH7.out 2
         have b3_7 : w7.cell? ⟨β, 3, none⟩ = some (.slice pv ps.length cv) := Lib.cell_of_heap HBH7.out 3
         clear hb7
         clear hsh)
      | fail)
    clear b0_7 b1_7 b2_7 b3_7
    refine wp_region_set (fun wx : World => wx.heap[β]? = some (.cells #[.int .i64 0, .int .i64 kk, .int .i64 pp, .slice pv ps.length cv] 136 (0, 0))) 7 7 (by kernel_rfl) rfl ?_
    intro w30 hb30
    have hz0 : w30.heap[β]? = some (.cells #[.int .i64 0, .int .i64 kk, .int .i64 pp, .slice pv ps.length cv] 136 (0, 0)) := box_gr HBH7.out hb30
    have HZ30 : Hid _ := hz0
    have HSH30 : Hid (isShape w30 sb mu rs) := isShape_below HSH.out hb30
    obtain ⟨G, hG⟩ := exists_growZ (Z := (fun wx : World => wx.heap[β]? = some (.cells #[.int .i64 0, .int .i64 kk, .int .i64 pp, .slice pv ps.length cv] 136 (0, 0)))) hz0 (fun {w w'} h hb => box_gr h hb)
    have e3 : ∀ x, (G x).cell? ⟨β, 3, none⟩ = some (.slice pv ps.length cv) := fun x => Lib.cell_of_heap (hG.but x) 3
    have HB30 : Hid (Below w.heap.size w w30) := HB7.out.trans (hb30.mono HB7.out.size)
    clear hb30
    (refine anyZ_step hG hz0 (i := 0) rfl (by kernel_rfl) (by kernel_rfl) (by kernel_rfl) (fun K hK => ?_); go_simp; refine hK _ ?_; clear hK K)
    (refine anyZ_step hG hz0 (i := 1) rfl (by kernel_rfl) (by kernel_rfl) (by kernel_rfl) (fun K hK => ?_); go_simp; refine hK _ ?_; clear hK K)
    (refine anyZ_step hG hz0 (i := 2) rfl (by kernel_rfl) (by kernel_rfl) (by kernel_rfl) (fun K hK => ?_); go_simp; refine hK _ ?_; clear hK K)
    (refine anyZ_step hG hz0 (i := 3) rfl (by kernel_rfl) (by kernel_rfl) (by kernel_rfl) (fun K hK => ?_); go_simp; refine hK _ ?_; clear hK K)
    clear e3 hG hz0
    refine anyZ_one (i := 4) (by kernel_rfl) ⟨_, rfl, ?_⟩
    intro w40 hb40 K hK
    go_simp
    refine (CL _ w40 (isShape_below HSH30.out hb40)).mono ?_
    rintro e w41 ⟨rfl, hb41⟩
    have hb31 := hb40.trans (hb41.mono hb40.size)
    have HZ31 : Hid _ := box_gr HZ30.out hb31
    have HB31 : Hid (Below w.heap.size w w41) := HB30.out.trans (hb31.mono HB30.out.size)
    refine ⟨_, rfl, hK _ _ (fun _ => HZ31.out) ?_⟩
    clear hK K hb31 hb40 hb41
    refine anyZ_one (i := 5) (by kernel_rfl) ⟨_, rfl, ?_⟩
    intro w31 hb31 K hK
    go_simp
    have hb31' : Below w.heap.size w w31 := HB31.out.trans (hb31.mono HB31.out.size)
    refine (CF.out w31 hb31').mono ?_
    rintro e w8 ⟨v8, qs, rfl, ho, hql, hqs, hb8⟩
    have HO : Hid _ := ho
    have HQL : Hid _ := hql
    have HQS : Hid _ := hqs
    have HB8 : Hid (Below w.heap.size w w8) := hb31'.trans (hb8.mono hb31'.size)
    have HZ8 : Hid _ := box_gr HZ31.out (hb31.trans (hb8.mono hb31.size))
    refine ⟨_, rfl, hK _ _ (fun _ => HZ8.out) ?_⟩
    clear hK K ho hql hqs hb8 hb31' hb31
    refine anyZ_one (i := 6) (by kernel_rfl) ⟨_, rfl, ?_⟩
    intro w32 hb32 K hK
    go_simp
    refine (CE.out w32 v8 qs (HB8.out.trans (hb32.mono HB8.out.size)) (opAt_below HO.out hb32 (Nat.le_refl _)) HQL.out HQS.out).mono ?_
    rintro e w9 ⟨x, rfl, hL, hbx⟩
    have HL : Hid _ := hL
    refine ⟨_, rfl, hK _ _ (fun _ => hbx _ (box_gr HZ8.out hb32)) ?_⟩
    clear hK K hL hb32 hbx
    refine anyZ_end (by kernel_rfl) ?_
    intro w10 hb10
    have HL2 : Hid (LeftK True lo w r bx bmx bs l0 n D R w10) := ⟨touchM_after HL.out.1 hb10, by obtain ⟨R', a, c⟩ := HL.out.2; exact ⟨R', isRoom_below a hb10, c⟩⟩
    clear hb10
    go_wp2
    go_ret
    exact ⟨rfl, HL2.out⟩
/-- Every act. -/
theorem plays_any {lo : Nat} {w : World} {r bx bmx : Nat} {bs : List Nat} {l0 n : Int} {D : List (List UInt8)} {R : Rm} (h : Rok lo w r bx bmx bs l0 n D R) (what kk pp : Int) (hkk : -9223372036854775808 ≤ kk ∧ kk < 9223372036854775808) (hpp : -9223372036854775808 ≤ pp ∧ pp < 9223372036854775808) (v : Value) (ps : List Pt) (hv : opAt w v ps) (hwf : ∀ p ∈ ps, p.put.length ≤ 150 → wfP p) :
    Calls Tryz.prog 79 #[.pointer (some ⟨r, 0, none⟩), .int .i64 (bs.length : Int), .agg #[.int .i64 what, .int .i64 kk, .int .i64 pp, v]] w fun e w' => e = .returned (.bool true) ∧ LeftK (what ≠ 5) lo w r bx bmx bs l0 n D R w' := by
  have M : ∀ {one : Prop} {w' : World}, ((what ≠ 5) → one) → LeftK one lo w r bx bmx bs l0 n D R w' → LeftK (what ≠ 5) lo w r bx bmx bs l0 n D R w' := fun hi ⟨a, R', b, n', D', c1, c2, c3, c4, c5, c6, c7⟩ => ⟨a, R', b, n', D', c1, c2, c3, c4, c5, c6, fun q => c7 (hi q)⟩
  by_cases h0 : what = 0
  · subst h0; exact (plays_edit h kk pp hkk hpp v ps hv hwf).mono fun e w' ⟨a, b⟩ => ⟨a, M (fun _ => trivial) b⟩
  by_cases h1 : what = 1
  · subst h1; exact (plays_send h kk pp hkk hpp v).mono fun e w' ⟨a, b⟩ => ⟨a, M (fun _ => trivial) b⟩
  by_cases h2 : what = 2
  · subst h2; exact (plays_deliv h kk pp hkk hpp v).mono fun e w' ⟨a, b⟩ => ⟨a, M (fun _ => trivial) b⟩
  by_cases h3 : what = 3
  · subst h3; exact (plays_lose h kk pp hkk hpp v).mono fun e w' ⟨a, b⟩ => ⟨a, M (fun _ => trivial) b⟩
  by_cases h4 : what = 4
  · subst h4; exact (plays_twice h kk pp hkk hpp v).mono fun e w' ⟨a, b⟩ => ⟨a, M (fun _ => trivial) b⟩
  by_cases h5 : what = 5
  · subst h5; exact (plays_quiet h kk pp hkk hpp v).mono fun e w' ⟨a, b⟩ => ⟨a, M (fun h => h rfl) b⟩
  exact (plays_none h what h0 h1 h2 h3 h4 h5 kk pp hkk hpp v).mono fun e w' ⟨a, b⟩ => ⟨a, M (fun _ => trivial) b⟩
end Go.Proofs.YtedgnlgjmnccgabGreatDoor
