/-
  room.send: a packet more, or one more that is lost.
-/
import Derived.Test.YtedgnlgjmnccgabGreatDoorRoomPacket
import Derived.Test.YtedgnlgjmnccgabGreatDoorRegionLate
import Derived.Test.YtedgnlgjmnccgabGreatDoorAskApp
import Derived.Test.YtedgnlgjmnccgabGreatDoorAppNew
import Derived.Test.YtedgnlgjmnccgabGreatDoorSrvDo2
namespace Go.Proofs.YtedgnlgjmnccgabGreatDoor
open Go.RowKit Go.Maps
set_option linter.unusedVariables false
attribute [local go_sem] Oper.semAt_some yieldsUpon okUpon

theorem info_packet : (Tryz.prog.info? 219).map (fun i => (i.zero, i.size, i.bytes)) = some (some (.agg #[.int .i64 0, .int .i64 0, .int .i64 0, .int .i64 0, .int .i64 0, .int .i64 0, .slice none 0 0]), 7, 72) := by kernel_rfl
theorem pkCells_one (p : Pk) (q : Option Addr) (n c : Nat) : ∀ u ∈ pkCells p (.slice q n c), u.oneCell' = true := fun u hu => by
  simp only [pkCells, List.mem_cons, List.not_mem_nil, or_false] at hu
  rcases hu with rfl | rfl | rfl | rfl | rfl | rfl | rfl <;> rfl
theorem pk_push {lo : Nat} {w : World} {r bx bmx : Nat} {bs : List Nat} {R : Rm} (h : isRoom lo w r bx bmx bs R) {p : Pk} {vx : Value} (hx : opX lo w vx p.x.op) (hroom : R.fl.length < 400) {pf : Option Addr} {cf : Nat} (hce : w.cell? ⟨r, 2, none⟩ = some (.slice pf R.fl.length cf)) :
    ∃ vs, vs.length = R.fl.length ∧ w.ownsRow lo 219 7 (.slice pf R.fl.length cf) R.fl.length (pkC R.fl vs) ∧ ∀ w6 v2, w6.ownsRow lo 219 7 v2 (R.fl.length + 1) (pkC R.fl vs ++ pkCells p vx) → w.grownBy w6 (Value.slice pf R.fl.length cf).ownBlock → (∀ k, v2.ownBlock = some k → (Value.slice pf R.fl.length cf).ownBlock = some k ∨ w.heap.size ≤ k) → ∀ w7, Below w6.heap.size w6 w7 →
      w7.cell? ⟨r, 2, none⟩ = some (.slice pf R.fl.length cf) ∧ w7.frozen? ⟨r, 2, none⟩ = false ∧ isRoom lo (w7.setCell ⟨r, 2, none⟩ v2) r bx bmx bs (sendR R p) ∧ keptF w (w7.setCell ⟨r, 2, none⟩ v2) r := by
  obtain ⟨pc, cc, pf', cf', h2, h3, h4⟩ := isRoom_cells h
  have e := hce
  rw [Lib.cell_of_heap h2 2] at e
  have e : (Value.slice pf' R.fl.length cf') = .slice pf R.fl.length cf := by
    have : some (Value.slice pf' R.fl.length cf') = some (.slice pf R.fl.length cf) := e
    exact Option.some.inj this
  rw [e] at h2 h4
  obtain ⟨vs, g1, g2, g3⟩ := id h4
  have hown := fun k => isPks_own (k := k) h4
  refine ⟨vs, g1, g2, fun w6 v2 hnew hg hv2 w7 hb7 => ?_⟩
  have h6 := isPks_below (isPks_snoc (x := p) (by decide) g1 g2 g3 hx hg hnew) hb7
  have hlow := h.low
  have hnb : some r ≠ (Value.slice pf R.fl.length cf).ownBlock := fun e => by
    obtain ⟨_, _, cs, hc⟩ := hown r e.symm
    have := not_type h2 hc
    revert this; decide
  have hb6' : w6.heap[r]? = some (.cells #[.pointer (some ⟨bx, 0, none⟩), .slice pc bs.length cc, .slice pf R.fl.length cf, .int .i64 (R.lost : Int)] 215 (0, 0)) := (hg.block r (Array.getElem?_eq_some_iff.1 h2).1 hnb).trans h2
  have hb6 := (hb7.block r (Array.getElem?_eq_some_iff.1 hb6').1).trans hb6'
  have hS : sameBut w (w7.setCell ⟨r, 2, none⟩ v2) (fun k => k = r ∨ (Value.slice pf R.fl.length cf).ownBlock = some k) := ((sameBut_grown (S := fun k => k = r ∨ (Value.slice pf R.fl.length cf).ownBlock = some k) hg fun k e => .inr e).comp (sameBut_below hb7 (fun _ => False)) fun k _ h => h.elim).comp (sameBut_set (S := fun k => k = r ∨ (Value.slice pf R.fl.length cf).ownBlock = some k) (.inl rfl)) fun k _ h => h
  have hsend : sendR R p = { R with fl := R.fl ++ [p] } := by unfold sendR; rw [if_neg (by omega)]
  have hfin := heap_setCell_same w7 r 2 _ _ v2 hb6
  refine ⟨Lib.cell_of_heap hb6 2, frozen_block hb6, ?_, hS.mono fun k _ e => e.imp id fun e => ⟨_, hce, e⟩, fun k hk => ?_⟩
  · rw [hsend]
    refine isRoom_flight (X := fun k => k = r ∨ (Value.slice pf R.fl.length cf).ownBlock = some k) (vc := .slice pc bs.length cc) (vf := v2) h hfin ⟨_, _, _, h2⟩ ?_ hS (fun k hk e => ?_) rfl rfl rfl rfl rfl
    · refine isPks_but (S := fun k => k = r) h6 (sameBut_set rfl) fun k hk e => ?_
      subst e
      exact ⟨hlow, noPart_of hb6 (by decide), fun cs fz hc => by have := not_type hb6 hc; revert this; decide⟩
    · rcases e with rfl | e
      · exact ⟨hlow, _, _, h2, .inl rfl⟩
      · obtain ⟨a, _, cs, hc⟩ := hown k e
        exact ⟨a, cs, _, hc, .inr rfl⟩
  · rcases hk with rfl | ⟨v, e, hk⟩
    · exact .inl (.inl rfl)
    · have x2 : (w7.setCell ⟨r, 2, none⟩ v2).cell? ⟨r, 2, none⟩ = some v2 := Lib.cell_of_heap hfin 2
      rw [x2] at e
      obtain rfl := Option.some.inj e
      exact (hv2 k hk).imp (fun e => .inr ⟨_, hce, e⟩) id
theorem pk_lost {lo : Nat} {w : World} {r bx bmx : Nat} {bs : List Nat} {R : Rm} (h : isRoom lo w r bx bmx bs R) {p : Pk} (hroom : 400 ≤ R.fl.length) :
    isRoom lo (w.setCell ⟨r, 3, none⟩ (.int .i64 ((R.lost : Int) + 1))) r bx bmx bs (sendR R p) ∧ keptF w (w.setCell ⟨r, 3, none⟩ (.int .i64 ((R.lost : Int) + 1))) r := by
  obtain ⟨pc, cc, pf, cf, h2, h3, h4⟩ := isRoom_cells h
  have hsend : sendR R p = { R with lost := R.lost + 1 } := by unfold sendR; rw [if_pos hroom]
  have hlow := h.low
  have hfin := heap_setCell_same w r 3 _ _ (.int .i64 ((R.lost : Int) + 1)) h2
  refine ⟨?_, sameBut_set (.inl rfl), fun k hk => ?_⟩
  · rw [hsend]
    refine isRoom_flight (X := fun k => k = r) (vc := .slice pc bs.length cc) (vf := .slice pf R.fl.length cf) h hfin ⟨_, _, _, h2⟩ ?_ (sameBut_set rfl) (fun k hk e => ?_) rfl rfl rfl rfl rfl
    · refine isPks_but (S := fun k => k = r) h4 (sameBut_set rfl) fun k hk e => ?_
      subst e
      exact ⟨hlow, noPart_of h2 (by decide), fun cs fz hc => by have := not_type h2 hc; revert this; decide⟩
    · subst e
      exact ⟨hlow, _, _, h2, .inl rfl⟩
  · rcases hk with rfl | ⟨v, e, hk⟩
    · exact .inl (.inl rfl)
    · refine .inl (.inr ⟨v, ?_, hk⟩)
      have x2 : (w.setCell ⟨r, 3, none⟩ (.int .i64 ((R.lost : Int) + 1))).cell? ⟨r, 2, none⟩ = some (.slice pf R.fl.length cf) := Lib.cell_of_heap hfin 2
      rw [x2] at e
      rw [← Option.some.inj e]
      exact Lib.cell_of_heap h2 2
theorem touchM_below {lo : Nat} {w w1 w2 : World} {bmx : Nat} (hb : Below w.heap.size w w1) (h : sameBut w1 w2 (touchM lo w1 bmx)) : sameBut w w2 (touchM lo w bmx) :=
  (sameBut_below hb (touchM lo w bmx)).comp h fun k hk e => ⟨e.1, e.2.imp id fun ⟨cs, T, hc, hT⟩ => ⟨cs, T, (hb.block k hk).symm.trans hc, hT⟩⟩
/-- While a packet is sent. -/
structure ZPr (lo r bx bmx β : Nat) (bs : List Nat) (R : Rm) (p : Pk) (v : Value) (pf : Option Addr) (cf : Nat) (wx : World) : Prop where
  rm : isRoom lo wx r bx bmx bs R
  fl : wx.cell? ⟨r, 2, none⟩ = some (.slice pf R.fl.length cf)
  box : wx.heap[β]? = some (.cells (pkCells p v).toArray 219 (0, 0))
  op : opX lo wx v p.x.op
theorem ZPr.grow {lo r bx bmx β : Nat} {bs : List Nat} {R : Rm} {p : Pk} {v : Value} {pf : Option Addr} {cf : Nat} {w w' : World} (h : ZPr lo r bx bmx β bs R p v pf cf w) (hb : Below w.heap.size w w') : ZPr lo r bx bmx β bs R p v pf cf w' :=
  ⟨isRoom_below h.rm hb, (hb.cell (p := ⟨r, 2, none⟩) (isRoom_lt h.rm)).trans h.fl, (hb.block β (Array.getElem?_eq_some_iff.1 h.box).1).trans h.box, opX_grown h.op hb⟩
/-- What its loads read. -/
structure ZPk (r β : Nat) (p : Pk) (n : Nat) (v : Value) (pf : Option Addr) (cf : Nat) (wx : World) : Prop where
  lt : r < wx.heap.size
  fl : wx.cell? ⟨r, 2, none⟩ = some (.slice pf n cf)
  box : wx.heap[β]? = some (.cells (pkCells p v).toArray 219 (0, 0))
theorem ZPk.grow {r β : Nat} {p : Pk} {n : Nat} {v : Value} {pf : Option Addr} {cf : Nat} {w w' : World} (h : ZPk r β p n v pf cf w) (hb : Below w.heap.size w w') : ZPk r β p n v pf cf w' :=
  ⟨Nat.lt_of_lt_of_le h.lt hb.size, (hb.cell (p := ⟨r, 2, none⟩) h.lt).trans h.fl, (hb.block β (Array.getElem?_eq_some_iff.1 h.box).1).trans h.box⟩
theorem ZPr.less {lo r bx bmx β : Nat} {bs : List Nat} {R : Rm} {p : Pk} {v : Value} {pf : Option Addr} {cf : Nat} {w : World} (h : ZPr lo r bx bmx β bs R p v pf cf w) : ZPk r β p R.fl.length v pf cf w := ⟨isRoom_lt h.rm, h.fl, h.box⟩
set_option maxRecDepth 100000 in
set_option maxHeartbeats 2000000 in
theorem rmSend_any {lo : Nat} {w : World} {r bx bmx : Nat} {bs : List Nat} {R : Rm} (h : isRoom lo w r bx bmx bs R) (p : Pk) (v : Value) (hx : opX lo w v p.x.op) (hlost : R.lost ≤ 1000000000000) (hfl : R.fl.length ≤ 400) :
    Calls Tryz.prog 130 #[.pointer (some ⟨r, 0, none⟩), pkV p v] w fun e w' => e = .returned (.tuple #[]) ∧ isRoom lo w' r bx bmx bs (sendR R p) ∧ keptF w w' r := by
  obtain ⟨pv, cv, rfl⟩ := opX_shape hx
  obtain ⟨pc, cc, pf, cf, h2, h3, h4⟩ := isRoom_cells h
  have hfc : R.fl.length ≤ cf ∧ cf ≤ maxLen := by
    obtain ⟨vs, _, h5, _⟩ := h4
    rcases h5.2 with ⟨e, h0⟩ | ⟨g, cap, cur, e, _, _, h6, h7, _⟩
    · injection e with _ _ e3; rw [e3, h0]; unfold maxLen; omega
    · injection e with _ _ e3; rw [e3]; exact ⟨h6, h7⟩
  obtain ⟨hf1, hf2⟩ := hfc
  unfold maxLen at hf2
  have hbw : Below w.heap.size w (w.alloc (.cells (pkCells p (.slice pv p.x.op.length cv)).toArray 219)) := (Below.refl _ _).alloc (Nat.le_refl _) _
  have HB : Hid (Below w.heap.size w (w.alloc (.cells (pkCells p (.slice pv p.x.op.length cv)).toArray 219))) := hbw
  have HZ : Hid (ZPr lo r bx bmx w.heap.size bs R p (.slice pv p.x.op.length cv) pf cf (w.alloc (.cells (pkCells p (.slice pv p.x.op.length cv)).toArray 219))) :=
    ⟨isRoom_below h hbw, (hbw.cell (p := ⟨r, 2, none⟩) (isRoom_lt h)).trans (Lib.cell_of_heap h2 2), heap_alloc_new _ _, opX_grown hx hbw⟩
  have HLT : Hid (r < w.heap.size) := isRoom_lt h
  obtain ⟨i0, hi, hq0, hq1, hq2⟩ := info_parts info_packet
  by_cases hroom : 400 ≤ R.fl.length
  case pos =>
    have hL := fun W (hz : ZPr lo r bx bmx w.heap.size bs R p (.slice pv p.x.op.length cv) pf cf W) => pk_lost (p := p) hz.rm hroom
    have HL : Hid (isRoom lo ((w.alloc (.cells (pkCells p (.slice pv p.x.op.length cv)).toArray 219)).setCell ⟨r, 3, none⟩ (.int .i64 ((R.lost : Int) + 1))) r bx bmx bs (sendR R p) ∧ keptF w ((w.alloc (.cells (pkCells p (.slice pv p.x.op.length cv)).toArray 219)).setCell ⟨r, 3, none⟩ (.int .i64 ((R.lost : Int) + 1))) r) := by
      obtain ⟨a, b⟩ := hL _ HZ.out
      exact ⟨a, (keptF_below (isRoom_lt h) hbw).trans b⟩
    have hW : ∃ W, W = w.alloc (.cells (pkCells p (.slice pv p.x.op.length cv)).toArray 219) := ⟨_, rfl⟩
    have x2 : (w.alloc (.cells (pkCells p (.slice pv p.x.op.length cv)).toArray 219)).cell? ⟨r, 2, none⟩ = some (.slice pf R.fl.length cf) := HZ.out.fl
    have hb2 := (hbw.block r HLT.out).trans h2
    have x3 : (w.alloc (.cells (pkCells p (.slice pv p.x.op.length cv)).toArray 219)).cell? ⟨r, 3, none⟩ = some (.int .i64 (R.lost : Int)) := Lib.cell_of_heap hb2 3
    have xf : (w.alloc (.cells (pkCells p (.slice pv p.x.op.length cv)).toArray 219)).frozen? ⟨r, 3, none⟩ = false := frozen_block hb2
    have hge : (400 : Int) ≤ (R.fl.length : Int) := by omega
    have hwr : wrap64 ((R.lost : Int) + 1) = (R.lost : Int) + 1 := wrap64_small (by omega) (by omega)
    have ebox : (pkCells p (.slice pv p.x.op.length cv)).toArray = #[.int .i64 p.kind, .int .i64 (p.c : Int), .int .i64 p.rev, .int .i64 p.id, .int .i64 p.x.c, .int .i64 p.x.i, .slice pv p.x.op.length cv] := rfl
    rw [ebox] at HL x2 x3 xf
    unfold pkV
    generalize p.kind = a0 at *
    generalize p.rev = a2 at *
    generalize p.id = a3 at *
    generalize p.x.c = a4 at *
    generalize p.x.i = a5 at *
    generalize p.x.op.length = a6 at *
    clear h h2 h3 h4 hx hL hW hb2 ebox hbw HZ hi hq0 hq1 hq2 hlost hfl
    go_enter Tryz.func130, Tryz.ntmps130
    go_wp2
    exact bodyPost_ret (results_none rfl _ _ _) rfl ⟨rfl, HL.out⟩
  case neg =>
    have hlt : ¬ (400 : Int) ≤ (R.fl.length : Int) := by omega
    have x2 : (w.alloc (.cells (pkCells p (.slice pv p.x.op.length cv)).toArray 219)).cell? ⟨r, 2, none⟩ = some (.slice pf R.fl.length cf) := HZ.out.fl
    have HR : Hid (R.fl.length < 400) := by show R.fl.length < 400; omega
    have ebox : (pkCells p (.slice pv p.x.op.length cv)).toArray = #[.int .i64 p.kind, .int .i64 (p.c : Int), .int .i64 p.rev, .int .i64 p.id, .int .i64 p.x.c, .int .i64 p.x.i, .slice pv p.x.op.length cv] := rfl
    rw [ebox] at x2 HB
    have HZ' := HZ.out
    rw [ebox] at HZ'
    have HZ : Hid _ := HZ'
    obtain ⟨β, hβ⟩ : ∃ β, w.heap.size = β := ⟨_, rfl⟩
    have HBT : Hid (w.heap.size = β) := hβ
    have HOWN : Hid (∀ k, (Value.slice pf R.fl.length cf).ownBlock = some k → k ≠ r ∧ k < β) := fun k hk => by
      obtain ⟨_, hlt, cs, hc⟩ := isPks_own h4 hk
      refine ⟨fun e => ?_, by rw [← hβ]; exact hlt⟩
      subst e
      have := not_type h2 hc
      revert this; decide
    rw [hβ] at HZ
    have HLO : Hid (lo ≤ w.heap.size) := Nat.le_of_lt (Nat.lt_of_le_of_lt h.low (isRoom_lt h))
    clear h h2 h3 h4 hx hbw hβ HZ' hlost
    unfold pkV
    go_enter Tryz.func130, Tryz.ntmps130
    go_wp2
    refine wp_region_set (fun wx : World => ZPk r β p R.fl.length (.slice pv p.x.op.length cv) pf cf wx) 8 11 (by kernel_rfl) rfl ?_
    intro w30 hb30
    have hz1 := HZ.out.grow hb30
    have hbA := HB.out.trans (hb30.mono HB.out.size)
    have ht1 := hz1.less
    obtain ⟨G, hG⟩ := exists_growZ (Z := fun wx : World => ZPk r β p R.fl.length (.slice pv p.x.op.length cv) pf cf wx) ht1 (fun {w w'} h hb => ZPk.grow h hb)
    have y2 : ∀ y, (G y).cell? ⟨r, 2, none⟩ = some (.slice pf R.fl.length cf) := fun y => (hG.but y).fl
    have b0 : ∀ y, (G y).cell? ⟨β, 0, none⟩ = some (.int .i64 p.kind) := fun y => Lib.cell_of_heap (hG.but y).box 0
    have b1 : ∀ y, (G y).cell? ⟨β, 1, none⟩ = some (.int .i64 (p.c : Int)) := fun y => Lib.cell_of_heap (hG.but y).box 1
    have b2 : ∀ y, (G y).cell? ⟨β, 2, none⟩ = some (.int .i64 p.rev) := fun y => Lib.cell_of_heap (hG.but y).box 2
    have b3 : ∀ y, (G y).cell? ⟨β, 3, none⟩ = some (.int .i64 p.id) := fun y => Lib.cell_of_heap (hG.but y).box 3
    have b4 : ∀ y, (G y).cell? ⟨β, 4, none⟩ = some (.int .i64 p.x.c) := fun y => Lib.cell_of_heap (hG.but y).box 4
    have b5 : ∀ y, (G y).cell? ⟨β, 5, none⟩ = some (.int .i64 p.x.i) := fun y => Lib.cell_of_heap (hG.but y).box 5
    have b6 : ∀ y, (G y).cell? ⟨β, 6, none⟩ = some (.slice pv p.x.op.length cv) := fun y => Lib.cell_of_heap (hG.but y).box 6
    rw [HBT.out]
    (refine anyZ_step hG ht1 (i := 0) rfl (by kernel_rfl) (by kernel_rfl) (by kernel_rfl) (fun K hK => ?_); go_simp; refine hK _ ?_; clear hK K)
    (refine anyZ_step hG ht1 (i := 1) rfl (by kernel_rfl) (by kernel_rfl) (by kernel_rfl) (fun K hK => ?_); go_simp; refine hK _ ?_; clear hK K)
    (refine anyZ_step hG ht1 (i := 2) rfl (by kernel_rfl) (by kernel_rfl) (by kernel_rfl) (fun K hK => ?_); go_simp; refine hK _ ?_; clear hK K)
    (refine anyZ_step hG ht1 (i := 3) rfl (by kernel_rfl) (by kernel_rfl) (by kernel_rfl) (fun K hK => ?_); go_simp; refine hK _ ?_; clear hK K)
    (refine anyZ_step hG ht1 (i := 4) rfl (by kernel_rfl) (by kernel_rfl) (by kernel_rfl) (fun K hK => ?_); go_simp; refine hK _ ?_; clear hK K)
    (refine anyZ_step hG ht1 (i := 5) rfl (by kernel_rfl) (by kernel_rfl) (by kernel_rfl) (fun K hK => ?_); go_simp; refine hK _ ?_; clear hK K)
    clear y2 b0 b1 b2 b3 b4 b5 b6 hG
    refine anyZ_one (i := 6) (by kernel_rfl) ⟨_, rfl, ?_⟩
    intro w31 hb31 K hK
    have hz2 := hz1.grow hb31
    have hbB := hbA.trans (hb31.mono hbA.size)
    go_simp
    refine hK _ _ (fun hz => hz.grow ((Below.refl _ _).alloc (Nat.le_refl _) _)) ?_
    clear hK K
    refine anyZ_one (i := 7) (by kernel_rfl) ⟨_, rfl, ?_⟩
    intro w32 hb32 K hK
    have hbAl : Below w31.heap.size w31 (w31.alloc (.cells #[.int .i64 p.kind, .int .i64 (p.c : Int), .int .i64 p.rev, .int .i64 p.id, .int .i64 p.x.c, .int .i64 p.x.i, .slice pv p.x.op.length cv] 219)) := (Below.refl _ _).alloc (Nat.le_refl _) _
    have hnew := (hb32.block w31.heap.size (by rw [World.size_alloc]; omega)).trans (heap_alloc_new w31 (.cells #[.int .i64 p.kind, .int .i64 (p.c : Int), .int .i64 p.rev, .int .i64 p.id, .int .i64 p.x.c, .int .i64 p.x.i, .slice pv p.x.op.length cv] 219))
    have hb312 := hbAl.trans (hb32.mono hbAl.size)
    have hz3 := hz2.grow hb312
    have hbC := hbB.trans (hb312.mono hbB.size)
    obtain ⟨vs, v1, v2, v3⟩ := pk_push hz3.rm hz3.op HR.out hz3.fl
    obtain ⟨v', w', hrun, hown', hgr, hvn⟩ := run_append_new (P := Tryz.prog) w32 lo 213 213 219 i0 (.agg #[.int .i64 0, .int .i64 0, .int .i64 0, .int .i64 0, .int .i64 0, .int .i64 0, .slice none 0 0]) 7 72 Tryz.underlying213 hi hq0 hq1 hq2 rfl (by decide) (.slice pf R.fl.length cf) R.fl.length _ v2 ⟨w31.heap.size, 0, none⟩ 1 1 (pkCells p (.slice pv p.x.op.length cv)) rfl (fun j u hj => by
      have hjl : j < 7 := (List.getElem?_eq_some_iff.1 hj).1
      have := Lib.cell_of_heap hnew j
      rw [Addr.add_lit, Nat.zero_add, this]
      have e : (#[Value.int .i64 p.kind, .int .i64 (p.c : Int), .int .i64 p.rev, .int .i64 p.id, .int .i64 p.x.c, .int .i64 p.x.i, .slice pv p.x.op.length cv] : Array Value)[j]? = (pkCells p (.slice pv p.x.op.length cv))[j]? := by rw [← Array.getElem?_toList]; rfl
      rw [e, hj]) (pkCells_one p pv p.x.op.length cv) (by unfold maxLen; omega) (by omega) (Nat.le_trans HLO.out hbC.size) (by omega)
    have HVN : Hid _ := hvn
    have V3 : Hid _ := v3
    have HG : Hid _ := hgr
    have HO : Hid _ := hown'
    have HBC : Hid (Below w.heap.size w w32) := hbC
    have hlt32 : r < w32.heap.size := hz3.less.lt
    have hz4 : ZPk r β p R.fl.length (.slice pv p.x.op.length cv) pf cf w' := by
      have hno := HOWN.out
      refine ⟨Nat.lt_of_lt_of_le hlt32 hgr.size, ?_, ?_⟩
      · exact (World.cell?_of_block (w := w32) (a := ⟨r, 2, none⟩) (hgr.block r hlt32 fun e => (hno r e.symm).1 rfl)).trans hz3.fl
      · exact (hgr.block β (Array.getElem?_eq_some_iff.1 hz3.box).1 fun e => absurd (hno β e.symm).2 (Nat.lt_irrefl _)).trans hz3.box
    refine ask_append rfl rfl rfl rfl hrun ?_
    refine hK _ _ (fun _ => hz4) ?_
    clear hK K hz1 hz2 hz3 hbA hbB hbC hb30 hb31 hb32 hbAl hb312 hnew v3 v2 v1 ht1 hi hq0 hq1 hq2 hz4 hgr hlt32 hvn
    obtain ⟨p', c', rfl⟩ := own_slice hown'
    clear hown'
    refine anyZ_pastB (by kernel_rfl) ?_
    refine anyZ_one (i := 8) (by kernel_rfl) ⟨_, rfl, ?_⟩
    intro w33 hb33 K hK
    go_simp
    refine hK _ _ (fun _ => trivial) ?_
    clear hK K
    refine anyZ_one (i := 9) (by kernel_rfl) ⟨_, rfl, ?_⟩
    intro w34 hb34 K hK
    go_simp
    refine hK _ _ (fun _ => trivial) ?_
    clear hK K
    refine anyZ_one (i := 10) (by kernel_rfl) ⟨_, rfl, ?_⟩
    intro w35 hb35 K hK
    obtain ⟨u1, u2, u3, u4⟩ := V3.out w' _ HO.out HG.out HVN.out w35 ((hb33.trans (hb34.mono hb33.size)).trans (hb35.mono (hb33.trans (hb34.mono hb33.size)).size))
    have U3 : Hid _ := u3
    have U4 : Hid _ := u4
    clear u3 u4 hb33 hb34 hb35
    go_simp
    refine hK _ _ (fun _ => trivial) ?_
    clear hK K
    refine anyZ_end (by kernel_rfl) ?_
    intro w36 hb36
    have FIN : Hid (isRoom lo w36 r bx bmx bs (sendR R p) ∧ keptF w w36 r) :=
      ⟨isRoom_below U3.out hb36, ((keptF_below HLT.out HBC.out).trans U4.out).trans (keptF_below (isRoom_lt U3.out) hb36)⟩
    clear hb36
    go_wp2
    go_end0
    exact ⟨rfl, FIN.out⟩
end Go.Proofs.YtedgnlgjmnccgabGreatDoor
