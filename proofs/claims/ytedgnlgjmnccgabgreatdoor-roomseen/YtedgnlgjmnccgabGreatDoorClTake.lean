/-
  client.Take.
-/
import Derived.Test.YtedgnlgjmnccgabGreatDoorClEdit2
namespace Go.Proofs.YtedgnlgjmnccgabGreatDoor
open Go.RowKit Go.Maps
set_option linter.unusedVariables false
attribute [local go_sem] Oper.semAt_some yieldsUpon okUpon

/-- While it is asked what to do. -/
structure ZT (lo b β : Nat) (who u c i : Int) (S : Cl) (VM v : Value) (x : List Pt) (wx : World) : Prop where
  low : lo ≤ b
  blk : wx.heap[b]? = some (.cells (clCells who u S VM) 203 (0, 0))
  mine : isMine lo wx VM S.mine
  box : wx.heap[β]? = some (.cells #[.int .i64 c, .int .i64 i, v] 105 (0, 0))
  tabs : Lib.Utf8Tabs 2 3 wx
  op : opX lo wx v x
theorem ZT.grow {lo b β : Nat} {who u c i : Int} {S : Cl} {VM v : Value} {x : List Pt} {w w' : World} (h : ZT lo b β who u c i S VM v x w) (hb : Below w.heap.size w w') : ZT lo b β who u c i S VM v x w' :=
  ⟨h.low, (hb.block b (Array.getElem?_eq_some_iff.1 h.blk).1).trans h.blk, isMine_below h.mine hb, (hb.block β (Array.getElem?_eq_some_iff.1 h.box).1).trans h.box, Go.Proofs.Utf8Tabs_below h.tabs hb, opX_grown h.op hb⟩
theorem ZT.cl {lo b β : Nat} {who u c i : Int} {S : Cl} {VM v : Value} {x : List Pt} {w : World} (h : ZT lo b β who u c i S VM v x w) : isCl lo w b who u S := ⟨h.low, VM, h.blk, h.mine⟩
theorem zt_begin {lo : Nat} {w : World} {b : Nat} {who u c i : Int} {S : Cl} {vm v : Value} {x : List Pt} (hlo : lo ≤ b) (h3 : w.heap[b]? = some (.cells (clCells who u S vm) 203 (0, 0))) (h4 : isMine lo w vm S.mine) (hT : Lib.Utf8Tabs 2 3 w) (hx : opX lo w v x) :
    ZT lo b w.heap.size who u c i S vm v x (w.alloc (.cells #[.int .i64 c, .int .i64 i, v] 105)) := by
  have hb : Below w.heap.size w (w.alloc (.cells #[.int .i64 c, .int .i64 i, v] 105)) := (Below.refl _ _).alloc (Nat.le_refl _) _
  exact ⟨hlo, (hb.block b (Array.getElem?_eq_some_iff.1 h3).1).trans h3, isMine_below h4 hb, heap_alloc_new _ _, Go.Proofs.Utf8Tabs_below hT hb, opX_grown hx hb⟩
/-- What was seen, and how many operations. -/
theorem clSeen {lo : Nat} {w : World} {b : Nat} {who u : Int} {S : Cl} (h : isCl lo w b who u S) (t : List UInt8) (r : Int) :
    isCl lo ((w.setCell ⟨b, 3, none⟩ (.string ⟨t.toArray⟩)).setCell ⟨b, 2, none⟩ (.int .i64 r)) b who u { S with seen := t, rev := r } ∧ keptC w ((w.setCell ⟨b, 3, none⟩ (.string ⟨t.toArray⟩)).setCell ⟨b, 2, none⟩ (.int .i64 r)) b := by
  obtain ⟨hlo, vm, h3, h4⟩ := h
  have b1 := heap_setCell_same w b 3 _ _ (.string ⟨t.toArray⟩) h3
  have b2 := heap_setCell_same _ b 2 _ _ (.int .i64 r) b1
  have hs : sameBut w ((w.setCell ⟨b, 3, none⟩ (.string ⟨t.toArray⟩)).setCell ⟨b, 2, none⟩ (.int .i64 r)) (fun k => k = b) := (sameBut_set (S := fun k => k = b) rfl).trans (sameBut_set (S := fun k => k = b) rfl)
  refine isCl_mk hlo h3 b2 (isMine_but h4 hs (fun k _ hk => by obtain rfl := hk; exact ⟨hlo, noPart_of h3 (by decide)⟩) fun k hk e => ?_) (hs.mono fun k _ e => .inl e) fun k hk => .inl hk
  obtain ⟨_, _, cs, hc⟩ := mine_own h4 hk
  subst e
  have := not_type h3 hc
  revert this; decide
theorem clLand_any {lo : Nat} {w : World} {b : Nat} {who u : Int} {S : Cl} (h : isCl lo w b who u S) (hm : S.mine ≠ []) (htw : S.mine.length ≤ 2) (hid : 0 ≤ S.id ∧ S.id ≤ 1000000) :
    Calls Tryz.prog 123 #[.pointer (some ⟨b, 0, none⟩)] w fun e w' => e = .returned (.tuple #[]) ∧ isCl lo w' b who u { S with mine := S.mine.tail, id := if S.mine.tail ≠ [] then S.id + 1 else S.id } ∧ keptC w w' b := by
  rcases hm' : S.mine with _ | ⟨m1, _ | ⟨m2, _ | ⟨m3, ms⟩⟩⟩
  · exact absurd hm' hm
  · have := clLand1 h hm'
    rw [List.tail_cons, if_neg (by simp)]
    exact this
  · rw [List.tail_cons, if_pos (by simp)]
    exact clLand2 h hm' hid
  · rw [hm'] at htw; simp at htw

set_option maxRecDepth 100000 in
set_option maxHeartbeats 2000000 in
theorem clTake_rev {lo : Nat} {w : World} {b : Nat} {who u : Int} {S : Cl} (h : isCl lo w b who u S) (hu : unitOk u) (rev c i : Int) (v : Value) (x : List Pt) (hx : opX lo w v x) (hT : Lib.Utf8Tabs 2 3 w) (hr : rev ≠ S.rev) :
    Calls Tryz.prog 49 #[.pointer (some ⟨b, 0, none⟩), .int .i64 rev, .agg #[.int .i64 c, .int .i64 i, v]] w fun e w' => e = .returned .nilIface ∧ Below w.heap.size w w' := by
  have hu0 : (u == 0) = false := by rcases hu with rfl | rfl | rfl <;> rfl
  obtain ⟨hlo, VM, h3, h4⟩ := h
  obtain ⟨pv, cv, rfl⟩ := opX_shape hx
  generalize hxn : x.length = xn at *
  have H0 : Hid _ := zt_begin (c := c) (i := i) hlo h3 h4 hT hx
  have CU : Hid (∀ wx, ZT lo b w.heap.size who u c i S VM (.slice pv xn cv) x wx → Calls Tryz.prog 57 #[.pointer (some ⟨b, 0, none⟩)] wx fun e w' => e = .returned (.int .i64 u) ∧ Below wx.heap.size wx w') := fun wx hz => clUnit_any hz.cl
  have hr1 : (rev == S.rev) = false := beq_eq_false_iff_ne.2 hr
  have hr2 : ¬ rev = S.rev := hr
  clear h3 h4 hx hT hu hlo hr hxn
  · skip
    go_enter Tryz.func49, Tryz.ntmps49
    go_wp2_with (first
      | (go_at_call 57; refine (CU.out _ H0.out).mono ?_; rintro e w1 ⟨rfl, hb1⟩; have HZ1 : Hid (ZT lo b w.heap.size who u c i S VM (.slice pv xn cv) x w1) := ZT.grow H0.out hb1; have HZ1B : Hid (Below w.heap.size w w1) := ((Below.refl _ _).alloc (Nat.le_refl _) _).trans (hb1.mono (by rw [World.size_alloc]; omega)); have q2 : w1.cell? ⟨b, 2, none⟩ = some (.int .i64 S.rev) := (cl_cells HZ1.out.blk).2.2.1; clear hb1)
      | fail)
    go_ret
    exact ⟨rfl, HZ1B.out⟩
set_option maxRecDepth 100000 in
set_option maxHeartbeats 2000000 in
theorem clTake_bad {lo : Nat} {w : World} {b : Nat} {who u : Int} {S : Cl} (h : isCl lo w b who u S) (hu : unitOk u) (c i : Int) (v : Value) (x : List Pt) (hx : opX lo w v x) (hwf : ∀ p ∈ x, wfP p) (hpu : putsP x ≤ 400000) (hl : x.length ≤ 1000000) (hsz : S.seen.length ≤ 100000) (hT : Lib.Utf8Tabs 2 3 w) (ho : ordE x S.seen ≠ 0) :
    Calls Tryz.prog 49 #[.pointer (some ⟨b, 0, none⟩), .int .i64 S.rev, .agg #[.int .i64 c, .int .i64 i, v]] w fun e w' => e = .returned (.iface 26 (.int .i64 15)) ∧ Below w.heap.size w w' := by
  have hu0 : (u == 0) = false := by rcases hu with rfl | rfl | rfl <;> rfl
  have HC : Hid (isCl lo w b who u S) := h
  obtain ⟨hlo, VM, h3, h4⟩ := h
  obtain ⟨pv, cv, rfl⟩ := opX_shape hx
  have H0 : Hid _ := zt_begin (c := c) (i := i) hlo h3 h4 hT hx
  have CU : Hid (∀ wx, ZT lo b w.heap.size who u c i S VM (.slice pv x.length cv) x wx → Calls Tryz.prog 57 #[.pointer (some ⟨b, 0, none⟩)] wx fun e w' => e = .returned (.int .i64 u) ∧ Below wx.heap.size wx w') := fun wx hz => clUnit_any hz.cl
  have CA : Hid (∀ wx, ZT lo b w.heap.size who u c i S VM (.slice pv x.length cv) x wx → Calls Tryz.prog 29 #[.slice pv x.length cv, .string ⟨S.seen.toArray⟩] wx fun e w' => e = .returned (.tuple #[.string ⟨(if ordE x S.seen = 0 then applyP x S.seen else []).toArray⟩, errV (ordE x S.seen)]) ∧ Below wx.heap.size wx w') := fun wx hz => Apply_any _ x S.seen wx hz.tabs hz.op.1 hwf (by omega) (by omega) (by omega)
  have hV : errV (ordE x S.seen) = .iface 26 (.int .i64 (ordE x S.seen)) := by unfold errV; rw [if_neg ho]
  rw [if_neg ho, hV] at CA
  generalize hxn : x.length = xn at *
  generalize ordE x S.seen = E at *
  clear h3 h4 hx hT hu hlo hxn hwf hpu hl hsz hV ho
  · skip
    go_enter Tryz.func49, Tryz.ntmps49
    go_wp2_with (first
      | (go_at_call 57; refine (CU.out _ H0.out).mono ?_; rintro e w1 ⟨rfl, hb1⟩; have HZ1 : Hid (ZT lo b w.heap.size who u c i S VM (.slice pv xn cv) x w1) := ZT.grow H0.out hb1; have HZ1B : Hid (Below w.heap.size w w1) := ((Below.refl _ _).alloc (Nat.le_refl _) _).trans (hb1.mono (by rw [World.size_alloc]; omega)); have q2 : w1.cell? ⟨b, 2, none⟩ = some (.int .i64 S.rev) := (cl_cells HZ1.out.blk).2.2.1; clear hb1)
      | fail)
    refine wp_region_set (fun wx : World => ZT lo b w.heap.size who u c i S VM (.slice pv xn cv) x wx) 12 12 (by kernel_rfl) rfl ?_
    intro w5 hb5
    have hz5 : ZT lo b w.heap.size who u c i S VM (.slice pv xn cv) x w5 := ZT.grow HZ1.out hb5
    obtain ⟨G, hG⟩ := exists_growZ (Z := (fun wx : World => ZT lo b w.heap.size who u c i S VM (.slice pv xn cv) x wx)) hz5 (fun {w w'} h hb => ZT.grow h hb)
    have e2 : ∀ y, (G y).cell? ⟨w.heap.size, 2, none⟩ = some (.slice pv xn cv) := fun y => Lib.cell_of_heap (hG.but y).box 2
    have y3 : ∀ y, (G y).cell? ⟨b, 3, none⟩ = some (.string ⟨S.seen.toArray⟩) := fun y => (cl_cells (hG.but y).blk).2.2.2.1
    (refine anyZ_step hG hz5 (i := 0) rfl (by kernel_rfl) (by kernel_rfl) (by kernel_rfl) (fun K hK => ?_); go_simp; refine hK _ ?_; clear hK K)
    (refine anyZ_step hG hz5 (i := 1) rfl (by kernel_rfl) (by kernel_rfl) (by kernel_rfl) (fun K hK => ?_); go_simp; refine hK _ ?_; clear hK K)
    (refine anyZ_step hG hz5 (i := 2) rfl (by kernel_rfl) (by kernel_rfl) (by kernel_rfl) (fun K hK => ?_); go_simp; refine hK _ ?_; clear hK K)
    (refine anyZ_step hG hz5 (i := 3) rfl (by kernel_rfl) (by kernel_rfl) (by kernel_rfl) (fun K hK => ?_); go_simp; refine hK _ ?_; clear hK K)
    (refine anyZ_step hG hz5 (i := 4) rfl (by kernel_rfl) (by kernel_rfl) (by kernel_rfl) (fun K hK => ?_); go_simp; refine hK _ ?_; clear hK K)
    (refine anyZ_step hG hz5 (i := 5) rfl (by kernel_rfl) (by kernel_rfl) (by kernel_rfl) (fun K hK => ?_); go_simp; refine hK _ ?_; clear hK K)
    (refine anyZ_step hG hz5 (i := 6) rfl (by kernel_rfl) (by kernel_rfl) (by kernel_rfl) (fun K hK => ?_); go_simp; apply Exists.intro; refine ⟨fun _ => ?_, hK _ ?_⟩; exact CA.out _ (hG.but _); clear hK K)
    (refine anyZ_step hG hz5 (i := 7) rfl (by kernel_rfl) (by kernel_rfl) (by kernel_rfl) (fun K hK => ?_); go_simp; refine hK _ ?_; clear hK K)
    (refine anyZ_step hG hz5 (i := 8) rfl (by kernel_rfl) (by kernel_rfl) (by kernel_rfl) (fun K hK => ?_); go_simp; refine hK _ ?_; clear hK K)
    (refine anyZ_step hG hz5 (i := 9) rfl (by kernel_rfl) (by kernel_rfl) (by kernel_rfl) (fun K hK => ?_); go_simp; refine hK _ ?_; clear hK K)
    (refine anyZ_step hG hz5 (i := 10) rfl (by kernel_rfl) (by kernel_rfl) (by kernel_rfl) (fun K hK => ?_); go_simp; refine hK _ ?_; clear hK K)
    (refine anyZ_step hG hz5 (i := 11) rfl (by kernel_rfl) (by kernel_rfl) (by kernel_rfl) (fun K hK => ?_); go_simp; refine hK _ ?_; clear hK K)
    clear e2 y3 hG
    refine anyZ_end (by kernel_rfl) ?_
    intro v5 hv5
    have HZ5 : Hid (ZT lo b w.heap.size who u c i S VM (.slice pv xn cv) x v5) := ZT.grow hz5 hv5
    have HB5 : Hid (Below w.heap.size w v5) := HZ1B.out.trans ((hb5.trans (hv5.mono hb5.size)).mono HZ1B.out.size)
    clear hb5 hv5 hz5
    go_wp2
    go_ret
    exact ⟨rfl, HB5.out⟩

/-- The first of one's own. -/
theorem mine_head {lo : Nat} {w : World} {vm : Value} {ms : List (List Pt)} (h : isMine lo w vm ms) (hm : ms ≠ []) : ∃ g c p0 k0 c0, vm = .slice (some ⟨g, 0, none⟩) ms.length c ∧ (ms.length ≤ c ∧ c ≤ maxLen) ∧ g < w.heap.size ∧ w.cell? ⟨g, 0, none⟩ = some (.slice p0 k0 c0) ∧ opX lo w (.slice p0 k0 c0) (ms.headD []) := by
  obtain ⟨g, c, rfl⟩ := mine_row h hm
  obtain ⟨_, hg, _⟩ := mine_own h (k := g) rfl
  obtain ⟨vs, q1, q2, q3⟩ := h
  have hcn : ms.length ≤ c ∧ c ≤ maxLen := by
    rcases q2.2 with ⟨e, _⟩ | ⟨g', cap, cur, e, _, _, e5, e6, _⟩
    · cases e
    · injection e with _ _ e; subst e; exact ⟨e5, e6⟩
  rcases ms with _ | ⟨m, ms⟩
  · exact absurd rfl hm
  rcases vs with _ | ⟨y, vs⟩
  · simp at q1
  have hy := q3 0 m y rfl rfl
  obtain ⟨p0, c0, rfl⟩ := opX_shape hy
  refine ⟨g, c, p0, m.length, c0, rfl, hcn, hg, ?_, hy⟩
  rw [World.ownsRow.cellAt q2 0 (by simp)]; rfl
/-- While it is asked what to do, with one's own first one. -/
structure ZO (lo b β : Nat) (who u c i : Int) (S : Cl) (VM v : Value) (x : List Pt) (g : Nat) (p0 : Option Addr) (k0 c0 : Nat) (m0 : List Pt) (wx : World) : Prop where
  zt : ZT lo b β who u c i S VM v x wx
  lt : g < wx.heap.size
  cel : wx.cell? ⟨g, 0, none⟩ = some (.slice p0 k0 c0)
  op0 : opX lo wx (.slice p0 k0 c0) m0
theorem ZO.grow {lo b β : Nat} {who u c i : Int} {S : Cl} {VM v : Value} {x : List Pt} {g : Nat} {p0 : Option Addr} {k0 c0 : Nat} {m0 : List Pt} {w w' : World} (h : ZO lo b β who u c i S VM v x g p0 k0 c0 m0 w) (hb : Below w.heap.size w w') : ZO lo b β who u c i S VM v x g p0 k0 c0 m0 w' :=
  ⟨h.zt.grow hb, Nat.lt_of_lt_of_le h.lt hb.size, (hb.cell (p := ⟨g, 0, none⟩) h.lt).trans h.cel, opX_grown h.op0 hb⟩
set_option maxRecDepth 100000 in
set_option maxHeartbeats 4000000 in
theorem clTake_diff {lo : Nat} {w : World} {b : Nat} {who u : Int} {S : Cl} (h : isCl lo w b who u S) (hk : okK 2000 S) (hu : unitOk u) (v : Value) (x : List Pt) (hx : opX lo w v x) (hsz : S.seen.length + putsP x ≤ 500000) (hid : 0 ≤ S.id ∧ S.id ≤ 1000000) (hrv : 0 ≤ S.rev ∧ S.rev ≤ 1000000) (hG : 2 < lo ∧ 3 < lo) (hT : Lib.Utf8Tabs 2 3 w) (ho : ordE x S.seen = 0) (hm : S.mine ≠ []) (hd : applyP (headM S) S.seen ≠ applyP x S.seen) :
    Calls Tryz.prog 49 #[.pointer (some ⟨b, 0, none⟩), .int .i64 S.rev, .agg #[.int .i64 who, .int .i64 S.id, v]] w fun e w' => e = .returned (.iface 26 (.int .i64 15)) ∧ Below w.heap.size w w' := by
  have hu0 : (u == 0) = false := by rcases hu with rfl | rfl | rfl <;> rfl
  have hlt := isCl_lt h
  have HC : Hid (isCl lo w b who u S) := h
  obtain ⟨hlo, VM, h3, h4⟩ := h
  obtain ⟨g, cc, p0, k0, c0, rfl, ⟨hcn, hcm⟩, hgl, hce, hop⟩ := mine_head h4 hm
  unfold maxLen at hcm
  obtain ⟨pv, cv, rfl⟩ := opX_shape hx
  have hgx := good_of_ord hk.text ho
  obtain ⟨hg0, hp0⟩ := good_head hk hm
  obtain ⟨m0, hm0⟩ : ∃ m0, headM S = m0 := ⟨_, rfl⟩
  have hop : opX lo w (.slice p0 k0 c0) m0 := by rw [← hm0]; exact hop
  have hb0 : Below w.heap.size w (w.alloc (.cells #[.int .i64 who, .int .i64 S.id, .slice pv x.length cv] 105)) := (Below.refl _ _).alloc (Nat.le_refl _) _
  have H0 : Hid _ := (⟨zt_begin (c := who) (i := S.id) hlo h3 h4 hT hx, Nat.lt_of_lt_of_le hgl hb0.size, (hb0.cell (p := ⟨g, 0, none⟩) hgl).trans hce, opX_grown hop hb0⟩ : ZO lo b w.heap.size who u who S.id S (.slice (some ⟨g, 0, none⟩) S.mine.length cc) (.slice pv x.length cv) x g p0 k0 c0 m0 _)
  have CU : Hid (∀ wx, ZO lo b w.heap.size who u who S.id S (.slice (some ⟨g, 0, none⟩) S.mine.length cc) (.slice pv x.length cv) x g p0 k0 c0 m0 wx → Calls Tryz.prog 57 #[.pointer (some ⟨b, 0, none⟩)] wx fun e w' => e = .returned (.int .i64 u) ∧ Below wx.heap.size wx w') := fun wx hz => clUnit_any hz.zt.cl
  have CA : Hid (∀ wx, ZO lo b w.heap.size who u who S.id S (.slice (some ⟨g, 0, none⟩) S.mine.length cc) (.slice pv x.length cv) x g p0 k0 c0 m0 wx → Calls Tryz.prog 29 #[.slice pv x.length cv, .string ⟨S.seen.toArray⟩] wx fun e w' => e = .returned (.tuple #[.string ⟨(applyP x S.seen).toArray⟩, .nilIface]) ∧ Below wx.heap.size wx w') := fun wx hz => kApply _ x S.seen wx hz.zt.tabs hz.zt.op.1 hgx (by omega)
  have CM : Hid (∀ wx, ZO lo b w.heap.size who u who S.id S (.slice (some ⟨g, 0, none⟩) S.mine.length cc) (.slice pv x.length cv) x g p0 k0 c0 m0 wx → Calls Tryz.prog 29 #[.slice p0 k0 c0, .string ⟨S.seen.toArray⟩] wx fun e w' => e = .returned (.tuple #[.string ⟨(applyP m0 S.seen).toArray⟩, .nilIface]) ∧ Below wx.heap.size wx w') := fun wx hz => kApply _ m0 S.seen wx hz.zt.tabs hz.op0.1 (by rw [← hm0]; exact hg0) (by rw [← hm0]; omega)
  have CP : Hid (∀ wx, ZO lo b w.heap.size who u who S.id S (.slice (some ⟨g, 0, none⟩) S.mine.length cc) (.slice pv x.length cv) x g p0 k0 c0 m0 wx → Calls Tryz.prog 58 #[.pointer (some ⟨b, 0, none⟩)] wx fun e w' => e = .returned (.bool true) ∧ Below wx.heap.size wx w') := fun wx hz => by
    have := clPending_any hz.zt.cl
    rwa [decide_eq_true (List.length_pos_iff.2 hm)] at this
  have hmi : (0 : Int) < (S.mine.length : Int) := by have := List.length_pos_iff.2 hm; omega
  have hmn := List.length_pos_iff.2 hm
  have HM : Hid (S.mine ≠ []) := hm
  have HTW : Hid (S.mine.length ≤ 2) := hk.two
  have HID : Hid (0 ≤ S.id ∧ S.id ≤ 1000000) := hid
  have hrv1 : wrap64 (S.rev + 1) = S.rev + 1 := wrap64_small (by omega) (by omega)
  rw [hm0] at hd
  generalize applyP m0 S.seen = tm at *
  generalize applyP x S.seen = tx at *
  have hd1 : (tm == tx) = false := beq_eq_false_iff_ne.2 hd
  obtain ⟨n, hn⟩ : ∃ n, S.mine.length = n := ⟨_, rfl⟩
  rw [hn] at hcn hmi hmn H0 CU CA CM CP
  generalize hxn : x.length = xn at *
  obtain ⟨hr0, hr1⟩ := hrv
  clear h3 h4 hx hT hu hlo hxn hsz ho hgx hg0 hp0 hk hm hm0 hop hce hgl hb0 hid hG hn
  · skip
    go_enter Tryz.func49, Tryz.ntmps49
    go_wp2_with (first
      | (go_at_call 57; refine (CU.out _ H0.out).mono ?_; rintro e w1 ⟨rfl, hb1⟩; have HZ1 : Hid (ZO lo b w.heap.size who u who S.id S (.slice (some ⟨g, 0, none⟩) n cc) (.slice pv xn cv) x g p0 k0 c0 m0 w1) := ZO.grow H0.out hb1; have HZ1B : Hid (Below w.heap.size w w1) := ((Below.refl _ _).alloc (Nat.le_refl _) _).trans (hb1.mono (by rw [World.size_alloc]; omega)); have q2 : w1.cell? ⟨b, 2, none⟩ = some (.int .i64 S.rev) := (cl_cells HZ1.out.zt.blk).2.2.1; clear hb1)
      | fail)
    refine wp_region_set (fun wx : World => ZO lo b w.heap.size who u who S.id S (.slice (some ⟨g, 0, none⟩) n cc) (.slice pv xn cv) x g p0 k0 c0 m0 wx) 12 12 (by kernel_rfl) rfl ?_
    intro w5 hb5
    have hz5 : ZO lo b w.heap.size who u who S.id S (.slice (some ⟨g, 0, none⟩) n cc) (.slice pv xn cv) x g p0 k0 c0 m0 w5 := ZO.grow HZ1.out hb5
    obtain ⟨G, hG⟩ := exists_growZ (Z := (fun wx : World => ZO lo b w.heap.size who u who S.id S (.slice (some ⟨g, 0, none⟩) n cc) (.slice pv xn cv) x g p0 k0 c0 m0 wx)) hz5 (fun {w w'} h hb => ZO.grow h hb)
    have e2 : ∀ y, (G y).cell? ⟨w.heap.size, 2, none⟩ = some (.slice pv xn cv) := fun y => Lib.cell_of_heap (hG.but y).zt.box 2
    have y3 : ∀ y, (G y).cell? ⟨b, 3, none⟩ = some (.string ⟨S.seen.toArray⟩) := fun y => (cl_cells (hG.but y).zt.blk).2.2.2.1
    (refine anyZ_step hG hz5 (i := 0) rfl (by kernel_rfl) (by kernel_rfl) (by kernel_rfl) (fun K hK => ?_); go_simp; refine hK _ ?_; clear hK K)
    (refine anyZ_step hG hz5 (i := 1) rfl (by kernel_rfl) (by kernel_rfl) (by kernel_rfl) (fun K hK => ?_); go_simp; refine hK _ ?_; clear hK K)
    (refine anyZ_step hG hz5 (i := 2) rfl (by kernel_rfl) (by kernel_rfl) (by kernel_rfl) (fun K hK => ?_); go_simp; refine hK _ ?_; clear hK K)
    (refine anyZ_step hG hz5 (i := 3) rfl (by kernel_rfl) (by kernel_rfl) (by kernel_rfl) (fun K hK => ?_); go_simp; refine hK _ ?_; clear hK K)
    (refine anyZ_step hG hz5 (i := 4) rfl (by kernel_rfl) (by kernel_rfl) (by kernel_rfl) (fun K hK => ?_); go_simp; refine hK _ ?_; clear hK K)
    (refine anyZ_step hG hz5 (i := 5) rfl (by kernel_rfl) (by kernel_rfl) (by kernel_rfl) (fun K hK => ?_); go_simp; refine hK _ ?_; clear hK K)
    (refine anyZ_step hG hz5 (i := 6) rfl (by kernel_rfl) (by kernel_rfl) (by kernel_rfl) (fun K hK => ?_); go_simp; apply Exists.intro; refine ⟨fun _ => ?_, hK _ ?_⟩; exact CA.out _ (hG.but _); clear hK K)
    (refine anyZ_step hG hz5 (i := 7) rfl (by kernel_rfl) (by kernel_rfl) (by kernel_rfl) (fun K hK => ?_); go_simp; refine hK _ ?_; clear hK K)
    (refine anyZ_step hG hz5 (i := 8) rfl (by kernel_rfl) (by kernel_rfl) (by kernel_rfl) (fun K hK => ?_); go_simp; refine hK _ ?_; clear hK K)
    (refine anyZ_step hG hz5 (i := 9) rfl (by kernel_rfl) (by kernel_rfl) (by kernel_rfl) (fun K hK => ?_); go_simp; refine hK _ ?_; clear hK K)
    (refine anyZ_step hG hz5 (i := 10) rfl (by kernel_rfl) (by kernel_rfl) (by kernel_rfl) (fun K hK => ?_); go_simp; refine hK _ ?_; clear hK K)
    (refine anyZ_step hG hz5 (i := 11) rfl (by kernel_rfl) (by kernel_rfl) (by kernel_rfl) (fun K hK => ?_); go_simp; refine hK _ ?_; clear hK K)
    clear e2 y3 hG
    refine anyZ_end (by kernel_rfl) ?_
    intro v5 hv5
    have HZ5 : Hid (ZO lo b w.heap.size who u who S.id S (.slice (some ⟨g, 0, none⟩) n cc) (.slice pv xn cv) x g p0 k0 c0 m0 v5) := ZO.grow hz5 hv5
    have HB5 : Hid (Below w.heap.size w v5) := HZ1B.out.trans ((hb5.trans (hv5.mono hb5.size)).mono HZ1B.out.size)
    have HZ5B : Hid (Below w.heap.size w v5) := HB5
    clear hb5 hv5 hz5
    go_wp2
    refine wp_region_set (fun wx : World => ZO lo b w.heap.size who u who S.id S (.slice (some ⟨g, 0, none⟩) n cc) (.slice pv xn cv) x g p0 k0 c0 m0 wx) 20 20 (by kernel_rfl) rfl ?_
    intro w8 hb8
    have hz8 : ZO lo b w.heap.size who u who S.id S (.slice (some ⟨g, 0, none⟩) n cc) (.slice pv xn cv) x g p0 k0 c0 m0 w8 := ZO.grow HZ5.out hb8
    obtain ⟨G, hG⟩ := exists_growZ (Z := (fun wx : World => ZO lo b w.heap.size who u who S.id S (.slice (some ⟨g, 0, none⟩) n cc) (.slice pv xn cv) x g p0 k0 c0 m0 wx)) hz8 (fun {w w'} h hb => ZO.grow h hb)
    have e0 : ∀ y, (G y).cell? ⟨w.heap.size, 0, none⟩ = some (.int .i64 who) := fun y => Lib.cell_of_heap (hG.but y).zt.box 0
    have e1 : ∀ y, (G y).cell? ⟨w.heap.size, 1, none⟩ = some (.int .i64 S.id) := fun y => Lib.cell_of_heap (hG.but y).zt.box 1
    have y0 : ∀ y, (G y).cell? ⟨b, 0, none⟩ = some (.int .i64 who) := fun y => (cl_cells (hG.but y).zt.blk).1
    have y6 : ∀ y, (G y).cell? ⟨b, 6, none⟩ = some (.int .i64 S.id) := fun y => (cl_cells (hG.but y).zt.blk).2.2.2.2.2.2.1
    (refine anyZ_step hG hz8 (i := 0) rfl (by kernel_rfl) (by kernel_rfl) (by kernel_rfl) (fun K hK => ?_); go_simp; refine hK _ ?_; clear hK K)
    (refine anyZ_step hG hz8 (i := 1) rfl (by kernel_rfl) (by kernel_rfl) (by kernel_rfl) (fun K hK => ?_); go_simp; apply Exists.intro; refine ⟨fun _ => ?_, hK _ ?_⟩; exact CP.out _ (hG.but _); clear hK K)
    (refine anyZ_step hG hz8 (i := 2) rfl (by kernel_rfl) (by kernel_rfl) (by kernel_rfl) (fun K hK => ?_); go_simp; refine hK _ ?_; clear hK K)
    (refine anyZ_step hG hz8 (i := 3) rfl (by kernel_rfl) (by kernel_rfl) (by kernel_rfl) (fun K hK => ?_); go_simp; refine hK _ ?_; clear hK K)
    (refine anyZ_step hG hz8 (i := 4) rfl (by kernel_rfl) (by kernel_rfl) (by kernel_rfl) (fun K hK => ?_); go_simp; refine hK _ ?_; clear hK K)
    (refine anyZ_step hG hz8 (i := 5) rfl (by kernel_rfl) (by kernel_rfl) (by kernel_rfl) (fun K hK => ?_); go_simp; refine hK _ ?_; clear hK K)
    (refine anyZ_step hG hz8 (i := 6) rfl (by kernel_rfl) (by kernel_rfl) (by kernel_rfl) (fun K hK => ?_); go_simp; refine hK _ ?_; clear hK K)
    (refine anyZ_step hG hz8 (i := 7) rfl (by kernel_rfl) (by kernel_rfl) (by kernel_rfl) (fun K hK => ?_); go_simp; refine hK _ ?_; clear hK K)
    (refine anyZ_step hG hz8 (i := 8) rfl (by kernel_rfl) (by kernel_rfl) (by kernel_rfl) (fun K hK => ?_); go_simp; refine hK _ ?_; clear hK K)
    (refine anyZ_step hG hz8 (i := 9) rfl (by kernel_rfl) (by kernel_rfl) (by kernel_rfl) (fun K hK => ?_); go_simp; refine hK _ ?_; clear hK K)
    (refine anyZ_step hG hz8 (i := 10) rfl (by kernel_rfl) (by kernel_rfl) (by kernel_rfl) (fun K hK => ?_); go_simp; refine hK _ ?_; clear hK K)
    (refine anyZ_step hG hz8 (i := 11) rfl (by kernel_rfl) (by kernel_rfl) (by kernel_rfl) (fun K hK => ?_); go_simp; refine hK _ ?_; clear hK K)
    (refine anyZ_step hG hz8 (i := 12) rfl (by kernel_rfl) (by kernel_rfl) (by kernel_rfl) (fun K hK => ?_); go_simp; refine hK _ ?_; clear hK K)
    (refine anyZ_step hG hz8 (i := 13) rfl (by kernel_rfl) (by kernel_rfl) (by kernel_rfl) (fun K hK => ?_); go_simp; refine hK _ ?_; clear hK K)
    (refine anyZ_step hG hz8 (i := 14) rfl (by kernel_rfl) (by kernel_rfl) (by kernel_rfl) (fun K hK => ?_); go_simp; refine hK _ ?_; clear hK K)
    (refine anyZ_step hG hz8 (i := 15) rfl (by kernel_rfl) (by kernel_rfl) (by kernel_rfl) (fun K hK => ?_); go_simp; refine hK _ ?_; clear hK K)
    (refine anyZ_step hG hz8 (i := 16) rfl (by kernel_rfl) (by kernel_rfl) (by kernel_rfl) (fun K hK => ?_); go_simp; refine hK _ ?_; clear hK K)
    (refine anyZ_step hG hz8 (i := 17) rfl (by kernel_rfl) (by kernel_rfl) (by kernel_rfl) (fun K hK => ?_); go_simp; refine hK _ ?_; clear hK K)
    (refine anyZ_step hG hz8 (i := 18) rfl (by kernel_rfl) (by kernel_rfl) (by kernel_rfl) (fun K hK => ?_); go_simp; refine hK _ ?_; clear hK K)
    (refine anyZ_step hG hz8 (i := 19) rfl (by kernel_rfl) (by kernel_rfl) (by kernel_rfl) (fun K hK => ?_); go_simp; refine hK _ ?_; clear hK K)
    clear e0 e1 y0 y6 hG
    refine anyZ_end (by kernel_rfl) ?_
    intro v8 hv8
    have HZ8 : Hid (ZO lo b w.heap.size who u who S.id S (.slice (some ⟨g, 0, none⟩) n cc) (.slice pv xn cv) x g p0 k0 c0 m0 v8) := ZO.grow hz8 hv8
    have HB8 : Hid (Below w.heap.size w v8) := HZ5B.out.trans ((hb8.trans (hv8.mono hb8.size)).mono HZ5B.out.size)
    have HZ8B : Hid (Below w.heap.size w v8) := HB8
    clear hb8 hv8 hz8
    go_wp2
    refine wp_region_set (fun wx : World => ZO lo b w.heap.size who u who S.id S (.slice (some ⟨g, 0, none⟩) n cc) (.slice pv xn cv) x g p0 k0 c0 m0 wx) 16 16 (by kernel_rfl) rfl ?_
    intro w9 hb9
    have hz9 : ZO lo b w.heap.size who u who S.id S (.slice (some ⟨g, 0, none⟩) n cc) (.slice pv xn cv) x g p0 k0 c0 m0 w9 := ZO.grow HZ8.out hb9
    obtain ⟨G, hG⟩ := exists_growZ (Z := (fun wx : World => ZO lo b w.heap.size who u who S.id S (.slice (some ⟨g, 0, none⟩) n cc) (.slice pv xn cv) x g p0 k0 c0 m0 wx)) hz9 (fun {w w'} h hb => ZO.grow h hb)
    have y3 : ∀ y, (G y).cell? ⟨b, 3, none⟩ = some (.string ⟨S.seen.toArray⟩) := fun y => (cl_cells (hG.but y).zt.blk).2.2.2.1
    have y4 : ∀ y, (G y).cell? ⟨b, 4, none⟩ = some (.slice (some ⟨g, 0, none⟩) n cc) := fun y => (cl_cells (hG.but y).zt.blk).2.2.2.2.1
    have yg : ∀ y, (G y).cell? ⟨g, 0, none⟩ = some (.slice p0 k0 c0) := fun y => (hG.but y).cel
    (refine anyZ_step hG hz9 (i := 0) rfl (by kernel_rfl) (by kernel_rfl) (by kernel_rfl) (fun K hK => ?_); go_simp; refine hK _ ?_; clear hK K)
    (refine anyZ_step hG hz9 (i := 1) rfl (by kernel_rfl) (by kernel_rfl) (by kernel_rfl) (fun K hK => ?_); go_simp; refine hK _ ?_; clear hK K)
    (refine anyZ_step hG hz9 (i := 2) rfl (by kernel_rfl) (by kernel_rfl) (by kernel_rfl) (fun K hK => ?_); go_simp; refine hK _ ?_; clear hK K)
    (refine anyZ_step hG hz9 (i := 3) rfl (by kernel_rfl) (by kernel_rfl) (by kernel_rfl) (fun K hK => ?_); go_simp; refine hK _ ?_; clear hK K)
    (refine anyZ_step hG hz9 (i := 4) rfl (by kernel_rfl) (by kernel_rfl) (by kernel_rfl) (fun K hK => ?_); go_simp; refine hK _ ?_; clear hK K)
    (refine anyZ_step hG hz9 (i := 5) rfl (by kernel_rfl) (by kernel_rfl) (by kernel_rfl) (fun K hK => ?_); go_simp; refine hK _ ?_; clear hK K)
    (refine anyZ_step hG hz9 (i := 6) rfl (by kernel_rfl) (by kernel_rfl) (by kernel_rfl) (fun K hK => ?_); go_simp; refine hK _ ?_; clear hK K)
    (refine anyZ_step hG hz9 (i := 7) rfl (by kernel_rfl) (by kernel_rfl) (by kernel_rfl) (fun K hK => ?_); go_simp; refine hK _ ?_; clear hK K)
    (refine anyZ_step hG hz9 (i := 8) rfl (by kernel_rfl) (by kernel_rfl) (by kernel_rfl) (fun K hK => ?_); go_simp; refine hK _ ?_; clear hK K)
    (refine anyZ_step hG hz9 (i := 9) rfl (by kernel_rfl) (by kernel_rfl) (by kernel_rfl) (fun K hK => ?_); go_simp; refine hK _ ?_; clear hK K)
    (refine anyZ_step hG hz9 (i := 10) rfl (by kernel_rfl) (by kernel_rfl) (by kernel_rfl) (fun K hK => ?_); go_simp; apply Exists.intro; refine ⟨fun _ => ?_, hK _ ?_⟩; exact CM.out _ (hG.but _); clear hK K)
    (refine anyZ_step hG hz9 (i := 11) rfl (by kernel_rfl) (by kernel_rfl) (by kernel_rfl) (fun K hK => ?_); go_simp; refine hK _ ?_; clear hK K)
    (refine anyZ_step hG hz9 (i := 12) rfl (by kernel_rfl) (by kernel_rfl) (by kernel_rfl) (fun K hK => ?_); go_simp; refine hK _ ?_; clear hK K)
    (refine anyZ_step hG hz9 (i := 13) rfl (by kernel_rfl) (by kernel_rfl) (by kernel_rfl) (fun K hK => ?_); go_simp; refine hK _ ?_; clear hK K)
    (refine anyZ_step hG hz9 (i := 14) rfl (by kernel_rfl) (by kernel_rfl) (by kernel_rfl) (fun K hK => ?_); go_simp; refine hK _ ?_; clear hK K)
    (refine anyZ_step hG hz9 (i := 15) rfl (by kernel_rfl) (by kernel_rfl) (by kernel_rfl) (fun K hK => ?_); go_simp; refine hK _ ?_; clear hK K)
    clear y3 y4 yg hG
    refine anyZ_end (by kernel_rfl) ?_
    intro v9 hv9
    have HZ9 : Hid (ZO lo b w.heap.size who u who S.id S (.slice (some ⟨g, 0, none⟩) n cc) (.slice pv xn cv) x g p0 k0 c0 m0 v9) := ZO.grow hz9 hv9
    have HB9 : Hid (Below w.heap.size w v9) := HZ8B.out.trans ((hb9.trans (hv9.mono hb9.size)).mono HZ8B.out.size)
    have HZ9B : Hid (Below w.heap.size w v9) := HB9
    clear hb9 hv9 hz9
    go_wp2
    go_ret
    exact ⟨rfl, HB9.out⟩
set_option maxRecDepth 100000 in
set_option maxHeartbeats 4000000 in
theorem clTake_own {lo : Nat} {w : World} {b : Nat} {who u : Int} {S : Cl} (h : isCl lo w b who u S) (hk : okK 2000 S) (hu : unitOk u) (v : Value) (x : List Pt) (hx : opX lo w v x) (hsz : S.seen.length + putsP x ≤ 500000) (hid : 0 ≤ S.id ∧ S.id ≤ 1000000) (hrv : 0 ≤ S.rev ∧ S.rev ≤ 1000000) (hG : 2 < lo ∧ 3 < lo) (hT : Lib.Utf8Tabs 2 3 w) (ho : ordE x S.seen = 0) (hm : S.mine ≠ []) (hd : applyP (headM S) S.seen = applyP x S.seen) :
    Calls Tryz.prog 49 #[.pointer (some ⟨b, 0, none⟩), .int .i64 S.rev, .agg #[.int .i64 who, .int .i64 S.id, v]] w fun e w' => e = .returned .nilIface ∧ isCl lo w' b who u { S with seen := applyP x S.seen, rev := S.rev + 1, mine := S.mine.tail, id := if S.mine.tail ≠ [] then S.id + 1 else S.id } ∧ keptC w w' b := by
  have hu0 : (u == 0) = false := by rcases hu with rfl | rfl | rfl <;> rfl
  have hlt := isCl_lt h
  have HC : Hid (isCl lo w b who u S) := h
  obtain ⟨hlo, VM, h3, h4⟩ := h
  obtain ⟨g, cc, p0, k0, c0, rfl, ⟨hcn, hcm⟩, hgl, hce, hop⟩ := mine_head h4 hm
  unfold maxLen at hcm
  obtain ⟨pv, cv, rfl⟩ := opX_shape hx
  have hgx := good_of_ord hk.text ho
  obtain ⟨hg0, hp0⟩ := good_head hk hm
  obtain ⟨m0, hm0⟩ : ∃ m0, headM S = m0 := ⟨_, rfl⟩
  have hop : opX lo w (.slice p0 k0 c0) m0 := by rw [← hm0]; exact hop
  have hb0 : Below w.heap.size w (w.alloc (.cells #[.int .i64 who, .int .i64 S.id, .slice pv x.length cv] 105)) := (Below.refl _ _).alloc (Nat.le_refl _) _
  have H0 : Hid _ := (⟨zt_begin (c := who) (i := S.id) hlo h3 h4 hT hx, Nat.lt_of_lt_of_le hgl hb0.size, (hb0.cell (p := ⟨g, 0, none⟩) hgl).trans hce, opX_grown hop hb0⟩ : ZO lo b w.heap.size who u who S.id S (.slice (some ⟨g, 0, none⟩) S.mine.length cc) (.slice pv x.length cv) x g p0 k0 c0 m0 _)
  have CU : Hid (∀ wx, ZO lo b w.heap.size who u who S.id S (.slice (some ⟨g, 0, none⟩) S.mine.length cc) (.slice pv x.length cv) x g p0 k0 c0 m0 wx → Calls Tryz.prog 57 #[.pointer (some ⟨b, 0, none⟩)] wx fun e w' => e = .returned (.int .i64 u) ∧ Below wx.heap.size wx w') := fun wx hz => clUnit_any hz.zt.cl
  have CA : Hid (∀ wx, ZO lo b w.heap.size who u who S.id S (.slice (some ⟨g, 0, none⟩) S.mine.length cc) (.slice pv x.length cv) x g p0 k0 c0 m0 wx → Calls Tryz.prog 29 #[.slice pv x.length cv, .string ⟨S.seen.toArray⟩] wx fun e w' => e = .returned (.tuple #[.string ⟨(applyP x S.seen).toArray⟩, .nilIface]) ∧ Below wx.heap.size wx w') := fun wx hz => kApply _ x S.seen wx hz.zt.tabs hz.zt.op.1 hgx (by omega)
  have CM : Hid (∀ wx, ZO lo b w.heap.size who u who S.id S (.slice (some ⟨g, 0, none⟩) S.mine.length cc) (.slice pv x.length cv) x g p0 k0 c0 m0 wx → Calls Tryz.prog 29 #[.slice p0 k0 c0, .string ⟨S.seen.toArray⟩] wx fun e w' => e = .returned (.tuple #[.string ⟨(applyP m0 S.seen).toArray⟩, .nilIface]) ∧ Below wx.heap.size wx w') := fun wx hz => kApply _ m0 S.seen wx hz.zt.tabs hz.op0.1 (by rw [← hm0]; exact hg0) (by rw [← hm0]; omega)
  have CP : Hid (∀ wx, ZO lo b w.heap.size who u who S.id S (.slice (some ⟨g, 0, none⟩) S.mine.length cc) (.slice pv x.length cv) x g p0 k0 c0 m0 wx → Calls Tryz.prog 58 #[.pointer (some ⟨b, 0, none⟩)] wx fun e w' => e = .returned (.bool true) ∧ Below wx.heap.size wx w') := fun wx hz => by
    have := clPending_any hz.zt.cl
    rwa [decide_eq_true (List.length_pos_iff.2 hm)] at this
  have hmi : (0 : Int) < (S.mine.length : Int) := by have := List.length_pos_iff.2 hm; omega
  have hmn := List.length_pos_iff.2 hm
  have HM : Hid (S.mine ≠ []) := hm
  have HTW : Hid (S.mine.length ≤ 2) := hk.two
  have HID : Hid (0 ≤ S.id ∧ S.id ≤ 1000000) := hid
  have hrv1 : wrap64 (S.rev + 1) = S.rev + 1 := wrap64_small (by omega) (by omega)
  rw [hm0] at hd
  rw [hd] at CM
  clear hd
  generalize applyP x S.seen = tx at *
  obtain ⟨S2, hS2⟩ : ∃ S2, ({ S with seen := tx, rev := S.rev + 1, mine := S.mine.tail, id := if S.mine.tail ≠ [] then S.id + 1 else S.id } : Cl) = S2 := ⟨_, rfl⟩
  rw [hS2]
  have HS2 : Hid _ := hS2
  clear hS2
  obtain ⟨n, hn⟩ : ∃ n, S.mine.length = n := ⟨_, rfl⟩
  rw [hn] at hcn hmi hmn H0 CU CA CM CP
  generalize hxn : x.length = xn at *
  obtain ⟨hr0, hr1⟩ := hrv
  clear h3 h4 hx hT hu hlo hxn hsz ho hgx hg0 hp0 hk hm hm0 hop hce hgl hb0 hid hG hn
  · skip
    go_enter Tryz.func49, Tryz.ntmps49
    go_wp2_with (first
      | (go_at_call 57; refine (CU.out _ H0.out).mono ?_; rintro e w1 ⟨rfl, hb1⟩; have HZ1 : Hid (ZO lo b w.heap.size who u who S.id S (.slice (some ⟨g, 0, none⟩) n cc) (.slice pv xn cv) x g p0 k0 c0 m0 w1) := ZO.grow H0.out hb1; have HZ1B : Hid (Below w.heap.size w w1) := ((Below.refl _ _).alloc (Nat.le_refl _) _).trans (hb1.mono (by rw [World.size_alloc]; omega)); have q2 : w1.cell? ⟨b, 2, none⟩ = some (.int .i64 S.rev) := (cl_cells HZ1.out.zt.blk).2.2.1; clear hb1)
      | fail)
    refine wp_region_set (fun wx : World => ZO lo b w.heap.size who u who S.id S (.slice (some ⟨g, 0, none⟩) n cc) (.slice pv xn cv) x g p0 k0 c0 m0 wx) 12 12 (by kernel_rfl) rfl ?_
    intro w5 hb5
    have hz5 : ZO lo b w.heap.size who u who S.id S (.slice (some ⟨g, 0, none⟩) n cc) (.slice pv xn cv) x g p0 k0 c0 m0 w5 := ZO.grow HZ1.out hb5
    obtain ⟨G, hG⟩ := exists_growZ (Z := (fun wx : World => ZO lo b w.heap.size who u who S.id S (.slice (some ⟨g, 0, none⟩) n cc) (.slice pv xn cv) x g p0 k0 c0 m0 wx)) hz5 (fun {w w'} h hb => ZO.grow h hb)
    have e2 : ∀ y, (G y).cell? ⟨w.heap.size, 2, none⟩ = some (.slice pv xn cv) := fun y => Lib.cell_of_heap (hG.but y).zt.box 2
    have y3 : ∀ y, (G y).cell? ⟨b, 3, none⟩ = some (.string ⟨S.seen.toArray⟩) := fun y => (cl_cells (hG.but y).zt.blk).2.2.2.1
    (refine anyZ_step hG hz5 (i := 0) rfl (by kernel_rfl) (by kernel_rfl) (by kernel_rfl) (fun K hK => ?_); go_simp; refine hK _ ?_; clear hK K)
    (refine anyZ_step hG hz5 (i := 1) rfl (by kernel_rfl) (by kernel_rfl) (by kernel_rfl) (fun K hK => ?_); go_simp; refine hK _ ?_; clear hK K)
    (refine anyZ_step hG hz5 (i := 2) rfl (by kernel_rfl) (by kernel_rfl) (by kernel_rfl) (fun K hK => ?_); go_simp; refine hK _ ?_; clear hK K)
    (refine anyZ_step hG hz5 (i := 3) rfl (by kernel_rfl) (by kernel_rfl) (by kernel_rfl) (fun K hK => ?_); go_simp; refine hK _ ?_; clear hK K)
    (refine anyZ_step hG hz5 (i := 4) rfl (by kernel_rfl) (by kernel_rfl) (by kernel_rfl) (fun K hK => ?_); go_simp; refine hK _ ?_; clear hK K)
    (refine anyZ_step hG hz5 (i := 5) rfl (by kernel_rfl) (by kernel_rfl) (by kernel_rfl) (fun K hK => ?_); go_simp; refine hK _ ?_; clear hK K)
    (refine anyZ_step hG hz5 (i := 6) rfl (by kernel_rfl) (by kernel_rfl) (by kernel_rfl) (fun K hK => ?_); go_simp; apply Exists.intro; refine ⟨fun _ => ?_, hK _ ?_⟩; exact CA.out _ (hG.but _); clear hK K)
    (refine anyZ_step hG hz5 (i := 7) rfl (by kernel_rfl) (by kernel_rfl) (by kernel_rfl) (fun K hK => ?_); go_simp; refine hK _ ?_; clear hK K)
    (refine anyZ_step hG hz5 (i := 8) rfl (by kernel_rfl) (by kernel_rfl) (by kernel_rfl) (fun K hK => ?_); go_simp; refine hK _ ?_; clear hK K)
    (refine anyZ_step hG hz5 (i := 9) rfl (by kernel_rfl) (by kernel_rfl) (by kernel_rfl) (fun K hK => ?_); go_simp; refine hK _ ?_; clear hK K)
    (refine anyZ_step hG hz5 (i := 10) rfl (by kernel_rfl) (by kernel_rfl) (by kernel_rfl) (fun K hK => ?_); go_simp; refine hK _ ?_; clear hK K)
    (refine anyZ_step hG hz5 (i := 11) rfl (by kernel_rfl) (by kernel_rfl) (by kernel_rfl) (fun K hK => ?_); go_simp; refine hK _ ?_; clear hK K)
    clear e2 y3 hG
    refine anyZ_end (by kernel_rfl) ?_
    intro v5 hv5
    have HZ5 : Hid (ZO lo b w.heap.size who u who S.id S (.slice (some ⟨g, 0, none⟩) n cc) (.slice pv xn cv) x g p0 k0 c0 m0 v5) := ZO.grow hz5 hv5
    have HB5 : Hid (Below w.heap.size w v5) := HZ1B.out.trans ((hb5.trans (hv5.mono hb5.size)).mono HZ1B.out.size)
    have HZ5B : Hid (Below w.heap.size w v5) := HB5
    clear hb5 hv5 hz5
    go_wp2
    refine wp_region_set (fun wx : World => ZO lo b w.heap.size who u who S.id S (.slice (some ⟨g, 0, none⟩) n cc) (.slice pv xn cv) x g p0 k0 c0 m0 wx) 20 20 (by kernel_rfl) rfl ?_
    intro w8 hb8
    have hz8 : ZO lo b w.heap.size who u who S.id S (.slice (some ⟨g, 0, none⟩) n cc) (.slice pv xn cv) x g p0 k0 c0 m0 w8 := ZO.grow HZ5.out hb8
    obtain ⟨G, hG⟩ := exists_growZ (Z := (fun wx : World => ZO lo b w.heap.size who u who S.id S (.slice (some ⟨g, 0, none⟩) n cc) (.slice pv xn cv) x g p0 k0 c0 m0 wx)) hz8 (fun {w w'} h hb => ZO.grow h hb)
    have e0 : ∀ y, (G y).cell? ⟨w.heap.size, 0, none⟩ = some (.int .i64 who) := fun y => Lib.cell_of_heap (hG.but y).zt.box 0
    have e1 : ∀ y, (G y).cell? ⟨w.heap.size, 1, none⟩ = some (.int .i64 S.id) := fun y => Lib.cell_of_heap (hG.but y).zt.box 1
    have y0 : ∀ y, (G y).cell? ⟨b, 0, none⟩ = some (.int .i64 who) := fun y => (cl_cells (hG.but y).zt.blk).1
    have y6 : ∀ y, (G y).cell? ⟨b, 6, none⟩ = some (.int .i64 S.id) := fun y => (cl_cells (hG.but y).zt.blk).2.2.2.2.2.2.1
    (refine anyZ_step hG hz8 (i := 0) rfl (by kernel_rfl) (by kernel_rfl) (by kernel_rfl) (fun K hK => ?_); go_simp; refine hK _ ?_; clear hK K)
    (refine anyZ_step hG hz8 (i := 1) rfl (by kernel_rfl) (by kernel_rfl) (by kernel_rfl) (fun K hK => ?_); go_simp; apply Exists.intro; refine ⟨fun _ => ?_, hK _ ?_⟩; exact CP.out _ (hG.but _); clear hK K)
    (refine anyZ_step hG hz8 (i := 2) rfl (by kernel_rfl) (by kernel_rfl) (by kernel_rfl) (fun K hK => ?_); go_simp; refine hK _ ?_; clear hK K)
    (refine anyZ_step hG hz8 (i := 3) rfl (by kernel_rfl) (by kernel_rfl) (by kernel_rfl) (fun K hK => ?_); go_simp; refine hK _ ?_; clear hK K)
    (refine anyZ_step hG hz8 (i := 4) rfl (by kernel_rfl) (by kernel_rfl) (by kernel_rfl) (fun K hK => ?_); go_simp; refine hK _ ?_; clear hK K)
    (refine anyZ_step hG hz8 (i := 5) rfl (by kernel_rfl) (by kernel_rfl) (by kernel_rfl) (fun K hK => ?_); go_simp; refine hK _ ?_; clear hK K)
    (refine anyZ_step hG hz8 (i := 6) rfl (by kernel_rfl) (by kernel_rfl) (by kernel_rfl) (fun K hK => ?_); go_simp; refine hK _ ?_; clear hK K)
    (refine anyZ_step hG hz8 (i := 7) rfl (by kernel_rfl) (by kernel_rfl) (by kernel_rfl) (fun K hK => ?_); go_simp; refine hK _ ?_; clear hK K)
    (refine anyZ_step hG hz8 (i := 8) rfl (by kernel_rfl) (by kernel_rfl) (by kernel_rfl) (fun K hK => ?_); go_simp; refine hK _ ?_; clear hK K)
    (refine anyZ_step hG hz8 (i := 9) rfl (by kernel_rfl) (by kernel_rfl) (by kernel_rfl) (fun K hK => ?_); go_simp; refine hK _ ?_; clear hK K)
    (refine anyZ_step hG hz8 (i := 10) rfl (by kernel_rfl) (by kernel_rfl) (by kernel_rfl) (fun K hK => ?_); go_simp; refine hK _ ?_; clear hK K)
    (refine anyZ_step hG hz8 (i := 11) rfl (by kernel_rfl) (by kernel_rfl) (by kernel_rfl) (fun K hK => ?_); go_simp; refine hK _ ?_; clear hK K)
    (refine anyZ_step hG hz8 (i := 12) rfl (by kernel_rfl) (by kernel_rfl) (by kernel_rfl) (fun K hK => ?_); go_simp; refine hK _ ?_; clear hK K)
    (refine anyZ_step hG hz8 (i := 13) rfl (by kernel_rfl) (by kernel_rfl) (by kernel_rfl) (fun K hK => ?_); go_simp; refine hK _ ?_; clear hK K)
    (refine anyZ_step hG hz8 (i := 14) rfl (by kernel_rfl) (by kernel_rfl) (by kernel_rfl) (fun K hK => ?_); go_simp; refine hK _ ?_; clear hK K)
    (refine anyZ_step hG hz8 (i := 15) rfl (by kernel_rfl) (by kernel_rfl) (by kernel_rfl) (fun K hK => ?_); go_simp; refine hK _ ?_; clear hK K)
    (refine anyZ_step hG hz8 (i := 16) rfl (by kernel_rfl) (by kernel_rfl) (by kernel_rfl) (fun K hK => ?_); go_simp; refine hK _ ?_; clear hK K)
    (refine anyZ_step hG hz8 (i := 17) rfl (by kernel_rfl) (by kernel_rfl) (by kernel_rfl) (fun K hK => ?_); go_simp; refine hK _ ?_; clear hK K)
    (refine anyZ_step hG hz8 (i := 18) rfl (by kernel_rfl) (by kernel_rfl) (by kernel_rfl) (fun K hK => ?_); go_simp; refine hK _ ?_; clear hK K)
    (refine anyZ_step hG hz8 (i := 19) rfl (by kernel_rfl) (by kernel_rfl) (by kernel_rfl) (fun K hK => ?_); go_simp; refine hK _ ?_; clear hK K)
    clear e0 e1 y0 y6 hG
    refine anyZ_end (by kernel_rfl) ?_
    intro v8 hv8
    have HZ8 : Hid (ZO lo b w.heap.size who u who S.id S (.slice (some ⟨g, 0, none⟩) n cc) (.slice pv xn cv) x g p0 k0 c0 m0 v8) := ZO.grow hz8 hv8
    have HB8 : Hid (Below w.heap.size w v8) := HZ5B.out.trans ((hb8.trans (hv8.mono hb8.size)).mono HZ5B.out.size)
    have HZ8B : Hid (Below w.heap.size w v8) := HB8
    clear hb8 hv8 hz8
    go_wp2
    refine wp_region_set (fun wx : World => ZO lo b w.heap.size who u who S.id S (.slice (some ⟨g, 0, none⟩) n cc) (.slice pv xn cv) x g p0 k0 c0 m0 wx) 16 16 (by kernel_rfl) rfl ?_
    intro w9 hb9
    have hz9 : ZO lo b w.heap.size who u who S.id S (.slice (some ⟨g, 0, none⟩) n cc) (.slice pv xn cv) x g p0 k0 c0 m0 w9 := ZO.grow HZ8.out hb9
    obtain ⟨G, hG⟩ := exists_growZ (Z := (fun wx : World => ZO lo b w.heap.size who u who S.id S (.slice (some ⟨g, 0, none⟩) n cc) (.slice pv xn cv) x g p0 k0 c0 m0 wx)) hz9 (fun {w w'} h hb => ZO.grow h hb)
    have y3 : ∀ y, (G y).cell? ⟨b, 3, none⟩ = some (.string ⟨S.seen.toArray⟩) := fun y => (cl_cells (hG.but y).zt.blk).2.2.2.1
    have y4 : ∀ y, (G y).cell? ⟨b, 4, none⟩ = some (.slice (some ⟨g, 0, none⟩) n cc) := fun y => (cl_cells (hG.but y).zt.blk).2.2.2.2.1
    have yg : ∀ y, (G y).cell? ⟨g, 0, none⟩ = some (.slice p0 k0 c0) := fun y => (hG.but y).cel
    (refine anyZ_step hG hz9 (i := 0) rfl (by kernel_rfl) (by kernel_rfl) (by kernel_rfl) (fun K hK => ?_); go_simp; refine hK _ ?_; clear hK K)
    (refine anyZ_step hG hz9 (i := 1) rfl (by kernel_rfl) (by kernel_rfl) (by kernel_rfl) (fun K hK => ?_); go_simp; refine hK _ ?_; clear hK K)
    (refine anyZ_step hG hz9 (i := 2) rfl (by kernel_rfl) (by kernel_rfl) (by kernel_rfl) (fun K hK => ?_); go_simp; refine hK _ ?_; clear hK K)
    (refine anyZ_step hG hz9 (i := 3) rfl (by kernel_rfl) (by kernel_rfl) (by kernel_rfl) (fun K hK => ?_); go_simp; refine hK _ ?_; clear hK K)
    (refine anyZ_step hG hz9 (i := 4) rfl (by kernel_rfl) (by kernel_rfl) (by kernel_rfl) (fun K hK => ?_); go_simp; refine hK _ ?_; clear hK K)
    (refine anyZ_step hG hz9 (i := 5) rfl (by kernel_rfl) (by kernel_rfl) (by kernel_rfl) (fun K hK => ?_); go_simp; refine hK _ ?_; clear hK K)
    (refine anyZ_step hG hz9 (i := 6) rfl (by kernel_rfl) (by kernel_rfl) (by kernel_rfl) (fun K hK => ?_); go_simp; refine hK _ ?_; clear hK K)
    (refine anyZ_step hG hz9 (i := 7) rfl (by kernel_rfl) (by kernel_rfl) (by kernel_rfl) (fun K hK => ?_); go_simp; refine hK _ ?_; clear hK K)
    (refine anyZ_step hG hz9 (i := 8) rfl (by kernel_rfl) (by kernel_rfl) (by kernel_rfl) (fun K hK => ?_); go_simp; refine hK _ ?_; clear hK K)
    (refine anyZ_step hG hz9 (i := 9) rfl (by kernel_rfl) (by kernel_rfl) (by kernel_rfl) (fun K hK => ?_); go_simp; refine hK _ ?_; clear hK K)
    (refine anyZ_step hG hz9 (i := 10) rfl (by kernel_rfl) (by kernel_rfl) (by kernel_rfl) (fun K hK => ?_); go_simp; apply Exists.intro; refine ⟨fun _ => ?_, hK _ ?_⟩; exact CM.out _ (hG.but _); clear hK K)
    (refine anyZ_step hG hz9 (i := 11) rfl (by kernel_rfl) (by kernel_rfl) (by kernel_rfl) (fun K hK => ?_); go_simp; refine hK _ ?_; clear hK K)
    (refine anyZ_step hG hz9 (i := 12) rfl (by kernel_rfl) (by kernel_rfl) (by kernel_rfl) (fun K hK => ?_); go_simp; refine hK _ ?_; clear hK K)
    (refine anyZ_step hG hz9 (i := 13) rfl (by kernel_rfl) (by kernel_rfl) (by kernel_rfl) (fun K hK => ?_); go_simp; refine hK _ ?_; clear hK K)
    (refine anyZ_step hG hz9 (i := 14) rfl (by kernel_rfl) (by kernel_rfl) (by kernel_rfl) (fun K hK => ?_); go_simp; refine hK _ ?_; clear hK K)
    (refine anyZ_step hG hz9 (i := 15) rfl (by kernel_rfl) (by kernel_rfl) (by kernel_rfl) (fun K hK => ?_); go_simp; refine hK _ ?_; clear hK K)
    clear y3 y4 yg hG
    refine anyZ_end (by kernel_rfl) ?_
    intro v9 hv9
    have HZ9 : Hid (ZO lo b w.heap.size who u who S.id S (.slice (some ⟨g, 0, none⟩) n cc) (.slice pv xn cv) x g p0 k0 c0 m0 v9) := ZO.grow hz9 hv9
    have HB9 : Hid (Below w.heap.size w v9) := HZ8B.out.trans ((hb9.trans (hv9.mono hb9.size)).mono HZ8B.out.size)
    have HZ9B : Hid (Below w.heap.size w v9) := HB9
    clear hb9 hv9 hz9
    go_wp2_with (first
      | (go_at_call 123; refine (clLand_any HZ9.out.zt.cl HM.out HTW.out HID.out).mono ?_; rintro e w2 ⟨rfl, hc2, hk2⟩
         have HC2 : Hid _ := hc2
         have HK2 : Hid _ := hk2
         obtain ⟨_, vm2, hq2, _⟩ := hc2
         have z3 : w2.frozen? ⟨b, 3, none⟩ = false := frozen_block hq2
         have z2 : w2.frozen? ⟨b, 2, none⟩ = false := frozen_block hq2
         have y3 : w2.cell? ⟨b, 3, none⟩ = some (.string ⟨S.seen.toArray⟩) := Lib.cell_of_heap hq2 3
         have y2 : w2.cell? ⟨b, 2, none⟩ = some (.int .i64 S.rev) := Lib.cell_of_heap hq2 2
         clear hk2 hq2)
      | fail)
    go_ret
    obtain ⟨hE1, hE2⟩ := clSeen HC2.out tx (S.rev + 1)
    exact ⟨rfl, by rw [← HS2.out]; exact hE1, keptC.trans (keptC_below HZ9B.out hlt) (keptC.trans HK2.out hE2)⟩
set_option maxRecDepth 100000 in
set_option maxHeartbeats 4000000 in
theorem clTake_none {lo : Nat} {w : World} {b : Nat} {who u : Int} {S : Cl} (h : isCl lo w b who u S) (hk : okK 2000 S) (hu : unitOk u) (c i : Int) (v : Value) (x : List Pt) (hx : opX lo w v x) (hsz : S.seen.length + putsP x ≤ 500000) (hid : 0 ≤ S.id ∧ S.id ≤ 1000000) (hrv : 0 ≤ S.rev ∧ S.rev ≤ 1000000) (hG : 2 < lo ∧ 3 < lo) (hT : Lib.Utf8Tabs 2 3 w) (ho : ordE x S.seen = 0) (hm : S.mine = []) :
    Calls Tryz.prog 49 #[.pointer (some ⟨b, 0, none⟩), .int .i64 S.rev, .agg #[.int .i64 c, .int .i64 i, v]] w fun e w' => e = .returned .nilIface ∧ isCl lo w' b who u { S with seen := applyP x S.seen, rev := S.rev + 1, mine := (turnM S.mine x).1, doc := applyP (turnM S.mine x).2 S.doc } ∧ keptC w w' b := by
  have hu0 : (u == 0) = false := by rcases hu with rfl | rfl | rfl <;> rfl
  have hlt := isCl_lt h
  obtain ⟨hlo, VM, h3, h4⟩ := h
  obtain ⟨pv, cv, rfl⟩ := opX_shape hx
  have hgx := good_of_ord hk.text ho
  have H0 : Hid _ := zt_begin (c := c) (i := i) hlo h3 h4 hT hx
  have CU : Hid (∀ wx, ZT lo b w.heap.size who u c i S VM (.slice pv x.length cv) x wx → Calls Tryz.prog 57 #[.pointer (some ⟨b, 0, none⟩)] wx fun e w' => e = .returned (.int .i64 u) ∧ Below wx.heap.size wx w') := fun wx hz => clUnit_any hz.cl
  have CA : Hid (∀ wx, ZT lo b w.heap.size who u c i S VM (.slice pv x.length cv) x wx → Calls Tryz.prog 29 #[.slice pv x.length cv, .string ⟨S.seen.toArray⟩] wx fun e w' => e = .returned (.tuple #[.string ⟨(applyP x S.seen).toArray⟩, .nilIface]) ∧ Below wx.heap.size wx w') := fun wx hz => kApply _ x S.seen wx hz.tabs hz.op.1 hgx (by omega)
  have CP : Hid (∀ wx, ZT lo b w.heap.size who u c i S VM (.slice pv x.length cv) x wx → Calls Tryz.prog 58 #[.pointer (some ⟨b, 0, none⟩)] wx fun e w' => e = .returned (.bool false) ∧ Below wx.heap.size wx w') := fun wx hz => by
    have := clPending_any hz.cl
    rwa [show decide (0 < S.mine.length) = false by rw [hm]; rfl] at this
  clear hm
  have CT : Hid (∀ wx, ZT lo b w.heap.size who u c i S VM (.slice pv x.length cv) x wx → Calls Tryz.prog 124 #[.pointer (some ⟨b, 0, none⟩), .slice pv x.length cv] wx fun e w' => e = .returned (.tuple #[]) ∧ isCl lo w' b who u { S with mine := (turnM S.mine x).1, doc := applyP (turnM S.mine x).2 S.doc } ∧ keptC wx w' b) := fun wx hz => clTurn_any hz.cl hk _ x hz.op hgx hsz hG hz.tabs
  have hrv1 : wrap64 (S.rev + 1) = S.rev + 1 := wrap64_small (by omega) (by omega)
  generalize hxn : x.length = xn at *
  obtain ⟨hr0, hr1⟩ := hrv
  generalize applyP x S.seen = tx at *
  clear h3 h4 hx hT hu hlo hxn hsz ho hgx hk hid hG
  · skip
    go_enter Tryz.func49, Tryz.ntmps49
    go_wp2_with (first
      | (go_at_call 57; refine (CU.out _ H0.out).mono ?_; rintro e w1 ⟨rfl, hb1⟩; have HZ1 : Hid (ZT lo b w.heap.size who u c i S VM (.slice pv xn cv) x w1) := ZT.grow H0.out hb1; have HZ1B : Hid (Below w.heap.size w w1) := ((Below.refl _ _).alloc (Nat.le_refl _) _).trans (hb1.mono (by rw [World.size_alloc]; omega)); have q2 : w1.cell? ⟨b, 2, none⟩ = some (.int .i64 S.rev) := (cl_cells HZ1.out.blk).2.2.1; clear hb1)
      | fail)
    refine wp_region_set (fun wx : World => ZT lo b w.heap.size who u c i S VM (.slice pv xn cv) x wx) 12 12 (by kernel_rfl) rfl ?_
    intro w5 hb5
    have hz5 : ZT lo b w.heap.size who u c i S VM (.slice pv xn cv) x w5 := ZT.grow HZ1.out hb5
    obtain ⟨G, hG⟩ := exists_growZ (Z := (fun wx : World => ZT lo b w.heap.size who u c i S VM (.slice pv xn cv) x wx)) hz5 (fun {w w'} h hb => ZT.grow h hb)
    have e2 : ∀ y, (G y).cell? ⟨w.heap.size, 2, none⟩ = some (.slice pv xn cv) := fun y => Lib.cell_of_heap (hG.but y).box 2
    have y3 : ∀ y, (G y).cell? ⟨b, 3, none⟩ = some (.string ⟨S.seen.toArray⟩) := fun y => (cl_cells (hG.but y).blk).2.2.2.1
    (refine anyZ_step hG hz5 (i := 0) rfl (by kernel_rfl) (by kernel_rfl) (by kernel_rfl) (fun K hK => ?_); go_simp; refine hK _ ?_; clear hK K)
    (refine anyZ_step hG hz5 (i := 1) rfl (by kernel_rfl) (by kernel_rfl) (by kernel_rfl) (fun K hK => ?_); go_simp; refine hK _ ?_; clear hK K)
    (refine anyZ_step hG hz5 (i := 2) rfl (by kernel_rfl) (by kernel_rfl) (by kernel_rfl) (fun K hK => ?_); go_simp; refine hK _ ?_; clear hK K)
    (refine anyZ_step hG hz5 (i := 3) rfl (by kernel_rfl) (by kernel_rfl) (by kernel_rfl) (fun K hK => ?_); go_simp; refine hK _ ?_; clear hK K)
    (refine anyZ_step hG hz5 (i := 4) rfl (by kernel_rfl) (by kernel_rfl) (by kernel_rfl) (fun K hK => ?_); go_simp; refine hK _ ?_; clear hK K)
    (refine anyZ_step hG hz5 (i := 5) rfl (by kernel_rfl) (by kernel_rfl) (by kernel_rfl) (fun K hK => ?_); go_simp; refine hK _ ?_; clear hK K)
    (refine anyZ_step hG hz5 (i := 6) rfl (by kernel_rfl) (by kernel_rfl) (by kernel_rfl) (fun K hK => ?_); go_simp; apply Exists.intro; refine ⟨fun _ => ?_, hK _ ?_⟩; exact CA.out _ (hG.but _); clear hK K)
    (refine anyZ_step hG hz5 (i := 7) rfl (by kernel_rfl) (by kernel_rfl) (by kernel_rfl) (fun K hK => ?_); go_simp; refine hK _ ?_; clear hK K)
    (refine anyZ_step hG hz5 (i := 8) rfl (by kernel_rfl) (by kernel_rfl) (by kernel_rfl) (fun K hK => ?_); go_simp; refine hK _ ?_; clear hK K)
    (refine anyZ_step hG hz5 (i := 9) rfl (by kernel_rfl) (by kernel_rfl) (by kernel_rfl) (fun K hK => ?_); go_simp; refine hK _ ?_; clear hK K)
    (refine anyZ_step hG hz5 (i := 10) rfl (by kernel_rfl) (by kernel_rfl) (by kernel_rfl) (fun K hK => ?_); go_simp; refine hK _ ?_; clear hK K)
    (refine anyZ_step hG hz5 (i := 11) rfl (by kernel_rfl) (by kernel_rfl) (by kernel_rfl) (fun K hK => ?_); go_simp; refine hK _ ?_; clear hK K)
    clear e2 y3 hG
    refine anyZ_end (by kernel_rfl) ?_
    intro v5 hv5
    have HZ5 : Hid (ZT lo b w.heap.size who u c i S VM (.slice pv xn cv) x v5) := ZT.grow hz5 hv5
    have HB5 : Hid (Below w.heap.size w v5) := HZ1B.out.trans ((hb5.trans (hv5.mono hb5.size)).mono HZ1B.out.size)
    clear hb5 hv5 hz5
    have HZ5B : Hid (Below w.heap.size w v5) := HB5
    go_wp2
    refine wp_region_set (fun wx : World => ZT lo b w.heap.size who u c i S VM (.slice pv xn cv) x wx) 20 20 (by kernel_rfl) rfl ?_
    intro w8 hb8
    have hz8 : ZT lo b w.heap.size who u c i S VM (.slice pv xn cv) x w8 := ZT.grow HZ5.out hb8
    obtain ⟨G, hG⟩ := exists_growZ (Z := (fun wx : World => ZT lo b w.heap.size who u c i S VM (.slice pv xn cv) x wx)) hz8 (fun {w w'} h hb => ZT.grow h hb)
    have e0 : ∀ y, (G y).cell? ⟨w.heap.size, 0, none⟩ = some (.int .i64 c) := fun y => Lib.cell_of_heap (hG.but y).box 0
    have e1 : ∀ y, (G y).cell? ⟨w.heap.size, 1, none⟩ = some (.int .i64 i) := fun y => Lib.cell_of_heap (hG.but y).box 1
    have y0 : ∀ y, (G y).cell? ⟨b, 0, none⟩ = some (.int .i64 who) := fun y => (cl_cells (hG.but y).blk).1
    have y6 : ∀ y, (G y).cell? ⟨b, 6, none⟩ = some (.int .i64 S.id) := fun y => (cl_cells (hG.but y).blk).2.2.2.2.2.2.1
    (refine anyZ_step hG hz8 (i := 0) rfl (by kernel_rfl) (by kernel_rfl) (by kernel_rfl) (fun K hK => ?_); go_simp; refine hK _ ?_; clear hK K)
    (refine anyZ_step hG hz8 (i := 1) rfl (by kernel_rfl) (by kernel_rfl) (by kernel_rfl) (fun K hK => ?_); go_simp; apply Exists.intro; refine ⟨fun _ => ?_, hK _ ?_⟩; exact CP.out _ (hG.but _); clear hK K)
    (refine anyZ_step hG hz8 (i := 2) rfl (by kernel_rfl) (by kernel_rfl) (by kernel_rfl) (fun K hK => ?_); go_simp; refine hK _ ?_; clear hK K)
    (refine anyZ_step hG hz8 (i := 3) rfl (by kernel_rfl) (by kernel_rfl) (by kernel_rfl) (fun K hK => ?_); go_simp; refine hK _ ?_; clear hK K)
    (refine anyZ_step hG hz8 (i := 4) rfl (by kernel_rfl) (by kernel_rfl) (by kernel_rfl) (fun K hK => ?_); go_simp; refine hK _ ?_; clear hK K)
    (refine anyZ_step hG hz8 (i := 5) rfl (by kernel_rfl) (by kernel_rfl) (by kernel_rfl) (fun K hK => ?_); go_simp; refine hK _ ?_; clear hK K)
    (refine anyZ_step hG hz8 (i := 6) rfl (by kernel_rfl) (by kernel_rfl) (by kernel_rfl) (fun K hK => ?_); go_simp; refine hK _ ?_; clear hK K)
    (refine anyZ_step hG hz8 (i := 7) rfl (by kernel_rfl) (by kernel_rfl) (by kernel_rfl) (fun K hK => ?_); go_simp; refine hK _ ?_; clear hK K)
    (refine anyZ_step hG hz8 (i := 8) rfl (by kernel_rfl) (by kernel_rfl) (by kernel_rfl) (fun K hK => ?_); go_simp; refine hK _ ?_; clear hK K)
    (refine anyZ_step hG hz8 (i := 9) rfl (by kernel_rfl) (by kernel_rfl) (by kernel_rfl) (fun K hK => ?_); go_simp; refine hK _ ?_; clear hK K)
    (refine anyZ_step hG hz8 (i := 10) rfl (by kernel_rfl) (by kernel_rfl) (by kernel_rfl) (fun K hK => ?_); go_simp; refine hK _ ?_; clear hK K)
    (refine anyZ_step hG hz8 (i := 11) rfl (by kernel_rfl) (by kernel_rfl) (by kernel_rfl) (fun K hK => ?_); go_simp; refine hK _ ?_; clear hK K)
    (refine anyZ_step hG hz8 (i := 12) rfl (by kernel_rfl) (by kernel_rfl) (by kernel_rfl) (fun K hK => ?_); go_simp; refine hK _ ?_; clear hK K)
    (refine anyZ_step hG hz8 (i := 13) rfl (by kernel_rfl) (by kernel_rfl) (by kernel_rfl) (fun K hK => ?_); go_simp; refine hK _ ?_; clear hK K)
    (refine anyZ_step hG hz8 (i := 14) rfl (by kernel_rfl) (by kernel_rfl) (by kernel_rfl) (fun K hK => ?_); go_simp; refine hK _ ?_; clear hK K)
    (refine anyZ_step hG hz8 (i := 15) rfl (by kernel_rfl) (by kernel_rfl) (by kernel_rfl) (fun K hK => ?_); go_simp; refine hK _ ?_; clear hK K)
    (refine anyZ_step hG hz8 (i := 16) rfl (by kernel_rfl) (by kernel_rfl) (by kernel_rfl) (fun K hK => ?_); go_simp; refine hK _ ?_; clear hK K)
    (refine anyZ_step hG hz8 (i := 17) rfl (by kernel_rfl) (by kernel_rfl) (by kernel_rfl) (fun K hK => ?_); go_simp; refine hK _ ?_; clear hK K)
    (refine anyZ_step hG hz8 (i := 18) rfl (by kernel_rfl) (by kernel_rfl) (by kernel_rfl) (fun K hK => ?_); go_simp; refine hK _ ?_; clear hK K)
    (refine anyZ_step hG hz8 (i := 19) rfl (by kernel_rfl) (by kernel_rfl) (by kernel_rfl) (fun K hK => ?_); go_simp; refine hK _ ?_; clear hK K)
    clear e0 e1 y0 y6 hG
    refine anyZ_end (by kernel_rfl) ?_
    intro v8 hv8
    have HZ8 : Hid (ZT lo b w.heap.size who u c i S VM (.slice pv xn cv) x v8) := ZT.grow hz8 hv8
    have HB8 : Hid (Below w.heap.size w v8) := HZ5B.out.trans ((hb8.trans (hv8.mono hb8.size)).mono HZ5B.out.size)
    clear hb8 hv8 hz8
    have HZ8B : Hid (Below w.heap.size w v8) := HB8
    have x2 : v8.cell? ⟨w.heap.size, 2, none⟩ = some (.slice pv xn cv) := Lib.cell_of_heap HZ8.out.box 2
    go_wp2_with (first
      | (go_at_call 124; refine (CT.out _ HZ8.out).mono ?_; rintro e w2 ⟨rfl, hc2, hk2⟩
         have HC2 : Hid _ := hc2
         have HK2 : Hid _ := hk2
         obtain ⟨_, vm2, hq2, _⟩ := hc2
         have z3 : w2.frozen? ⟨b, 3, none⟩ = false := frozen_block hq2
         have z2 : w2.frozen? ⟨b, 2, none⟩ = false := frozen_block hq2
         have y3 : w2.cell? ⟨b, 3, none⟩ = some (.string ⟨S.seen.toArray⟩) := Lib.cell_of_heap hq2 3
         have y2 : w2.cell? ⟨b, 2, none⟩ = some (.int .i64 S.rev) := Lib.cell_of_heap hq2 2
         clear hk2 hq2)
      | fail)
    go_ret
    obtain ⟨hE1, hE2⟩ := clSeen HC2.out tx (S.rev + 1)
    exact ⟨rfl, hE1, keptC.trans (keptC_below HZ8B.out hlt) (keptC.trans HK2.out hE2)⟩
set_option maxRecDepth 100000 in
set_option maxHeartbeats 4000000 in
theorem clTake_who {lo : Nat} {w : World} {b : Nat} {who u : Int} {S : Cl} (h : isCl lo w b who u S) (hk : okK 2000 S) (hu : unitOk u) (c i : Int) (v : Value) (x : List Pt) (hx : opX lo w v x) (hsz : S.seen.length + putsP x ≤ 500000) (hid : 0 ≤ S.id ∧ S.id ≤ 1000000) (hrv : 0 ≤ S.rev ∧ S.rev ≤ 1000000) (hG : 2 < lo ∧ 3 < lo) (hT : Lib.Utf8Tabs 2 3 w) (ho : ordE x S.seen = 0) (hm : S.mine ≠ []) (hc : c ≠ who) :
    Calls Tryz.prog 49 #[.pointer (some ⟨b, 0, none⟩), .int .i64 S.rev, .agg #[.int .i64 c, .int .i64 i, v]] w fun e w' => e = .returned .nilIface ∧ isCl lo w' b who u { S with seen := applyP x S.seen, rev := S.rev + 1, mine := (turnM S.mine x).1, doc := applyP (turnM S.mine x).2 S.doc } ∧ keptC w w' b := by
  have hu0 : (u == 0) = false := by rcases hu with rfl | rfl | rfl <;> rfl
  have hlt := isCl_lt h
  obtain ⟨hlo, VM, h3, h4⟩ := h
  obtain ⟨pv, cv, rfl⟩ := opX_shape hx
  have hgx := good_of_ord hk.text ho
  have H0 : Hid _ := zt_begin (c := c) (i := i) hlo h3 h4 hT hx
  have CU : Hid (∀ wx, ZT lo b w.heap.size who u c i S VM (.slice pv x.length cv) x wx → Calls Tryz.prog 57 #[.pointer (some ⟨b, 0, none⟩)] wx fun e w' => e = .returned (.int .i64 u) ∧ Below wx.heap.size wx w') := fun wx hz => clUnit_any hz.cl
  have CA : Hid (∀ wx, ZT lo b w.heap.size who u c i S VM (.slice pv x.length cv) x wx → Calls Tryz.prog 29 #[.slice pv x.length cv, .string ⟨S.seen.toArray⟩] wx fun e w' => e = .returned (.tuple #[.string ⟨(applyP x S.seen).toArray⟩, .nilIface]) ∧ Below wx.heap.size wx w') := fun wx hz => kApply _ x S.seen wx hz.tabs hz.op.1 hgx (by omega)
  have CP : Hid (∀ wx, ZT lo b w.heap.size who u c i S VM (.slice pv x.length cv) x wx → Calls Tryz.prog 58 #[.pointer (some ⟨b, 0, none⟩)] wx fun e w' => e = .returned (.bool true) ∧ Below wx.heap.size wx w') := fun wx hz => by
    have := clPending_any hz.cl
    rwa [decide_eq_true (List.length_pos_iff.2 hm)] at this
  have hc1 : (c == who) = false := beq_eq_false_iff_ne.2 hc
  clear hm
  have CT : Hid (∀ wx, ZT lo b w.heap.size who u c i S VM (.slice pv x.length cv) x wx → Calls Tryz.prog 124 #[.pointer (some ⟨b, 0, none⟩), .slice pv x.length cv] wx fun e w' => e = .returned (.tuple #[]) ∧ isCl lo w' b who u { S with mine := (turnM S.mine x).1, doc := applyP (turnM S.mine x).2 S.doc } ∧ keptC wx w' b) := fun wx hz => clTurn_any hz.cl hk _ x hz.op hgx hsz hG hz.tabs
  have hrv1 : wrap64 (S.rev + 1) = S.rev + 1 := wrap64_small (by omega) (by omega)
  generalize hxn : x.length = xn at *
  obtain ⟨hr0, hr1⟩ := hrv
  generalize applyP x S.seen = tx at *
  clear h3 h4 hx hT hu hlo hxn hsz ho hgx hk hid hG
  · skip
    go_enter Tryz.func49, Tryz.ntmps49
    go_wp2_with (first
      | (go_at_call 57; refine (CU.out _ H0.out).mono ?_; rintro e w1 ⟨rfl, hb1⟩; have HZ1 : Hid (ZT lo b w.heap.size who u c i S VM (.slice pv xn cv) x w1) := ZT.grow H0.out hb1; have HZ1B : Hid (Below w.heap.size w w1) := ((Below.refl _ _).alloc (Nat.le_refl _) _).trans (hb1.mono (by rw [World.size_alloc]; omega)); have q2 : w1.cell? ⟨b, 2, none⟩ = some (.int .i64 S.rev) := (cl_cells HZ1.out.blk).2.2.1; clear hb1)
      | fail)
    refine wp_region_set (fun wx : World => ZT lo b w.heap.size who u c i S VM (.slice pv xn cv) x wx) 12 12 (by kernel_rfl) rfl ?_
    intro w5 hb5
    have hz5 : ZT lo b w.heap.size who u c i S VM (.slice pv xn cv) x w5 := ZT.grow HZ1.out hb5
    obtain ⟨G, hG⟩ := exists_growZ (Z := (fun wx : World => ZT lo b w.heap.size who u c i S VM (.slice pv xn cv) x wx)) hz5 (fun {w w'} h hb => ZT.grow h hb)
    have e2 : ∀ y, (G y).cell? ⟨w.heap.size, 2, none⟩ = some (.slice pv xn cv) := fun y => Lib.cell_of_heap (hG.but y).box 2
    have y3 : ∀ y, (G y).cell? ⟨b, 3, none⟩ = some (.string ⟨S.seen.toArray⟩) := fun y => (cl_cells (hG.but y).blk).2.2.2.1
    (refine anyZ_step hG hz5 (i := 0) rfl (by kernel_rfl) (by kernel_rfl) (by kernel_rfl) (fun K hK => ?_); go_simp; refine hK _ ?_; clear hK K)
    (refine anyZ_step hG hz5 (i := 1) rfl (by kernel_rfl) (by kernel_rfl) (by kernel_rfl) (fun K hK => ?_); go_simp; refine hK _ ?_; clear hK K)
    (refine anyZ_step hG hz5 (i := 2) rfl (by kernel_rfl) (by kernel_rfl) (by kernel_rfl) (fun K hK => ?_); go_simp; refine hK _ ?_; clear hK K)
    (refine anyZ_step hG hz5 (i := 3) rfl (by kernel_rfl) (by kernel_rfl) (by kernel_rfl) (fun K hK => ?_); go_simp; refine hK _ ?_; clear hK K)
    (refine anyZ_step hG hz5 (i := 4) rfl (by kernel_rfl) (by kernel_rfl) (by kernel_rfl) (fun K hK => ?_); go_simp; refine hK _ ?_; clear hK K)
    (refine anyZ_step hG hz5 (i := 5) rfl (by kernel_rfl) (by kernel_rfl) (by kernel_rfl) (fun K hK => ?_); go_simp; refine hK _ ?_; clear hK K)
    (refine anyZ_step hG hz5 (i := 6) rfl (by kernel_rfl) (by kernel_rfl) (by kernel_rfl) (fun K hK => ?_); go_simp; apply Exists.intro; refine ⟨fun _ => ?_, hK _ ?_⟩; exact CA.out _ (hG.but _); clear hK K)
    (refine anyZ_step hG hz5 (i := 7) rfl (by kernel_rfl) (by kernel_rfl) (by kernel_rfl) (fun K hK => ?_); go_simp; refine hK _ ?_; clear hK K)
    (refine anyZ_step hG hz5 (i := 8) rfl (by kernel_rfl) (by kernel_rfl) (by kernel_rfl) (fun K hK => ?_); go_simp; refine hK _ ?_; clear hK K)
    (refine anyZ_step hG hz5 (i := 9) rfl (by kernel_rfl) (by kernel_rfl) (by kernel_rfl) (fun K hK => ?_); go_simp; refine hK _ ?_; clear hK K)
    (refine anyZ_step hG hz5 (i := 10) rfl (by kernel_rfl) (by kernel_rfl) (by kernel_rfl) (fun K hK => ?_); go_simp; refine hK _ ?_; clear hK K)
    (refine anyZ_step hG hz5 (i := 11) rfl (by kernel_rfl) (by kernel_rfl) (by kernel_rfl) (fun K hK => ?_); go_simp; refine hK _ ?_; clear hK K)
    clear e2 y3 hG
    refine anyZ_end (by kernel_rfl) ?_
    intro v5 hv5
    have HZ5 : Hid (ZT lo b w.heap.size who u c i S VM (.slice pv xn cv) x v5) := ZT.grow hz5 hv5
    have HB5 : Hid (Below w.heap.size w v5) := HZ1B.out.trans ((hb5.trans (hv5.mono hb5.size)).mono HZ1B.out.size)
    clear hb5 hv5 hz5
    have HZ5B : Hid (Below w.heap.size w v5) := HB5
    go_wp2
    refine wp_region_set (fun wx : World => ZT lo b w.heap.size who u c i S VM (.slice pv xn cv) x wx) 20 20 (by kernel_rfl) rfl ?_
    intro w8 hb8
    have hz8 : ZT lo b w.heap.size who u c i S VM (.slice pv xn cv) x w8 := ZT.grow HZ5.out hb8
    obtain ⟨G, hG⟩ := exists_growZ (Z := (fun wx : World => ZT lo b w.heap.size who u c i S VM (.slice pv xn cv) x wx)) hz8 (fun {w w'} h hb => ZT.grow h hb)
    have e0 : ∀ y, (G y).cell? ⟨w.heap.size, 0, none⟩ = some (.int .i64 c) := fun y => Lib.cell_of_heap (hG.but y).box 0
    have e1 : ∀ y, (G y).cell? ⟨w.heap.size, 1, none⟩ = some (.int .i64 i) := fun y => Lib.cell_of_heap (hG.but y).box 1
    have y0 : ∀ y, (G y).cell? ⟨b, 0, none⟩ = some (.int .i64 who) := fun y => (cl_cells (hG.but y).blk).1
    have y6 : ∀ y, (G y).cell? ⟨b, 6, none⟩ = some (.int .i64 S.id) := fun y => (cl_cells (hG.but y).blk).2.2.2.2.2.2.1
    (refine anyZ_step hG hz8 (i := 0) rfl (by kernel_rfl) (by kernel_rfl) (by kernel_rfl) (fun K hK => ?_); go_simp; refine hK _ ?_; clear hK K)
    (refine anyZ_step hG hz8 (i := 1) rfl (by kernel_rfl) (by kernel_rfl) (by kernel_rfl) (fun K hK => ?_); go_simp; apply Exists.intro; refine ⟨fun _ => ?_, hK _ ?_⟩; exact CP.out _ (hG.but _); clear hK K)
    (refine anyZ_step hG hz8 (i := 2) rfl (by kernel_rfl) (by kernel_rfl) (by kernel_rfl) (fun K hK => ?_); go_simp; refine hK _ ?_; clear hK K)
    (refine anyZ_step hG hz8 (i := 3) rfl (by kernel_rfl) (by kernel_rfl) (by kernel_rfl) (fun K hK => ?_); go_simp; refine hK _ ?_; clear hK K)
    (refine anyZ_step hG hz8 (i := 4) rfl (by kernel_rfl) (by kernel_rfl) (by kernel_rfl) (fun K hK => ?_); go_simp; refine hK _ ?_; clear hK K)
    (refine anyZ_step hG hz8 (i := 5) rfl (by kernel_rfl) (by kernel_rfl) (by kernel_rfl) (fun K hK => ?_); go_simp; refine hK _ ?_; clear hK K)
    (refine anyZ_step hG hz8 (i := 6) rfl (by kernel_rfl) (by kernel_rfl) (by kernel_rfl) (fun K hK => ?_); go_simp; refine hK _ ?_; clear hK K)
    (refine anyZ_step hG hz8 (i := 7) rfl (by kernel_rfl) (by kernel_rfl) (by kernel_rfl) (fun K hK => ?_); go_simp; refine hK _ ?_; clear hK K)
    (refine anyZ_step hG hz8 (i := 8) rfl (by kernel_rfl) (by kernel_rfl) (by kernel_rfl) (fun K hK => ?_); go_simp; refine hK _ ?_; clear hK K)
    (refine anyZ_step hG hz8 (i := 9) rfl (by kernel_rfl) (by kernel_rfl) (by kernel_rfl) (fun K hK => ?_); go_simp; refine hK _ ?_; clear hK K)
    (refine anyZ_step hG hz8 (i := 10) rfl (by kernel_rfl) (by kernel_rfl) (by kernel_rfl) (fun K hK => ?_); go_simp; refine hK _ ?_; clear hK K)
    (refine anyZ_step hG hz8 (i := 11) rfl (by kernel_rfl) (by kernel_rfl) (by kernel_rfl) (fun K hK => ?_); go_simp; refine hK _ ?_; clear hK K)
    (refine anyZ_step hG hz8 (i := 12) rfl (by kernel_rfl) (by kernel_rfl) (by kernel_rfl) (fun K hK => ?_); go_simp; refine hK _ ?_; clear hK K)
    (refine anyZ_step hG hz8 (i := 13) rfl (by kernel_rfl) (by kernel_rfl) (by kernel_rfl) (fun K hK => ?_); go_simp; refine hK _ ?_; clear hK K)
    (refine anyZ_step hG hz8 (i := 14) rfl (by kernel_rfl) (by kernel_rfl) (by kernel_rfl) (fun K hK => ?_); go_simp; refine hK _ ?_; clear hK K)
    (refine anyZ_step hG hz8 (i := 15) rfl (by kernel_rfl) (by kernel_rfl) (by kernel_rfl) (fun K hK => ?_); go_simp; refine hK _ ?_; clear hK K)
    (refine anyZ_step hG hz8 (i := 16) rfl (by kernel_rfl) (by kernel_rfl) (by kernel_rfl) (fun K hK => ?_); go_simp; refine hK _ ?_; clear hK K)
    (refine anyZ_step hG hz8 (i := 17) rfl (by kernel_rfl) (by kernel_rfl) (by kernel_rfl) (fun K hK => ?_); go_simp; refine hK _ ?_; clear hK K)
    (refine anyZ_step hG hz8 (i := 18) rfl (by kernel_rfl) (by kernel_rfl) (by kernel_rfl) (fun K hK => ?_); go_simp; refine hK _ ?_; clear hK K)
    (refine anyZ_step hG hz8 (i := 19) rfl (by kernel_rfl) (by kernel_rfl) (by kernel_rfl) (fun K hK => ?_); go_simp; refine hK _ ?_; clear hK K)
    clear e0 e1 y0 y6 hG
    refine anyZ_end (by kernel_rfl) ?_
    intro v8 hv8
    have HZ8 : Hid (ZT lo b w.heap.size who u c i S VM (.slice pv xn cv) x v8) := ZT.grow hz8 hv8
    have HB8 : Hid (Below w.heap.size w v8) := HZ5B.out.trans ((hb8.trans (hv8.mono hb8.size)).mono HZ5B.out.size)
    clear hb8 hv8 hz8
    have HZ8B : Hid (Below w.heap.size w v8) := HB8
    have x2 : v8.cell? ⟨w.heap.size, 2, none⟩ = some (.slice pv xn cv) := Lib.cell_of_heap HZ8.out.box 2
    go_wp2_with (first
      | (go_at_call 124; refine (CT.out _ HZ8.out).mono ?_; rintro e w2 ⟨rfl, hc2, hk2⟩
         have HC2 : Hid _ := hc2
         have HK2 : Hid _ := hk2
         obtain ⟨_, vm2, hq2, _⟩ := hc2
         have z3 : w2.frozen? ⟨b, 3, none⟩ = false := frozen_block hq2
         have z2 : w2.frozen? ⟨b, 2, none⟩ = false := frozen_block hq2
         have y3 : w2.cell? ⟨b, 3, none⟩ = some (.string ⟨S.seen.toArray⟩) := Lib.cell_of_heap hq2 3
         have y2 : w2.cell? ⟨b, 2, none⟩ = some (.int .i64 S.rev) := Lib.cell_of_heap hq2 2
         clear hk2 hq2)
      | fail)
    go_ret
    obtain ⟨hE1, hE2⟩ := clSeen HC2.out tx (S.rev + 1)
    exact ⟨rfl, hE1, keptC.trans (keptC_below HZ8B.out hlt) (keptC.trans HK2.out hE2)⟩
set_option maxRecDepth 100000 in
set_option maxHeartbeats 4000000 in
theorem clTake_id {lo : Nat} {w : World} {b : Nat} {who u : Int} {S : Cl} (h : isCl lo w b who u S) (hk : okK 2000 S) (hu : unitOk u) (c i : Int) (v : Value) (x : List Pt) (hx : opX lo w v x) (hsz : S.seen.length + putsP x ≤ 500000) (hid : 0 ≤ S.id ∧ S.id ≤ 1000000) (hrv : 0 ≤ S.rev ∧ S.rev ≤ 1000000) (hG : 2 < lo ∧ 3 < lo) (hT : Lib.Utf8Tabs 2 3 w) (ho : ordE x S.seen = 0) (hm : S.mine ≠ []) (hc : i ≠ S.id) :
    Calls Tryz.prog 49 #[.pointer (some ⟨b, 0, none⟩), .int .i64 S.rev, .agg #[.int .i64 c, .int .i64 i, v]] w fun e w' => e = .returned .nilIface ∧ isCl lo w' b who u { S with seen := applyP x S.seen, rev := S.rev + 1, mine := (turnM S.mine x).1, doc := applyP (turnM S.mine x).2 S.doc } ∧ keptC w w' b := by
  have hu0 : (u == 0) = false := by rcases hu with rfl | rfl | rfl <;> rfl
  have hlt := isCl_lt h
  obtain ⟨hlo, VM, h3, h4⟩ := h
  obtain ⟨pv, cv, rfl⟩ := opX_shape hx
  have hgx := good_of_ord hk.text ho
  have H0 : Hid _ := zt_begin (c := c) (i := i) hlo h3 h4 hT hx
  have CU : Hid (∀ wx, ZT lo b w.heap.size who u c i S VM (.slice pv x.length cv) x wx → Calls Tryz.prog 57 #[.pointer (some ⟨b, 0, none⟩)] wx fun e w' => e = .returned (.int .i64 u) ∧ Below wx.heap.size wx w') := fun wx hz => clUnit_any hz.cl
  have CA : Hid (∀ wx, ZT lo b w.heap.size who u c i S VM (.slice pv x.length cv) x wx → Calls Tryz.prog 29 #[.slice pv x.length cv, .string ⟨S.seen.toArray⟩] wx fun e w' => e = .returned (.tuple #[.string ⟨(applyP x S.seen).toArray⟩, .nilIface]) ∧ Below wx.heap.size wx w') := fun wx hz => kApply _ x S.seen wx hz.tabs hz.op.1 hgx (by omega)
  have CP : Hid (∀ wx, ZT lo b w.heap.size who u c i S VM (.slice pv x.length cv) x wx → Calls Tryz.prog 58 #[.pointer (some ⟨b, 0, none⟩)] wx fun e w' => e = .returned (.bool true) ∧ Below wx.heap.size wx w') := fun wx hz => by
    have := clPending_any hz.cl
    rwa [decide_eq_true (List.length_pos_iff.2 hm)] at this
  have hc1 : (i == S.id) = false := beq_eq_false_iff_ne.2 hc
  by_cases hw : c = who
  case neg => exact clTake_who ⟨hlo, VM, h3, h4⟩ hk (by assumption) c i _ x hx hsz hid hrv hG hT ho hm hw
  have hw1 : (c == who) = true := by rw [hw]; exact beq_self_eq_true _
  clear hm hw
  have CT : Hid (∀ wx, ZT lo b w.heap.size who u c i S VM (.slice pv x.length cv) x wx → Calls Tryz.prog 124 #[.pointer (some ⟨b, 0, none⟩), .slice pv x.length cv] wx fun e w' => e = .returned (.tuple #[]) ∧ isCl lo w' b who u { S with mine := (turnM S.mine x).1, doc := applyP (turnM S.mine x).2 S.doc } ∧ keptC wx w' b) := fun wx hz => clTurn_any hz.cl hk _ x hz.op hgx hsz hG hz.tabs
  have hrv1 : wrap64 (S.rev + 1) = S.rev + 1 := wrap64_small (by omega) (by omega)
  generalize hxn : x.length = xn at *
  obtain ⟨hr0, hr1⟩ := hrv
  generalize applyP x S.seen = tx at *
  clear h3 h4 hx hT hu hlo hxn hsz ho hgx hk hid hG
  · skip
    go_enter Tryz.func49, Tryz.ntmps49
    go_wp2_with (first
      | (go_at_call 57; refine (CU.out _ H0.out).mono ?_; rintro e w1 ⟨rfl, hb1⟩; have HZ1 : Hid (ZT lo b w.heap.size who u c i S VM (.slice pv xn cv) x w1) := ZT.grow H0.out hb1; have HZ1B : Hid (Below w.heap.size w w1) := ((Below.refl _ _).alloc (Nat.le_refl _) _).trans (hb1.mono (by rw [World.size_alloc]; omega)); have q2 : w1.cell? ⟨b, 2, none⟩ = some (.int .i64 S.rev) := (cl_cells HZ1.out.blk).2.2.1; clear hb1)
      | fail)
    refine wp_region_set (fun wx : World => ZT lo b w.heap.size who u c i S VM (.slice pv xn cv) x wx) 12 12 (by kernel_rfl) rfl ?_
    intro w5 hb5
    have hz5 : ZT lo b w.heap.size who u c i S VM (.slice pv xn cv) x w5 := ZT.grow HZ1.out hb5
    obtain ⟨G, hG⟩ := exists_growZ (Z := (fun wx : World => ZT lo b w.heap.size who u c i S VM (.slice pv xn cv) x wx)) hz5 (fun {w w'} h hb => ZT.grow h hb)
    have e2 : ∀ y, (G y).cell? ⟨w.heap.size, 2, none⟩ = some (.slice pv xn cv) := fun y => Lib.cell_of_heap (hG.but y).box 2
    have y3 : ∀ y, (G y).cell? ⟨b, 3, none⟩ = some (.string ⟨S.seen.toArray⟩) := fun y => (cl_cells (hG.but y).blk).2.2.2.1
    (refine anyZ_step hG hz5 (i := 0) rfl (by kernel_rfl) (by kernel_rfl) (by kernel_rfl) (fun K hK => ?_); go_simp; refine hK _ ?_; clear hK K)
    (refine anyZ_step hG hz5 (i := 1) rfl (by kernel_rfl) (by kernel_rfl) (by kernel_rfl) (fun K hK => ?_); go_simp; refine hK _ ?_; clear hK K)
    (refine anyZ_step hG hz5 (i := 2) rfl (by kernel_rfl) (by kernel_rfl) (by kernel_rfl) (fun K hK => ?_); go_simp; refine hK _ ?_; clear hK K)
    (refine anyZ_step hG hz5 (i := 3) rfl (by kernel_rfl) (by kernel_rfl) (by kernel_rfl) (fun K hK => ?_); go_simp; refine hK _ ?_; clear hK K)
    (refine anyZ_step hG hz5 (i := 4) rfl (by kernel_rfl) (by kernel_rfl) (by kernel_rfl) (fun K hK => ?_); go_simp; refine hK _ ?_; clear hK K)
    (refine anyZ_step hG hz5 (i := 5) rfl (by kernel_rfl) (by kernel_rfl) (by kernel_rfl) (fun K hK => ?_); go_simp; refine hK _ ?_; clear hK K)
    (refine anyZ_step hG hz5 (i := 6) rfl (by kernel_rfl) (by kernel_rfl) (by kernel_rfl) (fun K hK => ?_); go_simp; apply Exists.intro; refine ⟨fun _ => ?_, hK _ ?_⟩; exact CA.out _ (hG.but _); clear hK K)
    (refine anyZ_step hG hz5 (i := 7) rfl (by kernel_rfl) (by kernel_rfl) (by kernel_rfl) (fun K hK => ?_); go_simp; refine hK _ ?_; clear hK K)
    (refine anyZ_step hG hz5 (i := 8) rfl (by kernel_rfl) (by kernel_rfl) (by kernel_rfl) (fun K hK => ?_); go_simp; refine hK _ ?_; clear hK K)
    (refine anyZ_step hG hz5 (i := 9) rfl (by kernel_rfl) (by kernel_rfl) (by kernel_rfl) (fun K hK => ?_); go_simp; refine hK _ ?_; clear hK K)
    (refine anyZ_step hG hz5 (i := 10) rfl (by kernel_rfl) (by kernel_rfl) (by kernel_rfl) (fun K hK => ?_); go_simp; refine hK _ ?_; clear hK K)
    (refine anyZ_step hG hz5 (i := 11) rfl (by kernel_rfl) (by kernel_rfl) (by kernel_rfl) (fun K hK => ?_); go_simp; refine hK _ ?_; clear hK K)
    clear e2 y3 hG
    refine anyZ_end (by kernel_rfl) ?_
    intro v5 hv5
    have HZ5 : Hid (ZT lo b w.heap.size who u c i S VM (.slice pv xn cv) x v5) := ZT.grow hz5 hv5
    have HB5 : Hid (Below w.heap.size w v5) := HZ1B.out.trans ((hb5.trans (hv5.mono hb5.size)).mono HZ1B.out.size)
    clear hb5 hv5 hz5
    have HZ5B : Hid (Below w.heap.size w v5) := HB5
    go_wp2
    refine wp_region_set (fun wx : World => ZT lo b w.heap.size who u c i S VM (.slice pv xn cv) x wx) 20 20 (by kernel_rfl) rfl ?_
    intro w8 hb8
    have hz8 : ZT lo b w.heap.size who u c i S VM (.slice pv xn cv) x w8 := ZT.grow HZ5.out hb8
    obtain ⟨G, hG⟩ := exists_growZ (Z := (fun wx : World => ZT lo b w.heap.size who u c i S VM (.slice pv xn cv) x wx)) hz8 (fun {w w'} h hb => ZT.grow h hb)
    have e0 : ∀ y, (G y).cell? ⟨w.heap.size, 0, none⟩ = some (.int .i64 c) := fun y => Lib.cell_of_heap (hG.but y).box 0
    have e1 : ∀ y, (G y).cell? ⟨w.heap.size, 1, none⟩ = some (.int .i64 i) := fun y => Lib.cell_of_heap (hG.but y).box 1
    have y0 : ∀ y, (G y).cell? ⟨b, 0, none⟩ = some (.int .i64 who) := fun y => (cl_cells (hG.but y).blk).1
    have y6 : ∀ y, (G y).cell? ⟨b, 6, none⟩ = some (.int .i64 S.id) := fun y => (cl_cells (hG.but y).blk).2.2.2.2.2.2.1
    (refine anyZ_step hG hz8 (i := 0) rfl (by kernel_rfl) (by kernel_rfl) (by kernel_rfl) (fun K hK => ?_); go_simp; refine hK _ ?_; clear hK K)
    (refine anyZ_step hG hz8 (i := 1) rfl (by kernel_rfl) (by kernel_rfl) (by kernel_rfl) (fun K hK => ?_); go_simp; apply Exists.intro; refine ⟨fun _ => ?_, hK _ ?_⟩; exact CP.out _ (hG.but _); clear hK K)
    (refine anyZ_step hG hz8 (i := 2) rfl (by kernel_rfl) (by kernel_rfl) (by kernel_rfl) (fun K hK => ?_); go_simp; refine hK _ ?_; clear hK K)
    (refine anyZ_step hG hz8 (i := 3) rfl (by kernel_rfl) (by kernel_rfl) (by kernel_rfl) (fun K hK => ?_); go_simp; refine hK _ ?_; clear hK K)
    (refine anyZ_step hG hz8 (i := 4) rfl (by kernel_rfl) (by kernel_rfl) (by kernel_rfl) (fun K hK => ?_); go_simp; refine hK _ ?_; clear hK K)
    (refine anyZ_step hG hz8 (i := 5) rfl (by kernel_rfl) (by kernel_rfl) (by kernel_rfl) (fun K hK => ?_); go_simp; refine hK _ ?_; clear hK K)
    (refine anyZ_step hG hz8 (i := 6) rfl (by kernel_rfl) (by kernel_rfl) (by kernel_rfl) (fun K hK => ?_); go_simp; refine hK _ ?_; clear hK K)
    (refine anyZ_step hG hz8 (i := 7) rfl (by kernel_rfl) (by kernel_rfl) (by kernel_rfl) (fun K hK => ?_); go_simp; refine hK _ ?_; clear hK K)
    (refine anyZ_step hG hz8 (i := 8) rfl (by kernel_rfl) (by kernel_rfl) (by kernel_rfl) (fun K hK => ?_); go_simp; refine hK _ ?_; clear hK K)
    (refine anyZ_step hG hz8 (i := 9) rfl (by kernel_rfl) (by kernel_rfl) (by kernel_rfl) (fun K hK => ?_); go_simp; refine hK _ ?_; clear hK K)
    (refine anyZ_step hG hz8 (i := 10) rfl (by kernel_rfl) (by kernel_rfl) (by kernel_rfl) (fun K hK => ?_); go_simp; refine hK _ ?_; clear hK K)
    (refine anyZ_step hG hz8 (i := 11) rfl (by kernel_rfl) (by kernel_rfl) (by kernel_rfl) (fun K hK => ?_); go_simp; refine hK _ ?_; clear hK K)
    (refine anyZ_step hG hz8 (i := 12) rfl (by kernel_rfl) (by kernel_rfl) (by kernel_rfl) (fun K hK => ?_); go_simp; refine hK _ ?_; clear hK K)
    (refine anyZ_step hG hz8 (i := 13) rfl (by kernel_rfl) (by kernel_rfl) (by kernel_rfl) (fun K hK => ?_); go_simp; refine hK _ ?_; clear hK K)
    (refine anyZ_step hG hz8 (i := 14) rfl (by kernel_rfl) (by kernel_rfl) (by kernel_rfl) (fun K hK => ?_); go_simp; refine hK _ ?_; clear hK K)
    (refine anyZ_step hG hz8 (i := 15) rfl (by kernel_rfl) (by kernel_rfl) (by kernel_rfl) (fun K hK => ?_); go_simp; refine hK _ ?_; clear hK K)
    (refine anyZ_step hG hz8 (i := 16) rfl (by kernel_rfl) (by kernel_rfl) (by kernel_rfl) (fun K hK => ?_); go_simp; refine hK _ ?_; clear hK K)
    (refine anyZ_step hG hz8 (i := 17) rfl (by kernel_rfl) (by kernel_rfl) (by kernel_rfl) (fun K hK => ?_); go_simp; refine hK _ ?_; clear hK K)
    (refine anyZ_step hG hz8 (i := 18) rfl (by kernel_rfl) (by kernel_rfl) (by kernel_rfl) (fun K hK => ?_); go_simp; refine hK _ ?_; clear hK K)
    (refine anyZ_step hG hz8 (i := 19) rfl (by kernel_rfl) (by kernel_rfl) (by kernel_rfl) (fun K hK => ?_); go_simp; refine hK _ ?_; clear hK K)
    clear e0 e1 y0 y6 hG
    refine anyZ_end (by kernel_rfl) ?_
    intro v8 hv8
    have HZ8 : Hid (ZT lo b w.heap.size who u c i S VM (.slice pv xn cv) x v8) := ZT.grow hz8 hv8
    have HB8 : Hid (Below w.heap.size w v8) := HZ5B.out.trans ((hb8.trans (hv8.mono hb8.size)).mono HZ5B.out.size)
    clear hb8 hv8 hz8
    have HZ8B : Hid (Below w.heap.size w v8) := HB8
    have x2 : v8.cell? ⟨w.heap.size, 2, none⟩ = some (.slice pv xn cv) := Lib.cell_of_heap HZ8.out.box 2
    go_wp2_with (first
      | (go_at_call 124; refine (CT.out _ HZ8.out).mono ?_; rintro e w2 ⟨rfl, hc2, hk2⟩
         have HC2 : Hid _ := hc2
         have HK2 : Hid _ := hk2
         obtain ⟨_, vm2, hq2, _⟩ := hc2
         have z3 : w2.frozen? ⟨b, 3, none⟩ = false := frozen_block hq2
         have z2 : w2.frozen? ⟨b, 2, none⟩ = false := frozen_block hq2
         have y3 : w2.cell? ⟨b, 3, none⟩ = some (.string ⟨S.seen.toArray⟩) := Lib.cell_of_heap hq2 3
         have y2 : w2.cell? ⟨b, 2, none⟩ = some (.int .i64 S.rev) := Lib.cell_of_heap hq2 2
         clear hk2 hq2)
      | fail)
    go_ret
    obtain ⟨hE1, hE2⟩ := clSeen HC2.out tx (S.rev + 1)
    exact ⟨rfl, hE1, keptC.trans (keptC_below HZ8B.out hlt) (keptC.trans HK2.out hE2)⟩

theorem clTake_any {lo : Nat} {w : World} {b : Nat} {who u : Int} {S : Cl} (h : isCl lo w b who u S) (hk : okK 2000 S) (hu : unitOk u) (rev c i : Int) (v : Value) (x : List Pt) (hx : opX lo w v x) (hwf : ∀ p ∈ x, wfP p) (hpu : putsP x ≤ 400000) (hl : x.length ≤ 1000000) (hsz : S.seen.length ≤ 100000) (hid : 0 ≤ S.id ∧ S.id ≤ 1000000) (hrv : 0 ≤ S.rev ∧ S.rev ≤ 1000000) (hG : 2 < lo ∧ 3 < lo) (hT : Lib.Utf8Tabs 2 3 w) :
    Calls Tryz.prog 49 #[.pointer (some ⟨b, 0, none⟩), .int .i64 rev, .agg #[.int .i64 c, .int .i64 i, v]] w fun e w' => e = .returned (errV (tkE who S rev c i x)) ∧ isCl lo w' b who u (tkS who S rev c i x) ∧ keptC w w' b := by
  have hlt := isCl_lt h
  by_cases hr : rev = S.rev
  case neg =>
    have e1 : tkE who S rev c i x = 0 := if_pos hr
    have e2 : tkS who S rev c i x = S := if_pos (.inl hr)
    rw [e1, e2]
    refine (clTake_rev h hu rev c i v x hx hT hr).mono ?_
    rintro e w' ⟨rfl, hb⟩
    exact ⟨rfl, isCl_below h hb, keptC_below hb hlt⟩
  subst hr
  by_cases ho : ordE x S.seen = 0
  case neg =>
    have e1 : tkE who S S.rev c i x = 15 := by unfold tkE; rw [if_neg (by simp), if_pos ho]
    have e2 : tkS who S S.rev c i x = S := if_pos (.inr (by rw [e1]; decide))
    rw [e1, e2]
    refine (clTake_bad h hu c i v x hx hwf hpu hl hsz hT ho).mono ?_
    rintro e w' ⟨rfl, hb⟩
    exact ⟨rfl, isCl_below h hb, keptC_below hb hlt⟩
  have hsp : S.seen.length + putsP x ≤ 500000 := by omega
  by_cases hw : isOwn who S c i
  case pos =>
    by_cases hd : applyP (headM S) S.seen = applyP x S.seen
    · have e1 : tkE who S S.rev c i x = 0 := by unfold tkE; rw [if_neg (by simp), if_neg (by simpa using ho), if_neg fun e => e.2 hd]
      have e2 : tkS who S S.rev c i x = { S with seen := applyP x S.seen, rev := S.rev + 1, mine := S.mine.tail, id := if S.mine.tail ≠ [] then S.id + 1 else S.id } := by unfold tkS; rw [if_neg (by rw [e1]; simp), if_pos hw]
      rw [e1, e2]
      obtain ⟨hm, rfl, rfl⟩ := hw
      exact clTake_own h hk hu v x hx hsp hid hrv hG hT ho hm hd
    · have e1 : tkE who S S.rev c i x = 15 := by unfold tkE; rw [if_neg (by simp), if_neg (by simpa using ho), if_pos ⟨hw, hd⟩]
      have e2 : tkS who S S.rev c i x = S := if_pos (.inr (by rw [e1]; decide))
      rw [e1, e2]
      obtain ⟨hm, rfl, rfl⟩ := hw
      refine (clTake_diff h hk hu v x hx hsp hid hrv hG hT ho hm hd).mono ?_
      rintro e w' ⟨rfl, hb⟩
      exact ⟨rfl, isCl_below h hb, keptC_below hb hlt⟩
  case neg =>
    have e1 : tkE who S S.rev c i x = 0 := by unfold tkE; rw [if_neg (by simp), if_neg (by simpa using ho), if_neg fun e => hw e.1]
    have e2 : tkS who S S.rev c i x = { S with seen := applyP x S.seen, rev := S.rev + 1, mine := (turnM S.mine x).1, doc := applyP (turnM S.mine x).2 S.doc } := by unfold tkS; rw [if_neg (by rw [e1]; simp), if_neg hw]
    rw [e1, e2]
    by_cases hm : S.mine = []
    · exact clTake_none h hk hu c i v x hx hsp hid hrv hG hT ho hm
    by_cases hc : c = who
    · by_cases hi : i = S.id
      · exact absurd ⟨hm, hc, hi⟩ hw
      · exact clTake_id h hk hu c i v x hx hsp hid hrv hG hT ho hm hi
    · exact clTake_who h hk hu c i v x hx hsp hid hrv hG hT ho hm hc
end Go.Proofs.YtedgnlgjmnccgabGreatDoor
