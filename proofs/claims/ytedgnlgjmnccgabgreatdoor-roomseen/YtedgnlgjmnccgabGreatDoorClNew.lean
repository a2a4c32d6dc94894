/-
  client.New, slices.Clone of parts, client.Asks.
-/
import Derived.Test.YtedgnlgjmnccgabGreatDoorClTake
import Derived.Test.YtedgnlgjmnccgabGreatDoorSrvNew
namespace Go.Proofs.YtedgnlgjmnccgabGreatDoor
open Go.RowKit Go.Maps
set_option linter.unusedVariables false
attribute [local go_sem] Oper.semAt_some yieldsUpon okUpon

def clFirst (s : List UInt8) : Cl := ⟨s, s, 0, 0, 0, []⟩
theorem okK_first {s : List UInt8} (h : V s) : okK 2000 (clFirst s) := ⟨h, trivial, rfl, by simp [clFirst], fun m hm => by cases hm⟩
set_option maxRecDepth 100000 in
set_option maxHeartbeats 1000000 in
theorem clNew_good (who : Int) (lo : Nat) (u : Nat) (hu : unitN u) (rs : List Nat) (hR : ∀ r ∈ rs, isRune r) (hz : C1 rs ≤ 8000) (w : World) (hlo : lo ≤ w.heap.size) (hT : Lib.Utf8Tabs 2 3 w) : Calls Tryz.prog 46 #[.int .i64 who, .int .i64 (u : Int), .string ⟨(encs rs).toArray⟩] w fun e w' => ∃ b, e = .returned (.tuple #[.pointer (some ⟨b, 0, none⟩), .nilIface]) ∧ isCl lo w' b who (u : Int) (clFirst (encs rs)) ∧ w.heap.size ≤ b ∧ Below w.heap.size w w' ∧ ∀ x, ownC w' b x → x = b := by
  have cN : Hid (Calls Tryz.prog 25 #[.int .i64 (u : Int), .string ⟨(encs rs).toArray⟩] w fun e w' => ∃ b, e = .returned (.tuple #[.pointer (some ⟨b, 0, none⟩), .nilIface]) ∧ Below w.heap.size w w') := (shnew_good u hu rs hR hz w hT).mono fun e w' ⟨b, h1, _, _, h2⟩ => ⟨b, h1, h2⟩
  have hc1 : (encs rs).length = C1 rs := (C1_len rs).symm
  have CL : Hid (∀ wx, Calls Tryz.prog 112 #[.string ⟨(encs rs).toArray⟩] wx fun e w' => e = .returned (.string ⟨(encs rs).toArray⟩) ∧ Below wx.heap.size wx w') := fun wx => cloneS_any (encs rs) (by omega) wx
  have HLO : Hid (lo ≤ w.heap.size) := hlo
  generalize encs rs = s at *
  clear hT hz hlo hu hR hc1
  go_enter Tryz.func46, Tryz.ntmps46
  go_wp2_with (first
    | (go_at_call 25; refine Calls.mono cN.out ?_; rintro e w1 ⟨b1, rfl, hb1⟩; have HB1 : Hid (Below w.heap.size w w1) := hb1; clear hb1)
    | (go_at_call 112; refine (CL.out _).mono ?_; rintro e w2 ⟨rfl, hb2⟩; have HB2 : Hid (Below w.heap.size w w2) := HB1.out.trans (hb2.mono HB1.out.size); clear hb2)
    | fail)
  go_ret2
  have hl := HLO.out
  have hs := HB2.out.size
  refine ⟨w2.heap.size, rfl, ⟨by omega, .slice none 0 0, heap_alloc_new _ _, isMine_nil _ _⟩, hs, HB2.out.alloc hs _, fun x hx => ?_⟩
  rcases hx with e | ⟨vm, e, hk⟩
  · exact e
  · rw [Lib.cell_of_heap (heap_alloc_new w2 _) 4] at e
    have e : some (Value.slice none 0 0) = some vm := e
    rw [← Option.some.inj e] at hk
    cases hk
theorem opAt_cells {w : World} {p : Option Addr} {n c : Nat} {ps : List Pt} (h : opAt w (.slice p n c) ps) : n = ps.length ∧ (ps ≠ [] → ∃ a, p = some a ∧ ∀ j u, (cellsP ps)[j]? = some u → w.cell? (a.add j) = some u) := by
  obtain ⟨p', c', e, _, _, h3⟩ := h
  injection e with e1 e2 e3
  subst e1
  refine ⟨e2, fun hne => ?_⟩
  obtain ⟨b, o, rfl, _, h4⟩ := h3 hne
  refine ⟨⟨b, o, none⟩, rfl, fun j u hj => ?_⟩
  have hjl := (List.getElem?_eq_some_iff.1 hj).1
  rw [cellsP_len] at hjl
  have hk : j / 3 < ps.length := by omega
  have hm := Nat.div_add_mod j 3
  have hm3 := Nat.mod_lt j (show 0 < 3 by decide)
  have hg := cellsP_get ps (j / 3) ps[j / 3] (List.getElem?_eq_getElem hk) (j % 3) hm3
  rw [show j / 3 * 3 + j % 3 = j by omega, hj] at hg
  obtain ⟨f1, f2, f3⟩ := h4 (j / 3) _ (List.getElem?_eq_getElem hk)
  have e3 : o + j / 3 * 3 + j % 3 = o + j := by omega
  have ea : (⟨b, o, none⟩ : Addr).add j = ⟨b, o + j / 3 * 3 + j % 3, none⟩ := by rw [e3]; simp [Addr.add]
  rw [ea]
  generalize j % 3 = r at *
  rcases r with _ | _ | _ | r
  · rw [Nat.add_zero, f1]; exact hg.symm ▸ rfl
  · rw [f2]; exact hg.symm ▸ rfl
  · rw [f3]; exact hg.symm ▸ rfl
  · omega
theorem cellsP_one (ps : List Pt) : ∀ u ∈ cellsP ps, u.oneCell' = true := fun u hu => by
  obtain ⟨p, _, hp⟩ := List.mem_flatMap.1 hu
  exact partCells_one p u hp
theorem slNil (c : Nat) (w : World) : (binOp .eql 23 (.slice none 0 c) (.slice none 0 0)).run Tryz.prog w = .ok (.bool true) w := by kernel_rfl
theorem slSome (a : Addr) (n c : Nat) (w : World) : (binOp .eql 23 (.slice (some a) n c) (.slice none 0 0)).run Tryz.prog w = .ok (.bool false) w := by kernel_rfl
attribute [local go_sem] slNil slSome
set_option maxRecDepth 100000 in
set_option maxHeartbeats 1000000 in
theorem cloneOp_any (v : Value) (ps : List Pt) (w : World) (h : opAt w v ps) (hl : ps.length ≤ 1000000) : Calls Tryz.prog 126 #[v] w fun e w' => ∃ v', e = .returned v' ∧ opN w.heap.size w' v' ps ∧ Below w.heap.size w w' := by
  obtain ⟨p, c, rfl⟩ : ∃ p c, v = .slice p ps.length c := by obtain ⟨p, c, e, _⟩ := h; exact ⟨p, c, e⟩
  rcases p with _ | a
  · have hps : ps = [] := by
      by_cases e : ps = []
      · exact e
      · obtain ⟨a, e2, _⟩ := (opAt_cells h).2 e; cases e2
    subst hps
    clear h
    go_enter Tryz.func126, Tryz.ntmps126
    go_wp2
    go_ret
    exact ⟨_, rfl, opN_none _ _, Below.refl _ _⟩
  · have HA : Hid (∀ j u, (cellsP ps)[j]? = some u → w.cell? (a.add j) = some u) := by
      intro j u hj
      have hne : ps ≠ [] := fun e => by subst e; simp [cellsP] at hj
      obtain ⟨a', e, h2⟩ := (opAt_cells h).2 hne
      injection e with e; subst e
      exact h2 j u hj
    have HLT : Hid (ps ≠ [] → a.block < w.heap.size) := fun hne => by
      obtain ⟨p', c', e, _, _, h3⟩ := h
      injection e with e1 _ _
      obtain ⟨b, o, e2, h5, _⟩ := h3 hne
      rw [← e1] at e2; injection e2 with e2; subst e2; exact h5
    obtain ⟨i0, hi, hz0, hz1, hz2⟩ := info_parts info_part
    have HI : Hid _ := hi
    have HZ0 : Hid _ := hz0
    have HZ1 : Hid _ := hz1
    have HZ2 : Hid _ := hz2
    obtain ⟨n, hn⟩ : ∃ n, ps.length = n := ⟨_, rfl⟩
    have HN : Hid (ps.length = n) := hn
    rw [hn] at hl ⊢
    clear h hi hz0 hz1 hz2 hn
    go_enter Tryz.func126, Tryz.ntmps126
    go_wp2_with (first
      | (at_builtin
         have hrow : (w.alloc (.cells #[] 50)).ownsRow w.heap.size 50 3 (.slice (some ⟨w.heap.size, 0, none⟩) 0 0) 0 [] := World.ownsRow_lit (e := 50) (base := w.heap.size) (size := 3) w #[] 0 (Nat.le_refl _) (by unfold maxLen; omega) rfl
         refine wpList_append_own _ rfl _ _ 23 rfl w.heap.size 50 i0 (.agg #[.int .i64 0, .int .i64 0, .string ⟨#[]⟩]) 3 32 Tryz.underlying23 HI.out HZ0.out HZ1.out HZ2.out rfl (by decide) _ _ _ rfl hrow a n c (cellsP ps) rfl (by rw [cellsP_len, HN.out]) (fun j u hj => ?_) (cellsP_one _) (by unfold maxLen; omega) (by omega) (by simp) ?_)
      | fail)
    · skip
      have hne : ps ≠ [] := fun e => by subst e; simp [cellsP] at hj
      exact (World.cell?_alloc_lt _ _ (a.add j) (by have := HLT.out hne; simp only [Addr.add]; split <;> exact this)).trans (HA.out j u hj)
    intro v' w' hown' hg' _
    obtain ⟨p', c', rfl⟩ := own_slice hown'
    have HB9 : Hid (Below w.heap.size w w') := ((Below.refl _ _).alloc (Nat.le_refl _) _).grown hg' (by simp) fun j hj => by obtain rfl := Option.some.inj hj; exact Nat.le_refl _
    have HO9 : Hid (opN w.heap.size w' (.slice p' n c') ps) := opN_own (Nat.le_refl _) (by rw [HN.out]; simpa using hown')
    clear hown' hg'
    go_wp2
    go_ret
    exact ⟨_, rfl, HO9.out, HB9.out⟩

/-- While it is asked what it asks. -/
structure ZA (lo b : Nat) (who u : Int) (S : Cl) (VM : Value) (g : Nat) (p0 : Option Addr) (k0 c0 : Nat) (m0 : List Pt) (wx : World) : Prop where
  blk : wx.heap[b]? = some (.cells (clCells who u S VM) 203 (0, 0))
  lt : g < wx.heap.size
  cel : wx.cell? ⟨g, 0, none⟩ = some (.slice p0 k0 c0)
  op0 : opX lo wx (.slice p0 k0 c0) m0
theorem ZA.grow {lo b : Nat} {who u : Int} {S : Cl} {VM : Value} {g : Nat} {p0 : Option Addr} {k0 c0 : Nat} {m0 : List Pt} {w w' : World} (h : ZA lo b who u S VM g p0 k0 c0 m0 w) (hb : Below w.heap.size w w') : ZA lo b who u S VM g p0 k0 c0 m0 w' :=
  ⟨(hb.block b (Array.getElem?_eq_some_iff.1 h.blk).1).trans h.blk, Nat.lt_of_lt_of_le h.lt hb.size, (hb.cell (p := ⟨g, 0, none⟩) h.lt).trans h.cel, opX_grown h.op0 hb⟩
set_option maxRecDepth 100000 in
set_option maxHeartbeats 1000000 in
theorem clAsks_none {lo : Nat} {w : World} {b : Nat} {who u : Int} {S : Cl} (h : isCl lo w b who u S) (hm : S.mine = []) :
    Calls Tryz.prog 53 #[.pointer (some ⟨b, 0, none⟩)] w fun e w' => e = .returned (.tuple #[.int .i64 0, .int .i64 S.rev, .slice none 0 0, .bool false]) ∧ Below w.heap.size w w' := by
  have CP : Hid _ := clPending_any h
  rw [show decide (0 < S.mine.length) = false by rw [hm]; rfl] at CP
  have HC : Hid _ := h
  clear h hm
  go_enter Tryz.func53, Tryz.ntmps53
  go_wp2_with (first
    | (go_at_call 58; refine Calls.mono CP.out ?_; rintro e w1 ⟨rfl, hb1⟩; have HB1 : Hid (Below w.heap.size w w1) := hb1; clear hb1)
    | (go_at_call 56; refine (clRev_any (isCl_below HC.out HB1.out)).mono ?_; rintro e w2 ⟨rfl, hb2⟩; have HB2 : Hid (Below w.heap.size w w2) := HB1.out.trans (hb2.mono HB1.out.size); clear hb2)
    | fail)
  refine bodyPost_ret (v := .tuple #[.int .i64 0, .int .i64 S.rev, .slice none 0 0, .bool false]) (by simp [results, Tryz.results53, go_sem]) rfl ⟨rfl, HB2.out⟩
set_option maxRecDepth 100000 in
set_option maxHeartbeats 1000000 in
theorem clAsks_some {lo : Nat} {w : World} {b : Nat} {who u : Int} {S : Cl} (h : isCl lo w b who u S) (hm : S.mine ≠ []) (hl : (headM S).length ≤ 1000000) :
    Calls Tryz.prog 53 #[.pointer (some ⟨b, 0, none⟩)] w fun e w' => ∃ v', e = .returned (.tuple #[.int .i64 S.id, .int .i64 S.rev, v', .bool true]) ∧ (∀ lo', opX lo' w' v' (headM S)) ∧ Below w.heap.size w w' := by
  have CP : Hid _ := clPending_any h
  rw [decide_eq_true (List.length_pos_iff.2 hm)] at CP
  obtain ⟨hlo, VM, h3, h4⟩ := h
  obtain ⟨g, cc, p0, k0, c0, rfl, ⟨hcn, hcm⟩, hgl, hce, hop⟩ := mine_head h4 hm
  unfold maxLen at hcm
  have hop : opX lo w (.slice p0 k0 c0) (headM S) := hop
  have H0 : Hid _ := (⟨h3, hgl, hce, hop⟩ : ZA lo b who u S (.slice (some ⟨g, 0, none⟩) S.mine.length cc) g p0 k0 c0 (headM S) w)
  have CK : Hid (∀ wx, opAt wx (.slice p0 k0 c0) (headM S) → Calls Tryz.prog 126 #[.slice p0 k0 c0] wx fun e w' => ∃ v', e = .returned v' ∧ opN wx.heap.size w' v' (headM S) ∧ Below wx.heap.size wx w') := fun wx ho => cloneOp_any _ _ wx ho hl
  have hmn := List.length_pos_iff.2 hm
  have hmi : (0 : Int) < (S.mine.length : Int) := by omega
  generalize headM S = m0 at *
  obtain ⟨n, hn⟩ : ∃ n, S.mine.length = n := ⟨_, rfl⟩
  rw [hn] at hcn hmi hmn H0
  clear h3 h4 hm hl hgl hce hop hlo hn
  go_enter Tryz.func53, Tryz.ntmps53
  go_wp2_with (first
    | (go_at_call 58; refine Calls.mono CP.out ?_; rintro e w1 ⟨rfl, hb1⟩; have HB1 : Hid (Below w.heap.size w w1) := hb1; have HZ1 : Hid (ZA lo b who u S (.slice (some ⟨g, 0, none⟩) n cc) g p0 k0 c0 m0 w1) := ZA.grow H0.out hb1; clear hb1)
    | fail)
  refine wp_region_set (fun wx : World => ZA lo b who u S (.slice (some ⟨g, 0, none⟩) n cc) g p0 k0 c0 m0 wx) 19 19 (by kernel_rfl) rfl ?_
  intro w30 hb30
  have hb2A := HB1.out.trans (hb30.mono HB1.out.size)
  have hz1 : ZA lo b who u S (.slice (some ⟨g, 0, none⟩) n cc) g p0 k0 c0 m0 w30 := ZA.grow HZ1.out hb30
  obtain ⟨G, hG⟩ := exists_growZ (Z := fun wx : World => ZA lo b who u S (.slice (some ⟨g, 0, none⟩) n cc) g p0 k0 c0 m0 wx) hz1 (fun {w w'} h hb => ZA.grow h hb)
  have y6 : ∀ y, (G y).cell? ⟨b, 6, none⟩ = some (.int .i64 S.id) := fun y => (cl_cells (hG.but y).blk).2.2.2.2.2.2.1
  have y2 : ∀ y, (G y).cell? ⟨b, 2, none⟩ = some (.int .i64 S.rev) := fun y => (cl_cells (hG.but y).blk).2.2.1
  have y4 : ∀ y, (G y).cell? ⟨b, 4, none⟩ = some (.slice (some ⟨g, 0, none⟩) n cc) := fun y => (cl_cells (hG.but y).blk).2.2.2.2.1
  have yg : ∀ y, (G y).cell? ⟨g, 0, none⟩ = some (.slice p0 k0 c0) := fun y => (hG.but y).cel
  (refine anyZ_step hG hz1 (i := 0) rfl (by kernel_rfl) (by kernel_rfl) (by kernel_rfl) (fun K hK => ?_); go_simp; refine hK _ ?_; clear hK K)
  (refine anyZ_step hG hz1 (i := 1) rfl (by kernel_rfl) (by kernel_rfl) (by kernel_rfl) (fun K hK => ?_); go_simp; refine hK _ ?_; clear hK K)
  (refine anyZ_step hG hz1 (i := 2) rfl (by kernel_rfl) (by kernel_rfl) (by kernel_rfl) (fun K hK => ?_); go_simp; refine hK _ ?_; clear hK K)
  (refine anyZ_step hG hz1 (i := 3) rfl (by kernel_rfl) (by kernel_rfl) (by kernel_rfl) (fun K hK => ?_); go_simp; refine hK _ ?_; clear hK K)
  (refine anyZ_step hG hz1 (i := 4) rfl (by kernel_rfl) (by kernel_rfl) (by kernel_rfl) (fun K hK => ?_); go_simp; refine hK _ ?_; clear hK K)
  (refine anyZ_step hG hz1 (i := 5) rfl (by kernel_rfl) (by kernel_rfl) (by kernel_rfl) (fun K hK => ?_); go_simp; refine hK _ ?_; clear hK K)
  (refine anyZ_step hG hz1 (i := 6) rfl (by kernel_rfl) (by kernel_rfl) (by kernel_rfl) (fun K hK => ?_); go_simp; refine hK _ ?_; clear hK K)
  (refine anyZ_step hG hz1 (i := 7) rfl (by kernel_rfl) (by kernel_rfl) (by kernel_rfl) (fun K hK => ?_); go_simp; refine hK _ ?_; clear hK K)
  (refine anyZ_step hG hz1 (i := 8) rfl (by kernel_rfl) (by kernel_rfl) (by kernel_rfl) (fun K hK => ?_); go_simp; refine hK _ ?_; clear hK K)
  (refine anyZ_step hG hz1 (i := 9) rfl (by kernel_rfl) (by kernel_rfl) (by kernel_rfl) (fun K hK => ?_); go_simp; refine hK _ ?_; clear hK K)
  (refine anyZ_step hG hz1 (i := 10) rfl (by kernel_rfl) (by kernel_rfl) (by kernel_rfl) (fun K hK => ?_); go_simp; refine hK _ ?_; clear hK K)
  (refine anyZ_step hG hz1 (i := 11) rfl (by kernel_rfl) (by kernel_rfl) (by kernel_rfl) (fun K hK => ?_); go_simp; refine hK _ ?_; clear hK K)
  (refine anyZ_step hG hz1 (i := 12) rfl (by kernel_rfl) (by kernel_rfl) (by kernel_rfl) (fun K hK => ?_); go_simp; refine hK _ ?_; clear hK K)
  (refine anyZ_step hG hz1 (i := 13) rfl (by kernel_rfl) (by kernel_rfl) (by kernel_rfl) (fun K hK => ?_); go_simp; refine hK _ ?_; clear hK K)
  clear y6 y2 y4 yg
  refine anyZ_one (i := 14) (by kernel_rfl) ⟨_, rfl, ?_⟩
  intro w31 hb31 K hK
  go_simp
  have hb2B := hb2A.trans (hb31.mono hb2A.size)
  have hzB := ZA.grow hz1 hb31
  refine (CK.out w31 hzB.op0.1).mono ?_
  rintro e w3 ⟨v', rfl, hn3, hb3⟩
  obtain ⟨p3, c3, rfl⟩ := opN_shape hn3
  refine ⟨_, rfl, hK _ _ (fun _ => ZA.grow hzB hb3) ?_⟩
  have hz2 := ZA.grow hzB hb3
  clear hK K hz1
  (refine anyZ_step hG hz2 (i := 15) rfl (by kernel_rfl) (by kernel_rfl) (by kernel_rfl) (fun K hK => ?_); go_simp; refine hK _ ?_; clear hK K)
  (refine anyZ_step hG hz2 (i := 16) rfl (by kernel_rfl) (by kernel_rfl) (by kernel_rfl) (fun K hK => ?_); go_simp; refine hK _ ?_; clear hK K)
  (refine anyZ_step hG hz2 (i := 17) rfl (by kernel_rfl) (by kernel_rfl) (by kernel_rfl) (fun K hK => ?_); go_simp; refine hK _ ?_; clear hK K)
  (refine anyZ_step hG hz2 (i := 18) rfl (by kernel_rfl) (by kernel_rfl) (by kernel_rfl) (fun K hK => ?_); go_simp; refine hK _ ?_; clear hK K)
  clear hG hz2
  refine anyZ_end (by kernel_rfl) ?_
  intro w4 hb4
  have hb44 := hb2B.trans (hb3.mono hb2B.size)
  have HB4 : Hid (Below w.heap.size w w4) := hb44.trans (hb4.mono hb44.size)
  have HN4 : Hid (∀ lo', opX lo' w4 (.slice p3 m0.length c3) m0) := fun lo' => opX_grown (opX_of_new hn3) hb4
  clear hb30 hb31 hb3 hb4 hb44 hb2A hb2B hn3 hzB
  go_wp2
  refine bodyPost_ret (v := .tuple #[.int .i64 S.id, .int .i64 S.rev, .slice p3 m0.length c3, .bool true]) (by simp [results, Tryz.results53, go_sem]) rfl ⟨_, rfl, HN4.out, HB4.out⟩
end Go.Proofs.YtedgnlgjmnccgabGreatDoor
