/-
  client.Edit.
-/
import Derived.Test.YtedgnlgjmnccgabGreatDoorClEdit
namespace Go.Proofs.YtedgnlgjmnccgabGreatDoor
open Go.RowKit Go.Maps
set_option linter.unusedVariables false
attribute [local go_sem] Oper.semAt_some yieldsUpon okUpon

set_option maxRecDepth 100000 in
set_option maxHeartbeats 1000000 in
theorem clEdit_much {lo : Nat} {w : World} {b : Nat} {who u : Int} {S : Cl} (h : isCl lo w b who u S) (hu : unitOk u) (v : Value) (q : List Pt) (hx : opAt w v q) (hl : q.length ≤ 100) (hm : 60 < q.length ∨ q.any muchP = true) :
    Calls Tryz.prog 47 #[.pointer (some ⟨b, 0, none⟩), v] w fun e w' => e = .returned (errV 4) ∧ Below w.heap.size w w' := by
  have hu0 : (u == 0) = false := by rcases hu with rfl | rfl | rfl <;> rfl
  have CU : Hid _ := clUnit_any h
  have CF : Hid (∀ wx, Below w.heap.size w wx → Calls Tryz.prog 118 #[v, .func (.func 117) #[] #[]] wx fun e w' => e = .returned (.bool (q.any muchP)) ∧ Below wx.heap.size wx w') := fun wx hb => contF_any v q wx (opAt_below hx hb (Nat.le_refl _)) (by omega)
  rw [show errV 4 = .iface 26 (.int .i64 4) from rfl]
  obtain ⟨p, c, rfl, _⟩ := hx
  by_cases h6 : 60 < q.length
  · have h6' : (60 : Int) < (q.length : Int) := by omega
    clear h hu hm CF
    go_enter Tryz.func47, Tryz.ntmps47
    go_wp2_with (first
      | (go_at_call 57; refine Calls.mono CU.out ?_; rintro e w1 ⟨rfl, hb1⟩; have HB1 : Hid (Below w.heap.size w w1) := hb1; clear hb1)
      | (go_at_call 118; refine (CF.out _ HB1.out).mono ?_; rintro e w2 ⟨rfl, hb2⟩; have HB2 : Hid (Below w.heap.size w w2) := HB1.out.trans (hb2.mono HB1.out.size); clear hb2)
      | fail)
    go_ret
    exact ⟨rfl, HB1.out⟩
  · have h6' : ¬ (60 : Int) < (q.length : Int) := by omega
    have ha : q.any muchP = true := hm.elim (fun e => absurd e h6) id
    rw [ha] at CF
    clear h hu hm ha
    go_enter Tryz.func47, Tryz.ntmps47
    go_wp2_with (first
      | (go_at_call 57; refine Calls.mono CU.out ?_; rintro e w1 ⟨rfl, hb1⟩; have HB1 : Hid (Below w.heap.size w w1) := hb1; clear hb1)
      | (go_at_call 118; refine (CF.out _ HB1.out).mono ?_; rintro e w2 ⟨rfl, hb2⟩; have HB2 : Hid (Below w.heap.size w w2) := HB1.out.trans (hb2.mono HB1.out.size); clear hb2)
      | fail)
    go_ret
    exact ⟨rfl, HB2.out⟩
set_option maxRecDepth 100000 in
set_option maxHeartbeats 2000000 in
theorem clEdit_any {lo : Nat} {w : World} {b : Nat} {who u : Int} {S : Cl} (h : isCl lo w b who u S) (hk : okK 2000 S) (hu : unitOk u) (v : Value) (q : List Pt) (hx : opAt w v q) (hwf : ∀ p ∈ q, wfP p) (hpl : ∀ p ∈ q, p.put.length ≤ 300) (hl : q.length ≤ 100) (hsz : S.seen.length ≤ 100000) (hid : 0 ≤ S.id ∧ S.id ≤ 1000000) (hG : 2 < lo ∧ 3 < lo) (hT : Lib.Utf8Tabs 2 3 w) :
    Calls Tryz.prog 47 #[.pointer (some ⟨b, 0, none⟩), v] w fun e w' => e = .returned (errV (edE u S q)) ∧ isCl lo w' b who u (edS u S q) ∧ keptC w w' b := by
  have hlt := isCl_lt h
  have same : ∀ {n : Int}, edE u S q = n → n ≠ 0 → (Calls Tryz.prog 47 #[.pointer (some ⟨b, 0, none⟩), v] w fun e w' => e = .returned (errV n) ∧ Below w.heap.size w w') → Calls Tryz.prog 47 #[.pointer (some ⟨b, 0, none⟩), v] w fun e w' => e = .returned (errV (edE u S q)) ∧ isCl lo w' b who u (edS u S q) ∧ keptC w w' b := fun {n} e1 e2 hc => by
    refine hc.mono ?_
    rintro e w' ⟨rfl, hb⟩
    have : edS u S q = S := if_neg (by rw [e1]; exact e2)
    rw [e1, this]
    exact ⟨rfl, isCl_below h hb, keptC_below hb hlt⟩
  by_cases hm : 60 < q.length ∨ q.any muchP = true
  · exact same (if_pos hm) (by decide) (clEdit_much h hu v q hx hl hm)
  have hV := hk.V
  have hrs : encs (runesOf S.doc) = S.doc := encs_runesOf (V_scan hV)
  have hbs : bytesOf (runesOf S.doc) = ⟨S.doc.toArray⟩ := by unfold bytesOf; rw [hrs]
  have hdl := hk.len
  have hC1 : C1 (runesOf S.doc) ≤ 1000000 := by rw [C1_len, hrs]; omega
  have h6 : ¬ 60 < q.length := fun e => hm (.inl e)
  have ha : q.any muchP = false := by
    cases e : q.any muchP with
    | false => rfl
    | true => exact absurd (.inr e) hm
  have hu0 : (u == 0) = false := by rcases hu with rfl | rfl | rfl <;> rfl
  have CU : Hid _ := clUnit_any h
  have CF : Hid (∀ wx, Below w.heap.size w wx → Calls Tryz.prog 118 #[v, .func (.func 117) #[] #[]] wx fun e w' => e = .returned (.bool false) ∧ Below wx.heap.size wx w') := fun wx hb => by
    have := contF_any v q wx (opAt_below hx hb (Nat.le_refl _)) (by omega)
    rwa [ha] at this
  have cI : Hid (∀ wx, Below w.heap.size w wx → Calls Tryz.prog 119 #[v, .int .i64 u, .string ⟨S.doc.toArray⟩] wx fun e w' => ∃ v', e = .returned (.tuple #[v', errV (tzE (runesOf S.doc) u 1 q)]) ∧ opN wx.heap.size w' v' (edO u S q) ∧ Below wx.heap.size wx w') := fun wx hb => by
    have := inBytes_any (runesOf S.doc) (fun r hr => runesOf_rune hr) hC1 u q v wx hu (Go.Proofs.Utf8Tabs_below hT hb) (opAt_below hx hb (Nat.le_refl _)) hwf (fun p hp => by have := hpl p hp; omega) (by omega)
    rwa [hbs] at this
  have h6' : ¬ (60 : Int) < (q.length : Int) := by omega
  have HC : Hid (isCl lo w b who u S) := h
  by_cases ht : tzE (runesOf S.doc) u 1 q = 0
  case neg =>
    refine same (n := tzE (runesOf S.doc) u 1 q) (by unfold edE; rw [if_neg hm, if_pos ht]) ht ?_
    have hV2 : errV (tzE (runesOf S.doc) u 1 q) = .iface 26 (.int .i64 (tzE (runesOf S.doc) u 1 q)) := by unfold errV; rw [if_neg ht]
    rw [hV2] at cI ⊢
    generalize tzE (runesOf S.doc) u 1 q = E at *
    generalize edO u S q = O at *
    have CI := cI
    obtain ⟨hlo, vm, h3, h4⟩ := h
    obtain ⟨p, c, rfl⟩ := isMine_shape h4
    have H3 : Hid _ := h3
    obtain ⟨p0, c0, rfl, _⟩ := hx
    generalize S.mine.length = n at *
    clear cI h3 h4 hm ha hk hu hwf hpl hsz hid hG hT same hV hrs hbs hdl hC1 h6 hV2 ht hlo
    go_enter Tryz.func47, Tryz.ntmps47
    go_wp2_with (first
      | (go_at_call 57; refine Calls.mono CU.out ?_; rintro e w1 ⟨rfl, hb1⟩; have HB1 : Hid (Below w.heap.size w w1) := hb1; clear hb1)
      | (go_at_call 118; refine (CF.out _ HB1.out).mono ?_; rintro e w2 ⟨rfl, hb2⟩; have HB2 : Hid (Below w.heap.size w w2) := HB1.out.trans (hb2.mono HB1.out.size); clear hb2)
      | fail)
    refine wp_region_set (fun wx : World => wx.heap[b]? = some (.cells (clCells who u S (.slice p n c)) 203 (0, 0))) 15 15 (by kernel_rfl) rfl ?_
    intro w30 hb30
    have hb2A := HB2.out.trans (hb30.mono HB2.out.size)
    have hz0 : w30.heap[b]? = some (.cells (clCells who u S (.slice p n c)) 203 (0, 0)) := (hb2A.block b hlt).trans H3.out
    obtain ⟨G, hG⟩ := exists_growZ (Z := fun wx : World => wx.heap[b]? = some (.cells (clCells who u S (.slice p n c)) 203 (0, 0))) hz0 (fun {w w'} h hb => (hb.block b (Array.getElem?_eq_some_iff.1 h).1).trans h)
    have y1 : ∀ x, (G x).cell? ⟨b, 1, none⟩ = some (.int .i64 u) := fun x => (cl_cells (hG.but x)).2.1
    have y5 : ∀ x, (G x).cell? ⟨b, 5, none⟩ = some (.string ⟨S.doc.toArray⟩) := fun x => (cl_cells (hG.but x)).2.2.2.2.2.1
    (refine anyZ_step hG hz0 (i := 0) rfl (by kernel_rfl) (by kernel_rfl) (by kernel_rfl) (fun K hK => ?_); go_simp; refine hK _ ?_; clear hK K)
    (refine anyZ_step hG hz0 (i := 1) rfl (by kernel_rfl) (by kernel_rfl) (by kernel_rfl) (fun K hK => ?_); go_simp; refine hK _ ?_; clear hK K)
    (refine anyZ_step hG hz0 (i := 2) rfl (by kernel_rfl) (by kernel_rfl) (by kernel_rfl) (fun K hK => ?_); go_simp; refine hK _ ?_; clear hK K)
    (refine anyZ_step hG hz0 (i := 3) rfl (by kernel_rfl) (by kernel_rfl) (by kernel_rfl) (fun K hK => ?_); go_simp; refine hK _ ?_; clear hK K)
    (refine anyZ_step hG hz0 (i := 4) rfl (by kernel_rfl) (by kernel_rfl) (by kernel_rfl) (fun K hK => ?_); go_simp; refine hK _ ?_; clear hK K)
    (refine anyZ_step hG hz0 (i := 5) rfl (by kernel_rfl) (by kernel_rfl) (by kernel_rfl) (fun K hK => ?_); go_simp; refine hK _ ?_; clear hK K)
    (refine anyZ_step hG hz0 (i := 6) rfl (by kernel_rfl) (by kernel_rfl) (by kernel_rfl) (fun K hK => ?_); go_simp; refine hK _ ?_; clear hK K)
    (refine anyZ_step hG hz0 (i := 7) rfl (by kernel_rfl) (by kernel_rfl) (by kernel_rfl) (fun K hK => ?_); go_simp; refine hK _ ?_; clear hK K)
    (refine anyZ_step hG hz0 (i := 8) rfl (by kernel_rfl) (by kernel_rfl) (by kernel_rfl) (fun K hK => ?_); go_simp; refine hK _ ?_; clear hK K)
    clear y1 y5
    refine anyZ_one (i := 9) (by kernel_rfl) ⟨_, rfl, ?_⟩
    intro w31 hb31 K hK
    go_simp
    have hb2B := hb2A.trans (hb31.mono hb2A.size)
    refine (CI.out w31 hb2B).mono ?_
    rintro e w3 ⟨v', rfl, hn3, hb3⟩
    obtain ⟨p3, c3, rfl⟩ := opN_shape hn3
    have hz2 : w3.heap[b]? = some (.cells (clCells who u S (.slice p n c)) 203 (0, 0)) := ((hb2B.trans (hb3.mono hb2B.size)).block b hlt).trans H3.out
    refine ⟨_, rfl, hK _ _ (fun _ => hz2) ?_⟩
    clear hK K hz0
    (refine anyZ_step hG hz2 (i := 10) rfl (by kernel_rfl) (by kernel_rfl) (by kernel_rfl) (fun K hK => ?_); go_simp; refine hK _ ?_; clear hK K)
    (refine anyZ_step hG hz2 (i := 11) rfl (by kernel_rfl) (by kernel_rfl) (by kernel_rfl) (fun K hK => ?_); go_simp; refine hK _ ?_; clear hK K)
    (refine anyZ_step hG hz2 (i := 12) rfl (by kernel_rfl) (by kernel_rfl) (by kernel_rfl) (fun K hK => ?_); go_simp; refine hK _ ?_; clear hK K)
    (refine anyZ_step hG hz2 (i := 13) rfl (by kernel_rfl) (by kernel_rfl) (by kernel_rfl) (fun K hK => ?_); go_simp; refine hK _ ?_; clear hK K)
    (refine anyZ_step hG hz2 (i := 14) rfl (by kernel_rfl) (by kernel_rfl) (by kernel_rfl) (fun K hK => ?_); go_simp; refine hK _ ?_; clear hK K)
    clear hG hz2
    refine anyZ_end (by kernel_rfl) ?_
    intro w4 hb4
    have hb44 := (hb2B.trans (hb3.mono hb2B.size))
    have HB4 : Hid (Below w.heap.size w w4) := hb44.trans (hb4.mono hb44.size)
    have HN4 : Hid (opX lo w4 (.slice p3 O.length c3) O) := opX_grown (opX_of_new hn3) hb4
    clear hb30 hb31 hb3 hb4 hb44 hb2A hb2B hn3
    go_wp2
    go_ret
    exact ⟨rfl, HB4.out⟩
  case pos =>
  have g1 := (ed_fine hu hk ht).1
  rw [ht, show errV 0 = .nilIface from rfl] at cI
  have hpu : putsP (edO u S q) ≤ 30000 := by
    obtain ⟨_, _, e3, e4⟩ := ed_fine hu hk ht
    obtain ⟨hp1, _, _⟩ := chkE_parts e3
    rw [e4, in_puts q _ fun p hp => (hp1 p hp).1]
    have := putsP_le q hpl
    omega
  have hbd : S.doc.length + putsP (edO u S q) < 1000000 := by omega
  have hlens := (g1.lens hbd).2
  have hfl := (g1.fine hbd).len
  have CLn : Hid (∀ vv wx, opAt wx vv (edO u S q) → Calls Tryz.prog 120 #[vv] wx fun e w' => e = .returned (.tuple #[.int .i64 (lensW (edO u S q)).1, .int .i64 ((applyP (edO u S q) S.doc).length : Int)]) ∧ Below wx.heap.size wx w') := fun vv wx ho => by
    have := Lens_any vv (edO u S q) wx ho hfl
    rwa [hlens] at this
  have CAp : Hid (∀ vv wx, Below w.heap.size w wx → opAt wx vv (edO u S q) → Calls Tryz.prog 29 #[vv, .string ⟨S.doc.toArray⟩] wx fun e w' => e = .returned (.tuple #[.string ⟨(applyP (edO u S q) S.doc).toArray⟩, .nilIface]) ∧ Below wx.heap.size wx w') := fun vv wx hb ho => kApply vv _ S.doc wx (Go.Proofs.Utf8Tabs_below hT hb) ho g1 hbd
  by_cases hfu : 2000 < (applyP (edO u S q) S.doc).length
  · refine same (n := 12) (by unfold edE; rw [if_neg hm, if_neg (by simpa using ht), if_pos hfu]) (by decide) ?_
    rw [show errV 12 = .iface 26 (.int .i64 12) from rfl]
    have hfi : (2000 : Int) < ((applyP (edO u S q) S.doc).length : Int) := by omega
    generalize (lensW (edO u S q)).1 = L1 at *
    generalize (applyP (edO u S q) S.doc).length = L2 at *
    generalize hOO : edO u S q = O at *
    have CI := cI
    obtain ⟨hlo, vm, h3, h4⟩ := h
    obtain ⟨p, c, rfl⟩ := isMine_shape h4
    have H3 : Hid _ := h3
    obtain ⟨p0, c0, rfl, _⟩ := hx
    generalize S.mine.length = n at *
    clear cI h3 h4 hm ha hk hu hwf hpl hsz hid hG hT same hV hrs hbs hdl hC1 h6 ht hlo g1 hpu hbd hlens hfl hfu CAp hOO
    go_enter Tryz.func47, Tryz.ntmps47
    go_wp2_with (first
      | (go_at_call 57; refine Calls.mono CU.out ?_; rintro e w1 ⟨rfl, hb1⟩; have HB1 : Hid (Below w.heap.size w w1) := hb1; clear hb1)
      | (go_at_call 118; refine (CF.out _ HB1.out).mono ?_; rintro e w2 ⟨rfl, hb2⟩; have HB2 : Hid (Below w.heap.size w w2) := HB1.out.trans (hb2.mono HB1.out.size); clear hb2)
      | fail)
    refine wp_region_set (fun wx : World => wx.heap[b]? = some (.cells (clCells who u S (.slice p n c)) 203 (0, 0))) 15 15 (by kernel_rfl) rfl ?_
    intro w30 hb30
    have hb2A := HB2.out.trans (hb30.mono HB2.out.size)
    have hz0 : w30.heap[b]? = some (.cells (clCells who u S (.slice p n c)) 203 (0, 0)) := (hb2A.block b hlt).trans H3.out
    obtain ⟨G, hG⟩ := exists_growZ (Z := fun wx : World => wx.heap[b]? = some (.cells (clCells who u S (.slice p n c)) 203 (0, 0))) hz0 (fun {w w'} h hb => (hb.block b (Array.getElem?_eq_some_iff.1 h).1).trans h)
    have y1 : ∀ x, (G x).cell? ⟨b, 1, none⟩ = some (.int .i64 u) := fun x => (cl_cells (hG.but x)).2.1
    have y5 : ∀ x, (G x).cell? ⟨b, 5, none⟩ = some (.string ⟨S.doc.toArray⟩) := fun x => (cl_cells (hG.but x)).2.2.2.2.2.1
    (refine anyZ_step hG hz0 (i := 0) rfl (by kernel_rfl) (by kernel_rfl) (by kernel_rfl) (fun K hK => ?_); go_simp; refine hK _ ?_; clear hK K)
    (refine anyZ_step hG hz0 (i := 1) rfl (by kernel_rfl) (by kernel_rfl) (by kernel_rfl) (fun K hK => ?_); go_simp; refine hK _ ?_; clear hK K)
    (refine anyZ_step hG hz0 (i := 2) rfl (by kernel_rfl) (by kernel_rfl) (by kernel_rfl) (fun K hK => ?_); go_simp; refine hK _ ?_; clear hK K)
    (refine anyZ_step hG hz0 (i := 3) rfl (by kernel_rfl) (by kernel_rfl) (by kernel_rfl) (fun K hK => ?_); go_simp; refine hK _ ?_; clear hK K)
    (refine anyZ_step hG hz0 (i := 4) rfl (by kernel_rfl) (by kernel_rfl) (by kernel_rfl) (fun K hK => ?_); go_simp; refine hK _ ?_; clear hK K)
    (refine anyZ_step hG hz0 (i := 5) rfl (by kernel_rfl) (by kernel_rfl) (by kernel_rfl) (fun K hK => ?_); go_simp; refine hK _ ?_; clear hK K)
    (refine anyZ_step hG hz0 (i := 6) rfl (by kernel_rfl) (by kernel_rfl) (by kernel_rfl) (fun K hK => ?_); go_simp; refine hK _ ?_; clear hK K)
    (refine anyZ_step hG hz0 (i := 7) rfl (by kernel_rfl) (by kernel_rfl) (by kernel_rfl) (fun K hK => ?_); go_simp; refine hK _ ?_; clear hK K)
    (refine anyZ_step hG hz0 (i := 8) rfl (by kernel_rfl) (by kernel_rfl) (by kernel_rfl) (fun K hK => ?_); go_simp; refine hK _ ?_; clear hK K)
    clear y1 y5
    refine anyZ_one (i := 9) (by kernel_rfl) ⟨_, rfl, ?_⟩
    intro w31 hb31 K hK
    go_simp
    have hb2B := hb2A.trans (hb31.mono hb2A.size)
    refine (CI.out w31 hb2B).mono ?_
    rintro e w3 ⟨v', rfl, hn3, hb3⟩
    obtain ⟨p3, c3, rfl⟩ := opN_shape hn3
    have hz2 : w3.heap[b]? = some (.cells (clCells who u S (.slice p n c)) 203 (0, 0)) := ((hb2B.trans (hb3.mono hb2B.size)).block b hlt).trans H3.out
    refine ⟨_, rfl, hK _ _ (fun _ => hz2) ?_⟩
    clear hK K hz0
    (refine anyZ_step hG hz2 (i := 10) rfl (by kernel_rfl) (by kernel_rfl) (by kernel_rfl) (fun K hK => ?_); go_simp; refine hK _ ?_; clear hK K)
    (refine anyZ_step hG hz2 (i := 11) rfl (by kernel_rfl) (by kernel_rfl) (by kernel_rfl) (fun K hK => ?_); go_simp; refine hK _ ?_; clear hK K)
    (refine anyZ_step hG hz2 (i := 12) rfl (by kernel_rfl) (by kernel_rfl) (by kernel_rfl) (fun K hK => ?_); go_simp; refine hK _ ?_; clear hK K)
    (refine anyZ_step hG hz2 (i := 13) rfl (by kernel_rfl) (by kernel_rfl) (by kernel_rfl) (fun K hK => ?_); go_simp; refine hK _ ?_; clear hK K)
    (refine anyZ_step hG hz2 (i := 14) rfl (by kernel_rfl) (by kernel_rfl) (by kernel_rfl) (fun K hK => ?_); go_simp; refine hK _ ?_; clear hK K)
    clear hG hz2
    refine anyZ_end (by kernel_rfl) ?_
    intro w4 hb4
    have hb44 := (hb2B.trans (hb3.mono hb2B.size))
    have HB4 : Hid (Below w.heap.size w w4) := hb44.trans (hb4.mono hb44.size)
    have HN4 : Hid (opX lo w4 (.slice p3 O.length c3) O) := opX_grown (opX_of_new hn3) hb4
    clear hb30 hb31 hb3 hb4 hb44 hb2A hb2B hn3
    go_wp2_with (first
      | (go_at_call 120; refine (CLn.out _ _ HN4.out.1).mono ?_; rintro e w5 ⟨rfl, hb5⟩; have HB5 : Hid (Below w.heap.size w w5) := HB4.out.trans (hb5.mono HB4.out.size); clear hb5)
      | fail)
    go_ret
    exact ⟨rfl, HB5.out⟩
  · have he0 : edE u S q = 0 := by unfold edE; rw [if_neg hm, if_neg (by simpa using ht), if_neg hfu]
    have HE0 : Hid (edE u S q = 0) := he0
    have HES : Hid (edS u S q = { S with doc := applyP (edO u S q) S.doc, mine := addM (edO u S q) S.mine, id := if S.mine = [] then S.id + 1 else S.id }) := if_pos he0
    have hfi : ¬ (2000 : Int) < ((applyP (edO u S q) S.doc).length : Int) := by omega
    have HQ : Hid (∀ m1 m2, S.mine = [m1, m2] → ∃ t, good m2 t ∧ good (edO u S q) (applyP m2 t) ∧ t.length + putsP m2 < 1000000 ∧ (applyP m2 t).length + putsP (edO u S q) < 1000000) := fun m1 m2 e => by
      have hal := hk.all; have hpt := hk.puts; have hdc := hk.doc
      rw [e] at hal hpt hdc
      have g1' := g1
      rw [hdc] at g1'
      have l1 := apply_le hal.1
      have p1 := hpt m1 (by simp)
      have p2 := hpt m2 (by simp)
      have e2 : allM [m1, m2] S.seen = applyP m2 (applyP m1 S.seen) := rfl
      rw [e2] at g1'
      refine ⟨applyP m1 S.seen, hal.2.1, g1', by omega, ?_⟩
      rw [hdc, e2] at hbd
      exact hbd
    have HTW : Hid (S.mine.length ≤ 2) := hk.two
    have HID : Hid (0 ≤ S.id ∧ S.id ≤ 1000000) := hid
    have HT : Hid (Lib.Utf8Tabs 2 3 w) := hT
    have HGG : Hid _ := hG
    rw [he0]
    generalize (lensW (edO u S q)).1 = L1 at *
    generalize hTX : applyP (edO u S q) S.doc = TX at *
    generalize hOO : edO u S q = O at *
    have CI := cI
    obtain ⟨hlo, vm, h3, h4⟩ := h
    have HLO : Hid (lo ≤ b) := hlo
    obtain ⟨p, c, rfl⟩ := isMine_shape h4
    obtain ⟨n, hn⟩ : ∃ n, S.mine.length = n := ⟨_, rfl⟩
    rw [hn] at h3 h4
    have H3 : Hid _ := h3
    have H4 : Hid _ := h4
    obtain ⟨p0, c0, rfl, _⟩ := hx
    have hne5 : ∀ k, (Value.slice p n c).ownBlock = some k → k ≠ b := fun k hk e => by
      obtain ⟨_, _, cs, hc⟩ := mine_own H4.out hk
      subst e
      have := not_type H3.out hc
      revert this; decide
    have HNE : Hid _ := hne5
    clear cI h3 h4 hm ha hk hu hwf hpl hsz hid hG hT same hV hrs hbs hdl hC1 h6 ht hlo g1 hpu hbd hlens hfl hfu hOO hTX he0 hn hne5
    go_enter Tryz.func47, Tryz.ntmps47
    go_wp2_with (first
      | (go_at_call 57; refine Calls.mono CU.out ?_; rintro e w1 ⟨rfl, hb1⟩; have HB1 : Hid (Below w.heap.size w w1) := hb1; clear hb1)
      | (go_at_call 118; refine (CF.out _ HB1.out).mono ?_; rintro e w2 ⟨rfl, hb2⟩; have HB2 : Hid (Below w.heap.size w w2) := HB1.out.trans (hb2.mono HB1.out.size); clear hb2)
      | fail)
    refine wp_region_set (fun wx : World => wx.heap[b]? = some (.cells (clCells who u S (.slice p n c)) 203 (0, 0))) 15 15 (by kernel_rfl) rfl ?_
    intro w30 hb30
    have hb2A := HB2.out.trans (hb30.mono HB2.out.size)
    have hz0 : w30.heap[b]? = some (.cells (clCells who u S (.slice p n c)) 203 (0, 0)) := (hb2A.block b hlt).trans H3.out
    obtain ⟨G, hG⟩ := exists_growZ (Z := fun wx : World => wx.heap[b]? = some (.cells (clCells who u S (.slice p n c)) 203 (0, 0))) hz0 (fun {w w'} h hb => (hb.block b (Array.getElem?_eq_some_iff.1 h).1).trans h)
    have y1 : ∀ x, (G x).cell? ⟨b, 1, none⟩ = some (.int .i64 u) := fun x => (cl_cells (hG.but x)).2.1
    have y5 : ∀ x, (G x).cell? ⟨b, 5, none⟩ = some (.string ⟨S.doc.toArray⟩) := fun x => (cl_cells (hG.but x)).2.2.2.2.2.1
    (refine anyZ_step hG hz0 (i := 0) rfl (by kernel_rfl) (by kernel_rfl) (by kernel_rfl) (fun K hK => ?_); go_simp; refine hK _ ?_; clear hK K)
    (refine anyZ_step hG hz0 (i := 1) rfl (by kernel_rfl) (by kernel_rfl) (by kernel_rfl) (fun K hK => ?_); go_simp; refine hK _ ?_; clear hK K)
    (refine anyZ_step hG hz0 (i := 2) rfl (by kernel_rfl) (by kernel_rfl) (by kernel_rfl) (fun K hK => ?_); go_simp; refine hK _ ?_; clear hK K)
    (refine anyZ_step hG hz0 (i := 3) rfl (by kernel_rfl) (by kernel_rfl) (by kernel_rfl) (fun K hK => ?_); go_simp; refine hK _ ?_; clear hK K)
    (refine anyZ_step hG hz0 (i := 4) rfl (by kernel_rfl) (by kernel_rfl) (by kernel_rfl) (fun K hK => ?_); go_simp; refine hK _ ?_; clear hK K)
    (refine anyZ_step hG hz0 (i := 5) rfl (by kernel_rfl) (by kernel_rfl) (by kernel_rfl) (fun K hK => ?_); go_simp; refine hK _ ?_; clear hK K)
    (refine anyZ_step hG hz0 (i := 6) rfl (by kernel_rfl) (by kernel_rfl) (by kernel_rfl) (fun K hK => ?_); go_simp; refine hK _ ?_; clear hK K)
    (refine anyZ_step hG hz0 (i := 7) rfl (by kernel_rfl) (by kernel_rfl) (by kernel_rfl) (fun K hK => ?_); go_simp; refine hK _ ?_; clear hK K)
    (refine anyZ_step hG hz0 (i := 8) rfl (by kernel_rfl) (by kernel_rfl) (by kernel_rfl) (fun K hK => ?_); go_simp; refine hK _ ?_; clear hK K)
    clear y1 y5
    refine anyZ_one (i := 9) (by kernel_rfl) ⟨_, rfl, ?_⟩
    intro w31 hb31 K hK
    go_simp
    have hb2B := hb2A.trans (hb31.mono hb2A.size)
    refine (CI.out w31 hb2B).mono ?_
    rintro e w3 ⟨v', rfl, hn3, hb3⟩
    obtain ⟨p3, c3, rfl⟩ := opN_shape hn3
    have hz2 : w3.heap[b]? = some (.cells (clCells who u S (.slice p n c)) 203 (0, 0)) := ((hb2B.trans (hb3.mono hb2B.size)).block b hlt).trans H3.out
    refine ⟨_, rfl, hK _ _ (fun _ => hz2) ?_⟩
    clear hK K hz0
    (refine anyZ_step hG hz2 (i := 10) rfl (by kernel_rfl) (by kernel_rfl) (by kernel_rfl) (fun K hK => ?_); go_simp; refine hK _ ?_; clear hK K)
    (refine anyZ_step hG hz2 (i := 11) rfl (by kernel_rfl) (by kernel_rfl) (by kernel_rfl) (fun K hK => ?_); go_simp; refine hK _ ?_; clear hK K)
    (refine anyZ_step hG hz2 (i := 12) rfl (by kernel_rfl) (by kernel_rfl) (by kernel_rfl) (fun K hK => ?_); go_simp; refine hK _ ?_; clear hK K)
    (refine anyZ_step hG hz2 (i := 13) rfl (by kernel_rfl) (by kernel_rfl) (by kernel_rfl) (fun K hK => ?_); go_simp; refine hK _ ?_; clear hK K)
    (refine anyZ_step hG hz2 (i := 14) rfl (by kernel_rfl) (by kernel_rfl) (by kernel_rfl) (fun K hK => ?_); go_simp; refine hK _ ?_; clear hK K)
    clear hG hz2
    refine anyZ_end (by kernel_rfl) ?_
    intro w4 hb4
    have hb44 := (hb2B.trans (hb3.mono hb2B.size))
    have HB4 : Hid (Below w.heap.size w w4) := hb44.trans (hb4.mono hb44.size)
    have HN4 : Hid (opX lo w4 (.slice p3 O.length c3) O) := opX_grown (opX_of_new hn3) hb4
    clear hb30 hb31 hb3 hb4 hb44 hb2A hb2B hn3
    have h4k := (HB4.out.block b hlt).trans H3.out
    have HBK4 : Hid _ := h4k
    have hl4 : b < w4.heap.size := (Array.getElem?_eq_some_iff.1 h4k).1
    have t5 := (cl_cells h4k).2.2.2.2.2.1
    clear h4k
    go_wp2_with (first
      | (go_at_call 120; refine (CLn.out _ _ HN4.out.1).mono ?_; rintro e w5 ⟨rfl, hb5⟩; have HB5 : Hid (Below w4.heap.size w4 w5) := hb5; have t5' := (hb5.cell (p := ⟨b, 5, none⟩) hl4).trans t5; clear hb5)
      | (go_at_call 29; refine (CAp.out _ _ (HB4.out.trans (HB5.out.mono HB4.out.size)) (opX_grown HN4.out HB5.out).1).mono ?_; rintro e w6 ⟨rfl, hb6⟩
         have hb46 := HB5.out.trans (hb6.mono HB5.out.size)
         have HB6 : Hid (Below w4.heap.size w4 w6) := hb46
         have hk6 := (hb46.block b hl4).trans HBK4.out
         have HBK6 : Hid _ := hk6
         have t6 := (cl_cells hk6).2.2.2.2.2.1
         have f6 : w6.frozen? ⟨b, 5, none⟩ = false := frozen_block hk6
         clear hb6 hb46 hk6)
      | (go_at_call 9999)
      | fail)
    have hbw6 := HB4.out.trans (HB6.out.mono HB4.out.size)
    have b1 := heap_setCell_same w6 b 5 _ _ (.string ⟨TX.toArray⟩) HBK6.out
    have hs1 : sameBut w6 (w6.setCell ⟨b, 5, none⟩ (.string ⟨TX.toArray⟩)) (fun k => k = b) := sameBut_set (S := fun k => k = b) rfl
    obtain ⟨hc1, hk1⟩ := isCl_mk (S' := { S with doc := TX }) HLO.out H3.out b1 (isMine_but (isMine_below H4.out hbw6) hs1 (fun j _ hj => by obtain rfl := hj; exact ⟨HLO.out, noPart_of HBK6.out (by decide)⟩) fun j hj e => HNE.out j hj e) (((sameBut_below hbw6 _).comp hs1 fun j _ e => .inl e)) fun j hj => .inl hj
    have hT6 : Lib.Utf8Tabs 2 3 (w6.setCell ⟨b, 5, none⟩ (.string ⟨TX.toArray⟩)) := tabs_same (Go.Proofs.Utf8Tabs_below HT.out hbw6) hs1 (fun e => by have := HLO.out; have := HGG.out.1; omega) (fun e => by have := HLO.out; have := HGG.out.2; omega)
    have hx6 : opX lo (w6.setCell ⟨b, 5, none⟩ (.string ⟨TX.toArray⟩)) (.slice p3 O.length c3) O := opX_same (opX_grown HN4.out HB6.out) hs1 fun j _ hj => by obtain rfl := hj; exact ⟨HLO.out, noPart_of HBK6.out (by decide)⟩
    refine (clQueue_any hc1 _ O hx6 hT6 HTW.out HID.out HQ.out).mono ?_
    rintro e w7 ⟨rfl, hc7, hk7⟩
    have HFIN : Hid (isCl lo w7 b who u (edS u S q) ∧ keptC w w7 b) := by
      show _ ∧ _
      rw [HES.out]
      exact ⟨hc7, hk1.trans hk7⟩
    clear hc7 hk7 hc1 hk1 hs1 b1 hT6 hx6 hbw6
    go_wp2
    go_ret
    exact ⟨rfl, HFIN.out⟩
end Go.Proofs.YtedgnlgjmnccgabGreatDoor
