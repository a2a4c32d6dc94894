/-
  client.landed, Refused.
-/
import Derived.Test.YtedgnlgjmnccgabGreatDoorClDel
namespace Go.Proofs.YtedgnlgjmnccgabGreatDoor
open Go.RowKit Go.Maps
set_option linter.unusedVariables false
attribute [local go_sem] Oper.semAt_some

/-- A client's row of one, of two. -/
theorem mine_row {lo : Nat} {w : World} {vm : Value} {ms : List (List Pt)} (h : isMine lo w vm ms) (hm : ms ≠ []) : ∃ g c, vm = .slice (some ⟨g, 0, none⟩) ms.length c := by
  obtain ⟨vs, _, h2, _⟩ := h
  rcases h2.2 with ⟨_, e⟩ | ⟨g, cap, cur, e, _⟩
  · exact absurd (List.eq_nil_of_length_eq_zero e) hm
  · exact ⟨g, cap, e⟩
theorem two_of {α : Type} {l : List α} (h : l.length = 2) : ∃ a b, l = [a, b] := by
  match l, h with
  | [a, b], _ => exact ⟨a, b, rfl⟩
theorem below_grownS {w w' : World} {g : Nat} (h : w.grownBy w' (some g)) : sameBut w w' fun k => k = g := sameBut_grown h fun k e => (Option.some.inj e).symm
set_option maxRecDepth 100000 in
set_option maxHeartbeats 1000000 in
theorem clLand1 {lo : Nat} {w : World} {b : Nat} {who u : Int} {S : Cl} (h : isCl lo w b who u S) {m1 : List Pt} (hm : S.mine = [m1]) :
    Calls Tryz.prog 123 #[.pointer (some ⟨b, 0, none⟩)] w fun e w' => e = .returned (.tuple #[]) ∧ isCl lo w' b who u { S with mine := [] } ∧ keptC w w' b := by
  have hlt := isCl_lt h
  obtain ⟨hlo, vm, h3, h4⟩ := h
  obtain ⟨g, c, rfl⟩ := mine_row h4 (by rw [hm]; simp)
  have hg := mine_own h4 (k := g) rfl
  have hgb : g ≠ b := fun e => by
    obtain ⟨_, _, cs, hc⟩ := hg
    subst e
    have := not_type h3 hc
    revert this; decide
  obtain ⟨vs, q1, q2, q3⟩ := h4
  have hl1 : S.mine.length = 1 := by rw [hm]; rfl
  rw [hl1] at q2 h3
  obtain ⟨x0, rfl⟩ : ∃ x0, vs = [x0] := List.length_eq_one_iff.1 (by rw [q1, hl1])
  have CD : Hid _ := del1 q2
  obtain ⟨_, _, _, _, x4, _, _, _, xf⟩ := cl_cells h3
  have f4 := xf 4
  have H3 : Hid _ := h3
  have HLO : Hid (lo ≤ b) := hlo
  clear h3 q1 q2 q3 hl1 xf hm hlo hg
  go_enter Tryz.func123, Tryz.ntmps123
  go_wp2_with (first
    | (go_at_call 9999)
    | fail)
  refine Calls.mono CD.out ?_
  rintro e w1 ⟨rfl, hown, hgr⟩
  have hs := below_grownS hgr
  have hb1 : w1.heap[b]? = some (.cells (clCells who u S (.slice (some ⟨g, 0, none⟩) 1 c)) 203 (0, 0)) := (hs.2 b hlt fun e => hgb e.symm).trans H3.out
  have y4 : w1.cell? ⟨b, 4, none⟩ = some (.slice (some ⟨g, 0, none⟩) 1 c) := (cl_cells hb1).2.2.2.2.1
  have z4 : w1.frozen? ⟨b, 4, none⟩ = false := frozen_block hb1
  have b2 := heap_setCell_same w1 b 4 _ _ (.slice (some ⟨g, 0, none⟩) 0 c) hb1
  have hs1 : sameBut w1 (w1.setCell ⟨b, 4, none⟩ (.slice (some ⟨g, 0, none⟩) 0 c)) (fun k => k = b) := sameBut_set (S := fun k => k = b) rfl
  have hmn : isMine lo (w1.setCell ⟨b, 4, none⟩ (.slice (some ⟨g, 0, none⟩) 0 c)) (.slice (some ⟨g, 0, none⟩) 0 c) [] := ⟨[], rfl, own_same hown hs1 (fun k hk e => hgb ((Option.some.inj hk).trans e)), fun i m x hi => by simp at hi⟩
  have HB6 : Hid (isCl lo (w1.setCell ⟨b, 4, none⟩ (.slice (some ⟨g, 0, none⟩) 0 c)) b who u { S with mine := [] } ∧ keptC w (w1.setCell ⟨b, 4, none⟩ (.slice (some ⟨g, 0, none⟩) 0 c)) b) :=
    isCl_mk HLO.out H3.out b2 hmn ((hs.mono fun k _ e => .inr (congrArg some e.symm)).comp hs1 fun k _ e => .inl e) fun k hk => .inl hk
  have CP : Hid _ := clPending_any HB6.out.1
  have hp0 : decide (0 < ({ S with mine := [] } : Cl).mine.length) = false := rfl
  rw [hp0] at CP
  clear hown hgr hs hb1 b2 hs1 hmn hp0
  go_wp2_with (first
    | (go_at_call 58; refine Calls.mono CP.out ?_; rintro e w2 ⟨rfl, hb2⟩; have HB2 : Hid _ := hb2; clear hb2)
    | fail)
  go_end0
  exact ⟨rfl, isCl_below HB6.out.1 HB2.out, HB6.out.2.trans (keptC_below HB2.out (isCl_lt HB6.out.1))⟩
set_option maxRecDepth 100000 in
set_option maxHeartbeats 1000000 in
theorem clLand2 {lo : Nat} {w : World} {b : Nat} {who u : Int} {S : Cl} (h : isCl lo w b who u S) {m1 m2 : List Pt} (hm : S.mine = [m1, m2]) (hid : 0 ≤ S.id ∧ S.id ≤ 1000000) :
    Calls Tryz.prog 123 #[.pointer (some ⟨b, 0, none⟩)] w fun e w' => e = .returned (.tuple #[]) ∧ isCl lo w' b who u { S with mine := [m2], id := S.id + 1 } ∧ keptC w w' b := by
  have hlt := isCl_lt h
  obtain ⟨hlo, vm, h3, h4⟩ := h
  obtain ⟨g, c, rfl⟩ := mine_row h4 (by rw [hm]; simp)
  have hg := mine_own h4 (k := g) rfl
  have hgb : g ≠ b := fun e => by
    obtain ⟨_, _, cs, hc⟩ := hg
    subst e
    have := not_type h3 hc
    revert this; decide
  have hgp : lo ≤ g ∧ noPart w g := by
    obtain ⟨e, _, cs, hc⟩ := hg
    exact ⟨e, noPart_of hc (by decide)⟩
  obtain ⟨vs, q1, q2, q3⟩ := h4
  have hl1 : S.mine.length = 2 := by rw [hm]; rfl
  rw [hl1] at q2 h3
  obtain ⟨x0, x1, rfl⟩ : ∃ x0 x1, vs = [x0, x1] := two_of (by rw [q1, hl1])
  have ho1 : opX lo w x1 m2 := q3 1 m2 x1 (by rw [hm]; rfl) rfl
  obtain ⟨p1, c1, rfl⟩ := opX_shape ho1
  have CD : Hid _ := del2 q2
  have HO1 : Hid _ := ho1
  obtain ⟨_, _, _, _, x4, _, _, _, xf⟩ := cl_cells h3
  have H3 : Hid _ := h3
  have HLO : Hid (lo ≤ b) := hlo
  have HGP : Hid (lo ≤ g ∧ noPart w g) := hgp
  have hid1 : wrap64 (S.id + 1) = S.id + 1 := wrap64_small (by omega) (by omega)
  obtain ⟨i0, i1⟩ := hid
  generalize hln : m2.length = ln at *
  clear h3 q1 q2 q3 hl1 xf hm hlo hg ho1 hgp
  go_enter Tryz.func123, Tryz.ntmps123
  go_wp2_with (first
    | (go_at_call 9999)
    | fail)
  refine Calls.mono CD.out ?_
  rintro e w1 ⟨rfl, hown, hgr⟩
  have hs := below_grownS hgr
  have hb1 : w1.heap[b]? = some (.cells (clCells who u S (.slice (some ⟨g, 0, none⟩) 2 c)) 203 (0, 0)) := (hs.2 b hlt fun e => hgb e.symm).trans H3.out
  have y4 : w1.cell? ⟨b, 4, none⟩ = some (.slice (some ⟨g, 0, none⟩) 2 c) := (cl_cells hb1).2.2.2.2.1
  have z4 : w1.frozen? ⟨b, 4, none⟩ = false := frozen_block hb1
  have b2 := heap_setCell_same w1 b 4 _ _ (.slice (some ⟨g, 0, none⟩) 1 c) hb1
  have hs1 : sameBut w1 (w1.setCell ⟨b, 4, none⟩ (.slice (some ⟨g, 0, none⟩) 1 c)) (fun k => k = b) := sameBut_set (S := fun k => k = b) rfl
  have hsA : sameBut w (w1.setCell ⟨b, 4, none⟩ (.slice (some ⟨g, 0, none⟩) 1 c)) (fun k => k = b ∨ k = g) := (hs.mono fun k _ e => .inr e).comp hs1 fun k _ e => .inl e
  have hmn : isMine lo (w1.setCell ⟨b, 4, none⟩ (.slice (some ⟨g, 0, none⟩) 1 c)) (.slice (some ⟨g, 0, none⟩) 1 c) [m2] := ⟨[.slice p1 ln c1], rfl, own_same hown hs1 (fun k hk e => hgb ((Option.some.inj hk).trans e)), fun i m x hi hx => by
    cases i with
    | succ i => simp at hi
    | zero =>
      obtain rfl : m2 = m := by simpa using hi
      obtain rfl : Value.slice p1 ln c1 = x := by simpa using hx
      exact opX_same HO1.out hsA fun k _ hk => by
        rcases hk with rfl | rfl
        · exact ⟨HLO.out, noPart_of H3.out (by decide)⟩
        · exact HGP.out⟩
  have HB6 : Hid (isCl lo (w1.setCell ⟨b, 4, none⟩ (.slice (some ⟨g, 0, none⟩) 1 c)) b who u { S with mine := [m2] } ∧ keptC w (w1.setCell ⟨b, 4, none⟩ (.slice (some ⟨g, 0, none⟩) 1 c)) b) :=
    isCl_mk HLO.out H3.out b2 hmn (hsA.mono fun k _ e => e.imp id fun e => congrArg some e.symm) fun k hk => .inl hk
  have HBL : Hid ((w1.setCell ⟨b, 4, none⟩ (.slice (some ⟨g, 0, none⟩) 1 c)).heap[b]? = some (.cells (clCells who u { S with mine := [m2] } (.slice (some ⟨g, 0, none⟩) 1 c)) 203 (0, 0))) := b2
  have CP : Hid _ := clPending_any HB6.out.1
  have hp0 : decide (0 < ({ S with mine := [m2] } : Cl).mine.length) = true := by simp
  rw [hp0] at CP
  clear hown hgr hs hb1 b2 hs1 hmn hp0 hsA
  go_wp2_with (first
    | (go_at_call 58; refine Calls.mono CP.out ?_; rintro e w2 ⟨rfl, hb2⟩; have HB2 : Hid _ := hb2; have hbk := (hb2.block b (Array.getElem?_eq_some_iff.1 HBL.out).1).trans HBL.out; have HBK : Hid _ := hbk; have u6 : w2.cell? ⟨b, 6, none⟩ = some (.int .i64 S.id) := (cl_cells hbk).2.2.2.2.2.2.1; have uf : w2.frozen? ⟨b, 6, none⟩ = false := frozen_block hbk; clear hb2 hbk)
    | fail)
  go_end0
  refine ⟨rfl, ?_⟩
  have b3 := heap_setCell_same w2 b 6 _ _ (.int .i64 (S.id + 1)) HBK.out
  have hc2 := isCl_below HB6.out.1 HB2.out
  obtain ⟨_, vm, e3, e4⟩ := hc2
  have hvm : vm = .slice (some ⟨g, 0, none⟩) 1 c := by
    have h1 := (cl_cells e3).2.2.2.2.1
    rw [(cl_cells HBK.out).2.2.2.2.1] at h1
    exact (Option.some.inj h1).symm
  subst hvm
  have hs2 : sameBut w2 (w2.setCell ⟨b, 6, none⟩ (.int .i64 (S.id + 1))) (fun k => k = b) := sameBut_set (S := fun k => k = b) rfl
  have fin := isCl_mk (S' := { S with mine := [m2], id := S.id + 1 }) HLO.out HBK.out b3 (isMine_but e4 hs2 (fun k _ hk => by obtain rfl := hk; exact ⟨HLO.out, noPart_of HBK.out (by decide)⟩) fun k hk e => hgb ((Option.some.inj hk).trans e)) (hs2.mono fun k _ e => .inl e) fun k hk => .inl hk
  exact ⟨fin.1, (HB6.out.2.trans (keptC_below HB2.out (isCl_lt HB6.out.1))).trans fin.2⟩
end Go.Proofs.YtedgnlgjmnccgabGreatDoor
