/-
  rosettalaw.OpsCheck: the law's own walk.
-/
import Derived.Test.YtedonckeomccpaaDoorOpsRefChk
import Derived.Test.YtedonckeomccpaaDoorOpsLens
import Derived.Test.YtedonckeomccpaaDoorOpsRefGather
namespace Go.Proofs.YtedonckeomccpaaDoor
open Go.RowKit
set_option linter.unusedVariables false

theorem opAt_grown {w w' : World} {v : Value} {ps : List Pt} (h : opAt w v ps) (hb : Below w.heap.size w w') : opAt w' v ps := opAt_below h hb (Nat.le_refl _)

def fineB (ps : List Pt) : Bool := fewB ps && (chkE ps (lensW ps).1 == 0)

theorem lensW_range (ps : List Pt) : -9223372036854775808 ≤ (lensW ps).1 ∧ (lensW ps).1 < 9223372036854775808 := by
  unfold lensW
  rcases List.eq_nil_or_concat ps with rfl | ⟨l, p, rfl⟩
  · simp
  · rw [List.concat_eq_append, List.foldl_append]
    show -9223372036854775808 ≤ IntKind.i64.wrap _ ∧ IntKind.i64.wrap _ < _
    rw [IntKind.wrap_i64]
    omega

set_option maxRecDepth 100000 in
set_option maxHeartbeats 1000000 in
theorem fine_any (v : Value) (ps : List Pt) (w : World) (hr : opAt w v ps) (hwf : ∀ p ∈ ps, wfP p) (hsm : ∀ p ∈ ps, p.put.length < 100000000) (hl : ps.length < 10000000) :
    Calls Tryd.prog 45 #[v] w fun e w' => e = .returned (.bool (fineB ps)) ∧ Below w.heap.size w w' := by
  have cL := fun wx hb => refLens_any v ps wx (opAt_grown hr hb) hl
  have cF := fun wx hb => few_any v ps wx (opAt_grown hr hb) hl
  have hrg := lensW_range ps
  unfold fineB
  obtain ⟨l2, hl2⟩ : ∃ l2, (lensW ps).2 = l2 := ⟨_, rfl⟩
  rw [hl2] at cL
  obtain ⟨l1, hl1⟩ : ∃ l1, (lensW ps).1 = l1 := ⟨_, rfl⟩
  rw [hl1] at cL hrg ⊢
  have cC := fun wx hb => refCheck_any v ps l1 wx (opAt_grown hr hb) hwf hsm hrg hl
  obtain ⟨E, hE⟩ : ∃ E, chkE ps l1 = E := ⟨_, rfl⟩
  rw [hE] at cC ⊢
  obtain ⟨F, hF⟩ : ∃ F, fewB ps = F := ⟨_, rfl⟩
  rw [hF] at cF ⊢
  obtain ⟨p, c, rfl, _⟩ := hr
  clear hl1 hl2 hE hF hrg
  cases F with
  | false =>
    go_enter Tryd.func45, Tryd.ntmps45
    go_wp2_with (first | (go_at_call 47; refine (cL _ (Below.refl _ _)).mono ?_; rintro e w1 ⟨rfl, hb1⟩) | (go_at_call 56; refine (cF _ hb1).mono ?_; rintro e w2 ⟨rfl, hb2⟩) | fail)
    go_ret
    exact ⟨rfl, hb1.trans (hb2.mono hb1.size)⟩
  | true =>
    go_enter Tryd.func45, Tryd.ntmps45
    go_wp2_with (first | (go_at_call 47; refine (cL _ (Below.refl _ _)).mono ?_; rintro e w1 ⟨rfl, hb1⟩) | (go_at_call 56; refine (cF _ hb1).mono ?_; rintro e w2 ⟨rfl, hb2⟩; have hb12 := hb1.trans (hb2.mono hb1.size)) | (go_at_call 44; refine (cC _ hb12).mono ?_; rintro e w3 ⟨rfl, hb3⟩) | fail)
    go_ret
    exact ⟨rfl, hb12.trans (hb3.mono hb12.size)⟩

theorem chkE_sound {ps : List Pt} {n : Int} (h : chkE ps n = 0) : ∀ p ∈ ps, soundP p := by
  unfold chkE at h
  split at h
  · rename_i h1
    exact fun p hp => (one_sound (chk1_ones h1 p hp).1).1
  · rename_i h1
    exact absurd h h1

theorem few_wts {ps : List Pt} (h : fewB ps = true) (hs : ∀ p ∈ ps, soundP p) : wts ps ≤ 1030000 ∧ ps.length ≤ 100 := by
  unfold fewB at h
  rw [Bool.and_eq_true] at h
  have hl := of_decide_eq_true h.1
  have hall := List.all_eq_true.1 h.2
  have key : ∀ (l : List Pt), (∀ p ∈ l, fewP p = true) → wts l ≤ 10300 * l.length := by
    intro l
    induction l with
    | nil => intro _; simp [wts]
    | cons p l ih =>
      intro hl
      have h1 := ih fun q hq => hl q (List.mem_cons_of_mem _ hq)
      have h2 := hl p (List.mem_cons_self ..)
      unfold fewP at h2
      simp only [Bool.not_eq_true', Bool.or_eq_false_iff, decide_eq_false_iff_not] at h2
      have h3 : wtP p = p.keep + p.drop + p.put.length := rfl
      have h4 : wts (p :: l) = wtP p + wts l := by simp [wts]
      rw [h4, List.length_cons]
      omega
  have := key ps hall
  omega

theorem putsK_ticks (d : Bool) : ∀ (n : Nat) (g : GSt), putsK (ticks d n g).1 + (ticks d n g).2.length = putsK g.1 + g.2.length
  | 0, _ => rfl
  | n + 1, g => by
    rw [ticks, putsK_ticks d n]
    show putsK (g.1 ++ [(g.2, d)]) + 0 = _
    rw [putsK_snoc]
    rfl
theorem putsK_spreads (ps : List Pt) (h : ∀ p ∈ ps, soundP p) : ((putsK (spreads ps).1 + (spreads ps).2.length : Nat) : Int) ≤ wts ps := by
  have key : ∀ k, k ≤ ps.length → ((putsK (spreads (ps.take k)).1 + (spreads (ps.take k)).2.length : Nat) : Int) ≤ wts (ps.take k) := by
    intro k
    induction k with
    | zero => intro _; simp [spreads, putsK, wts]
    | succ k ih =>
      intro hk
      have h1 := ih (by omega)
      have hp := h _ (List.getElem_mem (show k < ps.length by omega))
      rw [List.take_succ_eq_append_getElem (by omega), spreads_snoc, wts_snoc]
      generalize ps[k] = q at *
      generalize spreads (ps.take k) = g at *
      obtain ⟨q1, q2⟩ := hp
      have hwq : wtP q = q.keep + q.drop + q.put.length := rfl
      have e : putsK (spreadP g q).1 + (spreadP g q).2.length = putsK g.1 + (g.2.length + q.put.length) := by
        unfold spreadP
        rw [putsK_ticks, putsK_ticks]
        show putsK g.1 + (g.2 ++ q.put).length = _
        rw [List.length_append]
      rw [e]
      omega
  have := key ps.length (Nat.le_refl _)
  rwa [List.take_length] at this

/-- The document's least form, gap by gap. -/
theorem refNorm_any (v : Value) (ps : List Pt) (w : World) (hr : opAt w v ps) (hs : ∀ p ∈ ps, soundP p) (hw : wts ps < 10000000) (hl : ps.length < 10000000) :
    Calls Tryd.prog 51 #[v] w fun e w' => ∃ g, e = .returned g ∧ Below w.heap.size w w' ∧
      Calls Tryd.prog 50 #[g] w' fun e w'' => ∃ v', e = .returned v' ∧ w''.ownsRow w'.heap.size 151 3 v' (normP ps).length (cellsP (normP ps)) ∧ Below w'.heap.size w' w'' := by
  refine (Spread_any v ps w hr hs hw hl _ rfl).mono ?_
  rintro e w' ⟨g1, g2, rfl, h1, h2, hb⟩
  refine ⟨_, rfl, hb, ?_⟩
  have hp := putsK_spreads ps hs
  have hn := (lens_plain ps hs (by omega)).2.2.1
  have := Gather_any g1 g2 (spreads ps).1.length (spreads ps) w' rfl (by omega) (by omega)
    (fun i q hi => by
      have hlt := (List.getElem?_eq_some_iff.1 hi).1
      rw [List.length_append, List.length_map, List.length_singleton] at hlt
      rw [h1.cellAt i (by omega), List.getElem?_map]
      have e : strsP (spreads ps).1.length (spreads ps) = (spreads ps).1.map (·.1) ++ [(spreads ps).2] := by simp [strsP]
      rw [e, hi]
      rfl)
    (fun i d hi => by
      have hlt := (List.getElem?_eq_some_iff.1 hi).1
      rw [List.length_map] at hlt
      rw [h2.cellAt i (by omega), List.getElem?_map]
      have e : boolsP (spreads ps).1.length (spreads ps) = (spreads ps).1.map (·.2) := by simp [boolsP]
      rw [e, hi]
      rfl)
    (h1.lt g1 rfl).2 (h2.lt g2 rfl).2
  rw [gather_norm ps hs] at this
  exact this

set_option maxRecDepth 100000 in
set_option maxHeartbeats 2000000 in
theorem opsCheck_any (v : Value) (ps : List Pt) (N : Int) (w : World) (hg : asLaid w) (hT : Lib.Utf8Tabs 0 1 w) (hr : opAt w v ps) (hwf : ∀ p ∈ ps, wfP p) (hsm : ∀ p ∈ ps, p.put.length < 100000000) (hN : -9223372036854775808 ≤ N ∧ N < 9223372036854775808) :
    Calls Tryd.prog 8 #[v, .int .i64 N] w fun e w' => e = .returned (.bool true) ∧ Below w.heap.size w w' := by
  by_cases hl : 100 < ps.length
  · obtain ⟨p, c, rfl, r1, r2, _⟩ := hr
    unfold maxLen at r2
    have h2 : (100 : Int) < (ps.length : Int) := by omega
    clear hT hg hwf hsm hN
    go_enter Tryd.func8, Tryd.ntmps8
    go_wp2
    go_ret
    exact ⟨rfl, Below.refl _ _⟩
  have hl' : ps.length < 10000000 := by omega
  have cC : Hid (Calls Tryd.prog 43 #[v, .int .i64 N] w fun e w' => e = .returned (errV (chkE ps N)) ∧ Below w.heap.size w w') := Check_any v ps N w hT hr hwf hN hl'
  have cR : Hid (∀ wx, Below w.heap.size w wx → Calls Tryd.prog 44 #[v, .int .i64 N] wx fun e w' => e = .returned (.int .i64 (chkE ps N)) ∧ Below wx.heap.size wx w') := fun wx hb => refCheck_any v ps N wx (opAt_grown hr hb) hwf hsm hN hl'
  have cB : Hid (∀ wx, Below w.heap.size w wx → Calls Tryd.prog 30 #[errV (chkE ps N), .int .i64 (chkE ps N)] wx fun e w' => e = .returned (.bool true) ∧ Below wx.heap.size wx w') := fun wx hb => bare_any _ wx (asLaid_below hg hb)
  have cF : Hid (∀ wx, Below w.heap.size w wx → Calls Tryd.prog 45 #[v] wx fun e w' => e = .returned (.bool (fineB ps)) ∧ Below wx.heap.size wx w') := fun wx hb => fine_any v ps wx (opAt_grown hr hb) hwf hsm hl'
  have cL : Hid (∀ wx, Below w.heap.size w wx → Calls Tryd.prog 46 #[v] wx fun e w' => e = .returned (.tuple #[.int .i64 (lensW ps).1, .int .i64 (lensW ps).2]) ∧ Below wx.heap.size wx w') := fun wx hb => Lens_any v ps wx (opAt_grown hr hb) hl'
  have cM : Hid (∀ wx, Below w.heap.size w wx → Calls Tryd.prog 47 #[v] wx fun e w' => e = .returned (.tuple #[.int .i64 (lensW ps).1, .int .i64 (lensW ps).2]) ∧ Below wx.heap.size wx w') := fun wx hb => refLens_any v ps wx (opAt_grown hr hb) hl'
  have HL : Hid (opAt w v ps) := hr
  have HX : Hid (fineB ps = true → ∀ wx, Below w.heap.size w wx → Calls Tryd.prog 49 #[v] wx (fun e w' => ∃ v', e = .returned v' ∧ w'.ownsRow wx.heap.size 151 3 v' (normP ps).length (cellsP (normP ps)) ∧ Below wx.heap.size wx w') ∧
      Calls Tryd.prog 51 #[v] wx (fun e w' => ∃ g, e = .returned g ∧ Below wx.heap.size wx w' ∧
        Calls Tryd.prog 50 #[g] w' fun e w'' => ∃ v', e = .returned v' ∧ w''.ownsRow w'.heap.size 151 3 v' (normP ps).length (cellsP (normP ps)) ∧ Below w'.heap.size w' w'') ∧ (normP ps).length < 10000000) := by
    intro hf wx hb
    unfold fineB at hf
    rw [Bool.and_eq_true, beq_iff_eq] at hf
    have hs := chkE_sound hf.2
    have hw := few_wts hf.1 hs
    refine ⟨Norm_any v ps wx (opAt_grown hr hb) hs (by omega) hl', refNorm_any v ps wx (opAt_grown hr hb) hs (by omega) hl', ?_⟩
    have h1 := tellP_len (ps.foldl addP nst0)
    have h2 := (bds ps hs).len
    unfold normP
    omega
  obtain ⟨p, c, rfl, _⟩ := hr
  clear hT hg hwf hsm hN
  have hl2 : ¬ (100 : Int) < (ps.length : Int) := by omega
  obtain ⟨E, hE⟩ : ∃ E, chkE ps N = E := ⟨_, rfl⟩
  rw [hE] at cC cR cB
  obtain ⟨V, hV⟩ : ∃ V, errV E = V := ⟨_, rfl⟩
  rw [hV] at cC cB
  obtain ⟨a1, ha1⟩ : ∃ a, (lensW ps).1 = a := ⟨_, rfl⟩
  obtain ⟨a2, ha2⟩ : ∃ a, (lensW ps).2 = a := ⟨_, rfl⟩
  rw [ha1, ha2] at cL cM
  clear hE hV ha1 ha2
  by_cases hf : fineB ps = true
  · have HY := HX.out hf
    rw [hf] at cF
    have HYY : Hid _ := HY
    clear HX HY hf
    go_enter Tryd.func8, Tryd.ntmps8
    go_wp2_with (first
      | (go_at_call 43; refine cC.out.mono ?_; rintro e w1 ⟨rfl, hb1⟩)
      | (go_at_call 44; refine (cR.out _ hb1).mono ?_; rintro e w2 ⟨rfl, hb2⟩; have hB2 := hb1.trans (hb2.mono hb1.size))
      | (go_at_call 30; refine (cB.out _ hB2).mono ?_; rintro e w3 ⟨rfl, hb3⟩; have hB3 := hB2.trans (hb3.mono hB2.size))
      | (go_at_call 45; refine (cF.out _ hB3).mono ?_; rintro e w4 ⟨rfl, hb4⟩; have hB4 := hB3.trans (hb4.mono hB3.size))
      | (go_at_call 46; refine (cL.out _ hB4).mono ?_; rintro e w5 ⟨rfl, hb5⟩; have hB5 := hB4.trans (hb5.mono hB4.size))
      | (go_at_call 47; refine (cM.out _ hB5).mono ?_; rintro e w6 ⟨rfl, hb6⟩; have hB6 := hB5.trans (hb6.mono hB5.size))
      | fail)
    have HB6 : Hid (Below w.heap.size w w6) := hB6
    obtain ⟨cN, _, hnl⟩ := HYY.out _ HB6.out
    refine cN.mono ?_
    rintro e w7 ⟨v7, rfl, ho7, hb7⟩
    have HB7 : Hid (Below w.heap.size w w7) := HB6.out.trans (hb7.mono HB6.out.size)
    have HO7 : Hid (opAt w7 v7 (normP ps)) := opAt_own ho7
    obtain ⟨p7, c7, rfl⟩ := own_slice ho7
    clear cN ho7 hb7 hb1 hb2 hb3 hb4 hb5 hb6 hB2 hB3 hB4 hB5 hB6 HB6
    go_wp2_with (first | (go_at_call 9999) | fail)
    refine (HYY.out _ HB7.out).2.1.mono ?_
    rintro e w8 ⟨g, rfl, hb8, cG⟩
    have HB8 : Hid (Below w.heap.size w w8) := HB7.out.trans (hb8.mono HB7.out.size)
    have HO8 : Hid (opAt w8 (.slice p7 (normP ps).length c7) (normP ps)) := opAt_grown HO7.out hb8
    have HCG : Hid (Calls Tryd.prog 50 #[g] w8 fun e w'' => ∃ v', e = .returned v' ∧ w''.ownsRow w8.heap.size 151 3 v' (normP ps).length (cellsP (normP ps)) ∧ Below w8.heap.size w8 w'') := cG
    clear hb8 cG
    go_wp2_with (first | (go_at_call 9999) | fail)
    refine Calls.mono HCG.out ?_
    rintro e w9 ⟨v9, rfl, ho9, hb9⟩
    have HB9 : Hid (Below w.heap.size w w9) := HB8.out.trans (hb9.mono HB8.out.size)
    have HO9 : Hid (opAt w9 (.slice p7 (normP ps).length c7) (normP ps)) := opAt_grown HO8.out hb9
    have HOA : Hid (opAt w9 v9 (normP ps)) := opAt_own ho9
    obtain ⟨p9, c9, rfl⟩ := own_slice ho9
    clear ho9 hb9
    go_wp2_with (first | (go_at_call 9999) | fail)
    refine (Same_any _ _ (normP ps) w9 HO9.out HOA.out hnl).mono ?_
    rintro e w10 ⟨rfl, hb10⟩
    have HB10 : Hid (Below w.heap.size w w10) := HB9.out.trans (hb10.mono HB9.out.size)
    clear hb10
    go_wp2
    go_ret
    exact ⟨rfl, HB10.out⟩
  · have hf : fineB ps = false := Bool.eq_false_iff.2 hf
    rw [hf] at cF
    clear HX hf
    go_enter Tryd.func8, Tryd.ntmps8
    go_wp2_with (first
      | (go_at_call 43; refine cC.out.mono ?_; rintro e w1 ⟨rfl, hb1⟩)
      | (go_at_call 44; refine (cR.out _ hb1).mono ?_; rintro e w2 ⟨rfl, hb2⟩; have hB2 := hb1.trans (hb2.mono hb1.size))
      | (go_at_call 30; refine (cB.out _ hB2).mono ?_; rintro e w3 ⟨rfl, hb3⟩; have hB3 := hB2.trans (hb3.mono hB2.size))
      | (go_at_call 45; refine (cF.out _ hB3).mono ?_; rintro e w4 ⟨rfl, hb4⟩; have hB4 := hB3.trans (hb4.mono hB3.size))
      | fail)
    go_ret
    exact ⟨rfl, hB4⟩
end Go.Proofs.YtedonckeomccpaaDoor
