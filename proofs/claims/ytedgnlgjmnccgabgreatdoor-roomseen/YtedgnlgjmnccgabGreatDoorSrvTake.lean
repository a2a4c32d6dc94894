/-
  server.Take.
-/
import Derived.Test.YtedgnlgjmnccgabGreatDoorSrvDo2
namespace Go.Proofs.YtedgnlgjmnccgabGreatDoor
open Go.RowKit Go.Maps
set_option linter.unusedVariables false
attribute [local go_sem] Oper.semAt_some

theorem srvDo_any {lo n : Nat} {w : World} {b bm : Nat} {t : List UInt8} {E : List SE} {M : Told} (h : isSrv lo n w b bm t E M) {l0 : Int} (hk : okS l0 t E) (c i rev : Int) (v : Value) (ps : List Pt) (hT : Lib.Utf8Tabs 2 3 w) (hr : opAt w v ps) (hwf : ∀ p ∈ ps, wfP p) (hl : ps.length ≤ 1000000) (hpu : putsP ps ≤ 40000) (hn : E.length ≤ 300) :
    Calls Tryz.prog 113 #[.pointer (some ⟨b, 0, none⟩), .int .i64 c, .int .i64 i, .int .i64 rev, v] w fun e w' => e = .returned (errV (doE l0 t E rev ps)) ∧ isSrv lo n w' b bm (doT l0 t E rev ps) (doL l0 t E c i rev ps) M ∧ sameBut w w' (touchS lo w bm) := by
  by_cases h1 : rev < 0 ∨ (E.length : Int) < rev
  · have hd : doE l0 t E rev ps = 2 := if_pos h1
    refine (srvDo_range h c i rev v h1).mono ?_
    rintro e w' ⟨rfl, hb⟩
    exact ⟨by rw [hd], do_none h hb (by rw [hd]; decide)⟩
  · obtain ⟨k, rfl⟩ : ∃ k : Nat, rev = (k : Int) := ⟨rev.toNat, by omega⟩
    have hkl : k ≤ E.length := by omega
    have ek : ((k : Int)).toNat = k := rfl
    by_cases hfull : 300 ≤ E.length
    · have hd : doE l0 t E k ps = 4 := by
        unfold doE
        rw [if_neg h1, if_pos hfull]
      refine (srvDo_log h c i k v hkl hfull (by omega)).mono ?_
      rintro e w' ⟨rfl, hb⟩
      exact ⟨by rw [hd], do_none h hb (by rw [hd]; decide)⟩
    have e2 : ¬ (300 ≤ E.length) := hfull
    have hn : E.length < 300 := by omega
    by_cases hc : chkE ps (endE l0 (E.take k)) = 0
    · obtain ⟨p, c1, S, hlg⟩ := do_start h hk k v ps hT hr hwf hl hpu hkl hn hc
      have hc1 : E.length ≤ c1 := (logAt_of hlg).2.1
      by_cases ho : ordE (turnS ps (E.drop k)) t = 0
      · by_cases hz : 2000 < (applyP (turnS ps (E.drop k)) t).length
        · have hd : doE l0 t E k ps = 12 := by
            unfold doE
            rw [if_neg h1, if_neg e2, ek, if_neg (by rw [hc]; decide), if_neg (by rw [ho]; decide), if_pos hz]
          refine (srvDo_full c i k v ps hr hkl hn hc1 S ho hz).mono ?_
          rintro e w' ⟨rfl, hb⟩
          exact ⟨by rw [hd], do_none h hb (by rw [hd]; decide)⟩
        · have hd : doE l0 t E k ps = 0 := by
            unfold doE
            rw [if_neg h1, if_neg e2, ek, if_neg (by rw [hc]; decide), if_neg (by rw [ho]; decide), if_neg hz]
          refine (srvDo_ok c i k v ps hr hkl hn hc1 S ho (by omega) h hlg).mono ?_
          rintro e w' ⟨rfl, ha, hb⟩
          refine ⟨by rw [hd]; rfl, ?_, hb⟩
          unfold doT doL
          rw [if_pos hd, if_pos hd]
          exact ha
      · have hd : doE l0 t E k ps = ordE (turnS ps (E.drop k)) t := by
          unfold doE
          rw [if_neg h1, if_neg e2, ek, if_neg (by rw [hc]; decide), if_pos ho]
        refine (srvDo_apply c i k v ps hr hkl hn hc1 S ho).mono ?_
        rintro e w' ⟨rfl, hb⟩
        exact ⟨by rw [hd], do_none h hb (by rw [hd]; exact ho)⟩
    · have hd : doE l0 t E k ps = chkE ps (endE l0 (E.take k)) := by
        unfold doE
        rw [if_neg h1, if_neg e2, ek, if_pos hc]
      refine (srvDo_check h hk c i k v ps hT hr hwf hl hkl hn hc).mono ?_
      rintro e w' ⟨rfl, hb⟩
      exact ⟨by rw [hd], do_none h hb (by rw [hd]; exact hc)⟩
theorem srvTell_any (n : Int) (w : World) (hg : asLaid w) : Calls Tryz.prog 27 #[errV n] w fun e w' => e = .returned (.int .i64 n) ∧ Below w.heap.size w w' := by
  unfold errV
  by_cases h : n = 0
  · subst h
    rw [if_pos rfl]
    refine (Tell_nil w).mono ?_
    rintro e w' ⟨rfl, rfl⟩
    exact ⟨rfl, Below.refl _ _⟩
  · rw [if_neg h]
    exact Tell_number n w hg
theorem srvEqlSome (bm : Nat) (w : World) : (binOp .eql 194 (.map (some bm)) (.map none)).run Tryz.prog w = .ok (.bool false) w := by kernel_rfl
attribute [local go_sem] srvEqlSome
set_option maxRecDepth 100000 in
/-- An operation that is not new. -/
theorem srvTake_old {lo n : Nat} {w : World} {b bm : Nat} {t : List UInt8} {E : List SE} {M : Told} (h : isSrv lo n w b bm t E M) (c i rev : Int) (hc : rng c) (v : Value) (hi : i ≤ (got M c).1) :
    Calls Tryz.prog 38 #[.pointer (some ⟨b, 0, none⟩), .int .i64 c, .int .i64 i, .int .i64 rev, v] w fun e w' => e = .returned (errV (if i < (got M c).1 then 8 else (got M c).2)) ∧ Below w.heap.size w w' := by
  obtain ⟨_, _, ⟨v1, h3, h4⟩, h5⟩ := h
  have x2 : w.cell? ⟨b, 2, none⟩ = some (.map (some bm)) := Lib.cell_of_heap h3 2
  have L : Hid _ := isLast_look h5 (t := 194) Tryz.underlying194 (toldZero w) hc
  obtain ⟨gp, hgp⟩ : ∃ x, got M c = x := ⟨_, rfl⟩
  rw [hgp] at hi L ⊢
  obtain ⟨g1, g2⟩ := gp
  simp only at hi L ⊢
  clear h3 h4 h5
  by_cases h1 : i < g1
  · rw [if_pos h1, show errV 8 = .iface 26 (.int .i64 8) from rfl]
    go_enter Tryz.func38, Tryz.ntmps38
    go_wp2_with (first | (rw [L.out]) | fail)
    go_ret
    exact ⟨rfl, (Below.refl _ _).alloc (Nat.le_refl _) _⟩
  · rw [if_neg h1]
    have h2 : ¬ g1 < i := by omega
    by_cases hz : g2 = 0
    · subst hz
      rw [show errV 0 = .nilIface from rfl]
      go_enter Tryz.func38, Tryz.ntmps38
      go_wp2_with (first | (rw [L.out]) | fail)
      go_ret
      exact ⟨rfl, (Below.refl _ _).alloc (Nat.le_refl _) _⟩
    · rw [errV_ne hz]
      have hz2 : (g2 == 0) = false := by simpa using hz
      go_enter Tryz.func38, Tryz.ntmps38
      go_wp2_with (first | (rw [L.out]) | fail)
      go_ret
      exact ⟨rfl, (Below.refl _ _).alloc (Nat.le_refl _) _⟩

theorem isSrv_other {lo n : Nat} {w w' : World} {b bm : Nat} {t : List UInt8} {E : List SE} {M : Told} {S : Nat → Prop} (h : isSrv lo n w b bm t E M) (hs : sameBut w w' S) (hS : ∀ k, k < w.heap.size → S k → lo ≤ k ∧ ∃ cs T fz, w.heap[k]? = some (.cells cs T fz) ∧ T ≠ 50 ∧ T ≠ 196 ∧ T ≠ 105) : isSrv lo n w' b bm t E M := by
  obtain ⟨h1, h2, ⟨v1, h3, h4⟩, h5⟩ := h
  have hs' : sameBut w w' (fun k => k < w.heap.size ∧ S k) := ⟨hs.1, fun k hk hn => hs.2 k hk fun e => hn ⟨hk, e⟩, hs.os, hs.tape, hs.output⟩
  refine ⟨h1, h2, ⟨v1, (hs'.2 b (Array.getElem?_eq_some_iff.1 h3).1 fun hk => ?_).trans h3, isLog_but h4 hs' fun k hk => ?_⟩, isLast_but h5 hs' fun hk => ?_⟩
  · obtain ⟨_, cs, T, fz, hc, _, t2, _⟩ := hS b hk.1 hk.2
    exact t2 (not_type h3 hc).symm
  · obtain ⟨a, cs, T, fz, hc, t1, _, t3⟩ := hS k hk.1 hk.2
    exact ⟨a, noPart_of hc t1, fun cs' fz' hc' => t3 (not_type hc hc')⟩
  · obtain ⟨_, cs, T, fz, hc, _⟩ := hS bm hk.1 hk.2
    exact noCells_map h5 _ _ _ hc
theorem asLaid_same {w w' : World} {S : Nat → Prop} (h : asLaid w) (hs : sameBut w w' S) (hS : ¬ S 0) : asLaid w' := cell_same hs h hS
theorem tabs_same {w w' : World} {S : Nat → Prop} (h : Lib.Utf8Tabs 2 3 w) (hs : sameBut w w' S) (h1 : ¬ S 2) (h2 : ¬ S 3) : Lib.Utf8Tabs 2 3 w' :=
  ⟨fun c hc => cell_same hs (h.1 c hc) h1, fun i hi => ⟨cell_same hs (h.2 i hi).1 h2, cell_same hs (h.2 i hi).2 h2⟩⟩

set_option maxRecDepth 100000 in
set_option maxHeartbeats 2000000 in
/-- An operation that is new. -/
theorem srvTake_new {lo n : Nat} {w : World} {b bm : Nat} {t : List UInt8} {E : List SE} {M : Told} (h : isSrv lo n w b bm t E M) {l0 : Int} (hk : okS l0 t E) (c i rev : Int) (hc : rng c) (v : Value) (ps : List Pt) (hg : asLaid w) (hG : 0 < lo) (hT : Lib.Utf8Tabs 2 3 w) (hr : opAt w v ps) (hwf : ∀ p ∈ ps, wfP p) (hl : ps.length ≤ 1000000) (hpu : putsP ps ≤ 40000) (hn : E.length ≤ 300) (hnn : n < 1000000000) (hi : (got M c).1 < i) :
    Calls Tryz.prog 38 #[.pointer (some ⟨b, 0, none⟩), .int .i64 c, .int .i64 i, .int .i64 rev, v] w fun e w' => e = .returned (errV (doE l0 t E rev ps)) ∧ isSrv lo (n + 1) w' b bm (doT l0 t E rev ps) (doL l0 t E c i rev ps) (upd M c (i, doE l0 t E rev ps)) ∧ sameBut w w' (touchS lo w bm) := by
  have CD : Hid (∀ wx, Below w.heap.size w wx → Calls Tryz.prog 113 #[.pointer (some ⟨b, 0, none⟩), .int .i64 c, .int .i64 i, .int .i64 rev, v] wx fun e w' => e = .returned (errV (doE l0 t E rev ps)) ∧ isSrv lo n w' b bm (doT l0 t E rev ps) (doL l0 t E c i rev ps) M ∧ sameBut wx w' (touchS lo wx bm)) := fun wx hb =>
    srvDo_any (isSrv_below h hb) hk c i rev v ps (Go.Proofs.Utf8Tabs_below hT hb) (opAt_below hr hb (Nat.le_refl _)) hwf hl hpu hn
  have HS : Hid (isSrv lo n w b bm t E M) := h
  have HG : Hid (asLaid w ∧ 0 < lo) := ⟨hg, hG⟩
  have hsh : ∃ p c, v = .slice p ps.length c := by obtain ⟨p, c, e, _⟩ := hr; exact ⟨p, c, e⟩
  obtain ⟨pv, cv, rfl⟩ := hsh
  obtain ⟨hlo, _, ⟨v1, h3, h4⟩, h5⟩ := h
  have x2 : w.cell? ⟨b, 2, none⟩ = some (.map (some bm)) := Lib.cell_of_heap h3 2
  have L : Hid _ := isLast_look h5 (t := 194) Tryz.underlying194 (toldZero w) hc
  have HLS : Hid (lo ≤ w.heap.size) := Nat.le_of_lt (Nat.lt_of_le_of_lt hlo (Array.getElem?_eq_some_iff.1 h3).1)
  have HC : Hid (rng c) := hc
  obtain ⟨gp, hgp⟩ : ∃ x, got M c = x := ⟨_, rfl⟩
  rw [hgp] at hi L
  obtain ⟨g1, g2⟩ := gp
  simp only at hi L
  have hi2 : ¬ i < g1 := by omega
  obtain ⟨β, hβ⟩ : ∃ β, w.heap.size = β := ⟨_, rfl⟩
  have HBT : Hid (w.heap.size = β) := hβ
  generalize hd : doE l0 t E rev ps = d at *
  generalize doT l0 t E rev ps = t' at *
  generalize doL l0 t E c i rev ps = E' at *
  have hbβ : b ≠ β := fun e => Nat.lt_irrefl _ (by have := (Array.getElem?_eq_some_iff.1 h3).1; rw [hβ, ← e] at this; exact this)
  have BOX : Hid (∀ w1 w2, sameBut (w.alloc (.cells #[.int .i64 g1, .int .i64 g2] 198)) w1 (touchS lo (w.alloc (.cells #[.int .i64 g1, .int .i64 g2] 198)) bm) → isSrv lo n w1 b bm t' E' M → Below w1.heap.size w1 w2 → w2.heap[β]? = some (.cells #[.int .i64 g1, .int .i64 g2] 198 (0, 0)) ∧ w2.cell? ⟨b, 2, none⟩ = some (.map (some bm)) ∧ isSrv lo n w2 b bm t' E' M ∧ sameBut w w2 (touchS lo w bm)) := fun w1 w2 hs1 hi1 hb2 => by
    have hal := heap_alloc_new w (.cells #[.int .i64 g1, .int .i64 g2] 198)
    have hbw : Below w.heap.size w (w.alloc (.cells #[.int .i64 g1, .int .i64 g2] 198)) := (Below.refl _ _).alloc (Nat.le_refl _) _
    have hi2 := isSrv_below hi1 hb2
    have hb1 : w1.heap[β]? = some (.cells #[.int .i64 g1, .int .i64 g2] 198 (0, 0)) := by
      rw [← hβ]
      refine (hs1.2 _ (by simp) fun hk => ?_).trans hal
      rcases hk.2 with e | ⟨cs, T, hc, ht⟩
      · exact noCells_map (isLast_but (S := fun _ => False) h5 (sameBut_below hbw _) id) _ _ _ (e ▸ hal)
      · have := not_type hal hc
        subst this
        revert ht; decide
    obtain ⟨_, _, ⟨v2, e3, _⟩, _⟩ := id hi2
    refine ⟨(hb2.block β (Array.getElem?_eq_some_iff.1 hb1).1).trans hb1, Lib.cell_of_heap e3 2, hi2, ?_⟩
    refine ((sameBut_below hbw (touchS lo w bm)).comp hs1 fun k hk hS => ⟨hS.1, hS.2.imp id fun ⟨cs, T, hc, ht⟩ => ⟨cs, T, (hbw.block k hk).symm.trans hc, ht⟩⟩).comp (sameBut_below hb2 (fun _ => False)) fun _ _ h => h.elim
  clear h3 h4 h5 hgp hk hg hG hT hr hwf hl hpu hn hc hlo
  go_enter Tryz.func38, Tryz.ntmps38
  go_wp2_with (first
    | (rw [L.out])
    | (go_at_call 113; refine (CD.out _ ((Below.refl _ _).alloc (Nat.le_refl _) _)).mono ?_; rintro e w1 ⟨rfl, hs1, hb1⟩; have HS1 : Hid _ := hs1; have HB1 : Hid _ := hb1; have HGW : Hid (asLaid w1) := asLaid_same (asLaid_below HG.out.1 ((Below.refl _ _).alloc (Nat.le_refl _) _)) hb1 (fun hk => absurd hk.1 (Nat.not_le.2 HG.out.2)); clear hs1 hb1)
    | (go_at_call 27; refine (srvTell_any d _ HGW.out).mono ?_; rintro e w2 ⟨rfl, hb2⟩; obtain ⟨b1, b2, b3, b4⟩ := BOX.out _ w2 HB1.out HS1.out hb2; have B1 : Hid _ := b1; have B3 : Hid _ := b3; have B4 : Hid _ := b4; have x0 : w2.cell? ⟨β, 0, none⟩ = some (.int .i64 g1) := Lib.cell_of_heap b1 0; have x1 : w2.cell? ⟨β, 1, none⟩ = some (.int .i64 g2) := Lib.cell_of_heap b1 1; have f0 : w2.frozen? ⟨β, 0, none⟩ = false := frozen_block b1; have f1 : w2.frozen? ⟨β, 1, none⟩ = false := frozen_block b1; clear hb2 b1 b3 b4)
    | fail)
  obtain ⟨W, hW⟩ : ∃ W, W = (w2.setCell ⟨β, 0, none⟩ (.int .i64 i)).setCell ⟨β, 1, none⟩ (.int .i64 d) := ⟨_, rfl⟩
  have W3 : W.heap[β]? = some (.cells #[.int .i64 i, .int .i64 d] 198 (0, 0)) := by
    rw [hW]; exact heap_setCell_same _ β 1 _ _ _ (heap_setCell_same _ β 0 _ _ _ B1.out)
  have hsW : sameBut w2 W (fun k => k = β) := by rw [hW]; exact (sameBut_set (S := fun k => k = β) rfl).trans (sameBut_set (S := fun k => k = β) rfl)
  have hloβ : lo ≤ β := HBT.out ▸ HLS.out
  have HW : Hid (isSrv lo n W b bm t' E' M) := isSrv_other B3.out hsW fun k _ hk => by
    obtain rfl := hk
    exact ⟨hloβ, _, _, _, B1.out, by decide, by decide, by decide⟩
  rw [← hW]
  have HSW : Hid (sameBut w W (touchS lo w bm)) := sameBut.comp B4.out hsW fun k hk e => by
    have := HBT.out; omega
  have Y : ∃ v1, W.heap[b]? = some (.cells #[.string ⟨t'.toArray⟩, v1, .map (some bm)] 196 (0, 0)) := by
    obtain ⟨_, _, ⟨v1, e3, _⟩, _⟩ := HW.out; exact ⟨v1, e3⟩
  obtain ⟨v3, hY⟩ := Y
  have y2 : W.cell? ⟨b, 2, none⟩ = some (.map (some bm)) := Lib.cell_of_heap hY 2
  have z0 : W.cell? ⟨β, 0, none⟩ = some (.int .i64 i) := Lib.cell_of_heap W3 0
  have z1 : W.cell? ⟨β, 1, none⟩ = some (.int .i64 d) := Lib.cell_of_heap W3 1
  have hLd : isLast n W.drew bm M := HW.out.2.2.2
  obtain ⟨w5, hput, hl5, ht5⟩ := isLast_put hLd (by omega) (t := 194) Tryz.underlying194 HC.out i d
  have hs5 : sameBut W w5 (fun k => k = bm) := have h : sameBut W.drew w5 (fun k => k = bm) := turned_same (w := W.drew) ht5 rfl; ⟨h.1, h.2, h.os, h.tape, h.output⟩
  have hβm : β ≠ bm := fun e => noCells_map HW.out.2.2.2 _ _ _ (e ▸ W3)
  have W5 : w5.heap[β]? = some (.cells #[.int .i64 i, .int .i64 d] 198 (0, 0)) := (hs5.2 β (Array.getElem?_eq_some_iff.1 W3).1 hβm).trans W3
  have u1 : w5.cell? ⟨β, 1, none⟩ = some (.int .i64 d) := Lib.cell_of_heap W5 1
  have FIN : Hid (isSrv lo (n + 1) w5 b bm t' E' (upd M c (i, d)) ∧ sameBut w w5 (touchS lo w bm)) := by
    obtain ⟨e1, e2, ⟨v4, e3, e4⟩, e5⟩ := HW.out
    refine ⟨⟨e1, e2, ⟨v4, (hs5.2 b (Array.getElem?_eq_some_iff.1 e3).1 fun e => noCells_map e5 _ _ _ (e ▸ e3)).trans e3, isLog_but e4 hs5 fun k hk => ?_⟩, hl5⟩, sameBut.comp HSW.out hs5 fun k _ hk => by obtain rfl := hk; exact ⟨e2, .inl rfl⟩⟩
    obtain rfl := hk
    exact ⟨e2, fun cs fz => noCells_map e5 _ _ _, fun cs fz => noCells_map e5 _ _ _⟩
  have HPUT : Hid _ := hput
  clear hW W3 hsW hLd hput hl5 ht5 hs5 W5 hY x0 x1 f0 f1 b2
  by_cases hz : d = 0
  · subst hz
    rw [show errV 0 = .nilIface from rfl] at *
    go_region_with (first | (rw [HPUT.out]) | fail)
    all_goals
      go_wp2
      go_ret
      exact ⟨rfl, FIN.out⟩
  · have hz2 : (d == 0) = false := by simpa using hz
    go_region_with (first | (rw [HPUT.out]) | fail)
    all_goals
      go_wp2
      go_ret
      refine ⟨?_, FIN.out⟩
      first | rfl | (rw [errV_ne hz]; rfl)
end Go.Proofs.YtedgnlgjmnccgabGreatDoor
