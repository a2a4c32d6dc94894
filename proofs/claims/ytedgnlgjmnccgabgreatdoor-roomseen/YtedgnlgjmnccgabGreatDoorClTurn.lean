/-
  client.turn: another one's operation over one's own, and these over it.
-/
import Derived.Test.YtedgnlgjmnccgabGreatDoorClLand
import Derived.Test.YtedgnlgjmnccgabGreatDoorSrvTake
namespace Go.Proofs.YtedgnlgjmnccgabGreatDoor
open Go.RowKit Go.Maps
set_option linter.unusedVariables false
attribute [local go_sem] Oper.semAt_some yieldsUpon okUpon

theorem turnM_snoc : ∀ (ms : List (List Pt)) (m x : List Pt), turnM (ms ++ [m]) x = ((turnM ms x).1 ++ [tellP (transS false m (turnM ms x).2)], tellP (transS true (turnM ms x).2 m))
  | [], m, x => rfl
  | a :: ms, m, x => by
    rw [List.cons_append, turnM, turnM_snoc ms m]
    rfl
theorem goodM_at : ∀ (ms : List (List Pt)) (t : List UInt8) (k : Nat) (hk : k < ms.length), goodM ms t → goodM (ms.take k) t ∧ good ms[k] (allM (ms.take k) t)
  | m :: ms, t, 0, _, h => ⟨trivial, h.1⟩
  | m :: ms, t, k + 1, hk, h => by
    obtain ⟨i1, i2⟩ := goodM_at ms _ k (by simpa using hk) h.2
    exact ⟨⟨h.1, i1⟩, i2⟩
/-- Where the loop stands. -/
structure tuI (lo : Nat) (w : World) (b g : Nat) (VM : Value) (ms : List (List Pt)) (x : List Pt) (CB : Obj) (k : Nat) (v1 : Value) (wr : World) : Prop where
  le : k ≤ ms.length
  blk : wr.heap[b]? = some CB
  mine : isMine lo wr VM ((turnM (ms.take k) x).1 ++ ms.drop k)
  op : opX lo wr v1 (turnM (ms.take k) x).2
  same : sameBut w wr fun j => VM.ownBlock = some j
theorem take_drop_set (A : List (List Pt)) (ms : List (List Pt)) (k : Nat) (hk : k < ms.length) (y : List Pt) (hA : A.length = k) : (A ++ ms.drop k).set k y = (A ++ [y]) ++ ms.drop (k + 1) := by
  rw [List.drop_eq_getElem_cons hk, List.set_append, if_neg (by omega), hA, Nat.sub_self, List.append_assoc]
  rfl

set_option maxRecDepth 100000 in
set_option maxHeartbeats 4000000 in
theorem clTurn_any {lo : Nat} {w : World} {b : Nat} {who u : Int} {S : Cl} (h : isCl lo w b who u S) (hk : okK 2000 S) (v : Value) (x : List Pt) (hx : opX lo w v x) (hg : good x S.seen) (hsz : S.seen.length + putsP x ≤ 500000) (hG : 2 < lo ∧ 3 < lo) (hT : Lib.Utf8Tabs 2 3 w) :
    Calls Tryz.prog 124 #[.pointer (some ⟨b, 0, none⟩), v] w fun e w' => e = .returned (.tuple #[]) ∧ isCl lo w' b who u { S with mine := (turnM S.mine x).1, doc := applyP (turnM S.mine x).2 S.doc } ∧ keptC w w' b := by
  have hlt := isCl_lt h
  obtain ⟨hlo, vm, h3, h4⟩ := h
  obtain ⟨p, c, rfl⟩ := isMine_shape h4
  obtain ⟨n, hn⟩ : ∃ n, S.mine.length = n := ⟨_, rfl⟩
  have hn2 : n ≤ 2 := by have := hk.two; omega
  rw [hn] at h3 h4
  have x4 := (cl_cells h3).2.2.2.2.1
  have HN : Hid (S.mine.length = n) := hn
  have H3 : Hid _ := h3
  have HK : Hid (okK 2000 S) := hk
  have HGX : Hid (good x S.seen) := hg
  have HSZ : Hid (S.seen.length + putsP x ≤ 500000) := hsz
  have HLO : Hid (lo ≤ b) := hlo
  have HT : Hid (Lib.Utf8Tabs 2 3 w) := hT
  have HGG : Hid _ := hG
  have H0 : Hid (tuI lo w b 0 (.slice p n c) S.mine x (.cells (clCells who u S (.slice p n c)) 203 (0, 0)) 0 v w) := ⟨Nat.zero_le _, h3, h4, hx, sameBut_refl _ _⟩
  have HMO : Hid (∀ k, (Value.slice p n c).ownBlock = some k → lo ≤ k ∧ k < w.heap.size ∧ ∃ cs, w.heap[k]? = some (.cells cs 23 (0, 0))) := fun k hk => mine_own h4 hk
  obtain ⟨pv, cv, rfl⟩ := opX_shape hx
  have hni : (n : Int) ≤ 2 := by omega
  generalize x.length = xn at *
  clear h3 h4 hn hk hg hsz hlo hT hx hG
  go_enter Tryz.func124, Tryz.ntmps124
  go_wp2
  go_loopw [1, 13] (fun v1 i wr => ∃ k : Nat, i = .int .i64 k ∧ tuI lo w b 0 (.slice p n c) S.mine x (.cells (clCells who u S (.slice p n c)) 203 (0, 0)) k v1 wr) (fun _ i _ => n - (intOf i).toNat)
  case atStart => exact ⟨0, rfl, H0.out⟩
  case round =>
    obtain ⟨k, rfl, hI⟩ := hrel
    have HI : Hid _ := hI
    have hkn : k ≤ n := by have := hI.le; have := HN.out; omega
    obtain ⟨pv1, cv1, hv1⟩ := opX_shape hI.op
    subst hv1
    generalize (turnM (S.mine.take k) x).2.length = xl at *
    clear H0
    by_cases hlt' : k < n
    · have hkr : k < S.mine.length := by rw [HN.out]; exact hlt'
      have hmn := hI.mine
      have htl : (S.mine.take k).length = k := by rw [List.length_take]; omega
      have hAl : (turnM (S.mine.take k) x).1.length = k := by rw [turnM_len, htl]
      obtain ⟨vs, q1, q2, q3⟩ := hmn
      have hll : ((turnM (S.mine.take k) x).1 ++ S.mine.drop k).length = n := by rw [List.length_append, hAl, List.length_drop, HN.out]; omega
      obtain ⟨g, rfl⟩ : ∃ g, p = some ⟨g, 0, none⟩ := by
        rcases q2.2 with ⟨_, e⟩ | ⟨g, cap, cur, e, _⟩
        · rw [hll] at e; omega
        · injection e with e1 _ _; exact ⟨g, e1⟩
      have hgm := HMO.out g rfl
      have hgb : g ≠ b := fun e => by
        obtain ⟨_, _, cs, hc⟩ := hgm
        subst e
        have := not_type H3.out hc
        revert this; decide
      have hvk : k < vs.length := by rw [q1, hll]; omega
      have hok : opX lo wr vs[k] S.mine[k] := q3 k S.mine[k] vs[k] (by rw [List.getElem?_append_right (by omega), hAl, Nat.sub_self, List.getElem?_drop, Nat.add_zero]; exact List.getElem?_eq_getElem hkr) (List.getElem?_eq_getElem hvk)
      have hck : wr.cell? ⟨g, k, none⟩ = some vs[k] := by
        rw [hll] at q2
        rw [World.ownsRow.cellAt q2 k (by omega)]; exact List.getElem?_eq_getElem hvk
      obtain ⟨gA, gm⟩ := goodM_at S.mine S.seen k hkr HK.out.all
      obtain ⟨_, gX, _⟩ := turnM_good (S.mine.take k) x S.seen HGX.out gA
      have hpA : ∀ m ∈ S.mine.take k, putsP m ≤ 2000 := fun m hm => HK.out.puts m (List.mem_of_mem_take hm)
      have hsz := HSZ.out
      have hpx := (turnM_puts 2000 (S.mine.take k) x S.seen HGX.out gA hpA (by rw [htl]; omega) (by omega)).2
      have hTl := allM_len 2000 (S.mine.take k) S.seen gA hpA
      rw [htl] at hTl
      have hpm := HK.out.puts S.mine[k] (List.getElem_mem hkr)
      have hTr : Lib.Utf8Tabs 2 3 wr := tabs_same HT.out hI.same (fun e => by have := (HMO.out _ e).1; have := HGG.out.1; omega) (fun e => by have := (HMO.out _ e).1; have := HGG.out.2; omega)
      obtain ⟨X, hX⟩ : ∃ X, (turnM (S.mine.take k) x).2 = X := ⟨_, rfl⟩
      obtain ⟨mk, hmk⟩ : ∃ mk, S.mine[k] = mk := ⟨_, rfl⟩
      have hop := hI.op
      rw [hX] at gX hpx hop
      rw [hmk] at gm hpm hok
      have CT1 : Hid (∀ wx, Below wr.heap.size wr wx → Calls Tryz.prog 187 #[.slice pv1 xl cv1, vs[k], .bool true] wx fun e w' => ∃ v', e = .returned (.tuple #[v', .nilIface]) ∧ opN wx.heap.size w' v' (tellP (transS true X mk)) ∧ Below wx.heap.size wx w') := fun wx hb => kTransN _ _ true X mk _ wx (Go.Proofs.Utf8Tabs_below hTr hb) (opX_grown hop hb).1 (opX_grown hok hb).1 gX gm (by omega) (by omega)
      have CT2 : Hid (∀ wx, Below wr.heap.size wr wx → Calls Tryz.prog 187 #[vs[k], .slice pv1 xl cv1, .bool false] wx fun e w' => ∃ v', e = .returned (.tuple #[v', .nilIface]) ∧ opN wx.heap.size w' v' (tellP (transS false mk X)) ∧ Below wx.heap.size wx w') := fun wx hb => kTransN _ _ false mk X _ wx (Go.Proofs.Utf8Tabs_below hTr hb) (opX_grown hok hb).1 (opX_grown hop hb).1 gm gX (by omega) (by omega)
      have HTK : Hid (turnM (S.mine.take (k + 1)) x = ((turnM (S.mine.take k) x).1 ++ [tellP (transS false mk X)], tellP (transS true X mk))) := by
        show _ = _
        rw [List.take_succ_eq_append_getElem hkr, turnM_snoc, hX, hmk]
      have HSET : Hid (∀ y, ((turnM (S.mine.take k) x).1 ++ S.mine.drop k).set k y = ((turnM (S.mine.take k) x).1 ++ [y]) ++ S.mine.drop (k + 1)) := fun y => take_drop_set _ _ k hkr y hAl
      generalize hXv : vs[k] = xv at *
      obtain ⟨pk, ck, rfl⟩ := opX_shape hok
      generalize tellP (transS true X mk) = Y1 at *
      generalize tellP (transS false mk X) = Y2 at *
      have HMN : Hid _ := hI.mine
      have HBK : Hid (wr.heap[b]? = some (.cells (clCells who u S (.slice (some ⟨g, 0, none⟩) n c)) 203 (0, 0))) := hI.blk
      have HSM : Hid _ := hI.same
      have HGM : Hid _ := hgm
      have HLL : Hid (k + 1 ≤ S.mine.length) := hkr
      have hki : (k : Int) < (n : Int) := by omega
      have w4 := (cl_cells hI.blk).2.2.2.2.1
      have hglr : g < wr.heap.size := Nat.lt_of_lt_of_le hgm.2.1 hI.same.size
      have hblr : b < wr.heap.size := Nat.lt_of_lt_of_le hlt hI.same.size
      have hcn : n ≤ c ∧ c ≤ maxLen := by
        rw [hll] at q2
        rcases q2.2 with ⟨e, _⟩ | ⟨g', cap, cur, e, _, _, e5, e6, _⟩
        · cases e
        · injection e with _ _ e; subst e; exact ⟨e5, e6⟩
      obtain ⟨hcn, hcm⟩ := hcn
      unfold maxLen at hcm
      generalize mk.length = ml at *
      clear hI HI q1 q2 q3 hvk hok gA gm gX hpA hsz hpx hTl hpm hTr hX hmk hop hXv htl hAl hll hkr hgm
      go_wp2_with (first
        | (go_at_call 187; refine (CT1.out _ (Below.refl _ _)).mono ?_; rintro e w5 ⟨v5, rfl, hn5, hb5⟩; obtain ⟨p5, c5, rfl⟩ := opN_shape hn5; have HN5 : Hid _ := hn5; have HB5 : Hid (Below wr.heap.size wr w5) := hb5; have u4 := ((hb5.cell (p := ⟨b, 4, none⟩) hblr).trans w4); clear hn5 hb5)
        | fail)
      have hB5 := HB5.out
      refine wp_region_set (fun wx : World => wx.heap[b]? = some (.cells (clCells who u S (.slice (some ⟨g, 0, none⟩) n c)) 203 (0, 0))) 13 13 (by kernel_rfl) rfl ?_
      intro w30 hb30
      have hb5A := hB5.trans (hb30.mono hB5.size)
      have hz0 : w30.heap[b]? = some (.cells (clCells who u S (.slice (some ⟨g, 0, none⟩) n c)) 203 (0, 0)) := (hb5A.block b hblr).trans HBK.out
      obtain ⟨G, hG⟩ := exists_growZ (Z := fun wx : World => wx.heap[b]? = some (.cells (clCells who u S (.slice (some ⟨g, 0, none⟩) n c)) 203 (0, 0))) hz0 (fun {w w'} h hb => (hb.block b (Array.getElem?_eq_some_iff.1 h).1).trans h)
      have y4 : ∀ x, (G x).cell? ⟨b, 4, none⟩ = some (.slice (some ⟨g, 0, none⟩) n c) := fun x => (cl_cells (hG.but x)).2.2.2.2.1
      (refine anyZ_step hG hz0 (i := 0) rfl (by kernel_rfl) (by kernel_rfl) (by kernel_rfl) (fun K hK => ?_); go_simp; refine hK _ ?_; clear hK K)
      (refine anyZ_step hG hz0 (i := 1) rfl (by kernel_rfl) (by kernel_rfl) (by kernel_rfl) (fun K hK => ?_); go_simp; refine hK _ ?_; clear hK K)
      (refine anyZ_step hG hz0 (i := 2) rfl (by kernel_rfl) (by kernel_rfl) (by kernel_rfl) (fun K hK => ?_); go_simp; refine hK _ ?_; clear hK K)
      (refine anyZ_step hG hz0 (i := 3) rfl (by kernel_rfl) (by kernel_rfl) (by kernel_rfl) (fun K hK => ?_); go_simp; refine hK _ ?_; clear hK K)
      (refine anyZ_step hG hz0 (i := 4) rfl (by kernel_rfl) (by kernel_rfl) (by kernel_rfl) (fun K hK => ?_); go_simp; refine hK _ ?_; clear hK K)
      (refine anyZ_step hG hz0 (i := 5) rfl (by kernel_rfl) (by kernel_rfl) (by kernel_rfl) (fun K hK => ?_); go_simp; refine hK _ ?_; clear hK K)
      (refine anyZ_step hG hz0 (i := 6) rfl (by kernel_rfl) (by kernel_rfl) (by kernel_rfl) (fun K hK => ?_); go_simp; refine hK _ ?_; clear hK K)
      clear y4
      refine anyZ_one (i := 7) (by kernel_rfl) ⟨_, rfl, ?_⟩
      intro w31 hb31 K hK
      go_simp
      have hb5B := hb5A.trans (hb31.mono hb5A.size)
      refine (CT2.out w31 hb5B).mono ?_
      rintro e w32 ⟨v', rfl, hn6, hb32⟩
      obtain ⟨p6, c6, rfl⟩ := opN_shape hn6
      have HN6 : Hid _ := hn6
      have hz2 : w32.heap[b]? = some (.cells (clCells who u S (.slice (some ⟨g, 0, none⟩) n c)) 203 (0, 0)) := ((hb5B.trans (hb32.mono hb5B.size)).block b hblr).trans HBK.out
      refine ⟨_, rfl, hK _ _ (fun _ => hz2) ?_⟩
      clear hK K hn6 hz0
      (refine anyZ_step hG hz2 (i := 8) rfl (by kernel_rfl) (by kernel_rfl) (by kernel_rfl) (fun K hK => ?_); go_simp; refine hK _ ?_; clear hK K)
      (refine anyZ_step hG hz2 (i := 9) rfl (by kernel_rfl) (by kernel_rfl) (by kernel_rfl) (fun K hK => ?_); go_simp; refine hK _ ?_; clear hK K)
      (refine anyZ_step hG hz2 (i := 10) rfl (by kernel_rfl) (by kernel_rfl) (by kernel_rfl) (fun K hK => ?_); go_simp; refine hK _ ?_; clear hK K)
      (refine anyZ_step hG hz2 (i := 11) rfl (by kernel_rfl) (by kernel_rfl) (by kernel_rfl) (fun K hK => ?_); go_simp; refine hK _ ?_; clear hK K)
      clear hG hz2
      refine anyZ_one (i := 12) (by kernel_rfl) ⟨_, rfl, ?_⟩
      intro w33 hb33 K hK
      have hb5C := hb5B.trans (hb32.mono hb5B.size)
      have hbA : Below wr.heap.size wr w33 := hb5C.trans (hb33.mono hb5C.size)
      have hA3 := (hbA.block b hblr).trans HBK.out
      have HA4 : Hid _ := isMine_below HMN.out hbA
      have hgr : ∃ cs, w33.heap[g]? = some (.cells cs 23 (0, 0)) := by obtain ⟨_, _, e⟩ := mine_own HA4.out (k := g) rfl; exact e
      obtain ⟨cs, hcs⟩ := hgr
      have zr := (hbA.cell (p := ⟨g, k, none⟩) hglr).trans hck
      have zf : w33.frozen? ⟨g, k, none⟩ = false := frozen_block hcs
      have HN33 : Hid (opX lo w33 (.slice p6 Y2.length c6) Y2) := opX_grown (opX_of_new HN6.out) hb33
      have HO33 : Hid (opX lo w33 (.slice p5 Y1.length c5) Y1) := opX_grown (opX_of_new HN5.out) (hb30.trans ((hb31.trans ((hb32.trans (hb33.mono hb32.size)).mono hb31.size)).mono hb30.size))
      have HA3 : Hid _ := hA3
      have HBA : Hid (Below wr.heap.size wr w33) := hbA
      clear hbA hA3 hb30 hb31 hb32 hb33 hcs hb5A hb5B hb5C hB5
      go_simp
      refine hK _ _ (fun _ => ?_) ?_
      · exact (Below.heap_setCell w33 ⟨g, k, none⟩ _ b (fun e => hgb e.symm)).trans HA3.out
      clear hK K
      refine anyZ_end (by kernel_rfl) ?_
      intro w34 hb34
      obtain ⟨vs', r1, r2, r3⟩ := HA4.out
      obtain ⟨s1, s2⟩ := mine_put r1 r2 r3 HN33.out k
      rw [HSET.out] at s1
      have hbn := (s2.2 b (Array.getElem?_eq_some_iff.1 HA3.out).1 fun e => hgb (Option.some.inj e)).trans HA3.out
      have FIN : Hid (tuI lo w b 0 (.slice (some ⟨g, 0, none⟩) n c) S.mine x (.cells (clCells who u S (.slice (some ⟨g, 0, none⟩) n c)) 203 (0, 0)) (k + 1) (.slice p5 Y1.length c5) w34) := by
        refine ⟨HLL.out, (hb34.block b (Array.getElem?_eq_some_iff.1 hbn).1).trans hbn, ?_, ?_, ?_⟩
        · rw [HTK.out]; exact isMine_below s1 hb34
        · rw [HTK.out]
          exact opX_grown (opX_same HO33.out s2 fun j _ hj => by
            obtain rfl : g = j := Option.some.inj hj
            obtain ⟨e1, _, cs', e3⟩ := HGM.out
            obtain ⟨_, _, cs'', e4⟩ := mine_own HA4.out (k := g) rfl
            exact ⟨e1, noPart_of e4 (by decide)⟩) hb34
        · exact ((HSM.out.trans (sameBut_below HBA.out _)).trans s2).trans (sameBut_below hb34 _)
      have HLT2 : Hid (k < n) := hlt'
      clear r1 r2 r3 s1 s2 hbn hb34 zr zf
      go_wp2
      go_roundw
      case rel => exact ⟨k + 1, by go_num, FIN.out⟩
      case measure => have := HLT2.out; simp [intOf]; omega
    · obtain rfl : k = n := by omega
      have htk : S.mine.take k = S.mine := List.take_of_length_le (by rw [HN.out]; exact Nat.le_refl _)
      have hop := hI.op
      have hmn := hI.mine
      rw [htk] at hop hmn
      have hdr : S.mine.drop k = [] := List.drop_of_length_le (by rw [HN.out]; exact Nat.le_refl _)
      rw [hdr, List.append_nil] at hmn
      obtain ⟨_, gX, _⟩ := turnM_good S.mine x S.seen HGX.out HK.out.all
      have hsz := HSZ.out
      have hpx := (turnM_puts 2000 S.mine x S.seen HGX.out HK.out.all HK.out.puts (by rw [HN.out]; omega) (by omega)).2
      have hTl := allM_len 2000 S.mine S.seen HK.out.all HK.out.puts
      rw [HN.out] at hTl
      rw [← HK.out.doc] at gX hTl
      have hTr : Lib.Utf8Tabs 2 3 wr := tabs_same HT.out hI.same (fun e => by have := (HMO.out _ e).1; have := HGG.out.1; omega) (fun e => by have := (HMO.out _ e).1; have := HGG.out.2; omega)
      obtain ⟨X, hX⟩ : ∃ X, (turnM S.mine x).2 = X := ⟨_, rfl⟩
      rw [hX] at gX hpx hop
      have HXX : Hid ((turnM S.mine x).2 = X) := hX
      have CA : Hid _ := kApply _ X S.doc wr hTr hop.1 gX (by omega)
      have hblr : b < wr.heap.size := Nat.lt_of_lt_of_le hlt hI.same.size
      have w5' := (cl_cells hI.blk).2.2.2.2.2.1
      have HMN : Hid _ := hmn
      have HBK : Hid (wr.heap[b]? = some (.cells (clCells who u S (.slice p k c)) 203 (0, 0))) := hI.blk
      have HSM : Hid _ := hI.same
      have hki : ¬ ((k : Int) < (k : Int)) := by omega
      clear hI HI gX hop hmn htk hdr hsz hpx hTl hTr hX
      go_wp2_with (first
        | (go_at_call 29; refine Calls.mono CA.out ?_; rintro e w2 ⟨rfl, hb2⟩; have HB2 : Hid (Below wr.heap.size wr w2) := hb2; have hbk2 := (hb2.block b hblr).trans HBK.out; have HBK2 : Hid _ := hbk2; have u5 := (cl_cells hbk2).2.2.2.2.2.1; have uf : w2.frozen? ⟨b, 5, none⟩ = false := frozen_block hbk2; clear hb2 hbk2)
        | fail)
      go_end0
      refine ⟨rfl, ?_⟩
      rw [HXX.out]
      have b1 := heap_setCell_same w2 b 5 _ _ (.string ⟨(applyP X S.doc).toArray⟩) HBK2.out
      have hs1 : sameBut w2 (w2.setCell ⟨b, 5, none⟩ (.string ⟨(applyP X S.doc).toArray⟩)) (fun k => k = b) := sameBut_set (S := fun k => k = b) rfl
      refine isCl_mk HLO.out H3.out b1 (isMine_but (isMine_below HMN.out HB2.out) hs1 (fun j _ hj => by obtain rfl := hj; exact ⟨HLO.out, noPart_of HBK2.out (by decide)⟩) fun j hj e => ?_) ?_ fun j hj => .inl hj
      · obtain ⟨_, _, cs, hc⟩ := HMO.out j hj
        subst e
        have := not_type H3.out hc
        revert this; decide
      · exact ((HSM.out.mono fun j _ e => .inr e).trans (sameBut_below HB2.out _)).comp hs1 fun j _ e => .inl e
end Go.Proofs.YtedgnlgjmnccgabGreatDoor
