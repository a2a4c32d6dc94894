/-
  rosettaref's Invert.
-/
import Derived.Test.YtbackgognkgfdaaDoorOpsRefApp
import Derived.Test.YtbackgognkgfdaaDoorOpsCheckLaw
namespace Go.Proofs.YtbackgognkgfdaaDoor
open Go.RowKit
set_option linter.unusedVariables false
attribute [local go_sem] Oper.semAt_some

theorem inv_le {ps : List Pt} {s : List UInt8} (h : fitsP ps s) : wts ((pcs ps s).map invP) ≤ 2 * (s.length : Int) + (putsP ps : Int) := by
  have h1 := inv_wts (pcs ps s) (pcs_mem ps s h)
  have h2 := pcs_len ps s h
  have h3 := congrArg List.sum (pcs_puts ps s)
  unfold putsP
  omega
/-- The parts of the first so many, taken back. -/
def ivP (ps : List Pt) (s : List UInt8) (k : Nat) : List Pt := (pcs (ps.take k) s).map invP
theorem ivP_len (ps : List Pt) (s : List UInt8) (k : Nat) (hk : k ≤ ps.length) : (ivP ps s k).length = k := by
  unfold ivP
  rw [List.length_map, pcs_length, List.length_take]
  omega
theorem ivP_snoc (ps : List Pt) (s : List UInt8) (k : Nat) (hk : k < ps.length) : ivP ps s (k + 1) = ivP ps s k ++ [invP (ps[k], (s.drop (atP (ps.take k))).take (lenP ps[k]).toNat)] := by
  unfold ivP
  rw [List.take_succ_eq_append_getElem hk, pcs_append, List.map_append, leftP_at]
  simp [pcs]
theorem cells_two (w : World) (o : Obj) (l : List Value) (t : TypeId) : ∀ j u, l[j]? = some u → ((w.alloc o).alloc (.cells l.toArray t)).cell? ((⟨w.heap.size + 1, 0, none⟩ : Addr).add j) = some u := by
  have h := cells_new (w.alloc o) l t
  rwa [World.size_alloc] at h

set_option maxRecDepth 100000 in
set_option maxHeartbeats 4000000 in
theorem refInvert_fine (v : Value) (ps : List Pt) (s : List UInt8) (w : World) (hr : opAt w v ps) (hwf : ∀ p ∈ ps, wfP p) (hsm : ∀ p ∈ ps, p.put.length < 100000000) (hl : ps.length < 10000000) (hpu : 2 * s.length + putsP ps < 10000000) (he : chkE ps (s.length : Int) = 0) (hbad : badO ps s = false) :
    Calls Tryd.prog 54 #[v, .string ⟨s.toArray⟩] w fun e w' => ∃ v', e = .returned (.tuple #[v', .int .i64 0]) ∧ opAt w' v' (invertP ps s) ∧ Below w.heap.size w w' := by
  obtain ⟨i0, hi, hz0, hz1, hz2⟩ := info_parts info_part
  have cC := refApply_any v ps s w hr hwf hsm (by omega) hl (by omega)
  have hV : ordE ps s = 0 := by unfold ordE; rw [if_pos he, hbad]; rfl
  rw [hV] at cC
  generalize (ByteArray.mk (if (0 : Int) = 0 then applyP ps s else []).toArray) = AP at cC
  have cC : Hid _ := cC
  have hz := str_size s
  obtain ⟨hfit, hleft⟩ := chkE_fits he
  have hones : ∀ p ∈ ps, soundP p ∧ (p.keep = 0 ∨ p.drop = 0) := by
    unfold chkE at he
    split at he
    · rename_i h1
      exact fun p hp => one_sound (chk1_ones h1 p hp).1
    · rename_i h1; exact absurd he h1
  have HF : Hid (fitsP ps s) := hfit
  have HO : Hid (∀ p ∈ ps, soundP p ∧ (p.keep = 0 ∨ p.drop = 0)) := hones
  have HPU : Hid (2 * s.length + putsP ps < 10000000) := hpu
  have HSM : Hid (∀ p ∈ ps, p.put.length < 100000000) := hsm
  have hs : s.length < 10000000 := by omega
  obtain ⟨p, c, rfl, r1, r2, r3⟩ := hr
  obtain ⟨n, hn⟩ : ∃ n, n = ps.length := ⟨_, rfl⟩
  have HN : Hid (n = ps.length) := hn
  rw [← hn] at r1 hl cC ⊢
  have R3 : Hid (ps ≠ [] → ∃ b o, p = some ⟨b, o, none⟩ ∧ b < w.heap.size ∧ ∀ i q, ps[i]? = some q →
    w.cell? ⟨b, o + i * 3, none⟩ = some (.int .i64 q.keep) ∧ w.cell? ⟨b, o + i * 3 + 1, none⟩ = some (.int .i64 q.drop) ∧ w.cell? ⟨b, o + i * 3 + 2, none⟩ = some (.string ⟨q.put.toArray⟩)) := r3
  clear r3 hwf hsm hpu hfit hleft he hones hn hbad hV
  go_enter Tryd.func54, Tryd.ntmps54
  go_wp2_with (first | (go_at_call 52; refine Calls.mono cC.out ?_; rintro e w1 ⟨rfl, hb1⟩) | fail)
  go_loopw [8, 9, 23] (fun x y i wr => ∃ (k : Nat), k ≤ n ∧ i = .int .i64 k ∧ y = .int .i64 (atP (ps.take k) : Nat) ∧ (∃ p' c', x = .slice p' k c') ∧ wr.ownsRow w.heap.size 151 3 x k (cellsP (ivP ps s k)) ∧ Below w.heap.size w wr) (fun _ _ i _ => n - (intOf i).toNat)
  case atStart => exact ⟨0, Nat.zero_le _, rfl, rfl, ⟨_, _, rfl⟩, World.ownsRow_nil _ _ _ _, hb1⟩
  case round =>
    obtain ⟨k, hk, rfl, rfl, ⟨pv, cv, rfl⟩, hown, hwr⟩ := hrel
    by_cases hlt : k < n
    · have hkr : k < ps.length := by rw [← HN.out]; exact hlt
      have hne : ps ≠ [] := by intro e; rw [e] at hkr; exact absurd hkr (Nat.not_lt_zero _)
      obtain ⟨b, o, rfl, hbw, hcell⟩ := R3.out hne
      obtain ⟨c0, c1, c2⟩ := hcell k ps[k] (List.getElem?_eq_getElem hkr)
      have g0 := (hwr.cell (p := ⟨b, o + k * 3, none⟩) hbw).trans c0
      have g1 := (hwr.cell (p := ⟨b, o + k * 3 + 1, none⟩) hbw).trans c1
      have g2 := (hwr.cell (p := ⟨b, o + k * 3 + 2, none⟩) hbw).trans c2
      obtain ⟨⟨s0, s1⟩, s2⟩ := HO.out ps[k] (List.getElem_mem _)
      have hA1 := fits_le ps s HF.out (k + 1)
      have ha : atP (ps.take (k + 1)) = atP (ps.take k) + (lenP ps[k]).toNat := by rw [List.take_succ_eq_append_getElem hkr, at_snoc]
      have hap := ivP_snoc ps s k hkr
      have hU := HSM.out ps[k] (List.getElem_mem _)
      generalize ps[k] = q at g0 g1 g2 s0 s1 s2 ha hap hU
      obtain ⟨K, D, U⟩ := q
      simp only [lenP] at s0 s1 s2 ha hap g0 g1 g2 hU
      have hzU := str_size U
      obtain ⟨A, hA⟩ : ∃ A, A = atP (ps.take k) := ⟨_, rfl⟩
      rw [← hA]
      rw [← hA] at ha hap
      have HI : Hid (((atP (ps.take (k + 1)) : Nat) : Int) = (A : Int) + K + D) := by show _ = _; omega
      have hK : (A : Int) + K + D ≤ s.length := by have := HI.out; omega
      obtain ⟨T, hT⟩ : ∃ T, T = (s.drop A).take (K + D).toNat := ⟨_, rfl⟩
      rw [← hT] at hap
      have HW1 : Hid (wr.ownsRow w.heap.size 151 3 (.slice pv k cv) k (cellsP (ivP ps s k))) := hown
      have HAP : Hid (ivP ps s (k + 1) = ivP ps s k ++ [invP (⟨K, D, U⟩, T)]) := hap
      have HWR : Hid (Below w.heap.size w wr) := hwr
      have hsize := hwr.size
      have HSZ : Hid (w.heap.size ≤ wr.heap.size) := hsize
      by_cases hk0 : 0 < K
      · have HIN : Hid (invP (⟨K, D, U⟩, T) = ⟨K, D, U⟩) := by show _ = _; unfold invP; rw [if_pos hk0]
        clear hcell c0 c1 c2 ha hap hA hT hA1 hown hwr
        go_wp2_with (first | (at_builtin; refine wpList_append_own_at _ rfl _ _ 84 rfl w.heap.size 151 i0 (.agg #[.int .i64 0, .int .i64 0, .string ⟨#[]⟩]) 3 32 Tryd.underlying84 hi hz0 hz1 hz2 rfl (by decide) _ _ _ rfl ((HW1.out.alloc _).alloc _) ⟨wr.heap.size + 1, 0, none⟩ 1 1 (partCells ⟨K, D, U⟩) rfl rfl (cells_two _ _ _ _) (partCells_one _) (by unfold maxLen; omega) (by omega) (by have := HSZ.out; simp; omega) ?_) | fail)
        intro v2 w2 hown2 hg2 _ _
        obtain ⟨p2, c2, rfl⟩ := own_slice hown2
        have HW2 : Hid (w2.ownsRow w.heap.size 151 3 (.slice p2 (k + 1) c2) (k + 1) (cellsP (ivP ps s (k + 1)))) := by
          show World.ownsRow _ _ _ _ _ _ _
          rw [HAP.out, HIN.out, cellsP_snoc]; exact hown2
        have hbx : w2.heap[wr.heap.size]? = some (.cells #[.int .i64 K, .int .i64 D, .string ⟨U.toArray⟩] 151 (0, 0)) :=
          (hg2.block wr.heap.size (by simp; omega) (fun e => by have := (HW1.out.lt _ e.symm).2; omega)).trans ((heap_alloc_old _ _ (by simp)).trans (heap_alloc_new _ _))
        have hs2 := hg2.size
        rw [World.size_alloc, World.size_alloc] at hs2
        have y0 : w2.cell? ⟨wr.heap.size, 0, none⟩ = some (.int .i64 K) := Lib.cell_of_heap hbx 0
        have y1 : w2.cell? ⟨wr.heap.size, 1, none⟩ = some (.int .i64 D) := Lib.cell_of_heap hbx 1
        have HB2 : Hid (Below w.heap.size w w2) := ((HWR.out.alloc HSZ.out _).alloc (by have := HSZ.out; simp; omega) _).grown hg2 (by have := HSZ.out; simp; omega) fun g hg => (HW1.out.lt g hg).1
        clear hown2 hg2 hbx g0 g1 g2
        go_wp2
        go_roundw
        case rel => exact ⟨k + 1, by omega, by go_num, by rw [HI.out, Int.add_assoc], ⟨_, _, rfl⟩, HW2.out, HB2.out⟩
        case measure => simp [intOf]; omega
      by_cases hd0 : 0 < D
      · have HIN : Hid (invP (⟨K, D, U⟩, T) = ⟨0, 0, T⟩) := by show _ = _; unfold invP; rw [if_neg hk0, if_pos hd0]
        have hX : (ByteArray.mk s.toArray).extract A ((A : Int) + D).toNat = ByteArray.mk T.toArray := by
          have e1 : ((A : Int) + D).toNat = A + D.toNat := by omega
          have e2 : (K + D).toNat = D.toNat := by omega
          apply ByteArray.ext
          apply Array.toList_inj.1
          rw [e1, cut_mid, hT, e2]
        clear hcell c0 c1 c2 ha hap hA hT hA1 hown hwr
        go_wp2_with (first | (at_builtin; refine wpList_append_own_at _ rfl _ _ 84 rfl w.heap.size 151 i0 (.agg #[.int .i64 0, .int .i64 0, .string ⟨#[]⟩]) 3 32 Tryd.underlying84 hi hz0 hz1 hz2 rfl (by decide) _ _ _ rfl ((HW1.out.alloc _).alloc _) ⟨wr.heap.size + 1, 0, none⟩ 1 1 (partCells ⟨0, 0, T⟩) rfl rfl (cells_two _ _ _ _) (partCells_one _) (by unfold maxLen; omega) (by omega) (by have := HSZ.out; simp; omega) ?_) | fail)
        intro v2 w2 hown2 hg2 _ _
        obtain ⟨p2, c2, rfl⟩ := own_slice hown2
        have HW2 : Hid (w2.ownsRow w.heap.size 151 3 (.slice p2 (k + 1) c2) (k + 1) (cellsP (ivP ps s (k + 1)))) := by
          show World.ownsRow _ _ _ _ _ _ _
          rw [HAP.out, HIN.out, cellsP_snoc]; exact hown2
        have hbx : w2.heap[wr.heap.size]? = some (.cells #[.int .i64 K, .int .i64 D, .string ⟨U.toArray⟩] 151 (0, 0)) :=
          (hg2.block wr.heap.size (by simp; omega) (fun e => by have := (HW1.out.lt _ e.symm).2; omega)).trans ((heap_alloc_old _ _ (by simp)).trans (heap_alloc_new _ _))
        have hs2 := hg2.size
        rw [World.size_alloc, World.size_alloc] at hs2
        have y0 : w2.cell? ⟨wr.heap.size, 0, none⟩ = some (.int .i64 K) := Lib.cell_of_heap hbx 0
        have y1 : w2.cell? ⟨wr.heap.size, 1, none⟩ = some (.int .i64 D) := Lib.cell_of_heap hbx 1
        have HB2 : Hid (Below w.heap.size w w2) := ((HWR.out.alloc HSZ.out _).alloc (by have := HSZ.out; simp; omega) _).grown hg2 (by have := HSZ.out; simp; omega) fun g hg => (HW1.out.lt g hg).1
        clear hown2 hg2 hbx g0 g1 g2
        go_wp2
        go_roundw
        case rel => exact ⟨k + 1, by omega, by go_num, by rw [HI.out, Int.add_assoc], ⟨_, _, rfl⟩, HW2.out, HB2.out⟩
        case measure => simp [intOf]; omega
      · have HIN : Hid (invP (⟨K, D, U⟩, T) = ⟨0, U.length, []⟩) := by show _ = _; unfold invP; rw [if_neg hk0, if_neg hd0]
        clear hcell c0 c1 c2 ha hap hA hT hA1 hown hwr
        go_wp2_with (first | (at_builtin; refine wpList_append_own_at _ rfl _ _ 84 rfl w.heap.size 151 i0 (.agg #[.int .i64 0, .int .i64 0, .string ⟨#[]⟩]) 3 32 Tryd.underlying84 hi hz0 hz1 hz2 rfl (by decide) _ _ _ rfl ((HW1.out.alloc _).alloc _) ⟨wr.heap.size + 1, 0, none⟩ 1 1 (partCells ⟨0, U.length, []⟩) rfl rfl (cells_two _ _ _ _) (partCells_one _) (by unfold maxLen; omega) (by omega) (by have := HSZ.out; simp; omega) ?_) | fail)
        intro v2 w2 hown2 hg2 _ _
        obtain ⟨p2, c2, rfl⟩ := own_slice hown2
        have HW2 : Hid (w2.ownsRow w.heap.size 151 3 (.slice p2 (k + 1) c2) (k + 1) (cellsP (ivP ps s (k + 1)))) := by
          show World.ownsRow _ _ _ _ _ _ _
          rw [HAP.out, HIN.out, cellsP_snoc]; exact hown2
        have hbx : w2.heap[wr.heap.size]? = some (.cells #[.int .i64 K, .int .i64 D, .string ⟨U.toArray⟩] 151 (0, 0)) :=
          (hg2.block wr.heap.size (by simp; omega) (fun e => by have := (HW1.out.lt _ e.symm).2; omega)).trans ((heap_alloc_old _ _ (by simp)).trans (heap_alloc_new _ _))
        have hs2 := hg2.size
        rw [World.size_alloc, World.size_alloc] at hs2
        have y0 : w2.cell? ⟨wr.heap.size, 0, none⟩ = some (.int .i64 K) := Lib.cell_of_heap hbx 0
        have y1 : w2.cell? ⟨wr.heap.size, 1, none⟩ = some (.int .i64 D) := Lib.cell_of_heap hbx 1
        have HB2 : Hid (Below w.heap.size w w2) := ((HWR.out.alloc HSZ.out _).alloc (by have := HSZ.out; simp; omega) _).grown hg2 (by have := HSZ.out; simp; omega) fun g hg => (HW1.out.lt g hg).1
        clear hown2 hg2 hbx g0 g1 g2
        go_wp2
        go_roundw
        case rel => exact ⟨k + 1, by omega, by go_num, by rw [HI.out, Int.add_assoc], ⟨_, _, rfl⟩, HW2.out, HB2.out⟩
        case measure => simp [intOf]; omega
    · have e : ps.take k = ps := List.take_of_length_le (by rw [← HN.out]; omega)
      have hkn : k = n := by omega
      have hiv : ivP ps s k = (pcs ps s).map invP := by unfold ivP; rw [e]
      have hlen := ivP_len ps s k (by rw [← HN.out]; omega)
      rw [hiv] at hown hlen
      have hle := inv_le HF.out
      have hpu := HPU.out
      have cS : Hid _ := refNorm_any (.slice pv k cv) ((pcs ps s).map invP) wr (opAt_own (by rw [hlen]; exact hown)) (inv_sound HF.out) (by omega) (by rw [hlen]; omega)
      have HWR : Hid (Below w.heap.size w wr) := hwr
      clear hown hwr e hkn hiv hlen hle hpu
      go_wp2_with (first | (go_at_call 51; refine Calls.mono cS.out ?_; rintro e w2 ⟨g, rfl, hb2, cG⟩) | (go_at_call 50; refine Calls.mono cG ?_; rintro e w3 ⟨v3, rfl, ho3, hb3⟩) | fail)
      obtain ⟨p3, c3, rfl⟩ := own_slice ho3
      go_ret2
      exact ⟨_, rfl, opAt_own ho3, (HWR.out.trans (hb2.mono HWR.out.size)).trans (hb3.mono (Nat.le_trans HWR.out.size hb2.size))⟩

set_option maxRecDepth 100000 in
set_option maxHeartbeats 2000000 in
theorem refInvert_err (v : Value) (ps : List Pt) (s : List UInt8) (w : World) (hr : opAt w v ps) (hwf : ∀ p ∈ ps, wfP p) (hsm : ∀ p ∈ ps, p.put.length < 100000000) (hl : ps.length < 10000000) (hs : s.length < 100000000) (hpu : putsP ps < 100000000) (he : ordE ps s ≠ 0) :
    Calls Tryd.prog 54 #[v, .string ⟨s.toArray⟩] w fun e w' => e = .returned (.tuple #[.slice none 0 0, .int .i64 (ordE ps s)]) ∧ Below w.heap.size w w' := by
  have cC := refApply_any v ps s w hr hwf hsm hs hl hpu
  generalize (ByteArray.mk (if ordE ps s = 0 then applyP ps s else []).toArray) = AP at cC
  have cC : Hid _ := cC
  obtain ⟨E, hE⟩ : ∃ E, ordE ps s = E := ⟨_, rfl⟩
  rw [hE] at cC he ⊢
  obtain ⟨p, c, rfl, _⟩ := hr
  clear hwf hsm hE hpu
  go_enter Tryd.func54, Tryd.ntmps54
  go_wp2_with (first | (go_at_call 52; refine Calls.mono cC.out ?_; rintro e w1 ⟨rfl, hb1⟩) | fail)
  go_ret2
  exact ⟨rfl, hb1⟩

theorem refInvert_any (v : Value) (ps : List Pt) (s : List UInt8) (w : World) (hr : opAt w v ps) (hwf : ∀ p ∈ ps, wfP p) (hsm : ∀ p ∈ ps, p.put.length < 100000000) (hl : ps.length < 10000000) (hs : s.length < 100000000) (hpu : putsP ps < 100000000) (hpf : ordE ps s = 0 → 2 * s.length + putsP ps < 10000000) :
    Calls Tryd.prog 54 #[v, .string ⟨s.toArray⟩] w fun e w' => ∃ v', e = .returned (.tuple #[v', .int .i64 (ordE ps s)]) ∧ opAt w' v' (if ordE ps s = 0 then invertP ps s else []) ∧ Below w.heap.size w w' := by
  by_cases he : ordE ps s = 0
  · have hpf := hpf he
    rw [if_pos he, he]
    have hc : chkE ps (s.length : Int) = 0 ∧ badO ps s = false := by
      unfold ordE at he
      split at he
      · rename_i h
        refine ⟨h, ?_⟩
        cases hb : badO ps s with
        | false => rfl
        | true => rw [hb] at he; simp at he
      · rename_i h; exact absurd he h
    exact refInvert_fine v ps s w hr hwf hsm hl hpf hc.1 hc.2
  · rw [if_neg he]
    exact (refInvert_err v ps s w hr hwf hsm hl hs hpu he).mono fun e w' h => ⟨_, h.1, ⟨none, 0, rfl, by simp, by simp⟩, h.2⟩
end Go.Proofs.YtbackgognkgfdaaDoor
