/-
  slices.Delete of one packet of an own row.
-/
import Derived.Test.YtedgnlgjmnccgabGreatDoorRoomPush
import Derived.Test.YtedgnlgjmnccgabGreatDoorClDel
namespace Go.Proofs.YtedgnlgjmnccgabGreatDoor
open Go.RowKit Go.Maps
set_option linter.unusedVariables false
attribute [local go_sem] Oper.semAt_some yieldsUpon okUpon

theorem own_beyond {w : World} {lo e size g m cap : Nat} {xs : List Value} (h : w.ownsRow lo e size (.slice (some ⟨g, 0, none⟩) m cap) m xs) {o : Nat} (ho : m * size ≤ o) (v : Value) : (w.setCell ⟨g, o, none⟩ v).ownsRow lo e size (.slice (some ⟨g, 0, none⟩) m cap) m xs := by
  obtain ⟨h0, hrow⟩ := h
  rcases hrow with ⟨e, _⟩ | ⟨g', cap', cur, e, h3, h4, h5, h6, h7, h8⟩
  · cases e
  · injection e with e1 _ e3
    injection e1 with e1
    injection e1 with e1
    subst e1 e3
    refine ⟨h0, .inr ⟨g, cap, _, rfl, h3, heap_setCell_same w g o cur _ v h4, h5, h6, ?_, ?_⟩⟩
    · rw [Array.size_setIfInBounds]; exact h7
    · rw [Array.toList_setIfInBounds, List.take_set_of_le ho]; exact h8
theorem own_beyonds {lo e size g m cap : Nat} {xs : List Value} : ∀ (vs : List Value) (w : World) (o : Nat), w.ownsRow lo e size (.slice (some ⟨g, 0, none⟩) m cap) m xs → m * size ≤ o → (w.setCells g o vs).ownsRow lo e size (.slice (some ⟨g, 0, none⟩) m cap) m xs
  | [], _, _, h, _ => h
  | v :: vs, w, o, h, ho => own_beyonds vs _ (o + 1) (own_beyond h ho v) (by omega)
theorem same_setCells {g : Nat} : ∀ (vs : List Value) (w : World) (o : Nat), sameBut w (w.setCells g o vs) fun k => k = g
  | [], w, o => sameBut_refl _ _
  | v :: vs, w, o => (sameBut_set (S := fun k => k = g) rfl).trans (same_setCells vs _ (o + 1))
def zeroPk : List Value := [.int .i64 0, .int .i64 0, .int .i64 0, .int .i64 0, .int .i64 0, .int .i64 0, .slice none 0 0]
theorem run_clear_pk (P : Program) (w : World) (t e ty : TypeId) (ht : P.underlying t = some (.slice e)) (hv : (zeroValue e).run P w = .ok (.agg #[.int .i64 0, .int .i64 0, .int .i64 0, .int .i64 0, .int .i64 0, .int .i64 0, .slice none 0 0]) w) (b o c : Nat)
    (hc : ∀ j, j < 7 → (w.cell? ⟨b, o + j, none⟩).isSome = true) (hf : ∀ j, j < 7 → w.frozen? ⟨b, o + j, none⟩ = false) :
    (Builtin.clear_ #[t] ty #[.slice (some ⟨b, o, none⟩) 1 c]).run P w = .ok (.tuple #[]) (w.setCells b o zeroPk) := by
  have hzc : (Builtin.zeroCells (Value.cells (.agg #[.int .i64 0, .int .i64 0, .int .i64 0, .int .i64 0, .int .i64 0, .int .i64 0, .slice none 0 0])) 1).toList = zeroPk := by kernel_rfl
  have hst := run_storeCells_cells (P := P) b o zeroPk 0 w (by simpa [zeroPk] using hc) (by simpa [zeroPk] using hf) (by intro v hv'; simp only [zeroPk, List.mem_cons, List.not_mem_nil, or_false] at hv'; rcases hv' with rfl | rfl | rfl | rfl | rfl | rfl | rfl <;> rfl)
  simp only [Nat.add_zero] at hst
  simp [Builtin.clear_, run_underlying ht, hv, hzc, hst]
theorem pks_row {e lo : Nat} {w : World} {p : Option Addr} {n c : Nat} {ps : List Pk} (h : isPks e lo w (.slice p n c) ps) (hne : ps ≠ []) : ∃ g vs, p = some ⟨g, 0, none⟩ ∧ n = ps.length ∧ vs.length = ps.length ∧ (∀ (i : Nat) (x : Pk) (v : Value), ps[i]? = some x → vs[i]? = some v → opX lo w v x.x.op) ∧ lo ≤ g ∧ g < w.heap.size ∧ ps.length ≤ c ∧ c ≤ maxLen ∧ ∃ cur, w.heap[g]? = some (.cells cur e (0, 0)) ∧ cur.size = c * 7 ∧ cur.toList.take (ps.length * 7) = pkC ps vs := by
  obtain ⟨vs, h1, ⟨h0, hrow⟩, h3⟩ := h
  rcases hrow with ⟨_, hz⟩ | ⟨g, cap, cur, hv, h4, h5, h6, h7, h8, h9⟩
  · exact absurd (List.eq_nil_of_length_eq_zero hz) hne
  · injection hv with hp hn hc
    subst hp hn hc
    exact ⟨g, vs, rfl, rfl, h1, h3, h4, (Array.getElem?_eq_some_iff.1 h5).1, h6, h7, cur, h5, h8, h9⟩
theorem info_packetz : (Tryz.prog.info? 219).map (·.zero) = some (some (.agg #[.int .i64 0, .int .i64 0, .int .i64 0, .int .i64 0, .int .i64 0, .int .i64 0, .slice none 0 0])) := by kernel_rfl
theorem pkC_one {lo : Nat} {w : World} : ∀ {ps : List Pk} {vs : List Value}, (∀ (i : Nat) (x : Pk) (v : Value), ps[i]? = some x → vs[i]? = some v → opX lo w v x.x.op) → vs.length = ps.length → ∀ u ∈ pkC ps vs, u.oneCell' = true
  | [], _, _, _, u, hu => by simp [pkC] at hu
  | _ :: _, [], _, h, u, hu => by simp at h
  | p :: ps, v :: vs, h, hl, u, hu => by
    have e : pkC (p :: ps) (v :: vs) = pkCells p v ++ pkC ps vs := rfl
    rw [e] at hu
    rcases List.mem_append.1 hu with hu | hu
    · obtain ⟨q, c, rfl⟩ := opX_shape (h 0 p v rfl rfl)
      exact pkCells_one p q _ c u hu
    · exact pkC_one (fun i x v hx hv => h (i + 1) x v (by simpa using hx) (by simpa using hv)) (by simpa using hl) u hu
set_option maxRecDepth 100000 in
set_option maxHeartbeats 2000000 in
theorem delPk {lo : Nat} {w : World} {p : Option Addr} {c : Nat} {ps : List Pk} (h : isPks 219 lo w (.slice p ps.length c) ps) {i : Nat} (hi : i < ps.length) (hm : ps.length ≤ 1000) :
    Calls Tryz.prog 191 #[.slice p ps.length c, .int .i64 (i : Int), .int .i64 ((i : Int) + 1)] w fun e w' => e = .returned (.slice p (ps.length - 1) c) ∧ isPks 219 lo w' (.slice p (ps.length - 1) c) (ps.eraseIdx i) ∧ w.grownBy w' (Value.slice p ps.length c).ownBlock := by
  have hne : ps ≠ [] := fun e => by rw [e] at hi; exact absurd hi (Nat.not_lt_zero _)
  obtain ⟨g, vs, rfl, _, hvs, hop, hlg, hgl, hnc, hcm, cur, hcur, hcs, htk⟩ := pks_row h hne
  unfold maxLen at hcm
  have HH : Hid _ := h
  obtain ⟨n, hn⟩ : ∃ n, ps.length = n := ⟨_, rfl⟩
  rw [hn] at hi hm hnc hvs htk ⊢
  have HN : Hid (ps.length = n) := hn
  have h1 : (i : Int) < (n : Int) := by omega
  have h2 : (n : Int) ≤ 1000 := by omega
  have h3 : (n : Int) ≤ (c : Int) := by omega
  have h4 : (c : Int) ≤ 9223372036854775807 := by omega
  by_cases hcj : c = i + 1
  · subst hcj
    have HNI : Hid (n = i + 1) := by show n = i + 1; omega
    clear h3 h4
    have hz := zero_of (z := .agg #[.int .i64 0, .int .i64 0, .int .i64 0, .int .i64 0, .int .i64 0, .int .i64 0, .slice none 0 0]) (t := 219) info_packetz
    have CLR : Hid (∀ (W : World) (ty : TypeId) (cc : Nat), (∃ cur', W.heap[g]? = some (.cells cur' 219 (0, 0)) ∧ cur'.size = (i + 1) * 7) → (Builtin.clear_ #[213] ty #[.slice (some ⟨g, i * 7, none⟩) 1 cc]).run Tryz.prog W = .ok (.tuple #[]) (W.setCells g (i * 7) zeroPk)) := fun W ty cc ⟨cur', e1, e2⟩ => by
      refine run_clear_pk Tryz.prog W _ _ ty Tryz.underlying213 (hz W) g _ cc (fun j hj => ?_) fun j hj => frozen_block e1
      have hl : i * 7 + j < cur'.size := by rw [e2]; have := HNI.out; omega
      rw [Lib.cell_of_heap e1, Array.getElem?_eq_getElem hl]; rfl
    have HQ : Hid (n = i + 1) := HNI.out
    obtain ⟨i0, hi0, hq0, hq1, hq2⟩ := info_parts info_packet
    have hg0 : (Value.slice (some ⟨g, 0, none⟩) n (i + 1)).ownBlock = some g := rfl
    rw [hg0]
    have HCUR : Hid _ := hcur
    have HCS : Hid _ := hcs
    have HTK : Hid _ := htk
    have HVS : Hid (vs.length = n) := hvs
    have HOP : Hid _ := hop
    have HLG : Hid (lo ≤ g ∧ g < w.heap.size) := ⟨hlg, hgl⟩
    clear h hne hop hcur hcs htk hvs hlg hgl hz 
    have n1 : i ≤ (i + 1) := by omega
    have n2 : i + 1 ≤ n := by omega
    have m0 : (0 : Int) ≤ (i : Int) := by omega
    have m1 : (0 : Int) ≤ (i : Int) + 1 := by omega
    have m2 : (i : Int) + 1 ≤ (n : Int) := by omega
    have m3 : (i : Int) ≤ (i : Int) + 1 := by omega
    go_enter Tryz.func191, Tryz.ntmps191
    go_wp2
    refine wp_region_set (fun _ : World => True) 8 8 (by kernel_rfl) rfl ?_
    intro w30 hb30
    obtain ⟨G, hG⟩ := exists_growZ (Z := fun _ : World => True) (W := w) trivial (fun _ _ => trivial)
    (refine anyZ_step hG trivial (i := 0) rfl (by kernel_rfl) (by kernel_rfl) (by kernel_rfl) (fun K hK => ?_); go_simp; refine hK _ ?_; clear hK K)
    (refine anyZ_step hG trivial (i := 1) rfl (by kernel_rfl) (by kernel_rfl) (by kernel_rfl) (fun K hK => ?_); go_simp; refine hK _ ?_; clear hK K)
    (refine anyZ_step hG trivial (i := 2) rfl (by kernel_rfl) (by kernel_rfl) (by kernel_rfl) (fun K hK => ?_); go_simp; refine hK _ ?_; clear hK K)
    (refine anyZ_step hG trivial (i := 3) rfl (by kernel_rfl) (by kernel_rfl) (by kernel_rfl) (fun K hK => ?_); go_simp; refine hK _ ?_; clear hK K)
    (refine anyZ_step hG trivial (i := 4) rfl (by kernel_rfl) (by kernel_rfl) (by kernel_rfl) (fun K hK => ?_); go_simp; refine hK _ ?_; clear hK K)
    (refine anyZ_step hG trivial (i := 5) rfl (by kernel_rfl) (by kernel_rfl) (by kernel_rfl) (fun K hK => ?_); go_simp; refine hK _ ?_; clear hK K)
    clear hG
    refine anyZ_one (i := 6) (by kernel_rfl) ⟨_, rfl, ?_⟩
    intro w31 hb31 K hK
    have hbA := hb30.trans (hb31.mono hb30.size)
    have HBA : Hid (Below w.heap.size w w31) := hbA
    have hcur31 := (hbA.block g HLG.out.2).trans HCUR.out
    have hown : w31.ownsRow lo 219 7 (.slice (some ⟨g, 0, none⟩) i (i + 1)) i (pkC (ps.take i) (vs.take i)) := by
      refine ⟨by rw [pkC_len _ _ (by rw [List.length_take, List.length_take, HVS.out, HN.out]), List.length_take, HN.out, Nat.min_eq_left (Nat.le_of_lt hi)], .inr ⟨g, (i + 1), cur, rfl, HLG.out.1, hcur31, by omega, by unfold maxLen; omega, HCS.out, ?_⟩⟩
      have e : (cur.toList.take (n * 7)).take (i * 7) = (pkC ps vs).take (i * 7) := by rw [HTK.out]
      rw [List.take_take, Nat.min_eq_left (by omega), pkC_take ps vs i (by rw [HVS.out, HN.out])] at e
      exact e
    have hnews : ∀ (j : Nat) (u : Value), (pkC (ps.drop (i + 1)) (vs.drop (i + 1)))[j]? = some u → w31.cell? ((⟨g, 0, none⟩ : Addr).add j) = some u := fun j u hj => by
      have e0 : ps.drop (i + 1) = [] := List.drop_eq_nil_of_le (by rw [HN.out, HNI.out]; omega)
      rw [e0] at hj
      simp [pkC] at hj
    obtain ⟨w', hrun, hown', hgr⟩ := run_append_fits (P := Tryz.prog) w31 lo 213 213 219 i0 7 Tryz.underlying213 hi0 hq1 g i (i + 1) (pkC (ps.take i) (vs.take i)) hown ⟨g, 0, none⟩ 0 ((i + 1) - (i + 1)) (pkC (ps.drop (i + 1)) (vs.drop (i + 1))) (by rw [pkC_len _ _ (by rw [List.length_drop, List.length_drop, HVS.out, HN.out]), List.length_drop, HN.out] <;> omega) hnews (fun u hu => pkC_one HOP.out (by rw [HVS.out, HN.out]) u (List.mem_of_mem_drop (by rw [← pkC_drop ps vs (i + 1) (by rw [HVS.out, HN.out])] at hu; exact hu))) (by omega)
    refine ask_append rfl rfl rfl rfl (by first | exact hrun | (simpa using hrun)) ?_
    refine hK _ _ (fun _ => trivial) ?_
    clear hK K
    refine anyZ_one (i := 7) (by kernel_rfl) ⟨_, rfl, ?_⟩
    intro w32 hb32 K hK
    go_simp
    refine hK _ _ (fun _ => trivial) ?_
    clear hK K
    refine anyZ_end (by kernel_rfl) ?_
    intro w33 hb33
    have hb23 := hb32.trans (hb33.mono hb32.size)
    have HB23 : Hid (Below w'.heap.size w' w33) := hb23
    have hrow33 := own_below hown' hb23
    have HROW : Hid _ := hrow33
    have hc33 : ∃ cur', w33.heap[g]? = some (.cells cur' 219 (0, 0)) ∧ cur'.size = (i + 1) * 7 := by
      rcases hrow33.2 with ⟨e, _⟩ | ⟨g', cap', cur', e, _, e4, _, _, e7, _⟩
      · cases e
      · injection e with e1 _ e3
        injection e1 with e1
        injection e1 with e1
        subst e1
        exact ⟨cur', e4, by rw [e7, ← e3]⟩
    have hclr := fun ty cc => CLR.out w33 ty cc hc33
    have HG31 : Hid _ := hgr
    have HSM : Hid (sameBut w (w33.setCells g (i * 7) zeroPk) fun k => k = g) := ((sameBut_below HBA.out _).trans (sameBut_grown (S := fun k => k = g) hgr fun k e => (Option.some.inj e).symm)).trans ((sameBut_below hb23 _).trans (same_setCells zeroPk w33 (i * 7)))
    have hq1' : n - i = 1 := by have := HQ.out; omega
    have hq3 : i ≤ n := by have := HQ.out; omega
    have hq4 : (i : Int) ≤ (n : Int) := by omega
    have hq5 : (n : Int) ≤ (((i + 1) : Nat) : Int) := by omega
    have hq6 : n ≤ (i + 1) := by omega
    clear hown' hrow33 hc33 hb23 hb32 hb33 hgr hcur31 hown hnews hbA hb30 hb31 hi0 hq0 hq1 hq2 n2 m0 m1 m2 m3 hrun
    skip
    go_wp2
    go_ret
    refine ⟨by (rw [show n - 1 = i by have := HQ.out; omega]; rfl), ?_, ⟨HSM.out.os, HSM.out.tape, HSM.out.output, HSM.out.size, fun k hk hn => HSM.out.block k hk fun e => hn (by rw [e])⟩⟩
    have hl : (ps.eraseIdx i).length = i := by rw [List.length_eraseIdx_of_lt (by rw [HN.out]; omega), HN.out]; have := HQ.out; omega
    have hlv : (vs.eraseIdx i).length = i := by rw [List.length_eraseIdx_of_lt (by rw [HVS.out]; omega), HVS.out]; have := HQ.out; omega
    have hfin := own_beyonds zeroPk w33 (i * 7) HROW.out (by omega)
    refine ⟨vs.eraseIdx i, by rw [hl, hlv], ?_, fun j x v hx hv => ?_⟩
    · rw [hl]
      have epk : pkC (ps.eraseIdx i) (vs.eraseIdx i) = pkC (ps.take i) (vs.take i) ++ pkC (ps.drop (i + 1)) (vs.drop (i + 1)) := by
        rw [List.eraseIdx_eq_take_drop_succ, List.eraseIdx_eq_take_drop_succ, pkC_app _ _ _ _ (by rw [List.length_take, List.length_take, HVS.out, HN.out])]
      rw [epk]
      have e2 : n - 1 = i := by have := HQ.out; omega
      rw [e2]
      skip
      exact hfin
    · have hcg := HCUR.out
      refine opX_same (S := fun k => k = g) ?_ HSM.out fun k hk e => ?_
      · obtain ⟨j', h1', h2'⟩ : ∃ j', ps[j']? = some x ∧ vs[j']? = some v := by
          rw [List.getElem?_eraseIdx] at hx hv
          split at hx
          · rename_i hlt; rw [if_pos hlt] at hv; exact ⟨j, hx, hv⟩
          · rename_i hlt; rw [if_neg hlt] at hv; exact ⟨j + 1, hx, hv⟩
        exact HOP.out j' x v h1' h2'
      · subst e
        exact ⟨HLG.out.1, noPart_of hcg (by decide)⟩
  · obtain ⟨q, hqn⟩ : ∃ q, n = q + 1 := ⟨n - 1, by omega⟩
    have hz := zero_of (z := .agg #[.int .i64 0, .int .i64 0, .int .i64 0, .int .i64 0, .int .i64 0, .int .i64 0, .slice none 0 0]) (t := 219) info_packetz
    have CLR : Hid (∀ (W : World) (ty : TypeId) (cc : Nat), (∃ cur', W.heap[g]? = some (.cells cur' 219 (0, 0)) ∧ cur'.size = c * 7) → (Builtin.clear_ #[213] ty #[.slice (some ⟨g, q * 7, none⟩) 1 cc]).run Tryz.prog W = .ok (.tuple #[]) (W.setCells g (q * 7) zeroPk)) := fun W ty cc ⟨cur', e1, e2⟩ => by
      refine run_clear_pk Tryz.prog W _ _ ty Tryz.underlying213 (hz W) g _ cc (fun j hj => ?_) fun j hj => frozen_block e1
      have hl : q * 7 + j < cur'.size := by rw [e2]; have := hqn; omega
      rw [Lib.cell_of_heap e1, Array.getElem?_eq_getElem hl]; rfl
    have HQ : Hid (n = q + 1) := hqn
    obtain ⟨i0, hi0, hq0, hq1, hq2⟩ := info_parts info_packet
    have hg0 : (Value.slice (some ⟨g, 0, none⟩) n c).ownBlock = some g := rfl
    rw [hg0]
    have HCUR : Hid _ := hcur
    have HCS : Hid _ := hcs
    have HTK : Hid _ := htk
    have HVS : Hid (vs.length = n) := hvs
    have HOP : Hid _ := hop
    have HLG : Hid (lo ≤ g ∧ g < w.heap.size) := ⟨hlg, hgl⟩
    clear h hne hop hcur hcs htk hvs hlg hgl hz hqn
    have n1 : i ≤ c := by omega
    have n2 : i + 1 ≤ n := by omega
    have m0 : (0 : Int) ≤ (i : Int) := by omega
    have m1 : (0 : Int) ≤ (i : Int) + 1 := by omega
    have m2 : (i : Int) + 1 ≤ (n : Int) := by omega
    have m3 : (i : Int) ≤ (i : Int) + 1 := by omega
    go_enter Tryz.func191, Tryz.ntmps191
    go_wp2
    refine wp_region_set (fun _ : World => True) 8 8 (by kernel_rfl) rfl ?_
    intro w30 hb30
    obtain ⟨G, hG⟩ := exists_growZ (Z := fun _ : World => True) (W := w) trivial (fun _ _ => trivial)
    (refine anyZ_step hG trivial (i := 0) rfl (by kernel_rfl) (by kernel_rfl) (by kernel_rfl) (fun K hK => ?_); go_simp; refine hK _ ?_; clear hK K)
    (refine anyZ_step hG trivial (i := 1) rfl (by kernel_rfl) (by kernel_rfl) (by kernel_rfl) (fun K hK => ?_); go_simp; refine hK _ ?_; clear hK K)
    (refine anyZ_step hG trivial (i := 2) rfl (by kernel_rfl) (by kernel_rfl) (by kernel_rfl) (fun K hK => ?_); go_simp; refine hK _ ?_; clear hK K)
    (refine anyZ_step hG trivial (i := 3) rfl (by kernel_rfl) (by kernel_rfl) (by kernel_rfl) (fun K hK => ?_); go_simp; refine hK _ ?_; clear hK K)
    (refine anyZ_step hG trivial (i := 4) rfl (by kernel_rfl) (by kernel_rfl) (by kernel_rfl) (fun K hK => ?_); go_simp; refine hK _ ?_; clear hK K)
    (refine anyZ_step hG trivial (i := 5) rfl (by kernel_rfl) (by kernel_rfl) (by kernel_rfl) (fun K hK => ?_); go_simp; refine hK _ ?_; clear hK K)
    clear hG
    refine anyZ_one (i := 6) (by kernel_rfl) ⟨_, rfl, ?_⟩
    intro w31 hb31 K hK
    have hbA := hb30.trans (hb31.mono hb30.size)
    have HBA : Hid (Below w.heap.size w w31) := hbA
    have hcur31 := (hbA.block g HLG.out.2).trans HCUR.out
    have hown : w31.ownsRow lo 219 7 (.slice (some ⟨g, 0, none⟩) i c) i (pkC (ps.take i) (vs.take i)) := by
      refine ⟨by rw [pkC_len _ _ (by rw [List.length_take, List.length_take, HVS.out, HN.out]), List.length_take, HN.out, Nat.min_eq_left (Nat.le_of_lt hi)], .inr ⟨g, c, cur, rfl, HLG.out.1, hcur31, by omega, by unfold maxLen; omega, HCS.out, ?_⟩⟩
      have e : (cur.toList.take (n * 7)).take (i * 7) = (pkC ps vs).take (i * 7) := by rw [HTK.out]
      rw [List.take_take, Nat.min_eq_left (by omega), pkC_take ps vs i (by rw [HVS.out, HN.out])] at e
      exact e
    have hnews : ∀ (j : Nat) (u : Value), (pkC (ps.drop (i + 1)) (vs.drop (i + 1)))[j]? = some u → w31.cell? ((⟨g, (i + 1) * 7, none⟩ : Addr).add j) = some u := fun j u hj => by
      rw [← pkC_drop ps vs (i + 1) (by rw [HVS.out, HN.out]), List.getElem?_drop, ← HTK.out, List.getElem?_take] at hj
      split at hj
      · rw [Addr.add_lit, Lib.cell_of_heap hcur31, ← Array.getElem?_toList]; exact hj
      · cases hj
    obtain ⟨w', hrun, hown', hgr⟩ := run_append_fits (P := Tryz.prog) w31 lo 213 213 219 i0 7 Tryz.underlying213 hi0 hq1 g i c (pkC (ps.take i) (vs.take i)) hown ⟨g, (i + 1) * 7, none⟩ (n - (i + 1)) (c - (i + 1)) (pkC (ps.drop (i + 1)) (vs.drop (i + 1))) (by rw [pkC_len _ _ (by rw [List.length_drop, List.length_drop, HVS.out, HN.out]), List.length_drop, HN.out] <;> omega) hnews (fun u hu => pkC_one HOP.out (by rw [HVS.out, HN.out]) u (List.mem_of_mem_drop (by rw [← pkC_drop ps vs (i + 1) (by rw [HVS.out, HN.out])] at hu; exact hu))) (by omega)
    refine ask_append rfl rfl rfl rfl (by first | exact hrun | (simpa using hrun)) ?_
    refine hK _ _ (fun _ => trivial) ?_
    clear hK K
    refine anyZ_one (i := 7) (by kernel_rfl) ⟨_, rfl, ?_⟩
    intro w32 hb32 K hK
    go_simp
    refine hK _ _ (fun _ => trivial) ?_
    clear hK K
    refine anyZ_end (by kernel_rfl) ?_
    intro w33 hb33
    have hb23 := hb32.trans (hb33.mono hb32.size)
    have HB23 : Hid (Below w'.heap.size w' w33) := hb23
    have hrow33 := own_below hown' hb23
    have HROW : Hid _ := hrow33
    have hc33 : ∃ cur', w33.heap[g]? = some (.cells cur' 219 (0, 0)) ∧ cur'.size = c * 7 := by
      rcases hrow33.2 with ⟨e, _⟩ | ⟨g', cap', cur', e, _, e4, _, _, e7, _⟩
      · cases e
      · injection e with e1 _ e3
        injection e1 with e1
        injection e1 with e1
        subst e1
        exact ⟨cur', e4, by rw [e7, ← e3]⟩
    have hclr := fun ty cc => CLR.out w33 ty cc hc33
    have HG31 : Hid _ := hgr
    have HSM : Hid (sameBut w (w33.setCells g (q * 7) zeroPk) fun k => k = g) := ((sameBut_below HBA.out _).trans (sameBut_grown (S := fun k => k = g) hgr fun k e => (Option.some.inj e).symm)).trans ((sameBut_below hb23 _).trans (same_setCells zeroPk w33 (q * 7)))
    have hq1' : n - q = 1 := by have := HQ.out; omega
    have hq3 : q ≤ n := by have := HQ.out; omega
    have hq4 : (q : Int) ≤ (n : Int) := by omega
    have hq5 : (n : Int) ≤ ((c : Nat) : Int) := by omega
    have hq6 : n ≤ c := by omega
    clear hown' hrow33 hc33 hb23 hb32 hb33 hgr hcur31 hown hnews hbA hb30 hb31 hi0 hq0 hq1 hq2 n2 m0 m1 m2 m3 hrun
    rw [show i + (n - (i + 1)) = q by have := HQ.out; omega] at *
    go_wp2
    go_ret
    refine ⟨by (rw [show n - 1 = q by have := HQ.out; omega]; rfl), ?_, ⟨HSM.out.os, HSM.out.tape, HSM.out.output, HSM.out.size, fun k hk hn => HSM.out.block k hk fun e => hn (by rw [e])⟩⟩
    have hl : (ps.eraseIdx i).length = q := by rw [List.length_eraseIdx_of_lt (by rw [HN.out]; omega), HN.out]; have := HQ.out; omega
    have hlv : (vs.eraseIdx i).length = q := by rw [List.length_eraseIdx_of_lt (by rw [HVS.out]; omega), HVS.out]; have := HQ.out; omega
    have hfin := own_beyonds zeroPk w33 (q * 7) HROW.out (by omega)
    refine ⟨vs.eraseIdx i, by rw [hl, hlv], ?_, fun j x v hx hv => ?_⟩
    · rw [hl]
      have epk : pkC (ps.eraseIdx i) (vs.eraseIdx i) = pkC (ps.take i) (vs.take i) ++ pkC (ps.drop (i + 1)) (vs.drop (i + 1)) := by
        rw [List.eraseIdx_eq_take_drop_succ, List.eraseIdx_eq_take_drop_succ, pkC_app _ _ _ _ (by rw [List.length_take, List.length_take, HVS.out, HN.out])]
      rw [epk]
      have e2 : n - 1 = q := by have := HQ.out; omega
      rw [e2]
      skip
      exact hfin
    · have hcg := HCUR.out
      refine opX_same (S := fun k => k = g) ?_ HSM.out fun k hk e => ?_
      · obtain ⟨j', h1', h2'⟩ : ∃ j', ps[j']? = some x ∧ vs[j']? = some v := by
          rw [List.getElem?_eraseIdx] at hx hv
          split at hx
          · rename_i hlt; rw [if_pos hlt] at hv; exact ⟨j, hx, hv⟩
          · rename_i hlt; rw [if_neg hlt] at hv; exact ⟨j + 1, hx, hv⟩
        exact HOP.out j' x v h1' h2'
      · subst e
        exact ⟨HLG.out.1, noPart_of hcg (by decide)⟩
end Go.Proofs.YtedgnlgjmnccgabGreatDoor
