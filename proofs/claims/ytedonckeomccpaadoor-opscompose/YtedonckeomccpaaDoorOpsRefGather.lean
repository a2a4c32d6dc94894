/-
  The document's Gather: gaps in least form.
-/
import Derived.Test.YtedonckeomccpaaDoorPartC
import Derived.Test.YtedonckeomccpaaDoorOpsSpread
namespace Go.Proofs.YtedonckeomccpaaDoor
open Go.RowKit
set_option linter.unusedVariables false

/-- What the document's gathering keeps is at most so much. -/
structure BdK (s : KSt) (T k : Nat) : Prop where
  put : s.put.length ≤ T
  d0 : 0 ≤ s.drop
  dk : s.drop ≤ k
  k0 : 0 ≤ s.keep
  kk : s.keep ≤ k
  len : s.out.length ≤ 3 * k
theorem bdk0 : BdK kst0 0 0 := ⟨by simp [kst0], by simp [kst0], by simp [kst0], by simp [kst0], by simp [kst0], by simp [kst0]⟩
theorem tellP_len (s : NSt) : (tellP s).length ≤ s.out.length + 2 := by
  unfold tellP
  simp only [List.length_append]
  split <;> split <;> simp
theorem BdK.step {s : KSt} {T k : Nat} (h : BdK s T k) (x : List UInt8 × Bool) : BdK (stepK s x) (T + x.1.length) (k + 1) := by
  obtain ⟨q, d⟩ := x
  obtain ⟨h1, h2, h3, h4, h5, h6⟩ := h
  have hf : (flushK s q d).put.length ≤ T + q.length ∧ (flushK s q d).drop = s.drop ∧ 0 ≤ (flushK s q d).keep ∧ (flushK s q d).keep ≤ k ∧ (flushK s q d).out.length ≤ 3 * k + 1 := by
    unfold flushK
    split
    · refine ⟨by show (s.put ++ q).length ≤ _; rw [List.length_append]; omega, rfl, ?_, ?_, ?_⟩
      · show 0 ≤ if 0 < s.keep then 0 else s.keep; split <;> omega
      · show (if 0 < s.keep then 0 else s.keep) ≤ _; split <;> omega
      · show (if 0 < s.keep then s.out ++ [⟨s.keep, 0, []⟩] else s.out).length ≤ _
        split
        · rw [List.length_append, List.length_singleton]; omega
        · omega
    · exact ⟨by omega, rfl, h4, h5, by omega⟩
  obtain ⟨f1, f2, f3, f4, f5⟩ := hf
  show BdK (byteK (flushK s q d) d) (T + q.length) (k + 1)
  generalize flushK s q d = t at *
  unfold byteK
  cases d with
  | true => exact ⟨f1, by show 0 ≤ t.drop + 1; omega, by show t.drop + 1 ≤ _; omega, f3, by show t.keep ≤ _; omega, by show t.out.length ≤ _; omega⟩
  | false =>
    have : (tellP ⟨t.out, t.put, t.drop⟩).length ≤ t.out.length + 2 := tellP_len _
    exact ⟨Nat.zero_le _, Int.le_refl _, by show (0 : Int) ≤ _; omega, by show 0 ≤ t.keep + 1; omega, by show t.keep + 1 ≤ _; omega, by show (tellP ⟨t.out, t.put, t.drop⟩).length ≤ _; omega⟩
def putsK (l : List (List UInt8 × Bool)) : Nat := (l.map fun x => x.1.length).sum
theorem putsK_snoc (l : List (List UInt8 × Bool)) (x : List UInt8 × Bool) : putsK (l ++ [x]) = putsK l + x.1.length := by simp [putsK]
theorem bdks (l : List (List UInt8 × Bool)) (k : Nat) (hk : k ≤ l.length) : BdK ((l.take k).foldl stepK kst0) (putsK (l.take k)) k := by
  induction k with
  | zero => exact bdk0
  | succ k ih =>
    have := ih (by omega)
    rw [List.take_succ_eq_append_getElem (by omega), List.foldl_append]
    rw [putsK_snoc]
    exact this.step _
theorem putsK_take (l : List (List UInt8 × Bool)) (k : Nat) : putsK (l.take k) ≤ putsK l := by
  have h1 : putsK l = putsK (l.take k) + putsK (l.drop k) := by
    unfold putsK
    rw [← List.sum_append, ← List.map_append, List.take_append_drop]
  omega

set_option maxRecDepth 100000 in
set_option maxHeartbeats 8000000 in
theorem Gather_any (g1 g2 n : Nat) (G : GSt) (w : World) (hn : G.1.length = n) (hn' : n < 10000000) (hsz : putsK G.1 + G.2.length < 1000000000)
    (h1 : ∀ (i : Nat) q, (G.1.map (·.1) ++ [G.2])[i]? = some q → w.cell? ⟨g1, i, none⟩ = some (strV q)) (h2 : ∀ (i : Nat) d, (G.1.map (·.2))[i]? = some d → w.cell? ⟨g2, i, none⟩ = some (.bool d)) (lt1 : g1 < w.heap.size) (lt2 : g2 < w.heap.size) :
    Calls Tryd.prog 50 #[.agg #[.slice (some ⟨g1, 0, none⟩) (n + 1) (n + 1), .slice (some ⟨g2, 0, none⟩) n n]] w fun e w' => ∃ v, e = .returned v ∧ w'.ownsRow w.heap.size 151 3 v (gatherP G).length (cellsP (gatherP G)) ∧ Below w.heap.size w w' := by
  obtain ⟨i0, hi, hz0, hz1, hz2⟩ := info_parts info_part
  have H1 : Hid (∀ (i : Nat) q, (G.1.map (·.1) ++ [G.2])[i]? = some q → w.cell? ⟨g1, i, none⟩ = some (strV q)) := h1
  have H2 : Hid (∀ (i : Nat) d, (G.1.map (·.2))[i]? = some d → w.cell? ⟨g2, i, none⟩ = some (.bool d)) := h2
  have HN : Hid (G.1.length = n) := hn
  have HSZ : Hid (putsK G.1 + G.2.length < 1000000000) := hsz
  have hwn : IntKind.i64.wrap ((n : Int) + 1) = (n : Int) + 1 := by rw [IntKind.wrap_i64]; omega
  clear h1 h2 hn hsz
  go_enter Tryd.func50, Tryd.ntmps50
  go_wp2
  go_loopw [6, 14] (fun kp i wr => ∃ (k : Nat), k ≤ n ∧ i = .int .i64 k ∧ kp = .int .i64 ((G.1.take k).foldl stepK kst0).keep ∧
      rgath wr (w.heap.size + 1) ⟨((G.1.take k).foldl stepK kst0).out, ((G.1.take k).foldl stepK kst0).put, ((G.1.take k).foldl stepK kst0).drop⟩ ∧
      wr.cell? ⟨w.heap.size, 0, none⟩ = some (.slice (some ⟨g1, 0, none⟩) (n + 1) (n + 1)) ∧ wr.cell? ⟨w.heap.size, 1, none⟩ = some (.slice (some ⟨g2, 0, none⟩) n n) ∧ Below w.heap.size w wr) (fun _ i _ => n + 1 - (intOf i).toNat)
  case atStart =>
    refine ⟨0, Nat.zero_le _, rfl, rfl, ⟨⟨none, 0, by simp [go_sem, kst0], World.ownsRow_nil _ _ _ _⟩, by simp [go_sem], by simp [go_sem, kst0], by simp [go_sem], by simp [go_sem, kst0], by simp [go_sem]⟩, by simp [go_sem], by simp [go_sem], ?_⟩
    have b1 := (Below.refl w.heap.size w).alloc (Nat.le_refl _) (.cells #[.slice (some ⟨g1, 0, none⟩) (n + 1) (n + 1), .slice (some ⟨g2, 0, none⟩) n n] 96)
    have b2 := b1.alloc b1.size (.cells #[.slice none 0 0] 84)
    have b3 := b2.alloc b2.size (.cells #[.string ⟨#[]⟩] 9)
    exact b3.alloc b3.size _
  case round =>
    obtain ⟨k, hk, rfl, rfl, hg, b0, b1, hwr⟩ := hrel
    have hbd := bdks G.1 k (by rw [HN.out]; exact hk)
    have hpt := putsK_take G.1 k
    have hlt := rgath_lt hg
    by_cases hkn : k < n
    · have hkr : k < G.1.length := by rw [HN.out]; exact hkn
      have e1 := H1.out k G.1[k].1 (by rw [List.getElem?_append_left (by simpa using hkr), List.getElem?_map, List.getElem?_eq_getElem hkr]; rfl)
      have e2 := H2.out k G.1[k].2 (by rw [List.getElem?_map, List.getElem?_eq_getElem hkr]; rfl)
      have c1 := (hwr.cell (p := ⟨g1, k, none⟩) lt1).trans e1
      have c2 := (hwr.cell (p := ⟨g2, k, none⟩) lt2).trans e2
      have hst : (G.1.take (k + 1)).foldl stepK kst0 = stepK ((G.1.take k).foldl stepK kst0) G.1[k] := by rw [List.take_succ_eq_append_getElem hkr, List.foldl_append]; rfl
      have hql : G.1[k].1.length ≤ putsK G.1 := by
        have := putsK_take G.1 (k + 1)
        rw [List.take_succ_eq_append_getElem hkr, putsK_snoc] at this
        omega
      have hsz := HSZ.out
      generalize G.1[k] = x at *
      generalize (G.1.take k).foldl stepK kst0 = K at *
      obtain ⟨q, d⟩ := x
      obtain ⟨out, put, drop, keep⟩ := K
      have hbd' := hbd
      obtain ⟨f1, f2, f3, f4, f5, f6⟩ := hbd'
      simp only at f1 f2 f3 f4 f5 f6 c1 c2 hg hql ⊢
      unfold strV at c1
      have hcat := str_append put q
      have hcb : ¬ 9223372036854775807 < put.length + q.length := by omega
      have HG : Hid (rgath wr (w.heap.size + 1) ⟨out, put, drop⟩) := hg
      obtain ⟨⟨p, c, o0, o1⟩, o2, o3, o4, o5, o6⟩ := hg
      have HO : Hid (wr.ownsRow (w.heap.size + 1 + 3) 151 3 (.slice p out.length c) out.length (cellsP out)) := o1
      have HC : Hid (wr.cell? ⟨w.heap.size + 1, 0, none⟩ = some (.slice p out.length c)) := o0
      have HW : Hid (Below w.heap.size w wr) := hwr
      have lt1' : g1 < wr.heap.size := Nat.lt_of_lt_of_le lt1 hwr.size
      have hkz : (k : Int) < (n : Int) + 1 := by omega
      have hkz2 : (k : Int) < (n : Int) := by omega
      have hkb : ((k : Int) == (n : Int)) = false := beq_eq_false_iff_ne.2 (by omega)
      have hw1 : IntKind.i64.wrap (drop + 1) = drop + 1 := by rw [IntKind.wrap_i64]; omega
      have hw2 : IntKind.i64.wrap (keep + 1) = keep + 1 := by rw [IntKind.wrap_i64]; omega
      have hw3 : IntKind.i64.wrap ((0 : Int) + 1) = 1 := by rw [IntKind.wrap_i64]; rfl
      have hol : out.length < 500000000 := by omega
      clear e1 e2 o1 hwr hbd hpt hsz hql
      by_cases hq : q = []
      · cases d with
        | true =>
          by_cases hkp : (0 : Int) < keep
          · skip
            subst hq
            have hcat0 : (ByteArray.mk put.toArray ++ ByteArray.mk #[] : ByteArray) = ⟨put.toArray⟩ := by have := str_append put []; simpa using this
            have hcb0 : ¬ 9223372036854775807 < put.length := by have := hcb; simp at this; omega
            clear hcat hcb
            go_wp2_with (first | (at_builtin; refine wpList_append_own _ rfl _ _ 84 rfl (w.heap.size + 1 + 3) 151 i0 (.agg #[.int .i64 0, .int .i64 0, .string ⟨#[]⟩]) 3 32 Tryd.underlying84 hi hz0 hz1 hz2 rfl (by decide) _ _ _ rfl (HO.out.alloc _) ⟨wr.heap.size, 0, none⟩ 1 1 (partCells ⟨keep, 0, []⟩) rfl rfl (cells_new _ _ _) (partCells_one _) (by unfold maxLen; omega) (by omega) (by first | omega | (simp; omega)) ?_) | fail)
            intro v1 w1 hown1 hg1 _
            have P1 := rgath_push (q := ⟨keep, 0, []⟩) HG.out HC.out hown1 hg1
            obtain ⟨p1, q1, hv1⟩ := own_slice hown1
            rw [hv1] at P1 ⊢
            obtain ⟨G1, B1, hb1, r1, r2⟩ := P1
            have k3 := (hb1.cell (p := ⟨w.heap.size + 1 + 1, 0, none⟩) (by show w.heap.size + 1 + 1 < _; omega)).trans o3
            have k4 := (hb1.frozen (p := ⟨w.heap.size + 1 + 1, 0, none⟩) (by show w.heap.size + 1 + 1 < _; omega)).trans o4
            have k5 := (hb1.cell (p := ⟨w.heap.size + 1 + 2, 0, none⟩) (by show w.heap.size + 1 + 2 < _; omega)).trans o5
            have k6 := (hb1.frozen (p := ⟨w.heap.size + 1 + 2, 0, none⟩) (by show w.heap.size + 1 + 2 < _; omega)).trans o6
            have k7 := (hb1.cell (p := ⟨w.heap.size, 0, none⟩) (by show w.heap.size < _; omega)).trans b0
            have k8 := (hb1.cell (p := ⟨w.heap.size, 1, none⟩) (by show w.heap.size < _; omega)).trans b1
            have k9 := (hb1.cell (p := ⟨g1, k, none⟩) (by show g1 < _; omega)).trans c1
            have k10 := (hb1.cell (p := ⟨g2, k, none⟩) (by show g2 < _; omega)).trans c2
            have HG2 : Hid (rgath (w1.setCell ⟨w.heap.size + 1, 0, none⟩ (.slice p1 (out.length + 1) q1)) (w.heap.size + 1) ⟨out ++ [⟨keep, 0, []⟩], put, drop⟩) := G1
            have HW2 : Hid (Below w.heap.size w (w1.setCell ⟨w.heap.size + 1, 0, none⟩ (.slice p1 (out.length + 1) q1))) := HW.out.trans (B1.mono (by omega))
            clear hown1 hg1 hv1 G1 B1 hb1 o0 o2 o3 o4 o5 o6 b0 b1 c1 HG HC HO HW c2
            go_wp2
            have m3 := (cell_set_ne (show w.heap.size + 1 + 1 ≠ w.heap.size + 1 by omega) (.slice p1 (out.length + 1) q1)).trans k3
            have m4 : (w1.setCell ⟨w.heap.size + 1, 0, none⟩ (.slice p1 (out.length + 1) q1)).frozen? ⟨w.heap.size + 1 + 1, 0, none⟩ = false := by rw [World.frozen?_setCell]; exact k4
            have m5 := (cell_set_ne (show w.heap.size + 1 + 2 ≠ w.heap.size + 1 by omega) (.slice p1 (out.length + 1) q1)).trans k5
            have m6 : (w1.setCell ⟨w.heap.size + 1, 0, none⟩ (.slice p1 (out.length + 1) q1)).frozen? ⟨w.heap.size + 1 + 2, 0, none⟩ = false := by rw [World.frozen?_setCell]; exact k6
            have m7 := (cell_set_ne (show w.heap.size ≠ w.heap.size + 1 by omega) (.slice p1 (out.length + 1) q1)).trans k7
            have m8 := (cell_set_ne (show w.heap.size ≠ w.heap.size + 1 by omega) (.slice p1 (out.length + 1) q1)).trans k8
            have m9 := (cell_set_ne (show g1 ≠ w.heap.size + 1 by omega) (.slice p1 (out.length + 1) q1)).trans k9
            have m10 := (cell_set_ne (show g2 ≠ w.heap.size + 1 by omega) (.slice p1 (out.length + 1) q1)).trans k10
            clear k3 k4 k5 k6 k7 k8 k9 r1 r2 k10
            generalize w1.setCell ⟨w.heap.size + 1, 0, none⟩ (.slice p1 (out.length + 1) q1) = W2 at *
            have hl2 := rgath_lt HG2.out
            have P3 := rgath_put HG2.out (put)
            have HG3 : Hid (rgath (W2.setCell ⟨w.heap.size + 1 + 1, 0, none⟩ (.string ⟨(put).toArray⟩)) (w.heap.size + 1) ⟨out ++ [⟨keep, 0, []⟩], put, drop⟩) := P3.1
            have HW3 : Hid (Below w.heap.size w (W2.setCell ⟨w.heap.size + 1 + 1, 0, none⟩ (.string ⟨(put).toArray⟩))) := HW2.out.trans (P3.2.mono (show w.heap.size ≤ w.heap.size + 1 by omega))
            clear P3
            go_region
            have HST : Hid ((G.1.take (k + 1)).foldl stepK kst0 = ⟨out ++ [⟨keep, 0, []⟩], put, drop + 1, 0⟩) := by
              show _ = _
              rw [hst]
              show byteK (flushK ⟨out, put, drop, keep⟩ [] true) true = _
              unfold flushK
              rw [if_pos (.inr rfl)]
              have hi0 : ∀ (x y : List Pt), (if 0 < keep then x else y) = x := fun x y => if_pos hkp
              have hi1 : (if 0 < keep then (0 : Int) else keep) = 0 := if_pos hkp
              simp only [hi0, hi1, List.append_nil]
              rfl
            clear hst
            have z7 : (W2.setCell ⟨w.heap.size + 1 + 1, 0, none⟩ (.string ⟨(put).toArray⟩)).cell? ⟨w.heap.size, 0, none⟩ = some (.slice (some ⟨g1, 0, none⟩) (n + 1) (n + 1)) := (cell_set_ne (show w.heap.size ≠ w.heap.size + 1 + 1 by omega) _).trans m7
            have z8 : (W2.setCell ⟨w.heap.size + 1 + 1, 0, none⟩ (.string ⟨(put).toArray⟩)).cell? ⟨w.heap.size, 1, none⟩ = some (.slice (some ⟨g2, 0, none⟩) n n) := (cell_set_ne (show w.heap.size ≠ w.heap.size + 1 + 1 by omega) _).trans m8
            have Z7 : Hid _ := z7
            have Z8 : Hid _ := z8
            have P4 := rgath_drop HG3.out (drop + 1)
            have HP4 : Hid _ := rgath_below P4.1 (Below.refl _ _).drew
            have HP5 : Hid _ := (HW3.out.trans (P4.2.mono (show w.heap.size ≤ w.heap.size + 1 by omega))).drew
            clear P4 z7 z8
            go_wp2
            go_roundw
            case rel => exact ⟨k + 1, by omega, by go_num, by rw [HST.out], by rw [HST.out]; exact HP4.out, (cell_set_ne (show w.heap.size ≠ w.heap.size + 1 + 2 by omega) _).trans Z7.out, (cell_set_ne (show w.heap.size ≠ w.heap.size + 1 + 2 by omega) _).trans Z8.out, HP5.out⟩
            case measure => simp [intOf]; omega
          · skip
            subst hq
            have hcat0 : (ByteArray.mk put.toArray ++ ByteArray.mk #[] : ByteArray) = ⟨put.toArray⟩ := by have := str_append put []; simpa using this
            have hcb0 : ¬ 9223372036854775807 < put.length := by have := hcb; simp at this; omega
            clear hcat hcb
            have hkp' : ¬ (0 : Int) < keep := hkp
            go_wp2
            have m3 := o3
            have m4 := o4
            have m5 := o5
            have m6 := o6
            have m7 := b0
            have m8 := b1
            have m9 := c1
            have HG2 := HG
            have HW2 := HW
            have m10 := c2
            clear o0 o2 o3 o4 o5 o6 b0 b1 c1 HG HC HO HW c2
            obtain ⟨W2, hW2⟩ : ∃ W, W = wr := ⟨_, rfl⟩
            rw [← hW2] at m3 m4 m5 m6 m7 m8 m9 m10 HG2 HW2 lt1' ⊢
            clear hW2
            have hl2 := rgath_lt HG2.out
            have P3 := rgath_put HG2.out (put)
            have HG3 : Hid (rgath (W2.setCell ⟨w.heap.size + 1 + 1, 0, none⟩ (.string ⟨(put).toArray⟩)) (w.heap.size + 1) ⟨out, put, drop⟩) := P3.1
            have HW3 : Hid (Below w.heap.size w (W2.setCell ⟨w.heap.size + 1 + 1, 0, none⟩ (.string ⟨(put).toArray⟩))) := HW2.out.trans (P3.2.mono (show w.heap.size ≤ w.heap.size + 1 by omega))
            clear P3
            go_region
            have HST : Hid ((G.1.take (k + 1)).foldl stepK kst0 = ⟨out, put, drop + 1, keep⟩) := by
              show _ = _
              rw [hst]
              show byteK (flushK ⟨out, put, drop, keep⟩ [] true) true = _
              unfold flushK
              rw [if_pos (.inr rfl)]
              have hi0 : ∀ (x y : List Pt), (if 0 < keep then x else y) = y := fun x y => if_neg (by omega)
              have hi1 : (if 0 < keep then (0 : Int) else keep) = keep := if_neg (by omega)
              simp only [hi0, hi1, List.append_nil]
              rfl
            clear hst
            have z7 : (W2.setCell ⟨w.heap.size + 1 + 1, 0, none⟩ (.string ⟨(put).toArray⟩)).cell? ⟨w.heap.size, 0, none⟩ = some (.slice (some ⟨g1, 0, none⟩) (n + 1) (n + 1)) := (cell_set_ne (show w.heap.size ≠ w.heap.size + 1 + 1 by omega) _).trans m7
            have z8 : (W2.setCell ⟨w.heap.size + 1 + 1, 0, none⟩ (.string ⟨(put).toArray⟩)).cell? ⟨w.heap.size, 1, none⟩ = some (.slice (some ⟨g2, 0, none⟩) n n) := (cell_set_ne (show w.heap.size ≠ w.heap.size + 1 + 1 by omega) _).trans m8
            have Z7 : Hid _ := z7
            have Z8 : Hid _ := z8
            have P4 := rgath_drop HG3.out (drop + 1)
            have HP4 : Hid _ := rgath_below P4.1 (Below.refl _ _).drew
            have HP5 : Hid _ := (HW3.out.trans (P4.2.mono (show w.heap.size ≤ w.heap.size + 1 by omega))).drew
            clear P4 z7 z8
            go_wp2
            go_roundw
            case rel => exact ⟨k + 1, by omega, by go_num, by rw [HST.out], by rw [HST.out]; exact HP4.out, (cell_set_ne (show w.heap.size ≠ w.heap.size + 1 + 2 by omega) _).trans Z7.out, (cell_set_ne (show w.heap.size ≠ w.heap.size + 1 + 2 by omega) _).trans Z8.out, HP5.out⟩
            case measure => simp [intOf]; omega
        | false =>
          subst hq
          have hcat0 : (ByteArray.mk put.toArray ++ ByteArray.mk #[] : ByteArray) = ⟨put.toArray⟩ := by have := str_append put []; simpa using this
          have hcb0 : ¬ 9223372036854775807 < put.length := by have := hcb; simp at this; omega
          clear hcat hcb
          have m3 := o3
          have m4 := o4
          have m5 := o5
          have m6 := o6
          have m7 := b0
          have m8 := b1
          have m9 := c1
          have HG2 := HG
          have HW2 := HW
          have m10 := c2
          clear o0 o2 o3 o4 o5 o6 b0 b1 c1 HG HC HO HW c2
          obtain ⟨W2, hW2⟩ : ∃ W, W = wr := ⟨_, rfl⟩
          rw [← hW2] at m3 m4 m5 m6 m7 m8 m9 m10 HG2 HW2 lt1' ⊢
          clear hW2
          have hl2 := rgath_lt HG2.out
          have HG3 := HG2
          have HW3 := HW2
          have HST : Hid ((G.1.take (k + 1)).foldl stepK kst0 = ⟨tellP ⟨out, put, drop⟩, [], 0, keep + 1⟩) := by
            show _ = _
            rw [hst]
            show byteK (flushK ⟨out, put, drop, keep⟩ [] false) false = _
            unfold flushK
            rw [if_neg (by simp)]
            rfl
          clear hst
          have z7 := m7
          have z8 := m8
          have Z7 : Hid _ := z7
          have Z8 : Hid _ := z8
          have HGD := HG3.out
          have cD := refDone_any (w.heap.size + 1) _ _ HGD (by show (out).length < _; first | omega | (rw [List.length_append]; show out.length + 1 < _; omega)) (by show 0 ≤ drop; omega)
          have HL3 := HW3.out.size
          clear z7 z8 HGD
          go_wp2_with (first | (go_at_call 98; refine cD.mono ?_; rintro e w4 ⟨⟨v4, rfl⟩, hg4, hb4⟩; have HG4 : Hid _ := hg4; have HB4 : Hid _ := hb4; clear hg4 hb4) | fail)
          go_roundw
          case rel => exact ⟨k + 1, by omega, by go_num, by rw [HST.out] <;> first | rfl | go_num, by rw [HST.out]; exact HG4.out, (HB4.out.cell (p := ⟨w.heap.size, 0, none⟩) (by show w.heap.size < _; omega)).trans Z7.out, (HB4.out.cell (p := ⟨w.heap.size, 1, none⟩) (by show w.heap.size < _; omega)).trans Z8.out, HW3.out.trans (HB4.out.mono (show w.heap.size ≤ w.heap.size + 1 by omega))⟩
          case measure => simp [intOf]; omega
      · cases d with
        | true =>
          by_cases hkp : (0 : Int) < keep
          · skip
            have hqe : q.isEmpty = false := by simpa using hq
            go_wp2_with (first | (at_builtin; refine wpList_append_own _ rfl _ _ 84 rfl (w.heap.size + 1 + 3) 151 i0 (.agg #[.int .i64 0, .int .i64 0, .string ⟨#[]⟩]) 3 32 Tryd.underlying84 hi hz0 hz1 hz2 rfl (by decide) _ _ _ rfl (HO.out.alloc _) ⟨wr.heap.size, 0, none⟩ 1 1 (partCells ⟨keep, 0, []⟩) rfl rfl (cells_new _ _ _) (partCells_one _) (by unfold maxLen; omega) (by omega) (by first | omega | (simp; omega)) ?_) | fail)
            intro v1 w1 hown1 hg1 _
            have P1 := rgath_push (q := ⟨keep, 0, []⟩) HG.out HC.out hown1 hg1
            obtain ⟨p1, q1, hv1⟩ := own_slice hown1
            rw [hv1] at P1 ⊢
            obtain ⟨G1, B1, hb1, r1, r2⟩ := P1
            have k3 := (hb1.cell (p := ⟨w.heap.size + 1 + 1, 0, none⟩) (by show w.heap.size + 1 + 1 < _; omega)).trans o3
            have k4 := (hb1.frozen (p := ⟨w.heap.size + 1 + 1, 0, none⟩) (by show w.heap.size + 1 + 1 < _; omega)).trans o4
            have k5 := (hb1.cell (p := ⟨w.heap.size + 1 + 2, 0, none⟩) (by show w.heap.size + 1 + 2 < _; omega)).trans o5
            have k6 := (hb1.frozen (p := ⟨w.heap.size + 1 + 2, 0, none⟩) (by show w.heap.size + 1 + 2 < _; omega)).trans o6
            have k7 := (hb1.cell (p := ⟨w.heap.size, 0, none⟩) (by show w.heap.size < _; omega)).trans b0
            have k8 := (hb1.cell (p := ⟨w.heap.size, 1, none⟩) (by show w.heap.size < _; omega)).trans b1
            have k9 := (hb1.cell (p := ⟨g1, k, none⟩) (by show g1 < _; omega)).trans c1
            have k10 := (hb1.cell (p := ⟨g2, k, none⟩) (by show g2 < _; omega)).trans c2
            have HG2 : Hid (rgath (w1.setCell ⟨w.heap.size + 1, 0, none⟩ (.slice p1 (out.length + 1) q1)) (w.heap.size + 1) ⟨out ++ [⟨keep, 0, []⟩], put, drop⟩) := G1
            have HW2 : Hid (Below w.heap.size w (w1.setCell ⟨w.heap.size + 1, 0, none⟩ (.slice p1 (out.length + 1) q1))) := HW.out.trans (B1.mono (by omega))
            clear hown1 hg1 hv1 G1 B1 hb1 o0 o2 o3 o4 o5 o6 b0 b1 c1 HG HC HO HW c2
            go_wp2
            have m3 := (cell_set_ne (show w.heap.size + 1 + 1 ≠ w.heap.size + 1 by omega) (.slice p1 (out.length + 1) q1)).trans k3
            have m4 : (w1.setCell ⟨w.heap.size + 1, 0, none⟩ (.slice p1 (out.length + 1) q1)).frozen? ⟨w.heap.size + 1 + 1, 0, none⟩ = false := by rw [World.frozen?_setCell]; exact k4
            have m5 := (cell_set_ne (show w.heap.size + 1 + 2 ≠ w.heap.size + 1 by omega) (.slice p1 (out.length + 1) q1)).trans k5
            have m6 : (w1.setCell ⟨w.heap.size + 1, 0, none⟩ (.slice p1 (out.length + 1) q1)).frozen? ⟨w.heap.size + 1 + 2, 0, none⟩ = false := by rw [World.frozen?_setCell]; exact k6
            have m7 := (cell_set_ne (show w.heap.size ≠ w.heap.size + 1 by omega) (.slice p1 (out.length + 1) q1)).trans k7
            have m8 := (cell_set_ne (show w.heap.size ≠ w.heap.size + 1 by omega) (.slice p1 (out.length + 1) q1)).trans k8
            have m9 := (cell_set_ne (show g1 ≠ w.heap.size + 1 by omega) (.slice p1 (out.length + 1) q1)).trans k9
            have m10 := (cell_set_ne (show g2 ≠ w.heap.size + 1 by omega) (.slice p1 (out.length + 1) q1)).trans k10
            clear k3 k4 k5 k6 k7 k8 k9 r1 r2 k10
            generalize w1.setCell ⟨w.heap.size + 1, 0, none⟩ (.slice p1 (out.length + 1) q1) = W2 at *
            have hl2 := rgath_lt HG2.out
            have P3 := rgath_put HG2.out (put ++ q)
            have HG3 : Hid (rgath (W2.setCell ⟨w.heap.size + 1 + 1, 0, none⟩ (.string ⟨(put ++ q).toArray⟩)) (w.heap.size + 1) ⟨out ++ [⟨keep, 0, []⟩], put ++ q, drop⟩) := P3.1
            have HW3 : Hid (Below w.heap.size w (W2.setCell ⟨w.heap.size + 1 + 1, 0, none⟩ (.string ⟨(put ++ q).toArray⟩))) := HW2.out.trans (P3.2.mono (show w.heap.size ≤ w.heap.size + 1 by omega))
            clear P3
            go_region
            have HST : Hid ((G.1.take (k + 1)).foldl stepK kst0 = ⟨out ++ [⟨keep, 0, []⟩], put ++ q, drop + 1, 0⟩) := by
              show _ = _
              rw [hst]
              show byteK (flushK ⟨out, put, drop, keep⟩ q true) true = _
              unfold flushK
              rw [if_pos (.inl hq)]
              have hi0 : ∀ (x y : List Pt), (if 0 < keep then x else y) = x := fun x y => if_pos hkp
              have hi1 : (if 0 < keep then (0 : Int) else keep) = 0 := if_pos hkp
              simp only [hi0, hi1]
              rfl
            clear hst
            have z7 : (W2.setCell ⟨w.heap.size + 1 + 1, 0, none⟩ (.string ⟨(put ++ q).toArray⟩)).cell? ⟨w.heap.size, 0, none⟩ = some (.slice (some ⟨g1, 0, none⟩) (n + 1) (n + 1)) := (cell_set_ne (show w.heap.size ≠ w.heap.size + 1 + 1 by omega) _).trans m7
            have z8 : (W2.setCell ⟨w.heap.size + 1 + 1, 0, none⟩ (.string ⟨(put ++ q).toArray⟩)).cell? ⟨w.heap.size, 1, none⟩ = some (.slice (some ⟨g2, 0, none⟩) n n) := (cell_set_ne (show w.heap.size ≠ w.heap.size + 1 + 1 by omega) _).trans m8
            have Z7 : Hid _ := z7
            have Z8 : Hid _ := z8
            have P4 := rgath_drop HG3.out (drop + 1)
            have HP4 : Hid _ := rgath_below P4.1 (Below.refl _ _).drew
            have HP5 : Hid _ := (HW3.out.trans (P4.2.mono (show w.heap.size ≤ w.heap.size + 1 by omega))).drew
            clear P4 z7 z8
            go_wp2
            go_roundw
            case rel => exact ⟨k + 1, by omega, by go_num, by rw [HST.out], by rw [HST.out]; exact HP4.out, (cell_set_ne (show w.heap.size ≠ w.heap.size + 1 + 2 by omega) _).trans Z7.out, (cell_set_ne (show w.heap.size ≠ w.heap.size + 1 + 2 by omega) _).trans Z8.out, HP5.out⟩
            case measure => simp [intOf]; omega
          · skip
            have hqe : q.isEmpty = false := by simpa using hq
            have hkp' : ¬ (0 : Int) < keep := hkp
            go_wp2
            have m3 := o3
            have m4 := o4
            have m5 := o5
            have m6 := o6
            have m7 := b0
            have m8 := b1
            have m9 := c1
            have HG2 := HG
            have HW2 := HW
            have m10 := c2
            clear o0 o2 o3 o4 o5 o6 b0 b1 c1 HG HC HO HW c2
            obtain ⟨W2, hW2⟩ : ∃ W, W = wr := ⟨_, rfl⟩
            rw [← hW2] at m3 m4 m5 m6 m7 m8 m9 m10 HG2 HW2 lt1' ⊢
            clear hW2
            have hl2 := rgath_lt HG2.out
            have P3 := rgath_put HG2.out (put ++ q)
            have HG3 : Hid (rgath (W2.setCell ⟨w.heap.size + 1 + 1, 0, none⟩ (.string ⟨(put ++ q).toArray⟩)) (w.heap.size + 1) ⟨out, put ++ q, drop⟩) := P3.1
            have HW3 : Hid (Below w.heap.size w (W2.setCell ⟨w.heap.size + 1 + 1, 0, none⟩ (.string ⟨(put ++ q).toArray⟩))) := HW2.out.trans (P3.2.mono (show w.heap.size ≤ w.heap.size + 1 by omega))
            clear P3
            go_region
            have HST : Hid ((G.1.take (k + 1)).foldl stepK kst0 = ⟨out, put ++ q, drop + 1, keep⟩) := by
              show _ = _
              rw [hst]
              show byteK (flushK ⟨out, put, drop, keep⟩ q true) true = _
              unfold flushK
              rw [if_pos (.inl hq)]
              have hi0 : ∀ (x y : List Pt), (if 0 < keep then x else y) = y := fun x y => if_neg (by omega)
              have hi1 : (if 0 < keep then (0 : Int) else keep) = keep := if_neg (by omega)
              simp only [hi0, hi1]
              rfl
            clear hst
            have z7 : (W2.setCell ⟨w.heap.size + 1 + 1, 0, none⟩ (.string ⟨(put ++ q).toArray⟩)).cell? ⟨w.heap.size, 0, none⟩ = some (.slice (some ⟨g1, 0, none⟩) (n + 1) (n + 1)) := (cell_set_ne (show w.heap.size ≠ w.heap.size + 1 + 1 by omega) _).trans m7
            have z8 : (W2.setCell ⟨w.heap.size + 1 + 1, 0, none⟩ (.string ⟨(put ++ q).toArray⟩)).cell? ⟨w.heap.size, 1, none⟩ = some (.slice (some ⟨g2, 0, none⟩) n n) := (cell_set_ne (show w.heap.size ≠ w.heap.size + 1 + 1 by omega) _).trans m8
            have Z7 : Hid _ := z7
            have Z8 : Hid _ := z8
            have P4 := rgath_drop HG3.out (drop + 1)
            have HP4 : Hid _ := rgath_below P4.1 (Below.refl _ _).drew
            have HP5 : Hid _ := (HW3.out.trans (P4.2.mono (show w.heap.size ≤ w.heap.size + 1 by omega))).drew
            clear P4 z7 z8
            go_wp2
            go_roundw
            case rel => exact ⟨k + 1, by omega, by go_num, by rw [HST.out], by rw [HST.out]; exact HP4.out, (cell_set_ne (show w.heap.size ≠ w.heap.size + 1 + 2 by omega) _).trans Z7.out, (cell_set_ne (show w.heap.size ≠ w.heap.size + 1 + 2 by omega) _).trans Z8.out, HP5.out⟩
            case measure => simp [intOf]; omega
        | false =>
          by_cases hkp : (0 : Int) < keep
          · skip
            have hqe : q.isEmpty = false := by simpa using hq
            go_wp2_with (first | (at_builtin; refine wpList_append_own _ rfl _ _ 84 rfl (w.heap.size + 1 + 3) 151 i0 (.agg #[.int .i64 0, .int .i64 0, .string ⟨#[]⟩]) 3 32 Tryd.underlying84 hi hz0 hz1 hz2 rfl (by decide) _ _ _ rfl (HO.out.alloc _) ⟨wr.heap.size, 0, none⟩ 1 1 (partCells ⟨keep, 0, []⟩) rfl rfl (cells_new _ _ _) (partCells_one _) (by unfold maxLen; omega) (by omega) (by first | omega | (simp; omega)) ?_) | fail)
            intro v1 w1 hown1 hg1 _
            have P1 := rgath_push (q := ⟨keep, 0, []⟩) HG.out HC.out hown1 hg1
            obtain ⟨p1, q1, hv1⟩ := own_slice hown1
            rw [hv1] at P1 ⊢
            obtain ⟨G1, B1, hb1, r1, r2⟩ := P1
            have k3 := (hb1.cell (p := ⟨w.heap.size + 1 + 1, 0, none⟩) (by show w.heap.size + 1 + 1 < _; omega)).trans o3
            have k4 := (hb1.frozen (p := ⟨w.heap.size + 1 + 1, 0, none⟩) (by show w.heap.size + 1 + 1 < _; omega)).trans o4
            have k5 := (hb1.cell (p := ⟨w.heap.size + 1 + 2, 0, none⟩) (by show w.heap.size + 1 + 2 < _; omega)).trans o5
            have k6 := (hb1.frozen (p := ⟨w.heap.size + 1 + 2, 0, none⟩) (by show w.heap.size + 1 + 2 < _; omega)).trans o6
            have k7 := (hb1.cell (p := ⟨w.heap.size, 0, none⟩) (by show w.heap.size < _; omega)).trans b0
            have k8 := (hb1.cell (p := ⟨w.heap.size, 1, none⟩) (by show w.heap.size < _; omega)).trans b1
            have k9 := (hb1.cell (p := ⟨g1, k, none⟩) (by show g1 < _; omega)).trans c1
            have k10 := (hb1.cell (p := ⟨g2, k, none⟩) (by show g2 < _; omega)).trans c2
            have HG2 : Hid (rgath (w1.setCell ⟨w.heap.size + 1, 0, none⟩ (.slice p1 (out.length + 1) q1)) (w.heap.size + 1) ⟨out ++ [⟨keep, 0, []⟩], put, drop⟩) := G1
            have HW2 : Hid (Below w.heap.size w (w1.setCell ⟨w.heap.size + 1, 0, none⟩ (.slice p1 (out.length + 1) q1))) := HW.out.trans (B1.mono (by omega))
            clear hown1 hg1 hv1 G1 B1 hb1 o0 o2 o3 o4 o5 o6 b0 b1 c1 HG HC HO HW c2
            go_wp2
            have m3 := (cell_set_ne (show w.heap.size + 1 + 1 ≠ w.heap.size + 1 by omega) (.slice p1 (out.length + 1) q1)).trans k3
            have m4 : (w1.setCell ⟨w.heap.size + 1, 0, none⟩ (.slice p1 (out.length + 1) q1)).frozen? ⟨w.heap.size + 1 + 1, 0, none⟩ = false := by rw [World.frozen?_setCell]; exact k4
            have m5 := (cell_set_ne (show w.heap.size + 1 + 2 ≠ w.heap.size + 1 by omega) (.slice p1 (out.length + 1) q1)).trans k5
            have m6 : (w1.setCell ⟨w.heap.size + 1, 0, none⟩ (.slice p1 (out.length + 1) q1)).frozen? ⟨w.heap.size + 1 + 2, 0, none⟩ = false := by rw [World.frozen?_setCell]; exact k6
            have m7 := (cell_set_ne (show w.heap.size ≠ w.heap.size + 1 by omega) (.slice p1 (out.length + 1) q1)).trans k7
            have m8 := (cell_set_ne (show w.heap.size ≠ w.heap.size + 1 by omega) (.slice p1 (out.length + 1) q1)).trans k8
            have m9 := (cell_set_ne (show g1 ≠ w.heap.size + 1 by omega) (.slice p1 (out.length + 1) q1)).trans k9
            have m10 := (cell_set_ne (show g2 ≠ w.heap.size + 1 by omega) (.slice p1 (out.length + 1) q1)).trans k10
            clear k3 k4 k5 k6 k7 k8 k9 r1 r2 k10
            generalize w1.setCell ⟨w.heap.size + 1, 0, none⟩ (.slice p1 (out.length + 1) q1) = W2 at *
            have hl2 := rgath_lt HG2.out
            have P3 := rgath_put HG2.out (put ++ q)
            have HG3 : Hid (rgath (W2.setCell ⟨w.heap.size + 1 + 1, 0, none⟩ (.string ⟨(put ++ q).toArray⟩)) (w.heap.size + 1) ⟨out ++ [⟨keep, 0, []⟩], put ++ q, drop⟩) := P3.1
            have HW3 : Hid (Below w.heap.size w (W2.setCell ⟨w.heap.size + 1 + 1, 0, none⟩ (.string ⟨(put ++ q).toArray⟩))) := HW2.out.trans (P3.2.mono (show w.heap.size ≤ w.heap.size + 1 by omega))
            clear P3
            go_region
            have HST : Hid ((G.1.take (k + 1)).foldl stepK kst0 = ⟨tellP ⟨out ++ [⟨keep, 0, []⟩], put ++ q, drop⟩, [], 0, 0 + 1⟩) := by
              show _ = _
              rw [hst]
              show byteK (flushK ⟨out, put, drop, keep⟩ q false) false = _
              unfold flushK
              rw [if_pos (.inl hq)]
              have hi0 : ∀ (x y : List Pt), (if 0 < keep then x else y) = x := fun x y => if_pos hkp
              have hi1 : (if 0 < keep then (0 : Int) else keep) = 0 := if_pos hkp
              simp only [hi0, hi1]
              rfl
            clear hst
            have z7 : (W2.setCell ⟨w.heap.size + 1 + 1, 0, none⟩ (.string ⟨(put ++ q).toArray⟩)).cell? ⟨w.heap.size, 0, none⟩ = some (.slice (some ⟨g1, 0, none⟩) (n + 1) (n + 1)) := (cell_set_ne (show w.heap.size ≠ w.heap.size + 1 + 1 by omega) _).trans m7
            have z8 : (W2.setCell ⟨w.heap.size + 1 + 1, 0, none⟩ (.string ⟨(put ++ q).toArray⟩)).cell? ⟨w.heap.size, 1, none⟩ = some (.slice (some ⟨g2, 0, none⟩) n n) := (cell_set_ne (show w.heap.size ≠ w.heap.size + 1 + 1 by omega) _).trans m8
            have Z7 : Hid _ := z7
            have Z8 : Hid _ := z8
            have HGD := rgath_below HG3.out (Below.refl _ _).drew
            have cD := refDone_any (w.heap.size + 1) _ _ HGD (by show (out ++ [(⟨keep, 0, []⟩ : Pt)]).length < _; first | omega | (rw [List.length_append]; show out.length + 1 < _; omega)) (by show 0 ≤ drop; omega)
            have HL3 := HW3.out.size
            clear z7 z8 HGD
            go_wp2_with (first | (go_at_call 98; refine cD.mono ?_; rintro e w4 ⟨⟨v4, rfl⟩, hg4, hb4⟩; have HG4 : Hid _ := hg4; have HB4 : Hid _ := hb4; clear hg4 hb4) | fail)
            go_roundw
            case rel => exact ⟨k + 1, by omega, by go_num, by rw [HST.out] <;> first | rfl | go_num, by rw [HST.out]; exact HG4.out, (HB4.out.cell (p := ⟨w.heap.size, 0, none⟩) (by show w.heap.size < _; omega)).trans Z7.out, (HB4.out.cell (p := ⟨w.heap.size, 1, none⟩) (by show w.heap.size < _; omega)).trans Z8.out, HW3.out.drew.trans (HB4.out.mono (show w.heap.size ≤ w.heap.size + 1 by omega))⟩
            case measure => simp [intOf]; omega
          · skip
            have hqe : q.isEmpty = false := by simpa using hq
            have hkp' : ¬ (0 : Int) < keep := hkp
            go_wp2
            have m3 := o3
            have m4 := o4
            have m5 := o5
            have m6 := o6
            have m7 := b0
            have m8 := b1
            have m9 := c1
            have HG2 := HG
            have HW2 := HW
            have m10 := c2
            clear o0 o2 o3 o4 o5 o6 b0 b1 c1 HG HC HO HW c2
            obtain ⟨W2, hW2⟩ : ∃ W, W = wr := ⟨_, rfl⟩
            rw [← hW2] at m3 m4 m5 m6 m7 m8 m9 m10 HG2 HW2 lt1' ⊢
            clear hW2
            have hl2 := rgath_lt HG2.out
            have P3 := rgath_put HG2.out (put ++ q)
            have HG3 : Hid (rgath (W2.setCell ⟨w.heap.size + 1 + 1, 0, none⟩ (.string ⟨(put ++ q).toArray⟩)) (w.heap.size + 1) ⟨out, put ++ q, drop⟩) := P3.1
            have HW3 : Hid (Below w.heap.size w (W2.setCell ⟨w.heap.size + 1 + 1, 0, none⟩ (.string ⟨(put ++ q).toArray⟩))) := HW2.out.trans (P3.2.mono (show w.heap.size ≤ w.heap.size + 1 by omega))
            clear P3
            go_region
            have HST : Hid ((G.1.take (k + 1)).foldl stepK kst0 = ⟨tellP ⟨out, put ++ q, drop⟩, [], 0, keep + 1⟩) := by
              show _ = _
              rw [hst]
              show byteK (flushK ⟨out, put, drop, keep⟩ q false) false = _
              unfold flushK
              rw [if_pos (.inl hq)]
              have hi0 : ∀ (x y : List Pt), (if 0 < keep then x else y) = y := fun x y => if_neg (by omega)
              have hi1 : (if 0 < keep then (0 : Int) else keep) = keep := if_neg (by omega)
              simp only [hi0, hi1]
              rfl
            clear hst
            have z7 : (W2.setCell ⟨w.heap.size + 1 + 1, 0, none⟩ (.string ⟨(put ++ q).toArray⟩)).cell? ⟨w.heap.size, 0, none⟩ = some (.slice (some ⟨g1, 0, none⟩) (n + 1) (n + 1)) := (cell_set_ne (show w.heap.size ≠ w.heap.size + 1 + 1 by omega) _).trans m7
            have z8 : (W2.setCell ⟨w.heap.size + 1 + 1, 0, none⟩ (.string ⟨(put ++ q).toArray⟩)).cell? ⟨w.heap.size, 1, none⟩ = some (.slice (some ⟨g2, 0, none⟩) n n) := (cell_set_ne (show w.heap.size ≠ w.heap.size + 1 + 1 by omega) _).trans m8
            have Z7 : Hid _ := z7
            have Z8 : Hid _ := z8
            have HGD := rgath_below HG3.out (Below.refl _ _).drew
            have cD := refDone_any (w.heap.size + 1) _ _ HGD (by show (out).length < _; first | omega | (rw [List.length_append]; show out.length + 1 < _; omega)) (by show 0 ≤ drop; omega)
            have HL3 := HW3.out.size
            clear z7 z8 HGD
            go_wp2_with (first | (go_at_call 98; refine cD.mono ?_; rintro e w4 ⟨⟨v4, rfl⟩, hg4, hb4⟩; have HG4 : Hid _ := hg4; have HB4 : Hid _ := hb4; clear hg4 hb4) | fail)
            go_roundw
            case rel => exact ⟨k + 1, by omega, by go_num, by rw [HST.out] <;> first | rfl | go_num, by rw [HST.out]; exact HG4.out, (HB4.out.cell (p := ⟨w.heap.size, 0, none⟩) (by show w.heap.size < _; omega)).trans Z7.out, (HB4.out.cell (p := ⟨w.heap.size, 1, none⟩) (by show w.heap.size < _; omega)).trans Z8.out, HW3.out.drew.trans (HB4.out.mono (show w.heap.size ≤ w.heap.size + 1 by omega))⟩
            case measure => simp [intOf]; omega
    · have hke : k = n := by omega
      have e1 := H1.out k G.2 (by rw [List.getElem?_append_right (by rw [List.length_map, HN.out]; omega), List.length_map, HN.out, hke, Nat.sub_self]; rfl)
      have c1 := (hwr.cell (p := ⟨g1, k, none⟩) lt1).trans e1
      have hta : G.1.take k = G.1 := List.take_of_length_le (by rw [HN.out]; omega)
      rw [hta] at hg hbd ⊢
      have HGP : Hid (gatherP G = endK (flushK (G.1.foldl stepK kst0) G.2 false)) := by show _ = _; rfl
      have hql := HSZ.out
      generalize G.2 = q at *
      generalize G.1.foldl stepK kst0 = K at *
      obtain ⟨out, put, drop, keep⟩ := K
      have hbd' := hbd
      obtain ⟨f1, f2, f3, f4, f5, f6⟩ := hbd'
      simp only at f1 f2 f3 f4 f5 f6 c1 hg ⊢
      unfold strV at c1
      have hcat := str_append put q
      have hcb : ¬ 9223372036854775807 < put.length + q.length := by omega
      have HG : Hid (rgath wr (w.heap.size + 1) ⟨out, put, drop⟩) := hg
      obtain ⟨⟨p, c, o0, o1⟩, o2, o3, o4, o5, o6⟩ := hg
      have HO : Hid (wr.ownsRow (w.heap.size + 1 + 3) 151 3 (.slice p out.length c) out.length (cellsP out)) := o1
      have HC : Hid (wr.cell? ⟨w.heap.size + 1, 0, none⟩ = some (.slice p out.length c)) := o0
      have HW : Hid (Below w.heap.size w wr) := hwr
      have lt1' : g1 < wr.heap.size := Nat.lt_of_lt_of_le lt1 hwr.size
      have hkz : (k : Int) < (n : Int) + 1 := by omega
      have hkz2 : ¬ (k : Int) < (n : Int) := by omega
      have hkb : ((k : Int) == (n : Int)) = true := beq_iff_eq.2 (by omega)
      have hol : out.length < 500000000 := by omega
      clear e1 o1 hwr hbd hpt hql hta hke
      by_cases hq : q = []
      · by_cases hkp : (0 : Int) < keep
        · skip
          have hqe : q.isEmpty = true := by simpa using hq
          have HRES : Hid (gatherP G = tellP ⟨out ++ [⟨keep, 0, []⟩], put, drop⟩) := by
            show _ = _
            rw [HGP.out]
            simp [endK, flushK, hq, hkp]
          go_wp2_with (first | (at_builtin; refine wpList_append_own _ rfl _ _ 84 rfl (w.heap.size + 1 + 3) 151 i0 (.agg #[.int .i64 0, .int .i64 0, .string ⟨#[]⟩]) 3 32 Tryd.underlying84 hi hz0 hz1 hz2 rfl (by decide) _ _ _ rfl (HO.out.alloc _) ⟨wr.heap.size, 0, none⟩ 1 1 (partCells ⟨keep, 0, []⟩) rfl rfl (cells_new _ _ _) (partCells_one _) (by unfold maxLen; omega) (by omega) (by first | omega | (simp; omega)) ?_) | fail)
          intro v1 w1 hown1 hg1 _
          have P1 := rgath_push (q := ⟨keep, 0, []⟩) HG.out HC.out hown1 hg1
          obtain ⟨p1, q1, hv1⟩ := own_slice hown1
          rw [hv1] at P1 ⊢
          obtain ⟨G1, B1, hb1, r1, r2⟩ := P1
          have k3 := (hb1.cell (p := ⟨w.heap.size + 1 + 1, 0, none⟩) (by show w.heap.size + 1 + 1 < _; omega)).trans o3
          have k4 := (hb1.frozen (p := ⟨w.heap.size + 1 + 1, 0, none⟩) (by show w.heap.size + 1 + 1 < _; omega)).trans o4
          have k5 := (hb1.cell (p := ⟨w.heap.size + 1 + 2, 0, none⟩) (by show w.heap.size + 1 + 2 < _; omega)).trans o5
          have k6 := (hb1.frozen (p := ⟨w.heap.size + 1 + 2, 0, none⟩) (by show w.heap.size + 1 + 2 < _; omega)).trans o6
          have k7 := (hb1.cell (p := ⟨w.heap.size, 0, none⟩) (by show w.heap.size < _; omega)).trans b0
          have k8 := (hb1.cell (p := ⟨w.heap.size, 1, none⟩) (by show w.heap.size < _; omega)).trans b1
          have k9 := (hb1.cell (p := ⟨g1, k, none⟩) (by show g1 < _; omega)).trans c1
          have HG2 : Hid (rgath (w1.setCell ⟨w.heap.size + 1, 0, none⟩ (.slice p1 (out.length + 1) q1)) (w.heap.size + 1) ⟨out ++ [⟨keep, 0, []⟩], put, drop⟩) := G1
          have HW2 : Hid (Below w.heap.size w (w1.setCell ⟨w.heap.size + 1, 0, none⟩ (.slice p1 (out.length + 1) q1))) := HW.out.trans (B1.mono (by omega))
          clear hown1 hg1 hv1 G1 B1 hb1 o0 o2 o3 o4 o5 o6 b0 b1 c1 HG HC HO HW
          have HG3 := HG2
          have HW3 := HW2
          have cD := refDone_any (w.heap.size + 1) _ _ HG3.out (by show (out ++ [(⟨keep, 0, []⟩ : Pt)]).length < _; first | omega | (rw [List.length_append]; show out.length + 1 < _; omega)) (by show 0 ≤ drop; omega)
          go_wp2_with (first | (go_at_call 98; refine cD.mono ?_; rintro e w4 ⟨⟨v4, rfl⟩, ⟨⟨p4, c4, h40, h41⟩, _⟩, hb4⟩; have HB4 : Hid (Below (w.heap.size + 1) _ w4) := hb4; clear hb4) | fail)
          go_ret
          exact ⟨_, rfl, by rw [HRES.out]; exact own_mono h41 (by omega), HW3.out.trans (HB4.out.mono (show w.heap.size ≤ w.heap.size + 1 by omega))⟩
        · skip
          have hqe : q.isEmpty = true := by simpa using hq
          have hkp' : ¬ (0 : Int) < keep := hkp
          have HRES : Hid (gatherP G = tellP ⟨out, put, drop⟩) := by
            show _ = _
            rw [HGP.out]
            simp [endK, flushK, hq, hkp]
          have HG3 := HG
          have HW3 := HW
          have cD := refDone_any (w.heap.size + 1) _ _ HG3.out (by show (out).length < _; first | omega | (rw [List.length_append]; show out.length + 1 < _; omega)) (by show 0 ≤ drop; omega)
          go_wp2_with (first | (go_at_call 98; refine cD.mono ?_; rintro e w4 ⟨⟨v4, rfl⟩, ⟨⟨p4, c4, h40, h41⟩, _⟩, hb4⟩; have HB4 : Hid (Below (w.heap.size + 1) _ w4) := hb4; clear hb4) | fail)
          go_ret
          exact ⟨_, rfl, by rw [HRES.out]; exact own_mono h41 (by omega), HW3.out.trans (HB4.out.mono (show w.heap.size ≤ w.heap.size + 1 by omega))⟩
      · by_cases hkp : (0 : Int) < keep
        · skip
          have hqe : q.isEmpty = false := by simpa using hq
          have HRES : Hid (gatherP G = tellP ⟨out ++ [⟨keep, 0, []⟩], put ++ q, drop⟩) := by
            show _ = _
            rw [HGP.out]
            simp [endK, flushK, hq, hkp]
          go_wp2_with (first | (at_builtin; refine wpList_append_own _ rfl _ _ 84 rfl (w.heap.size + 1 + 3) 151 i0 (.agg #[.int .i64 0, .int .i64 0, .string ⟨#[]⟩]) 3 32 Tryd.underlying84 hi hz0 hz1 hz2 rfl (by decide) _ _ _ rfl (HO.out.alloc _) ⟨wr.heap.size, 0, none⟩ 1 1 (partCells ⟨keep, 0, []⟩) rfl rfl (cells_new _ _ _) (partCells_one _) (by unfold maxLen; omega) (by omega) (by first | omega | (simp; omega)) ?_) | fail)
          intro v1 w1 hown1 hg1 _
          have P1 := rgath_push (q := ⟨keep, 0, []⟩) HG.out HC.out hown1 hg1
          obtain ⟨p1, q1, hv1⟩ := own_slice hown1
          rw [hv1] at P1 ⊢
          obtain ⟨G1, B1, hb1, r1, r2⟩ := P1
          have k3 := (hb1.cell (p := ⟨w.heap.size + 1 + 1, 0, none⟩) (by show w.heap.size + 1 + 1 < _; omega)).trans o3
          have k4 := (hb1.frozen (p := ⟨w.heap.size + 1 + 1, 0, none⟩) (by show w.heap.size + 1 + 1 < _; omega)).trans o4
          have k5 := (hb1.cell (p := ⟨w.heap.size + 1 + 2, 0, none⟩) (by show w.heap.size + 1 + 2 < _; omega)).trans o5
          have k6 := (hb1.frozen (p := ⟨w.heap.size + 1 + 2, 0, none⟩) (by show w.heap.size + 1 + 2 < _; omega)).trans o6
          have k7 := (hb1.cell (p := ⟨w.heap.size, 0, none⟩) (by show w.heap.size < _; omega)).trans b0
          have k8 := (hb1.cell (p := ⟨w.heap.size, 1, none⟩) (by show w.heap.size < _; omega)).trans b1
          have k9 := (hb1.cell (p := ⟨g1, k, none⟩) (by show g1 < _; omega)).trans c1
          have HG2 : Hid (rgath (w1.setCell ⟨w.heap.size + 1, 0, none⟩ (.slice p1 (out.length + 1) q1)) (w.heap.size + 1) ⟨out ++ [⟨keep, 0, []⟩], put, drop⟩) := G1
          have HW2 : Hid (Below w.heap.size w (w1.setCell ⟨w.heap.size + 1, 0, none⟩ (.slice p1 (out.length + 1) q1))) := HW.out.trans (B1.mono (by omega))
          clear hown1 hg1 hv1 G1 B1 hb1 o0 o2 o3 o4 o5 o6 b0 b1 c1 HG HC HO HW
          go_wp2
          have m3 := (cell_set_ne (show w.heap.size + 1 + 1 ≠ w.heap.size + 1 by omega) (.slice p1 (out.length + 1) q1)).trans k3
          have m4 : (w1.setCell ⟨w.heap.size + 1, 0, none⟩ (.slice p1 (out.length + 1) q1)).frozen? ⟨w.heap.size + 1 + 1, 0, none⟩ = false := by rw [World.frozen?_setCell]; exact k4
          have m5 := (cell_set_ne (show w.heap.size + 1 + 2 ≠ w.heap.size + 1 by omega) (.slice p1 (out.length + 1) q1)).trans k5
          have m6 : (w1.setCell ⟨w.heap.size + 1, 0, none⟩ (.slice p1 (out.length + 1) q1)).frozen? ⟨w.heap.size + 1 + 2, 0, none⟩ = false := by rw [World.frozen?_setCell]; exact k6
          have m7 := (cell_set_ne (show w.heap.size ≠ w.heap.size + 1 by omega) (.slice p1 (out.length + 1) q1)).trans k7
          have m8 := (cell_set_ne (show w.heap.size ≠ w.heap.size + 1 by omega) (.slice p1 (out.length + 1) q1)).trans k8
          have m9 := (cell_set_ne (show g1 ≠ w.heap.size + 1 by omega) (.slice p1 (out.length + 1) q1)).trans k9
          clear k3 k4 k5 k6 k7 k8 k9 r1 r2
          generalize w1.setCell ⟨w.heap.size + 1, 0, none⟩ (.slice p1 (out.length + 1) q1) = W2 at *
          have hl2 := rgath_lt HG2.out
          have P3 := rgath_put HG2.out (put ++ q)
          have HG3 : Hid (rgath (W2.setCell ⟨w.heap.size + 1 + 1, 0, none⟩ (.string ⟨(put ++ q).toArray⟩)) (w.heap.size + 1) ⟨out ++ [⟨keep, 0, []⟩], put ++ q, drop⟩) := P3.1
          have HW3 : Hid (Below w.heap.size w (W2.setCell ⟨w.heap.size + 1 + 1, 0, none⟩ (.string ⟨(put ++ q).toArray⟩))) := HW2.out.trans (P3.2.mono (show w.heap.size ≤ w.heap.size + 1 by omega))
          clear P3
          go_region
          have cD := refDone_any (w.heap.size + 1) _ _ (rgath_below HG3.out (Below.refl _ _).drew) (by show (out ++ [(⟨keep, 0, []⟩ : Pt)]).length < _; first | omega | (rw [List.length_append]; show out.length + 1 < _; omega)) (by show 0 ≤ drop; omega)
          go_wp2_with (first | (go_at_call 98; refine cD.mono ?_; rintro e w4 ⟨⟨v4, rfl⟩, ⟨⟨p4, c4, h40, h41⟩, _⟩, hb4⟩; have HB4 : Hid (Below (w.heap.size + 1) _ w4) := hb4; clear hb4) | fail)
          go_ret
          exact ⟨_, rfl, by rw [HRES.out]; exact own_mono h41 (by omega), HW3.out.drew.trans (HB4.out.mono (show w.heap.size ≤ w.heap.size + 1 by omega))⟩
        · skip
          have hqe : q.isEmpty = false := by simpa using hq
          have hkp' : ¬ (0 : Int) < keep := hkp
          have HRES : Hid (gatherP G = tellP ⟨out, put ++ q, drop⟩) := by
            show _ = _
            rw [HGP.out]
            simp [endK, flushK, hq, hkp]
          go_wp2
          have m3 := o3
          have m4 := o4
          have m5 := o5
          have m6 := o6
          have m7 := b0
          have m8 := b1
          have m9 := c1
          have HG2 := HG
          have HW2 := HW
          clear o0 o2 o3 o4 o5 o6 b0 b1 c1 HG HC HO HW
          obtain ⟨W2, hW2⟩ : ∃ W, W = wr := ⟨_, rfl⟩
          rw [← hW2] at m3 m4 m5 m6 m7 m8 m9 HG2 HW2 lt1' ⊢
          clear hW2
          have hl2 := rgath_lt HG2.out
          have P3 := rgath_put HG2.out (put ++ q)
          have HG3 : Hid (rgath (W2.setCell ⟨w.heap.size + 1 + 1, 0, none⟩ (.string ⟨(put ++ q).toArray⟩)) (w.heap.size + 1) ⟨out, put ++ q, drop⟩) := P3.1
          have HW3 : Hid (Below w.heap.size w (W2.setCell ⟨w.heap.size + 1 + 1, 0, none⟩ (.string ⟨(put ++ q).toArray⟩))) := HW2.out.trans (P3.2.mono (show w.heap.size ≤ w.heap.size + 1 by omega))
          clear P3
          go_region
          have cD := refDone_any (w.heap.size + 1) _ _ (rgath_below HG3.out (Below.refl _ _).drew) (by show (out).length < _; first | omega | (rw [List.length_append]; show out.length + 1 < _; omega)) (by show 0 ≤ drop; omega)
          go_wp2_with (first | (go_at_call 98; refine cD.mono ?_; rintro e w4 ⟨⟨v4, rfl⟩, ⟨⟨p4, c4, h40, h41⟩, _⟩, hb4⟩; have HB4 : Hid (Below (w.heap.size + 1) _ w4) := hb4; clear hb4) | fail)
          go_ret
          exact ⟨_, rfl, by rw [HRES.out]; exact own_mono h41 (by omega), HW3.out.drew.trans (HB4.out.mono (show w.heap.size ≤ w.heap.size + 1 by omega))⟩
end Go.Proofs.YtedonckeomccpaaDoor
