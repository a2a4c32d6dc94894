/-
  The document's Gather: gaps in least form.
  rosettalaw.OpsCheck: the law's own walk.
  What servers keep in memory: operations in rows of parts, logs of entries, texts, maps of a number to two.
  ops.checkBoth, isPut, length.
  A range over an iterator that keeps state in cells of its own: the statement's law, over what the iterator may turn between two rounds and what a round keeps, both the user's choice.
  ops.over: what its iterator does with the rounds of a loop.
  The library's contracts that these texts use, laid at this program by the shelf's own command, its plain mode.
  ops.checkOver: what it says of an operation over a text.
  The library's contracts that these texts use, laid at this program by the shelf's own command, its plain mode.
  strings.Builder, as this program's text has it: what is written is behind what was.
  LoopOwn's law once more: what its rounds begin with knows the loop's first block, too.
-/
import Derived.Test.YtfedgjnhanlmeabGreatDoorPartC
import Derived.Maps.OwnSet
import Derived.Maps.Views
import Derived.RangeFuncNested
import Derived.RangeFuncBound
import Derived.RangeFuncCalls
import Derived.RangeFuncLeaves
import Derived.WalkKit
import Derived.Test.YtfedgjnhanlmeabGreatDoorPartB
import Derived.OwnWalkIn
import Derived.TacticsInMore
import Derived.LoopNIn
import Derived.LoopIn
import Derived.Stop.RegionWithIn
import Derived.Shelf.Strings.Builder1
import Derived.Shelf.Small.Utf8
import Derived.Shelf.Strings.BuilderF
import Derived.Shelf.Strings.BuilderK
import Derived.Shelf.Utf8.AppendRune
import Derived.Shelf.Utf8.AppendRunePlain
import Derived.Shelf.Utf8.RuneCount
import Derived.Shelf.LaysM
import Derived.Shelf.Strconv.Clone
import Derived.Shelf.Strings.Search1
import Derived.Shelf.Strings.Search2
import Derived.Shelf.Strings.Search3
import Derived.Shelf.Strings.Count
import Derived.Shelf.Strings.Shaped
import Derived.Shelf.Strings.Split
import Derived.Shelf.Unicode.Decode
import Derived.Shelf.Strings.RuneCount
import Derived.Shelf.Unicode.DecodeSlow
import Derived.Shelf.Unicode.DecodeAny
import Derived.Shelf.Strings.BuilderCap
import Derived.Test.YtfedgjnhanlmeabGreatDoorProg
import Derived.Lib.Builder
import Derived.Lib.OthersKept
import Derived.Lib.FrozenHead
namespace Go.Proofs.YtfedgjnhanlmeabGreatDoor
open Go.RowKit
set_option linter.unusedVariables false

/-- What the document's gathering keeps is at most so much. -/
structure BdK (s : KSt) (T k : Nat) : Prop where
  put : s.put.length ≤ T
  d0 : 0 ≤ s.drop
  dk : s.drop ≤ k
  k0 : 0 ≤ s.keep
  kk : s.keep ≤ k
  len : s.out.length ≤ 3 * k
theorem bdk0 : BdK kst0 0 0 := ⟨by simp [kst0], by simp [kst0], by simp [kst0], by simp [kst0], by simp [kst0], by simp [kst0]⟩
theorem tellP_len (s : NSt) : (tellP s).length ≤ s.out.length + 2 := by
  unfold tellP
  simp only [List.length_append]
  split <;> split <;> simp
theorem BdK.step {s : KSt} {T k : Nat} (h : BdK s T k) (x : List UInt8 × Bool) : BdK (stepK s x) (T + x.1.length) (k + 1) := by
  obtain ⟨q, d⟩ := x
  obtain ⟨h1, h2, h3, h4, h5, h6⟩ := h
  have hf : (flushK s q d).put.length ≤ T + q.length ∧ (flushK s q d).drop = s.drop ∧ 0 ≤ (flushK s q d).keep ∧ (flushK s q d).keep ≤ k ∧ (flushK s q d).out.length ≤ 3 * k + 1 := by
    unfold flushK
    split
    · refine ⟨by show (s.put ++ q).length ≤ _; rw [List.length_append]; omega, rfl, ?_, ?_, ?_⟩
      · show 0 ≤ if 0 < s.keep then 0 else s.keep; split <;> omega
      · show (if 0 < s.keep then 0 else s.keep) ≤ _; split <;> omega
      · show (if 0 < s.keep then s.out ++ [⟨s.keep, 0, []⟩] else s.out).length ≤ _
        split
        · rw [List.length_append, List.length_singleton]; omega
        · omega
    · exact ⟨by omega, rfl, h4, h5, by omega⟩
  obtain ⟨f1, f2, f3, f4, f5⟩ := hf
  show BdK (byteK (flushK s q d) d) (T + q.length) (k + 1)
  generalize flushK s q d = t at *
  unfold byteK
  cases d with
  | true => exact ⟨f1, by show 0 ≤ t.drop + 1; omega, by show t.drop + 1 ≤ _; omega, f3, by show t.keep ≤ _; omega, by show t.out.length ≤ _; omega⟩
  | false =>
    have : (tellP ⟨t.out, t.put, t.drop⟩).length ≤ t.out.length + 2 := tellP_len _
    exact ⟨Nat.zero_le _, Int.le_refl _, by show (0 : Int) ≤ _; omega, by show 0 ≤ t.keep + 1; omega, by show t.keep + 1 ≤ _; omega, by show (tellP ⟨t.out, t.put, t.drop⟩).length ≤ _; omega⟩
def putsK (l : List (List UInt8 × Bool)) : Nat := (l.map fun x => x.1.length).sum
theorem putsK_snoc (l : List (List UInt8 × Bool)) (x : List UInt8 × Bool) : putsK (l ++ [x]) = putsK l + x.1.length := by simp [putsK]
theorem bdks (l : List (List UInt8 × Bool)) (k : Nat) (hk : k ≤ l.length) : BdK ((l.take k).foldl stepK kst0) (putsK (l.take k)) k := by
  induction k with
  | zero => exact bdk0
  | succ k ih =>
    have := ih (by omega)
    rw [List.take_succ_eq_append_getElem (by omega), List.foldl_append]
    rw [putsK_snoc]
    exact this.step _
theorem putsK_take (l : List (List UInt8 × Bool)) (k : Nat) : putsK (l.take k) ≤ putsK l := by
  have h1 : putsK l = putsK (l.take k) + putsK (l.drop k) := by
    unfold putsK
    rw [← List.sum_append, ← List.map_append, List.take_append_drop]
  omega

set_option maxRecDepth 100000 in
set_option maxHeartbeats 8000000 in
theorem Gather_any (g1 g2 n : Nat) (G : GSt) (w : World) (hn : G.1.length = n) (hn' : n < 10000000) (hsz : putsK G.1 + G.2.length < 1000000000)
    (h1 : ∀ (i : Nat) q, (G.1.map (·.1) ++ [G.2])[i]? = some q → w.cell? ⟨g1, i, none⟩ = some (strV q)) (h2 : ∀ (i : Nat) d, (G.1.map (·.2))[i]? = some d → w.cell? ⟨g2, i, none⟩ = some (.bool d)) (lt1 : g1 < w.heap.size) (lt2 : g2 < w.heap.size) :
    Calls Tryz.prog 178 #[.agg #[.slice (some ⟨g1, 0, none⟩) (n + 1) (n + 1), .slice (some ⟨g2, 0, none⟩) n n]] w fun e w' => ∃ v, e = .returned v ∧ w'.ownsRow w.heap.size 50 3 v (gatherP G).length (cellsP (gatherP G)) ∧ Below w.heap.size w w' := by
  obtain ⟨i0, hi, hz0, hz1, hz2⟩ := info_parts info_part
  have H1 : Hid (∀ (i : Nat) q, (G.1.map (·.1) ++ [G.2])[i]? = some q → w.cell? ⟨g1, i, none⟩ = some (strV q)) := h1
  have H2 : Hid (∀ (i : Nat) d, (G.1.map (·.2))[i]? = some d → w.cell? ⟨g2, i, none⟩ = some (.bool d)) := h2
  have HN : Hid (G.1.length = n) := hn
  have HSZ : Hid (putsK G.1 + G.2.length < 1000000000) := hsz
  have hwn : IntKind.i64.wrap ((n : Int) + 1) = (n : Int) + 1 := by rw [IntKind.wrap_i64]; omega
  clear h1 h2 hn hsz
  go_enter Tryz.func178, Tryz.ntmps178
  go_wp2
  go_loopw [6, 14] (fun kp i wr => ∃ (k : Nat), k ≤ n ∧ i = .int .i64 k ∧ kp = .int .i64 ((G.1.take k).foldl stepK kst0).keep ∧
      rgath wr (w.heap.size + 1) ⟨((G.1.take k).foldl stepK kst0).out, ((G.1.take k).foldl stepK kst0).put, ((G.1.take k).foldl stepK kst0).drop⟩ ∧
      wr.cell? ⟨w.heap.size, 0, none⟩ = some (.slice (some ⟨g1, 0, none⟩) (n + 1) (n + 1)) ∧ wr.cell? ⟨w.heap.size, 1, none⟩ = some (.slice (some ⟨g2, 0, none⟩) n n) ∧ Below w.heap.size w wr) (fun _ i _ => n + 1 - (intOf i).toNat)
  case atStart =>
    refine ⟨0, Nat.zero_le _, rfl, rfl, ⟨⟨none, 0, by simp [go_sem, kst0], World.ownsRow_nil _ _ _ _⟩, by simp [go_sem], by simp [go_sem, kst0], by simp [go_sem], by simp [go_sem, kst0], by simp [go_sem]⟩, by simp [go_sem], by simp [go_sem], ?_⟩
    have b1 := (Below.refl w.heap.size w).alloc (Nat.le_refl _) (.cells #[.slice (some ⟨g1, 0, none⟩) (n + 1) (n + 1), .slice (some ⟨g2, 0, none⟩) n n] 287)
    have b2 := b1.alloc b1.size (.cells #[.slice none 0 0] 23)
    have b3 := b2.alloc b2.size (.cells #[.string ⟨#[]⟩] 9)
    exact b3.alloc b3.size _
  case round =>
    obtain ⟨k, hk, rfl, rfl, hg, b0, b1, hwr⟩ := hrel
    have hbd := bdks G.1 k (by rw [HN.out]; exact hk)
    have hpt := putsK_take G.1 k
    have hlt := rgath_lt hg
    by_cases hkn : k < n
    · have hkr : k < G.1.length := by rw [HN.out]; exact hkn
      have e1 := H1.out k G.1[k].1 (by rw [List.getElem?_append_left (by simpa using hkr), List.getElem?_map, List.getElem?_eq_getElem hkr]; rfl)
      have e2 := H2.out k G.1[k].2 (by rw [List.getElem?_map, List.getElem?_eq_getElem hkr]; rfl)
      have c1 := (hwr.cell (p := ⟨g1, k, none⟩) lt1).trans e1
      have c2 := (hwr.cell (p := ⟨g2, k, none⟩) lt2).trans e2
      have hst : (G.1.take (k + 1)).foldl stepK kst0 = stepK ((G.1.take k).foldl stepK kst0) G.1[k] := by rw [List.take_succ_eq_append_getElem hkr, List.foldl_append]; rfl
      have hql : G.1[k].1.length ≤ putsK G.1 := by
        have := putsK_take G.1 (k + 1)
        rw [List.take_succ_eq_append_getElem hkr, putsK_snoc] at this
        omega
      have hsz := HSZ.out
      generalize G.1[k] = x at *
      generalize (G.1.take k).foldl stepK kst0 = K at *
      obtain ⟨q, d⟩ := x
      obtain ⟨out, put, drop, keep⟩ := K
      have hbd' := hbd
      obtain ⟨f1, f2, f3, f4, f5, f6⟩ := hbd'
      simp only at f1 f2 f3 f4 f5 f6 c1 c2 hg hql ⊢
      unfold strV at c1
      have hcat := str_append put q
      have hcb : ¬ 9223372036854775807 < put.length + q.length := by omega
      have HG : Hid (rgath wr (w.heap.size + 1) ⟨out, put, drop⟩) := hg
      obtain ⟨⟨p, c, o0, o1⟩, o2, o3, o4, o5, o6⟩ := hg
      have HO : Hid (wr.ownsRow (w.heap.size + 1 + 3) 50 3 (.slice p out.length c) out.length (cellsP out)) := o1
      have HC : Hid (wr.cell? ⟨w.heap.size + 1, 0, none⟩ = some (.slice p out.length c)) := o0
      have HW : Hid (Below w.heap.size w wr) := hwr
      have lt1' : g1 < wr.heap.size := Nat.lt_of_lt_of_le lt1 hwr.size
      have hkz : (k : Int) < (n : Int) + 1 := by omega
      have hkz2 : (k : Int) < (n : Int) := by omega
      have hkb : ((k : Int) == (n : Int)) = false := beq_eq_false_iff_ne.2 (by omega)
      have hw1 : IntKind.i64.wrap (drop + 1) = drop + 1 := by rw [IntKind.wrap_i64]; omega
      have hw2 : IntKind.i64.wrap (keep + 1) = keep + 1 := by rw [IntKind.wrap_i64]; omega
      have hw3 : IntKind.i64.wrap ((0 : Int) + 1) = 1 := by rw [IntKind.wrap_i64]; rfl
      have hol : out.length < 500000000 := by omega
      clear e1 e2 o1 hwr hbd hpt hsz hql
      by_cases hq : q = []
      · cases d with
        | true =>
          by_cases hkp : (0 : Int) < keep
          · skip
            subst hq
            have hcat0 : (ByteArray.mk put.toArray ++ ByteArray.mk #[] : ByteArray) = ⟨put.toArray⟩ := by have := str_append put []; simpa using this
            have hcb0 : ¬ 9223372036854775807 < put.length := by have := hcb; simp at this; omega
            clear hcat hcb
            go_wp2_with (first | (at_builtin; refine wpList_append_own _ rfl _ _ 23 rfl (w.heap.size + 1 + 3) 50 i0 (.agg #[.int .i64 0, .int .i64 0, .string ⟨#[]⟩]) 3 32 Tryz.underlying23 hi hz0 hz1 hz2 rfl (by decide) _ _ _ rfl (HO.out.alloc _) ⟨wr.heap.size, 0, none⟩ 1 1 (partCells ⟨keep, 0, []⟩) rfl rfl (cells_new _ _ _) (partCells_one _) (by unfold maxLen; omega) (by omega) (by first | omega | (simp; omega)) ?_) | fail)
            intro v1 w1 hown1 hg1 _
            have P1 := rgath_push (q := ⟨keep, 0, []⟩) HG.out HC.out hown1 hg1
            obtain ⟨p1, q1, hv1⟩ := own_slice hown1
            rw [hv1] at P1 ⊢
            obtain ⟨G1, B1, hb1, r1, r2⟩ := P1
            have k3 := (hb1.cell (p := ⟨w.heap.size + 1 + 1, 0, none⟩) (by show w.heap.size + 1 + 1 < _; omega)).trans o3
            have k4 := (hb1.frozen (p := ⟨w.heap.size + 1 + 1, 0, none⟩) (by show w.heap.size + 1 + 1 < _; omega)).trans o4
            have k5 := (hb1.cell (p := ⟨w.heap.size + 1 + 2, 0, none⟩) (by show w.heap.size + 1 + 2 < _; omega)).trans o5
            have k6 := (hb1.frozen (p := ⟨w.heap.size + 1 + 2, 0, none⟩) (by show w.heap.size + 1 + 2 < _; omega)).trans o6
            have k7 := (hb1.cell (p := ⟨w.heap.size, 0, none⟩) (by show w.heap.size < _; omega)).trans b0
            have k8 := (hb1.cell (p := ⟨w.heap.size, 1, none⟩) (by show w.heap.size < _; omega)).trans b1
            have k9 := (hb1.cell (p := ⟨g1, k, none⟩) (by show g1 < _; omega)).trans c1
            have k10 := (hb1.cell (p := ⟨g2, k, none⟩) (by show g2 < _; omega)).trans c2
            have HG2 : Hid (rgath (w1.setCell ⟨w.heap.size + 1, 0, none⟩ (.slice p1 (out.length + 1) q1)) (w.heap.size + 1) ⟨out ++ [⟨keep, 0, []⟩], put, drop⟩) := G1
            have HW2 : Hid (Below w.heap.size w (w1.setCell ⟨w.heap.size + 1, 0, none⟩ (.slice p1 (out.length + 1) q1))) := HW.out.trans (B1.mono (by omega))
            clear hown1 hg1 hv1 G1 B1 hb1 o0 o2 o3 o4 o5 o6 b0 b1 c1 HG HC HO HW c2
            go_wp2
            have m3 := (cell_set_ne (show w.heap.size + 1 + 1 ≠ w.heap.size + 1 by omega) (.slice p1 (out.length + 1) q1)).trans k3
            have m4 : (w1.setCell ⟨w.heap.size + 1, 0, none⟩ (.slice p1 (out.length + 1) q1)).frozen? ⟨w.heap.size + 1 + 1, 0, none⟩ = false := by rw [World.frozen?_setCell]; exact k4
            have m5 := (cell_set_ne (show w.heap.size + 1 + 2 ≠ w.heap.size + 1 by omega) (.slice p1 (out.length + 1) q1)).trans k5
            have m6 : (w1.setCell ⟨w.heap.size + 1, 0, none⟩ (.slice p1 (out.length + 1) q1)).frozen? ⟨w.heap.size + 1 + 2, 0, none⟩ = false := by rw [World.frozen?_setCell]; exact k6
            have m7 := (cell_set_ne (show w.heap.size ≠ w.heap.size + 1 by omega) (.slice p1 (out.length + 1) q1)).trans k7
            have m8 := (cell_set_ne (show w.heap.size ≠ w.heap.size + 1 by omega) (.slice p1 (out.length + 1) q1)).trans k8
            have m9 := (cell_set_ne (show g1 ≠ w.heap.size + 1 by omega) (.slice p1 (out.length + 1) q1)).trans k9
            have m10 := (cell_set_ne (show g2 ≠ w.heap.size + 1 by omega) (.slice p1 (out.length + 1) q1)).trans k10
            clear k3 k4 k5 k6 k7 k8 k9 r1 r2 k10
            generalize w1.setCell ⟨w.heap.size + 1, 0, none⟩ (.slice p1 (out.length + 1) q1) = W2 at *
            have hl2 := rgath_lt HG2.out
            have P3 := rgath_put HG2.out (put)
            have HG3 : Hid (rgath (W2.setCell ⟨w.heap.size + 1 + 1, 0, none⟩ (.string ⟨(put).toArray⟩)) (w.heap.size + 1) ⟨out ++ [⟨keep, 0, []⟩], put, drop⟩) := P3.1
            have HW3 : Hid (Below w.heap.size w (W2.setCell ⟨w.heap.size + 1 + 1, 0, none⟩ (.string ⟨(put).toArray⟩))) := HW2.out.trans (P3.2.mono (show w.heap.size ≤ w.heap.size + 1 by omega))
            clear P3
            go_region
            have HST : Hid ((G.1.take (k + 1)).foldl stepK kst0 = ⟨out ++ [⟨keep, 0, []⟩], put, drop + 1, 0⟩) := by
              show _ = _
              rw [hst]
              show byteK (flushK ⟨out, put, drop, keep⟩ [] true) true = _
              unfold flushK
              rw [if_pos (.inr rfl)]
              have hi0 : ∀ (x y : List Pt), (if 0 < keep then x else y) = x := fun x y => if_pos hkp
              have hi1 : (if 0 < keep then (0 : Int) else keep) = 0 := if_pos hkp
              simp only [hi0, hi1, List.append_nil]
              rfl
            clear hst
            have z7 : (W2.setCell ⟨w.heap.size + 1 + 1, 0, none⟩ (.string ⟨(put).toArray⟩)).cell? ⟨w.heap.size, 0, none⟩ = some (.slice (some ⟨g1, 0, none⟩) (n + 1) (n + 1)) := (cell_set_ne (show w.heap.size ≠ w.heap.size + 1 + 1 by omega) _).trans m7
            have z8 : (W2.setCell ⟨w.heap.size + 1 + 1, 0, none⟩ (.string ⟨(put).toArray⟩)).cell? ⟨w.heap.size, 1, none⟩ = some (.slice (some ⟨g2, 0, none⟩) n n) := (cell_set_ne (show w.heap.size ≠ w.heap.size + 1 + 1 by omega) _).trans m8
            have Z7 : Hid _ := z7
            have Z8 : Hid _ := z8
            have P4 := rgath_drop HG3.out (drop + 1)
            have HP4 : Hid _ := rgath_below P4.1 (Below.refl _ _).drew
            have HP5 : Hid _ := (HW3.out.trans (P4.2.mono (show w.heap.size ≤ w.heap.size + 1 by omega))).drew
            clear P4 z7 z8
            go_wp2
            go_roundw
            case rel => exact ⟨k + 1, by omega, by go_num, by rw [HST.out], by rw [HST.out]; exact HP4.out, (cell_set_ne (show w.heap.size ≠ w.heap.size + 1 + 2 by omega) _).trans Z7.out, (cell_set_ne (show w.heap.size ≠ w.heap.size + 1 + 2 by omega) _).trans Z8.out, HP5.out⟩
            case measure => simp [intOf]; omega
          · skip
            subst hq
            have hcat0 : (ByteArray.mk put.toArray ++ ByteArray.mk #[] : ByteArray) = ⟨put.toArray⟩ := by have := str_append put []; simpa using this
            have hcb0 : ¬ 9223372036854775807 < put.length := by have := hcb; simp at this; omega
            clear hcat hcb
            have hkp' : ¬ (0 : Int) < keep := hkp
            go_wp2
            have m3 := o3
            have m4 := o4
            have m5 := o5
            have m6 := o6
            have m7 := b0
            have m8 := b1
            have m9 := c1
            have HG2 := HG
            have HW2 := HW
            have m10 := c2
            clear o0 o2 o3 o4 o5 o6 b0 b1 c1 HG HC HO HW c2
            obtain ⟨W2, hW2⟩ : ∃ W, W = wr := ⟨_, rfl⟩
            rw [← hW2] at m3 m4 m5 m6 m7 m8 m9 m10 HG2 HW2 lt1' ⊢
            clear hW2
            have hl2 := rgath_lt HG2.out
            have P3 := rgath_put HG2.out (put)
            have HG3 : Hid (rgath (W2.setCell ⟨w.heap.size + 1 + 1, 0, none⟩ (.string ⟨(put).toArray⟩)) (w.heap.size + 1) ⟨out, put, drop⟩) := P3.1
            have HW3 : Hid (Below w.heap.size w (W2.setCell ⟨w.heap.size + 1 + 1, 0, none⟩ (.string ⟨(put).toArray⟩))) := HW2.out.trans (P3.2.mono (show w.heap.size ≤ w.heap.size + 1 by omega))
            clear P3
            go_region
            have HST : Hid ((G.1.take (k + 1)).foldl stepK kst0 = ⟨out, put, drop + 1, keep⟩) := by
              show _ = _
              rw [hst]
              show byteK (flushK ⟨out, put, drop, keep⟩ [] true) true = _
              unfold flushK
              rw [if_pos (.inr rfl)]
              have hi0 : ∀ (x y : List Pt), (if 0 < keep then x else y) = y := fun x y => if_neg (by omega)
              have hi1 : (if 0 < keep then (0 : Int) else keep) = keep := if_neg (by omega)
              simp only [hi0, hi1, List.append_nil]
              rfl
            clear hst
            have z7 : (W2.setCell ⟨w.heap.size + 1 + 1, 0, none⟩ (.string ⟨(put).toArray⟩)).cell? ⟨w.heap.size, 0, none⟩ = some (.slice (some ⟨g1, 0, none⟩) (n + 1) (n + 1)) := (cell_set_ne (show w.heap.size ≠ w.heap.size + 1 + 1 by omega) _).trans m7
            have z8 : (W2.setCell ⟨w.heap.size + 1 + 1, 0, none⟩ (.string ⟨(put).toArray⟩)).cell? ⟨w.heap.size, 1, none⟩ = some (.slice (some ⟨g2, 0, none⟩) n n) := (cell_set_ne (show w.heap.size ≠ w.heap.size + 1 + 1 by omega) _).trans m8
            have Z7 : Hid _ := z7
            have Z8 : Hid _ := z8
            have P4 := rgath_drop HG3.out (drop + 1)
            have HP4 : Hid _ := rgath_below P4.1 (Below.refl _ _).drew
            have HP5 : Hid _ := (HW3.out.trans (P4.2.mono (show w.heap.size ≤ w.heap.size + 1 by omega))).drew
            clear P4 z7 z8
            go_wp2
            go_roundw
            case rel => exact ⟨k + 1, by omega, by go_num, by rw [HST.out], by rw [HST.out]; exact HP4.out, (cell_set_ne (show w.heap.size ≠ w.heap.size + 1 + 2 by omega) _).trans Z7.out, (cell_set_ne (show w.heap.size ≠ w.heap.size + 1 + 2 by omega) _).trans Z8.out, HP5.out⟩
            case measure => simp [intOf]; omega
        | false =>
          subst hq
          have hcat0 : (ByteArray.mk put.toArray ++ ByteArray.mk #[] : ByteArray) = ⟨put.toArray⟩ := by have := str_append put []; simpa using this
          have hcb0 : ¬ 9223372036854775807 < put.length := by have := hcb; simp at this; omega
          clear hcat hcb
          have m3 := o3
          have m4 := o4
          have m5 := o5
          have m6 := o6
          have m7 := b0
          have m8 := b1
          have m9 := c1
          have HG2 := HG
          have HW2 := HW
          have m10 := c2
          clear o0 o2 o3 o4 o5 o6 b0 b1 c1 HG HC HO HW c2
          obtain ⟨W2, hW2⟩ : ∃ W, W = wr := ⟨_, rfl⟩
          rw [← hW2] at m3 m4 m5 m6 m7 m8 m9 m10 HG2 HW2 lt1' ⊢
          clear hW2
          have hl2 := rgath_lt HG2.out
          have HG3 := HG2
          have HW3 := HW2
          have HST : Hid ((G.1.take (k + 1)).foldl stepK kst0 = ⟨tellP ⟨out, put, drop⟩, [], 0, keep + 1⟩) := by
            show _ = _
            rw [hst]
            show byteK (flushK ⟨out, put, drop, keep⟩ [] false) false = _
            unfold flushK
            rw [if_neg (by simp)]
            rfl
          clear hst
          have z7 := m7
          have z8 := m8
          have Z7 : Hid _ := z7
          have Z8 : Hid _ := z8
          have HGD := HG3.out
          have cD := refDone_any (w.heap.size + 1) _ _ HGD (by show (out).length < _; first | omega | (rw [List.length_append]; show out.length + 1 < _; omega)) (by show 0 ≤ drop; omega)
          have HL3 := HW3.out.size
          clear z7 z8 HGD
          go_wp2_with (first | (go_at_call 212; refine cD.mono ?_; rintro e w4 ⟨⟨v4, rfl⟩, hg4, hb4⟩; have HG4 : Hid _ := hg4; have HB4 : Hid _ := hb4; clear hg4 hb4) | fail)
          go_roundw
          case rel => exact ⟨k + 1, by omega, by go_num, by rw [HST.out] <;> first | rfl | go_num, by rw [HST.out]; exact HG4.out, (HB4.out.cell (p := ⟨w.heap.size, 0, none⟩) (by show w.heap.size < _; omega)).trans Z7.out, (HB4.out.cell (p := ⟨w.heap.size, 1, none⟩) (by show w.heap.size < _; omega)).trans Z8.out, HW3.out.trans (HB4.out.mono (show w.heap.size ≤ w.heap.size + 1 by omega))⟩
          case measure => simp [intOf]; omega
      · cases d with
        | true =>
          by_cases hkp : (0 : Int) < keep
          · skip
            have hqe : q.isEmpty = false := by simpa using hq
            go_wp2_with (first | (at_builtin; refine wpList_append_own _ rfl _ _ 23 rfl (w.heap.size + 1 + 3) 50 i0 (.agg #[.int .i64 0, .int .i64 0, .string ⟨#[]⟩]) 3 32 Tryz.underlying23 hi hz0 hz1 hz2 rfl (by decide) _ _ _ rfl (HO.out.alloc _) ⟨wr.heap.size, 0, none⟩ 1 1 (partCells ⟨keep, 0, []⟩) rfl rfl (cells_new _ _ _) (partCells_one _) (by unfold maxLen; omega) (by omega) (by first | omega | (simp; omega)) ?_) | fail)
            intro v1 w1 hown1 hg1 _
            have P1 := rgath_push (q := ⟨keep, 0, []⟩) HG.out HC.out hown1 hg1
            obtain ⟨p1, q1, hv1⟩ := own_slice hown1
            rw [hv1] at P1 ⊢
            obtain ⟨G1, B1, hb1, r1, r2⟩ := P1
            have k3 := (hb1.cell (p := ⟨w.heap.size + 1 + 1, 0, none⟩) (by show w.heap.size + 1 + 1 < _; omega)).trans o3
            have k4 := (hb1.frozen (p := ⟨w.heap.size + 1 + 1, 0, none⟩) (by show w.heap.size + 1 + 1 < _; omega)).trans o4
            have k5 := (hb1.cell (p := ⟨w.heap.size + 1 + 2, 0, none⟩) (by show w.heap.size + 1 + 2 < _; omega)).trans o5
            have k6 := (hb1.frozen (p := ⟨w.heap.size + 1 + 2, 0, none⟩) (by show w.heap.size + 1 + 2 < _; omega)).trans o6
            have k7 := (hb1.cell (p := ⟨w.heap.size, 0, none⟩) (by show w.heap.size < _; omega)).trans b0
            have k8 := (hb1.cell (p := ⟨w.heap.size, 1, none⟩) (by show w.heap.size < _; omega)).trans b1
            have k9 := (hb1.cell (p := ⟨g1, k, none⟩) (by show g1 < _; omega)).trans c1
            have k10 := (hb1.cell (p := ⟨g2, k, none⟩) (by show g2 < _; omega)).trans c2
            have HG2 : Hid (rgath (w1.setCell ⟨w.heap.size + 1, 0, none⟩ (.slice p1 (out.length + 1) q1)) (w.heap.size + 1) ⟨out ++ [⟨keep, 0, []⟩], put, drop⟩) := G1
            have HW2 : Hid (Below w.heap.size w (w1.setCell ⟨w.heap.size + 1, 0, none⟩ (.slice p1 (out.length + 1) q1))) := HW.out.trans (B1.mono (by omega))
            clear hown1 hg1 hv1 G1 B1 hb1 o0 o2 o3 o4 o5 o6 b0 b1 c1 HG HC HO HW c2
            go_wp2
            have m3 := (cell_set_ne (show w.heap.size + 1 + 1 ≠ w.heap.size + 1 by omega) (.slice p1 (out.length + 1) q1)).trans k3
            have m4 : (w1.setCell ⟨w.heap.size + 1, 0, none⟩ (.slice p1 (out.length + 1) q1)).frozen? ⟨w.heap.size + 1 + 1, 0, none⟩ = false := by rw [World.frozen?_setCell]; exact k4
            have m5 := (cell_set_ne (show w.heap.size + 1 + 2 ≠ w.heap.size + 1 by omega) (.slice p1 (out.length + 1) q1)).trans k5
            have m6 : (w1.setCell ⟨w.heap.size + 1, 0, none⟩ (.slice p1 (out.length + 1) q1)).frozen? ⟨w.heap.size + 1 + 2, 0, none⟩ = false := by rw [World.frozen?_setCell]; exact k6
            have m7 := (cell_set_ne (show w.heap.size ≠ w.heap.size + 1 by omega) (.slice p1 (out.length + 1) q1)).trans k7
            have m8 := (cell_set_ne (show w.heap.size ≠ w.heap.size + 1 by omega) (.slice p1 (out.length + 1) q1)).trans k8
            have m9 := (cell_set_ne (show g1 ≠ w.heap.size + 1 by omega) (.slice p1 (out.length + 1) q1)).trans k9
            have m10 := (cell_set_ne (show g2 ≠ w.heap.size + 1 by omega) (.slice p1 (out.length + 1) q1)).trans k10
            clear k3 k4 k5 k6 k7 k8 k9 r1 r2 k10
            generalize w1.setCell ⟨w.heap.size + 1, 0, none⟩ (.slice p1 (out.length + 1) q1) = W2 at *
            have hl2 := rgath_lt HG2.out
            have P3 := rgath_put HG2.out (put ++ q)
            have HG3 : Hid (rgath (W2.setCell ⟨w.heap.size + 1 + 1, 0, none⟩ (.string ⟨(put ++ q).toArray⟩)) (w.heap.size + 1) ⟨out ++ [⟨keep, 0, []⟩], put ++ q, drop⟩) := P3.1
            have HW3 : Hid (Below w.heap.size w (W2.setCell ⟨w.heap.size + 1 + 1, 0, none⟩ (.string ⟨(put ++ q).toArray⟩))) := HW2.out.trans (P3.2.mono (show w.heap.size ≤ w.heap.size + 1 by omega))
            clear P3
            go_region
            have HST : Hid ((G.1.take (k + 1)).foldl stepK kst0 = ⟨out ++ [⟨keep, 0, []⟩], put ++ q, drop + 1, 0⟩) := by
              show _ = _
              rw [hst]
              show byteK (flushK ⟨out, put, drop, keep⟩ q true) true = _
              unfold flushK
              rw [if_pos (.inl hq)]
              have hi0 : ∀ (x y : List Pt), (if 0 < keep then x else y) = x := fun x y => if_pos hkp
              have hi1 : (if 0 < keep then (0 : Int) else keep) = 0 := if_pos hkp
              simp only [hi0, hi1]
              rfl
            clear hst
            have z7 : (W2.setCell ⟨w.heap.size + 1 + 1, 0, none⟩ (.string ⟨(put ++ q).toArray⟩)).cell? ⟨w.heap.size, 0, none⟩ = some (.slice (some ⟨g1, 0, none⟩) (n + 1) (n + 1)) := (cell_set_ne (show w.heap.size ≠ w.heap.size + 1 + 1 by omega) _).trans m7
            have z8 : (W2.setCell ⟨w.heap.size + 1 + 1, 0, none⟩ (.string ⟨(put ++ q).toArray⟩)).cell? ⟨w.heap.size, 1, none⟩ = some (.slice (some ⟨g2, 0, none⟩) n n) := (cell_set_ne (show w.heap.size ≠ w.heap.size + 1 + 1 by omega) _).trans m8
            have Z7 : Hid _ := z7
            have Z8 : Hid _ := z8
            have P4 := rgath_drop HG3.out (drop + 1)
            have HP4 : Hid _ := rgath_below P4.1 (Below.refl _ _).drew
            have HP5 : Hid _ := (HW3.out.trans (P4.2.mono (show w.heap.size ≤ w.heap.size + 1 by omega))).drew
            clear P4 z7 z8
            go_wp2
            go_roundw
            case rel => exact ⟨k + 1, by omega, by go_num, by rw [HST.out], by rw [HST.out]; exact HP4.out, (cell_set_ne (show w.heap.size ≠ w.heap.size + 1 + 2 by omega) _).trans Z7.out, (cell_set_ne (show w.heap.size ≠ w.heap.size + 1 + 2 by omega) _).trans Z8.out, HP5.out⟩
            case measure => simp [intOf]; omega
          · skip
            have hqe : q.isEmpty = false := by simpa using hq
            have hkp' : ¬ (0 : Int) < keep := hkp
            go_wp2
            have m3 := o3
            have m4 := o4
            have m5 := o5
            have m6 := o6
            have m7 := b0
            have m8 := b1
            have m9 := c1
            have HG2 := HG
            have HW2 := HW
            have m10 := c2
            clear o0 o2 o3 o4 o5 o6 b0 b1 c1 HG HC HO HW c2
            obtain ⟨W2, hW2⟩ : ∃ W, W = wr := ⟨_, rfl⟩
            rw [← hW2] at m3 m4 m5 m6 m7 m8 m9 m10 HG2 HW2 lt1' ⊢
            clear hW2
            have hl2 := rgath_lt HG2.out
            have P3 := rgath_put HG2.out (put ++ q)
            have HG3 : Hid (rgath (W2.setCell ⟨w.heap.size + 1 + 1, 0, none⟩ (.string ⟨(put ++ q).toArray⟩)) (w.heap.size + 1) ⟨out, put ++ q, drop⟩) := P3.1
            have HW3 : Hid (Below w.heap.size w (W2.setCell ⟨w.heap.size + 1 + 1, 0, none⟩ (.string ⟨(put ++ q).toArray⟩))) := HW2.out.trans (P3.2.mono (show w.heap.size ≤ w.heap.size + 1 by omega))
            clear P3
            go_region
            have HST : Hid ((G.1.take (k + 1)).foldl stepK kst0 = ⟨out, put ++ q, drop + 1, keep⟩) := by
              show _ = _
              rw [hst]
              show byteK (flushK ⟨out, put, drop, keep⟩ q true) true = _
              unfold flushK
              rw [if_pos (.inl hq)]
              have hi0 : ∀ (x y : List Pt), (if 0 < keep then x else y) = y := fun x y => if_neg (by omega)
              have hi1 : (if 0 < keep then (0 : Int) else keep) = keep := if_neg (by omega)
              simp only [hi0, hi1]
              rfl
            clear hst
            have z7 : (W2.setCell ⟨w.heap.size + 1 + 1, 0, none⟩ (.string ⟨(put ++ q).toArray⟩)).cell? ⟨w.heap.size, 0, none⟩ = some (.slice (some ⟨g1, 0, none⟩) (n + 1) (n + 1)) := (cell_set_ne (show w.heap.size ≠ w.heap.size + 1 + 1 by omega) _).trans m7
            have z8 : (W2.setCell ⟨w.heap.size + 1 + 1, 0, none⟩ (.string ⟨(put ++ q).toArray⟩)).cell? ⟨w.heap.size, 1, none⟩ = some (.slice (some ⟨g2, 0, none⟩) n n) := (cell_set_ne (show w.heap.size ≠ w.heap.size + 1 + 1 by omega) _).trans m8
            have Z7 : Hid _ := z7
            have Z8 : Hid _ := z8
            have P4 := rgath_drop HG3.out (drop + 1)
            have HP4 : Hid _ := rgath_below P4.1 (Below.refl _ _).drew
            have HP5 : Hid _ := (HW3.out.trans (P4.2.mono (show w.heap.size ≤ w.heap.size + 1 by omega))).drew
            clear P4 z7 z8
            go_wp2
            go_roundw
            case rel => exact ⟨k + 1, by omega, by go_num, by rw [HST.out], by rw [HST.out]; exact HP4.out, (cell_set_ne (show w.heap.size ≠ w.heap.size + 1 + 2 by omega) _).trans Z7.out, (cell_set_ne (show w.heap.size ≠ w.heap.size + 1 + 2 by omega) _).trans Z8.out, HP5.out⟩
            case measure => simp [intOf]; omega
        | false =>
          by_cases hkp : (0 : Int) < keep
          · skip
            have hqe : q.isEmpty = false := by simpa using hq
            go_wp2_with (first | (at_builtin; refine wpList_append_own _ rfl _ _ 23 rfl (w.heap.size + 1 + 3) 50 i0 (.agg #[.int .i64 0, .int .i64 0, .string ⟨#[]⟩]) 3 32 Tryz.underlying23 hi hz0 hz1 hz2 rfl (by decide) _ _ _ rfl (HO.out.alloc _) ⟨wr.heap.size, 0, none⟩ 1 1 (partCells ⟨keep, 0, []⟩) rfl rfl (cells_new _ _ _) (partCells_one _) (by unfold maxLen; omega) (by omega) (by first | omega | (simp; omega)) ?_) | fail)
            intro v1 w1 hown1 hg1 _
            have P1 := rgath_push (q := ⟨keep, 0, []⟩) HG.out HC.out hown1 hg1
            obtain ⟨p1, q1, hv1⟩ := own_slice hown1
            rw [hv1] at P1 ⊢
            obtain ⟨G1, B1, hb1, r1, r2⟩ := P1
            have k3 := (hb1.cell (p := ⟨w.heap.size + 1 + 1, 0, none⟩) (by show w.heap.size + 1 + 1 < _; omega)).trans o3
            have k4 := (hb1.frozen (p := ⟨w.heap.size + 1 + 1, 0, none⟩) (by show w.heap.size + 1 + 1 < _; omega)).trans o4
            have k5 := (hb1.cell (p := ⟨w.heap.size + 1 + 2, 0, none⟩) (by show w.heap.size + 1 + 2 < _; omega)).trans o5
            have k6 := (hb1.frozen (p := ⟨w.heap.size + 1 + 2, 0, none⟩) (by show w.heap.size + 1 + 2 < _; omega)).trans o6
            have k7 := (hb1.cell (p := ⟨w.heap.size, 0, none⟩) (by show w.heap.size < _; omega)).trans b0
            have k8 := (hb1.cell (p := ⟨w.heap.size, 1, none⟩) (by show w.heap.size < _; omega)).trans b1
            have k9 := (hb1.cell (p := ⟨g1, k, none⟩) (by show g1 < _; omega)).trans c1
            have k10 := (hb1.cell (p := ⟨g2, k, none⟩) (by show g2 < _; omega)).trans c2
            have HG2 : Hid (rgath (w1.setCell ⟨w.heap.size + 1, 0, none⟩ (.slice p1 (out.length + 1) q1)) (w.heap.size + 1) ⟨out ++ [⟨keep, 0, []⟩], put, drop⟩) := G1
            have HW2 : Hid (Below w.heap.size w (w1.setCell ⟨w.heap.size + 1, 0, none⟩ (.slice p1 (out.length + 1) q1))) := HW.out.trans (B1.mono (by omega))
            clear hown1 hg1 hv1 G1 B1 hb1 o0 o2 o3 o4 o5 o6 b0 b1 c1 HG HC HO HW c2
            go_wp2
            have m3 := (cell_set_ne (show w.heap.size + 1 + 1 ≠ w.heap.size + 1 by omega) (.slice p1 (out.length + 1) q1)).trans k3
            have m4 : (w1.setCell ⟨w.heap.size + 1, 0, none⟩ (.slice p1 (out.length + 1) q1)).frozen? ⟨w.heap.size + 1 + 1, 0, none⟩ = false := by rw [World.frozen?_setCell]; exact k4
            have m5 := (cell_set_ne (show w.heap.size + 1 + 2 ≠ w.heap.size + 1 by omega) (.slice p1 (out.length + 1) q1)).trans k5
            have m6 : (w1.setCell ⟨w.heap.size + 1, 0, none⟩ (.slice p1 (out.length + 1) q1)).frozen? ⟨w.heap.size + 1 + 2, 0, none⟩ = false := by rw [World.frozen?_setCell]; exact k6
            have m7 := (cell_set_ne (show w.heap.size ≠ w.heap.size + 1 by omega) (.slice p1 (out.length + 1) q1)).trans k7
            have m8 := (cell_set_ne (show w.heap.size ≠ w.heap.size + 1 by omega) (.slice p1 (out.length + 1) q1)).trans k8
            have m9 := (cell_set_ne (show g1 ≠ w.heap.size + 1 by omega) (.slice p1 (out.length + 1) q1)).trans k9
            have m10 := (cell_set_ne (show g2 ≠ w.heap.size + 1 by omega) (.slice p1 (out.length + 1) q1)).trans k10
            clear k3 k4 k5 k6 k7 k8 k9 r1 r2 k10
            generalize w1.setCell ⟨w.heap.size + 1, 0, none⟩ (.slice p1 (out.length + 1) q1) = W2 at *
            have hl2 := rgath_lt HG2.out
            have P3 := rgath_put HG2.out (put ++ q)
            have HG3 : Hid (rgath (W2.setCell ⟨w.heap.size + 1 + 1, 0, none⟩ (.string ⟨(put ++ q).toArray⟩)) (w.heap.size + 1) ⟨out ++ [⟨keep, 0, []⟩], put ++ q, drop⟩) := P3.1
            have HW3 : Hid (Below w.heap.size w (W2.setCell ⟨w.heap.size + 1 + 1, 0, none⟩ (.string ⟨(put ++ q).toArray⟩))) := HW2.out.trans (P3.2.mono (show w.heap.size ≤ w.heap.size + 1 by omega))
            clear P3
            go_region
            have HST : Hid ((G.1.take (k + 1)).foldl stepK kst0 = ⟨tellP ⟨out ++ [⟨keep, 0, []⟩], put ++ q, drop⟩, [], 0, 0 + 1⟩) := by
              show _ = _
              rw [hst]
              show byteK (flushK ⟨out, put, drop, keep⟩ q false) false = _
              unfold flushK
              rw [if_pos (.inl hq)]
              have hi0 : ∀ (x y : List Pt), (if 0 < keep then x else y) = x := fun x y => if_pos hkp
              have hi1 : (if 0 < keep then (0 : Int) else keep) = 0 := if_pos hkp
              simp only [hi0, hi1]
              rfl
            clear hst
            have z7 : (W2.setCell ⟨w.heap.size + 1 + 1, 0, none⟩ (.string ⟨(put ++ q).toArray⟩)).cell? ⟨w.heap.size, 0, none⟩ = some (.slice (some ⟨g1, 0, none⟩) (n + 1) (n + 1)) := (cell_set_ne (show w.heap.size ≠ w.heap.size + 1 + 1 by omega) _).trans m7
            have z8 : (W2.setCell ⟨w.heap.size + 1 + 1, 0, none⟩ (.string ⟨(put ++ q).toArray⟩)).cell? ⟨w.heap.size, 1, none⟩ = some (.slice (some ⟨g2, 0, none⟩) n n) := (cell_set_ne (show w.heap.size ≠ w.heap.size + 1 + 1 by omega) _).trans m8
            have Z7 : Hid _ := z7
            have Z8 : Hid _ := z8
            have HGD := rgath_below HG3.out (Below.refl _ _).drew
            have cD := refDone_any (w.heap.size + 1) _ _ HGD (by show (out ++ [(⟨keep, 0, []⟩ : Pt)]).length < _; first | omega | (rw [List.length_append]; show out.length + 1 < _; omega)) (by show 0 ≤ drop; omega)
            have HL3 := HW3.out.size
            clear z7 z8 HGD
            go_wp2_with (first | (go_at_call 212; refine cD.mono ?_; rintro e w4 ⟨⟨v4, rfl⟩, hg4, hb4⟩; have HG4 : Hid _ := hg4; have HB4 : Hid _ := hb4; clear hg4 hb4) | fail)
            go_roundw
            case rel => exact ⟨k + 1, by omega, by go_num, by rw [HST.out] <;> first | rfl | go_num, by rw [HST.out]; exact HG4.out, (HB4.out.cell (p := ⟨w.heap.size, 0, none⟩) (by show w.heap.size < _; omega)).trans Z7.out, (HB4.out.cell (p := ⟨w.heap.size, 1, none⟩) (by show w.heap.size < _; omega)).trans Z8.out, HW3.out.drew.trans (HB4.out.mono (show w.heap.size ≤ w.heap.size + 1 by omega))⟩
            case measure => simp [intOf]; omega
          · skip
            have hqe : q.isEmpty = false := by simpa using hq
            have hkp' : ¬ (0 : Int) < keep := hkp
            go_wp2
            have m3 := o3
            have m4 := o4
            have m5 := o5
            have m6 := o6
            have m7 := b0
            have m8 := b1
            have m9 := c1
            have HG2 := HG
            have HW2 := HW
            have m10 := c2
            clear o0 o2 o3 o4 o5 o6 b0 b1 c1 HG HC HO HW c2
            obtain ⟨W2, hW2⟩ : ∃ W, W = wr := ⟨_, rfl⟩
            rw [← hW2] at m3 m4 m5 m6 m7 m8 m9 m10 HG2 HW2 lt1' ⊢
            clear hW2
            have hl2 := rgath_lt HG2.out
            have P3 := rgath_put HG2.out (put ++ q)
            have HG3 : Hid (rgath (W2.setCell ⟨w.heap.size + 1 + 1, 0, none⟩ (.string ⟨(put ++ q).toArray⟩)) (w.heap.size + 1) ⟨out, put ++ q, drop⟩) := P3.1
            have HW3 : Hid (Below w.heap.size w (W2.setCell ⟨w.heap.size + 1 + 1, 0, none⟩ (.string ⟨(put ++ q).toArray⟩))) := HW2.out.trans (P3.2.mono (show w.heap.size ≤ w.heap.size + 1 by omega))
            clear P3
            go_region
            have HST : Hid ((G.1.take (k + 1)).foldl stepK kst0 = ⟨tellP ⟨out, put ++ q, drop⟩, [], 0, keep + 1⟩) := by
              show _ = _
              rw [hst]
              show byteK (flushK ⟨out, put, drop, keep⟩ q false) false = _
              unfold flushK
              rw [if_pos (.inl hq)]
              have hi0 : ∀ (x y : List Pt), (if 0 < keep then x else y) = y := fun x y => if_neg (by omega)
              have hi1 : (if 0 < keep then (0 : Int) else keep) = keep := if_neg (by omega)
              simp only [hi0, hi1]
              rfl
            clear hst
            have z7 : (W2.setCell ⟨w.heap.size + 1 + 1, 0, none⟩ (.string ⟨(put ++ q).toArray⟩)).cell? ⟨w.heap.size, 0, none⟩ = some (.slice (some ⟨g1, 0, none⟩) (n + 1) (n + 1)) := (cell_set_ne (show w.heap.size ≠ w.heap.size + 1 + 1 by omega) _).trans m7
            have z8 : (W2.setCell ⟨w.heap.size + 1 + 1, 0, none⟩ (.string ⟨(put ++ q).toArray⟩)).cell? ⟨w.heap.size, 1, none⟩ = some (.slice (some ⟨g2, 0, none⟩) n n) := (cell_set_ne (show w.heap.size ≠ w.heap.size + 1 + 1 by omega) _).trans m8
            have Z7 : Hid _ := z7
            have Z8 : Hid _ := z8
            have HGD := rgath_below HG3.out (Below.refl _ _).drew
            have cD := refDone_any (w.heap.size + 1) _ _ HGD (by show (out).length < _; first | omega | (rw [List.length_append]; show out.length + 1 < _; omega)) (by show 0 ≤ drop; omega)
            have HL3 := HW3.out.size
            clear z7 z8 HGD
            go_wp2_with (first | (go_at_call 212; refine cD.mono ?_; rintro e w4 ⟨⟨v4, rfl⟩, hg4, hb4⟩; have HG4 : Hid _ := hg4; have HB4 : Hid _ := hb4; clear hg4 hb4) | fail)
            go_roundw
            case rel => exact ⟨k + 1, by omega, by go_num, by rw [HST.out] <;> first | rfl | go_num, by rw [HST.out]; exact HG4.out, (HB4.out.cell (p := ⟨w.heap.size, 0, none⟩) (by show w.heap.size < _; omega)).trans Z7.out, (HB4.out.cell (p := ⟨w.heap.size, 1, none⟩) (by show w.heap.size < _; omega)).trans Z8.out, HW3.out.drew.trans (HB4.out.mono (show w.heap.size ≤ w.heap.size + 1 by omega))⟩
            case measure => simp [intOf]; omega
    · have hke : k = n := by omega
      have e1 := H1.out k G.2 (by rw [List.getElem?_append_right (by rw [List.length_map, HN.out]; omega), List.length_map, HN.out, hke, Nat.sub_self]; rfl)
      have c1 := (hwr.cell (p := ⟨g1, k, none⟩) lt1).trans e1
      have hta : G.1.take k = G.1 := List.take_of_length_le (by rw [HN.out]; omega)
      rw [hta] at hg hbd ⊢
      have HGP : Hid (gatherP G = endK (flushK (G.1.foldl stepK kst0) G.2 false)) := by show _ = _; rfl
      have hql := HSZ.out
      generalize G.2 = q at *
      generalize G.1.foldl stepK kst0 = K at *
      obtain ⟨out, put, drop, keep⟩ := K
      have hbd' := hbd
      obtain ⟨f1, f2, f3, f4, f5, f6⟩ := hbd'
      simp only at f1 f2 f3 f4 f5 f6 c1 hg ⊢
      unfold strV at c1
      have hcat := str_append put q
      have hcb : ¬ 9223372036854775807 < put.length + q.length := by omega
      have HG : Hid (rgath wr (w.heap.size + 1) ⟨out, put, drop⟩) := hg
      obtain ⟨⟨p, c, o0, o1⟩, o2, o3, o4, o5, o6⟩ := hg
      have HO : Hid (wr.ownsRow (w.heap.size + 1 + 3) 50 3 (.slice p out.length c) out.length (cellsP out)) := o1
      have HC : Hid (wr.cell? ⟨w.heap.size + 1, 0, none⟩ = some (.slice p out.length c)) := o0
      have HW : Hid (Below w.heap.size w wr) := hwr
      have lt1' : g1 < wr.heap.size := Nat.lt_of_lt_of_le lt1 hwr.size
      have hkz : (k : Int) < (n : Int) + 1 := by omega
      have hkz2 : ¬ (k : Int) < (n : Int) := by omega
      have hkb : ((k : Int) == (n : Int)) = true := beq_iff_eq.2 (by omega)
      have hol : out.length < 500000000 := by omega
      clear e1 o1 hwr hbd hpt hql hta hke
      by_cases hq : q = []
      · by_cases hkp : (0 : Int) < keep
        · skip
          have hqe : q.isEmpty = true := by simpa using hq
          have HRES : Hid (gatherP G = tellP ⟨out ++ [⟨keep, 0, []⟩], put, drop⟩) := by
            show _ = _
            rw [HGP.out]
            simp [endK, flushK, hq, hkp]
          go_wp2_with (first | (at_builtin; refine wpList_append_own _ rfl _ _ 23 rfl (w.heap.size + 1 + 3) 50 i0 (.agg #[.int .i64 0, .int .i64 0, .string ⟨#[]⟩]) 3 32 Tryz.underlying23 hi hz0 hz1 hz2 rfl (by decide) _ _ _ rfl (HO.out.alloc _) ⟨wr.heap.size, 0, none⟩ 1 1 (partCells ⟨keep, 0, []⟩) rfl rfl (cells_new _ _ _) (partCells_one _) (by unfold maxLen; omega) (by omega) (by first | omega | (simp; omega)) ?_) | fail)
          intro v1 w1 hown1 hg1 _
          have P1 := rgath_push (q := ⟨keep, 0, []⟩) HG.out HC.out hown1 hg1
          obtain ⟨p1, q1, hv1⟩ := own_slice hown1
          rw [hv1] at P1 ⊢
          obtain ⟨G1, B1, hb1, r1, r2⟩ := P1
          have k3 := (hb1.cell (p := ⟨w.heap.size + 1 + 1, 0, none⟩) (by show w.heap.size + 1 + 1 < _; omega)).trans o3
          have k4 := (hb1.frozen (p := ⟨w.heap.size + 1 + 1, 0, none⟩) (by show w.heap.size + 1 + 1 < _; omega)).trans o4
          have k5 := (hb1.cell (p := ⟨w.heap.size + 1 + 2, 0, none⟩) (by show w.heap.size + 1 + 2 < _; omega)).trans o5
          have k6 := (hb1.frozen (p := ⟨w.heap.size + 1 + 2, 0, none⟩) (by show w.heap.size + 1 + 2 < _; omega)).trans o6
          have k7 := (hb1.cell (p := ⟨w.heap.size, 0, none⟩) (by show w.heap.size < _; omega)).trans b0
          have k8 := (hb1.cell (p := ⟨w.heap.size, 1, none⟩) (by show w.heap.size < _; omega)).trans b1
          have k9 := (hb1.cell (p := ⟨g1, k, none⟩) (by show g1 < _; omega)).trans c1
          have HG2 : Hid (rgath (w1.setCell ⟨w.heap.size + 1, 0, none⟩ (.slice p1 (out.length + 1) q1)) (w.heap.size + 1) ⟨out ++ [⟨keep, 0, []⟩], put, drop⟩) := G1
          have HW2 : Hid (Below w.heap.size w (w1.setCell ⟨w.heap.size + 1, 0, none⟩ (.slice p1 (out.length + 1) q1))) := HW.out.trans (B1.mono (by omega))
          clear hown1 hg1 hv1 G1 B1 hb1 o0 o2 o3 o4 o5 o6 b0 b1 c1 HG HC HO HW
          have HG3 := HG2
          have HW3 := HW2
          have cD := refDone_any (w.heap.size + 1) _ _ HG3.out (by show (out ++ [(⟨keep, 0, []⟩ : Pt)]).length < _; first | omega | (rw [List.length_append]; show out.length + 1 < _; omega)) (by show 0 ≤ drop; omega)
          go_wp2_with (first | (go_at_call 212; refine cD.mono ?_; rintro e w4 ⟨⟨v4, rfl⟩, ⟨⟨p4, c4, h40, h41⟩, _⟩, hb4⟩; have HB4 : Hid (Below (w.heap.size + 1) _ w4) := hb4; clear hb4) | fail)
          go_ret
          exact ⟨_, rfl, by rw [HRES.out]; exact own_mono h41 (by omega), HW3.out.trans (HB4.out.mono (show w.heap.size ≤ w.heap.size + 1 by omega))⟩
        · skip
          have hqe : q.isEmpty = true := by simpa using hq
          have hkp' : ¬ (0 : Int) < keep := hkp
          have HRES : Hid (gatherP G = tellP ⟨out, put, drop⟩) := by
            show _ = _
            rw [HGP.out]
            simp [endK, flushK, hq, hkp]
          have HG3 := HG
          have HW3 := HW
          have cD := refDone_any (w.heap.size + 1) _ _ HG3.out (by show (out).length < _; first | omega | (rw [List.length_append]; show out.length + 1 < _; omega)) (by show 0 ≤ drop; omega)
          go_wp2_with (first | (go_at_call 212; refine cD.mono ?_; rintro e w4 ⟨⟨v4, rfl⟩, ⟨⟨p4, c4, h40, h41⟩, _⟩, hb4⟩; have HB4 : Hid (Below (w.heap.size + 1) _ w4) := hb4; clear hb4) | fail)
          go_ret
          exact ⟨_, rfl, by rw [HRES.out]; exact own_mono h41 (by omega), HW3.out.trans (HB4.out.mono (show w.heap.size ≤ w.heap.size + 1 by omega))⟩
      · by_cases hkp : (0 : Int) < keep
        · skip
          have hqe : q.isEmpty = false := by simpa using hq
          have HRES : Hid (gatherP G = tellP ⟨out ++ [⟨keep, 0, []⟩], put ++ q, drop⟩) := by
            show _ = _
            rw [HGP.out]
            simp [endK, flushK, hq, hkp]
          go_wp2_with (first | (at_builtin; refine wpList_append_own _ rfl _ _ 23 rfl (w.heap.size + 1 + 3) 50 i0 (.agg #[.int .i64 0, .int .i64 0, .string ⟨#[]⟩]) 3 32 Tryz.underlying23 hi hz0 hz1 hz2 rfl (by decide) _ _ _ rfl (HO.out.alloc _) ⟨wr.heap.size, 0, none⟩ 1 1 (partCells ⟨keep, 0, []⟩) rfl rfl (cells_new _ _ _) (partCells_one _) (by unfold maxLen; omega) (by omega) (by first | omega | (simp; omega)) ?_) | fail)
          intro v1 w1 hown1 hg1 _
          have P1 := rgath_push (q := ⟨keep, 0, []⟩) HG.out HC.out hown1 hg1
          obtain ⟨p1, q1, hv1⟩ := own_slice hown1
          rw [hv1] at P1 ⊢
          obtain ⟨G1, B1, hb1, r1, r2⟩ := P1
          have k3 := (hb1.cell (p := ⟨w.heap.size + 1 + 1, 0, none⟩) (by show w.heap.size + 1 + 1 < _; omega)).trans o3
          have k4 := (hb1.frozen (p := ⟨w.heap.size + 1 + 1, 0, none⟩) (by show w.heap.size + 1 + 1 < _; omega)).trans o4
          have k5 := (hb1.cell (p := ⟨w.heap.size + 1 + 2, 0, none⟩) (by show w.heap.size + 1 + 2 < _; omega)).trans o5
          have k6 := (hb1.frozen (p := ⟨w.heap.size + 1 + 2, 0, none⟩) (by show w.heap.size + 1 + 2 < _; omega)).trans o6
          have k7 := (hb1.cell (p := ⟨w.heap.size, 0, none⟩) (by show w.heap.size < _; omega)).trans b0
          have k8 := (hb1.cell (p := ⟨w.heap.size, 1, none⟩) (by show w.heap.size < _; omega)).trans b1
          have k9 := (hb1.cell (p := ⟨g1, k, none⟩) (by show g1 < _; omega)).trans c1
          have HG2 : Hid (rgath (w1.setCell ⟨w.heap.size + 1, 0, none⟩ (.slice p1 (out.length + 1) q1)) (w.heap.size + 1) ⟨out ++ [⟨keep, 0, []⟩], put, drop⟩) := G1
          have HW2 : Hid (Below w.heap.size w (w1.setCell ⟨w.heap.size + 1, 0, none⟩ (.slice p1 (out.length + 1) q1))) := HW.out.trans (B1.mono (by omega))
          clear hown1 hg1 hv1 G1 B1 hb1 o0 o2 o3 o4 o5 o6 b0 b1 c1 HG HC HO HW
          go_wp2
          have m3 := (cell_set_ne (show w.heap.size + 1 + 1 ≠ w.heap.size + 1 by omega) (.slice p1 (out.length + 1) q1)).trans k3
          have m4 : (w1.setCell ⟨w.heap.size + 1, 0, none⟩ (.slice p1 (out.length + 1) q1)).frozen? ⟨w.heap.size + 1 + 1, 0, none⟩ = false := by rw [World.frozen?_setCell]; exact k4
          have m5 := (cell_set_ne (show w.heap.size + 1 + 2 ≠ w.heap.size + 1 by omega) (.slice p1 (out.length + 1) q1)).trans k5
          have m6 : (w1.setCell ⟨w.heap.size + 1, 0, none⟩ (.slice p1 (out.length + 1) q1)).frozen? ⟨w.heap.size + 1 + 2, 0, none⟩ = false := by rw [World.frozen?_setCell]; exact k6
          have m7 := (cell_set_ne (show w.heap.size ≠ w.heap.size + 1 by omega) (.slice p1 (out.length + 1) q1)).trans k7
          have m8 := (cell_set_ne (show w.heap.size ≠ w.heap.size + 1 by omega) (.slice p1 (out.length + 1) q1)).trans k8
          have m9 := (cell_set_ne (show g1 ≠ w.heap.size + 1 by omega) (.slice p1 (out.length + 1) q1)).trans k9
          clear k3 k4 k5 k6 k7 k8 k9 r1 r2
          generalize w1.setCell ⟨w.heap.size + 1, 0, none⟩ (.slice p1 (out.length + 1) q1) = W2 at *
          have hl2 := rgath_lt HG2.out
          have P3 := rgath_put HG2.out (put ++ q)
          have HG3 : Hid (rgath (W2.setCell ⟨w.heap.size + 1 + 1, 0, none⟩ (.string ⟨(put ++ q).toArray⟩)) (w.heap.size + 1) ⟨out ++ [⟨keep, 0, []⟩], put ++ q, drop⟩) := P3.1
          have HW3 : Hid (Below w.heap.size w (W2.setCell ⟨w.heap.size + 1 + 1, 0, none⟩ (.string ⟨(put ++ q).toArray⟩))) := HW2.out.trans (P3.2.mono (show w.heap.size ≤ w.heap.size + 1 by omega))
          clear P3
          go_region
          have cD := refDone_any (w.heap.size + 1) _ _ (rgath_below HG3.out (Below.refl _ _).drew) (by show (out ++ [(⟨keep, 0, []⟩ : Pt)]).length < _; first | omega | (rw [List.length_append]; show out.length + 1 < _; omega)) (by show 0 ≤ drop; omega)
          go_wp2_with (first | (go_at_call 212; refine cD.mono ?_; rintro e w4 ⟨⟨v4, rfl⟩, ⟨⟨p4, c4, h40, h41⟩, _⟩, hb4⟩; have HB4 : Hid (Below (w.heap.size + 1) _ w4) := hb4; clear hb4) | fail)
          go_ret
          exact ⟨_, rfl, by rw [HRES.out]; exact own_mono h41 (by omega), HW3.out.drew.trans (HB4.out.mono (show w.heap.size ≤ w.heap.size + 1 by omega))⟩
        · skip
          have hqe : q.isEmpty = false := by simpa using hq
          have hkp' : ¬ (0 : Int) < keep := hkp
          have HRES : Hid (gatherP G = tellP ⟨out, put ++ q, drop⟩) := by
            show _ = _
            rw [HGP.out]
            simp [endK, flushK, hq, hkp]
          go_wp2
          have m3 := o3
          have m4 := o4
          have m5 := o5
          have m6 := o6
          have m7 := b0
          have m8 := b1
          have m9 := c1
          have HG2 := HG
          have HW2 := HW
          clear o0 o2 o3 o4 o5 o6 b0 b1 c1 HG HC HO HW
          obtain ⟨W2, hW2⟩ : ∃ W, W = wr := ⟨_, rfl⟩
          rw [← hW2] at m3 m4 m5 m6 m7 m8 m9 HG2 HW2 lt1' ⊢
          clear hW2
          have hl2 := rgath_lt HG2.out
          have P3 := rgath_put HG2.out (put ++ q)
          have HG3 : Hid (rgath (W2.setCell ⟨w.heap.size + 1 + 1, 0, none⟩ (.string ⟨(put ++ q).toArray⟩)) (w.heap.size + 1) ⟨out, put ++ q, drop⟩) := P3.1
          have HW3 : Hid (Below w.heap.size w (W2.setCell ⟨w.heap.size + 1 + 1, 0, none⟩ (.string ⟨(put ++ q).toArray⟩))) := HW2.out.trans (P3.2.mono (show w.heap.size ≤ w.heap.size + 1 by omega))
          clear P3
          go_region
          have cD := refDone_any (w.heap.size + 1) _ _ (rgath_below HG3.out (Below.refl _ _).drew) (by show (out).length < _; first | omega | (rw [List.length_append]; show out.length + 1 < _; omega)) (by show 0 ≤ drop; omega)
          go_wp2_with (first | (go_at_call 212; refine cD.mono ?_; rintro e w4 ⟨⟨v4, rfl⟩, ⟨⟨p4, c4, h40, h41⟩, _⟩, hb4⟩; have HB4 : Hid (Below (w.heap.size + 1) _ w4) := hb4; clear hb4) | fail)
          go_ret
          exact ⟨_, rfl, by rw [HRES.out]; exact own_mono h41 (by omega), HW3.out.drew.trans (HB4.out.mono (show w.heap.size ≤ w.heap.size + 1 by omega))⟩
end Go.Proofs.YtfedgjnhanlmeabGreatDoor

namespace Go.Proofs.YtfedgjnhanlmeabGreatDoor
open Go.RowKit
set_option linter.unusedVariables false

theorem opAt_grown {w w' : World} {v : Value} {ps : List Pt} (h : opAt w v ps) (hb : Below w.heap.size w w') : opAt w' v ps := opAt_below h hb (Nat.le_refl _)

theorem lensW_range (ps : List Pt) : -9223372036854775808 ≤ (lensW ps).1 ∧ (lensW ps).1 < 9223372036854775808 := by
  unfold lensW
  rcases List.eq_nil_or_concat ps with rfl | ⟨l, p, rfl⟩
  · simp
  · rw [List.concat_eq_append, List.foldl_append]
    show -9223372036854775808 ≤ IntKind.i64.wrap _ ∧ IntKind.i64.wrap _ < _
    rw [IntKind.wrap_i64]
    omega

theorem putsK_ticks (d : Bool) : ∀ (n : Nat) (g : GSt), putsK (ticks d n g).1 + (ticks d n g).2.length = putsK g.1 + g.2.length
  | 0, _ => rfl
  | n + 1, g => by
    rw [ticks, putsK_ticks d n]
    show putsK (g.1 ++ [(g.2, d)]) + 0 = _
    rw [putsK_snoc]
    rfl
theorem putsK_spreads (ps : List Pt) (h : ∀ p ∈ ps, soundP p) : ((putsK (spreads ps).1 + (spreads ps).2.length : Nat) : Int) ≤ wts ps := by
  have key : ∀ k, k ≤ ps.length → ((putsK (spreads (ps.take k)).1 + (spreads (ps.take k)).2.length : Nat) : Int) ≤ wts (ps.take k) := by
    intro k
    induction k with
    | zero => intro _; simp [spreads, putsK, wts]
    | succ k ih =>
      intro hk
      have h1 := ih (by omega)
      have hp := h _ (List.getElem_mem (show k < ps.length by omega))
      rw [List.take_succ_eq_append_getElem (by omega), spreads_snoc, wts_snoc]
      generalize ps[k] = q at *
      generalize spreads (ps.take k) = g at *
      obtain ⟨q1, q2⟩ := hp
      have hwq : wtP q = q.keep + q.drop + q.put.length := rfl
      have e : putsK (spreadP g q).1 + (spreadP g q).2.length = putsK g.1 + (g.2.length + q.put.length) := by
        unfold spreadP
        rw [putsK_ticks, putsK_ticks]
        show putsK g.1 + (g.2 ++ q.put).length = _
        rw [List.length_append]
      rw [e]
      omega
  have := key ps.length (Nat.le_refl _)
  rwa [List.take_length] at this

/-- The document's least form, gap by gap. -/
theorem refNorm_any (v : Value) (ps : List Pt) (w : World) (hr : opAt w v ps) (hs : ∀ p ∈ ps, soundP p) (hw : wts ps < 10000000) (hl : ps.length < 10000000) :
    Calls Tryz.prog 181 #[v] w fun e w' => ∃ g, e = .returned g ∧ Below w.heap.size w w' ∧
      Calls Tryz.prog 178 #[g] w' fun e w'' => ∃ v', e = .returned v' ∧ w''.ownsRow w'.heap.size 50 3 v' (normP ps).length (cellsP (normP ps)) ∧ Below w'.heap.size w' w'' := by
  refine (Spread_any v ps w hr hs hw hl _ rfl).mono ?_
  rintro e w' ⟨g1, g2, rfl, h1, h2, hb⟩
  refine ⟨_, rfl, hb, ?_⟩
  have hp := putsK_spreads ps hs
  have hn := (lens_plain ps hs (by omega)).2.2.1
  have := Gather_any g1 g2 (spreads ps).1.length (spreads ps) w' rfl (by omega) (by omega)
    (fun i q hi => by
      have hlt := (List.getElem?_eq_some_iff.1 hi).1
      rw [List.length_append, List.length_map, List.length_singleton] at hlt
      rw [h1.cellAt i (by omega), List.getElem?_map]
      have e : strsP (spreads ps).1.length (spreads ps) = (spreads ps).1.map (·.1) ++ [(spreads ps).2] := by simp [strsP]
      rw [e, hi]
      rfl)
    (fun i d hi => by
      have hlt := (List.getElem?_eq_some_iff.1 hi).1
      rw [List.length_map] at hlt
      rw [h2.cellAt i (by omega), List.getElem?_map]
      have e : boolsP (spreads ps).1.length (spreads ps) = (spreads ps).1.map (·.2) := by simp [boolsP]
      rw [e, hi]
      rfl)
    (h1.lt g1 rfl).2 (h2.lt g2 rfl).2
  rw [gather_norm ps hs] at this
  exact this

end Go.Proofs.YtfedgjnhanlmeabGreatDoor

namespace Go.Proofs.YtfedgjnhanlmeabGreatDoor
open Go.RowKit Go.Maps
set_option linter.unusedVariables false

/-- All blocks but some are as they were. -/
structure sameBut (w w' : World) (S : Nat → Prop) : Prop where
  size : w.heap.size ≤ w'.heap.size
  block : ∀ k, k < w.heap.size → ¬ S k → w'.heap[k]? = w.heap[k]?
  os : w'.os = w.os
  tape : w'.tape = w.tape
  output : w'.output = w.output
theorem sameBut_below {w w' : World} (h : Below w.heap.size w w') (S : Nat → Prop) : sameBut w w' S := ⟨h.size, fun k hk _ => h.block k hk, h.os, h.tape, h.output⟩
theorem sameBut.trans {w w' w'' : World} {S : Nat → Prop} (h : sameBut w w' S) (h' : sameBut w' w'' S) : sameBut w w'' S :=
  ⟨Nat.le_trans h.1 h'.1, fun k hk hs => (h'.2 k (Nat.lt_of_lt_of_le hk h.1) hs).trans (h.2 k hk hs), h'.os.trans h.os, h'.tape.trans h.tape, h'.output.trans h.output⟩
theorem sameBut.mono {w w' : World} {S S' : Nat → Prop} (h : sameBut w w' S) (hs : ∀ k, k < w.heap.size → S k → S' k) : sameBut w w' S' :=
  ⟨h.1, fun k hk hn => h.2 k hk fun e => hn (hs k hk e), h.os, h.tape, h.output⟩
theorem sameBut_set {w : World} {b o : Nat} {v : Value} {S : Nat → Prop} (hS : S b) : sameBut w (w.setCell ⟨b, o, none⟩ v) S :=
  ⟨by simp, fun k hk hn => Below.heap_setCell w ⟨b, o, none⟩ v k (fun e => hn (e ▸ hS)), rfl, rfl, rfl⟩
theorem sameBut_grown {w w' : World} {row : Option Nat} {S : Nat → Prop} (h : w.grownBy w' row) (hS : ∀ k, row = some k → S k) : sameBut w w' S :=
  ⟨h.size, fun k hk hn => h.block k hk fun e => hn (hS k e.symm), h.os, h.tape, h.output⟩

theorem cell_same {w w' : World} {S : Nat → Prop} (h : sameBut w w' S) {b o : Nat} {v : Value} (hc : w.cell? ⟨b, o, none⟩ = some v) (hS : ¬ S b) : w'.cell? ⟨b, o, none⟩ = some v :=
  (World.cell?_of_block (w := w) (a := ⟨b, o, none⟩) (h.2 b (World.block_lt_of_cell? w _ hc) hS)).trans hc

/-- An operation in a row of parts, or handed in. -/
def opX (lo : Nat) (w : World) (v : Value) (ps : List Pt) : Prop := opAt w v ps ∧ (ps ≠ [] → ∀ k, v.ownBlock = some k → k < lo ∨ ∃ cs fz, w.heap[k]? = some (.cells cs 50 fz))
def noPart (w : World) (k : Nat) : Prop := ∀ cs fz, w.heap[k]? ≠ some (.cells cs 50 fz)
theorem opX_of_new {B lo : Nat} {w : World} {v : Value} {ps : List Pt} (h : opN B w v ps) : opX lo w v ps := ⟨h.1, fun _ k hk => .inr (h.2 k hk).2⟩
theorem opX_own {B lo : Nat} {w : World} {v : Value} {ps : List Pt} (h : w.ownsRow B 50 3 v ps.length (cellsP ps)) : opX lo w v ps := opX_of_new (opN_own (Nat.le_refl B) h)
theorem opX_but {lo : Nat} {w w' : World} {v : Value} {ps : List Pt} {S : Nat → Prop} (h : opX lo w v ps) (hs : sameBut w w' S) (hS : ∀ k, S k → lo ≤ k ∧ noPart w k) : opX lo w' v ps := by
  obtain ⟨⟨p, c, rfl, h1, h2, h3⟩, ht⟩ := h
  have hn : ps ≠ [] → ∀ b o, p = some ⟨b, o, none⟩ → ¬ S b := fun hne b o e hSb => by
    obtain ⟨s1, s2⟩ := hS b hSb
    rcases ht hne b (by rw [e]; rfl) with h | ⟨cs, fz, h⟩
    · omega
    · exact s2 cs fz h
  refine ⟨⟨p, c, rfl, h1, h2, fun hne => ?_⟩, fun hne k hk => ?_⟩
  · obtain ⟨b, o, e, hb, hc⟩ := h3 hne
    refine ⟨b, o, e, Nat.lt_of_lt_of_le hb hs.1, fun i q hi => ?_⟩
    obtain ⟨c0, c1, c2⟩ := hc i q hi
    exact ⟨cell_same hs c0 (hn hne b o e), cell_same hs c1 (hn hne b o e), cell_same hs c2 (hn hne b o e)⟩
  · rcases ht hne k hk with h | ⟨cs, fz, h⟩
    · exact .inl h
    · refine .inr ⟨cs, fz, (hs.2 k (Array.getElem?_eq_some_iff.1 h).1 fun hSk => (hS k hSk).2 cs fz h).trans h⟩
theorem opX_grown {lo : Nat} {w w' : World} {v : Value} {ps : List Pt} (h : opX lo w v ps) (hb : Below w.heap.size w w') : opX lo w' v ps :=
  opX_but (S := fun _ => False) h (sameBut_below hb _) fun _ h => h.elim

/-- Who, which, and what. -/
structure SE where
  c : Int
  i : Int
  op : List Pt
def logC (E : List SE) (vs : List Value) : List Value := (E.zip vs).flatMap fun x => [.int .i64 x.1.c, .int .i64 x.1.i, x.2]
theorem logC_get : ∀ (E : List SE) (vs : List Value) (i : Nat) (x : SE) (v : Value), E[i]? = some x → vs[i]? = some v → (logC E vs)[i * 3]? = some (.int .i64 x.c) ∧ (logC E vs)[i * 3 + 1]? = some (.int .i64 x.i) ∧ (logC E vs)[i * 3 + 2]? = some v
  | [], _, _, _, _, h, _ => by simp at h
  | _ :: _, [], _, _, _, _, h => by simp at h
  | y :: E, u :: vs, 0, x, v, h, h2 => by
    obtain rfl : y = x := by simpa using h
    obtain rfl : u = v := by simpa using h2
    exact ⟨rfl, rfl, rfl⟩
  | y :: E, u :: vs, i + 1, x, v, h, h2 => by
    obtain ⟨a, b, c⟩ := logC_get E vs i x v (by simpa using h) (by simpa using h2)
    have e : logC (y :: E) (u :: vs) = .int .i64 y.c :: .int .i64 y.i :: u :: logC E vs := rfl
    have e1 : (i + 1) * 3 = i * 3 + 3 := by omega
    rw [e, e1]
    exact ⟨by simpa using a, by simpa using b, by simpa using c⟩
theorem logC_snoc (E : List SE) (vs : List Value) (h : vs.length = E.length) (x : SE) (v : Value) : logC (E ++ [x]) (vs ++ [v]) = logC E vs ++ [.int .i64 x.c, .int .i64 x.i, v] := by
  unfold logC
  rw [List.zip_append h.symm, List.flatMap_append]
  rfl
/-- A log: a row of entries. -/
def isLog (e : TypeId) (lo base : Nat) (w : World) (v1 : Value) (E : List SE) : Prop :=
  ∃ vs, vs.length = E.length ∧ w.ownsRow base e 3 v1 E.length (logC E vs) ∧ ∀ (i : Nat) (x : SE) (v : Value), E[i]? = some x → vs[i]? = some v → opX lo w v x.op
theorem own_same {w w' : World} {B e size n : Nat} {v : Value} {xs : List Value} {S : Nat → Prop} (h : w.ownsRow B e size v n xs) (hs : sameBut w w' S) (hS : ∀ k, v.ownBlock = some k → ¬ S k) : w'.ownsRow B e size v n xs := by
  obtain ⟨h0, hrow⟩ := h
  refine ⟨h0, ?_⟩
  rcases hrow with h1 | ⟨g, cap, cur, rfl, h2, h3, h4⟩
  · exact .inl h1
  · exact .inr ⟨g, cap, cur, rfl, h2, (hs.2 g (Array.getElem?_eq_some_iff.1 h3).1 (hS g rfl)).trans h3, h4⟩
theorem isLog_but {e lo base : Nat} {w w' : World} {v1 : Value} {E : List SE} {S : Nat → Prop} (h : isLog e lo base w v1 E) (hs : sameBut w w' S) (hS : ∀ k, S k → lo ≤ k ∧ noPart w k ∧ ∀ cs fz, w.heap[k]? ≠ some (.cells cs e fz)) : isLog e lo base w' v1 E := by
  obtain ⟨vs, h1, h2, h3⟩ := h
  refine ⟨vs, h1, own_same h2 hs fun k hk hSk => ?_, fun i x v hx hv => opX_but (h3 i x v hx hv) hs fun k hk => ⟨(hS k hk).1, (hS k hk).2.1⟩⟩
  rcases h2.2 with ⟨rfl, _⟩ | ⟨g, cap, cur, rfl, _, hg, _⟩
  · cases hk
  · obtain rfl : g = k := Option.some.inj hk
    exact (hS g hSk).2.2 _ _ hg
theorem isLog_below {e lo base : Nat} {w w' : World} {v1 : Value} {E : List SE} (h : isLog e lo base w v1 E) (hb : Below w.heap.size w w') : isLog e lo base w' v1 E :=
  isLog_but (S := fun _ => False) h (sameBut_below hb _) fun _ h => h.elim
theorem isLog_shape {e lo base : Nat} {w : World} {v1 : Value} {E : List SE} (h : isLog e lo base w v1 E) : ∃ p c, v1 = .slice p E.length c := by
  obtain ⟨vs, _, h2, _⟩ := h
  exact own_slice h2
/-- An entry's cells. -/
theorem isLog_at {e lo base : Nat} {w : World} {p : Option Addr} {n c : Nat} {E : List SE} (h : isLog e lo base w (.slice p n c) E) (hne : E ≠ []) : ∃ g, p = some ⟨g, 0, none⟩ ∧ g < w.heap.size ∧ n = E.length ∧ n ≤ c ∧ c ≤ maxLen ∧ ∀ i x, E[i]? = some x → ∃ v, w.cell? ⟨g, i * 3, none⟩ = some (.int .i64 x.c) ∧ w.cell? ⟨g, i * 3 + 1, none⟩ = some (.int .i64 x.i) ∧ w.cell? ⟨g, i * 3 + 2, none⟩ = some v ∧ opX lo w v x.op := by
  obtain ⟨vs, h1, ⟨h0, hrow⟩, h3⟩ := h
  rcases hrow with ⟨_, hz⟩ | ⟨g, cap, cur, hv, h4, h5, h6, h7, h8, h9⟩
  · exact absurd (List.eq_nil_of_length_eq_zero hz) hne
  · injection hv with hp hn hc
    subst hp hn hc
    refine ⟨g, rfl, (Array.getElem?_eq_some_iff.1 h5).1, rfl, h6, h7, fun i x hx => ?_⟩
    have hi : i < E.length := (List.getElem?_eq_some_iff.1 hx).1
    have hiv : i < vs.length := by omega
    have hv : vs[i]? = some vs[i] := List.getElem?_eq_getElem hiv
    obtain ⟨k0, k1, k2⟩ := logC_get E vs i x vs[i] hx hv
    have hc : ∀ j u, j < E.length * 3 → (logC E vs)[j]? = some u → w.cell? ⟨g, j, none⟩ = some u := fun j u hj hu => by
      have hcur : cur[j]? = some u := by
        rw [← Array.getElem?_toList]
        have := congrArg (·[j]?) h9
        simp only [List.getElem?_take, hj, if_true] at this
        rw [this, hu]
      unfold World.cell?
      simp [h5, hcur]
    exact ⟨vs[i], hc _ _ (by omega) k0, hc _ _ (by omega) k1, hc _ _ (by omega) k2, h3 i x vs[i] hx hv⟩

/-! maps of a number to two numbers -/
def pairD (a b : Int) : DataW Unit := .agg [.lit (.int .i64 a), .lit (.int .i64 b)]
def pairR (v : Value) : Option (DataW Unit × List MemPlace) :=
  match v with
  | .agg cs => (match cs.toList with
    | [.int k a, .int k' b] => if k = .i64 ∧ k' = .i64 then some (pairD a b, []) else none
    | _ => none)
  | _ => none
theorem pairR_mk (a b : Int) : pairR (.agg #[.int .i64 a, .int .i64 b]) = some (pairD a b, []) := rfl
theorem pairR_inv {v : Value} {a b : Int} {ps : List MemPlace} (h : pairR v = some (pairD a b, ps)) : v = .agg #[.int .i64 a, .int .i64 b] := by
  unfold pairR at h
  split at h
  · rename_i cs
    split at h
    · rename_i k x k' y e
      split at h
      · rename_i hk
        simp only [Option.some.injEq, Prod.mk.injEq, pairD, DataW.agg.injEq, List.cons.injEq, DataW.lit.injEq, Lit.int.injEq, true_and, and_true] at h
        obtain ⟨⟨h1, h2⟩, _⟩ := h
        rw [hk.1, hk.2, h1, h2] at e
        have : cs = #[.int .i64 a, .int .i64 b] := by
          apply Array.toList_inj.1
          rw [e]
        rw [this]
      · cases h
    · cases h
  · cases h
def rng (c : Int) : Prop := -9223372036854775808 ≤ c ∧ c < 9223372036854775808
theorem rng_wf {c : Int} (h : rng c) : (Lit.int .i64 c).wf = true := by
  unfold rng at h
  simp [Lit.wf, IntKind.min, IntKind.max, IntKind.signed, IntKind.bits]
  omega
abbrev Told := Int → Option (Int × Int)
def got (M : Told) (c : Int) : Int × Int := (M c).getD (0, 0)
def upd (M : Told) (c : Int) (x : Int × Int) : Told := fun k => if k = c then some x else M k
/-- A map that holds just so much. -/
def isLast (n : Nat) (w : World) (bm : Nat) (M : Told) : Prop :=
  ∃ D, w.ownsMap Tryz.prog 3 pairR bm n D ∧ ∀ c, rng c → D.atKey (.int .i64 c) (pairD 0 0) = pairD (got M c).1 (got M c).2 ∧ Maps.has D (.int .i64 c) = (M c).isSome
theorem intKey : Keyed Tryz.prog 3 := int_keyed Tryz.underlying3
theorem isLast_made (w : World) : isLast 0 (w.alloc (.map #[] 0)) w.heap.size fun _ => none :=
  ⟨.map [], World.ownsMap_made w _ _ _, fun c _ => ⟨rfl, rfl⟩⟩
theorem isLast_but {n : Nat} {w w' : World} {bm : Nat} {M : Told} {S : Nat → Prop} (h : isLast n w bm M) (hs : sameBut w w' S) (hS : ¬ S bm) : isLast n w' bm M := by
  obtain ⟨D, h1, h2⟩ := h
  refine ⟨D, ?_, h2⟩
  have hlt := h1.lt
  obtain ⟨es, clock, hb, F, hn, hD⟩ := h1
  exact ⟨es, clock, (hs.2 bm hlt hS).trans hb, F, hn, hD⟩
theorem isLast_look {n : Nat} {w : World} {bm : Nat} {M : Told} (h : isLast n w bm M) {t e : TypeId} (ht : Tryz.prog.underlying t = some (.map 3 e)) (hz : (zeroValue e).run Tryz.prog w = .ok (.agg #[.int .i64 0, .int .i64 0]) w) {c : Int} (hc : rng c) :
    (Instr.lookup t (.map (some bm)) (.int .i64 c) false).run Tryz.prog w = .ok (.agg #[.int .i64 (got M c).1, .int .i64 (got M c).2]) w := by
  obtain ⟨D, h1, h2⟩ := h
  obtain ⟨v, ps, hrun, hv⟩ := h1.lookup intKey ht hz (pairR_mk 0 0) (keyOf_int_mk Tryz.underlying3 (rng_wf hc))
  rw [(h2 c hc).1] at hv
  rw [hrun, pairR_inv hv]
theorem isLast_lookOk {n : Nat} {w : World} {bm : Nat} {M : Told} (h : isLast n w bm M) {t e : TypeId} (ht : Tryz.prog.underlying t = some (.map 3 e)) (hz : (zeroValue e).run Tryz.prog w = .ok (.agg #[.int .i64 0, .int .i64 0]) w) {c : Int} (hc : rng c) :
    (Instr.lookup t (.map (some bm)) (.int .i64 c) true).run Tryz.prog w = .ok (.tuple #[.agg #[.int .i64 (got M c).1, .int .i64 (got M c).2], .bool (M c).isSome]) w := by
  obtain ⟨D, h1, h2⟩ := h
  obtain ⟨v, ps, hrun, hv⟩ := h1.look_ok intKey ht hz (pairR_mk 0 0) (keyOf_int_mk Tryz.underlying3 (rng_wf hc))
  rw [(h2 c hc).1] at hv
  rw [hrun, pairR_inv hv, (h2 c hc).2]
theorem isLast_put {n : Nat} {w : World} {bm : Nat} {M : Told} (h : isLast n w bm M) (hn : n < 100000) {t e : TypeId} (ht : Tryz.prog.underlying t = some (.map 3 e)) {c : Int} (hc : rng c) (a b : Int) :
    ∃ w', (Instr.mapUpdate t (.map (some bm)) (.int .i64 c) (.agg #[.int .i64 a, .int .i64 b])).run Tryz.prog w = .ok () w' ∧ isLast (n + 1) w' bm (upd M c (a, b)) ∧ w.mapTurned w' bm := by
  obtain ⟨D, h1, h2⟩ := h
  obtain ⟨w', hrun, ho, ht'⟩ := h1.store intKey ht (by unfold maxLen; omega) (keyOf_int_mk Tryz.underlying3 (rng_wf hc)) (pairR_mk a b)
  have hM := h1.isMap
  refine ⟨w', hrun, ⟨_, ho, fun k hk => ?_⟩, ht'⟩
  by_cases hkc : k = c
  · subst hkc
    have hkl : WideAt.IsKeyLit (Lit.int .i64 k) := by trivial
    have g1 : got (upd M k (a, b)) k = (a, b) := by simp [got, upd]
    have g2 : (upd M k (a, b) k).isSome = true := by simp [upd]
    rw [g1, g2]
    exact ⟨atKey_put_same hM hkl _ _, has_put_same hM hkl _⟩
  · have hne : (Lit.int .i64 k) ≠ (Lit.int .i64 c) := fun e => by injection e with _ e2; exact hkc e2
    have g1 : got (upd M c (a, b)) k = got M k := by simp [got, upd, hkc]
    have g2 : (upd M c (a, b) k).isSome = (M k).isSome := by simp [upd, hkc]
    rw [g1, g2]
    exact ⟨(atKey_put_other hne _ _).trans (h2 k hk).1, (has_put_other hne _).trans (h2 k hk).2⟩
theorem turned_same {w w' : World} {bm : Nat} (h : w.mapTurned w' bm) {S : Nat → Prop} (hS : S bm) : sameBut w w' S := sameBut_grown h.grown fun k e => by
  obtain rfl := Option.some.inj e; exact hS
end Go.Proofs.YtfedgjnhanlmeabGreatDoor

namespace Go.Proofs.YtfedgjnhanlmeabGreatDoor
open Go.RowKit
set_option linter.unusedVariables false
attribute [local go_sem] Oper.semAt_some

/-- What is wrong with two operations, over as much as they keep and drop. -/
def bothE (a b : List Pt) : Int := if chkE a (lensW a).1 = 0 then chkE b (lensW b).1 else chkE a (lensW a).1

set_option maxHeartbeats 1000000 in
theorem isPut_any (p : Pt) (w : World) : Calls Tryz.prog 210 #[partV p] w fun e w' => e = .returned (.bool (decide (p.put ≠ []))) ∧ Below w.heap.size w w' := by
  obtain ⟨K, D, U⟩ := p
  have hz : (ByteArray.mk U.toArray).size = U.length := by simp [ByteArray.size]
  unfold partV
  go_enter Tryz.func210, Tryz.ntmps210
  go_wp2
  go_ret
  exact ⟨by cases U <;> simp, (Below.refl _ _).alloc (Nat.le_refl _) _⟩
set_option maxHeartbeats 1000000 in
theorem length_any (p : Pt) (w : World) (h0 : 0 ≤ p.keep ∧ 0 ≤ p.drop) (h1 : p.keep + p.drop + p.put.length < 4611686018427387904) : Calls Tryz.prog 231 #[partV p] w fun e w' => e = .returned (.int .i64 (p.keep + p.drop + p.put.length)) ∧ Below w.heap.size w w' := by
  obtain ⟨K, D, U⟩ := p
  simp only at h0 h1
  obtain ⟨h2, h3⟩ := h0
  have hz : (ByteArray.mk U.toArray).size = U.length := by simp [ByteArray.size]
  unfold partV
  go_enter Tryz.func231, Tryz.ntmps231
  go_wp2
  go_ret
  exact ⟨rfl, (Below.refl _ _).alloc (Nat.le_refl _) _⟩

set_option maxRecDepth 100000 in
set_option maxHeartbeats 2000000 in
theorem checkBoth_any (v1 v2 : Value) (a b : List Pt) (w : World) (hT : Lib.Utf8Tabs 2 3 w) (h1 : opAt w v1 a) (h2 : opAt w v2 b) (w1 : ∀ p ∈ a, wfP p) (w2 : ∀ p ∈ b, wfP p) (l1 : a.length < 10000000) (l2 : b.length < 10000000) :
    Calls Tryz.prog 206 #[v1, v2] w fun e w' => e = .returned (errV (bothE a b)) ∧ Below w.heap.size w w' := by
  have cL1 : Hid (∀ wx, Below w.heap.size w wx → Calls Tryz.prog 118 #[v1] wx fun e w' => e = .returned (.tuple #[.int .i64 (lensW a).1, .int .i64 (lensW a).2]) ∧ Below wx.heap.size wx w') := fun wx hb => Lens_any v1 a wx (opAt_grown h1 hb) l1
  have cL2 : Hid (∀ wx, Below w.heap.size w wx → Calls Tryz.prog 118 #[v2] wx fun e w' => e = .returned (.tuple #[.int .i64 (lensW b).1, .int .i64 (lensW b).2]) ∧ Below wx.heap.size wx w') := fun wx hb => Lens_any v2 b wx (opAt_grown h2 hb) l2
  have cC1 : Hid (∀ wx, Below w.heap.size w wx → Calls Tryz.prog 90 #[v1, .int .i64 (lensW a).1] wx fun e w' => e = .returned (errV (chkE a (lensW a).1)) ∧ Below wx.heap.size wx w') := fun wx hb => Check_any v1 a _ wx (Go.Proofs.Utf8Tabs_below hT hb) (opAt_grown h1 hb) w1 (lensW_range a) l1
  have cC2 : Hid (∀ wx, Below w.heap.size w wx → Calls Tryz.prog 90 #[v2, .int .i64 (lensW b).1] wx fun e w' => e = .returned (errV (chkE b (lensW b).1)) ∧ Below wx.heap.size wx w') := fun wx hb => Check_any v2 b _ wx (Go.Proofs.Utf8Tabs_below hT hb) (opAt_grown h2 hb) w2 (lensW_range b) l2
  obtain ⟨R, hR⟩ : ∃ R, R = bothE a b := ⟨_, rfl⟩
  rw [← hR]
  unfold bothE at hR
  generalize chkE a (lensW a).1 = E1 at cC1 hR
  generalize chkE b (lensW b).1 = E2 at cC2 hR
  generalize (lensW a).1 = A1 at cL1 cC1
  generalize (lensW a).2 = A2 at cL1
  generalize (lensW b).1 = B1 at cL2 cC2
  generalize (lensW b).2 = B2 at cL2
  obtain ⟨p1, c1, rfl, _⟩ := h1
  obtain ⟨p2, c2, rfl, _⟩ := h2
  clear hT w1 w2
  by_cases he : E1 = 0
  · rw [if_pos he] at hR
    have hV : errV E1 = .nilIface := by unfold errV; rw [if_pos he]
    rw [hV] at cC1
    obtain ⟨V, hV2⟩ : ∃ V, errV R = V := ⟨_, rfl⟩
    rw [← hR, hV2] at cC2
    rw [hV2]
    clear hV hV2 hR he
    go_enter Tryz.func206, Tryz.ntmps206
    go_wp2_with (first
      | (have _ := hB3; go_at_call 90; refine (cC2.out _ hB3.out).mono ?_; rintro e w4 ⟨rfl, hb4⟩; have hB4 : Hid (Below w.heap.size w w4) := hB3.out.trans (hb4.mono hB3.out.size))
      | (have _ := hB2; go_at_call 118; refine (cL2.out _ hB2.out).mono ?_; rintro e w3 ⟨rfl, hb3⟩; have hB3 : Hid (Below w.heap.size w w3) := hB2.out.trans (hb3.mono hB2.out.size))
      | (have _ := hB1; go_at_call 90; refine (cC1.out _ hB1.out).mono ?_; rintro e w2 ⟨rfl, hb2⟩; have hB2 : Hid (Below w.heap.size w w2) := hB1.out.trans (hb2.mono hB1.out.size))
      | (go_at_call 118; refine (cL1.out _ (Below.refl _ _)).mono ?_; rintro e w1 ⟨rfl, hb1⟩; have hB1 : Hid (Below w.heap.size w w1) := hb1)
      | fail)
    go_ret
    exact ⟨rfl, hB4.out⟩
  · rw [if_neg he] at hR
    have hV : errV E1 = .iface 26 (.int .i64 E1) := by unfold errV; rw [if_neg he]
    rw [hV] at cC1
    have hV2 : errV R = .iface 26 (.int .i64 E1) := by rw [hR]; exact hV
    rw [hV2]
    clear hV hV2 hR he cC2 cL2
    go_enter Tryz.func206, Tryz.ntmps206
    go_wp2_with (first
      | (have _ := hB1; go_at_call 90; refine (cC1.out _ hB1.out).mono ?_; rintro e w2 ⟨rfl, hb2⟩; have hB2 : Hid (Below w.heap.size w w2) := hB1.out.trans (hb2.mono hB1.out.size))
      | (go_at_call 118; refine (cL1.out _ (Below.refl _ _)).mono ?_; rintro e w1 ⟨rfl, hb1⟩; have hB1 : Hid (Below w.heap.size w w1) := hb1)
      | fail)
    go_ret
    exact ⟨rfl, hB2.out⟩
end Go.Proofs.YtfedgjnhanlmeabGreatDoor

namespace Go.Proofs.YtfedgjnhanlmeabGreatDoor
open Go.RowKit

/-- The loop's two blocks of book-keeping lie as they lay. -/
structure Same2 (n : Nat) (W W' : World) : Prop where
  a : W'.heap[n]? = W.heap[n]?
  b : W'.heap[n + 1]? = W.heap[n + 1]?
theorem Same2.refl (n : Nat) (W : World) : Same2 n W W := ⟨rfl, rfl⟩
theorem Same2.trans {n : Nat} {A B C : World} (h : Same2 n A B) (k : Same2 n B C) : Same2 n A C := ⟨k.a.trans h.a, k.b.trans h.b⟩
theorem Same2.of_below {n B : Nat} {W W' : World} (h : Below B W W') (hB : n + 2 ≤ B) : Same2 n W W' := ⟨h.block n (by omega), h.block (n + 1) (by omega)⟩
theorem Same2.setCell {n : Nat} {A W : World} (h : Same2 n A W) {p : Addr} (h1 : p.block ≠ n) (h2 : p.block ≠ n + 1) (v : Value) : Same2 n A (W.setCell p v) :=
  ⟨(Below.heap_setCell W p v n (fun e => h1 e.symm)).trans h.a, (Below.heap_setCell W p v (n + 1) (fun e => h2 e.symm)).trans h.b⟩
theorem Same2.alloc {n : Nat} {A W : World} (h : Same2 n A W) (hn : n + 2 ≤ W.heap.size) (o : Obj) : Same2 n A (W.alloc o) :=
  ⟨(Below.heap_alloc W o n (by omega)).trans h.a, (Below.heap_alloc W o (n + 1) (by omega)).trans h.b⟩
theorem Same2.drew {n : Nat} {A W : World} (h : Same2 n A W) : Same2 n A W.drew := ⟨h.a, h.b⟩

/-- All blocks but one lie as they lay. -/
structure Put1 (n : Nat) (A B : World) : Prop where
  os : B.os = A.os
  tape : B.tape = A.tape
  output : B.output = A.output
  size : B.heap.size = A.heap.size
  block : ∀ k, k ≠ n → B.heap[k]? = A.heap[k]?
theorem Put1.putObj (n : Nat) (A : World) (o : Obj) : Put1 n A (A.putObj n o) := ⟨rfl, rfl, rfl, by simp, fun _ h => World.putObj_heap_other h⟩
theorem Put1.below {n B : Nat} {A A' : World} (h : Put1 n A A') (hB : B ≤ n) : Below B A A' := ⟨h.os, h.tape, h.output, Nat.le_of_eq h.size.symm, fun k hk => h.block k (by omega)⟩
theorem Put1.cell {n : Nat} {A A' : World} (h : Put1 n A A') {b o : Nat} (hb : b ≠ n) : A'.cell? ⟨b, o, none⟩ = A.cell? ⟨b, o, none⟩ := World.cell?_of_block (w := A) (a := ⟨b, o, none⟩) (h.block b hb)
theorem Put1.frozen {n : Nat} {A A' : World} (h : Put1 n A A') {b o : Nat} (hb : b ≠ n) : A'.frozen? ⟨b, o, none⟩ = A.frozen? ⟨b, o, none⟩ := World.frozen?_of_block (w := A) (a := ⟨b, o, none⟩) (h.block b hb)

/-- How a round may be left. -/
def ownPostO {α : Type} (n : Nat) (Kp : World → World → Prop) (I : List α → World → Prop) (Ix : Code → List α → World → Prop) (xs : List α) (W : World) : Exit → Act → World → Prop
  | .normal, _, W' => Same2 n W W' ∧ Kp W W' ∧ I xs W'
  | .ret, _, W' => Same2 n W W' ∧ Kp W W' ∧ Ix .ret xs W'
  | .exit id, _, W' => Same2 n W W' ∧ Kp W W' ∧ Ix (.exit id) xs W'
  | .goto t, _, W' => Same2 n W W' ∧ Kp W W' ∧ Ix (.goto t) xs W'
  | .panic _, _, _ => False
  | .outgrown, _, _ => False

/-- What an iterator does, called with a loop's yield in a world W: over all invariants of its rounds that abide its own steps. -/
def SeqOwn {α : Type} (P : Program) (g : Nat) (lb : Array Value) (encs : List α → α → Array Value) (It Kp : World → World → Prop) (Z : World → Prop) (S Sp : List α → Prop) (W : World) : Prop :=
  ∀ (l : Nat) (J Jx : List α → World → Prop), (∀ pre A, J pre A → Z A) → (∀ pre A, Jx pre A → Z A) → (∀ pre A B, J pre A → It A B → J pre B) → (∀ pre A B, Jx pre A → It A B → Jx pre B) →
    (∀ pre x A, J pre A → Sp (pre ++ [x]) → YieldAt Fence.wide 0 P l (encs pre x) A fun e A' =>
      (e = .returned (.bool true) ∧ J (pre ++ [x]) A' ∧ Kp A A') ∨ (e = .returned (.bool false) ∧ Jx (pre ++ [x]) A' ∧ Kp A A')) →
    J [] W →
    CallsIn Fence.wide 0 P g (#[.func (.yield l) #[] #[]] ++ lb) W fun e W' => (∃ v, e = .returned v) ∧ ((∃ xs, S xs ∧ J xs W') ∨ (∃ pre, Sp pre ∧ Jx pre W'))

theorem wp_range_own {α : Type} {P : Program} {g : Operand} {ps : Array Tmp} {assign body : Code} {Q : Exit → Act → World → Prop} {a : Act} {w : World} {n : Nat}
    {gf : Nat} {lb : Array Value} (hg : a.eval g = .func (.func gf) #[] lb) (eg : ∀ args w, (callFunc gf args).run P w = .ok (.enter gf args) w)
    {encs : List α → α → Array Value} (hps : ∀ pre x, (encs pre x).size = ps.size)
    {It Kp : World → World → Prop} {Z : World → Prop} {S Sp : List α → Prop}
    (hseq : ∀ W, W.heap.size = w.heap.size + 2 → Below w.heap.size w W → SeqOwn P gf lb encs It Kp Z S Sp W)
    (hIt : ∀ A B, It A B → Same2 w.heap.size A B)
    (hKt : ∀ {A B C : World}, Kp A B → Kp B C → Kp A C) (hKb : ∀ (A : World) (r : Loop), Kp A (A.putObj (w.heap.size + 1) (.loop r)))
    (I : List α → World → Prop) (Ix : Code → List α → World → Prop)
    (hIz : ∀ pre A, I pre A → Z A) (hIxz : ∀ c pre A, Ix c pre A → Z A)
    (hI : ∀ pre A B, I pre A → It A B → I pre B) (hIb : ∀ pre A (r : Loop), I pre A → I pre (A.putObj (w.heap.size + 1) (.loop r)))
    (hIx : ∀ c pre A B, Ix c pre A → It A B → Ix c pre B) (hIxb : ∀ c pre A (r : Loop), Ix c pre A → Ix c pre (A.putObj (w.heap.size + 1) (.loop r)))
    (h0 : ∀ W, W.heap.size = w.heap.size + 2 → Below w.heap.size w W → (∃ r, W.heap[w.heap.size + 1]? = some (.loop r)) → I [] W)
    (hround : ∀ (l : Nat) (pre : List α) (x : α) (W : World), I pre W → w.heap.size + 2 ≤ W.heap.size → Sp (pre ++ [x]) →
      assign.wpIn (Fence.wide.inRound l) 0 P (Exit.then (fun a₁ w₁ => Same2 w.heap.size W w₁ ∧ Kp W w₁ ∧ ∀ w₂, Put1 (w.heap.size + 1) w₁ w₂ → (∃ r, w₂.heap[w.heap.size + 1]? = some (.loop r)) → body.wpIn (Fence.wide.inRound l) 0 P (ownPostO w.heap.size Kp I Ix (pre ++ [x]) w₂) a₁ w₂) (fun _ _ _ => False))
        { tmps := (ps.zip (encs pre x)).foldl (fun t (p, v) => t.setIfInBounds p v) a.tmps, defers := [] } W)
    (hdone : ∀ (xs : List α) (W : World), S xs → I xs W → W.heap[w.heap.size]? = some (.deferred (some [])) → Q .normal { a with defers := { target := .collected w.heap.size, args := #[] } :: a.defers } W)
    (hstop : ∀ (c : Code) (pre : List α) (W : World), Sp pre → Ix c pre W → W.heap[w.heap.size]? = some (.deferred (some [])) → c.wpIn Fence.wide n P Q { a with defers := { target := .collected w.heap.size, args := #[] } :: a.defers } W) :
    (Code.rangeFunc g ps assign body).wpIn Fence.wide n P Q a w := by
  refine wpIn_rangeFunc ?_
  intro fn hfn
  obtain ⟨rec, hrec⟩ : ∃ rec : LoopState → Option Code → Loop, rec = fun st pe => { state := st, pending := pe, fn, tmps := a.tmps, params := ps, assign, body, defers := w.heap.size } := ⟨_, rfl⟩
  obtain ⟨W1, hW1⟩ : ∃ W1, (w.alloc (.deferred (some []))).alloc (.loop (rec .ready none)) = W1 := ⟨_, rfl⟩
  have hL1 : W1.heap[w.heap.size + 1]? = some (.loop (rec .ready none)) := by
    rw [← hW1]; have := World.alloc_heap_new (w.alloc (.deferred (some []))) (.loop (rec .ready none)); rwa [World.size_alloc] at this
  have hK1 : W1.heap[w.heap.size]? = some (.deferred (some [])) := by
    rw [← hW1]; exact (Below.heap_alloc _ _ _ (by simp)).trans (World.alloc_heap_new w _)
  have hs1 : W1.heap.size = w.heap.size + 2 := by rw [← hW1, World.size_alloc, World.size_alloc]
  have hb1 : Below w.heap.size w W1 := by
    rw [← hW1]; exact ((Below.refl _ w).alloc (Nat.le_refl _) _).alloc (by simp) _
  have hI1 : I [] W1 := h0 W1 hs1 hb1 ⟨_, hL1⟩
  refine ⟨w.heap.size + 1, [{ target := .collected w.heap.size, args := #[] }], W1, { target := .fn (.func gf) lb, args := #[.func (.yield (w.heap.size + 1)) #[] #[]] }, W1, gf,
    #[.func (.yield (w.heap.size + 1)) #[] #[]] ++ lb, W1, ?_, ?_, ?_, ?_, fun h => (by cases h), ?_⟩
  · rw [← hW1, hrec]; exact run_enterLoop_outer _ _ _ _ _
  · simp only [resolve, hg]
    simp [go_sem]
  · intro f' hf'; trivial
  · simp [invoke, go_sem, eg]
  · refine CallsIn.more ((hseq W1 hs1 hb1 (w.heap.size + 1)
      (fun pre W => I pre W ∧ W.heap[w.heap.size + 1]? = some (.loop (rec .ready none)) ∧ W.heap[w.heap.size]? = some (.deferred (some [])))
      (fun pre W => ∃ c, Ix c pre W ∧ W.heap[w.heap.size + 1]? = some (.loop (rec .done (some c))) ∧ W.heap[w.heap.size]? = some (.deferred (some [])))
      (fun s A hs => hIz s A hs.1) (fun s A hs => (by obtain ⟨c, hc, _⟩ := hs; exact hIxz c s A hc))
      (fun s A B hs hg' => ⟨hI s A B hs.1 hg', (hIt A B hg').b.trans hs.2.1, (hIt A B hg').a.trans hs.2.2⟩)
      (fun s A B hs hg' => by
        obtain ⟨c, hc, hl, hk⟩ := hs
        exact ⟨c, hIx c s A B hc hg', (hIt A B hg').b.trans hl, (hIt A B hg').a.trans hk⟩)
      ?_ ⟨hI1, hL1, hK1⟩).mono ?_) (Nat.zero_le _)
    · -- one round
      rintro pre x W ⟨hi, hl, hk⟩ hSp
      have hlt : w.heap.size + 1 < W.heap.size := (Array.getElem?_eq_some_iff.1 hl).1
      have hy := run_yield (P := P) (args := encs pre x) hl (by rw [hrec]; exact hps pre x)
      rw [hrec] at hy
      refine ⟨fn, _, assign, body, hy, roundIn_of_wpIn hfn (wpIn_mono (hround _ pre x W hi (by omega) hSp) ?_)⟩
      clear hy
      rintro ea a' Wa hq
      cases ea with
      | normal => ?_
      | ret => exact hq.elim
      | exit id => exact hq.elim
      | goto t => exact hq.elim
      | panic c => exact hq.elim
      | outgrown => exact hq.elim
      obtain ⟨h2a, hkpa, hbody⟩ := hq
      replace hl := h2a.b.trans hl
      replace hk := h2a.a.trans hk
      replace hlt : w.heap.size + 1 < Wa.heap.size := (Array.getElem?_eq_some_iff.1 hl).1
      refine ⟨_, run_beginRound hl (by rw [hrec]), ?_⟩
      have hl2 : (Wa.putObj (w.heap.size + 1) (.loop { rec .ready none with state := .busy })).heap[w.heap.size + 1]? = some (.loop { rec .ready none with state := .busy }) := World.putObj_heap_same hlt
      have hk2 : (Wa.putObj (w.heap.size + 1) (.loop { rec .ready none with state := .busy })).heap[w.heap.size]? = some (.deferred (some [])) := (World.putObj_heap_other (by omega)).trans hk
      have hw2 : Kp Wa (Wa.putObj (w.heap.size + 1) (.loop { rec .ready none with state := .busy })) := hKb _ _
      refine wpIn_mono (hbody _ (Put1.putObj _ _ _) ⟨_, hl2⟩) ?_
      have fin : ∀ (jump : Option Code) (W3 : World), Same2 w.heap.size (Wa.putObj (w.heap.size + 1) (.loop { rec .ready none with state := .busy })) W3 →
          (Instr.endRound (w.heap.size + 1) jump).run P W3 = .ok (.bool jump.isNone) (W3.putObj (w.heap.size + 1) (.loop (rec (if jump.isNone then .ready else .done) jump))) ∧
          (W3.putObj (w.heap.size + 1) (.loop (rec (if jump.isNone then .ready else .done) jump))).heap[w.heap.size + 1]? = some (.loop (rec (if jump.isNone then .ready else .done) jump)) ∧
          (W3.putObj (w.heap.size + 1) (.loop (rec (if jump.isNone then .ready else .done) jump))).heap[w.heap.size]? = some (.deferred (some [])) := fun jump W3 hk3 => by
        have hl3 := hk3.b.trans hl2
        have := run_endRound (P := P) jump hl3
        rw [hrec] at this ⊢
        exact ⟨this, World.putObj_heap_same (Array.getElem?_eq_some_iff.1 hl3).1, (World.putObj_heap_other (by omega)).trans (hk3.a.trans hk2)⟩
      rintro e a3 W3 hp
      cases e with
      | normal =>
        obtain ⟨hk3, hkp3, hi3⟩ := hp
        obtain ⟨hr, hl4, hk4⟩ := fin none W3 hk3
        exact ⟨_, _, hr, .inl ⟨rfl, ⟨hIb _ _ _ hi3, hl4, hk4⟩, hKt hkpa (hKt (hKt hw2 hkp3) (hKb _ _))⟩⟩
      | ret =>
        obtain ⟨hk3, hkp3, hi3⟩ := hp
        obtain ⟨hr, hl4, hk4⟩ := fin (some .ret) W3 hk3
        exact ⟨_, _, hr, .inr ⟨rfl, ⟨.ret, hIxb _ _ _ _ hi3, hl4, hk4⟩, hKt hkpa (hKt (hKt hw2 hkp3) (hKb _ _))⟩⟩
      | exit id =>
        obtain ⟨hk3, hkp3, hi3⟩ := hp
        obtain ⟨hr, hl4, hk4⟩ := fin (some (.exit id)) W3 hk3
        exact ⟨_, _, hr, .inr ⟨rfl, ⟨.exit id, hIxb _ _ _ _ hi3, hl4, hk4⟩, hKt hkpa (hKt (hKt hw2 hkp3) (hKb _ _))⟩⟩
      | goto t =>
        obtain ⟨hk3, hkp3, hi3⟩ := hp
        obtain ⟨hr, hl4, hk4⟩ := fin (some (.goto t)) W3 hk3
        exact ⟨_, _, hr, .inr ⟨rfl, ⟨.goto t, hIxb _ _ _ _ hi3, hl4, hk4⟩, hKt hkpa (hKt (hKt hw2 hkp3) (hKb _ _))⟩⟩
      | panic ch => exact hp.elim
      | outgrown => exact hp.elim
    · -- behind the iterator
      rintro e W2 ⟨⟨v, rfl⟩, (⟨xs, hS, hi, hl, hk⟩ | ⟨pre, hSp, c, hi, hl, hk⟩)⟩
      · exact ⟨none, _, by have := run_endLoop (P := P) hl (by rw [hrec]; simp); rw [hrec] at this; exact this, hdone xs _ hS (hIb _ _ _ hi) ((World.putObj_heap_other (by omega)).trans hk)⟩
      · exact ⟨some c, _, by have := run_endLoop (P := P) hl (by rw [hrec]; simp); rw [hrec] at this; exact this, hstop c pre _ hSp (hIxb _ _ _ _ hi) ((World.putObj_heap_other (by omega)).trans hk)⟩

end Go.Proofs.YtfedgjnhanlmeabGreatDoor

namespace Go.Proofs.YtfedgjnhanlmeabGreatDoor
open Go.RowKit
set_option linter.unusedVariables false
attribute [local go_sem] Oper.semAt_some

theorem over_any (p : Option Addr) (n c : Nat) (s : ByteArray) (w : World) : Calls Tryz.prog 104 #[.slice p n c, .string s] w fun e w' => e = .returned (.func (.func 167) #[] #[.pointer (some ⟨w.heap.size + 1, 0, none⟩), .pointer (some ⟨w.heap.size, 0, none⟩)]) ∧ w' = (w.alloc (.cells #[.slice p n c] 23)).alloc (.cells #[.string s] 9) := by
  go_enter Tryz.func104, Tryz.ntmps104
  go_wp2
  go_ret
  exact ⟨rfl, rfl⟩

/-- The parts of an operation, each with its piece of the text. -/
def pcs : List Pt → List UInt8 → List (Pt × List UInt8)
  | [], _ => []
  | p :: ps, s => (p, s.take (lenP p).toNat) :: pcs ps (s.drop (lenP p).toNat)
/-- What is left of the text behind so many parts. -/
def leftP : List Pt → List UInt8 → List UInt8
  | [], s => s
  | p :: ps, s => leftP ps (s.drop (lenP p).toNat)

theorem leftP_snoc (ps : List Pt) (p : Pt) (s : List UInt8) : leftP (ps ++ [p]) s = (leftP ps s).drop (lenP p).toNat := by
  induction ps generalizing s with
  | nil => rfl
  | cons q ps ih => exact ih _
theorem pcs_append (a b : List Pt) (s : List UInt8) : pcs (a ++ b) s = pcs a s ++ pcs b (leftP a s) := by
  induction a generalizing s with
  | nil => rfl
  | cons q a ih => simp [pcs, leftP, ih]
/-- Each part keeps, or drops, no more than is left. -/
def fitsP : List Pt → List UInt8 → Prop
  | [], _ => True
  | p :: ps, s => 0 ≤ p.keep ∧ 0 ≤ p.drop ∧ lenP p ≤ s.length ∧ fitsP ps (s.drop (lenP p).toNat)
theorem fitsP_at (ps : List Pt) (s : List UInt8) (h : fitsP ps s) (k : Nat) (hk : k < ps.length) : 0 ≤ ps[k].keep ∧ 0 ≤ ps[k].drop ∧ lenP ps[k] ≤ (leftP (ps.take k) s).length := by
  induction ps generalizing s k with
  | nil => simp at hk
  | cons p ps ih =>
    obtain ⟨h1, h2, h3, h4⟩ := h
    cases k with
    | zero => exact ⟨h1, h2, h3⟩
    | succ k => exact ih _ h4 k (by simpa using hk)
theorem leftP_le (ps : List Pt) (s : List UInt8) : (leftP ps s).length ≤ s.length := by
  induction ps generalizing s with
  | nil => exact Nat.le_refl _
  | cons p ps ih =>
    have := ih (s.drop (lenP p).toNat)
    rw [List.length_drop] at this
    show (leftP ps _).length ≤ _
    omega

theorem cut_head (l : List UInt8) (n : Nat) : (ByteArray.mk l.toArray).extract 0 n = ⟨(l.take n).toArray⟩ := by
  apply ByteArray.ext
  simp
theorem cut_tail (l : List UInt8) (n : Nat) : (ByteArray.mk l.toArray).extract n l.length = ⟨(l.drop n).toArray⟩ := by
  apply ByteArray.ext
  have : List.take (l.length - n) (l.drop n) = l.drop n := List.take_of_length_le (by rw [List.length_drop]; exact Nat.le_refl _)
  simp [this]

set_option maxRecDepth 100000 in
set_option maxHeartbeats 2000000 in
theorem over_seq (v : Value) (ps : List Pt) (s : List UInt8) (hs : s.length < 1000000000) (hl : ps.length < 10000000) (hf : fitsP ps s) (R : Nat → Prop) (sb : Nat) (W : World)
    (h0 : W.cell? ⟨sb, 0, none⟩ = some v) (h1 : W.cell? ⟨sb + 1, 0, none⟩ = some (.string ⟨s.toArray⟩)) (hop : opAt W v ps) (hR0 : R sb) (hR1 : R (sb + 1)) (hRv : ∀ b o n c, v = .slice (some ⟨b, o, none⟩) n c → ps ≠ [] → R b) (hRl : ∀ x, R x → x < W.heap.size) (Z : World → Prop) :
    SeqOwn Tryz.prog 167 #[.pointer (some ⟨sb + 1, 0, none⟩), .pointer (some ⟨sb, 0, none⟩)] (fun _ (x : Pt × List UInt8) => #[partV x.1, .string ⟨x.2.toArray⟩]) (fun A B => Below A.heap.size A B ∧ W.heap.size ≤ A.heap.size) (fun A B => A.heap.size ≤ B.heap.size ∧ ∀ x, R x → B.heap[x]? = A.heap[x]?) Z
      (fun xs => xs = pcs ps s) (fun pre => ∃ rest, pcs ps s = pre ++ rest) W := by
  intro l J Jx hZ hZx hJ hJx hR hj0
  have hlt0 := World.block_lt_of_cell? W _ h0
  have hlt1 := World.block_lt_of_cell? W _ h1
  obtain ⟨p, c, rfl, r1, r2, r3⟩ := hop
  obtain ⟨n, hn⟩ : ∃ n, n = ps.length := ⟨_, rfl⟩
  rw [← hn] at r1 hl h0 hRv
  have HN : Hid (n = ps.length) := hn
  have R3 : Hid (ps ≠ [] → ∃ b o, p = some ⟨b, o, none⟩ ∧ b < W.heap.size ∧ ∀ i q, ps[i]? = some q →
    W.cell? ⟨b, o + i * 3, none⟩ = some (.int .i64 q.keep) ∧ W.cell? ⟨b, o + i * 3 + 1, none⟩ = some (.int .i64 q.drop) ∧ W.cell? ⟨b, o + i * 3 + 2, none⟩ = some (.string ⟨q.put.toArray⟩)) := r3
  have HF : Hid (fitsP ps s) := hf
  have HSL : Hid (s.length < 1000000000) := hs
  have HRV : Hid (∀ b o, p = some ⟨b, o, none⟩ → ps ≠ [] → R b) := fun b o e => hRv b o n c (by rw [e])
  have HRL : Hid (∀ x, R x → x < W.heap.size) := hRl
  clear r3 hf hn hs hRv hRl
  refine callsIn_of_wp Tryz.func167 rfl trivial ?_ rfl
  simp only [Tryz.ntmps167, List.size_toArray, List.length_cons, List.length_nil, Nat.reduceAdd, Nat.reduceSub, Array.replicate_succ, Array.replicate_zero, List.push_toArray, List.append_toArray, List.nil_append, List.cons_append]
  gi_wp2
  gi_loopw [4, 11] (fun rest i wr => ∃ (k : Nat), k ≤ n ∧ i = .int .i64 k ∧ rest = .string ⟨(leftP (ps.take k) s).toArray⟩ ∧ W.heap.size ≤ wr.heap.size ∧ (∀ x, R x → wr.heap[x]? = W.heap[x]?) ∧ J (pcs (ps.take k) s) wr) (fun _ i _ => n - (intOf i).toNat)
  case atStart => exact ⟨0, Nat.zero_le _, rfl, rfl, Nat.le_refl _, fun _ _ => rfl, hj0⟩
  case round =>
    obtain ⟨k, hk, rfl, rfl, hsz, hkeep, hjp⟩ := hrel
    by_cases hlt : k < n
    · have hkr : k < ps.length := by rw [← HN.out]; exact hlt
      have hne : ps ≠ [] := by intro e; rw [e] at hkr; exact absurd hkr (Nat.not_lt_zero _)
      obtain ⟨b, o, rfl, hbw, hcell⟩ := R3.out hne
      obtain ⟨c0, c1, c2⟩ := hcell k ps[k] (List.getElem?_eq_getElem hkr)
      have hkb := hkeep b (HRV.out b o rfl hne)
      have g0 := (World.cell?_of_block (w := W) (w' := wr) (a := ⟨b, o + k * 3, none⟩) hkb).trans c0
      have g1 := (World.cell?_of_block (w := W) (w' := wr) (a := ⟨b, o + k * 3 + 1, none⟩) hkb).trans c1
      have g2 := (World.cell?_of_block (w := W) (w' := wr) (a := ⟨b, o + k * 3 + 2, none⟩) hkb).trans c2
      obtain ⟨f1, f2, f3⟩ := fitsP_at ps s HF.out k hkr
      have hll := leftP_le (ps.take k) s
      have hs9 := HSL.out
      have hts : ps.take (k + 1) = ps.take k ++ [ps[k]] := List.take_succ_eq_append_getElem hkr
      have hpn : pcs (ps.take (k + 1)) s = pcs (ps.take k) s ++ [(ps[k], (leftP (ps.take k) s).take (lenP ps[k]).toNat)] := by rw [hts, pcs_append]; rfl
      have hln : leftP (ps.take (k + 1)) s = (leftP (ps.take k) s).drop (lenP ps[k]).toNat := by rw [hts, leftP_snoc]
      have hSp : ∃ rest, pcs ps s = (pcs (ps.take k) s ++ [(ps[k], (leftP (ps.take k) s).take (lenP ps[k]).toNat)]) ++ rest := by
        rw [← hpn]
        refine ⟨pcs (ps.drop (k + 1)) (leftP (ps.take (k + 1)) s), ?_⟩
        rw [← pcs_append, List.take_append_drop]
      generalize ps[k] = q at *
      generalize leftP (ps.take k) s = T at *
      obtain ⟨K, D, U⟩ := q
      have hlen : lenP ⟨K, D, U⟩ = K + D := rfl
      rw [hlen] at f3 hpn hln hSp
      simp only at f1 f2 g0 g1 g2
      obtain ⟨m, hm⟩ : ∃ m : Nat, K + D = m := ⟨(K + D).toNat, by omega⟩
      have hm' : (K + D).toNat = m := by omega
      rw [hm'] at hpn hln hSp
      rw [hm] at f3
      have hwm : IntKind.i64.wrap (K + D) = (m : Int) := by rw [IntKind.wrap_i64]; omega
      have hmT : m ≤ T.length := by omega
      have hmi : (m : Int) ≤ (T.length : Int) := by omega
      have hm0 : (0 : Int) ≤ (m : Int) := by omega
      have e1 := cut_head T m
      have e2 := cut_tail T m
      have HJP : Hid (J (pcs (ps.take k) s) wr) := hjp
      have HSP : Hid (∃ rest, pcs ps s = (pcs (ps.take k) s ++ [(⟨K, D, U⟩, T.take m)]) ++ rest) := hSp
      have HPN : Hid (pcs (ps.take (k + 1)) s = pcs (ps.take k) s ++ [(⟨K, D, U⟩, T.take m)]) := hpn
      have HLN : Hid (leftP (ps.take (k + 1)) s = T.drop m) := hln
      have HKEEP : Hid (∀ x, R x → wr.heap[x]? = W.heap[x]?) := hkeep
      clear hcell c0 c1 c2 hts hpn hln hSp hjp hlen hkb hkeep hm' f3 hll hs9 hm
      have hbA : Below wr.heap.size wr (wr.alloc (.cells #[.int .i64 K, .int .i64 D, .string ⟨U.toArray⟩] 50)).drew := ((Below.refl _ _).alloc (Nat.le_refl _) _).drew
      obtain ⟨fn, tmps, assign, body, hyy, hRd⟩ := hR (pcs (ps.take k) s) (⟨K, D, U⟩, T.take m) _ (hJ _ _ _ HJP.out ⟨hbA, hsz⟩) HSP.out
      unfold partV at hyy
      gi_wp2
      have hRd2 := hRd.mono (fun e A' HH => (⟨HH, by rcases HH with ⟨rfl, _⟩ | ⟨rfl, _⟩; exact ⟨true, rfl⟩; exact ⟨false, rfl⟩⟩ : _ ∧ ∃ bb : Bool, e = .returned (.bool bb)))
      gi_region_with (first | (refine ⟨rfl, hRd2.mono ?_⟩; rintro e A' ⟨HH, bb, rfl⟩))
      all_goals
        have hcase : (bb = true ∧ J (pcs (ps.take k) s ++ [(⟨K, D, U⟩, T.take m)]) A' ∧ wr.heap.size ≤ A'.heap.size ∧ ∀ x, R x → A'.heap[x]? = wr.heap[x]?) ∨ (bb = false ∧ Jx (pcs (ps.take k) s ++ [(⟨K, D, U⟩, T.take m)]) A') := by
          rcases HH with ⟨e1, e2, e3, e4⟩ | ⟨e1, e2, _⟩
          · simp only [Ending.returned.injEq, Value.bool.injEq] at e1
            refine .inl ⟨e1, e2, Nat.le_trans hbA.size e3, fun x hx => (e4 x hx).trans ?_⟩
            have hxl : x < wr.heap.size := by
              rcases Nat.lt_or_ge x wr.heap.size with h | h
              · exact h
              · exact absurd (HRL.out x hx) (by have := hsz; omega)
            exact hbA.block x hxl
          · simp only [Ending.returned.injEq, Value.bool.injEq] at e1
            exact .inr ⟨e1, e2⟩
        clear HH hRd hRd2 hyy
        rcases hcase with ⟨rfl, hj2, hs2, hk2⟩ | ⟨rfl, hjx⟩
        · have HJ2 : Hid (J (pcs (ps.take (k + 1)) s) A') := by show J _ _; rw [HPN.out]; exact hj2
          have HK2 : Hid (∀ x, R x → A'.heap[x]? = W.heap[x]?) := fun x hx => (hk2 x hx).trans (HKEEP.out x hx)
          have hs3 : W.heap.size ≤ A'.heap.size := Nat.le_trans hsz hs2
          clear hj2 hk2 g0 g1 g2 hbA
          gi_wp2
          go_roundw
          case rel => exact ⟨k + 1, by omega, by go_num, by rw [HLN.out], hs3, HK2.out, HJ2.out⟩
          case measure => simp [intOf]; omega
        · have HJX : Hid (Jx (pcs (ps.take k) s ++ [(⟨K, D, U⟩, T.take m)]) A') := hjx
          clear hjx g0 g1 g2 hbA
          gi_wp2
          refine bodyPost_ret (results_none rfl _ _ _) rfl ?_
          exact ⟨⟨_, rfl⟩, .inr ⟨_, HSP.out, HJX.out⟩⟩
    · have e : ps.take k = ps := List.take_of_length_le (by rw [← HN.out]; omega)
      rw [e] at hjp
      have HJ : Hid (J (pcs ps s) wr) := hjp
      clear e hjp R3 HF
      gi_wp2
      go_end0
      exact ⟨⟨_, rfl⟩, .inl ⟨_, rfl, HJ.out⟩⟩
end Go.Proofs.YtfedgjnhanlmeabGreatDoor

namespace Go.Proofs
open Go.Shelf
def Tryz.lays120_ren : Go.Shelf.Ren := ⟨fun | 120 => 166 | n => n, fun | 5 => 5 | 4 => 4 | n => n, fun | n => n⟩
theorem Tryz.lays120 : Go.Proofs.Lays.n120 Tryz.prog Tryz.lays120_ren := {
  mixed := by kernel_rfl
  f120 := Tryz.func166.trans (congrArg some (by kernel_rfl))
  t4 := Tryz.underlying4
  a4 := Tryz.isAgg4
  z4 := Tryz.sizeOf4
  v4 := Tryz.zeroValue4
  t5 := Tryz.underlying5
  a5 := Tryz.isAgg5
  z5 := Tryz.sizeOf5
  v5 := Tryz.zeroValue5 }
theorem Tryz.utf8_RuneStart (b : Int) (w : World) (h0 : 0 ≤ b) (h1 : b < 256) :
    Calls Tryz.prog 166 #[.int .u8 b] w fun e w' => e = .returned (.bool (Lib.runeStart b)) ∧ w' = w := Any.utf8_RuneStart Tryz.lays120 b w h0 h1
end Go.Proofs

namespace Go.Proofs.YtfedgjnhanlmeabGreatDoor
open Go.RowKit
set_option linter.unusedVariables false
attribute [local go_sem] Oper.semAt_some

/-- A byte that begins a rune. -/
def startO (b : UInt8) : Bool := Lib.runeStart (b.toNat : Int)
/-- A piece that begins within a rune. -/
def badPiece (l : List UInt8) : Bool := match l with
  | [] => false
  | b :: _ => !startO b
def badO : List Pt → List UInt8 → Bool
  | [], _ => false
  | p :: ps, s => badPiece (s.take (lenP p).toNat) || badO ps (s.drop (lenP p).toNat)
theorem badO_pcs (ps : List Pt) (s : List UInt8) : badO ps s = (pcs ps s).any fun x => badPiece x.2 := by
  induction ps generalizing s with
  | nil => rfl
  | cons p ps ih => simp [badO, pcs, ih]

theorem chkE_ok {ps : List Pt} {n : Int} (h : chkE ps n = 0) : ∀ p ∈ ps, soundP p := by
  unfold chkE at h
  split at h
  · rename_i h1
    exact fun p hp => (one_sound (chk1_ones h1 p hp).1).1
  · rename_i h1
    exact absurd h h1
theorem chk2_fits {ps : List Pt} {s : List UInt8} (hs : ∀ p ∈ ps, soundP p) (h : chk2 ps (s.length : Int) = 0) : fitsP ps s ∧ leftP ps s = [] := by
  induction ps generalizing s with
  | nil =>
    unfold chk2 at h
    refine ⟨trivial, ?_⟩
    split at h
    · exact List.eq_nil_of_length_eq_zero (by show s.length = 0; omega)
    · cases h
  | cons p ps ih =>
    unfold chk2 at h
    have hp := hs p (List.mem_cons_self ..)
    obtain ⟨h1, h2⟩ := hp
    split at h
    · cases h
    · rename_i h3
      have hl : lenP p = p.keep + p.drop := rfl
      have e : ((s.drop (lenP p).toNat).length : Int) = (s.length : Int) - (p.keep + p.drop) := by rw [List.length_drop]; omega
      rw [← e] at h
      obtain ⟨i1, i2⟩ := ih (fun q hq => hs q (List.mem_cons_of_mem _ hq)) h
      exact ⟨⟨h1, h2, by omega, i1⟩, i2⟩
theorem chkE_fits {ps : List Pt} {s : List UInt8} (h : chkE ps (s.length : Int) = 0) : fitsP ps s ∧ leftP ps s = [] := by
  have hs := chkE_ok h
  unfold chkE at h
  split at h
  · exact chk2_fits hs h
  · rename_i h1; exact absurd h h1

/-- What checkOver says. -/
def ordE (ps : List Pt) (s : List UInt8) : Int := if chkE ps (s.length : Int) = 0 then (if badO ps s then 10 else 0) else chkE ps (s.length : Int)

theorem str_size (s : List UInt8) : (ByteArray.mk s.toArray).size = s.length := by simp [ByteArray.size]

set_option maxRecDepth 100000 in
set_option maxHeartbeats 2000000 in
theorem checkOver_err (v : Value) (ps : List Pt) (s : List UInt8) (w : World) (hT : Lib.Utf8Tabs 2 3 w) (hr : opAt w v ps) (hwf : ∀ p ∈ ps, wfP p) (hs : s.length < 1000000000) (hl : ps.length < 10000000) (he : chkE ps (s.length : Int) ≠ 0) :
    Calls Tryz.prog 103 #[v, .string ⟨s.toArray⟩] w fun e w' => e = .returned (errV (ordE ps s)) ∧ Below w.heap.size w w' := by
  have cC : Hid (∀ wx, Below w.heap.size w wx → Calls Tryz.prog 90 #[v, .int .i64 (s.length : Int)] wx fun e w' => e = .returned (errV (chkE ps (s.length : Int))) ∧ Below wx.heap.size wx w') := fun wx hb => Check_any v ps _ wx (Go.Proofs.Utf8Tabs_below hT hb) (opAt_below hr hb (Nat.le_refl _)) hwf (by omega) hl
  unfold ordE
  rw [if_neg he]
  have hV : errV (chkE ps (s.length : Int)) = .iface 26 (.int .i64 (chkE ps (s.length : Int))) := by unfold errV; rw [if_neg he]
  rw [hV] at cC ⊢
  generalize chkE ps (s.length : Int) = E at *
  obtain ⟨p, c, rfl, _⟩ := hr
  clear hT hwf hV
  go_enter Tryz.func103, Tryz.ntmps103
  go_wp2_with (first | (go_at_call 90; refine (cC.out _ ((Below.refl _ _).alloc (Nat.le_refl _) _)).mono ?_; rintro e w1 ⟨rfl, hb1⟩; have c0 : w1.cell? ⟨w.heap.size, 0, none⟩ = some .nilIface := (hb1.cell (p := ⟨w.heap.size, 0, none⟩) (by simp)).trans (by simp [go_sem]); have c1 : w1.frozen? ⟨w.heap.size, 0, none⟩ = false := (hb1.frozen (p := ⟨w.heap.size, 0, none⟩) (by simp)).trans (by simp [go_sem])) | fail)
  refine bodyPost_ret (v := .iface 26 (.int .i64 E)) (by simp [results, Tryz.results103, go_sem, c0]) rfl ?_
  exact ⟨rfl, (((Below.refl _ _).alloc (Nat.le_refl _) _).trans (hb1.mono (by simp))).setCell (p := ⟨w.heap.size, 0, none⟩) (Nat.le_refl _) _⟩

set_option maxRecDepth 100000 in
set_option maxHeartbeats 4000000 in
theorem checkOver_fine (v : Value) (ps : List Pt) (s : List UInt8) (w : World) (hT : Lib.Utf8Tabs 2 3 w) (hr : opAt w v ps) (hwf : ∀ p ∈ ps, wfP p) (hs : s.length < 1000000000) (hl : ps.length < 10000000) (he : chkE ps (s.length : Int) = 0) :
    Calls Tryz.prog 103 #[v, .string ⟨s.toArray⟩] w fun e w' => e = .returned (errV (ordE ps s)) ∧ Below w.heap.size w w' := by
  have cC : Hid (∀ wx, Below w.heap.size w wx → Calls Tryz.prog 90 #[v, .int .i64 (s.length : Int)] wx fun e w' => e = .returned (errV (chkE ps (s.length : Int))) ∧ Below wx.heap.size wx w') := fun wx hb => Check_any v ps _ wx (Go.Proofs.Utf8Tabs_below hT hb) (opAt_below hr hb (Nat.le_refl _)) hwf (by omega) hl
  obtain ⟨hfit, hleft⟩ := chkE_fits he
  unfold ordE
  rw [if_pos he]
  have hV : errV (chkE ps (s.length : Int)) = .nilIface := by unfold errV; rw [if_pos he]
  rw [hV] at cC
  have HF : Hid (fitsP ps s) := hfit
  have HR : Hid (opAt w v ps) := hr
  have HSL : Hid (s.length < 1000000000) := hs
  have HLP : Hid (ps.length < 10000000) := hl
  have HBO : Hid (badO ps s = (pcs ps s).any fun x => badPiece x.2) := badO_pcs ps s
  obtain ⟨BB, hBB⟩ : ∃ BB, badO ps s = BB := ⟨_, rfl⟩
  have HBB : Hid (badO ps s = BB) := hBB
  rw [hBB]
  obtain ⟨V, hV0⟩ : ∃ V, errV (if BB = true then 10 else 0) = V := ⟨_, rfl⟩
  have HV : Hid (errV (if BB = true then 10 else 0) = V) := hV0
  rw [hV0]
  clear hV0
  have hrow : ∀ x o n c, v = .slice (some ⟨x, o, none⟩) n c → ps ≠ [] → x < w.heap.size := by
    intro x o n c e hne
    obtain ⟨p, c', rfl, _, _, h3⟩ := hr
    obtain ⟨b, o', e1, e2, _⟩ := h3 hne
    simp only [Value.slice.injEq] at e
    rw [e.1] at e1
    simp only [Option.some.injEq, Addr.mk.injEq] at e1
    rw [e1.1]; exact e2
  have HROW : Hid _ := hrow
  obtain ⟨p, c, rfl, _⟩ := hr
  clear hT hwf hV hfit hleft hrow he hBB
  have cO := fun (wx : World) => over_any p ps.length c ⟨s.toArray⟩ wx
  refine (callsIn_wide (n := 3)).1 ?_
  refine callsIn_of_wp_marks Tryz.func103 rfl trivial ?_ rfl
  simp only [Tryz.ntmps103, List.size_toArray, List.length_cons, List.length_nil, Nat.reduceAdd, Nat.reduceSub, Array.replicate_succ, Array.replicate_zero, List.push_toArray, List.append_toArray, List.nil_append, List.cons_append]
  gi_wp2_with (first
    | (refine ⟨trivial, ?_⟩; gi_at_call 90; refine (callsIn_wide.2 (cC.out _ ((Below.refl _ _).alloc (Nat.le_refl _) _))).mono ?_; rintro e w1 ⟨rfl, hb1⟩; have c0 : w1.cell? ⟨w.heap.size, 0, none⟩ = some .nilIface := (hb1.cell (p := ⟨w.heap.size, 0, none⟩) (by simp)).trans (by simp [go_sem]); have c1 : w1.frozen? ⟨w.heap.size, 0, none⟩ = false := (hb1.frozen (p := ⟨w.heap.size, 0, none⟩) (by simp)).trans (by simp [go_sem]))
    | (refine ⟨trivial, ?_⟩; gi_at_call 104; refine (callsIn_wide.2 (cO _)).mono ?_; rintro e w13 ⟨rfl, rfl⟩)
    | fail)
  have hb0 : Below w.heap.size w w1 := ((Below.refl _ _).alloc (Nat.le_refl _) _).trans (hb1.mono (by simp))
  have hlt1 : w.heap.size < w1.heap.size := World.block_lt_of_cell? w1 _ c0
  obtain ⟨sb, hsb⟩ : ∃ sb, w1.heap.size = sb := ⟨_, rfl⟩
  obtain ⟨W4, hW4⟩ : ∃ W4, W4 = (w1.alloc (.cells #[.slice p ps.length c] 23)).alloc (.cells #[.string ⟨s.toArray⟩] 9) := ⟨_, rfl⟩
  have hb4 : Below w.heap.size w W4 := by rw [hW4]; exact (hb0.alloc hb0.size _).alloc (by simp; omega) _
  have hs4 : W4.heap.size = sb + 2 := by rw [hW4, ← hsb]; simp
  have k0 : W4.cell? ⟨sb, 0, none⟩ = some (.slice p ps.length c) := by rw [hW4, ← hsb]; simp [go_sem]
  have k1 : W4.cell? ⟨sb + 1, 0, none⟩ = some (.string ⟨s.toArray⟩) := by rw [hW4, ← hsb]; simp [go_sem]
  have c0' : W4.cell? ⟨w.heap.size, 0, none⟩ = some .nilIface := by
    have hB : Below w1.heap.size w1 W4 := by rw [hW4]; exact ((Below.refl _ _).alloc (Nat.le_refl _) _).alloc (by simp) _
    exact (hB.cell (p := ⟨w.heap.size, 0, none⟩) hlt1).trans c0
  have c1' : W4.frozen? ⟨w.heap.size, 0, none⟩ = false := by
    have hB : Below w1.heap.size w1 W4 := by rw [hW4]; exact ((Below.refl _ _).alloc (Nat.le_refl _) _).alloc (by simp) _
    exact (hB.frozen (p := ⟨w.heap.size, 0, none⟩) hlt1).trans c1
  rw [← hW4, hsb]
  rw [hsb] at hlt1
  clear hW4 cC cO c0 c1 hb0 hb1 hsb
  refine wp_range_own (gf := 167) (lb := #[.pointer (some ⟨sb + 1, 0, none⟩), .pointer (some ⟨sb, 0, none⟩)]) rfl (enters_of Tryz.func167 (by kernel_rfl) rfl) (encs := fun _ (x : Pt × List UInt8) => #[partV x.1, .string ⟨x.2.toArray⟩]) (fun _ _ => rfl)
    (It := fun A B => Below A.heap.size A B ∧ sb + 4 ≤ A.heap.size) (Kp := fun A B => A.heap.size ≤ B.heap.size ∧ ∀ x, (x = sb ∨ x = sb + 1 ∨ x < w.heap.size) → B.heap[x]? = A.heap[x]?) (Z := fun _ => True) (S := fun xs => xs = pcs ps s) (Sp := fun pre => ∃ rest, pcs ps s = pre ++ rest)
    ?seq ?its (fun h k => ⟨Nat.le_trans h.1 k.1, fun x hx => (k.2 x hx).trans (h.2 x hx)⟩) ?hkb
    (fun pre W => Below w.heap.size w W ∧ sb + 4 ≤ W.heap.size ∧ W.cell? ⟨w.heap.size, 0, none⟩ = some .nilIface ∧ W.frozen? ⟨w.heap.size, 0, none⟩ = false ∧ (pre.any fun x => badPiece x.2) = false)
    (fun k pre W => k = .ret ∧ Below w.heap.size w W ∧ sb + 4 ≤ W.heap.size ∧ W.cell? ⟨w.heap.size, 0, none⟩ = some (.iface 26 (.int .i64 10)) ∧ (pre.any fun x => badPiece x.2) = true) (fun _ _ _ => trivial) (fun _ _ _ _ => trivial) ?ii ?ib ?ix ?ixb ?h0 ?round ?done ?stop
  case seq =>
    intro W hs1 hb1
    rw [hs4] at hs1 hb1
    have hb9 : Below w.heap.size w W := hb4.trans (hb1.mono (by omega))
    have := over_seq (.slice p ps.length c) ps s HSL.out HLP.out HF.out (fun x => (x = sb ∨ x = sb + 1 ∨ x < w.heap.size)) sb W ((hb1.cell (p := ⟨sb, 0, none⟩) (by show sb < _; omega)).trans k0) ((hb1.cell (p := ⟨sb + 1, 0, none⟩) (by show sb + 1 < _; omega)).trans k1) (opAt_below HR.out hb9 (Nat.le_refl _)) (.inl rfl) (.inr (.inl rfl)) (fun b o n c' e hne => .inr (.inr (HROW.out b o n c' e hne))) (by rintro x (rfl | rfl | hx) <;> omega) (fun _ => True)
    rw [hs1] at this
    exact this
  case its => exact fun A B h => Same2.of_below h.1 (by rw [hs4]; omega)
  case hkb =>
    intro A r
    rw [hs4]
    exact ⟨by simp, fun x hx => World.putObj_heap_other (by omega)⟩
  case ii =>
    rintro pre A B ⟨h1, h2, h3, h4, h5⟩ ⟨hb, hA⟩
    exact ⟨h1.trans (hb.mono h1.size), Nat.le_trans h2 hb.size, (hb.cell (p := ⟨w.heap.size, 0, none⟩) (by show w.heap.size < _; omega)).trans h3, (hb.frozen (p := ⟨w.heap.size, 0, none⟩) (by show w.heap.size < _; omega)).trans h4, h5⟩
  case ib =>
    rintro pre A r ⟨h1, h2, h3, h4, h5⟩
    rw [hs4]
    have hp := Put1.putObj (sb + 2 + 1) A (.loop r)
    exact ⟨h1.trans (hp.below (by omega)), by rw [hp.size]; exact h2, (hp.cell (by omega)).trans h3, (hp.frozen (by omega)).trans h4, h5⟩
  case ix =>
    rintro k pre A B ⟨h0, h1, h2, h3, h5⟩ ⟨hb, hA⟩
    exact ⟨h0, h1.trans (hb.mono h1.size), Nat.le_trans h2 hb.size, (hb.cell (p := ⟨w.heap.size, 0, none⟩) (by show w.heap.size < _; omega)).trans h3, h5⟩
  case ixb =>
    rintro k pre A r ⟨h0, h1, h2, h3, h5⟩
    rw [hs4]
    have hp := Put1.putObj (sb + 2 + 1) A (.loop r)
    exact ⟨h0, h1.trans (hp.below (by omega)), by rw [hp.size]; exact h2, (hp.cell (by omega)).trans h3, h5⟩
  case h0 =>
    rintro W hs hb _
    rw [hs4] at hs hb
    exact ⟨hb4.trans (hb.mono (by omega)), by omega, (hb.cell (p := ⟨w.heap.size, 0, none⟩) (by show w.heap.size < _; omega)).trans c0', (hb.frozen (p := ⟨w.heap.size, 0, none⟩) (by show w.heap.size < _; omega)).trans c1', rfl⟩
  case round =>
    rintro l pre x W ⟨h1, h2, h3, h4, h5⟩ hlW hSp
    rw [hs4] at hlW ⊢
    obtain ⟨q, T⟩ := x
    have HP5 : Hid ((pre.any fun x => badPiece x.2) = false) := h5
    have HB : Hid (Below w.heap.size w W) := h1
    clear h5 hSp h1 k0 k1 c0' c1' hb4
    unfold partV
    gi_wp2
    refine ⟨Same2.refl _ W, ⟨Nat.le_refl _, fun _ _ => trivial⟩, ?_⟩
    intro w2 hp _
    have hs2 : sb + 4 ≤ w2.heap.size := by rw [hp.size]; exact h2
    have y3 := (hp.cell (b := w.heap.size) (o := 0) (by omega)).trans h3
    have y4 := (hp.frozen (b := w.heap.size) (o := 0) (by omega)).trans h4
    have HB2 : Hid (Below w.heap.size w w2) := HB.out.trans (hp.below (by omega))
    clear h3 h4 hp hlW
    cases T with
    | nil =>
      gi_wp2_with (first | (refine ⟨trivial, ?_⟩) | fail)
      exact ⟨Same2.refl _ _, ⟨Nat.le_refl _, fun _ _ => rfl⟩, HB2.out, hs2, y3, y4, by rw [List.any_append, HP5.out]; rfl⟩
    | cons b T =>
      have cR : ∀ wx, Calls Tryz.prog 166 #[.int .u8 (((ByteArray.mk (b :: T).toArray)[0]'(by simp [ByteArray.size])).toNat : Int)] wx fun e w' => e = .returned (.bool (startO b)) ∧ w' = wx := fun wx => Tryz.utf8_RuneStart (b.toNat : Int) wx (by omega) (by have := b.toNat_lt; omega)
      by_cases hst : startO b = true
      · rw [hst] at cR
        have HB5 : Hid (((pre ++ [(q, b :: T)]).any fun x => badPiece x.2) = false) := by
          show _ = _
          rw [List.any_append, HP5.out]
          simp [badPiece, hst]
        clear hst
        gi_wp2_with (first | (refine ⟨trivial, rfl, ?_⟩; refine (CallsIn.inRound l (callsIn_wide.2 (cR _))).mono ?_; rintro e wx ⟨rfl, hwx⟩; obtain rfl := hwx.symm) | fail)
        exact ⟨Same2.refl _ _, ⟨Nat.le_refl _, fun _ _ => rfl⟩, HB2.out, hs2, y3, y4, HB5.out⟩
      · have hst : startO b = false := Bool.eq_false_iff.2 hst
        rw [hst] at cR
        have HB5 : Hid (((pre ++ [(q, b :: T)]).any fun x => badPiece x.2) = true) := by
          show _ = _
          rw [List.any_append]
          simp [badPiece, hst]
        clear hst
        gi_wp2_with (first | (refine ⟨trivial, rfl, ?_⟩; refine (CallsIn.inRound l (callsIn_wide.2 (cR _))).mono ?_; rintro e wx ⟨rfl, hwx⟩; obtain rfl := hwx.symm) | fail)
        refine ⟨(Same2.refl _ _).setCell (by show w.heap.size ≠ _; omega) (by show w.heap.size ≠ _; omega) _, ⟨by simp, fun x hx => ?_⟩, rfl, HB2.out.setCell (p := ⟨w.heap.size, 0, none⟩) (Nat.le_refl _) _, by simpa using hs2, World.cell?_setCell_same _ _ _ y3, HB5.out⟩
        exact Below.heap_setCell _ _ _ _ (by show x ≠ w.heap.size; omega)
  case done =>
    rintro xs W rfl ⟨h1, h2, h3, h4, h5⟩ hDef
    rw [hs4] at hDef ⊢
    have HB : Hid (Below w.heap.size w W) := h1
    have HE : Hid (BB = false) := by
      show _ = _
      rw [← HBB.out, HBO.out]
      exact h5
    clear h1 h5 k0 k1 c0' c1' hb4
    gi_wp2
    have hDef' : (W.setCell ⟨w.heap.size, 0, none⟩ .nilIface).heap[sb + 2]? = some (.deferred (some [])) := (Below.heap_setCell _ _ _ _ (by show sb + 2 ≠ w.heap.size; omega)).trans hDef
    have hP := Put1.putObj (sb + 2) (W.setCell ⟨w.heap.size, 0, none⟩ .nilIface) (.deferred none)
    have p0 := (hP.cell (b := w.heap.size) (o := 0) (by omega)).trans (World.cell?_setCell_same _ _ .nilIface h3)
    refine ⟨by simp, .inl ⟨_, _, rfl, run_takeDeferred hDef', ?_⟩⟩
    refine ⟨.nilIface, by simp [results, Tryz.results103, go_sem, p0], ?_, (HB.out.setCell (p := ⟨w.heap.size, 0, none⟩) (Nat.le_refl _) _).trans (hP.below (by omega))⟩
    rw [← HV.out, HE.out]
    rfl
  case stop =>
    rintro k pre W ⟨rest, hsp⟩ ⟨rfl, h1, h2, h3, h5⟩ hDef
    rw [hs4] at hDef ⊢
    have HB : Hid (Below w.heap.size w W) := h1
    have HE : Hid (BB = true) := by
      show _ = _
      rw [← HBB.out, HBO.out, hsp, List.any_append, h5]
      rfl
    clear h1 h5 k0 k1 c0' c1' hb4
    gi_wp2
    have hP := Put1.putObj (sb + 2) W (.deferred none)
    have p0 := (hP.cell (b := w.heap.size) (o := 0) (by omega)).trans h3
    refine ⟨by simp, .inl ⟨_, _, rfl, run_takeDeferred hDef, ?_⟩⟩
    refine ⟨.iface 26 (.int .i64 10), by simp [results, Tryz.results103, go_sem, p0], ?_, HB.out.trans (hP.below (by omega))⟩
    rw [← HV.out, HE.out]
    rfl

theorem checkOver_any (v : Value) (ps : List Pt) (s : List UInt8) (w : World) (hT : Lib.Utf8Tabs 2 3 w) (hr : opAt w v ps) (hwf : ∀ p ∈ ps, wfP p) (hs : s.length < 1000000000) (hl : ps.length < 10000000) :
    Calls Tryz.prog 103 #[v, .string ⟨s.toArray⟩] w fun e w' => e = .returned (errV (ordE ps s)) ∧ Below w.heap.size w w' := by
  by_cases he : chkE ps (s.length : Int) = 0
  · exact checkOver_fine v ps s w hT hr hwf hs hl he
  · exact checkOver_err v ps s w hT hr hwf hs hl he
end Go.Proofs.YtfedgjnhanlmeabGreatDoor

namespace Go.Proofs
open Go.Shelf
def Tryz.lays169_ren : Go.Shelf.Ren := ⟨fun | 169 => 107 | n => n, fun | 70 => 180 | 9 => 9 | 0 => 0 | 72 => 182 | 37 => 156 | 127 => 267 | 3 => 3 | 5 => 5 | n => n, fun | n => n⟩
theorem Tryz.lays169 : Go.Proofs.Lays.n169 Tryz.prog Tryz.lays169_ren := {
  mixed := by kernel_rfl
  f169 := Tryz.func107.trans (congrArg some (by kernel_rfl))
  t0 := Tryz.underlying0
  a0 := Tryz.isAgg0
  z0 := Tryz.sizeOf0
  v0 := Tryz.zeroValue0
  t3 := Tryz.underlying3
  a3 := Tryz.isAgg3
  z3 := Tryz.sizeOf3
  v3 := Tryz.zeroValue3
  t9 := Tryz.underlying9
  a9 := Tryz.isAgg9
  z9 := Tryz.sizeOf9
  v9 := Tryz.zeroValue9
  t37 := Tryz.underlying156
  a37 := Tryz.isAgg156
  z37 := Tryz.sizeOf156
  v37 := Tryz.zeroValue156
  t70 := Tryz.underlying180
  a70 := Tryz.isAgg180
  z70 := Tryz.sizeOf180
  v70 := Tryz.zeroValue180
  t72 := Tryz.underlying182
  a72 := Tryz.isAgg182
  z72 := Tryz.sizeOf182
  v72 := Tryz.zeroValue182
  t127 := Tryz.underlying267
  a127 := Tryz.isAgg267
  z127 := Tryz.sizeOf267
  v127 := Tryz.zeroValue267 }
theorem Tryz.Builder_Extra_169 : Builder.Extra Tryz.prog Tryz.lays169_ren := {
  sizeBuilder := by kernel_rfl
  liesBuilder := by kernel_rfl
  t5 := Tryz.underlying5
  a5 := Tryz.isAgg5
  z5 := Tryz.sizeOf5
  v5 := Tryz.zeroValue5
  infoByte := by kernel_rfl
  cellsByte := by kernel_rfl
  sizeByte := by kernel_rfl
  neB5 := by decide }
end Go.Proofs

namespace Go.Proofs.YtfedgjnhanlmeabGreatDoor
open Go.RowKit
set_option linter.unusedVariables false

theorem size_builder : (Tryz.prog.info? 182).map (·.size) = some 2 := by kernel_rfl
theorem lies_builder : liesAt Tryz.prog Tryz.prog.depth 182 (2 / Tryz.prog.cellsOf 182) 0 182 1 = true := by kernel_rfl

set_option maxHeartbeats 1000000 in
set_option maxRecDepth 100000 in
theorem copyCheck_fresh (b : Nat) (w : World) (h0 : w.cell? ⟨b, 0, none⟩ = some (.pointer none)) (hsh : w.shape? b = some (182, 2)) (hfz : w.frozen? ⟨b, 0, none⟩ = false) :
    Calls Tryz.prog 168 #[.pointer (some ⟨b, 0, none⟩)] w fun e w' => e = .returned (.tuple #[]) ∧ w' = w.setCell ⟨b, 0, none⟩ (.pointer (some ⟨b, 0, none⟩)) := by
  obtain ⟨j, hj, hjs⟩ := Option.map_eq_some_iff.1 size_builder
  have h1 := fun w => Lib.run_to_unsafe (P := Tryz.prog) w ⟨b, 0, none⟩ Tryz.underlying180 Tryz.underlying253 hj (by rw [hjs]; decide) (e := 182) (cells := 2)
  have h3 := Lib.run_from_unsafe (P := Tryz.prog) w ⟨b, 0, none⟩ Tryz.underlying253 Tryz.underlying180 hj hsh lies_builder
  have h1' := h1 w hsh (Nat.zero_lt_succ 1)
  have hNE := @run_callFunc_extern Tryz.prog 204 _ Extern.AbiNoEscape.same Tryz.func204 (by kernel_rfl) (by kernel_rfl) (by kernel_rfl) (by kernel_rfl)
  have hNR := fun (x : Value) (w : World) => Lib.run_noEscape (P := Tryz.prog) w x
  clear h1
  go_enter Tryz.func168, Tryz.ntmps168
  go_wp2
  go_end0
  exact ⟨rfl, rfl⟩
set_option maxHeartbeats 1000000 in
set_option maxRecDepth 100000 in
theorem copyCheck_used (b : Nat) (w : World) (h0 : w.cell? ⟨b, 0, none⟩ = some (.pointer (some ⟨b, 0, none⟩))) :
    Calls Tryz.prog 168 #[.pointer (some ⟨b, 0, none⟩)] w fun e w' => e = .returned (.tuple #[]) ∧ w' = w := by
  obtain ⟨j, hj, _⟩ := Option.map_eq_some_iff.1 size_builder
  have hne := Lib.run_neq_ptr_same (P := Tryz.prog) w ⟨b, 0, none⟩ Tryz.underlying180 hj
  go_enter Tryz.func168, Tryz.ntmps168
  go_wp2
  go_end0
  exact ⟨rfl, rfl⟩

theorem copyCheck_any (B b : Nat) (bs : List Value) (w : World) (h : Lib.IsBuilder 182 5 B b bs w) :
    Calls Tryz.prog 168 #[.pointer (some ⟨b, 0, none⟩)] w fun e w' => e = .returned (.tuple #[]) ∧ (Lib.BuilderAt 182 5 B b (.pointer (some ⟨b, 0, none⟩)) bs w' ∧ Below B w w' ∧ Lib.OthersKept 5 (some b) w w') := by
  rcases h with h | h
  · refine (copyCheck_fresh b w h.cell0 h.shape h.frozen0).mono ?_
    rintro e w' ⟨rfl, rfl⟩
    exact ⟨rfl, h.used _, (Below.refl B w).setCell (p := ⟨b, 0, none⟩) h.1 _, (Lib.OthersKept.refl _ _ w).setCell ⟨b, 0, none⟩ rfl _⟩
  · refine (copyCheck_used b w h.cell0).mono ?_
    rintro e w' ⟨rfl, rfl⟩
    exact ⟨rfl, h, Below.refl B _, Lib.OthersKept.refl _ _ _⟩

set_option maxHeartbeats 2000000 in
set_option maxRecDepth 100000 in
theorem WriteString_any (B b : Nat) (bs : List Value) (s : ByteArray) (w : World) (h : Lib.IsBuilder 182 5 B b bs w) (hlen : bs.length + s.size ≤ 1000000000000) (hBw : B ≤ w.heap.size) :
    Calls Tryz.prog 106 #[.pointer (some ⟨b, 0, none⟩), .string s] w fun e w' => (∃ v, e = .returned v) ∧ (Lib.IsBuilder 182 5 B b (bs ++ Lib.strCells s) w' ∧ Below B w w' ∧ Lib.OthersKept 5 (some b) w w') := by
  obtain ⟨i0, hi, hz0, hz1, hz2⟩ := info_parts info_u8
  have cC := copyCheck_any B b bs w h
  clear h
  go_enter Tryz.func106, Tryz.ntmps106
  go_wp2_with (first | (go_at_call 168; refine cC.mono ?_; rintro e w1 ⟨rfl, ⟨hB, v, hbk, hown, hne⟩, hb1, hk1⟩; have c0 : w1.cell? ⟨b, 0, none⟩ = some (.pointer (some ⟨b, 0, none⟩)) := (by rw [Lib.cell_of_heap hbk]; rfl); have c1 : w1.cell? ⟨b, 1, none⟩ = some v := (by rw [Lib.cell_of_heap hbk]; rfl)) | (at_builtin; refine Lib.wpList_append_own_string _ rfl _ _ 156 9 rfl B 5 i0 Tryz.underlying156 Tryz.underlying9 hi hz0 hz1 hz2 _ _ _ rfl hown s rfl (by unfold maxLen; omega) (by omega) (by have := hb1.size; omega) ?_) | fail)
  intro v' w2 hown' hgrow _
  have hlt : b < w1.heap.size := World.block_lt_of_cell? w1 _ c0
  have hb2 : w2.heap[b]? = some (.cells #[.pointer (some ⟨b, 0, none⟩), v] 182 (0, 0)) := by
    rw [hgrow.block b hlt (fun e => hne e.symm)]
    exact hbk
  have d0 : w2.cell? ⟨b, 0, none⟩ = some (.pointer (some ⟨b, 0, none⟩)) := by rw [Lib.cell_of_heap hb2]; rfl
  have d1 : w2.cell? ⟨b, 1, none⟩ = some v := by rw [Lib.cell_of_heap hb2]; rfl
  have f1 : w2.frozen? ⟨b, 1, none⟩ = false := Lib.frozen_of_heap hb2 1
  obtain ⟨ao, cap, rfl⟩ := own_slice hown'
  have HP : Hid (Lib.IsBuilder 182 5 B b (bs ++ Lib.strCells s) (w2.setCell ⟨b, 1, none⟩ (.slice ao (bs.length + s.size) cap)) ∧ Below B w (w2.setCell ⟨b, 1, none⟩ (.slice ao (bs.length + s.size) cap)) ∧ Lib.OthersKept 5 (some b) w (w2.setCell ⟨b, 1, none⟩ (.slice ao (bs.length + s.size) cap))) := by
    refine ⟨.inr ?_, ?_, (hk1.grown hgrow (Lib.ownsRowF_kind (World.ownsRowF_of hown))).setCell ⟨b, 1, none⟩ rfl _⟩
    · exact Lib.BuilderAt.put (T := 182) (e := 5) hB hb2 (bs' := bs ++ Lib.strCells s) (by simpa [Lib.strCells_length] using hown') (by decide)
    · exact (hb1.grown hgrow (by have := hb1.size; omega) (fun k hk => (hown.lt k hk).1)).setCell (p := ⟨b, 1, none⟩) hB _
  clear hown hown' hgrow hb2 hbk hb1 hk1 c0 c1
  go_wp2
  go_ret2
  exact ⟨⟨_, rfl⟩, HP.out⟩
end Go.Proofs.YtfedgjnhanlmeabGreatDoor

namespace Go.Proofs.YtfedgjnhanlmeabGreatDoor
open Go.RowKit

theorem wp_range_ownD {α : Type} {P : Program} {g : Operand} {ps : Array Tmp} {assign body : Code} {Q : Exit → Act → World → Prop} {a : Act} {w : World} {n : Nat}
    {gf : Nat} {lb : Array Value} (hg : a.eval g = .func (.func gf) #[] lb) (eg : ∀ args w, (callFunc gf args).run P w = .ok (.enter gf args) w)
    {encs : List α → α → Array Value} (hps : ∀ pre x, (encs pre x).size = ps.size)
    {It Kp : World → World → Prop} {Z : World → Prop} {S Sp : List α → Prop}
    (hseq : ∀ W, W.heap.size = w.heap.size + 2 → Below w.heap.size w W → SeqOwn P gf lb encs It Kp Z S Sp W)
    (hIt : ∀ A B, It A B → Same2 w.heap.size A B)
    (hKt : ∀ {A B C : World}, Kp A B → Kp B C → Kp A C) (hKb : ∀ (A : World) (r : Loop), Kp A (A.putObj (w.heap.size + 1) (.loop r)))
    (I : List α → World → Prop) (Ix : Code → List α → World → Prop)
    (hIz : ∀ pre A, I pre A → Z A) (hIxz : ∀ c pre A, Ix c pre A → Z A)
    (hI : ∀ pre A B, I pre A → It A B → I pre B) (hIb : ∀ pre A (r : Loop), I pre A → I pre (A.putObj (w.heap.size + 1) (.loop r)))
    (hIx : ∀ c pre A B, Ix c pre A → It A B → Ix c pre B) (hIxb : ∀ c pre A (r : Loop), Ix c pre A → Ix c pre (A.putObj (w.heap.size + 1) (.loop r)))
    (h0 : ∀ W, W.heap.size = w.heap.size + 2 → Below w.heap.size w W → (∃ r, W.heap[w.heap.size + 1]? = some (.loop r)) → W.heap[w.heap.size]? = some (.deferred (some [])) → I [] W)
    (hround : ∀ (l : Nat) (pre : List α) (x : α) (W : World), I pre W → w.heap.size + 2 ≤ W.heap.size → Sp (pre ++ [x]) →
      assign.wpIn (Fence.wide.inRound l) 0 P (Exit.then (fun a₁ w₁ => Same2 w.heap.size W w₁ ∧ Kp W w₁ ∧ ∀ w₂, Put1 (w.heap.size + 1) w₁ w₂ → (∃ r, w₂.heap[w.heap.size + 1]? = some (.loop r)) → body.wpIn (Fence.wide.inRound l) 0 P (ownPostO w.heap.size Kp I Ix (pre ++ [x]) w₂) a₁ w₂) (fun _ _ _ => False))
        { tmps := (ps.zip (encs pre x)).foldl (fun t (p, v) => t.setIfInBounds p v) a.tmps, defers := [] } W)
    (hdone : ∀ (xs : List α) (W : World), S xs → I xs W → W.heap[w.heap.size]? = some (.deferred (some [])) → Q .normal { a with defers := { target := .collected w.heap.size, args := #[] } :: a.defers } W)
    (hstop : ∀ (c : Code) (pre : List α) (W : World), Sp pre → Ix c pre W → W.heap[w.heap.size]? = some (.deferred (some [])) → c.wpIn Fence.wide n P Q { a with defers := { target := .collected w.heap.size, args := #[] } :: a.defers } W) :
    (Code.rangeFunc g ps assign body).wpIn Fence.wide n P Q a w := by
  refine wpIn_rangeFunc ?_
  intro fn hfn
  obtain ⟨rec, hrec⟩ : ∃ rec : LoopState → Option Code → Loop, rec = fun st pe => { state := st, pending := pe, fn, tmps := a.tmps, params := ps, assign, body, defers := w.heap.size } := ⟨_, rfl⟩
  obtain ⟨W1, hW1⟩ : ∃ W1, (w.alloc (.deferred (some []))).alloc (.loop (rec .ready none)) = W1 := ⟨_, rfl⟩
  have hL1 : W1.heap[w.heap.size + 1]? = some (.loop (rec .ready none)) := by
    rw [← hW1]; have := World.alloc_heap_new (w.alloc (.deferred (some []))) (.loop (rec .ready none)); rwa [World.size_alloc] at this
  have hK1 : W1.heap[w.heap.size]? = some (.deferred (some [])) := by
    rw [← hW1]; exact (Below.heap_alloc _ _ _ (by simp)).trans (World.alloc_heap_new w _)
  have hs1 : W1.heap.size = w.heap.size + 2 := by rw [← hW1, World.size_alloc, World.size_alloc]
  have hb1 : Below w.heap.size w W1 := by
    rw [← hW1]; exact ((Below.refl _ w).alloc (Nat.le_refl _) _).alloc (by simp) _
  have hI1 : I [] W1 := h0 W1 hs1 hb1 ⟨_, hL1⟩ hK1
  refine ⟨w.heap.size + 1, [{ target := .collected w.heap.size, args := #[] }], W1, { target := .fn (.func gf) lb, args := #[.func (.yield (w.heap.size + 1)) #[] #[]] }, W1, gf,
    #[.func (.yield (w.heap.size + 1)) #[] #[]] ++ lb, W1, ?_, ?_, ?_, ?_, fun h => (by cases h), ?_⟩
  · rw [← hW1, hrec]; exact run_enterLoop_outer _ _ _ _ _
  · simp only [resolve, hg]
    simp [go_sem]
  · intro f' hf'; trivial
  · simp [invoke, go_sem, eg]
  · refine CallsIn.more ((hseq W1 hs1 hb1 (w.heap.size + 1)
      (fun pre W => I pre W ∧ W.heap[w.heap.size + 1]? = some (.loop (rec .ready none)) ∧ W.heap[w.heap.size]? = some (.deferred (some [])))
      (fun pre W => ∃ c, Ix c pre W ∧ W.heap[w.heap.size + 1]? = some (.loop (rec .done (some c))) ∧ W.heap[w.heap.size]? = some (.deferred (some [])))
      (fun s A hs => hIz s A hs.1) (fun s A hs => (by obtain ⟨c, hc, _⟩ := hs; exact hIxz c s A hc))
      (fun s A B hs hg' => ⟨hI s A B hs.1 hg', (hIt A B hg').b.trans hs.2.1, (hIt A B hg').a.trans hs.2.2⟩)
      (fun s A B hs hg' => by
        obtain ⟨c, hc, hl, hk⟩ := hs
        exact ⟨c, hIx c s A B hc hg', (hIt A B hg').b.trans hl, (hIt A B hg').a.trans hk⟩)
      ?_ ⟨hI1, hL1, hK1⟩).mono ?_) (Nat.zero_le _)
    · -- one round
      rintro pre x W ⟨hi, hl, hk⟩ hSp
      have hlt : w.heap.size + 1 < W.heap.size := (Array.getElem?_eq_some_iff.1 hl).1
      have hy := run_yield (P := P) (args := encs pre x) hl (by rw [hrec]; exact hps pre x)
      rw [hrec] at hy
      refine ⟨fn, _, assign, body, hy, roundIn_of_wpIn hfn (wpIn_mono (hround _ pre x W hi (by omega) hSp) ?_)⟩
      clear hy
      rintro ea a' Wa hq
      cases ea with
      | normal => ?_
      | ret => exact hq.elim
      | exit id => exact hq.elim
      | goto t => exact hq.elim
      | panic c => exact hq.elim
      | outgrown => exact hq.elim
      obtain ⟨h2a, hkpa, hbody⟩ := hq
      replace hl := h2a.b.trans hl
      replace hk := h2a.a.trans hk
      replace hlt : w.heap.size + 1 < Wa.heap.size := (Array.getElem?_eq_some_iff.1 hl).1
      refine ⟨_, run_beginRound hl (by rw [hrec]), ?_⟩
      have hl2 : (Wa.putObj (w.heap.size + 1) (.loop { rec .ready none with state := .busy })).heap[w.heap.size + 1]? = some (.loop { rec .ready none with state := .busy }) := World.putObj_heap_same hlt
      have hk2 : (Wa.putObj (w.heap.size + 1) (.loop { rec .ready none with state := .busy })).heap[w.heap.size]? = some (.deferred (some [])) := (World.putObj_heap_other (by omega)).trans hk
      have hw2 : Kp Wa (Wa.putObj (w.heap.size + 1) (.loop { rec .ready none with state := .busy })) := hKb _ _
      refine wpIn_mono (hbody _ (Put1.putObj _ _ _) ⟨_, hl2⟩) ?_
      have fin : ∀ (jump : Option Code) (W3 : World), Same2 w.heap.size (Wa.putObj (w.heap.size + 1) (.loop { rec .ready none with state := .busy })) W3 →
          (Instr.endRound (w.heap.size + 1) jump).run P W3 = .ok (.bool jump.isNone) (W3.putObj (w.heap.size + 1) (.loop (rec (if jump.isNone then .ready else .done) jump))) ∧
          (W3.putObj (w.heap.size + 1) (.loop (rec (if jump.isNone then .ready else .done) jump))).heap[w.heap.size + 1]? = some (.loop (rec (if jump.isNone then .ready else .done) jump)) ∧
          (W3.putObj (w.heap.size + 1) (.loop (rec (if jump.isNone then .ready else .done) jump))).heap[w.heap.size]? = some (.deferred (some [])) := fun jump W3 hk3 => by
        have hl3 := hk3.b.trans hl2
        have := run_endRound (P := P) jump hl3
        rw [hrec] at this ⊢
        exact ⟨this, World.putObj_heap_same (Array.getElem?_eq_some_iff.1 hl3).1, (World.putObj_heap_other (by omega)).trans (hk3.a.trans hk2)⟩
      rintro e a3 W3 hp
      cases e with
      | normal =>
        obtain ⟨hk3, hkp3, hi3⟩ := hp
        obtain ⟨hr, hl4, hk4⟩ := fin none W3 hk3
        exact ⟨_, _, hr, .inl ⟨rfl, ⟨hIb _ _ _ hi3, hl4, hk4⟩, hKt hkpa (hKt (hKt hw2 hkp3) (hKb _ _))⟩⟩
      | ret =>
        obtain ⟨hk3, hkp3, hi3⟩ := hp
        obtain ⟨hr, hl4, hk4⟩ := fin (some .ret) W3 hk3
        exact ⟨_, _, hr, .inr ⟨rfl, ⟨.ret, hIxb _ _ _ _ hi3, hl4, hk4⟩, hKt hkpa (hKt (hKt hw2 hkp3) (hKb _ _))⟩⟩
      | exit id =>
        obtain ⟨hk3, hkp3, hi3⟩ := hp
        obtain ⟨hr, hl4, hk4⟩ := fin (some (.exit id)) W3 hk3
        exact ⟨_, _, hr, .inr ⟨rfl, ⟨.exit id, hIxb _ _ _ _ hi3, hl4, hk4⟩, hKt hkpa (hKt (hKt hw2 hkp3) (hKb _ _))⟩⟩
      | goto t =>
        obtain ⟨hk3, hkp3, hi3⟩ := hp
        obtain ⟨hr, hl4, hk4⟩ := fin (some (.goto t)) W3 hk3
        exact ⟨_, _, hr, .inr ⟨rfl, ⟨.goto t, hIxb _ _ _ _ hi3, hl4, hk4⟩, hKt hkpa (hKt (hKt hw2 hkp3) (hKb _ _))⟩⟩
      | panic ch => exact hp.elim
      | outgrown => exact hp.elim
    · -- behind the iterator
      rintro e W2 ⟨⟨v, rfl⟩, (⟨xs, hS, hi, hl, hk⟩ | ⟨pre, hSp, c, hi, hl, hk⟩)⟩
      · exact ⟨none, _, by have := run_endLoop (P := P) hl (by rw [hrec]; simp); rw [hrec] at this; exact this, hdone xs _ hS (hIb _ _ _ hi) ((World.putObj_heap_other (by omega)).trans hk)⟩
      · exact ⟨some c, _, by have := run_endLoop (P := P) hl (by rw [hrec]; simp); rw [hrec] at this; exact this, hstop c pre _ hSp (hIxb _ _ _ _ hi) ((World.putObj_heap_other (by omega)).trans hk)⟩

end Go.Proofs.YtfedgjnhanlmeabGreatDoor
