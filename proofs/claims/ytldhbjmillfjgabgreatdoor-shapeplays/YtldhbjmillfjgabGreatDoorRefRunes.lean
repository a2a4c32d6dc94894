/-
  The document's own Runes: what it returns of any text.
-/
import Derived.Test.YtldhbjmillfjgabGreatDoorRefRead
import Derived.Test.YtldhbjmillfjgabGreatDoorUtf
namespace Go.Proofs.YtldhbjmillfjgabGreatDoor
open Go.RowKit
set_option linter.unusedVariables false

theorem extract_list (s : ByteArray) (k : Nat) : (s.extract k s.size).data.toList = s.data.toList.drop k := by
  rw [Lib.extract_data, List.take_of_length_le (by rw [List.length_drop, ← Lib.size_eq]; exact Nat.le_refl _)]

set_option maxRecDepth 100000 in
set_option maxHeartbeats 4000000 in
theorem refRunes_any (s : ByteArray) (hs : s.size < 100000000) (w : World) :
    Calls Tryz.prog 56 #[.string s] w fun e w' => Below w.heap.size w w' ∧
      (((scan s.data.toList).2 = true ∧ ∃ v, e = .returned (.tuple #[v, fault 0 (-1)]) ∧ isRow w w' 21 v (cellsOf21 (scan s.data.toList).1)) ∨
       ((scan s.data.toList).2 = false ∧ e = .returned (.tuple #[.slice none 0 0, fault 3 (place s.data.toList)]))) := by
  have hsz : Hid (s.size = s.data.toList.length) := Lib.size_eq s
  obtain ⟨i0, hi, hz0, hz1, hz2⟩ := info_parts info21
  unfold fault
  go_enter Tryz.func56, Tryz.ntmps56
  go_wp2
  go_loopw [4, 5] (fun b i wr => ∃ (k : Nat) (done : List (Nat × Nat)), k ≤ s.size ∧ i = .int .i64 k ∧ (scan s.data.toList).1 = done ++ (scan (s.data.toList.drop k)).1 ∧ (done.map (·.2)).sum = k ∧ (scan s.data.toList).2 = (scan (s.data.toList.drop k)).2 ∧ done.length ≤ k ∧
      wr.ownsRow (w.heap.size + 1) 21 1 b done.length (cellsOf21 done) ∧
      wr.cell? ⟨w.heap.size, 0, none⟩ = some (.int .i64 0) ∧ wr.cell? ⟨w.heap.size, 1, none⟩ = some (.int .i64 0) ∧ wr.frozen? ⟨w.heap.size, 0, none⟩ = false ∧ wr.frozen? ⟨w.heap.size, 1, none⟩ = false ∧ Below w.heap.size w wr) (fun _ i _ => s.size - (intOf i).toNat)
  case atStart => exact ⟨0, [], Nat.zero_le _, rfl, by rw [List.drop_zero]; rfl, rfl, by rw [List.drop_zero], Nat.le_refl _, World.ownsRow_nil _ _ _ _, by simp [go_sem], by simp [go_sem], by simp [go_sem], by simp [go_sem], (Below.refl _ _).alloc (Nat.le_refl _) _⟩
  case round =>
    obtain ⟨k, done, hk, rfl, hd1, hd2, hd3, hdl, hown, c0, c1, f0, f1, hwr⟩ := hrel
    have hbl : w.heap.size < wr.heap.size := World.block_lt_of_cell? wr _ c0
    by_cases hlt : k < s.size
    · have hne : s.data.toList.drop k ≠ [] := by
        intro e
        have := congrArg List.length e
        rw [List.length_drop, List.length_nil, ← Lib.size_eq] at this
        omega
      have cF := first_any (s.extract k s.size) (by rw [ByteArray.size_extract]; omega) wr
      rw [extract_list] at cF
      unfold firstOf at cF
      rw [if_neg hne] at cF
      have hge := dec_ge1 (s.data.toList.drop k)
      have hle := dec_le hne
      rw [List.length_drop, ← hsz.out] at hle
      have hdn : done.length < 100000000 := by omega
      by_cases hb : badB (dec (s.data.toList.drop k)) = true
      · rw [hb] at cF
        simp only [if_true] at cF
        have hs2 := scan_bad hne hb
        have hpl : Hid (place s.data.toList = k) := by
          show _ = _
          unfold place
          rw [hd1, hs2, List.append_nil, hd2]
        have hf : Hid ((scan s.data.toList).2 = false) := by show _ = _; rw [hd3, hs2]
        clear hd1 hd2 hd3 hdl hs2 hown hne hb hge hle
        go_wp2_with (first | (go_at_call 104; refine cF.mono ?_; rintro e w1 ⟨rfl, hb1⟩; have e0 := (hb1.cell (p := ⟨w.heap.size, 0, none⟩) hbl).trans c0; have e1 := (hb1.cell (p := ⟨w.heap.size, 1, none⟩) hbl).trans c1; have g0 := (hb1.frozen (p := ⟨w.heap.size, 0, none⟩) hbl).trans f0; have g1 := (hb1.frozen (p := ⟨w.heap.size, 1, none⟩) hbl).trans f1) | fail)
        refine bodyPost_ret (v := .tuple #[.slice none 0 0, .agg #[.int .i64 3, .int .i64 k]]) (by simp [results, Tryz.results56, go_sem, e0, e1]) rfl ?_
        refine ⟨((hwr.trans (hb1.mono hwr.size)).setCell (p := ⟨w.heap.size, 0, none⟩) (Nat.le_refl _) _).setCell (p := ⟨w.heap.size, 1, none⟩) (Nat.le_refl _) _, .inr ⟨hf.out, by rw [hpl.out]⟩⟩
      · have hb : badB (dec (s.data.toList.drop k)) = false := Bool.eq_false_iff.2 hb
        rw [hb] at cF
        simp only [Bool.false_eq_true, if_false] at cF
        have hs2 := scan_good hne hb
        rw [List.drop_drop] at hs2
        obtain ⟨R, hR⟩ : ∃ R, R = (dec (s.data.toList.drop k)).1 := ⟨_, rfl⟩
        obtain ⟨K, hK⟩ : ∃ K, K = (dec (s.data.toList.drop k)).2 := ⟨_, rfl⟩
        have hp : dec (s.data.toList.drop k) = (R, K) := by rw [hR, hK]
        rw [hp] at cF hs2 hge hle
        simp only [] at cF hs2 hge hle
        have hnext : Hid ((scan s.data.toList).1 = done ++ [(R, K)] ++ (scan (s.data.toList.drop (k + K))).1) := by
          show _ = _
          rw [hd1, hs2, List.append_assoc]; rfl
        have hnext2 : Hid (((done ++ [(R, K)]).map (·.2)).sum = k + K) := by
          show _ = _
          rw [List.map_append, List.sum_append, hd2]; rfl
        have hnext3 : Hid ((scan s.data.toList).2 = (scan (s.data.toList.drop (k + K))).2) := by show _ = _; rw [hd3, hs2]
        have hnext4 : Hid ((done ++ [(R, K)]).length ≤ k + K) := by
          show _ ≤ _
          rw [List.length_append]
          simp
          omega
        have hr0 : ((K : Int) == 0) = false := by
          rw [beq_eq_false_iff_ne]
          intro e
          omega
        have NX : Hid (∀ w0 w1 v' o, Below wr.heap.size wr w0 → w1.ownsRow (w.heap.size + 1) 21 1 v' (done.length + 1) (cellsOf21 done ++ [.int .i32 R]) → (w0.alloc o).grownBy w1 (u4).ownBlock →
            w1.ownsRow (w.heap.size + 1) 21 1 v' (done ++ [(R, K)]).length (cellsOf21 (done ++ [(R, K)])) ∧
            w1.cell? ⟨w.heap.size, 0, none⟩ = some (.int .i64 0) ∧ w1.cell? ⟨w.heap.size, 1, none⟩ = some (.int .i64 0) ∧ w1.frozen? ⟨w.heap.size, 0, none⟩ = false ∧ w1.frozen? ⟨w.heap.size, 1, none⟩ = false ∧ Below w.heap.size w w1) := by
          intro w0 w1 v' o hb0 h1 hg
          have hB : Below (w.heap.size + 1) wr w1 := ((hb0.mono hbl).alloc (Nat.le_trans hbl hb0.size) o).grown hg (by rw [World.size_alloc]; have := hb0.size; omega) fun k hk => (hown.lt k hk).1
          refine ⟨?_, (hB.cell (p := ⟨w.heap.size, 0, none⟩) (Nat.lt_succ_self _)).trans c0, (hB.cell (p := ⟨w.heap.size, 1, none⟩) (Nat.lt_succ_self _)).trans c1, (hB.frozen (p := ⟨w.heap.size, 0, none⟩) (Nat.lt_succ_self _)).trans f0, (hB.frozen (p := ⟨w.heap.size, 1, none⟩) (Nat.lt_succ_self _)).trans f1, hwr.trans (hB.mono (Nat.le_succ _))⟩
          have e : cellsOf21 (done ++ [(R, K)]) = cellsOf21 done ++ [.int .i32 R] := by simp [cellsOf21]
          rw [List.length_append, e]
          exact h1
        obtain ⟨pb, cb, rfl⟩ := own_slice hown
        clear hd1 hd2 hd3 hdl hs2 hp hR hK hne hb
        generalize cellsOf21 done = xs at hown NX
        go_wp2_with (first | (go_at_call 104; refine cF.mono ?_; rintro e w0 ⟨rfl, hb1⟩; have hown0 := own_below hown hb1; have hz9 := hb1.size) | (at_builtin; refine wpList_append_own _ rfl (.tmp 23) (.tmp 25) 111 rfl (w.heap.size + 1) 21 i0 (.int .i32 0) 1 4 Tryz.underlying111 hi hz0 hz1 hz2 rfl (by decide) _ _ _ rfl (hown0.alloc _) ⟨w0.heap.size, 0, none⟩ 1 1 [.int .i32 R] rfl rfl (cell_one_new _ _ _) (ints_oneCell .i32 [(R : Int)]) (by unfold maxLen; omega) (by omega) (by first | omega | (simp; omega)) ?_; intro v' w1 hown1 hg _) | fail)
        have hnx := NX.out w0 w1 v' _ hb1 hown1 hg
        obtain ⟨n0, n1, n2, n3, n4, n5⟩ := hnx
        clear hown1 hg hown hown0
        go_wp2
        go_roundw
        case rel => exact ⟨k + K, _, by omega, by go_num, hnext.out, hnext2.out, hnext3.out, hnext4.out, n0, n1, n2, n3, n4, n5⟩
        case measure => simp [intOf]; omega
    · have hend : s.data.toList.drop k = [] := List.drop_eq_nil_of_le (by rw [← Lib.size_eq]; omega)
      rw [hend, scan_nil] at hd1 hd3
      rw [List.append_nil] at hd1
      obtain ⟨pb, cb, rfl⟩ := own_slice hown
      have HO : Hid (wr.ownsRow (w.heap.size + 1) 21 1 (.slice pb done.length cb) done.length (cellsOf21 done)) := hown
      have hfin : Hid ((scan s.data.toList).1 = done) := hd1
      have hok : Hid ((scan s.data.toList).2 = true) := hd3
      clear hd1 hd3 hend hdl hd2 hown
      go_wp2_with (first | (go_at_call 65; refine (Bare_any _ _).mono ?_; rintro e w1 ⟨rfl, hb1⟩; have e0 := (hb1.cell (p := ⟨w.heap.size, 0, none⟩) hbl).trans c0; have e1 := (hb1.cell (p := ⟨w.heap.size, 1, none⟩) hbl).trans c1; have g0 := (hb1.frozen (p := ⟨w.heap.size, 0, none⟩) hbl).trans f0; have g1 := (hb1.frozen (p := ⟨w.heap.size, 1, none⟩) hbl).trans f1) | fail)
      refine bodyPost_ret (v := .tuple #[.slice pb done.length cb, .agg #[.int .i64 0, .int .i64 (-1)]]) (by simp [results, Tryz.results56, go_sem, e0, e1]) rfl ?_
      refine ⟨((hwr.trans (hb1.mono hwr.size)).setCell (p := ⟨w.heap.size, 0, none⟩) (Nat.le_refl _) _).setCell (p := ⟨w.heap.size, 1, none⟩) (Nat.le_refl _) _, .inl ⟨hok.out, _, rfl, ?_⟩⟩
      rw [hfin.out]
      have hlen : (cellsOf21 done).length = done.length := by simp [cellsOf21]
      refine ⟨pb, cb, by rw [hlen], ?_⟩
      rw [hlen]
      exact own_mono (ownsRow_setCell_below (a := ⟨w.heap.size, 1, none⟩) (ownsRow_setCell_below (a := ⟨w.heap.size, 0, none⟩) (own_below HO.out hb1) (Nat.lt_succ_self _) _) (Nat.lt_succ_self _) _) (Nat.le_succ _)
end Go.Proofs.YtldhbjmillfjgabGreatDoor
