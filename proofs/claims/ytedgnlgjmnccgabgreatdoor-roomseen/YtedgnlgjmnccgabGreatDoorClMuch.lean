/-
  Whether an operation puts too much (slices.ContainsFunc of it); a part in another unit (client.sized).
-/
import Derived.Test.YtedgnlgjmnccgabGreatDoorClMem
import Derived.Test.YtedgnlgjmnccgabGreatDoorSrvPush
namespace Go.Proofs.YtedgnlgjmnccgabGreatDoor
open Go.RowKit Go.Maps
set_option linter.unusedVariables false
attribute [local go_sem] Oper.semAt_some

set_option maxRecDepth 100000 in
theorem much1_any (q : Pt) (w : World) : Calls Tryz.prog 117 #[.agg #[.int .i64 q.keep, .int .i64 q.drop, .string ⟨q.put.toArray⟩]] w fun e w' => e = .returned (.bool (muchP q)) ∧ Below w.heap.size w w' := by
  unfold muchP
  obtain ⟨K, D, U⟩ := q
  have hz : (ByteArray.mk U.toArray).size = U.length := by simp [ByteArray.size]
  by_cases h : 200 < U.length
  · have h1 : (200 : Int) < (U.length : Int) := by omega
    rw [decide_eq_true h]
    go_enter Tryz.func117, Tryz.ntmps117
    go_wp2
    go_ret
    exact ⟨rfl, (Below.refl _ _).alloc (Nat.le_refl _) _⟩
  · have h1 : ¬ (200 : Int) < (U.length : Int) := by omega
    rw [decide_eq_false h]
    go_enter Tryz.func117, Tryz.ntmps117
    go_wp2
    go_ret
    exact ⟨rfl, (Below.refl _ _).alloc (Nat.le_refl _) _⟩
set_option maxRecDepth 100000 in
set_option maxHeartbeats 1000000 in
theorem idxF_any (v : Value) (ps : List Pt) (w : World) (hr : opAt w v ps) (hl : ps.length ≤ 1000) :
    Calls Tryz.prog 179 #[v, .func (.func 117) #[] #[]] w fun e w' => ∃ i : Int, e = .returned (.int .i64 i) ∧ (decide (0 ≤ i) = ps.any muchP) ∧ Below w.heap.size w w' := by
  obtain ⟨p, c, rfl, r1, r2, r3⟩ := hr
  have R3 : Hid _ := r3
  obtain ⟨n, hn⟩ : ∃ n, ps.length = n := ⟨_, rfl⟩
  have HN : Hid (ps.length = n) := hn
  rw [hn] at r1 hl ⊢
  clear r3 hn
  unfold maxLen at r2
  have hni : (n : Int) ≤ 1000 := by omega
  go_enter Tryz.func179, Tryz.ntmps179
  go_wp2
  go_loopw [8] (fun i wr => ∃ k : Nat, i = .int .i64 k ∧ k ≤ n ∧ (ps.take k).any muchP = false ∧ Below w.heap.size w wr) (fun i _ => n - (intOf i).toNat)
  case atStart => exact ⟨0, rfl, Nat.zero_le _, rfl, Below.refl _ _⟩
  case round =>
    obtain ⟨k, rfl, hk, hno, hbw⟩ := hrel
    have HNO : Hid ((ps.take k).any muchP = false) := hno
    have HBW : Hid (Below w.heap.size w wr) := hbw
    clear hno hbw
    by_cases hlt : k < n
    · have hkr : k < ps.length := by rw [HN.out]; exact hlt
      have hne : ps ≠ [] := by intro e; rw [e] at hkr; exact absurd hkr (Nat.not_lt_zero _)
      obtain ⟨b, o, rfl, hb, hcell⟩ := R3.out hne
      obtain ⟨c0, c1, c2⟩ := hcell k ps[k] (List.getElem?_eq_getElem hkr)
      have g0 := (HBW.out.cell (p := ⟨b, o + k * 3, none⟩) hb).trans c0
      have g1 := (HBW.out.cell (p := ⟨b, o + k * 3 + 1, none⟩) hb).trans c1
      have g2 := (HBW.out.cell (p := ⟨b, o + k * 3 + 2, none⟩) hb).trans c2
      have hki : (k : Int) < (n : Int) := by omega
      have hts : ps.take (k + 1) = ps.take k ++ [ps[k]] := List.take_succ_eq_append_getElem hkr
      have hin : ps[k] ∈ ps := List.getElem_mem hkr
      have CM : Hid (∀ wx, Calls Tryz.prog 117 #[.agg #[.int .i64 ps[k].keep, .int .i64 ps[k].drop, .string ⟨ps[k].put.toArray⟩]] wx fun e w' => e = .returned (.bool (muchP ps[k])) ∧ Below wx.heap.size wx w') := fun wx => much1_any _ wx
      cases hm : muchP ps[k] with
      | true =>
        have HAN : Hid (ps.any muchP = true) := List.any_eq_true.2 ⟨_, hin, hm⟩
        rw [hm] at CM
        clear hcell c0 c1 c2 hne hts hin hm
        generalize ps[k] = q at *
        obtain ⟨K, D, U⟩ := q
        simp only at g0 g1 g2 CM
        go_wp2_with (first
          | (go_at_call 117; refine (CM.out _).mono ?_; rintro e w2 ⟨rfl, hb2⟩; have HB2 : Hid (Below w.heap.size w w2) := HBW.out.trans (hb2.mono HBW.out.size); clear hb2)
          | fail)
        go_ret
        exact ⟨_, rfl, by rw [HAN.out]; exact decide_eq_true (by omega), HB2.out⟩
      | false =>
        have HAN : Hid ((ps.take (k + 1)).any muchP = false) := by show _ = _; rw [hts, List.any_append, HNO.out]; simp [hm]
        rw [hm] at CM
        clear hcell c0 c1 c2 hne hts hin hm
        generalize ps[k] = q at *
        obtain ⟨K, D, U⟩ := q
        simp only at g0 g1 g2 CM
        go_wp2_with (first
          | (go_at_call 117; refine (CM.out _).mono ?_; rintro e w2 ⟨rfl, hb2⟩; have HB2 : Hid (Below w.heap.size w w2) := HBW.out.trans (hb2.mono HBW.out.size); clear hb2)
          | fail)
        go_roundw
        case rel => exact ⟨k + 1, by go_num, by omega, HAN.out, HB2.out⟩
        case measure => simp [intOf]; omega
    · obtain rfl : k = n := by omega
      have HAN : Hid (ps.any muchP = false) := by
        have := HNO.out
        rw [← HN.out, List.take_length] at this
        exact this
      have hki : ¬ ((k : Int) < (k : Int)) := by omega
      go_wp2
      go_ret
      exact ⟨_, rfl, by rw [HAN.out]; exact decide_eq_false (by omega), HBW.out⟩
set_option maxRecDepth 100000 in
theorem contF_any (v : Value) (ps : List Pt) (w : World) (hr : opAt w v ps) (hl : ps.length ≤ 1000) :
    Calls Tryz.prog 118 #[v, .func (.func 117) #[] #[]] w fun e w' => e = .returned (.bool (ps.any muchP)) ∧ Below w.heap.size w w' := by
  have C : Hid _ := idxF_any v ps w hr hl
  obtain ⟨p, c, rfl, _⟩ := hr
  cases hm : ps.any muchP with
  | true =>
    rw [hm] at C
    go_enter Tryz.func118, Tryz.ntmps118
    go_wp2_with (first
      | (go_at_call 179; refine Calls.mono C.out ?_; rintro e w2 ⟨i, rfl, hi, hb2⟩; have hi2 : 0 ≤ i := of_decide_eq_true hi; have HB2 : Hid (Below w.heap.size w w2) := hb2; clear hb2 hi)
      | fail)
    go_ret
    exact ⟨by simp, HB2.out⟩
  | false =>
    rw [hm] at C
    go_enter Tryz.func118, Tryz.ntmps118
    go_wp2_with (first
      | (go_at_call 179; refine Calls.mono C.out ?_; rintro e w2 ⟨i, rfl, hi, hb2⟩; have hi2 : ¬ 0 ≤ i := of_decide_eq_false hi; have HB2 : Hid (Below w.heap.size w w2) := hb2; clear hb2 hi)
      | fail)
    go_ret
    exact ⟨by simp [hi2], HB2.out⟩

def ptV (q : Pt) : Value := .agg #[.int .i64 q.keep, .int .i64 q.drop, .string ⟨q.put.toArray⟩]
set_option maxRecDepth 100000 in
set_option maxHeartbeats 1000000 in
theorem sized_any (q : Pt) (n : Int) (w : World) (hp : q.put.length ≤ 1000000) :
    Calls Tryz.prog 181 #[.agg #[.int .i64 q.keep, .int .i64 q.drop, .string ⟨q.put.toArray⟩], .int .i64 n] w fun e w' => e = .returned (ptV (unit1 n q)) ∧ Below w.heap.size w w' := by
  obtain ⟨K, D, U⟩ := q
  have CL : Hid (∀ wx, Calls Tryz.prog 112 #[.string ⟨U.toArray⟩] wx fun e w' => e = .returned (.string ⟨U.toArray⟩) ∧ Below wx.heap.size wx w') := fun wx => cloneS_any U (by have : U.length ≤ 1000000 := hp; omega) wx
  unfold unit1 ptV
  simp only
  have hb1 : Below w.heap.size w ((w.alloc (.cells #[.int .i64 K, .int .i64 D, .string ⟨U.toArray⟩] 50)).alloc (.cells #[.int .i64 0, .int .i64 0, .string ⟨#[]⟩] 50)) := ((Below.refl _ _).alloc (Nat.le_refl _) _).alloc (by rw [World.size_alloc]; omega) _
  have HB1 : Hid _ := hb1
  clear hb1 hp
  by_cases hK : 0 < K
  · rw [if_pos hK]
    go_enter Tryz.func181, Tryz.ntmps181
    go_wp2
    exact bodyPost_ret (v := .agg #[.int .i64 n, .int .i64 0, .string ⟨#[]⟩]) (by simp [results, Tryz.results181, go_sem]) rfl ⟨rfl, ((Below.refl _ _).alloc (Nat.le_refl _) _).alloc (by rw [World.size_alloc]; omega) _⟩
  · rw [if_neg hK]
    by_cases hD : 0 < D
    · rw [if_pos hD]
      go_enter Tryz.func181, Tryz.ntmps181
      go_wp2
      exact bodyPost_ret (v := .agg #[.int .i64 0, .int .i64 n, .string ⟨#[]⟩]) (by simp [results, Tryz.results181, go_sem]) rfl ⟨rfl, ((Below.refl _ _).alloc (Nat.le_refl _) _).alloc (by rw [World.size_alloc]; omega) _⟩
    · rw [if_neg hD]
      go_enter Tryz.func181, Tryz.ntmps181
      go_wp2_with (first
        | (go_at_call 9999)
        | fail)
      refine (CL.out _).mono ?_
      rintro e w2 ⟨rfl, hb2⟩
      have hbox : w2.heap[w.heap.size + 1]? = some (.cells #[.int .i64 0, .int .i64 0, .string ⟨#[]⟩] 50 (0, 0)) := (hb2.block (w.heap.size + 1) (by rw [World.size_alloc, World.size_alloc]; omega)).trans (by have := heap_alloc_new (w.alloc (.cells #[.int .i64 K, .int .i64 D, .string ⟨U.toArray⟩] 50)) (.cells #[.int .i64 0, .int .i64 0, .string ⟨#[]⟩] 50); rwa [World.size_alloc] at this)
      have y0 : w2.cell? ⟨w.heap.size + 1, 0, none⟩ = some (.int .i64 0) := Lib.cell_of_heap hbox 0
      have y1 : w2.cell? ⟨w.heap.size + 1, 1, none⟩ = some (.int .i64 0) := Lib.cell_of_heap hbox 1
      have y2 : w2.cell? ⟨w.heap.size + 1, 2, none⟩ = some (.string ⟨#[]⟩) := Lib.cell_of_heap hbox 2
      have z0 : w2.frozen? ⟨w.heap.size + 1, 0, none⟩ = false := frozen_block hbox
      have z1 : w2.frozen? ⟨w.heap.size + 1, 1, none⟩ = false := frozen_block hbox
      have z2 : w2.frozen? ⟨w.heap.size + 1, 2, none⟩ = false := frozen_block hbox
      have HB2 : Hid (Below w.heap.size w w2) := HB1.out.trans (hb2.mono HB1.out.size)
      clear hb2 hbox
      go_wp2
      exact bodyPost_ret (v := .agg #[.int .i64 0, .int .i64 0, .string ⟨U.toArray⟩]) (by simp [results, Tryz.results181, go_sem, y0, y1, y2]) rfl ⟨rfl, ((HB2.out.setCell (p := ⟨w.heap.size + 1, 0, none⟩) (Nat.le_succ _) _).setCell (p := ⟨w.heap.size + 1, 1, none⟩) (Nat.le_succ _) _).setCell (p := ⟨w.heap.size + 1, 2, none⟩) (Nat.le_succ _) _⟩
end Go.Proofs.YtedgnlgjmnccgabGreatDoor
