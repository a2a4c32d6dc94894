/-
  rosettakeep's pick and fit: what comes is few parts that are not great.
-/
import Derived.Test.YtedgnlgjmnccgabGreatDoorOpsNorm
import Derived.Test.YtedgnlgjmnccgabGreatDoorOpsChk
import Derived.Test.YtedgnlgjmnccgabGreatDoorTree
namespace Go.Proofs.YtedgnlgjmnccgabGreatDoor
open Go.RowKit
set_option linter.unusedVariables false
attribute [local go_sem] Oper.semAt_some

/-- What pick picks. -/
def pk (a m : Int) : Int := IntKind.u64.wrap a % m
theorem pk_bd (a m : Int) (h : 0 < m) : 0 ≤ pk a m ∧ pk a m < m := ⟨Int.emod_nonneg _ (by omega), Int.emod_lt_of_pos _ h⟩
set_option maxHeartbeats 1000000 in
theorem pick_any (a m : Int) (ha : -9223372036854775808 ≤ a ∧ a < 9223372036854775808) (h0 : 0 < m) (hm : m < 100) (w : World) :
    Calls Tryz.prog 20 #[.int .i64 a, .int .i64 m] w fun e w' => e = .returned (.int .i64 (pk a m)) ∧ Below w.heap.size w w' := by
  obtain ⟨a1, a2⟩ := ha
  have hne : m ≠ 0 := by omega
  have e1 : IntKind.u64.wrap m = m := by rw [IntKind.wrap_u64]; omega
  go_enter Tryz.func20, Tryz.ntmps20
  go_wp2
  go_ret
  have h1 : 0 ≤ IntKind.u64.wrap a := by rw [IntKind.wrap_u64]; omega
  have h2 : (IntKind.u64.wrap a).tmod m = IntKind.u64.wrap a % m := Int.tmod_eq_emod_of_nonneg h1
  have h3 := Int.emod_nonneg (IntKind.u64.wrap a) hne
  have h4 := Int.emod_lt_of_pos (IntKind.u64.wrap a) h0
  have h5 : wrap64 ((IntKind.u64.wrap a).tmod m) = pk a m := by rw [h2]; unfold wrap64 pk; omega
  exact ⟨by rw [← h5]; rfl, Below.refl _ _⟩
theorem cells_newN (w : World) (n : Nat) (hn : w.heap.size = n) (l : List Value) (t : TypeId) : ∀ j u, l[j]? = some u → (w.alloc (.cells l.toArray t)).cell? ((⟨n, 0, none⟩ : Addr).add j) = some u := by
  subst hn
  exact cells_new w l t
theorem cellOnF {A B : World} {b : Nat} (h : B.heap[b]? = A.heap[b]?) (o : Nat) : B.cell? ⟨b, o, none⟩ = A.cell? ⟨b, o, none⟩ := by
  simp [World.cell?, h]
theorem alloc_size {w w2 : World} {o : Obj} (h : Below (w.alloc o).heap.size (w.alloc o) w2) : w.heap.size + 1 ≤ w2.heap.size := by
  have := h.size
  rw [World.size_alloc] at this
  exact this

theorem grown_cell {w w' : World} {β o : Nat} {v x : Value} (hg : w.grownBy w' v.ownBlock) (hlt : β < w.heap.size) (hne : ∀ k, v.ownBlock = some k → k < β) (h : w.cell? ⟨β, o, none⟩ = some x) : w'.cell? ⟨β, o, none⟩ = some x :=
  (cellOnF (hg.block β hlt fun e => absurd (hne _ e.symm) (Nat.lt_irrefl _)) o).trans h

/-- A part that is not great. -/
def smallQ (N : Int) (q : Pt) : Prop := 0 ≤ q.keep ∧ q.keep ≤ N ∧ 0 ≤ q.drop ∧ q.drop ≤ N ∧ q.put.length ≤ 150
theorem small_snoc {N : Int} {qs : List Pt} {q : Pt} (h : ∀ p ∈ qs, smallQ N p) (hq : smallQ N q) : ∀ p ∈ qs ++ [q], smallQ N p := by
  intro p hp
  rcases List.mem_append.1 hp with hp | hp
  · exact h p hp
  · rw [List.mem_singleton.1 hp]; exact hq
def fitI (w : World) (N : Int) (n k : Nat) (v : Value) (M : Int) (wr : World) : Prop :=
  ∃ qs : List Pt, wr.ownsRow w.heap.size 50 3 v qs.length (cellsP qs) ∧ qs.length ≤ 2 * k ∧ (∀ q ∈ qs, smallQ N q) ∧ 0 ≤ M ∧ M ≤ N ∧ k ≤ n ∧ k ≤ 30 ∧ Below w.heap.size w wr

set_option maxRecDepth 100000 in
set_option maxHeartbeats 8000000 in
theorem fit_any (v : Value) (ps : List Pt) (N : Int) (w : World) (hT : Lib.Utf8Tabs 2 3 w) (hr : opAt w v ps) (hwf : ∀ p ∈ ps, p.put.length ≤ 150 → wfP p) (hN0 : 0 ≤ N) (hN1 : N ≤ 100000) :
    Calls Tryz.prog 22 #[v, .int .i64 N] w fun e w' => ∃ v' qs, e = .returned v' ∧ w'.ownsRow w.heap.size 50 3 v' qs.length (cellsP qs) ∧ qs.length ≤ 61 ∧ (∀ q ∈ qs, smallQ N q) ∧ Below w.heap.size w w' := by
  obtain ⟨p, c, rfl, r1, r2, r3⟩ := hr
  obtain ⟨n, hn⟩ : ∃ n, n = ps.length := ⟨_, rfl⟩
  rw [← hn] at r1 ⊢
  have HN : Hid (n = ps.length) := hn
  clear hn
  have R3 : Hid (ps ≠ [] → ∃ b o, p = some ⟨b, o, none⟩ ∧ b < w.heap.size ∧ ∀ i q, ps[i]? = some q →
    w.cell? ⟨b, o + i * 3, none⟩ = some (.int .i64 q.keep) ∧ w.cell? ⟨b, o + i * 3 + 1, none⟩ = some (.int .i64 q.drop) ∧ w.cell? ⟨b, o + i * 3 + 2, none⟩ = some (.string ⟨q.put.toArray⟩)) := r3
  have HWF : Hid (∀ p ∈ ps, p.put.length ≤ 150 → wfP p) := hwf
  have HT : Hid (Lib.Utf8Tabs 2 3 w) := hT
  obtain ⟨i0, hi, hz0, hz1, hz2⟩ := info_parts info_part
  clear r3 hwf hT
  unfold maxLen at r2
  go_enter Tryz.func22, Tryz.ntmps22
  go_wp2
  go_loopw [5, 1, 6] (fun v5 m i wr => ∃ (k : Nat) (M : Int), i = .int .i64 k ∧ m = .int .i64 M ∧ fitI w N n k v5 M wr) (fun _ _ i _ => 30 - (intOf i).toNat)
  case atStart => exact ⟨0, N, rfl, rfl, [], World.ownsRow_nil _ _ _ _, Nat.zero_le _, by simp, hN0, Int.le_refl _, Nat.zero_le _, Nat.zero_le _, Below.refl _ _⟩
  case round =>
    obtain ⟨k, M, rfl, rfl, qs, hown, hql, hqs, hM0, hM1, hkn, hk30, hwr⟩ := hrel
    obtain ⟨pv, cv, rfl⟩ := own_slice hown
    have HQS : Hid (∀ q ∈ qs, smallQ N q) := hqs
    have HOW : Hid (wr.ownsRow w.heap.size 50 3 (.slice pv qs.length cv) qs.length (cellsP qs)) := hown
    have HWR : Hid (Below w.heap.size w wr) := hwr
    have hws := hwr.size
    have HLT : Hid (∀ k, (Value.slice pv qs.length cv).ownBlock = some k → k < wr.heap.size) := fun k hk => (hown.lt k hk).2
    clear hown hqs hwr
    by_cases hlt : k < n ∧ k < 30
    · obtain ⟨hlt1, hlt2⟩ := hlt
      have hkr : k < ps.length := by rw [← HN.out]; exact hlt1
      have hne : ps ≠ [] := by intro e; rw [e] at hkr; exact absurd hkr (Nat.not_lt_zero _)
      obtain ⟨b, o, rfl, hbw, hcell⟩ := R3.out hne
      obtain ⟨c0, c1, c2⟩ := hcell k ps[k] (List.getElem?_eq_getElem hkr)
      have g0 := (HWR.out.cell (p := ⟨b, o + k * 3, none⟩) hbw).trans c0
      have g1 := (HWR.out.cell (p := ⟨b, o + k * 3 + 1, none⟩) hbw).trans c1
      have g2 := (HWR.out.cell (p := ⟨b, o + k * 3 + 2, none⟩) hbw).trans c2
      have hwq := HWF.out ps[k] (List.getElem_mem _)
      generalize ps[k] = q at *
      obtain ⟨K, D, U⟩ := q
      simp only at g0 g1 g2 hwq
      have hj1 : (k : Int) < (n : Int) := by omega
      have hj2 : (k : Int) < 30 := by omega
      have hUz : (ByteArray.mk U.toArray).size = U.length := by simp [ByteArray.size]
      have HB0 : Hid (Below w.heap.size w (wr.alloc (.cells #[.int .i64 K, .int .i64 D, .string ⟨U.toArray⟩] 50))) := HWR.out.alloc hws _
      have ho0 : Hid ((wr.alloc (.cells #[.int .i64 K, .int .i64 D, .string ⟨U.toArray⟩] 50)).ownsRow w.heap.size 50 3 (.slice pv qs.length cv) qs.length (cellsP qs)) := HOW.out.alloc _
      have X0 : Hid ((wr.alloc (.cells #[.int .i64 K, .int .i64 D, .string ⟨U.toArray⟩] 50)).heap[wr.heap.size]? = some (.cells #[.int .i64 K, .int .i64 D, .string ⟨U.toArray⟩] 50 (0, 0))) := heap_alloc_new _ _
      clear hcell c0 c1 c2 hne hkr
      by_cases hbig : 150 < U.length
      · have hbig' : (150 : Int) < (U.length : Int) := by omega
        clear hwq
        go_wp2
        go_roundw
        case rel => exact ⟨k + 1, M, by go_num, rfl, qs, ho0.out, by omega, HQS.out, hM0, hM1, by omega, by omega, HB0.out⟩
        case measure => simp [intOf]; omega
      · have hbig' : ¬ (150 : Int) < (U.length : Int) := by omega
        obtain ⟨wk1, wk2, wd1, wd2, _⟩ := hwq (by omega)
        have cC := Count_any ⟨U.toArray⟩ (by rw [hUz]; omega) (wr.alloc (.cells #[.int .i64 K, .int .i64 D, .string ⟨U.toArray⟩] 50)) (Go.Proofs.Utf8Tabs_below HT.out HB0.out)
        have hl0 : wr.heap.size < (wr.alloc (.cells #[.int .i64 K, .int .i64 D, .string ⟨U.toArray⟩] 50)).heap.size := by simp
        obtain ⟨K1, hK1⟩ : ∃ K1, pk K 12 = K1 := ⟨_, rfl⟩
        obtain ⟨K2, hK2⟩ : ∃ K2, pk D 7 = K2 := ⟨_, rfl⟩
        have hk1 := pk_bd K 12 (by omega)
        have hk2 := pk_bd D 7 (by omega)
        have CP1 : Hid (∀ wx, Calls Tryz.prog 20 #[.int .i64 K, .int .i64 12] wx fun e w' => e = .returned (.int .i64 K1) ∧ Below wx.heap.size wx w') := fun wx => by rw [← hK1]; exact pick_any K 12 ⟨wk1, wk2⟩ (by omega) (by omega) wx
        have CP2 : Hid (∀ wx, Calls Tryz.prog 20 #[.int .i64 D, .int .i64 7] wx fun e w' => e = .returned (.int .i64 K2) ∧ Below wx.heap.size wx w') := fun wx => by rw [← hK2]; exact pick_any D 7 ⟨wd1, wd2⟩ (by omega) (by omega) wx
        rw [hK1] at hk1
        rw [hK2] at hk2
        obtain ⟨hk10, hk11⟩ := hk1
        obtain ⟨hk20, hk21⟩ := hk2
        have y2 : (wr.alloc (.cells #[.int .i64 K, .int .i64 D, .string ⟨U.toArray⟩] 50)).cell? ⟨wr.heap.size, 2, none⟩ = some (.string ⟨U.toArray⟩) := Lib.cell_of_heap X0.out 2
        have y1 : (wr.alloc (.cells #[.int .i64 K, .int .i64 D, .string ⟨U.toArray⟩] 50)).cell? ⟨wr.heap.size, 1, none⟩ = some (.int .i64 D) := Lib.cell_of_heap X0.out 1
        have y0 : (wr.alloc (.cells #[.int .i64 K, .int .i64 D, .string ⟨U.toArray⟩] 50)).cell? ⟨wr.heap.size, 0, none⟩ = some (.int .i64 K) := Lib.cell_of_heap X0.out 0
        clear wk1 wk2 wd1 wd2 HWR hK1 hK2 hwq
        have hpk : (¬ 0 < K1) ∨ (0 < K1 ∧ ¬ K1 ≤ M) ∨ (0 < K1 ∧ K1 ≤ M) := by omega
        by_cases hU : U = []
        · have hUe : U.isEmpty = true := by rw [hU]; rfl
          have hsc : (scan U).2 = true := by rw [hU]; rfl
          have HC : Hid (Calls Tryz.prog 78 #[.string ⟨U.toArray⟩] (wr.alloc (.cells #[.int .i64 K, .int .i64 D, .string ⟨U.toArray⟩] 50)) fun e w' => ∃ n1 n2 n3 n4, e = .returned (.tuple #[.agg #[.int .i64 n1, .int .i64 n2, .int .i64 n3, .int .i64 n4], .nilIface]) ∧ Below (wr.alloc (.cells #[.int .i64 K, .int .i64 D, .string ⟨U.toArray⟩] 50)).heap.size (wr.alloc (.cells #[.int .i64 K, .int .i64 D, .string ⟨U.toArray⟩] 50)) w') := Calls.mono cC fun e w' h => by
            obtain ⟨v, x, rfl, hb, ⟨_, rfl, rfl⟩ | ⟨h0, _⟩⟩ := h
            · exact ⟨_, _, _, _, rfl, hb⟩
            · rw [show (ByteArray.mk U.toArray).data.toList = U from rfl, hsc] at h0; cases h0
          clear cC hsc hU
          rcases hpk with hp | ⟨hp, hp'⟩ | ⟨hp, hp'⟩
          ·
            have hpk2 : (¬ 0 < K2) ∨ (0 < K2 ∧ ¬ K2 ≤ M) ∨ (0 < K2 ∧ K2 ≤ M) := by omega
            rcases hpk2 with hr | ⟨hr, hr'⟩ | ⟨hr, hr'⟩
            ·
              go_wp2_with (first
                | (go_at_call 78; refine Calls.mono HC.out ?_; rintro e w2 ⟨n1, n2, n3, n4, rfl, hb2⟩; have HB2 : Hid (Below w.heap.size w w2) := HB0.out.trans (hb2.mono HB0.out.size); have HO2 : Hid (w2.ownsRow w.heap.size 50 3 (.slice pv qs.length cv) qs.length (cellsP qs)) := own_below ho0.out hb2; have z2 := (hb2.cell (p := ⟨wr.heap.size, 2, none⟩) hl0).trans y2; have z1 := (hb2.cell (p := ⟨wr.heap.size, 1, none⟩) hl0).trans y1; have z0 := (hb2.cell (p := ⟨wr.heap.size, 0, none⟩) hl0).trans y0; have hba : Below w2.heap.size w2 (w2.alloc (.cells #[.int .i64 n1, .int .i64 n2, .int .i64 n3, .int .i64 n4] 25)) := (Below.refl _ w2).alloc (Nat.le_refl _) _; have t2 := cell_on hba z2; have t1 := cell_on hba z1; have t0 := cell_on hba z0; have hl2 := alloc_size hb2; have hs2 := HB2.out.size; have HO3 : Hid ((w2.alloc (.cells #[.int .i64 n1, .int .i64 n2, .int .i64 n3, .int .i64 n4] 25)).ownsRow w.heap.size 50 3 (.slice pv qs.length cv) qs.length (cellsP qs)) := HO2.out.alloc _; have HB3 : Hid (Below w.heap.size w (w2.alloc (.cells #[.int .i64 n1, .int .i64 n2, .int .i64 n3, .int .i64 n4] 25))) := HB2.out.alloc HB2.out.size _; clear hb2 hba)
                | (have _ := HO4; go_at_call 20; refine (CP2.out _).mono ?_; rintro e w6 ⟨rfl, hb6⟩; have HB6 : Hid (Below w.heap.size w w6) := HB4.out.trans (hb6.mono HB4.out.size); have HO6 : Hid (w6.ownsRow w.heap.size 50 3 (.slice pv qs.length cv) qs.length (cellsP qs)) := own_below HO4.out hb6; have p2 := cell_on hb6 q2; have hs6 := HB6.out.size; clear hb6)
                | (go_at_call 20; refine (CP1.out _).mono ?_; rintro e w4 ⟨rfl, hb4⟩; have HB4 : Hid (Below w.heap.size w w4) := HB3.out.trans (hb4.mono HB3.out.size); have HO4 : Hid (w4.ownsRow w.heap.size 50 3 (.slice pv qs.length cv) qs.length (cellsP qs)) := own_below HO3.out hb4; have q2 := cell_on hb4 t2; have q1 := cell_on hb4 t1; have hs4 := HB4.out.size; have hs24 := hb4.size; rw [World.size_alloc] at hs24; clear hb4)
                | fail)
              go_roundw
              case rel =>
                refine ⟨k + 1, M, by go_num, by first | rfl | go_num, qs, ?_, by first | omega | (simp; omega), HQS.out, by omega, by omega, by omega, by omega, HB6.out⟩
                exact HO6.out
              case measure => simp [intOf]; omega
            ·
              go_wp2_with (first
                | (go_at_call 78; refine Calls.mono HC.out ?_; rintro e w2 ⟨n1, n2, n3, n4, rfl, hb2⟩; have HB2 : Hid (Below w.heap.size w w2) := HB0.out.trans (hb2.mono HB0.out.size); have HO2 : Hid (w2.ownsRow w.heap.size 50 3 (.slice pv qs.length cv) qs.length (cellsP qs)) := own_below ho0.out hb2; have z2 := (hb2.cell (p := ⟨wr.heap.size, 2, none⟩) hl0).trans y2; have z1 := (hb2.cell (p := ⟨wr.heap.size, 1, none⟩) hl0).trans y1; have z0 := (hb2.cell (p := ⟨wr.heap.size, 0, none⟩) hl0).trans y0; have hba : Below w2.heap.size w2 (w2.alloc (.cells #[.int .i64 n1, .int .i64 n2, .int .i64 n3, .int .i64 n4] 25)) := (Below.refl _ w2).alloc (Nat.le_refl _) _; have t2 := cell_on hba z2; have t1 := cell_on hba z1; have t0 := cell_on hba z0; have hl2 := alloc_size hb2; have hs2 := HB2.out.size; have HO3 : Hid ((w2.alloc (.cells #[.int .i64 n1, .int .i64 n2, .int .i64 n3, .int .i64 n4] 25)).ownsRow w.heap.size 50 3 (.slice pv qs.length cv) qs.length (cellsP qs)) := HO2.out.alloc _; have HB3 : Hid (Below w.heap.size w (w2.alloc (.cells #[.int .i64 n1, .int .i64 n2, .int .i64 n3, .int .i64 n4] 25))) := HB2.out.alloc HB2.out.size _; clear hb2 hba)
                | (have _ := HO4; go_at_call 20; refine (CP2.out _).mono ?_; rintro e w6 ⟨rfl, hb6⟩; have HB6 : Hid (Below w.heap.size w w6) := HB4.out.trans (hb6.mono HB4.out.size); have HO6 : Hid (w6.ownsRow w.heap.size 50 3 (.slice pv qs.length cv) qs.length (cellsP qs)) := own_below HO4.out hb6; have p2 := cell_on hb6 q2; have hs6 := HB6.out.size; clear hb6)
                | (go_at_call 20; refine (CP1.out _).mono ?_; rintro e w4 ⟨rfl, hb4⟩; have HB4 : Hid (Below w.heap.size w w4) := HB3.out.trans (hb4.mono HB3.out.size); have HO4 : Hid (w4.ownsRow w.heap.size 50 3 (.slice pv qs.length cv) qs.length (cellsP qs)) := own_below HO3.out hb4; have q2 := cell_on hb4 t2; have q1 := cell_on hb4 t1; have hs4 := HB4.out.size; have hs24 := hb4.size; rw [World.size_alloc] at hs24; clear hb4)
                | fail)
              go_roundw
              case rel =>
                refine ⟨k + 1, M, by go_num, by first | rfl | go_num, qs, ?_, by first | omega | (simp; omega), HQS.out, by omega, by omega, by omega, by omega, HB6.out⟩
                exact HO6.out
              case measure => simp [intOf]; omega
            ·
              have hw2 : IntKind.i64.wrap (M - K2) = M - K2 := by rw [IntKind.wrap_i64]; omega
              go_wp2_with (first
                | (go_at_call 78; refine Calls.mono HC.out ?_; rintro e w2 ⟨n1, n2, n3, n4, rfl, hb2⟩; have HB2 : Hid (Below w.heap.size w w2) := HB0.out.trans (hb2.mono HB0.out.size); have HO2 : Hid (w2.ownsRow w.heap.size 50 3 (.slice pv qs.length cv) qs.length (cellsP qs)) := own_below ho0.out hb2; have z2 := (hb2.cell (p := ⟨wr.heap.size, 2, none⟩) hl0).trans y2; have z1 := (hb2.cell (p := ⟨wr.heap.size, 1, none⟩) hl0).trans y1; have z0 := (hb2.cell (p := ⟨wr.heap.size, 0, none⟩) hl0).trans y0; have hba : Below w2.heap.size w2 (w2.alloc (.cells #[.int .i64 n1, .int .i64 n2, .int .i64 n3, .int .i64 n4] 25)) := (Below.refl _ w2).alloc (Nat.le_refl _) _; have t2 := cell_on hba z2; have t1 := cell_on hba z1; have t0 := cell_on hba z0; have hl2 := alloc_size hb2; have hs2 := HB2.out.size; have HO3 : Hid ((w2.alloc (.cells #[.int .i64 n1, .int .i64 n2, .int .i64 n3, .int .i64 n4] 25)).ownsRow w.heap.size 50 3 (.slice pv qs.length cv) qs.length (cellsP qs)) := HO2.out.alloc _; have HB3 : Hid (Below w.heap.size w (w2.alloc (.cells #[.int .i64 n1, .int .i64 n2, .int .i64 n3, .int .i64 n4] 25))) := HB2.out.alloc HB2.out.size _; clear hb2 hba)
                | (have _ := HO4; go_at_call 20; refine (CP2.out _).mono ?_; rintro e w6 ⟨rfl, hb6⟩; have HB6 : Hid (Below w.heap.size w w6) := HB4.out.trans (hb6.mono HB4.out.size); have HO6 : Hid (w6.ownsRow w.heap.size 50 3 (.slice pv qs.length cv) qs.length (cellsP qs)) := own_below HO4.out hb6; have p2 := cell_on hb6 q2; have hs6 := HB6.out.size; clear hb6)
                | (go_at_call 20; refine (CP1.out _).mono ?_; rintro e w4 ⟨rfl, hb4⟩; have HB4 : Hid (Below w.heap.size w w4) := HB3.out.trans (hb4.mono HB3.out.size); have HO4 : Hid (w4.ownsRow w.heap.size 50 3 (.slice pv qs.length cv) qs.length (cellsP qs)) := own_below HO3.out hb4; have q2 := cell_on hb4 t2; have q1 := cell_on hb4 t1; have hs4 := HB4.out.size; have hs24 := hb4.size; rw [World.size_alloc] at hs24; clear hb4)
                | (have _ := HO6; at_builtin; refine wpList_append_own _ rfl _ _ 23 rfl w.heap.size 50 i0 (.agg #[.int .i64 0, .int .i64 0, .string ⟨#[]⟩]) 3 32 Tryz.underlying23 hi hz0 hz1 hz2 rfl (by decide) _ _ _ rfl (HO6.out.alloc _) ⟨w6.heap.size, 0, none⟩ 1 1 (partCells ⟨0, K2, []⟩) rfl rfl (cells_newN _ _ (by first | rfl | simp) _ _) (partCells_one _) (by unfold maxLen; omega) (by omega) (by first | omega | (simp; omega)) ?_)
                | fail)
              intro v'' w'' hown'' hg'' _
              obtain ⟨p'', c'', rfl⟩ := own_slice hown''
              have HB7 : Hid (Below w.heap.size w w'') := (HB6.out.alloc HB6.out.size _).grown hg'' (by simp; omega) fun k hk => (HO6.out.lt k hk).1
              have HO7 : Hid (w''.ownsRow w.heap.size 50 3 (.slice p'' (qs.length + 1) c'') (qs.length + 1) (cellsP qs ++ partCells ⟨0, K2, []⟩)) := hown''
              clear hown'' hg''
              go_wp2
              go_roundw
              case rel =>
                refine ⟨k + 1, M - K2, by go_num, by first | rfl | go_num, (qs) ++ [⟨0, K2, []⟩], ?_, by first | omega | (simp; omega), small_snoc (HQS.out) ⟨Int.le_refl _, hN0, by show 0 ≤ K2; omega, by show K2 ≤ N; omega, by simp⟩, by omega, by omega, by omega, by omega, HB7.out⟩
                rw [cellsP_snoc, List.length_append]; exact HO7.out
              case measure => simp [intOf]; omega
          ·
            have hpk2 : (¬ 0 < K2) ∨ (0 < K2 ∧ ¬ K2 ≤ M) ∨ (0 < K2 ∧ K2 ≤ M) := by omega
            rcases hpk2 with hr | ⟨hr, hr'⟩ | ⟨hr, hr'⟩
            ·
              go_wp2_with (first
                | (go_at_call 78; refine Calls.mono HC.out ?_; rintro e w2 ⟨n1, n2, n3, n4, rfl, hb2⟩; have HB2 : Hid (Below w.heap.size w w2) := HB0.out.trans (hb2.mono HB0.out.size); have HO2 : Hid (w2.ownsRow w.heap.size 50 3 (.slice pv qs.length cv) qs.length (cellsP qs)) := own_below ho0.out hb2; have z2 := (hb2.cell (p := ⟨wr.heap.size, 2, none⟩) hl0).trans y2; have z1 := (hb2.cell (p := ⟨wr.heap.size, 1, none⟩) hl0).trans y1; have z0 := (hb2.cell (p := ⟨wr.heap.size, 0, none⟩) hl0).trans y0; have hba : Below w2.heap.size w2 (w2.alloc (.cells #[.int .i64 n1, .int .i64 n2, .int .i64 n3, .int .i64 n4] 25)) := (Below.refl _ w2).alloc (Nat.le_refl _) _; have t2 := cell_on hba z2; have t1 := cell_on hba z1; have t0 := cell_on hba z0; have hl2 := alloc_size hb2; have hs2 := HB2.out.size; have HO3 : Hid ((w2.alloc (.cells #[.int .i64 n1, .int .i64 n2, .int .i64 n3, .int .i64 n4] 25)).ownsRow w.heap.size 50 3 (.slice pv qs.length cv) qs.length (cellsP qs)) := HO2.out.alloc _; have HB3 : Hid (Below w.heap.size w (w2.alloc (.cells #[.int .i64 n1, .int .i64 n2, .int .i64 n3, .int .i64 n4] 25))) := HB2.out.alloc HB2.out.size _; clear hb2 hba)
                | (have _ := HO4; go_at_call 20; refine (CP2.out _).mono ?_; rintro e w6 ⟨rfl, hb6⟩; have HB6 : Hid (Below w.heap.size w w6) := HB4.out.trans (hb6.mono HB4.out.size); have HO6 : Hid (w6.ownsRow w.heap.size 50 3 (.slice pv qs.length cv) qs.length (cellsP qs)) := own_below HO4.out hb6; have p2 := cell_on hb6 q2; have hs6 := HB6.out.size; clear hb6)
                | (go_at_call 20; refine (CP1.out _).mono ?_; rintro e w4 ⟨rfl, hb4⟩; have HB4 : Hid (Below w.heap.size w w4) := HB3.out.trans (hb4.mono HB3.out.size); have HO4 : Hid (w4.ownsRow w.heap.size 50 3 (.slice pv qs.length cv) qs.length (cellsP qs)) := own_below HO3.out hb4; have q2 := cell_on hb4 t2; have q1 := cell_on hb4 t1; have hs4 := HB4.out.size; have hs24 := hb4.size; rw [World.size_alloc] at hs24; clear hb4)
                | fail)
              go_roundw
              case rel =>
                refine ⟨k + 1, M, by go_num, by first | rfl | go_num, qs, ?_, by first | omega | (simp; omega), HQS.out, by omega, by omega, by omega, by omega, HB6.out⟩
                exact HO6.out
              case measure => simp [intOf]; omega
            ·
              go_wp2_with (first
                | (go_at_call 78; refine Calls.mono HC.out ?_; rintro e w2 ⟨n1, n2, n3, n4, rfl, hb2⟩; have HB2 : Hid (Below w.heap.size w w2) := HB0.out.trans (hb2.mono HB0.out.size); have HO2 : Hid (w2.ownsRow w.heap.size 50 3 (.slice pv qs.length cv) qs.length (cellsP qs)) := own_below ho0.out hb2; have z2 := (hb2.cell (p := ⟨wr.heap.size, 2, none⟩) hl0).trans y2; have z1 := (hb2.cell (p := ⟨wr.heap.size, 1, none⟩) hl0).trans y1; have z0 := (hb2.cell (p := ⟨wr.heap.size, 0, none⟩) hl0).trans y0; have hba : Below w2.heap.size w2 (w2.alloc (.cells #[.int .i64 n1, .int .i64 n2, .int .i64 n3, .int .i64 n4] 25)) := (Below.refl _ w2).alloc (Nat.le_refl _) _; have t2 := cell_on hba z2; have t1 := cell_on hba z1; have t0 := cell_on hba z0; have hl2 := alloc_size hb2; have hs2 := HB2.out.size; have HO3 : Hid ((w2.alloc (.cells #[.int .i64 n1, .int .i64 n2, .int .i64 n3, .int .i64 n4] 25)).ownsRow w.heap.size 50 3 (.slice pv qs.length cv) qs.length (cellsP qs)) := HO2.out.alloc _; have HB3 : Hid (Below w.heap.size w (w2.alloc (.cells #[.int .i64 n1, .int .i64 n2, .int .i64 n3, .int .i64 n4] 25))) := HB2.out.alloc HB2.out.size _; clear hb2 hba)
                | (have _ := HO4; go_at_call 20; refine (CP2.out _).mono ?_; rintro e w6 ⟨rfl, hb6⟩; have HB6 : Hid (Below w.heap.size w w6) := HB4.out.trans (hb6.mono HB4.out.size); have HO6 : Hid (w6.ownsRow w.heap.size 50 3 (.slice pv qs.length cv) qs.length (cellsP qs)) := own_below HO4.out hb6; have p2 := cell_on hb6 q2; have hs6 := HB6.out.size; clear hb6)
                | (go_at_call 20; refine (CP1.out _).mono ?_; rintro e w4 ⟨rfl, hb4⟩; have HB4 : Hid (Below w.heap.size w w4) := HB3.out.trans (hb4.mono HB3.out.size); have HO4 : Hid (w4.ownsRow w.heap.size 50 3 (.slice pv qs.length cv) qs.length (cellsP qs)) := own_below HO3.out hb4; have q2 := cell_on hb4 t2; have q1 := cell_on hb4 t1; have hs4 := HB4.out.size; have hs24 := hb4.size; rw [World.size_alloc] at hs24; clear hb4)
                | fail)
              go_roundw
              case rel =>
                refine ⟨k + 1, M, by go_num, by first | rfl | go_num, qs, ?_, by first | omega | (simp; omega), HQS.out, by omega, by omega, by omega, by omega, HB6.out⟩
                exact HO6.out
              case measure => simp [intOf]; omega
            ·
              have hw2 : IntKind.i64.wrap (M - K2) = M - K2 := by rw [IntKind.wrap_i64]; omega
              go_wp2_with (first
                | (go_at_call 78; refine Calls.mono HC.out ?_; rintro e w2 ⟨n1, n2, n3, n4, rfl, hb2⟩; have HB2 : Hid (Below w.heap.size w w2) := HB0.out.trans (hb2.mono HB0.out.size); have HO2 : Hid (w2.ownsRow w.heap.size 50 3 (.slice pv qs.length cv) qs.length (cellsP qs)) := own_below ho0.out hb2; have z2 := (hb2.cell (p := ⟨wr.heap.size, 2, none⟩) hl0).trans y2; have z1 := (hb2.cell (p := ⟨wr.heap.size, 1, none⟩) hl0).trans y1; have z0 := (hb2.cell (p := ⟨wr.heap.size, 0, none⟩) hl0).trans y0; have hba : Below w2.heap.size w2 (w2.alloc (.cells #[.int .i64 n1, .int .i64 n2, .int .i64 n3, .int .i64 n4] 25)) := (Below.refl _ w2).alloc (Nat.le_refl _) _; have t2 := cell_on hba z2; have t1 := cell_on hba z1; have t0 := cell_on hba z0; have hl2 := alloc_size hb2; have hs2 := HB2.out.size; have HO3 : Hid ((w2.alloc (.cells #[.int .i64 n1, .int .i64 n2, .int .i64 n3, .int .i64 n4] 25)).ownsRow w.heap.size 50 3 (.slice pv qs.length cv) qs.length (cellsP qs)) := HO2.out.alloc _; have HB3 : Hid (Below w.heap.size w (w2.alloc (.cells #[.int .i64 n1, .int .i64 n2, .int .i64 n3, .int .i64 n4] 25))) := HB2.out.alloc HB2.out.size _; clear hb2 hba)
                | (have _ := HO4; go_at_call 20; refine (CP2.out _).mono ?_; rintro e w6 ⟨rfl, hb6⟩; have HB6 : Hid (Below w.heap.size w w6) := HB4.out.trans (hb6.mono HB4.out.size); have HO6 : Hid (w6.ownsRow w.heap.size 50 3 (.slice pv qs.length cv) qs.length (cellsP qs)) := own_below HO4.out hb6; have p2 := cell_on hb6 q2; have hs6 := HB6.out.size; clear hb6)
                | (go_at_call 20; refine (CP1.out _).mono ?_; rintro e w4 ⟨rfl, hb4⟩; have HB4 : Hid (Below w.heap.size w w4) := HB3.out.trans (hb4.mono HB3.out.size); have HO4 : Hid (w4.ownsRow w.heap.size 50 3 (.slice pv qs.length cv) qs.length (cellsP qs)) := own_below HO3.out hb4; have q2 := cell_on hb4 t2; have q1 := cell_on hb4 t1; have hs4 := HB4.out.size; have hs24 := hb4.size; rw [World.size_alloc] at hs24; clear hb4)
                | (have _ := HO6; at_builtin; refine wpList_append_own _ rfl _ _ 23 rfl w.heap.size 50 i0 (.agg #[.int .i64 0, .int .i64 0, .string ⟨#[]⟩]) 3 32 Tryz.underlying23 hi hz0 hz1 hz2 rfl (by decide) _ _ _ rfl (HO6.out.alloc _) ⟨w6.heap.size, 0, none⟩ 1 1 (partCells ⟨0, K2, []⟩) rfl rfl (cells_newN _ _ (by first | rfl | simp) _ _) (partCells_one _) (by unfold maxLen; omega) (by omega) (by first | omega | (simp; omega)) ?_)
                | fail)
              intro v'' w'' hown'' hg'' _
              obtain ⟨p'', c'', rfl⟩ := own_slice hown''
              have HB7 : Hid (Below w.heap.size w w'') := (HB6.out.alloc HB6.out.size _).grown hg'' (by simp; omega) fun k hk => (HO6.out.lt k hk).1
              have HO7 : Hid (w''.ownsRow w.heap.size 50 3 (.slice p'' (qs.length + 1) c'') (qs.length + 1) (cellsP qs ++ partCells ⟨0, K2, []⟩)) := hown''
              clear hown'' hg''
              go_wp2
              go_roundw
              case rel =>
                refine ⟨k + 1, M - K2, by go_num, by first | rfl | go_num, (qs) ++ [⟨0, K2, []⟩], ?_, by first | omega | (simp; omega), small_snoc (HQS.out) ⟨Int.le_refl _, hN0, by show 0 ≤ K2; omega, by show K2 ≤ N; omega, by simp⟩, by omega, by omega, by omega, by omega, HB7.out⟩
                rw [cellsP_snoc, List.length_append]; exact HO7.out
              case measure => simp [intOf]; omega
          ·
            have hpk2 : (¬ 0 < K2) ∨ (0 < K2 ∧ ¬ K2 ≤ M - K1) ∨ (0 < K2 ∧ K2 ≤ M - K1) := by omega
            rcases hpk2 with hr | ⟨hr, hr'⟩ | ⟨hr, hr'⟩
            ·
              have hw1 : IntKind.i64.wrap (M - K1) = M - K1 := by rw [IntKind.wrap_i64]; omega
              go_wp2_with (first
                | (go_at_call 78; refine Calls.mono HC.out ?_; rintro e w2 ⟨n1, n2, n3, n4, rfl, hb2⟩; have HB2 : Hid (Below w.heap.size w w2) := HB0.out.trans (hb2.mono HB0.out.size); have HO2 : Hid (w2.ownsRow w.heap.size 50 3 (.slice pv qs.length cv) qs.length (cellsP qs)) := own_below ho0.out hb2; have z2 := (hb2.cell (p := ⟨wr.heap.size, 2, none⟩) hl0).trans y2; have z1 := (hb2.cell (p := ⟨wr.heap.size, 1, none⟩) hl0).trans y1; have z0 := (hb2.cell (p := ⟨wr.heap.size, 0, none⟩) hl0).trans y0; have hba : Below w2.heap.size w2 (w2.alloc (.cells #[.int .i64 n1, .int .i64 n2, .int .i64 n3, .int .i64 n4] 25)) := (Below.refl _ w2).alloc (Nat.le_refl _) _; have t2 := cell_on hba z2; have t1 := cell_on hba z1; have t0 := cell_on hba z0; have hl2 := alloc_size hb2; have hs2 := HB2.out.size; have HO3 : Hid ((w2.alloc (.cells #[.int .i64 n1, .int .i64 n2, .int .i64 n3, .int .i64 n4] 25)).ownsRow w.heap.size 50 3 (.slice pv qs.length cv) qs.length (cellsP qs)) := HO2.out.alloc _; have HB3 : Hid (Below w.heap.size w (w2.alloc (.cells #[.int .i64 n1, .int .i64 n2, .int .i64 n3, .int .i64 n4] 25))) := HB2.out.alloc HB2.out.size _; clear hb2 hba)
                | (go_at_call 20; refine (CP1.out _).mono ?_; rintro e w4 ⟨rfl, hb4⟩; have HB4 : Hid (Below w.heap.size w w4) := HB3.out.trans (hb4.mono HB3.out.size); have HO4 : Hid (w4.ownsRow w.heap.size 50 3 (.slice pv qs.length cv) qs.length (cellsP qs)) := own_below HO3.out hb4; have q2 := cell_on hb4 t2; have q1 := cell_on hb4 t1; have hs4 := HB4.out.size; have hs24 := hb4.size; rw [World.size_alloc] at hs24; clear hb4)
                | (at_builtin; refine wpList_append_own _ rfl _ _ 23 rfl w.heap.size 50 i0 (.agg #[.int .i64 0, .int .i64 0, .string ⟨#[]⟩]) 3 32 Tryz.underlying23 hi hz0 hz1 hz2 rfl (by decide) _ _ _ rfl (HO4.out.alloc _) ⟨w4.heap.size, 0, none⟩ 1 1 (partCells ⟨K1, 0, []⟩) rfl rfl (cells_newN _ _ (by first | rfl | simp) _ _) (partCells_one _) (by unfold maxLen; omega) (by omega) (by first | omega | (simp; omega)) ?_)
                | fail)
              intro v' w' hown' hg' _
              obtain ⟨p', c', rfl⟩ := own_slice hown'
              have HB5 : Hid (Below w.heap.size w w') := (HB4.out.alloc HB4.out.size _).grown hg' (by simp; omega) fun k hk => (HO4.out.lt k hk).1
              have HO5 : Hid (w'.ownsRow w.heap.size 50 3 (.slice p' (qs.length + 1) c') (qs.length + 1) (cellsP qs ++ partCells ⟨K1, 0, []⟩)) := hown'
              have r2' := grown_cell hg' (by rw [World.size_alloc]; omega) HLT.out (cell_on ((Below.refl _ w4).alloc (Nat.le_refl _) _) q2)
              have r1' := grown_cell hg' (by rw [World.size_alloc]; omega) HLT.out (cell_on ((Below.refl _ w4).alloc (Nat.le_refl _) _) q1)
              have hs5 := HB5.out.size
              clear hown' hg'
              go_wp2_with (first
                | (have _ := HO5; go_at_call 20; refine (CP2.out _).mono ?_; rintro e w6 ⟨rfl, hb6⟩; have HB6 : Hid (Below w.heap.size w w6) := HB5.out.trans (hb6.mono HB5.out.size); have HO6 : Hid (w6.ownsRow w.heap.size 50 3 (.slice p' (qs.length + 1) c') (qs.length + 1) (cellsP qs ++ partCells ⟨K1, 0, []⟩)) := own_below HO5.out hb6; have p2 := cell_on hb6 r2'; have hs6 := HB6.out.size; clear hb6)
                | fail)
              go_roundw
              case rel =>
                refine ⟨k + 1, M - K1, by go_num, by first | rfl | go_num, qs ++ [⟨K1, 0, []⟩], ?_, by first | omega | (simp; omega), small_snoc HQS.out ⟨by show 0 ≤ K1; omega, by show K1 ≤ N; omega, Int.le_refl _, hN0, by simp⟩, by omega, by omega, by omega, by omega, HB6.out⟩
                rw [cellsP_snoc, List.length_append]; exact HO6.out
              case measure => simp [intOf]; omega
            ·
              have hw1 : IntKind.i64.wrap (M - K1) = M - K1 := by rw [IntKind.wrap_i64]; omega
              go_wp2_with (first
                | (go_at_call 78; refine Calls.mono HC.out ?_; rintro e w2 ⟨n1, n2, n3, n4, rfl, hb2⟩; have HB2 : Hid (Below w.heap.size w w2) := HB0.out.trans (hb2.mono HB0.out.size); have HO2 : Hid (w2.ownsRow w.heap.size 50 3 (.slice pv qs.length cv) qs.length (cellsP qs)) := own_below ho0.out hb2; have z2 := (hb2.cell (p := ⟨wr.heap.size, 2, none⟩) hl0).trans y2; have z1 := (hb2.cell (p := ⟨wr.heap.size, 1, none⟩) hl0).trans y1; have z0 := (hb2.cell (p := ⟨wr.heap.size, 0, none⟩) hl0).trans y0; have hba : Below w2.heap.size w2 (w2.alloc (.cells #[.int .i64 n1, .int .i64 n2, .int .i64 n3, .int .i64 n4] 25)) := (Below.refl _ w2).alloc (Nat.le_refl _) _; have t2 := cell_on hba z2; have t1 := cell_on hba z1; have t0 := cell_on hba z0; have hl2 := alloc_size hb2; have hs2 := HB2.out.size; have HO3 : Hid ((w2.alloc (.cells #[.int .i64 n1, .int .i64 n2, .int .i64 n3, .int .i64 n4] 25)).ownsRow w.heap.size 50 3 (.slice pv qs.length cv) qs.length (cellsP qs)) := HO2.out.alloc _; have HB3 : Hid (Below w.heap.size w (w2.alloc (.cells #[.int .i64 n1, .int .i64 n2, .int .i64 n3, .int .i64 n4] 25))) := HB2.out.alloc HB2.out.size _; clear hb2 hba)
                | (go_at_call 20; refine (CP1.out _).mono ?_; rintro e w4 ⟨rfl, hb4⟩; have HB4 : Hid (Below w.heap.size w w4) := HB3.out.trans (hb4.mono HB3.out.size); have HO4 : Hid (w4.ownsRow w.heap.size 50 3 (.slice pv qs.length cv) qs.length (cellsP qs)) := own_below HO3.out hb4; have q2 := cell_on hb4 t2; have q1 := cell_on hb4 t1; have hs4 := HB4.out.size; have hs24 := hb4.size; rw [World.size_alloc] at hs24; clear hb4)
                | (at_builtin; refine wpList_append_own _ rfl _ _ 23 rfl w.heap.size 50 i0 (.agg #[.int .i64 0, .int .i64 0, .string ⟨#[]⟩]) 3 32 Tryz.underlying23 hi hz0 hz1 hz2 rfl (by decide) _ _ _ rfl (HO4.out.alloc _) ⟨w4.heap.size, 0, none⟩ 1 1 (partCells ⟨K1, 0, []⟩) rfl rfl (cells_newN _ _ (by first | rfl | simp) _ _) (partCells_one _) (by unfold maxLen; omega) (by omega) (by first | omega | (simp; omega)) ?_)
                | fail)
              intro v' w' hown' hg' _
              obtain ⟨p', c', rfl⟩ := own_slice hown'
              have HB5 : Hid (Below w.heap.size w w') := (HB4.out.alloc HB4.out.size _).grown hg' (by simp; omega) fun k hk => (HO4.out.lt k hk).1
              have HO5 : Hid (w'.ownsRow w.heap.size 50 3 (.slice p' (qs.length + 1) c') (qs.length + 1) (cellsP qs ++ partCells ⟨K1, 0, []⟩)) := hown'
              have r2' := grown_cell hg' (by rw [World.size_alloc]; omega) HLT.out (cell_on ((Below.refl _ w4).alloc (Nat.le_refl _) _) q2)
              have r1' := grown_cell hg' (by rw [World.size_alloc]; omega) HLT.out (cell_on ((Below.refl _ w4).alloc (Nat.le_refl _) _) q1)
              have hs5 := HB5.out.size
              clear hown' hg'
              go_wp2_with (first
                | (have _ := HO5; go_at_call 20; refine (CP2.out _).mono ?_; rintro e w6 ⟨rfl, hb6⟩; have HB6 : Hid (Below w.heap.size w w6) := HB5.out.trans (hb6.mono HB5.out.size); have HO6 : Hid (w6.ownsRow w.heap.size 50 3 (.slice p' (qs.length + 1) c') (qs.length + 1) (cellsP qs ++ partCells ⟨K1, 0, []⟩)) := own_below HO5.out hb6; have p2 := cell_on hb6 r2'; have hs6 := HB6.out.size; clear hb6)
                | fail)
              go_roundw
              case rel =>
                refine ⟨k + 1, M - K1, by go_num, by first | rfl | go_num, qs ++ [⟨K1, 0, []⟩], ?_, by first | omega | (simp; omega), small_snoc HQS.out ⟨by show 0 ≤ K1; omega, by show K1 ≤ N; omega, Int.le_refl _, hN0, by simp⟩, by omega, by omega, by omega, by omega, HB6.out⟩
                rw [cellsP_snoc, List.length_append]; exact HO6.out
              case measure => simp [intOf]; omega
            ·
              have hw1 : IntKind.i64.wrap (M - K1) = M - K1 := by rw [IntKind.wrap_i64]; omega
              go_wp2_with (first
                | (go_at_call 78; refine Calls.mono HC.out ?_; rintro e w2 ⟨n1, n2, n3, n4, rfl, hb2⟩; have HB2 : Hid (Below w.heap.size w w2) := HB0.out.trans (hb2.mono HB0.out.size); have HO2 : Hid (w2.ownsRow w.heap.size 50 3 (.slice pv qs.length cv) qs.length (cellsP qs)) := own_below ho0.out hb2; have z2 := (hb2.cell (p := ⟨wr.heap.size, 2, none⟩) hl0).trans y2; have z1 := (hb2.cell (p := ⟨wr.heap.size, 1, none⟩) hl0).trans y1; have z0 := (hb2.cell (p := ⟨wr.heap.size, 0, none⟩) hl0).trans y0; have hba : Below w2.heap.size w2 (w2.alloc (.cells #[.int .i64 n1, .int .i64 n2, .int .i64 n3, .int .i64 n4] 25)) := (Below.refl _ w2).alloc (Nat.le_refl _) _; have t2 := cell_on hba z2; have t1 := cell_on hba z1; have t0 := cell_on hba z0; have hl2 := alloc_size hb2; have hs2 := HB2.out.size; have HO3 : Hid ((w2.alloc (.cells #[.int .i64 n1, .int .i64 n2, .int .i64 n3, .int .i64 n4] 25)).ownsRow w.heap.size 50 3 (.slice pv qs.length cv) qs.length (cellsP qs)) := HO2.out.alloc _; have HB3 : Hid (Below w.heap.size w (w2.alloc (.cells #[.int .i64 n1, .int .i64 n2, .int .i64 n3, .int .i64 n4] 25))) := HB2.out.alloc HB2.out.size _; clear hb2 hba)
                | (go_at_call 20; refine (CP1.out _).mono ?_; rintro e w4 ⟨rfl, hb4⟩; have HB4 : Hid (Below w.heap.size w w4) := HB3.out.trans (hb4.mono HB3.out.size); have HO4 : Hid (w4.ownsRow w.heap.size 50 3 (.slice pv qs.length cv) qs.length (cellsP qs)) := own_below HO3.out hb4; have q2 := cell_on hb4 t2; have q1 := cell_on hb4 t1; have hs4 := HB4.out.size; have hs24 := hb4.size; rw [World.size_alloc] at hs24; clear hb4)
                | (at_builtin; refine wpList_append_own _ rfl _ _ 23 rfl w.heap.size 50 i0 (.agg #[.int .i64 0, .int .i64 0, .string ⟨#[]⟩]) 3 32 Tryz.underlying23 hi hz0 hz1 hz2 rfl (by decide) _ _ _ rfl (HO4.out.alloc _) ⟨w4.heap.size, 0, none⟩ 1 1 (partCells ⟨K1, 0, []⟩) rfl rfl (cells_newN _ _ (by first | rfl | simp) _ _) (partCells_one _) (by unfold maxLen; omega) (by omega) (by first | omega | (simp; omega)) ?_)
                | fail)
              intro v' w' hown' hg' _
              obtain ⟨p', c', rfl⟩ := own_slice hown'
              have HB5 : Hid (Below w.heap.size w w') := (HB4.out.alloc HB4.out.size _).grown hg' (by simp; omega) fun k hk => (HO4.out.lt k hk).1
              have HO5 : Hid (w'.ownsRow w.heap.size 50 3 (.slice p' (qs.length + 1) c') (qs.length + 1) (cellsP qs ++ partCells ⟨K1, 0, []⟩)) := hown'
              have r2' := grown_cell hg' (by rw [World.size_alloc]; omega) HLT.out (cell_on ((Below.refl _ w4).alloc (Nat.le_refl _) _) q2)
              have r1' := grown_cell hg' (by rw [World.size_alloc]; omega) HLT.out (cell_on ((Below.refl _ w4).alloc (Nat.le_refl _) _) q1)
              have hs5 := HB5.out.size
              clear hown' hg'
              have hw2 : IntKind.i64.wrap (M - K1 - K2) = M - K1 - K2 := by rw [IntKind.wrap_i64]; omega
              go_wp2_with (first
                | (have _ := HO5; go_at_call 20; refine (CP2.out _).mono ?_; rintro e w6 ⟨rfl, hb6⟩; have HB6 : Hid (Below w.heap.size w w6) := HB5.out.trans (hb6.mono HB5.out.size); have HO6 : Hid (w6.ownsRow w.heap.size 50 3 (.slice p' (qs.length + 1) c') (qs.length + 1) (cellsP qs ++ partCells ⟨K1, 0, []⟩)) := own_below HO5.out hb6; have p2 := cell_on hb6 r2'; have hs6 := HB6.out.size; clear hb6)
                | (have _ := HO6; at_builtin; refine wpList_append_own _ rfl _ _ 23 rfl w.heap.size 50 i0 (.agg #[.int .i64 0, .int .i64 0, .string ⟨#[]⟩]) 3 32 Tryz.underlying23 hi hz0 hz1 hz2 rfl (by decide) _ _ _ rfl (HO6.out.alloc _) ⟨w6.heap.size, 0, none⟩ 1 1 (partCells ⟨0, K2, []⟩) rfl rfl (cells_newN _ _ (by first | rfl | simp) _ _) (partCells_one _) (by unfold maxLen; omega) (by omega) (by first | omega | (simp; omega)) ?_)
                | fail)
              intro v'' w'' hown'' hg'' _
              obtain ⟨p'', c'', rfl⟩ := own_slice hown''
              have HB7 : Hid (Below w.heap.size w w'') := (HB6.out.alloc HB6.out.size _).grown hg'' (by simp; omega) fun k hk => (HO6.out.lt k hk).1
              have HO7 : Hid (w''.ownsRow w.heap.size 50 3 (.slice p'' ((qs.length + 1) + 1) c'') ((qs.length + 1) + 1) (cellsP qs ++ (partCells ⟨K1, 0, []⟩ ++ partCells ⟨0, K2, []⟩))) := hown''
              clear hown'' hg''
              go_wp2
              go_roundw
              case rel =>
                refine ⟨k + 1, M - K1 - K2, by go_num, by first | rfl | go_num, (qs ++ [⟨K1, 0, []⟩]) ++ [⟨0, K2, []⟩], ?_, by first | omega | (simp; omega), small_snoc (small_snoc HQS.out ⟨by show 0 ≤ K1; omega, by show K1 ≤ N; omega, Int.le_refl _, hN0, by simp⟩) ⟨Int.le_refl _, hN0, by show 0 ≤ K2; omega, by show K2 ≤ N; omega, by simp⟩, by omega, by omega, by omega, by omega, HB7.out⟩
                have e1 : cellsP (qs ++ [(⟨K1, 0, []⟩ : Pt)] ++ [(⟨0, K2, []⟩ : Pt)]) = cellsP qs ++ (partCells ⟨K1, 0, []⟩ ++ partCells ⟨0, K2, []⟩) := by rw [cellsP_snoc, cellsP_snoc, List.append_assoc]
                have e2 : (qs ++ [(⟨K1, 0, []⟩ : Pt)] ++ [(⟨0, K2, []⟩ : Pt)]).length = qs.length + 1 + 1 := by simp
                rw [e1, e2]; exact HO7.out
              case measure => simp [intOf]; omega
        · have hUe : U.isEmpty = false := by cases U with | nil => exact absurd rfl hU | cons x U => rfl
          by_cases hsc : (scan U).2 = true
          · have HC : Hid (Calls Tryz.prog 78 #[.string ⟨U.toArray⟩] (wr.alloc (.cells #[.int .i64 K, .int .i64 D, .string ⟨U.toArray⟩] 50)) fun e w' => ∃ n1 n2 n3 n4, e = .returned (.tuple #[.agg #[.int .i64 n1, .int .i64 n2, .int .i64 n3, .int .i64 n4], .nilIface]) ∧ Below (wr.alloc (.cells #[.int .i64 K, .int .i64 D, .string ⟨U.toArray⟩] 50)).heap.size (wr.alloc (.cells #[.int .i64 K, .int .i64 D, .string ⟨U.toArray⟩] 50)) w') := Calls.mono cC fun e w' h => by
              obtain ⟨v, x, rfl, hb, ⟨_, rfl, rfl⟩ | ⟨h0, _⟩⟩ := h
              · exact ⟨_, _, _, _, rfl, hb⟩
              · rw [show (ByteArray.mk U.toArray).data.toList = U from rfl, hsc] at h0; cases h0
            clear cC hsc hU hpk
            go_wp2_with (first
              | (go_at_call 78; refine Calls.mono HC.out ?_; rintro e w2 ⟨n1, n2, n3, n4, rfl, hb2⟩; have HB2 : Hid (Below w.heap.size w w2) := HB0.out.trans (hb2.mono HB0.out.size); have HO2 : Hid (w2.ownsRow w.heap.size 50 3 (.slice pv qs.length cv) qs.length (cellsP qs)) := own_below ho0.out hb2; have z2 := (hb2.cell (p := ⟨wr.heap.size, 2, none⟩) hl0).trans y2; have z1 := (hb2.cell (p := ⟨wr.heap.size, 1, none⟩) hl0).trans y1; have z0 := (hb2.cell (p := ⟨wr.heap.size, 0, none⟩) hl0).trans y0; have hba : Below w2.heap.size w2 (w2.alloc (.cells #[.int .i64 n1, .int .i64 n2, .int .i64 n3, .int .i64 n4] 25)) := (Below.refl _ w2).alloc (Nat.le_refl _) _; have t2 := cell_on hba z2; have t1 := cell_on hba z1; have t0 := cell_on hba z0; have hl2 := alloc_size hb2; have hs2 := HB2.out.size; have HO3 : Hid ((w2.alloc (.cells #[.int .i64 n1, .int .i64 n2, .int .i64 n3, .int .i64 n4] 25)).ownsRow w.heap.size 50 3 (.slice pv qs.length cv) qs.length (cellsP qs)) := HO2.out.alloc _; have HB3 : Hid (Below w.heap.size w (w2.alloc (.cells #[.int .i64 n1, .int .i64 n2, .int .i64 n3, .int .i64 n4] 25))) := HB2.out.alloc HB2.out.size _; clear hb2 hba)
              | (at_builtin; refine wpList_append_own _ rfl _ _ 23 rfl w.heap.size 50 i0 (.agg #[.int .i64 0, .int .i64 0, .string ⟨#[]⟩]) 3 32 Tryz.underlying23 hi hz0 hz1 hz2 rfl (by decide) _ _ _ rfl (HO3.out.alloc _) ⟨w2.heap.size + 1, 0, none⟩ 1 1 (partCells ⟨0, 0, U⟩) rfl rfl (cells_newN _ _ (by first | rfl | simp) _ _) (partCells_one _) (by unfold maxLen; omega) (by omega) (by first | omega | (simp; omega)) ?_)
              | fail)
            intro v' w' hown' hg' _
            obtain ⟨p', c', rfl⟩ := own_slice hown'
            have HBW' : Hid (Below w.heap.size w w') := (HB3.out.alloc HB3.out.size _).grown hg' (by simp; omega) fun k hk => (HO3.out.lt k hk).1
            have HO' : Hid (w'.ownsRow w.heap.size 50 3 (.slice p' (qs.length + 1) c') (qs.length + 1) (cellsP qs ++ partCells ⟨0, 0, U⟩)) := hown'
            clear hown' hg'
            go_wp2
            go_roundw
            case rel =>
              refine ⟨k + 1, M, by go_num, rfl, qs ++ [⟨0, 0, U⟩], ?_, by simp; omega, small_snoc HQS.out ⟨Int.le_refl _, hN0, Int.le_refl _, hN0, by show U.length ≤ 150; omega⟩, hM0, hM1, by omega, by omega, HBW'.out⟩
              rw [cellsP_snoc, List.length_append]; exact HO'.out
            case measure => simp [intOf]; omega
          · have hsc : (scan U).2 = false := Bool.eq_false_iff.2 hsc
            have HC : Hid (Calls Tryz.prog 78 #[.string ⟨U.toArray⟩] (wr.alloc (.cells #[.int .i64 K, .int .i64 D, .string ⟨U.toArray⟩] 50)) fun e w' => ∃ n1 n2 n3 n4 bx, e = .returned (.tuple #[.agg #[.int .i64 n1, .int .i64 n2, .int .i64 n3, .int .i64 n4], .iface 273 (.pointer (some ⟨bx, 0, none⟩))]) ∧ Below (wr.alloc (.cells #[.int .i64 K, .int .i64 D, .string ⟨U.toArray⟩] 50)).heap.size (wr.alloc (.cells #[.int .i64 K, .int .i64 D, .string ⟨U.toArray⟩] 50)) w') := Calls.mono cC fun e w' h => by
              obtain ⟨v, x, rfl, hb, ⟨h0, _⟩ | ⟨_, rfl, bx, rfl, _⟩⟩ := h
              · rw [show (ByteArray.mk U.toArray).data.toList = U from rfl, hsc] at h0; cases h0
              · exact ⟨_, _, _, _, bx, rfl, hb⟩
            clear cC hsc hU
            have hpk2 : (¬ 0 < K2) ∨ (0 < K2 ∧ ¬ K2 ≤ M) ∨ (0 < K2 ∧ K2 ≤ M) := by omega
            rcases hpk with hp | ⟨hp, hp'⟩ | ⟨hp, hp'⟩ <;> rcases hpk2 with hr | ⟨hr, hr'⟩ | ⟨hr, hr'⟩ <;>
            · go_wp2_with (first
                | (go_at_call 78; refine Calls.mono HC.out ?_; rintro e w2 ⟨n1, n2, n3, n4, bx, rfl, hb2⟩; have HB2 : Hid (Below w.heap.size w w2) := HB0.out.trans (hb2.mono HB0.out.size); have HO2 : Hid (w2.ownsRow w.heap.size 50 3 (.slice pv qs.length cv) qs.length (cellsP qs)) := own_below ho0.out hb2; have z2 := (hb2.cell (p := ⟨wr.heap.size, 2, none⟩) hl0).trans y2; have z1 := (hb2.cell (p := ⟨wr.heap.size, 1, none⟩) hl0).trans y1; have z0 := (hb2.cell (p := ⟨wr.heap.size, 0, none⟩) hl0).trans y0; have hba : Below w2.heap.size w2 (w2.alloc (.cells #[.int .i64 n1, .int .i64 n2, .int .i64 n3, .int .i64 n4] 25)) := (Below.refl _ w2).alloc (Nat.le_refl _) _; have t2 := cell_on hba z2; have t1 := cell_on hba z1; have t0 := cell_on hba z0; have hl2 := alloc_size hb2; have hs2 := HB2.out.size; have HO3 : Hid ((w2.alloc (.cells #[.int .i64 n1, .int .i64 n2, .int .i64 n3, .int .i64 n4] 25)).ownsRow w.heap.size 50 3 (.slice pv qs.length cv) qs.length (cellsP qs)) := HO2.out.alloc _; have HB3 : Hid (Below w.heap.size w (w2.alloc (.cells #[.int .i64 n1, .int .i64 n2, .int .i64 n3, .int .i64 n4] 25))) := HB2.out.alloc HB2.out.size _; clear hb2 hba)
                | (have _ := HO4; go_at_call 20; refine (CP2.out _).mono ?_; rintro e w6 ⟨rfl, hb6⟩; have HB6 : Hid (Below w.heap.size w w6) := HB4.out.trans (hb6.mono HB4.out.size); have HO6 : Hid (w6.ownsRow w.heap.size 50 3 (.slice pv qs.length cv) qs.length (cellsP qs)) := own_below HO4.out hb6; have p2 := cell_on hb6 q2; have hs6 := HB6.out.size; clear hb6)
                | (go_at_call 20; refine (CP1.out _).mono ?_; rintro e w4 ⟨rfl, hb4⟩; have HB4 : Hid (Below w.heap.size w w4) := HB3.out.trans (hb4.mono HB3.out.size); have HO4 : Hid (w4.ownsRow w.heap.size 50 3 (.slice pv qs.length cv) qs.length (cellsP qs)) := own_below HO3.out hb4; have q2 := cell_on hb4 t2; have q1 := cell_on hb4 t1; have hs4 := HB4.out.size; have hs24 := hb4.size; rw [World.size_alloc] at hs24; clear hb4)
                | fail)
              go_roundw
              case rel => exact ⟨k + 1, M, by go_num, rfl, qs, HO6.out, by omega, HQS.out, hM0, hM1, by omega, by omega, HB6.out⟩
              case measure => simp [intOf]; omega
    · have hexit : k = n ∨ (k < n ∧ k = 30) := by omega
      have hql61 : qs.length ≤ 60 := by omega
      by_cases hMp : 0 < M
      · rcases hexit with rfl | ⟨h1, rfl⟩
        · have hex : ¬ (k : Int) < (k : Int) := by omega
          go_wp2_with (first
            | (at_builtin; refine wpList_append_own _ rfl _ _ 23 rfl w.heap.size 50 i0 (.agg #[.int .i64 0, .int .i64 0, .string ⟨#[]⟩]) 3 32 Tryz.underlying23 hi hz0 hz1 hz2 rfl (by decide) _ _ _ rfl (HOW.out.alloc _) ⟨wr.heap.size, 0, none⟩ 1 1 (partCells ⟨M, 0, []⟩) rfl rfl (cells_newN _ _ (by first | rfl | simp) _ _) (partCells_one _) (by unfold maxLen; omega) (by omega) (by first | omega | (simp; omega)) ?_)
            | fail)
          intro v' w' hown' hg' _
          obtain ⟨p', c', rfl⟩ := own_slice hown'
          have HBW' : Hid (Below w.heap.size w w') := (HWR.out.alloc HWR.out.size _).grown hg' (by simp; omega) fun k hk => (HOW.out.lt k hk).1
          have HO' : Hid (w'.ownsRow w.heap.size 50 3 (.slice p' (qs.length + 1) c') (qs.length + 1) (cellsP qs ++ partCells ⟨M, 0, []⟩)) := hown'
          clear hown' hg'
          go_wp2
          go_ret
          refine ⟨_, qs ++ [⟨M, 0, []⟩], rfl, ?_, by simp; omega, small_snoc HQS.out ⟨hM0, hM1, Int.le_refl _, hN0, by simp⟩, HBW'.out⟩
          rw [cellsP_snoc, List.length_append]; exact HO'.out
        · have hex : (30 : Int) < (n : Int) := by omega
          go_wp2_with (first
            | (at_builtin; refine wpList_append_own _ rfl _ _ 23 rfl w.heap.size 50 i0 (.agg #[.int .i64 0, .int .i64 0, .string ⟨#[]⟩]) 3 32 Tryz.underlying23 hi hz0 hz1 hz2 rfl (by decide) _ _ _ rfl (HOW.out.alloc _) ⟨wr.heap.size, 0, none⟩ 1 1 (partCells ⟨M, 0, []⟩) rfl rfl (cells_newN _ _ (by first | rfl | simp) _ _) (partCells_one _) (by unfold maxLen; omega) (by omega) (by first | omega | (simp; omega)) ?_)
            | fail)
          intro v' w' hown' hg' _
          obtain ⟨p', c', rfl⟩ := own_slice hown'
          have HBW' : Hid (Below w.heap.size w w') := (HWR.out.alloc HWR.out.size _).grown hg' (by simp; omega) fun k hk => (HOW.out.lt k hk).1
          have HO' : Hid (w'.ownsRow w.heap.size 50 3 (.slice p' (qs.length + 1) c') (qs.length + 1) (cellsP qs ++ partCells ⟨M, 0, []⟩)) := hown'
          clear hown' hg'
          go_wp2
          go_ret
          refine ⟨_, qs ++ [⟨M, 0, []⟩], rfl, ?_, by simp; omega, small_snoc HQS.out ⟨hM0, hM1, Int.le_refl _, hN0, by simp⟩, HBW'.out⟩
          rw [cellsP_snoc, List.length_append]; exact HO'.out
      · rcases hexit with rfl | ⟨h1, rfl⟩
        · have hex : ¬ (k : Int) < (k : Int) := by omega
          go_wp2
          go_ret
          first | exact ⟨_, qs, rfl, HOW.out, by omega, HQS.out, HWR.out⟩ | exact ⟨_, rfl, qs, HOW.out, by omega, HQS.out, HWR.out⟩
        · have hex : (30 : Int) < (n : Int) := by omega
          go_wp2
          go_ret
          first | exact ⟨_, qs, rfl, HOW.out, by omega, HQS.out, HWR.out⟩ | exact ⟨_, rfl, qs, HOW.out, by omega, HQS.out, HWR.out⟩
end Go.Proofs.YtedgnlgjmnccgabGreatDoor
