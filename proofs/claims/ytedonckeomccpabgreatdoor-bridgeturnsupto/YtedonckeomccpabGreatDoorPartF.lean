/-
  rosettakeep's pick and fit: what comes is few parts that are not great.
  The library's contracts that these texts use, laid at this program by the shelf's own command, its plain mode.
  bridge.To by runes: what Check tells; else each part in bytes.
  bridge.turn by any units: what comes, or a part that ends within a rune.
  The document's own Check: what it says of any operation.
-/
import Derived.Test.YtedonckeomccpabGreatDoorPartE
import Derived.Test.YtedonckeomccpabGreatDoorPartB
import Derived.Shelf.Strings.Builder1
import Derived.Shelf.Small.Utf8
import Derived.Shelf.Strings.BuilderF
import Derived.Shelf.Strings.BuilderK
import Derived.Shelf.Utf8.AppendRune
import Derived.Shelf.Utf8.AppendRunePlain
import Derived.Shelf.Utf8.RuneCount
import Derived.Shelf.LaysM
import Derived.Shelf.Strconv.Clone
import Derived.Shelf.Strings.Search1
import Derived.Shelf.Strings.Search2
import Derived.Shelf.Strings.Search3
import Derived.Shelf.Strings.Count
import Derived.Shelf.Strings.Shaped
import Derived.Shelf.Strings.Split
import Derived.Shelf.Unicode.Decode
import Derived.Shelf.Strings.RuneCount
import Derived.Shelf.Unicode.DecodeSlow
import Derived.Shelf.Unicode.DecodeAny
import Derived.Shelf.Strings.BuilderCap
import Derived.Test.YtedonckeomccpabGreatDoorProg
namespace Go.Proofs.YtedonckeomccpabGreatDoor
open Go.RowKit
set_option linter.unusedVariables false
attribute [local go_sem] Oper.semAt_some

/-- What pick picks. -/
def pk (a m : Int) : Int := IntKind.u64.wrap a % m
theorem pk_bd (a m : Int) (h : 0 < m) : 0 ≤ pk a m ∧ pk a m < m := ⟨Int.emod_nonneg _ (by omega), Int.emod_lt_of_pos _ h⟩
set_option maxHeartbeats 1000000 in
theorem pick_any (a m : Int) (ha : -9223372036854775808 ≤ a ∧ a < 9223372036854775808) (h0 : 0 < m) (hm : m < 100) (w : World) :
    Calls Tryz.prog 14 #[.int .i64 a, .int .i64 m] w fun e w' => e = .returned (.int .i64 (pk a m)) ∧ Below w.heap.size w w' := by
  obtain ⟨a1, a2⟩ := ha
  have hne : m ≠ 0 := by omega
  have e1 : IntKind.u64.wrap m = m := by rw [IntKind.wrap_u64]; omega
  go_enter Tryz.func14, Tryz.ntmps14
  go_wp2
  go_ret
  have h1 : 0 ≤ IntKind.u64.wrap a := by rw [IntKind.wrap_u64]; omega
  have h2 : (IntKind.u64.wrap a).tmod m = IntKind.u64.wrap a % m := Int.tmod_eq_emod_of_nonneg h1
  have h3 := Int.emod_nonneg (IntKind.u64.wrap a) hne
  have h4 := Int.emod_lt_of_pos (IntKind.u64.wrap a) h0
  have h5 : wrap64 ((IntKind.u64.wrap a).tmod m) = pk a m := by rw [h2]; unfold wrap64 pk; omega
  exact ⟨by rw [← h5]; rfl, Below.refl _ _⟩
theorem cells_newN (w : World) (n : Nat) (hn : w.heap.size = n) (l : List Value) (t : TypeId) : ∀ j u, l[j]? = some u → (w.alloc (.cells l.toArray t)).cell? ((⟨n, 0, none⟩ : Addr).add j) = some u := by
  subst hn
  exact cells_new w l t
theorem cellOnF {A B : World} {b : Nat} (h : B.heap[b]? = A.heap[b]?) (o : Nat) : B.cell? ⟨b, o, none⟩ = A.cell? ⟨b, o, none⟩ := by
  simp [World.cell?, h]
theorem alloc_size {w w2 : World} {o : Obj} (h : Below (w.alloc o).heap.size (w.alloc o) w2) : w.heap.size + 1 ≤ w2.heap.size := by
  have := h.size
  rw [World.size_alloc] at this
  exact this

theorem grown_cell {w w' : World} {β o : Nat} {v x : Value} (hg : w.grownBy w' v.ownBlock) (hlt : β < w.heap.size) (hne : ∀ k, v.ownBlock = some k → k < β) (h : w.cell? ⟨β, o, none⟩ = some x) : w'.cell? ⟨β, o, none⟩ = some x :=
  (cellOnF (hg.block β hlt fun e => absurd (hne _ e.symm) (Nat.lt_irrefl _)) o).trans h

/-- A part that is not great. -/
def smallQ (N : Int) (q : Pt) : Prop := 0 ≤ q.keep ∧ q.keep ≤ N ∧ 0 ≤ q.drop ∧ q.drop ≤ N ∧ q.put.length ≤ 150
theorem small_snoc {N : Int} {qs : List Pt} {q : Pt} (h : ∀ p ∈ qs, smallQ N p) (hq : smallQ N q) : ∀ p ∈ qs ++ [q], smallQ N p := by
  intro p hp
  rcases List.mem_append.1 hp with hp | hp
  · exact h p hp
  · rw [List.mem_singleton.1 hp]; exact hq
theorem cells_snoc (qs : List Pt) (q : Pt) : cellsP qs ++ partCells q = cellsP (qs ++ [q]) := (cellsP_snoc qs q).symm
def fitI (w : World) (N : Int) (n k : Nat) (v : Value) (M : Int) (wr : World) : Prop :=
  ∃ qs : List Pt, wr.ownsRow w.heap.size 50 3 v qs.length (cellsP qs) ∧ qs.length ≤ 2 * k ∧ (∀ q ∈ qs, smallQ N q) ∧ 0 ≤ M ∧ M ≤ N ∧ k ≤ n ∧ k ≤ 30 ∧ Below w.heap.size w wr

set_option maxRecDepth 100000 in
set_option maxHeartbeats 8000000 in
theorem fit_any (v : Value) (ps : List Pt) (N : Int) (w : World) (hT : Lib.Utf8Tabs 2 3 w) (hr : opAt w v ps) (hwf : ∀ p ∈ ps, p.put.length ≤ 150 → wfP p) (hN0 : 0 ≤ N) (hN1 : N ≤ 100000) :
    Calls Tryz.prog 16 #[v, .int .i64 N] w fun e w' => ∃ v' qs, e = .returned v' ∧ w'.ownsRow w.heap.size 50 3 v' qs.length (cellsP qs) ∧ qs.length ≤ 61 ∧ (∀ q ∈ qs, smallQ N q) ∧ Below w.heap.size w w' := by
  obtain ⟨p, c, rfl, r1, r2, r3⟩ := hr
  obtain ⟨n, hn⟩ : ∃ n, n = ps.length := ⟨_, rfl⟩
  rw [← hn] at r1 ⊢
  have HN : Hid (n = ps.length) := hn
  clear hn
  have R3 : Hid (ps ≠ [] → ∃ b o, p = some ⟨b, o, none⟩ ∧ b < w.heap.size ∧ ∀ i q, ps[i]? = some q →
    w.cell? ⟨b, o + i * 3, none⟩ = some (.int .i64 q.keep) ∧ w.cell? ⟨b, o + i * 3 + 1, none⟩ = some (.int .i64 q.drop) ∧ w.cell? ⟨b, o + i * 3 + 2, none⟩ = some (.string ⟨q.put.toArray⟩)) := r3
  have HWF : Hid (∀ p ∈ ps, p.put.length ≤ 150 → wfP p) := hwf
  have HT : Hid (Lib.Utf8Tabs 2 3 w) := hT
  obtain ⟨i0, hi, hz0, hz1, hz2⟩ := info_parts info_part
  clear r3 hwf hT
  unfold maxLen at r2
  go_enter Tryz.func16, Tryz.ntmps16
  go_wp2
  go_loopw [5, 1, 6] (fun v5 m i wr => ∃ (k : Nat) (M : Int), i = .int .i64 k ∧ m = .int .i64 M ∧ fitI w N n k v5 M wr) (fun _ _ i _ => 30 - (intOf i).toNat)
  case atStart => exact ⟨0, N, rfl, rfl, [], World.ownsRow_nil _ _ _ _, Nat.zero_le _, by simp, hN0, Int.le_refl _, Nat.zero_le _, Nat.zero_le _, Below.refl _ _⟩
  case round =>
    obtain ⟨k, M, rfl, rfl, qs, hown, hql, hqs, hM0, hM1, hkn, hk30, hwr⟩ := hrel
    obtain ⟨pv, cv, rfl⟩ := own_slice hown
    have HQS : Hid (∀ q ∈ qs, smallQ N q) := hqs
    have HOW : Hid (wr.ownsRow w.heap.size 50 3 (.slice pv qs.length cv) qs.length (cellsP qs)) := hown
    have HWR : Hid (Below w.heap.size w wr) := hwr
    have hws := hwr.size
    have HLT : Hid (∀ k, (Value.slice pv qs.length cv).ownBlock = some k → k < wr.heap.size) := fun k hk => (hown.lt k hk).2
    clear hown hqs hwr
    by_cases hlt : k < n ∧ k < 30
    · obtain ⟨hlt1, hlt2⟩ := hlt
      have hkr : k < ps.length := by rw [← HN.out]; exact hlt1
      have hne : ps ≠ [] := by intro e; rw [e] at hkr; exact absurd hkr (Nat.not_lt_zero _)
      obtain ⟨b, o, rfl, hbw, hcell⟩ := R3.out hne
      obtain ⟨c0, c1, c2⟩ := hcell k ps[k] (List.getElem?_eq_getElem hkr)
      have g0 := (HWR.out.cell (p := ⟨b, o + k * 3, none⟩) hbw).trans c0
      have g1 := (HWR.out.cell (p := ⟨b, o + k * 3 + 1, none⟩) hbw).trans c1
      have g2 := (HWR.out.cell (p := ⟨b, o + k * 3 + 2, none⟩) hbw).trans c2
      have hwq := HWF.out ps[k] (List.getElem_mem _)
      generalize ps[k] = q at *
      obtain ⟨K, D, U⟩ := q
      simp only at g0 g1 g2 hwq
      have hj1 : (k : Int) < (n : Int) := by omega
      have hj2 : (k : Int) < 30 := by omega
      have hUz : (ByteArray.mk U.toArray).size = U.length := by simp [ByteArray.size]
      have HB0 : Hid (Below w.heap.size w (wr.alloc (.cells #[.int .i64 K, .int .i64 D, .string ⟨U.toArray⟩] 50))) := HWR.out.alloc hws _
      have ho0 : Hid ((wr.alloc (.cells #[.int .i64 K, .int .i64 D, .string ⟨U.toArray⟩] 50)).ownsRow w.heap.size 50 3 (.slice pv qs.length cv) qs.length (cellsP qs)) := HOW.out.alloc _
      have X0 : Hid ((wr.alloc (.cells #[.int .i64 K, .int .i64 D, .string ⟨U.toArray⟩] 50)).heap[wr.heap.size]? = some (.cells #[.int .i64 K, .int .i64 D, .string ⟨U.toArray⟩] 50 (0, 0))) := heap_alloc_new _ _
      clear hcell c0 c1 c2 hne hkr
      by_cases hbig : 150 < U.length
      · have hbig' : (150 : Int) < (U.length : Int) := by omega
        clear hwq
        go_wp2
        go_roundw
        case rel => exact ⟨k + 1, M, by go_num, rfl, qs, ho0.out, by omega, HQS.out, hM0, hM1, by omega, by omega, HB0.out⟩
        case measure => simp [intOf]; omega
      · have hbig' : ¬ (150 : Int) < (U.length : Int) := by omega
        obtain ⟨wk1, wk2, wd1, wd2, _⟩ := hwq (by omega)
        have cC := Count_any ⟨U.toArray⟩ (by rw [hUz]; omega) (wr.alloc (.cells #[.int .i64 K, .int .i64 D, .string ⟨U.toArray⟩] 50)) (Go.Proofs.Utf8Tabs_below HT.out HB0.out)
        have hl0 : wr.heap.size < (wr.alloc (.cells #[.int .i64 K, .int .i64 D, .string ⟨U.toArray⟩] 50)).heap.size := by simp
        obtain ⟨K1, hK1⟩ : ∃ K1, pk K 12 = K1 := ⟨_, rfl⟩
        obtain ⟨K2, hK2⟩ : ∃ K2, pk D 7 = K2 := ⟨_, rfl⟩
        have hk1 := pk_bd K 12 (by omega)
        have hk2 := pk_bd D 7 (by omega)
        have CP1 : Hid (∀ wx, Calls Tryz.prog 14 #[.int .i64 K, .int .i64 12] wx fun e w' => e = .returned (.int .i64 K1) ∧ Below wx.heap.size wx w') := fun wx => by rw [← hK1]; exact pick_any K 12 ⟨wk1, wk2⟩ (by omega) (by omega) wx
        have CP2 : Hid (∀ wx, Calls Tryz.prog 14 #[.int .i64 D, .int .i64 7] wx fun e w' => e = .returned (.int .i64 K2) ∧ Below wx.heap.size wx w') := fun wx => by rw [← hK2]; exact pick_any D 7 ⟨wd1, wd2⟩ (by omega) (by omega) wx
        rw [hK1] at hk1
        rw [hK2] at hk2
        obtain ⟨hk10, hk11⟩ := hk1
        obtain ⟨hk20, hk21⟩ := hk2
        have y2 : (wr.alloc (.cells #[.int .i64 K, .int .i64 D, .string ⟨U.toArray⟩] 50)).cell? ⟨wr.heap.size, 2, none⟩ = some (.string ⟨U.toArray⟩) := Lib.cell_of_heap X0.out 2
        have y1 : (wr.alloc (.cells #[.int .i64 K, .int .i64 D, .string ⟨U.toArray⟩] 50)).cell? ⟨wr.heap.size, 1, none⟩ = some (.int .i64 D) := Lib.cell_of_heap X0.out 1
        have y0 : (wr.alloc (.cells #[.int .i64 K, .int .i64 D, .string ⟨U.toArray⟩] 50)).cell? ⟨wr.heap.size, 0, none⟩ = some (.int .i64 K) := Lib.cell_of_heap X0.out 0
        clear wk1 wk2 wd1 wd2 HWR hK1 hK2 hwq
        have hpk : (¬ 0 < K1) ∨ (0 < K1 ∧ ¬ K1 ≤ M) ∨ (0 < K1 ∧ K1 ≤ M) := by omega
        by_cases hU : U = []
        · have hUe : U.isEmpty = true := by rw [hU]; rfl
          have hsc : (scan U).2 = true := by rw [hU]; rfl
          have HC : Hid (Calls Tryz.prog 33 #[.string ⟨U.toArray⟩] (wr.alloc (.cells #[.int .i64 K, .int .i64 D, .string ⟨U.toArray⟩] 50)) fun e w' => ∃ n1 n2 n3 n4, e = .returned (.tuple #[.agg #[.int .i64 n1, .int .i64 n2, .int .i64 n3, .int .i64 n4], .nilIface]) ∧ Below (wr.alloc (.cells #[.int .i64 K, .int .i64 D, .string ⟨U.toArray⟩] 50)).heap.size (wr.alloc (.cells #[.int .i64 K, .int .i64 D, .string ⟨U.toArray⟩] 50)) w') := Calls.mono cC fun e w' h => by
            obtain ⟨v, x, rfl, hb, ⟨_, rfl, rfl⟩ | ⟨h0, _⟩⟩ := h
            · exact ⟨_, _, _, _, rfl, hb⟩
            · rw [show (ByteArray.mk U.toArray).data.toList = U from rfl, hsc] at h0; cases h0
          clear cC hsc hU
          rcases hpk with hp | ⟨hp, hp'⟩ | ⟨hp, hp'⟩
          ·
            have hpk2 : (¬ 0 < K2) ∨ (0 < K2 ∧ ¬ K2 ≤ M) ∨ (0 < K2 ∧ K2 ≤ M) := by omega
            rcases hpk2 with hr | ⟨hr, hr'⟩ | ⟨hr, hr'⟩
            ·
              go_wp2_with (first
                | (go_at_call 33; refine Calls.mono HC.out ?_; rintro e w2 ⟨n1, n2, n3, n4, rfl, hb2⟩; have HB2 : Hid (Below w.heap.size w w2) := HB0.out.trans (hb2.mono HB0.out.size); have HO2 : Hid (w2.ownsRow w.heap.size 50 3 (.slice pv qs.length cv) qs.length (cellsP qs)) := own_below ho0.out hb2; have z2 := (hb2.cell (p := ⟨wr.heap.size, 2, none⟩) hl0).trans y2; have z1 := (hb2.cell (p := ⟨wr.heap.size, 1, none⟩) hl0).trans y1; have z0 := (hb2.cell (p := ⟨wr.heap.size, 0, none⟩) hl0).trans y0; have hba : Below w2.heap.size w2 (w2.alloc (.cells #[.int .i64 n1, .int .i64 n2, .int .i64 n3, .int .i64 n4] 25)) := (Below.refl _ w2).alloc (Nat.le_refl _) _; have t2 := cell_on hba z2; have t1 := cell_on hba z1; have t0 := cell_on hba z0; have hl2 := alloc_size hb2; have hs2 := HB2.out.size; have HO3 : Hid ((w2.alloc (.cells #[.int .i64 n1, .int .i64 n2, .int .i64 n3, .int .i64 n4] 25)).ownsRow w.heap.size 50 3 (.slice pv qs.length cv) qs.length (cellsP qs)) := HO2.out.alloc _; have HB3 : Hid (Below w.heap.size w (w2.alloc (.cells #[.int .i64 n1, .int .i64 n2, .int .i64 n3, .int .i64 n4] 25))) := HB2.out.alloc HB2.out.size _; clear hb2 hba)
                | (have _ := HO4; go_at_call 14; refine (CP2.out _).mono ?_; rintro e w6 ⟨rfl, hb6⟩; have HB6 : Hid (Below w.heap.size w w6) := HB4.out.trans (hb6.mono HB4.out.size); have HO6 : Hid (w6.ownsRow w.heap.size 50 3 (.slice pv qs.length cv) qs.length (cellsP qs)) := own_below HO4.out hb6; have p2 := cell_on hb6 q2; have hs6 := HB6.out.size; clear hb6)
                | (go_at_call 14; refine (CP1.out _).mono ?_; rintro e w4 ⟨rfl, hb4⟩; have HB4 : Hid (Below w.heap.size w w4) := HB3.out.trans (hb4.mono HB3.out.size); have HO4 : Hid (w4.ownsRow w.heap.size 50 3 (.slice pv qs.length cv) qs.length (cellsP qs)) := own_below HO3.out hb4; have q2 := cell_on hb4 t2; have q1 := cell_on hb4 t1; have hs4 := HB4.out.size; have hs24 := hb4.size; rw [World.size_alloc] at hs24; clear hb4)
                | fail)
              go_roundw
              case rel =>
                refine ⟨k + 1, M, by go_num, by first | rfl | go_num, qs, ?_, by first | omega | (simp; omega), HQS.out, by omega, by omega, by omega, by omega, HB6.out⟩
                exact HO6.out
              case measure => simp [intOf]; omega
            ·
              go_wp2_with (first
                | (go_at_call 33; refine Calls.mono HC.out ?_; rintro e w2 ⟨n1, n2, n3, n4, rfl, hb2⟩; have HB2 : Hid (Below w.heap.size w w2) := HB0.out.trans (hb2.mono HB0.out.size); have HO2 : Hid (w2.ownsRow w.heap.size 50 3 (.slice pv qs.length cv) qs.length (cellsP qs)) := own_below ho0.out hb2; have z2 := (hb2.cell (p := ⟨wr.heap.size, 2, none⟩) hl0).trans y2; have z1 := (hb2.cell (p := ⟨wr.heap.size, 1, none⟩) hl0).trans y1; have z0 := (hb2.cell (p := ⟨wr.heap.size, 0, none⟩) hl0).trans y0; have hba : Below w2.heap.size w2 (w2.alloc (.cells #[.int .i64 n1, .int .i64 n2, .int .i64 n3, .int .i64 n4] 25)) := (Below.refl _ w2).alloc (Nat.le_refl _) _; have t2 := cell_on hba z2; have t1 := cell_on hba z1; have t0 := cell_on hba z0; have hl2 := alloc_size hb2; have hs2 := HB2.out.size; have HO3 : Hid ((w2.alloc (.cells #[.int .i64 n1, .int .i64 n2, .int .i64 n3, .int .i64 n4] 25)).ownsRow w.heap.size 50 3 (.slice pv qs.length cv) qs.length (cellsP qs)) := HO2.out.alloc _; have HB3 : Hid (Below w.heap.size w (w2.alloc (.cells #[.int .i64 n1, .int .i64 n2, .int .i64 n3, .int .i64 n4] 25))) := HB2.out.alloc HB2.out.size _; clear hb2 hba)
                | (have _ := HO4; go_at_call 14; refine (CP2.out _).mono ?_; rintro e w6 ⟨rfl, hb6⟩; have HB6 : Hid (Below w.heap.size w w6) := HB4.out.trans (hb6.mono HB4.out.size); have HO6 : Hid (w6.ownsRow w.heap.size 50 3 (.slice pv qs.length cv) qs.length (cellsP qs)) := own_below HO4.out hb6; have p2 := cell_on hb6 q2; have hs6 := HB6.out.size; clear hb6)
                | (go_at_call 14; refine (CP1.out _).mono ?_; rintro e w4 ⟨rfl, hb4⟩; have HB4 : Hid (Below w.heap.size w w4) := HB3.out.trans (hb4.mono HB3.out.size); have HO4 : Hid (w4.ownsRow w.heap.size 50 3 (.slice pv qs.length cv) qs.length (cellsP qs)) := own_below HO3.out hb4; have q2 := cell_on hb4 t2; have q1 := cell_on hb4 t1; have hs4 := HB4.out.size; have hs24 := hb4.size; rw [World.size_alloc] at hs24; clear hb4)
                | fail)
              go_roundw
              case rel =>
                refine ⟨k + 1, M, by go_num, by first | rfl | go_num, qs, ?_, by first | omega | (simp; omega), HQS.out, by omega, by omega, by omega, by omega, HB6.out⟩
                exact HO6.out
              case measure => simp [intOf]; omega
            ·
              have hw2 : IntKind.i64.wrap (M - K2) = M - K2 := by rw [IntKind.wrap_i64]; omega
              go_wp2_with (first
                | (go_at_call 33; refine Calls.mono HC.out ?_; rintro e w2 ⟨n1, n2, n3, n4, rfl, hb2⟩; have HB2 : Hid (Below w.heap.size w w2) := HB0.out.trans (hb2.mono HB0.out.size); have HO2 : Hid (w2.ownsRow w.heap.size 50 3 (.slice pv qs.length cv) qs.length (cellsP qs)) := own_below ho0.out hb2; have z2 := (hb2.cell (p := ⟨wr.heap.size, 2, none⟩) hl0).trans y2; have z1 := (hb2.cell (p := ⟨wr.heap.size, 1, none⟩) hl0).trans y1; have z0 := (hb2.cell (p := ⟨wr.heap.size, 0, none⟩) hl0).trans y0; have hba : Below w2.heap.size w2 (w2.alloc (.cells #[.int .i64 n1, .int .i64 n2, .int .i64 n3, .int .i64 n4] 25)) := (Below.refl _ w2).alloc (Nat.le_refl _) _; have t2 := cell_on hba z2; have t1 := cell_on hba z1; have t0 := cell_on hba z0; have hl2 := alloc_size hb2; have hs2 := HB2.out.size; have HO3 : Hid ((w2.alloc (.cells #[.int .i64 n1, .int .i64 n2, .int .i64 n3, .int .i64 n4] 25)).ownsRow w.heap.size 50 3 (.slice pv qs.length cv) qs.length (cellsP qs)) := HO2.out.alloc _; have HB3 : Hid (Below w.heap.size w (w2.alloc (.cells #[.int .i64 n1, .int .i64 n2, .int .i64 n3, .int .i64 n4] 25))) := HB2.out.alloc HB2.out.size _; clear hb2 hba)
                | (have _ := HO4; go_at_call 14; refine (CP2.out _).mono ?_; rintro e w6 ⟨rfl, hb6⟩; have HB6 : Hid (Below w.heap.size w w6) := HB4.out.trans (hb6.mono HB4.out.size); have HO6 : Hid (w6.ownsRow w.heap.size 50 3 (.slice pv qs.length cv) qs.length (cellsP qs)) := own_below HO4.out hb6; have p2 := cell_on hb6 q2; have hs6 := HB6.out.size; clear hb6)
                | (go_at_call 14; refine (CP1.out _).mono ?_; rintro e w4 ⟨rfl, hb4⟩; have HB4 : Hid (Below w.heap.size w w4) := HB3.out.trans (hb4.mono HB3.out.size); have HO4 : Hid (w4.ownsRow w.heap.size 50 3 (.slice pv qs.length cv) qs.length (cellsP qs)) := own_below HO3.out hb4; have q2 := cell_on hb4 t2; have q1 := cell_on hb4 t1; have hs4 := HB4.out.size; have hs24 := hb4.size; rw [World.size_alloc] at hs24; clear hb4)
                | (have _ := HO6; at_builtin; refine wpList_append_own _ rfl _ _ 23 rfl w.heap.size 50 i0 (.agg #[.int .i64 0, .int .i64 0, .string ⟨#[]⟩]) 3 32 Tryz.underlying23 hi hz0 hz1 hz2 rfl (by decide) _ _ _ rfl (HO6.out.alloc _) ⟨w6.heap.size, 0, none⟩ 1 1 (partCells ⟨0, K2, []⟩) rfl rfl (cells_newN _ _ (by first | rfl | simp) _ _) (partCells_one _) (by unfold maxLen; omega) (by omega) (by first | omega | (simp; omega)) ?_)
                | fail)
              intro v'' w'' hown'' hg'' _
              obtain ⟨p'', c'', rfl⟩ := own_slice hown''
              have HB7 : Hid (Below w.heap.size w w'') := (HB6.out.alloc HB6.out.size _).grown hg'' (by simp; omega) fun k hk => (HO6.out.lt k hk).1
              have HO7 : Hid (w''.ownsRow w.heap.size 50 3 (.slice p'' (qs.length + 1) c'') (qs.length + 1) (cellsP qs ++ partCells ⟨0, K2, []⟩)) := hown''
              clear hown'' hg''
              go_wp2
              go_roundw
              case rel =>
                refine ⟨k + 1, M - K2, by go_num, by first | rfl | go_num, (qs) ++ [⟨0, K2, []⟩], ?_, by first | omega | (simp; omega), small_snoc (HQS.out) ⟨Int.le_refl _, hN0, by show 0 ≤ K2; omega, by show K2 ≤ N; omega, by simp⟩, by omega, by omega, by omega, by omega, HB7.out⟩
                rw [cellsP_snoc, List.length_append]; exact HO7.out
              case measure => simp [intOf]; omega
          ·
            have hpk2 : (¬ 0 < K2) ∨ (0 < K2 ∧ ¬ K2 ≤ M) ∨ (0 < K2 ∧ K2 ≤ M) := by omega
            rcases hpk2 with hr | ⟨hr, hr'⟩ | ⟨hr, hr'⟩
            ·
              go_wp2_with (first
                | (go_at_call 33; refine Calls.mono HC.out ?_; rintro e w2 ⟨n1, n2, n3, n4, rfl, hb2⟩; have HB2 : Hid (Below w.heap.size w w2) := HB0.out.trans (hb2.mono HB0.out.size); have HO2 : Hid (w2.ownsRow w.heap.size 50 3 (.slice pv qs.length cv) qs.length (cellsP qs)) := own_below ho0.out hb2; have z2 := (hb2.cell (p := ⟨wr.heap.size, 2, none⟩) hl0).trans y2; have z1 := (hb2.cell (p := ⟨wr.heap.size, 1, none⟩) hl0).trans y1; have z0 := (hb2.cell (p := ⟨wr.heap.size, 0, none⟩) hl0).trans y0; have hba : Below w2.heap.size w2 (w2.alloc (.cells #[.int .i64 n1, .int .i64 n2, .int .i64 n3, .int .i64 n4] 25)) := (Below.refl _ w2).alloc (Nat.le_refl _) _; have t2 := cell_on hba z2; have t1 := cell_on hba z1; have t0 := cell_on hba z0; have hl2 := alloc_size hb2; have hs2 := HB2.out.size; have HO3 : Hid ((w2.alloc (.cells #[.int .i64 n1, .int .i64 n2, .int .i64 n3, .int .i64 n4] 25)).ownsRow w.heap.size 50 3 (.slice pv qs.length cv) qs.length (cellsP qs)) := HO2.out.alloc _; have HB3 : Hid (Below w.heap.size w (w2.alloc (.cells #[.int .i64 n1, .int .i64 n2, .int .i64 n3, .int .i64 n4] 25))) := HB2.out.alloc HB2.out.size _; clear hb2 hba)
                | (have _ := HO4; go_at_call 14; refine (CP2.out _).mono ?_; rintro e w6 ⟨rfl, hb6⟩; have HB6 : Hid (Below w.heap.size w w6) := HB4.out.trans (hb6.mono HB4.out.size); have HO6 : Hid (w6.ownsRow w.heap.size 50 3 (.slice pv qs.length cv) qs.length (cellsP qs)) := own_below HO4.out hb6; have p2 := cell_on hb6 q2; have hs6 := HB6.out.size; clear hb6)
                | (go_at_call 14; refine (CP1.out _).mono ?_; rintro e w4 ⟨rfl, hb4⟩; have HB4 : Hid (Below w.heap.size w w4) := HB3.out.trans (hb4.mono HB3.out.size); have HO4 : Hid (w4.ownsRow w.heap.size 50 3 (.slice pv qs.length cv) qs.length (cellsP qs)) := own_below HO3.out hb4; have q2 := cell_on hb4 t2; have q1 := cell_on hb4 t1; have hs4 := HB4.out.size; have hs24 := hb4.size; rw [World.size_alloc] at hs24; clear hb4)
                | fail)
              go_roundw
              case rel =>
                refine ⟨k + 1, M, by go_num, by first | rfl | go_num, qs, ?_, by first | omega | (simp; omega), HQS.out, by omega, by omega, by omega, by omega, HB6.out⟩
                exact HO6.out
              case measure => simp [intOf]; omega
            ·
              go_wp2_with (first
                | (go_at_call 33; refine Calls.mono HC.out ?_; rintro e w2 ⟨n1, n2, n3, n4, rfl, hb2⟩; have HB2 : Hid (Below w.heap.size w w2) := HB0.out.trans (hb2.mono HB0.out.size); have HO2 : Hid (w2.ownsRow w.heap.size 50 3 (.slice pv qs.length cv) qs.length (cellsP qs)) := own_below ho0.out hb2; have z2 := (hb2.cell (p := ⟨wr.heap.size, 2, none⟩) hl0).trans y2; have z1 := (hb2.cell (p := ⟨wr.heap.size, 1, none⟩) hl0).trans y1; have z0 := (hb2.cell (p := ⟨wr.heap.size, 0, none⟩) hl0).trans y0; have hba : Below w2.heap.size w2 (w2.alloc (.cells #[.int .i64 n1, .int .i64 n2, .int .i64 n3, .int .i64 n4] 25)) := (Below.refl _ w2).alloc (Nat.le_refl _) _; have t2 := cell_on hba z2; have t1 := cell_on hba z1; have t0 := cell_on hba z0; have hl2 := alloc_size hb2; have hs2 := HB2.out.size; have HO3 : Hid ((w2.alloc (.cells #[.int .i64 n1, .int .i64 n2, .int .i64 n3, .int .i64 n4] 25)).ownsRow w.heap.size 50 3 (.slice pv qs.length cv) qs.length (cellsP qs)) := HO2.out.alloc _; have HB3 : Hid (Below w.heap.size w (w2.alloc (.cells #[.int .i64 n1, .int .i64 n2, .int .i64 n3, .int .i64 n4] 25))) := HB2.out.alloc HB2.out.size _; clear hb2 hba)
                | (have _ := HO4; go_at_call 14; refine (CP2.out _).mono ?_; rintro e w6 ⟨rfl, hb6⟩; have HB6 : Hid (Below w.heap.size w w6) := HB4.out.trans (hb6.mono HB4.out.size); have HO6 : Hid (w6.ownsRow w.heap.size 50 3 (.slice pv qs.length cv) qs.length (cellsP qs)) := own_below HO4.out hb6; have p2 := cell_on hb6 q2; have hs6 := HB6.out.size; clear hb6)
                | (go_at_call 14; refine (CP1.out _).mono ?_; rintro e w4 ⟨rfl, hb4⟩; have HB4 : Hid (Below w.heap.size w w4) := HB3.out.trans (hb4.mono HB3.out.size); have HO4 : Hid (w4.ownsRow w.heap.size 50 3 (.slice pv qs.length cv) qs.length (cellsP qs)) := own_below HO3.out hb4; have q2 := cell_on hb4 t2; have q1 := cell_on hb4 t1; have hs4 := HB4.out.size; have hs24 := hb4.size; rw [World.size_alloc] at hs24; clear hb4)
                | fail)
              go_roundw
              case rel =>
                refine ⟨k + 1, M, by go_num, by first | rfl | go_num, qs, ?_, by first | omega | (simp; omega), HQS.out, by omega, by omega, by omega, by omega, HB6.out⟩
                exact HO6.out
              case measure => simp [intOf]; omega
            ·
              have hw2 : IntKind.i64.wrap (M - K2) = M - K2 := by rw [IntKind.wrap_i64]; omega
              go_wp2_with (first
                | (go_at_call 33; refine Calls.mono HC.out ?_; rintro e w2 ⟨n1, n2, n3, n4, rfl, hb2⟩; have HB2 : Hid (Below w.heap.size w w2) := HB0.out.trans (hb2.mono HB0.out.size); have HO2 : Hid (w2.ownsRow w.heap.size 50 3 (.slice pv qs.length cv) qs.length (cellsP qs)) := own_below ho0.out hb2; have z2 := (hb2.cell (p := ⟨wr.heap.size, 2, none⟩) hl0).trans y2; have z1 := (hb2.cell (p := ⟨wr.heap.size, 1, none⟩) hl0).trans y1; have z0 := (hb2.cell (p := ⟨wr.heap.size, 0, none⟩) hl0).trans y0; have hba : Below w2.heap.size w2 (w2.alloc (.cells #[.int .i64 n1, .int .i64 n2, .int .i64 n3, .int .i64 n4] 25)) := (Below.refl _ w2).alloc (Nat.le_refl _) _; have t2 := cell_on hba z2; have t1 := cell_on hba z1; have t0 := cell_on hba z0; have hl2 := alloc_size hb2; have hs2 := HB2.out.size; have HO3 : Hid ((w2.alloc (.cells #[.int .i64 n1, .int .i64 n2, .int .i64 n3, .int .i64 n4] 25)).ownsRow w.heap.size 50 3 (.slice pv qs.length cv) qs.length (cellsP qs)) := HO2.out.alloc _; have HB3 : Hid (Below w.heap.size w (w2.alloc (.cells #[.int .i64 n1, .int .i64 n2, .int .i64 n3, .int .i64 n4] 25))) := HB2.out.alloc HB2.out.size _; clear hb2 hba)
                | (have _ := HO4; go_at_call 14; refine (CP2.out _).mono ?_; rintro e w6 ⟨rfl, hb6⟩; have HB6 : Hid (Below w.heap.size w w6) := HB4.out.trans (hb6.mono HB4.out.size); have HO6 : Hid (w6.ownsRow w.heap.size 50 3 (.slice pv qs.length cv) qs.length (cellsP qs)) := own_below HO4.out hb6; have p2 := cell_on hb6 q2; have hs6 := HB6.out.size; clear hb6)
                | (go_at_call 14; refine (CP1.out _).mono ?_; rintro e w4 ⟨rfl, hb4⟩; have HB4 : Hid (Below w.heap.size w w4) := HB3.out.trans (hb4.mono HB3.out.size); have HO4 : Hid (w4.ownsRow w.heap.size 50 3 (.slice pv qs.length cv) qs.length (cellsP qs)) := own_below HO3.out hb4; have q2 := cell_on hb4 t2; have q1 := cell_on hb4 t1; have hs4 := HB4.out.size; have hs24 := hb4.size; rw [World.size_alloc] at hs24; clear hb4)
                | (have _ := HO6; at_builtin; refine wpList_append_own _ rfl _ _ 23 rfl w.heap.size 50 i0 (.agg #[.int .i64 0, .int .i64 0, .string ⟨#[]⟩]) 3 32 Tryz.underlying23 hi hz0 hz1 hz2 rfl (by decide) _ _ _ rfl (HO6.out.alloc _) ⟨w6.heap.size, 0, none⟩ 1 1 (partCells ⟨0, K2, []⟩) rfl rfl (cells_newN _ _ (by first | rfl | simp) _ _) (partCells_one _) (by unfold maxLen; omega) (by omega) (by first | omega | (simp; omega)) ?_)
                | fail)
              intro v'' w'' hown'' hg'' _
              obtain ⟨p'', c'', rfl⟩ := own_slice hown''
              have HB7 : Hid (Below w.heap.size w w'') := (HB6.out.alloc HB6.out.size _).grown hg'' (by simp; omega) fun k hk => (HO6.out.lt k hk).1
              have HO7 : Hid (w''.ownsRow w.heap.size 50 3 (.slice p'' (qs.length + 1) c'') (qs.length + 1) (cellsP qs ++ partCells ⟨0, K2, []⟩)) := hown''
              clear hown'' hg''
              go_wp2
              go_roundw
              case rel =>
                refine ⟨k + 1, M - K2, by go_num, by first | rfl | go_num, (qs) ++ [⟨0, K2, []⟩], ?_, by first | omega | (simp; omega), small_snoc (HQS.out) ⟨Int.le_refl _, hN0, by show 0 ≤ K2; omega, by show K2 ≤ N; omega, by simp⟩, by omega, by omega, by omega, by omega, HB7.out⟩
                rw [cellsP_snoc, List.length_append]; exact HO7.out
              case measure => simp [intOf]; omega
          ·
            have hpk2 : (¬ 0 < K2) ∨ (0 < K2 ∧ ¬ K2 ≤ M - K1) ∨ (0 < K2 ∧ K2 ≤ M - K1) := by omega
            rcases hpk2 with hr | ⟨hr, hr'⟩ | ⟨hr, hr'⟩
            ·
              have hw1 : IntKind.i64.wrap (M - K1) = M - K1 := by rw [IntKind.wrap_i64]; omega
              go_wp2_with (first
                | (go_at_call 33; refine Calls.mono HC.out ?_; rintro e w2 ⟨n1, n2, n3, n4, rfl, hb2⟩; have HB2 : Hid (Below w.heap.size w w2) := HB0.out.trans (hb2.mono HB0.out.size); have HO2 : Hid (w2.ownsRow w.heap.size 50 3 (.slice pv qs.length cv) qs.length (cellsP qs)) := own_below ho0.out hb2; have z2 := (hb2.cell (p := ⟨wr.heap.size, 2, none⟩) hl0).trans y2; have z1 := (hb2.cell (p := ⟨wr.heap.size, 1, none⟩) hl0).trans y1; have z0 := (hb2.cell (p := ⟨wr.heap.size, 0, none⟩) hl0).trans y0; have hba : Below w2.heap.size w2 (w2.alloc (.cells #[.int .i64 n1, .int .i64 n2, .int .i64 n3, .int .i64 n4] 25)) := (Below.refl _ w2).alloc (Nat.le_refl _) _; have t2 := cell_on hba z2; have t1 := cell_on hba z1; have t0 := cell_on hba z0; have hl2 := alloc_size hb2; have hs2 := HB2.out.size; have HO3 : Hid ((w2.alloc (.cells #[.int .i64 n1, .int .i64 n2, .int .i64 n3, .int .i64 n4] 25)).ownsRow w.heap.size 50 3 (.slice pv qs.length cv) qs.length (cellsP qs)) := HO2.out.alloc _; have HB3 : Hid (Below w.heap.size w (w2.alloc (.cells #[.int .i64 n1, .int .i64 n2, .int .i64 n3, .int .i64 n4] 25))) := HB2.out.alloc HB2.out.size _; clear hb2 hba)
                | (go_at_call 14; refine (CP1.out _).mono ?_; rintro e w4 ⟨rfl, hb4⟩; have HB4 : Hid (Below w.heap.size w w4) := HB3.out.trans (hb4.mono HB3.out.size); have HO4 : Hid (w4.ownsRow w.heap.size 50 3 (.slice pv qs.length cv) qs.length (cellsP qs)) := own_below HO3.out hb4; have q2 := cell_on hb4 t2; have q1 := cell_on hb4 t1; have hs4 := HB4.out.size; have hs24 := hb4.size; rw [World.size_alloc] at hs24; clear hb4)
                | (at_builtin; refine wpList_append_own _ rfl _ _ 23 rfl w.heap.size 50 i0 (.agg #[.int .i64 0, .int .i64 0, .string ⟨#[]⟩]) 3 32 Tryz.underlying23 hi hz0 hz1 hz2 rfl (by decide) _ _ _ rfl (HO4.out.alloc _) ⟨w4.heap.size, 0, none⟩ 1 1 (partCells ⟨K1, 0, []⟩) rfl rfl (cells_newN _ _ (by first | rfl | simp) _ _) (partCells_one _) (by unfold maxLen; omega) (by omega) (by first | omega | (simp; omega)) ?_)
                | fail)
              intro v' w' hown' hg' _
              obtain ⟨p', c', rfl⟩ := own_slice hown'
              have HB5 : Hid (Below w.heap.size w w') := (HB4.out.alloc HB4.out.size _).grown hg' (by simp; omega) fun k hk => (HO4.out.lt k hk).1
              have HO5 : Hid (w'.ownsRow w.heap.size 50 3 (.slice p' (qs.length + 1) c') (qs.length + 1) (cellsP qs ++ partCells ⟨K1, 0, []⟩)) := hown'
              have r2' := grown_cell hg' (by rw [World.size_alloc]; omega) HLT.out (cell_on ((Below.refl _ w4).alloc (Nat.le_refl _) _) q2)
              have r1' := grown_cell hg' (by rw [World.size_alloc]; omega) HLT.out (cell_on ((Below.refl _ w4).alloc (Nat.le_refl _) _) q1)
              have hs5 := HB5.out.size
              clear hown' hg'
              go_wp2_with (first
                | (have _ := HO5; go_at_call 14; refine (CP2.out _).mono ?_; rintro e w6 ⟨rfl, hb6⟩; have HB6 : Hid (Below w.heap.size w w6) := HB5.out.trans (hb6.mono HB5.out.size); have HO6 : Hid (w6.ownsRow w.heap.size 50 3 (.slice p' (qs.length + 1) c') (qs.length + 1) (cellsP qs ++ partCells ⟨K1, 0, []⟩)) := own_below HO5.out hb6; have p2 := cell_on hb6 r2'; have hs6 := HB6.out.size; clear hb6)
                | fail)
              go_roundw
              case rel =>
                refine ⟨k + 1, M - K1, by go_num, by first | rfl | go_num, qs ++ [⟨K1, 0, []⟩], ?_, by first | omega | (simp; omega), small_snoc HQS.out ⟨by show 0 ≤ K1; omega, by show K1 ≤ N; omega, Int.le_refl _, hN0, by simp⟩, by omega, by omega, by omega, by omega, HB6.out⟩
                rw [cellsP_snoc, List.length_append]; exact HO6.out
              case measure => simp [intOf]; omega
            ·
              have hw1 : IntKind.i64.wrap (M - K1) = M - K1 := by rw [IntKind.wrap_i64]; omega
              go_wp2_with (first
                | (go_at_call 33; refine Calls.mono HC.out ?_; rintro e w2 ⟨n1, n2, n3, n4, rfl, hb2⟩; have HB2 : Hid (Below w.heap.size w w2) := HB0.out.trans (hb2.mono HB0.out.size); have HO2 : Hid (w2.ownsRow w.heap.size 50 3 (.slice pv qs.length cv) qs.length (cellsP qs)) := own_below ho0.out hb2; have z2 := (hb2.cell (p := ⟨wr.heap.size, 2, none⟩) hl0).trans y2; have z1 := (hb2.cell (p := ⟨wr.heap.size, 1, none⟩) hl0).trans y1; have z0 := (hb2.cell (p := ⟨wr.heap.size, 0, none⟩) hl0).trans y0; have hba : Below w2.heap.size w2 (w2.alloc (.cells #[.int .i64 n1, .int .i64 n2, .int .i64 n3, .int .i64 n4] 25)) := (Below.refl _ w2).alloc (Nat.le_refl _) _; have t2 := cell_on hba z2; have t1 := cell_on hba z1; have t0 := cell_on hba z0; have hl2 := alloc_size hb2; have hs2 := HB2.out.size; have HO3 : Hid ((w2.alloc (.cells #[.int .i64 n1, .int .i64 n2, .int .i64 n3, .int .i64 n4] 25)).ownsRow w.heap.size 50 3 (.slice pv qs.length cv) qs.length (cellsP qs)) := HO2.out.alloc _; have HB3 : Hid (Below w.heap.size w (w2.alloc (.cells #[.int .i64 n1, .int .i64 n2, .int .i64 n3, .int .i64 n4] 25))) := HB2.out.alloc HB2.out.size _; clear hb2 hba)
                | (go_at_call 14; refine (CP1.out _).mono ?_; rintro e w4 ⟨rfl, hb4⟩; have HB4 : Hid (Below w.heap.size w w4) := HB3.out.trans (hb4.mono HB3.out.size); have HO4 : Hid (w4.ownsRow w.heap.size 50 3 (.slice pv qs.length cv) qs.length (cellsP qs)) := own_below HO3.out hb4; have q2 := cell_on hb4 t2; have q1 := cell_on hb4 t1; have hs4 := HB4.out.size; have hs24 := hb4.size; rw [World.size_alloc] at hs24; clear hb4)
                | (at_builtin; refine wpList_append_own _ rfl _ _ 23 rfl w.heap.size 50 i0 (.agg #[.int .i64 0, .int .i64 0, .string ⟨#[]⟩]) 3 32 Tryz.underlying23 hi hz0 hz1 hz2 rfl (by decide) _ _ _ rfl (HO4.out.alloc _) ⟨w4.heap.size, 0, none⟩ 1 1 (partCells ⟨K1, 0, []⟩) rfl rfl (cells_newN _ _ (by first | rfl | simp) _ _) (partCells_one _) (by unfold maxLen; omega) (by omega) (by first | omega | (simp; omega)) ?_)
                | fail)
              intro v' w' hown' hg' _
              obtain ⟨p', c', rfl⟩ := own_slice hown'
              have HB5 : Hid (Below w.heap.size w w') := (HB4.out.alloc HB4.out.size _).grown hg' (by simp; omega) fun k hk => (HO4.out.lt k hk).1
              have HO5 : Hid (w'.ownsRow w.heap.size 50 3 (.slice p' (qs.length + 1) c') (qs.length + 1) (cellsP qs ++ partCells ⟨K1, 0, []⟩)) := hown'
              have r2' := grown_cell hg' (by rw [World.size_alloc]; omega) HLT.out (cell_on ((Below.refl _ w4).alloc (Nat.le_refl _) _) q2)
              have r1' := grown_cell hg' (by rw [World.size_alloc]; omega) HLT.out (cell_on ((Below.refl _ w4).alloc (Nat.le_refl _) _) q1)
              have hs5 := HB5.out.size
              clear hown' hg'
              go_wp2_with (first
                | (have _ := HO5; go_at_call 14; refine (CP2.out _).mono ?_; rintro e w6 ⟨rfl, hb6⟩; have HB6 : Hid (Below w.heap.size w w6) := HB5.out.trans (hb6.mono HB5.out.size); have HO6 : Hid (w6.ownsRow w.heap.size 50 3 (.slice p' (qs.length + 1) c') (qs.length + 1) (cellsP qs ++ partCells ⟨K1, 0, []⟩)) := own_below HO5.out hb6; have p2 := cell_on hb6 r2'; have hs6 := HB6.out.size; clear hb6)
                | fail)
              go_roundw
              case rel =>
                refine ⟨k + 1, M - K1, by go_num, by first | rfl | go_num, qs ++ [⟨K1, 0, []⟩], ?_, by first | omega | (simp; omega), small_snoc HQS.out ⟨by show 0 ≤ K1; omega, by show K1 ≤ N; omega, Int.le_refl _, hN0, by simp⟩, by omega, by omega, by omega, by omega, HB6.out⟩
                rw [cellsP_snoc, List.length_append]; exact HO6.out
              case measure => simp [intOf]; omega
            ·
              have hw1 : IntKind.i64.wrap (M - K1) = M - K1 := by rw [IntKind.wrap_i64]; omega
              go_wp2_with (first
                | (go_at_call 33; refine Calls.mono HC.out ?_; rintro e w2 ⟨n1, n2, n3, n4, rfl, hb2⟩; have HB2 : Hid (Below w.heap.size w w2) := HB0.out.trans (hb2.mono HB0.out.size); have HO2 : Hid (w2.ownsRow w.heap.size 50 3 (.slice pv qs.length cv) qs.length (cellsP qs)) := own_below ho0.out hb2; have z2 := (hb2.cell (p := ⟨wr.heap.size, 2, none⟩) hl0).trans y2; have z1 := (hb2.cell (p := ⟨wr.heap.size, 1, none⟩) hl0).trans y1; have z0 := (hb2.cell (p := ⟨wr.heap.size, 0, none⟩) hl0).trans y0; have hba : Below w2.heap.size w2 (w2.alloc (.cells #[.int .i64 n1, .int .i64 n2, .int .i64 n3, .int .i64 n4] 25)) := (Below.refl _ w2).alloc (Nat.le_refl _) _; have t2 := cell_on hba z2; have t1 := cell_on hba z1; have t0 := cell_on hba z0; have hl2 := alloc_size hb2; have hs2 := HB2.out.size; have HO3 : Hid ((w2.alloc (.cells #[.int .i64 n1, .int .i64 n2, .int .i64 n3, .int .i64 n4] 25)).ownsRow w.heap.size 50 3 (.slice pv qs.length cv) qs.length (cellsP qs)) := HO2.out.alloc _; have HB3 : Hid (Below w.heap.size w (w2.alloc (.cells #[.int .i64 n1, .int .i64 n2, .int .i64 n3, .int .i64 n4] 25))) := HB2.out.alloc HB2.out.size _; clear hb2 hba)
                | (go_at_call 14; refine (CP1.out _).mono ?_; rintro e w4 ⟨rfl, hb4⟩; have HB4 : Hid (Below w.heap.size w w4) := HB3.out.trans (hb4.mono HB3.out.size); have HO4 : Hid (w4.ownsRow w.heap.size 50 3 (.slice pv qs.length cv) qs.length (cellsP qs)) := own_below HO3.out hb4; have q2 := cell_on hb4 t2; have q1 := cell_on hb4 t1; have hs4 := HB4.out.size; have hs24 := hb4.size; rw [World.size_alloc] at hs24; clear hb4)
                | (at_builtin; refine wpList_append_own _ rfl _ _ 23 rfl w.heap.size 50 i0 (.agg #[.int .i64 0, .int .i64 0, .string ⟨#[]⟩]) 3 32 Tryz.underlying23 hi hz0 hz1 hz2 rfl (by decide) _ _ _ rfl (HO4.out.alloc _) ⟨w4.heap.size, 0, none⟩ 1 1 (partCells ⟨K1, 0, []⟩) rfl rfl (cells_newN _ _ (by first | rfl | simp) _ _) (partCells_one _) (by unfold maxLen; omega) (by omega) (by first | omega | (simp; omega)) ?_)
                | fail)
              intro v' w' hown' hg' _
              obtain ⟨p', c', rfl⟩ := own_slice hown'
              have HB5 : Hid (Below w.heap.size w w') := (HB4.out.alloc HB4.out.size _).grown hg' (by simp; omega) fun k hk => (HO4.out.lt k hk).1
              have HO5 : Hid (w'.ownsRow w.heap.size 50 3 (.slice p' (qs.length + 1) c') (qs.length + 1) (cellsP qs ++ partCells ⟨K1, 0, []⟩)) := hown'
              have r2' := grown_cell hg' (by rw [World.size_alloc]; omega) HLT.out (cell_on ((Below.refl _ w4).alloc (Nat.le_refl _) _) q2)
              have r1' := grown_cell hg' (by rw [World.size_alloc]; omega) HLT.out (cell_on ((Below.refl _ w4).alloc (Nat.le_refl _) _) q1)
              have hs5 := HB5.out.size
              clear hown' hg'
              have hw2 : IntKind.i64.wrap (M - K1 - K2) = M - K1 - K2 := by rw [IntKind.wrap_i64]; omega
              go_wp2_with (first
                | (have _ := HO5; go_at_call 14; refine (CP2.out _).mono ?_; rintro e w6 ⟨rfl, hb6⟩; have HB6 : Hid (Below w.heap.size w w6) := HB5.out.trans (hb6.mono HB5.out.size); have HO6 : Hid (w6.ownsRow w.heap.size 50 3 (.slice p' (qs.length + 1) c') (qs.length + 1) (cellsP qs ++ partCells ⟨K1, 0, []⟩)) := own_below HO5.out hb6; have p2 := cell_on hb6 r2'; have hs6 := HB6.out.size; clear hb6)
                | (have _ := HO6; at_builtin; refine wpList_append_own _ rfl _ _ 23 rfl w.heap.size 50 i0 (.agg #[.int .i64 0, .int .i64 0, .string ⟨#[]⟩]) 3 32 Tryz.underlying23 hi hz0 hz1 hz2 rfl (by decide) _ _ _ rfl (HO6.out.alloc _) ⟨w6.heap.size, 0, none⟩ 1 1 (partCells ⟨0, K2, []⟩) rfl rfl (cells_newN _ _ (by first | rfl | simp) _ _) (partCells_one _) (by unfold maxLen; omega) (by omega) (by first | omega | (simp; omega)) ?_)
                | fail)
              intro v'' w'' hown'' hg'' _
              obtain ⟨p'', c'', rfl⟩ := own_slice hown''
              have HB7 : Hid (Below w.heap.size w w'') := (HB6.out.alloc HB6.out.size _).grown hg'' (by simp; omega) fun k hk => (HO6.out.lt k hk).1
              have HO7 : Hid (w''.ownsRow w.heap.size 50 3 (.slice p'' ((qs.length + 1) + 1) c'') ((qs.length + 1) + 1) (cellsP qs ++ (partCells ⟨K1, 0, []⟩ ++ partCells ⟨0, K2, []⟩))) := hown''
              clear hown'' hg''
              go_wp2
              go_roundw
              case rel =>
                refine ⟨k + 1, M - K1 - K2, by go_num, by first | rfl | go_num, (qs ++ [⟨K1, 0, []⟩]) ++ [⟨0, K2, []⟩], ?_, by first | omega | (simp; omega), small_snoc (small_snoc HQS.out ⟨by show 0 ≤ K1; omega, by show K1 ≤ N; omega, Int.le_refl _, hN0, by simp⟩) ⟨Int.le_refl _, hN0, by show 0 ≤ K2; omega, by show K2 ≤ N; omega, by simp⟩, by omega, by omega, by omega, by omega, HB7.out⟩
                have e1 : cellsP (qs ++ [(⟨K1, 0, []⟩ : Pt)] ++ [(⟨0, K2, []⟩ : Pt)]) = cellsP qs ++ (partCells ⟨K1, 0, []⟩ ++ partCells ⟨0, K2, []⟩) := by rw [cellsP_snoc, cellsP_snoc, List.append_assoc]
                have e2 : (qs ++ [(⟨K1, 0, []⟩ : Pt)] ++ [(⟨0, K2, []⟩ : Pt)]).length = qs.length + 1 + 1 := by simp
                rw [e1, e2]; exact HO7.out
              case measure => simp [intOf]; omega
        · have hUe : U.isEmpty = false := by cases U with | nil => exact absurd rfl hU | cons x U => rfl
          by_cases hsc : (scan U).2 = true
          · have HC : Hid (Calls Tryz.prog 33 #[.string ⟨U.toArray⟩] (wr.alloc (.cells #[.int .i64 K, .int .i64 D, .string ⟨U.toArray⟩] 50)) fun e w' => ∃ n1 n2 n3 n4, e = .returned (.tuple #[.agg #[.int .i64 n1, .int .i64 n2, .int .i64 n3, .int .i64 n4], .nilIface]) ∧ Below (wr.alloc (.cells #[.int .i64 K, .int .i64 D, .string ⟨U.toArray⟩] 50)).heap.size (wr.alloc (.cells #[.int .i64 K, .int .i64 D, .string ⟨U.toArray⟩] 50)) w') := Calls.mono cC fun e w' h => by
              obtain ⟨v, x, rfl, hb, ⟨_, rfl, rfl⟩ | ⟨h0, _⟩⟩ := h
              · exact ⟨_, _, _, _, rfl, hb⟩
              · rw [show (ByteArray.mk U.toArray).data.toList = U from rfl, hsc] at h0; cases h0
            clear cC hsc hU hpk
            go_wp2_with (first
              | (go_at_call 33; refine Calls.mono HC.out ?_; rintro e w2 ⟨n1, n2, n3, n4, rfl, hb2⟩; have HB2 : Hid (Below w.heap.size w w2) := HB0.out.trans (hb2.mono HB0.out.size); have HO2 : Hid (w2.ownsRow w.heap.size 50 3 (.slice pv qs.length cv) qs.length (cellsP qs)) := own_below ho0.out hb2; have z2 := (hb2.cell (p := ⟨wr.heap.size, 2, none⟩) hl0).trans y2; have z1 := (hb2.cell (p := ⟨wr.heap.size, 1, none⟩) hl0).trans y1; have z0 := (hb2.cell (p := ⟨wr.heap.size, 0, none⟩) hl0).trans y0; have hba : Below w2.heap.size w2 (w2.alloc (.cells #[.int .i64 n1, .int .i64 n2, .int .i64 n3, .int .i64 n4] 25)) := (Below.refl _ w2).alloc (Nat.le_refl _) _; have t2 := cell_on hba z2; have t1 := cell_on hba z1; have t0 := cell_on hba z0; have hl2 := alloc_size hb2; have hs2 := HB2.out.size; have HO3 : Hid ((w2.alloc (.cells #[.int .i64 n1, .int .i64 n2, .int .i64 n3, .int .i64 n4] 25)).ownsRow w.heap.size 50 3 (.slice pv qs.length cv) qs.length (cellsP qs)) := HO2.out.alloc _; have HB3 : Hid (Below w.heap.size w (w2.alloc (.cells #[.int .i64 n1, .int .i64 n2, .int .i64 n3, .int .i64 n4] 25))) := HB2.out.alloc HB2.out.size _; clear hb2 hba)
              | (at_builtin; refine wpList_append_own _ rfl _ _ 23 rfl w.heap.size 50 i0 (.agg #[.int .i64 0, .int .i64 0, .string ⟨#[]⟩]) 3 32 Tryz.underlying23 hi hz0 hz1 hz2 rfl (by decide) _ _ _ rfl (HO3.out.alloc _) ⟨w2.heap.size + 1, 0, none⟩ 1 1 (partCells ⟨0, 0, U⟩) rfl rfl (cells_newN _ _ (by first | rfl | simp) _ _) (partCells_one _) (by unfold maxLen; omega) (by omega) (by first | omega | (simp; omega)) ?_)
              | fail)
            intro v' w' hown' hg' _
            obtain ⟨p', c', rfl⟩ := own_slice hown'
            have HBW' : Hid (Below w.heap.size w w') := (HB3.out.alloc HB3.out.size _).grown hg' (by simp; omega) fun k hk => (HO3.out.lt k hk).1
            have HO' : Hid (w'.ownsRow w.heap.size 50 3 (.slice p' (qs.length + 1) c') (qs.length + 1) (cellsP qs ++ partCells ⟨0, 0, U⟩)) := hown'
            clear hown' hg'
            go_wp2
            go_roundw
            case rel =>
              refine ⟨k + 1, M, by go_num, rfl, qs ++ [⟨0, 0, U⟩], ?_, by simp; omega, small_snoc HQS.out ⟨Int.le_refl _, hN0, Int.le_refl _, hN0, by show U.length ≤ 150; omega⟩, hM0, hM1, by omega, by omega, HBW'.out⟩
              rw [cellsP_snoc, List.length_append]; exact HO'.out
            case measure => simp [intOf]; omega
          · have hsc : (scan U).2 = false := Bool.eq_false_iff.2 hsc
            have HC : Hid (Calls Tryz.prog 33 #[.string ⟨U.toArray⟩] (wr.alloc (.cells #[.int .i64 K, .int .i64 D, .string ⟨U.toArray⟩] 50)) fun e w' => ∃ n1 n2 n3 n4 bx, e = .returned (.tuple #[.agg #[.int .i64 n1, .int .i64 n2, .int .i64 n3, .int .i64 n4], .iface 172 (.pointer (some ⟨bx, 0, none⟩))]) ∧ Below (wr.alloc (.cells #[.int .i64 K, .int .i64 D, .string ⟨U.toArray⟩] 50)).heap.size (wr.alloc (.cells #[.int .i64 K, .int .i64 D, .string ⟨U.toArray⟩] 50)) w') := Calls.mono cC fun e w' h => by
              obtain ⟨v, x, rfl, hb, ⟨h0, _⟩ | ⟨_, rfl, bx, rfl, _⟩⟩ := h
              · rw [show (ByteArray.mk U.toArray).data.toList = U from rfl, hsc] at h0; cases h0
              · exact ⟨_, _, _, _, bx, rfl, hb⟩
            clear cC hsc hU
            have hpk2 : (¬ 0 < K2) ∨ (0 < K2 ∧ ¬ K2 ≤ M) ∨ (0 < K2 ∧ K2 ≤ M) := by omega
            rcases hpk with hp | ⟨hp, hp'⟩ | ⟨hp, hp'⟩ <;> rcases hpk2 with hr | ⟨hr, hr'⟩ | ⟨hr, hr'⟩ <;>
            · go_wp2_with (first
                | (go_at_call 33; refine Calls.mono HC.out ?_; rintro e w2 ⟨n1, n2, n3, n4, bx, rfl, hb2⟩; have HB2 : Hid (Below w.heap.size w w2) := HB0.out.trans (hb2.mono HB0.out.size); have HO2 : Hid (w2.ownsRow w.heap.size 50 3 (.slice pv qs.length cv) qs.length (cellsP qs)) := own_below ho0.out hb2; have z2 := (hb2.cell (p := ⟨wr.heap.size, 2, none⟩) hl0).trans y2; have z1 := (hb2.cell (p := ⟨wr.heap.size, 1, none⟩) hl0).trans y1; have z0 := (hb2.cell (p := ⟨wr.heap.size, 0, none⟩) hl0).trans y0; have hba : Below w2.heap.size w2 (w2.alloc (.cells #[.int .i64 n1, .int .i64 n2, .int .i64 n3, .int .i64 n4] 25)) := (Below.refl _ w2).alloc (Nat.le_refl _) _; have t2 := cell_on hba z2; have t1 := cell_on hba z1; have t0 := cell_on hba z0; have hl2 := alloc_size hb2; have hs2 := HB2.out.size; have HO3 : Hid ((w2.alloc (.cells #[.int .i64 n1, .int .i64 n2, .int .i64 n3, .int .i64 n4] 25)).ownsRow w.heap.size 50 3 (.slice pv qs.length cv) qs.length (cellsP qs)) := HO2.out.alloc _; have HB3 : Hid (Below w.heap.size w (w2.alloc (.cells #[.int .i64 n1, .int .i64 n2, .int .i64 n3, .int .i64 n4] 25))) := HB2.out.alloc HB2.out.size _; clear hb2 hba)
                | (have _ := HO4; go_at_call 14; refine (CP2.out _).mono ?_; rintro e w6 ⟨rfl, hb6⟩; have HB6 : Hid (Below w.heap.size w w6) := HB4.out.trans (hb6.mono HB4.out.size); have HO6 : Hid (w6.ownsRow w.heap.size 50 3 (.slice pv qs.length cv) qs.length (cellsP qs)) := own_below HO4.out hb6; have p2 := cell_on hb6 q2; have hs6 := HB6.out.size; clear hb6)
                | (go_at_call 14; refine (CP1.out _).mono ?_; rintro e w4 ⟨rfl, hb4⟩; have HB4 : Hid (Below w.heap.size w w4) := HB3.out.trans (hb4.mono HB3.out.size); have HO4 : Hid (w4.ownsRow w.heap.size 50 3 (.slice pv qs.length cv) qs.length (cellsP qs)) := own_below HO3.out hb4; have q2 := cell_on hb4 t2; have q1 := cell_on hb4 t1; have hs4 := HB4.out.size; have hs24 := hb4.size; rw [World.size_alloc] at hs24; clear hb4)
                | fail)
              go_roundw
              case rel => exact ⟨k + 1, M, by go_num, rfl, qs, HO6.out, by omega, HQS.out, hM0, hM1, by omega, by omega, HB6.out⟩
              case measure => simp [intOf]; omega
    · have hexit : k = n ∨ (k < n ∧ k = 30) := by omega
      have hql61 : qs.length ≤ 60 := by omega
      by_cases hMp : 0 < M
      · rcases hexit with rfl | ⟨h1, rfl⟩
        · have hex : ¬ (k : Int) < (k : Int) := by omega
          go_wp2_with (first
            | (at_builtin; refine wpList_append_own _ rfl _ _ 23 rfl w.heap.size 50 i0 (.agg #[.int .i64 0, .int .i64 0, .string ⟨#[]⟩]) 3 32 Tryz.underlying23 hi hz0 hz1 hz2 rfl (by decide) _ _ _ rfl (HOW.out.alloc _) ⟨wr.heap.size, 0, none⟩ 1 1 (partCells ⟨M, 0, []⟩) rfl rfl (cells_newN _ _ (by first | rfl | simp) _ _) (partCells_one _) (by unfold maxLen; omega) (by omega) (by first | omega | (simp; omega)) ?_)
            | fail)
          intro v' w' hown' hg' _
          obtain ⟨p', c', rfl⟩ := own_slice hown'
          have HBW' : Hid (Below w.heap.size w w') := (HWR.out.alloc HWR.out.size _).grown hg' (by simp; omega) fun k hk => (HOW.out.lt k hk).1
          have HO' : Hid (w'.ownsRow w.heap.size 50 3 (.slice p' (qs.length + 1) c') (qs.length + 1) (cellsP qs ++ partCells ⟨M, 0, []⟩)) := hown'
          clear hown' hg'
          go_wp2
          go_ret
          refine ⟨_, qs ++ [⟨M, 0, []⟩], rfl, ?_, by simp; omega, small_snoc HQS.out ⟨hM0, hM1, Int.le_refl _, hN0, by simp⟩, HBW'.out⟩
          rw [cellsP_snoc, List.length_append]; exact HO'.out
        · have hex : (30 : Int) < (n : Int) := by omega
          go_wp2_with (first
            | (at_builtin; refine wpList_append_own _ rfl _ _ 23 rfl w.heap.size 50 i0 (.agg #[.int .i64 0, .int .i64 0, .string ⟨#[]⟩]) 3 32 Tryz.underlying23 hi hz0 hz1 hz2 rfl (by decide) _ _ _ rfl (HOW.out.alloc _) ⟨wr.heap.size, 0, none⟩ 1 1 (partCells ⟨M, 0, []⟩) rfl rfl (cells_newN _ _ (by first | rfl | simp) _ _) (partCells_one _) (by unfold maxLen; omega) (by omega) (by first | omega | (simp; omega)) ?_)
            | fail)
          intro v' w' hown' hg' _
          obtain ⟨p', c', rfl⟩ := own_slice hown'
          have HBW' : Hid (Below w.heap.size w w') := (HWR.out.alloc HWR.out.size _).grown hg' (by simp; omega) fun k hk => (HOW.out.lt k hk).1
          have HO' : Hid (w'.ownsRow w.heap.size 50 3 (.slice p' (qs.length + 1) c') (qs.length + 1) (cellsP qs ++ partCells ⟨M, 0, []⟩)) := hown'
          clear hown' hg'
          go_wp2
          go_ret
          refine ⟨_, qs ++ [⟨M, 0, []⟩], rfl, ?_, by simp; omega, small_snoc HQS.out ⟨hM0, hM1, Int.le_refl _, hN0, by simp⟩, HBW'.out⟩
          rw [cellsP_snoc, List.length_append]; exact HO'.out
      · rcases hexit with rfl | ⟨h1, rfl⟩
        · have hex : ¬ (k : Int) < (k : Int) := by omega
          go_wp2
          go_ret
          first | exact ⟨_, qs, rfl, HOW.out, by omega, HQS.out, HWR.out⟩ | exact ⟨_, rfl, qs, HOW.out, by omega, HQS.out, HWR.out⟩
        · have hex : (30 : Int) < (n : Int) := by omega
          go_wp2
          go_ret
          first | exact ⟨_, qs, rfl, HOW.out, by omega, HQS.out, HWR.out⟩ | exact ⟨_, rfl, qs, HOW.out, by omega, HQS.out, HWR.out⟩
end Go.Proofs.YtedonckeomccpabGreatDoor

namespace Go.Proofs
open Go.Shelf
def Tryz.laysM316_ren : Go.Shelf.Ren := ⟨fun | 316 => 109 | n => n, fun | 9 => 9 | 3 => 3 | 4 => 4 | 37 => 87 | 0 => 0 | 127 => 171 | 5 => 5 | n => n, fun | n => n⟩
theorem Tryz.laysM316 : Go.Proofs.LaysM.n316 Tryz.prog Tryz.laysM316_ren := {
  mixed := by kernel_rfl
  f316 := Tryz.func109.trans (congrArg some (by kernel_rfl))
  t0 := Tryz.underlying0
  a0 := Tryz.isAgg0
  z0 := Tryz.sizeOf0
  v0 := Tryz.zeroValue0
  t3 := Tryz.underlying3
  a3 := Tryz.isAgg3
  z3 := Tryz.sizeOf3
  v3 := Tryz.zeroValue3
  t4 := Tryz.underlying4
  a4 := Tryz.isAgg4
  z4 := Tryz.sizeOf4
  v4 := Tryz.zeroValue4
  t9 := Tryz.underlying9
  a9 := Tryz.isAgg9
  z9 := Tryz.sizeOf9
  v9 := Tryz.zeroValue9
  t37 := Tryz.underlying87
  a37 := Tryz.isAgg87
  z37 := Tryz.sizeOf87
  v37 := Tryz.zeroValue87
  t127 := Tryz.underlying171
  a127 := Tryz.isAgg171
  z127 := Tryz.sizeOf171
  v127 := Tryz.zeroValue171
  t5 := Tryz.underlying5
  a5 := Tryz.isAgg5
  z5 := Tryz.sizeOf5
  v5 := Tryz.zeroValue5
  i0 := by kernel_rfl
  i3 := by kernel_rfl
  i4 := by kernel_rfl
  i5 := by kernel_rfl
  i9 := by kernel_rfl
  i37 := by kernel_rfl
  i127 := by kernel_rfl }
open Go.RowKit in
theorem Tryz.stringslite_Clone (s : ByteArray) (w : World) (hlim : s.size ≤ 281474976710656) :
    Calls Tryz.prog 109 #[.string s] w fun e w' => e = .returned (.string s) ∧ Below w.heap.size w w' := Any.stringslite_Clone Tryz.laysM316 s w hlim
end Go.Proofs

namespace Go.Proofs.YtedonckeomccpabGreatDoor
open Go.RowKit
set_option linter.unusedVariables false
attribute [local go_sem] Oper.semAt_some

/-- A part in bytes, over the runes that are yet to come. -/
def byt1 (rs : List Nat) (q : Pt) : Pt := if 0 < q.keep then ⟨C1 (rs.take (lenP q).toNat), 0, []⟩ else if 0 < q.drop then ⟨0, C1 (rs.take (lenP q).toNat), []⟩ else ⟨0, 0, q.put⟩
def bytQ : List Nat → List Pt → List Pt
  | _, [] => []
  | rs, q :: qs => byt1 rs q :: bytQ (rs.drop (lenP q).toNat) qs
theorem bytQ_len : ∀ (qs : List Pt) (rs : List Nat), (bytQ rs qs).length = qs.length
  | [], _ => rfl
  | q :: qs, rs => by simp [bytQ, bytQ_len qs]
theorem bytQ_take : ∀ (qs : List Pt) (rs : List Nat) (k : Nat) (hk : k < qs.length), (∀ q ∈ qs, 0 ≤ lenP q) → (bytQ rs qs).take (k + 1) = (bytQ rs qs).take k ++ [byt1 (rs.drop (longP (qs.take k)).toNat) qs[k]]
  | [], rs, k, hk, _ => by simp at hk
  | q :: qs, rs, 0, hk, _ => by simp [bytQ, longP]
  | q :: qs, rs, k + 1, hk, h => by
    have h1 := h q (by simp)
    have h2 : ∀ (l : List Pt), (∀ q ∈ l, 0 ≤ lenP q) → 0 ≤ longP l := by
      intro l hl
      induction l with
      | nil => simp [longP]
      | cons p l ih =>
        have := hl p (by simp)
        have := ih fun x hx => hl x (by simp [hx])
        simp only [longP, List.map_cons, List.sum_cons] at this ⊢
        omega
    have h3 := h2 (qs.take k) fun x hx => h x (by simp [List.mem_of_mem_take hx])
    have ih := bytQ_take qs (rs.drop (lenP q).toNat) k (by simpa using hk) fun x hx => h x (by simp [hx])
    have e : longP ((q :: qs).take (k + 1)) = lenP q + longP (qs.take k) := by simp [longP]
    rw [e, bytQ, List.take_succ_cons, List.take_succ_cons, ih, List.drop_drop, show (lenP q + longP (qs.take k)).toNat = (lenP q).toNat + (longP (qs.take k)).toNat by omega]
    simp

theorem clone_any (u : List UInt8) (hu : u.length ≤ 10000000) (w : World) : Calls Tryz.prog 79 #[.string ⟨u.toArray⟩] w fun e w' => e = .returned (.string ⟨u.toArray⟩) ∧ Below w.heap.size w w' := by
  have c := Tryz.stringslite_Clone ⟨u.toArray⟩ w (by simp [ByteArray.size]; omega)
  have C : Hid _ := c
  clear c
  go_enter Tryz.func79, Tryz.ntmps79
  go_wp2_with (first | (go_at_call 109; refine Calls.mono C.out ?_; rintro e w1 ⟨rfl, hb1⟩) | fail)
  go_ret
  exact ⟨rfl, hb1⟩

theorem sum_pos {l : List Pt} (hl : ∀ q ∈ l, 0 ≤ lenP q) : 0 ≤ longP l := by
  induction l with
  | nil => simp [longP]
  | cons p l ih =>
    have := hl p (by simp)
    have := ih fun x hx => hl x (by simp [hx])
    simp only [longP, List.map_cons, List.sum_cons] at this ⊢
    omega
theorem chk2_long : ∀ {ps : List Pt} {N : Int}, (∀ q ∈ ps, 0 ≤ lenP q) → chk2 ps N = 0 → longP ps = N
  | [], N, _, h => by
    unfold chk2 at h
    split at h
    · rename_i e; simp [longP, e]
    · cases h
  | p :: ps, N, hl, h => by
    unfold chk2 at h
    split at h
    · cases h
    · have := chk2_long (fun q hq => hl q (by simp [hq])) h
      have e : longP (p :: ps) = lenP p + longP ps := by simp [longP]
      rw [e, this]; unfold lenP; omega
theorem chkE_parts {ps : List Pt} {N : Int} (h : chkE ps N = 0) : (∀ p ∈ ps, oneB p = true ∧ (scan p.put).2 = true) ∧ longP ps = N ∧ ∀ q ∈ ps, 0 ≤ lenP q := by
  unfold chkE at h
  split at h
  · rename_i h1
    have h2 := chk1_ones h1
    have h3 : ∀ q ∈ ps, 0 ≤ lenP q := fun q hq => by
      have := (one_sound (h2 q hq).1).1
      unfold soundP at this; unfold lenP; omega
    exact ⟨h2, chk2_long h3 h, h3⟩
  · rename_i h1; exact absurd h h1
theorem C1_take_drop (rs : List Nat) (i j : Nat) : C1 (rs.take (i + j)) = C1 (rs.take i) + C1 ((rs.drop i).take j) := by
  rw [List.take_add, C1_append]
theorem C1_take_le (rs : List Nat) (i : Nat) : C1 (rs.take i) ≤ C1 rs := by
  have e : C1 rs = C1 (rs.take i) + C1 (rs.drop i) := by rw [← C1_append, List.take_append_drop]
  have := C1_pos (rs.drop i)
  omega

theorem stp_grown {W W' : World} {s b : Nat} {u v a h : Int} {row : Option Nat} (k : stp W s b u v a h) (hg : W.grownBy W' row) (hr : ∀ j, row = some j → s + 5 ≤ j) : stp W' s b u v a h := by
  have l0 := World.block_lt_of_cell? W _ k.r
  have l1 := World.block_lt_of_cell? W _ k.u
  have l2 := World.block_lt_of_cell? W _ k.v
  have l3 := World.block_lt_of_cell? W _ k.a
  have l4 := World.block_lt_of_cell? W _ k.h
  have nb : ∀ j, j < s + 5 → some j ≠ row := fun j hj e => by have := hr j e.symm; omega
  have e0 := hg.block s l0 (nb s (by omega))
  have e1 := hg.block (s + 1) l1 (nb (s + 1) (by omega))
  have e2 := hg.block (s + 2) l2 (nb (s + 2) (by omega))
  have e3 := hg.block (s + 3) l3 (nb (s + 3) (by omega))
  have e4 := hg.block (s + 4) l4 (nb (s + 4) (by omega))
  exact ⟨(cellOn e0 0).trans k.r, (cellOn e1 0).trans k.u, (cellOn e2 0).trans k.v, (cellOn e3 0).trans k.a, (frozenOn e3 0).trans k.af, (cellOn e4 0).trans k.h, (frozenOn e4 0).trans k.hf⟩
theorem sz_le {w w2 : World} {o : Obj} (h : (w.alloc o).heap.size ≤ w2.heap.size) : w.heap.size + 1 ≤ w2.heap.size := by
  rw [World.size_alloc] at h
  exact h
theorem oneB_shapes {q : Pt} (h : oneB q = true) : (0 < q.keep ∧ q.drop = 0 ∧ q.put = []) ∨ (q.keep = 0 ∧ 0 < q.drop ∧ q.put = []) ∨ (q.keep = 0 ∧ q.drop = 0 ∧ q.put ≠ []) := by
  unfold oneB at h
  split at h
  · rename_i h1; exact .inl ⟨of_decide_eq_true h, h1.1, h1.2⟩
  · split at h
    · rename_i h1 h2; exact .inr (.inl ⟨h2.1, of_decide_eq_true h, h2.2⟩)
    · rename_i h1 h2
      have h3 := of_decide_eq_true h
      exact .inr (.inr ⟨h3.1, h3.2, fun e => h1 ⟨h3.2, e⟩⟩)
/-- Where the loop stands. -/
def brI (ws : World) (b : Nat) (rs : List Nat) (qs : List Pt) (k : Nat) (v : Value) (wr : World) : Prop :=
  k ≤ qs.length ∧ wr.ownsRow (ws.heap.size + 5) 50 3 v k (cellsP ((bytQ rs qs).take k)) ∧ stp wr ws.heap.size b 3 1 (longP (qs.take k)) (C1 (rs.take (longP (qs.take k)).toNat)) ∧ Below ws.heap.size ws wr ∧ ws.heap.size + 5 ≤ wr.heap.size

set_option maxRecDepth 100000 in
set_option maxHeartbeats 8000000 in
theorem turn_fine (b : Nat) (rs : List Nat) (qs : List Pt) (v : Value) (w : World) (hT : Lib.Utf8Tabs 2 3 w) (hR : isRope w b rs) (hr : opAt w v qs) (hwf : ∀ q ∈ qs, wfP q) (hl : qs.length ≤ 1000) (hpl : ∀ q ∈ qs, q.put.length ≤ 10000000) (hz : C1 rs ≤ 1000000) (hc : chkE qs (rs.length : Int) = 0) (hbw : b < w.heap.size) :
    Calls Tryz.prog 38 #[.pointer (some ⟨b, 0, none⟩), .int .i64 3, .int .i64 1, v] w fun e w' => ∃ v', e = .returned (.tuple #[v', .nilIface]) ∧ opAt w' v' (bytQ rs qs) ∧ Below w.heap.size w w' := by
  obtain ⟨hp1, hp2, hp3⟩ := chkE_parts hc
  have hrl : (rs.length : Int) ≤ C1 rs := by have := C3_le rs; unfold C3 at this; omega
  have cV : Hid (Calls Tryz.prog 77 #[.pointer (some ⟨b, 0, none⟩), .int .i64 3, .int .i64 1, .int .i64 0] w fun e w' => e = .returned (.tuple #[.int .i64 0, .nilIface]) ∧ Below w.heap.size w w') := by
    have := convert_any b rs 3 1 0 (.inr (.inr rfl)) (.inl rfl) (Int.le_refl _) (by_pos 3 rs) w hT hR (by omega) [] (find_zero 3 rs) (by_nil 3)
    rw [by_nil] at this
    exact this
  have cN : Hid (∀ wx, Below w.heap.size w wx → Calls Tryz.prog 18 #[.pointer (some ⟨b, 0, none⟩)] wx fun e w' => e = .returned (cntV rs) ∧ Below wx.heap.size wx w') := fun wx hb => ropecounts_any b rs wx (isRope_below hR hb)
  have cI : Hid (∀ wx, Calls Tryz.prog 17 #[cntV rs, .int .i64 3] wx fun e w' => e = .returned (.int .i64 (rs.length : Int)) ∧ Below wx.heap.size wx w') := fun wx => In_any 3 rs wx
  have cK : Hid (∀ wx, Below w.heap.size w wx → Calls Tryz.prog 42 #[v, .int .i64 (rs.length : Int)] wx fun e w' => e = .returned .nilIface ∧ Below wx.heap.size wx w') := fun wx hb => by
    have := Check_any v qs (rs.length : Int) wx (Go.Proofs.Utf8Tabs_below hT hb) (opAt_below hr hb (Nat.le_refl _)) hwf (by omega) (by omega)
    rw [hc] at this
    exact this
  have cS : Hid (∀ wx, Calls Tryz.prog 78 #[.pointer (some ⟨b, 0, none⟩), .int .i64 3, .int .i64 1] wx fun e w' => e = .returned (stepsV wx.heap.size) ∧ stp w' wx.heap.size b 3 1 0 0 ∧ Below wx.heap.size wx w' ∧ w'.heap.size = wx.heap.size + 5) := fun wx => bsteps_any b 3 1 wx
  have HRW : Hid (isRope w b rs) := hR
  have HTW : Hid (Lib.Utf8Tabs 2 3 w) := hT
  have HOP : Hid (opAt w v qs) := hr
  have HP1 : Hid (∀ p ∈ qs, oneB p = true ∧ (scan p.put).2 = true) := hp1
  have HP2 : Hid (longP qs = rs.length) := hp2
  have HP3 : Hid (∀ q ∈ qs, 0 ≤ lenP q) := hp3
  have HPL : Hid (∀ q ∈ qs, q.put.length ≤ 10000000) := hpl
  obtain ⟨p, c, rfl, r1, r2, r3⟩ := hr
  obtain ⟨n, hn⟩ : ∃ n, qs.length = n := ⟨_, rfl⟩
  have HN : Hid (qs.length = n) := hn
  rw [hn] at r1 hl cK ⊢
  obtain ⟨i0, hi, hz0, hz1, hz2⟩ := info_parts info_part
  obtain ⟨RL, hRL⟩ : ∃ RL : Int, (rs.length : Int) = RL := ⟨_, rfl⟩
  rw [hRL] at cI cK hrl
  have HRL : Hid ((rs.length : Int) = RL) := hRL
  unfold cntV at cN cI
  unfold stepsV at cS
  clear hT hR hwf hp1 hp2 hp3 hpl hc hn r3 hRL
  unfold maxLen at r2
  go_enter Tryz.func38, Tryz.ntmps38
  go_wp2_with (first
    | (go_at_call 77; refine Calls.mono cV.out ?_; rintro e w1 ⟨rfl, hb1⟩; have HB1 : Hid (Below w.heap.size w w1) := hb1; clear hb1)
    | (go_at_call 18; refine (cN.out _ HB1.out).mono ?_; rintro e w2 ⟨rfl, hb2⟩; have HB2 : Hid (Below w.heap.size w w2) := HB1.out.trans (hb2.mono HB1.out.size); clear hb2)
    | (go_at_call 17; refine (cI.out _).mono ?_; rintro e w3 ⟨rfl, hb3⟩; have HB3 : Hid (Below w.heap.size w w3) := HB2.out.trans (hb3.mono HB2.out.size); clear hb3)
    | (go_at_call 42; refine (cK.out _ HB3.out).mono ?_; rintro e w4 ⟨rfl, hb4⟩; have HB4 : Hid (Below w.heap.size w w4) := HB3.out.trans (hb4.mono HB3.out.size); clear hb4)
    | (go_at_call 78; refine (cS.out _).mono ?_; rintro e w5 ⟨rfl, hs5, hb5, hz5⟩; have HB5 : Hid (Below w4.heap.size w4 w5) := hb5; have HS5 : Hid (stp w5 w4.heap.size b 3 1 0 0) := hs5; clear hs5 hb5)
    | (at_make; refine wpList_make_own _ rfl _ _ 23 rfl (w4.heap.size + 5) 50 i0 (.agg #[.int .i64 0, .int .i64 0, .string ⟨#[]⟩]) 3 Tryz.underlying23 hi hz0 hz1 .i64 .i64 n n rfl rfl rfl (by rw [hz2]; omega) (by unfold maxLen; omega) (by omega) ?_)
    | fail)
  intro w6 hown6 hg6
  have HO6 : Hid (w6.ownsRow (w4.heap.size + 5) 50 3 (.slice (some ⟨w4.heap.size + 5, 0, none⟩) 0 n) 0 []) := hown6
  have HB6 : Hid (Below w4.heap.size w4 w6) := HB5.out.grown hg6 HB5.out.size fun k hk => by cases hk
  have HS6 : Hid (stp w6 w4.heap.size b 3 1 0 0) := stp_grown HS5.out hg6 fun k hk => by cases hk
  have hs6 := hg6.size
  rw [hz5] at hs6
  clear hown6 hg6 cV cN cI cK cS HB1 HB2 HB3 HB5 HS5
  go_wp2
  go_loopw [14, 47] (fun v14 i wr => ∃ (k : Nat), i = .int .i64 k ∧ brI w4 b rs qs k v14 wr) (fun _ i _ => n - (intOf i).toNat)
  case atStart =>
    refine ⟨0, rfl, Nat.zero_le _, by rw [List.take_zero]; exact HO6.out, ?_, HB6.out, hs6⟩
    have e1 : longP (qs.take 0) = 0 := by simp [longP]
    have e2 : C1 (rs.take (0 : Int).toNat) = 0 := rfl
    rw [e1, e2]
    exact HS6.out
  case round =>
    obtain ⟨k, rfl, hk, hown, hst, hbw', hsz0⟩ := hrel
    obtain ⟨pv, cv, rfl⟩ := own_slice hown
    clear HO6 HB6 HS6
    by_cases hlt : k < n
    · have hkr : k < qs.length := by rw [HN.out]; exact hlt
      have hne : qs ≠ [] := by intro e; rw [e] at hkr; exact absurd hkr (Nat.not_lt_zero _)
      have HBW0 : Hid (Below w.heap.size w wr) := HB4.out.trans (hbw'.mono HB4.out.size)
      obtain ⟨p0, c0, hv, _, _, hcell⟩ := HOP.out
      obtain ⟨b0, o, rfl, hb0, hcell⟩ := hcell hne
      obtain ⟨f0, f1, f2⟩ := hcell k qs[k] (List.getElem?_eq_getElem hkr)
      have g0 := (HBW0.out.cell (p := ⟨b0, o + k * 3, none⟩) hb0).trans f0
      have g1 := (HBW0.out.cell (p := ⟨b0, o + k * 3 + 1, none⟩) hb0).trans f1
      have g2 := (HBW0.out.cell (p := ⟨b0, o + k * 3 + 2, none⟩) hb0).trans f2
      obtain rfl : p = some ⟨b0, o, none⟩ := by injection hv
      clear hv hcell f0 f1 f2 hne
      have hqm : qs[k] ∈ qs := List.getElem_mem _
      have hsnd := (one_sound (HP1.out _ hqm).1).1
      have hplq := HPL.out _ hqm
      have hts : qs.take (k + 1) = qs.take k ++ [qs[k]] := List.take_succ_eq_append_getElem hkr
      have hA1' : longP (qs.take (k + 1)) = longP (qs.take k) + lenP qs[k] := by rw [hts, long_append]; simp [longP]
      have hA0 : 0 ≤ longP (qs.take k) := sum_pos fun q hq => HP3.out q (List.mem_of_mem_take hq)
      have hAN : longP (qs.take (k + 1)) ≤ RL := by
        have e2 : longP qs = longP (qs.take (k + 1)) + longP (qs.drop (k + 1)) := by rw [← long_append, List.take_append_drop]
        have := sum_pos fun q hq => HP3.out q (List.mem_of_mem_drop (i := k + 1) hq)
        have := HP2.out; have := HRL.out
        omega
      have htk := bytQ_take qs rs k hkr HP3.out
      generalize qs[k] = q at *
      obtain ⟨K, D, U⟩ := q
      obtain ⟨A, hA⟩ : ∃ A, longP (qs.take k) = A := ⟨_, rfl⟩
      rw [hA] at hst hA1' hA0 htk
      have hld : lenP ⟨K, D, U⟩ = K + D := rfl
      rw [hld] at hA1'
      obtain ⟨L, hL⟩ : ∃ L, (bytQ rs qs).take k = L := ⟨_, rfl⟩
      rw [hL] at hown htk
      have HTK : Hid ((bytQ rs qs).take (k + 1) = L ++ [byt1 (rs.drop A.toNat) ⟨K, D, U⟩]) := htk
      have HOW : Hid ((wr.alloc (.cells #[.int .i64 K, .int .i64 D, .string ⟨U.toArray⟩] 50)).ownsRow (w4.heap.size + 5) 50 3 (.slice pv k cv) k (cellsP L)) := hown.alloc _
      have HBW : Hid (Below w4.heap.size w4 (wr.alloc (.cells #[.int .i64 K, .int .i64 D, .string ⟨U.toArray⟩] 50))) := hbw'.alloc hbw'.size _
      obtain ⟨s1, s2⟩ := hsnd
      have s1 : 0 ≤ K := s1
      have s2 : 0 ≤ D := s2
      obtain ⟨X, hX⟩ : ∃ X, rs.take (A + (K + D)).toNat = X := ⟨_, rfl⟩
      have hfind : find (reachesBy 3 (A + (K + D))) [] rs = X := by
        have := find_runes rs [] (A + (K + D)) (by simp; omega) (by have := HRL.out; simp; omega)
        rw [this, ← hX]; simp
      have hX3 : by_ 3 X = A + (K + D) := by
        show ((X.length : Nat) : Int) = _
        rw [← hX, List.length_take]; have := HRL.out; omega
      have hXle : C1 X ≤ C1 rs := by rw [← hX]; exact C1_take_le _ _
      have hsum : C1 X = C1 (rs.take A.toNat) + C1 ((rs.drop A.toNat).take (K + D).toNat) := by
        rw [← hX, show (A + (K + D)).toNat = A.toNat + (K + D).toNat by omega, C1_take_drop]
      have hp0 := C1_pos (rs.take A.toNat)
      have hp1 := C1_pos ((rs.drop A.toNat).take (K + D).toNat)
      have hw0 : IntKind.i64.wrap (K + D) = K + D := by rw [IntKind.wrap_i64]; omega
      have hbx : Below wr.heap.size wr (wr.alloc (.cells #[.int .i64 K, .int .i64 D, .string ⟨U.toArray⟩] 50)) := (Below.refl _ _).alloc (Nat.le_refl _) _
      have cX := steps1_any w4.heap.size b rs X 3 1 A (C1 (rs.take A.toNat)) (K + D) _ (hst.below hbx) (.inr (.inr rfl)) (.inl rfl) (by omega) (by show _ ≤ ((rs.length : Nat) : Int); have := HRL.out; omega) hfind hX3
        (Go.Proofs.Utf8Tabs_below HTW.out (HB4.out.trans (HBW.out.mono HB4.out.size))) (isRope_below HRW.out (HB4.out.trans (HBW.out.mono HB4.out.size))) (by have := HB4.out.size; omega) (by omega) hp0 (by show _ ≤ C1 X; omega) (by show C1 X ≤ _; omega) (by show ((rs.length : Nat) : Int) ≤ _; have := HRL.out; omega)
        (fun W' hW' => ⟨Go.Proofs.Utf8Tabs_below HTW.out (HB4.out.trans ((HBW.out.trans hW').mono HB4.out.size)), isRope_below HRW.out (HB4.out.trans ((HBW.out.trans hW').mono HB4.out.size))⟩)
      have hdiff : by_ 1 X - C1 (rs.take A.toNat) = C1 ((rs.drop A.toNat).take (K + D).toNat) := by show C1 X - _ = _; omega
      have hby1 : by_ 1 X = C1 X := rfl
      rw [hdiff, hby1] at cX
      have CX : Hid _ := cX
      have HA1 : Hid (longP (qs.take (k + 1)) = A + (K + D)) := hA1'
      have HX1 : Hid (C1 (rs.take (A + (K + D)).toNat) = C1 X) := by show C1 _ = _; rw [hX]
      have x0 : (wr.alloc (.cells #[.int .i64 K, .int .i64 D, .string ⟨U.toArray⟩] 50)).cell? ⟨wr.heap.size, 0, none⟩ = some (.int .i64 K) := by simp [go_sem]
      have x1 : (wr.alloc (.cells #[.int .i64 K, .int .i64 D, .string ⟨U.toArray⟩] 50)).cell? ⟨wr.heap.size, 1, none⟩ = some (.int .i64 D) := by simp [go_sem]
      have x2 : (wr.alloc (.cells #[.int .i64 K, .int .i64 D, .string ⟨U.toArray⟩] 50)).cell? ⟨wr.heap.size, 2, none⟩ = some (.string ⟨U.toArray⟩) := by simp [go_sem]
      have hne3 : wr.heap.size ≠ w4.heap.size + 3 := by omega
      have hne4 : wr.heap.size ≠ w4.heap.size + 4 := by omega
      have hltw : wr.heap.size < (wr.alloc (.cells #[.int .i64 K, .int .i64 D, .string ⟨U.toArray⟩] 50)).heap.size := by simp
      have hsz0 : w4.heap.size + 5 ≤ (wr.alloc (.cells #[.int .i64 K, .int .i64 D, .string ⟨U.toArray⟩] 50)).heap.size := by rw [World.size_alloc]; omega
      have hj : (k : Int) < (n : Int) := by omega
      obtain ⟨M, hM⟩ : ∃ M, C1 ((rs.drop A.toNat).take (K + D).toNat) = M := ⟨_, rfl⟩
      rw [hM] at CX hp1
      have HM : Hid (C1 ((rs.drop A.toNat).take (K + D).toNat) = M) := hM
      clear hown hst hbw' hX hfind hX3 hXle hsum hdiff hby1 cX hA1' htk hL hA hM hbx hAN hts hqm hkr hp0
      by_cases hK : 0 < K
      · have e1 : byt1 (rs.drop A.toNat) ⟨K, D, U⟩ = ⟨M, 0, []⟩ := by unfold byt1; rw [if_pos hK]; show (⟨C1 _, 0, []⟩ : Pt) = _; rw [← HM.out]; rfl
        rw [e1] at HTK
        go_wp2_with (first
          | (go_at_call 108; refine Calls.mono CX.out ?_; rintro e w7 ⟨rfl, hs7, hb7, hz7, ho7, hk7⟩; have HS7 : Hid (stp w7 w4.heap.size b 3 1 (A + (K + D)) (C1 X)) := hs7; have HB7 : Hid (Below w4.heap.size w4 w7) := HBW.out.trans hb7; have HO7 : Hid (w7.ownsRow (w4.heap.size + 5) 50 3 (.slice pv k cv) k (cellsP L)) := ho7 _ _ _ _ _ _ (Nat.le_refl _) hsz0 HOW.out; have y0 := (cellOnF (hk7 wr.heap.size hne3 hne4 hltw) 0).trans x0; have y1 := (cellOnF (hk7 wr.heap.size hne3 hne4 hltw) 1).trans x1; have y2 := (cellOnF (hk7 wr.heap.size hne3 hne4 hltw) 2).trans x2; have hs57 := sz_le hz7; clear hs7 hb7 ho7 hk7)
          | (at_builtin; refine wpList_append_own _ rfl _ _ 23 rfl (w4.heap.size + 5) 50 i0 (.agg #[.int .i64 0, .int .i64 0, .string ⟨#[]⟩]) 3 32 Tryz.underlying23 hi hz0 hz1 hz2 rfl (by decide) _ _ _ rfl (HO7.out.alloc _) ⟨w7.heap.size, 0, none⟩ 1 1 (partCells ⟨M, 0, []⟩) rfl rfl (cells_newN _ _ (by first | rfl | simp) _ _) (partCells_one _) (by unfold maxLen; omega) (by omega) (by first | omega | (simp; omega)) ?_)
          | fail)
        intro v' w' hown' hg' _
        obtain ⟨p', c', rfl⟩ := own_slice hown'
        have HB9 : Hid (Below w4.heap.size w4 w') := (HB7.out.alloc HB7.out.size _).grown hg' (by simp; omega) fun k hk => by have := (HO7.out.lt k hk).1; omega
        have HS9 : Hid (stp w' w4.heap.size b 3 1 (A + (K + D)) (C1 X)) := stp_grown (HS7.out.below ((Below.refl _ _).alloc (Nat.le_refl _) _)) hg' fun k hk => (HO7.out.lt k hk).1
        have HO9 : Hid (w'.ownsRow (w4.heap.size + 5) 50 3 (.slice p' (k + 1) c') (k + 1) (cellsP L ++ partCells ⟨M, 0, []⟩)) := hown'
        have hs9 := hg'.size
        rw [World.size_alloc] at hs9
        clear hown' hg'
        go_wp2
        go_roundw
        case rel =>
          refine ⟨k + 1, by go_num, ?_, ?_, ?_, HB9.out, by omega⟩
          · have := HN.out; omega
          · rw [HTK.out]
            rw [cellsP_snoc]
            have e := HO9.out
            exact e
          · rw [HA1.out, HX1.out]; exact HS9.out
        case measure => simp [intOf]; omega

      · by_cases hD : 0 < D
        · have e1 : byt1 (rs.drop A.toNat) ⟨K, D, U⟩ = ⟨0, M, []⟩ := by unfold byt1; rw [if_neg hK, if_pos hD]; show (⟨0, C1 _, []⟩ : Pt) = _; rw [← HM.out]; rfl
          rw [e1] at HTK
          go_wp2_with (first
            | (go_at_call 108; refine Calls.mono CX.out ?_; rintro e w7 ⟨rfl, hs7, hb7, hz7, ho7, hk7⟩; have HS7 : Hid (stp w7 w4.heap.size b 3 1 (A + (K + D)) (C1 X)) := hs7; have HB7 : Hid (Below w4.heap.size w4 w7) := HBW.out.trans hb7; have HO7 : Hid (w7.ownsRow (w4.heap.size + 5) 50 3 (.slice pv k cv) k (cellsP L)) := ho7 _ _ _ _ _ _ (Nat.le_refl _) hsz0 HOW.out; have y0 := (cellOnF (hk7 wr.heap.size hne3 hne4 hltw) 0).trans x0; have y1 := (cellOnF (hk7 wr.heap.size hne3 hne4 hltw) 1).trans x1; have y2 := (cellOnF (hk7 wr.heap.size hne3 hne4 hltw) 2).trans x2; have hs57 := sz_le hz7; clear hs7 hb7 ho7 hk7)
            | (at_builtin; refine wpList_append_own _ rfl _ _ 23 rfl (w4.heap.size + 5) 50 i0 (.agg #[.int .i64 0, .int .i64 0, .string ⟨#[]⟩]) 3 32 Tryz.underlying23 hi hz0 hz1 hz2 rfl (by decide) _ _ _ rfl (HO7.out.alloc _) ⟨w7.heap.size, 0, none⟩ 1 1 (partCells ⟨0, M, []⟩) rfl rfl (cells_newN _ _ (by first | rfl | simp) _ _) (partCells_one _) (by unfold maxLen; omega) (by omega) (by first | omega | (simp; omega)) ?_)
            | fail)
          intro v' w' hown' hg' _
          obtain ⟨p', c', rfl⟩ := own_slice hown'
          have HB9 : Hid (Below w4.heap.size w4 w') := (HB7.out.alloc HB7.out.size _).grown hg' (by simp; omega) fun k hk => by have := (HO7.out.lt k hk).1; omega
          have HS9 : Hid (stp w' w4.heap.size b 3 1 (A + (K + D)) (C1 X)) := stp_grown (HS7.out.below ((Below.refl _ _).alloc (Nat.le_refl _) _)) hg' fun k hk => (HO7.out.lt k hk).1
          have HO9 : Hid (w'.ownsRow (w4.heap.size + 5) 50 3 (.slice p' (k + 1) c') (k + 1) (cellsP L ++ partCells ⟨0, M, []⟩)) := hown'
          have hs9 := hg'.size
          rw [World.size_alloc] at hs9
          clear hown' hg'
          go_wp2
          go_roundw
          case rel =>
            refine ⟨k + 1, by go_num, ?_, ?_, ?_, HB9.out, by omega⟩
            · have := HN.out; omega
            · rw [HTK.out]
              rw [cellsP_snoc]
              have e := HO9.out
              exact e
            · rw [HA1.out, HX1.out]; exact HS9.out
          case measure => simp [intOf]; omega

        · have e1 : byt1 (rs.drop A.toNat) ⟨K, D, U⟩ = ⟨0, 0, U⟩ := by unfold byt1; rw [if_neg hK, if_neg hD]
          rw [e1] at HTK
          have CL : Hid (∀ wx, Calls Tryz.prog 79 #[.string ⟨U.toArray⟩] wx fun e w' => e = .returned (.string ⟨U.toArray⟩) ∧ Below wx.heap.size wx w') := fun wx => clone_any U hplq wx
          go_wp2_with (first
            | (go_at_call 108; refine Calls.mono CX.out ?_; rintro e w7 ⟨rfl, hs7, hb7, hz7, ho7, hk7⟩; have HS7 : Hid (stp w7 w4.heap.size b 3 1 (A + (K + D)) (C1 X)) := hs7; have HB7 : Hid (Below w4.heap.size w4 w7) := HBW.out.trans hb7; have HO7 : Hid (w7.ownsRow (w4.heap.size + 5) 50 3 (.slice pv k cv) k (cellsP L)) := ho7 _ _ _ _ _ _ (Nat.le_refl _) hsz0 HOW.out; have y0 := (cellOnF (hk7 wr.heap.size hne3 hne4 hltw) 0).trans x0; have y1 := (cellOnF (hk7 wr.heap.size hne3 hne4 hltw) 1).trans x1; have y2 := (cellOnF (hk7 wr.heap.size hne3 hne4 hltw) 2).trans x2; have hs57 := sz_le hz7; clear hs7 hb7 ho7 hk7)
            | (go_at_call 79; refine (CL.out _).mono ?_; rintro e w8 ⟨rfl, hb8⟩; have HB8 : Hid (Below w4.heap.size w4 w8) := HB7.out.trans (hb8.mono HB7.out.size); have HS8 : Hid (stp w8 w4.heap.size b 3 1 (A + (K + D)) (C1 X)) := HS7.out.below hb8; have HO8 : Hid (w8.ownsRow (w4.heap.size + 5) 50 3 (.slice pv k cv) k (cellsP L)) := own_below HO7.out hb8; have hs58 := hb8.size; clear hb8)
            | (at_builtin; refine wpList_append_own _ rfl _ _ 23 rfl (w4.heap.size + 5) 50 i0 (.agg #[.int .i64 0, .int .i64 0, .string ⟨#[]⟩]) 3 32 Tryz.underlying23 hi hz0 hz1 hz2 rfl (by decide) _ _ _ rfl (HO8.out.alloc _) ⟨w8.heap.size, 0, none⟩ 1 1 (partCells ⟨0, 0, U⟩) rfl rfl (cells_newN _ _ (by first | rfl | simp) _ _) (partCells_one _) (by unfold maxLen; omega) (by omega) (by first | omega | (simp; omega)) ?_)
            | fail)
          intro v' w' hown' hg' _
          obtain ⟨p', c', rfl⟩ := own_slice hown'
          have HB9 : Hid (Below w4.heap.size w4 w') := (HB8.out.alloc HB8.out.size _).grown hg' (by simp; omega) fun k hk => by have := (HO8.out.lt k hk).1; omega
          have HS9 : Hid (stp w' w4.heap.size b 3 1 (A + (K + D)) (C1 X)) := stp_grown (HS8.out.below ((Below.refl _ _).alloc (Nat.le_refl _) _)) hg' fun k hk => (HO8.out.lt k hk).1
          have HO9 : Hid (w'.ownsRow (w4.heap.size + 5) 50 3 (.slice p' (k + 1) c') (k + 1) (cellsP L ++ partCells ⟨0, 0, U⟩)) := hown'
          have hs9 := hg'.size
          rw [World.size_alloc] at hs9
          clear hown' hg'
          go_wp2
          go_roundw
          case rel =>
            refine ⟨k + 1, by go_num, ?_, ?_, ?_, HB9.out, by omega⟩
            · have := HN.out; omega
            · rw [HTK.out]
              rw [cellsP_snoc]
              have e := HO9.out
              exact e
            · rw [HA1.out, HX1.out]; exact HS9.out
          case measure => simp [intOf]; omega

    · obtain rfl : k = n := by have := HN.out; omega
      have e : (bytQ rs qs).take k = bytQ rs qs := List.take_of_length_le (by rw [bytQ_len, HN.out]; exact Nat.le_refl _)
      have eL : (bytQ rs qs).length = k := by rw [bytQ_len, HN.out]
      rw [e] at hown
      have HO : Hid (wr.ownsRow (w4.heap.size + 5) 50 3 (.slice pv k cv) k (cellsP (bytQ rs qs))) := hown
      have HB : Hid (Below w.heap.size w wr) := HB4.out.trans (hbw'.mono HB4.out.size)
      clear hown e hst hbw'
      have hop : opAt wr (.slice pv k cv) (bytQ rs qs) := by
        have := HO.out
        rw [← eL] at this ⊢
        exact opAt_own this
      have HOPW : Hid (opAt wr (.slice pv k cv) (bytQ rs qs)) := hop
      clear hop eL
      go_wp2
      go_ret2
      exact ⟨.slice pv k cv, rfl, HOPW.out, HB.out⟩
end Go.Proofs.YtedonckeomccpabGreatDoor

namespace Go.Proofs.YtedonckeomccpabGreatDoor
open Go.RowKit
set_option linter.unusedVariables false
attribute [local go_sem] Oper.semAt_some

set_option maxRecDepth 100000 in
set_option maxHeartbeats 2000000 in
theorem steps1_err (s b : Nat) (rs : List Nat) (u v a h n : Int) (W : World) (k : stp W s b u v a h) (hu : unitOk u) (hv : unitOk v) (h0 : 0 ≤ a + n) (h1 : a + n ≤ by_ u rs) (hfine : by_ u (upTo rs u (a + n)) ≠ a + n)
    (hz : C1 rs ≤ 100000000) (hbig : by_ u rs ≤ 300000000)
    (hK : ∀ W', Below s W W' → Lib.Utf8Tabs 2 3 W' ∧ isRope W' b rs) :
    Calls Tryz.prog 108 #[.int .i64 n, .pointer (some ⟨s + 3, 0, none⟩), .pointer (some ⟨s, 0, none⟩), .pointer (some ⟨s + 1, 0, none⟩), .pointer (some ⟨s + 2, 0, none⟩), .pointer (some ⟨s + 4, 0, none⟩)] W fun e w' =>
      e = .returned (.tuple #[.int .i64 0, .iface 26 (.int .i64 10)]) ∧ Below s W w' := by
  have l3 := World.block_lt_of_cell? W _ k.a
  obtain ⟨k1, k2, k3, k4, k5, k6, k7⟩ := k
  have hw1 : IntKind.i64.wrap (a + n) = a + n := by rw [IntKind.wrap_i64]; omega
  have hb1 : Below s W (W.setCell ⟨s + 3, 0, none⟩ (.int .i64 (a + n))) := (Below.refl s W).setCell (p := ⟨s + 3, 0, none⟩) (Nat.le_add_right _ _) _
  obtain ⟨hT1, hR1⟩ := hK _ hb1
  have cC : Hid (Calls Tryz.prog 77 #[.pointer (some ⟨b, 0, none⟩), .int .i64 u, .int .i64 v, .int .i64 (a + n)] (W.setCell ⟨s + 3, 0, none⟩ (.int .i64 (a + n))) fun e w' => e = .returned (.tuple #[.int .i64 0, .iface 26 (.int .i64 10)]) ∧ Below (W.setCell ⟨s + 3, 0, none⟩ (.int .i64 (a + n))).heap.size (W.setCell ⟨s + 3, 0, none⟩ (.int .i64 (a + n))) w') := convert_ord b rs u v (a + n) hu hv h0 h1 (W.setCell ⟨s + 3, 0, none⟩ (.int .i64 (a + n))) hT1 hR1 hz _ rfl hfine
  have HB1 : Hid (Below s W (W.setCell ⟨s + 3, 0, none⟩ (.int .i64 (a + n)))) := hb1
  clear hfine hu hv h0 h1 hz hK hT1 hR1 hb1 hbig
  go_enter Tryz.func108, Tryz.ntmps108
  go_wp2_with (first
    | (go_at_call 77; refine Calls.mono cC.out ?_; rintro e w2 ⟨rfl, hb2⟩; have HB2 : Hid (Below s W w2) := HB1.out.trans (hb2.mono (by simp; omega)); clear hb2)
    | fail)
  go_ret2
  exact ⟨rfl, HB2.out⟩

/-- What comes of parts in another unit; none, where one ends within a rune. -/
def turnO (rs : List Nat) (u v : Int) (qs : List Pt) : List Pt := if (turnZ rs u v 0 qs).2 then (turnZ rs u v 0 qs).1 else []
def turnX (rs : List Nat) (u v : Int) (qs : List Pt) : Int := if (turnZ rs u v 0 qs).2 then 0 else 10
theorem turnZ_len : ∀ (qs : List Pt) (rs : List Nat) (u v a : Int), (turnZ rs u v a qs).1.length ≤ qs.length
  | [], _, _, _, _ => by simp [turnZ]
  | q :: qs, rs, u, v, a => by
    unfold turnZ
    split
    · have := turnZ_len qs rs u v (a + lenP q)
      simp; omega
    · simp
/-- Where the loop stands. -/
def brZ (ws : World) (b : Nat) (rs : List Nat) (u v : Int) (qs : List Pt) (k : Nat) (val : Value) (wr : World) : Prop :=
  ∃ L : List Pt, L.length = k ∧ turnZ rs u v 0 qs = (L ++ (turnZ rs u v (longP (qs.take k)) (qs.drop k)).1, (turnZ rs u v (longP (qs.take k)) (qs.drop k)).2) ∧
  k ≤ qs.length ∧ wr.ownsRow (ws.heap.size + 5) 50 3 val k (cellsP L) ∧ stp wr ws.heap.size b u v (longP (qs.take k)) (by_ v (upTo rs u (longP (qs.take k)))) ∧ Below ws.heap.size ws wr ∧ ws.heap.size + 5 ≤ wr.heap.size

set_option maxRecDepth 100000 in
set_option maxHeartbeats 8000000 in
theorem turnz_chk (b : Nat) (rs : List Nat) (u v : Int) (qs : List Pt) (val : Value) (w : World) (hu : unitOk u) (hv : unitOk v) (hT : Lib.Utf8Tabs 2 3 w) (hR : isRope w b rs) (hr : opAt w val qs) (hwf : ∀ q ∈ qs, wfP q) (hl : qs.length ≤ 1000) (hpl : ∀ q ∈ qs, q.put.length ≤ 10000000) (hz : C1 rs ≤ 1000000) (hbu : by_ u rs ≤ 10000000) (hbv : by_ v rs ≤ 10000000) (hc : chkE qs (by_ u rs) = 0) (hbw : b < w.heap.size) :
    Calls Tryz.prog 38 #[.pointer (some ⟨b, 0, none⟩), .int .i64 u, .int .i64 v, val] w fun e w' => ∃ v', e = .returned (.tuple #[v', errV (turnX rs u v qs)]) ∧ opAt w' v' (turnO rs u v qs) ∧ Below w.heap.size w w' := by
  obtain ⟨hp1, hp2, hp3⟩ := chkE_parts hc
  have cV : Hid (Calls Tryz.prog 77 #[.pointer (some ⟨b, 0, none⟩), .int .i64 u, .int .i64 v, .int .i64 0] w fun e w' => e = .returned (.tuple #[.int .i64 0, .nilIface]) ∧ Below w.heap.size w w') := by
    have := convert_any b rs u v 0 hu hv (Int.le_refl _) (by_pos u rs) w hT hR (by omega) [] (find_zero u rs) (by_nil u)
    rw [by_nil] at this
    exact this
  have cN : Hid (∀ wx, Below w.heap.size w wx → Calls Tryz.prog 18 #[.pointer (some ⟨b, 0, none⟩)] wx fun e w' => e = .returned (cntV rs) ∧ Below wx.heap.size wx w') := fun wx hb => ropecounts_any b rs wx (isRope_below hR hb)
  have cI : Hid (∀ wx, Calls Tryz.prog 17 #[cntV rs, .int .i64 u] wx fun e w' => e = .returned (.int .i64 (by_ u rs)) ∧ Below wx.heap.size wx w') := fun wx => In_any u rs wx
  have hup := by_pos u rs
  have cK : Hid (∀ wx, Below w.heap.size w wx → Calls Tryz.prog 42 #[val, .int .i64 (by_ u rs)] wx fun e w' => e = .returned .nilIface ∧ Below wx.heap.size wx w') := fun wx hb => by
    have := Check_any val qs (by_ u rs) wx (Go.Proofs.Utf8Tabs_below hT hb) (opAt_below hr hb (Nat.le_refl _)) hwf (by omega) (by omega)
    rw [hc] at this
    exact this
  have cS : Hid (∀ wx, Calls Tryz.prog 78 #[.pointer (some ⟨b, 0, none⟩), .int .i64 u, .int .i64 v] wx fun e w' => e = .returned (stepsV wx.heap.size) ∧ stp w' wx.heap.size b u v 0 0 ∧ Below wx.heap.size wx w' ∧ w'.heap.size = wx.heap.size + 5) := fun wx => bsteps_any b u v wx
  have HRW : Hid (isRope w b rs) := hR
  have HTW : Hid (Lib.Utf8Tabs 2 3 w) := hT
  have HOP : Hid (opAt w val qs) := hr
  have HP1 : Hid (∀ p ∈ qs, oneB p = true ∧ (scan p.put).2 = true) := hp1
  have HP2 : Hid (longP qs = by_ u rs) := hp2
  have HP3 : Hid (∀ q ∈ qs, 0 ≤ lenP q) := hp3
  have HPL : Hid (∀ q ∈ qs, q.put.length ≤ 10000000) := hpl
  have HU : Hid (unitOk u) := hu
  have HV : Hid (unitOk v) := hv
  have HZ : Hid (C1 rs ≤ 1000000) := hz
  have HBV : Hid (by_ v rs ≤ 10000000) := hbv
  obtain ⟨p, c, rfl, r1, r2, r3⟩ := hr
  obtain ⟨n, hn⟩ : ∃ n, qs.length = n := ⟨_, rfl⟩
  have HN : Hid (qs.length = n) := hn
  rw [hn] at r1 hl cK ⊢
  obtain ⟨i0, hi, hz0, hz1, hz2⟩ := info_parts info_part
  obtain ⟨RL, hRL⟩ : ∃ RL : Int, by_ u rs = RL := ⟨_, rfl⟩
  rw [hRL] at cI cK hbu hup
  have HRL : Hid (by_ u rs = RL) := hRL
  unfold cntV at cN cI
  unfold stepsV at cS
  clear hT hR hwf hp1 hp2 hp3 hpl hc hn r3 hRL hu hv hz hbv
  unfold maxLen at r2
  go_enter Tryz.func38, Tryz.ntmps38
  go_wp2_with (first
    | (go_at_call 77; refine Calls.mono cV.out ?_; rintro e w1 ⟨rfl, hb1⟩; have HB1 : Hid (Below w.heap.size w w1) := hb1; clear hb1)
    | (go_at_call 18; refine (cN.out _ HB1.out).mono ?_; rintro e w2 ⟨rfl, hb2⟩; have HB2 : Hid (Below w.heap.size w w2) := HB1.out.trans (hb2.mono HB1.out.size); clear hb2)
    | (go_at_call 17; refine (cI.out _).mono ?_; rintro e w3 ⟨rfl, hb3⟩; have HB3 : Hid (Below w.heap.size w w3) := HB2.out.trans (hb3.mono HB2.out.size); clear hb3)
    | (go_at_call 42; refine (cK.out _ HB3.out).mono ?_; rintro e w4 ⟨rfl, hb4⟩; have HB4 : Hid (Below w.heap.size w w4) := HB3.out.trans (hb4.mono HB3.out.size); clear hb4)
    | (go_at_call 78; refine (cS.out _).mono ?_; rintro e w5 ⟨rfl, hs5, hb5, hz5⟩; have HB5 : Hid (Below w4.heap.size w4 w5) := hb5; have HS5 : Hid (stp w5 w4.heap.size b u v 0 0) := hs5; clear hs5 hb5)
    | (at_make; refine wpList_make_own _ rfl _ _ 23 rfl (w4.heap.size + 5) 50 i0 (.agg #[.int .i64 0, .int .i64 0, .string ⟨#[]⟩]) 3 Tryz.underlying23 hi hz0 hz1 .i64 .i64 n n rfl rfl rfl (by rw [hz2]; omega) (by unfold maxLen; omega) (by omega) ?_)
    | fail)
  intro w6 hown6 hg6
  have HO6 : Hid (w6.ownsRow (w4.heap.size + 5) 50 3 (.slice (some ⟨w4.heap.size + 5, 0, none⟩) 0 n) 0 []) := hown6
  have HB6 : Hid (Below w4.heap.size w4 w6) := HB5.out.grown hg6 HB5.out.size fun k hk => by cases hk
  have HS6 : Hid (stp w6 w4.heap.size b u v 0 0) := stp_grown HS5.out hg6 fun k hk => by cases hk
  have hs6 := hg6.size
  rw [hz5] at hs6
  clear hown6 hg6 cV cN cI cK cS HB1 HB2 HB3 HB5 HS5
  go_wp2
  go_loopw [14, 47] (fun v14 i wr => ∃ (k : Nat), i = .int .i64 k ∧ brZ w4 b rs u v qs k v14 wr) (fun _ i _ => n - (intOf i).toNat)
  case atStart =>
    have e1 : longP (qs.take 0) = 0 := by simp [longP]
    refine ⟨0, rfl, [], rfl, ?_, Nat.zero_le _, HO6.out, ?_, HB6.out, hs6⟩
    · rw [e1]; rfl
    · rw [e1, upTo_zero, by_nil]
      exact HS6.out
  case round =>
    obtain ⟨k, rfl, L, hLk, htz, hk, hown, hst, hbw', hsz0⟩ := hrel
    obtain ⟨pv, cv, rfl⟩ := own_slice hown
    clear HO6 HB6 HS6
    by_cases hlt : k < n
    · have hkr : k < qs.length := by rw [HN.out]; exact hlt
      have hne : qs ≠ [] := by intro e; rw [e] at hkr; exact absurd hkr (Nat.not_lt_zero _)
      have HBW0 : Hid (Below w.heap.size w wr) := HB4.out.trans (hbw'.mono HB4.out.size)
      obtain ⟨p0, c0, hvv, _, _, hcell⟩ := HOP.out
      obtain ⟨b0, o, rfl, hb0, hcell⟩ := hcell hne
      obtain ⟨f0, f1, f2⟩ := hcell k qs[k] (List.getElem?_eq_getElem hkr)
      have g0 := (HBW0.out.cell (p := ⟨b0, o + k * 3, none⟩) hb0).trans f0
      have g1 := (HBW0.out.cell (p := ⟨b0, o + k * 3 + 1, none⟩) hb0).trans f1
      have g2 := (HBW0.out.cell (p := ⟨b0, o + k * 3 + 2, none⟩) hb0).trans f2
      obtain rfl : p = some ⟨b0, o, none⟩ := by injection hvv
      clear hvv hcell f0 f1 f2 hne
      have hqm : qs[k] ∈ qs := List.getElem_mem _
      have hsnd := (one_sound (HP1.out _ hqm).1).1
      have hplq := HPL.out _ hqm
      have hts : qs.take (k + 1) = qs.take k ++ [qs[k]] := List.take_succ_eq_append_getElem hkr
      have hA1' : longP (qs.take (k + 1)) = longP (qs.take k) + lenP qs[k] := by rw [hts, long_append]; simp [longP]
      have hA0 : 0 ≤ longP (qs.take k) := sum_pos fun q hq => HP3.out q (List.mem_of_mem_take hq)
      have hAN : longP (qs.take (k + 1)) ≤ RL := by
        have e2 : longP qs = longP (qs.take (k + 1)) + longP (qs.drop (k + 1)) := by rw [← long_append, List.take_append_drop]
        have := sum_pos fun q hq => HP3.out q (List.mem_of_mem_drop (i := k + 1) hq)
        have := HP2.out; have := HRL.out
        omega
      have hdk : qs.drop k = qs[k] :: qs.drop (k + 1) := List.drop_eq_getElem_cons hkr
      rw [hdk] at htz
      have HQD : Hid (∀ a, turnZ rs u v a (qs.drop (k + 1)) = turnZ rs u v a (qs.drop (k + 1))) := fun _ => rfl
      generalize qs[k] = q at *
      obtain ⟨K, D, U⟩ := q
      obtain ⟨A, hA⟩ : ∃ A, longP (qs.take k) = A := ⟨_, rfl⟩
      rw [hA] at hst hA1' hA0 htz
      have hld : lenP ⟨K, D, U⟩ = K + D := rfl
      rw [hld] at hA1'
      have HOW : Hid ((wr.alloc (.cells #[.int .i64 K, .int .i64 D, .string ⟨U.toArray⟩] 50)).ownsRow (w4.heap.size + 5) 50 3 (.slice pv k cv) k (cellsP L)) := hown.alloc _
      have HBW : Hid (Below w4.heap.size w4 (wr.alloc (.cells #[.int .i64 K, .int .i64 D, .string ⟨U.toArray⟩] 50))) := hbw'.alloc hbw'.size _
      obtain ⟨s1, s2⟩ := hsnd
      have s1 : 0 ≤ K := s1
      have s2 : 0 ≤ D := s2
      have hw0 : IntKind.i64.wrap (K + D) = K + D := by rw [IntKind.wrap_i64]; omega
      have hj : (k : Int) < (n : Int) := by omega
      have hbx : Below wr.heap.size wr (wr.alloc (.cells #[.int .i64 K, .int .i64 D, .string ⟨U.toArray⟩] 50)) := (Below.refl _ _).alloc (Nat.le_refl _) _
      have hRLe := HRL.out
      have hKK : ∀ W', Below w4.heap.size (wr.alloc (.cells #[.int .i64 K, .int .i64 D, .string ⟨U.toArray⟩] 50)) W' → Lib.Utf8Tabs 2 3 W' ∧ isRope W' b rs := fun W' hW' => ⟨Go.Proofs.Utf8Tabs_below HTW.out (HB4.out.trans ((HBW.out.trans hW').mono HB4.out.size)), isRope_below HRW.out (HB4.out.trans ((HBW.out.trans hW').mono HB4.out.size))⟩
      have hzz := HZ.out
      by_cases hed : onEdge rs u (A + (K + D)) = true
      · have hX3 : by_ u (upTo rs u (A + (K + D))) = A + (K + D) := of_decide_eq_true hed
        have hXle := upTo_le (v := v) rs (u := u) (a := A + (K + D)) (by omega)
        have hmono := upTo_mono (u := u) (v := v) rs (a := A) (b := A + (K + D)) (by omega) (by omega)
        have hp0 := by_pos v (upTo rs u A)
        have hbv := HBV.out
        have cX := steps1_any w4.heap.size b rs (upTo rs u (A + (K + D))) u v A (by_ v (upTo rs u A)) (K + D) _ (hst.below hbx) HU.out HV.out (by omega) (by omega) rfl hX3
          (hKK _ (Below.refl _ _)).1 (hKK _ (Below.refl _ _)).2 (by have := HB4.out.size; omega) (by omega) hp0 (by omega) (by omega) (by omega) hKK
        rw [turnZ, if_pos (by rw [hld]; exact hed)] at htz
        obtain ⟨XV, hXV⟩ : ∃ XV, by_ v (upTo rs u (A + (K + D))) = XV := ⟨_, rfl⟩
        obtain ⟨M, hM⟩ : ∃ M, XV - by_ v (upTo rs u A) = M := ⟨_, rfl⟩
        rw [hXV, hM] at cX
        rw [hld, hXV, hM] at htz
        have CX : Hid _ := cX
        have HA1 : Hid (longP (qs.take (k + 1)) = A + (K + D)) := hA1'
        have HXV : Hid (by_ v (upTo rs u (A + (K + D))) = XV) := hXV
        have HLL : Hid (L.length = k) := hLk
        have HTK0 : Hid (turnZ rs u v 0 qs = ((L ++ [unit1 M ⟨K, D, U⟩]) ++ (turnZ rs u v (longP (qs.take (k + 1))) (qs.drop (k + 1))).1, (turnZ rs u v (longP (qs.take (k + 1))) (qs.drop (k + 1))).2)) := by
          show turnZ rs u v 0 qs = _
          rw [htz, hA1']; simp
        have x0 : (wr.alloc (.cells #[.int .i64 K, .int .i64 D, .string ⟨U.toArray⟩] 50)).cell? ⟨wr.heap.size, 0, none⟩ = some (.int .i64 K) := by simp [go_sem]
        have x1 : (wr.alloc (.cells #[.int .i64 K, .int .i64 D, .string ⟨U.toArray⟩] 50)).cell? ⟨wr.heap.size, 1, none⟩ = some (.int .i64 D) := by simp [go_sem]
        have x2 : (wr.alloc (.cells #[.int .i64 K, .int .i64 D, .string ⟨U.toArray⟩] 50)).cell? ⟨wr.heap.size, 2, none⟩ = some (.string ⟨U.toArray⟩) := by simp [go_sem]
        have hne3 : wr.heap.size ≠ w4.heap.size + 3 := by omega
        have hne4 : wr.heap.size ≠ w4.heap.size + 4 := by omega
        have hltw : wr.heap.size < (wr.alloc (.cells #[.int .i64 K, .int .i64 D, .string ⟨U.toArray⟩] 50)).heap.size := by simp
        have hsz0 : w4.heap.size + 5 ≤ (wr.alloc (.cells #[.int .i64 K, .int .i64 D, .string ⟨U.toArray⟩] 50)).heap.size := by rw [World.size_alloc]; omega
        clear hown hst hbw' hXle hmono cX hA1' htz hA hbx hAN hts hqm hkr hp0 hbv hX3 hed hKK hRLe hXV hM hLk hdk HQD
        by_cases hK : 0 < K
        · have HTK := HTK0
          have e1 : unit1 M ⟨K, D, U⟩ = ⟨M, 0, []⟩ := by unfold unit1; rw [if_pos hK]
          rw [e1] at HTK
          clear e1 HTK0
          go_wp2_with (first
            | (go_at_call 108; refine Calls.mono CX.out ?_; rintro e w7 ⟨rfl, hs7, hb7, hz7, ho7, hk7⟩; have HS7 : Hid (stp w7 w4.heap.size b u v (A + (K + D)) XV) := hs7; have HB7 : Hid (Below w4.heap.size w4 w7) := HBW.out.trans hb7; have HO7 : Hid (w7.ownsRow (w4.heap.size + 5) 50 3 (.slice pv k cv) k (cellsP L)) := ho7 _ _ _ _ _ _ (Nat.le_refl _) hsz0 HOW.out; have y0 := (cellOnF (hk7 wr.heap.size hne3 hne4 hltw) 0).trans x0; have y1 := (cellOnF (hk7 wr.heap.size hne3 hne4 hltw) 1).trans x1; have y2 := (cellOnF (hk7 wr.heap.size hne3 hne4 hltw) 2).trans x2; have hs57 := sz_le hz7; clear hs7 hb7 ho7 hk7)
            | (at_builtin; refine wpList_append_own _ rfl _ _ 23 rfl (w4.heap.size + 5) 50 i0 (.agg #[.int .i64 0, .int .i64 0, .string ⟨#[]⟩]) 3 32 Tryz.underlying23 hi hz0 hz1 hz2 rfl (by decide) _ _ _ rfl (HO7.out.alloc _) ⟨w7.heap.size, 0, none⟩ 1 1 (partCells ⟨M, 0, []⟩) rfl rfl (cells_newN _ _ (by first | rfl | simp) _ _) (partCells_one _) (by unfold maxLen; omega) (by omega) (by first | omega | (simp; omega)) ?_)
            | fail)
          intro v' w' hown' hg' _
          obtain ⟨p', c', rfl⟩ := own_slice hown'
          have HB9 : Hid (Below w4.heap.size w4 w') := (HB7.out.alloc HB7.out.size _).grown hg' (by simp; omega) fun k hk => by have := (HO7.out.lt k hk).1; omega
          have HS9 : Hid (stp w' w4.heap.size b u v (A + (K + D)) XV) := stp_grown (HS7.out.below ((Below.refl _ _).alloc (Nat.le_refl _) _)) hg' fun k hk => (HO7.out.lt k hk).1
          have HO9 : Hid (w'.ownsRow (w4.heap.size + 5) 50 3 (.slice p' (k + 1) c') (k + 1) (cellsP L ++ partCells ⟨M, 0, []⟩)) := hown'
          have hs9 := hg'.size
          rw [World.size_alloc] at hs9
          clear hown' hg'
          go_wp2
          go_roundw
          case rel =>
            refine ⟨k + 1, by go_num, L ++ [⟨M, 0, []⟩], by rw [List.length_append, HLL.out]; rfl, HTK.out, ?_, ?_, ?_, HB9.out, by omega⟩
            · have := HN.out; omega
            · rw [cellsP_snoc]
              exact HO9.out
            · rw [HA1.out, HXV.out]; exact HS9.out
          case measure => simp [intOf]; omega

        · by_cases hD : 0 < D
          · have HTK := HTK0
            have e1 : unit1 M ⟨K, D, U⟩ = ⟨0, M, []⟩ := by unfold unit1; rw [if_neg hK, if_pos hD]
            rw [e1] at HTK
            clear e1 HTK0
            go_wp2_with (first
              | (go_at_call 108; refine Calls.mono CX.out ?_; rintro e w7 ⟨rfl, hs7, hb7, hz7, ho7, hk7⟩; have HS7 : Hid (stp w7 w4.heap.size b u v (A + (K + D)) XV) := hs7; have HB7 : Hid (Below w4.heap.size w4 w7) := HBW.out.trans hb7; have HO7 : Hid (w7.ownsRow (w4.heap.size + 5) 50 3 (.slice pv k cv) k (cellsP L)) := ho7 _ _ _ _ _ _ (Nat.le_refl _) hsz0 HOW.out; have y0 := (cellOnF (hk7 wr.heap.size hne3 hne4 hltw) 0).trans x0; have y1 := (cellOnF (hk7 wr.heap.size hne3 hne4 hltw) 1).trans x1; have y2 := (cellOnF (hk7 wr.heap.size hne3 hne4 hltw) 2).trans x2; have hs57 := sz_le hz7; clear hs7 hb7 ho7 hk7)
              | (at_builtin; refine wpList_append_own _ rfl _ _ 23 rfl (w4.heap.size + 5) 50 i0 (.agg #[.int .i64 0, .int .i64 0, .string ⟨#[]⟩]) 3 32 Tryz.underlying23 hi hz0 hz1 hz2 rfl (by decide) _ _ _ rfl (HO7.out.alloc _) ⟨w7.heap.size, 0, none⟩ 1 1 (partCells ⟨0, M, []⟩) rfl rfl (cells_newN _ _ (by first | rfl | simp) _ _) (partCells_one _) (by unfold maxLen; omega) (by omega) (by first | omega | (simp; omega)) ?_)
              | fail)
            intro v' w' hown' hg' _
            obtain ⟨p', c', rfl⟩ := own_slice hown'
            have HB9 : Hid (Below w4.heap.size w4 w') := (HB7.out.alloc HB7.out.size _).grown hg' (by simp; omega) fun k hk => by have := (HO7.out.lt k hk).1; omega
            have HS9 : Hid (stp w' w4.heap.size b u v (A + (K + D)) XV) := stp_grown (HS7.out.below ((Below.refl _ _).alloc (Nat.le_refl _) _)) hg' fun k hk => (HO7.out.lt k hk).1
            have HO9 : Hid (w'.ownsRow (w4.heap.size + 5) 50 3 (.slice p' (k + 1) c') (k + 1) (cellsP L ++ partCells ⟨0, M, []⟩)) := hown'
            have hs9 := hg'.size
            rw [World.size_alloc] at hs9
            clear hown' hg'
            go_wp2
            go_roundw
            case rel =>
              refine ⟨k + 1, by go_num, L ++ [⟨0, M, []⟩], by rw [List.length_append, HLL.out]; rfl, HTK.out, ?_, ?_, ?_, HB9.out, by omega⟩
              · have := HN.out; omega
              · rw [cellsP_snoc]
                exact HO9.out
              · rw [HA1.out, HXV.out]; exact HS9.out
            case measure => simp [intOf]; omega

          · have HTK := HTK0
            have e1 : unit1 M ⟨K, D, U⟩ = ⟨0, 0, U⟩ := by unfold unit1; rw [if_neg hK, if_neg hD]
            rw [e1] at HTK
            clear e1 HTK0
            have CL : Hid (∀ wx, Calls Tryz.prog 79 #[.string ⟨U.toArray⟩] wx fun e w' => e = .returned (.string ⟨U.toArray⟩) ∧ Below wx.heap.size wx w') := fun wx => clone_any U hplq wx
            go_wp2_with (first
              | (go_at_call 108; refine Calls.mono CX.out ?_; rintro e w7 ⟨rfl, hs7, hb7, hz7, ho7, hk7⟩; have HS7 : Hid (stp w7 w4.heap.size b u v (A + (K + D)) XV) := hs7; have HB7 : Hid (Below w4.heap.size w4 w7) := HBW.out.trans hb7; have HO7 : Hid (w7.ownsRow (w4.heap.size + 5) 50 3 (.slice pv k cv) k (cellsP L)) := ho7 _ _ _ _ _ _ (Nat.le_refl _) hsz0 HOW.out; have y0 := (cellOnF (hk7 wr.heap.size hne3 hne4 hltw) 0).trans x0; have y1 := (cellOnF (hk7 wr.heap.size hne3 hne4 hltw) 1).trans x1; have y2 := (cellOnF (hk7 wr.heap.size hne3 hne4 hltw) 2).trans x2; have hs57 := sz_le hz7; clear hs7 hb7 ho7 hk7)
              | (go_at_call 79; refine (CL.out _).mono ?_; rintro e w8 ⟨rfl, hb8⟩; have HB8 : Hid (Below w4.heap.size w4 w8) := HB7.out.trans (hb8.mono HB7.out.size); have HS8 : Hid (stp w8 w4.heap.size b u v (A + (K + D)) XV) := HS7.out.below hb8; have HO8 : Hid (w8.ownsRow (w4.heap.size + 5) 50 3 (.slice pv k cv) k (cellsP L)) := own_below HO7.out hb8; have hs58 := hb8.size; clear hb8)
              | (at_builtin; refine wpList_append_own _ rfl _ _ 23 rfl (w4.heap.size + 5) 50 i0 (.agg #[.int .i64 0, .int .i64 0, .string ⟨#[]⟩]) 3 32 Tryz.underlying23 hi hz0 hz1 hz2 rfl (by decide) _ _ _ rfl (HO8.out.alloc _) ⟨w8.heap.size, 0, none⟩ 1 1 (partCells ⟨0, 0, U⟩) rfl rfl (cells_newN _ _ (by first | rfl | simp) _ _) (partCells_one _) (by unfold maxLen; omega) (by omega) (by first | omega | (simp; omega)) ?_)
              | fail)
            intro v' w' hown' hg' _
            obtain ⟨p', c', rfl⟩ := own_slice hown'
            have HB9 : Hid (Below w4.heap.size w4 w') := (HB8.out.alloc HB8.out.size _).grown hg' (by simp; omega) fun k hk => by have := (HO8.out.lt k hk).1; omega
            have HS9 : Hid (stp w' w4.heap.size b u v (A + (K + D)) XV) := stp_grown (HS8.out.below ((Below.refl _ _).alloc (Nat.le_refl _) _)) hg' fun k hk => (HO8.out.lt k hk).1
            have HO9 : Hid (w'.ownsRow (w4.heap.size + 5) 50 3 (.slice p' (k + 1) c') (k + 1) (cellsP L ++ partCells ⟨0, 0, U⟩)) := hown'
            have hs9 := hg'.size
            rw [World.size_alloc] at hs9
            clear hown' hg'
            go_wp2
            go_roundw
            case rel =>
              refine ⟨k + 1, by go_num, L ++ [⟨0, 0, U⟩], by rw [List.length_append, HLL.out]; rfl, HTK.out, ?_, ?_, ?_, HB9.out, by omega⟩
              · have := HN.out; omega
              · rw [cellsP_snoc]
                exact HO9.out
              · rw [HA1.out, HXV.out]; exact HS9.out
            case measure => simp [intOf]; omega

      · have hed : onEdge rs u (A + (K + D)) = false := Bool.eq_false_iff.2 hed
        have hX3 : by_ u (upTo rs u (A + (K + D))) ≠ A + (K + D) := of_decide_eq_false hed
        have cX := steps1_err w4.heap.size b rs u v A (by_ v (upTo rs u A)) (K + D) _ (hst.below hbx) HU.out HV.out (by omega) (by omega) hX3 (by omega) (by omega) hKK
        have CX : Hid _ := cX
        rw [turnZ, if_neg (by rw [hld, hed]; decide)] at htz
        have e2 : (turnZ rs u v 0 qs).2 = false := by rw [htz]
        have HRX : Hid (turnX rs u v qs = 10 ∧ turnO rs u v qs = []) := by
          show turnX rs u v qs = 10 ∧ turnO rs u v qs = []
          unfold turnX turnO
          rw [e2]; exact ⟨rfl, rfl⟩
        clear hown hst hbw' cX hA1' htz hA hbx hAN hts hqm hkr hX3 hed hKK hRLe e2 hLk hdk HQD
        go_wp2_with (first
          | (go_at_call 108; refine Calls.mono CX.out ?_; rintro e w7 ⟨rfl, hb7⟩; have HB7 : Hid (Below w.heap.size w w7) := HB4.out.trans ((HBW.out.trans hb7).mono HB4.out.size); clear hb7)
          | fail)
        go_ret2
        refine ⟨.slice none 0 0, ?_, ?_, HB7.out⟩
        · rw [HRX.out.1]; rfl
        · rw [HRX.out.2]; exact ⟨none, 0, rfl, Nat.le_refl _, Nat.zero_le _, fun h => absurd rfl h⟩
    · obtain rfl : k = n := by have := HN.out; omega
      have e : qs.drop k = [] := List.drop_of_length_le (by rw [HN.out]; exact Nat.le_refl _)
      rw [e] at htz
      have htz2 : turnZ rs u v 0 qs = (L, true) := by rw [htz]; simp [turnZ]
      have HRX : Hid (turnX rs u v qs = 0 ∧ turnO rs u v qs = L) := by
        show turnX rs u v qs = 0 ∧ turnO rs u v qs = L
        unfold turnX turnO
        rw [htz2]; exact ⟨rfl, rfl⟩
      have HO : Hid (wr.ownsRow (w4.heap.size + 5) 50 3 (.slice pv k cv) k (cellsP L)) := hown
      have HB : Hid (Below w.heap.size w wr) := HB4.out.trans (hbw'.mono HB4.out.size)
      have hop : opAt wr (.slice pv k cv) L := by
        have := HO.out
        rw [← hLk] at this ⊢
        exact opAt_own this
      have HOPW : Hid (opAt wr (.slice pv k cv) L) := hop
      clear hop hown e hst hbw' htz htz2 hLk
      go_wp2
      go_ret2
      refine ⟨.slice pv k cv, ?_, ?_, HB.out⟩
      · rw [HRX.out.1]; rfl
      · rw [HRX.out.2]; exact HOPW.out
end Go.Proofs.YtedonckeomccpabGreatDoor

namespace Go.Proofs.YtedonckeomccpabGreatDoor
open Go.RowKit
set_option linter.unusedVariables false

theorem refRunes_told (s : ByteArray) (hs : s.size < 100000000) (w : World) : Calls Tryz.prog 30 #[.string s] w fun e w' => ∃ p n c d, e = .returned (.tuple #[.slice p n c, .agg #[.int .i64 (if (scan s.data.toList).2 then 0 else 3), .int .i64 d]]) ∧ Below w.heap.size w w' := by
  refine (refRunes_any s hs w).mono ?_
  rintro e w' ⟨hb, ⟨h, v, rfl, hv⟩ | ⟨h, rfl⟩⟩
  · rw [if_pos h]
    obtain ⟨p, c, rfl, _⟩ := hv
    exact ⟨_, _, _, _, rfl, hb⟩
  · rw [if_neg (by rw [h]; simp)]
    exact ⟨_, _, _, _, rfl, hb⟩

theorem one_shapes {K D : Int} {U : List UInt8} (h : oneB ⟨K, D, U⟩ = true) : (D = 0 ∧ U = [] ∧ 0 < K) ∨ (K = 0 ∧ U = [] ∧ 0 < D) ∨ (K = 0 ∧ D = 0 ∧ U ≠ []) := by
  unfold oneB at h
  split at h
  · rename_i h1
    exact .inl ⟨h1.1, h1.2, of_decide_eq_true h⟩
  · rename_i h0
    split at h
    · rename_i h1
      exact .inr (.inl ⟨h1.1, h1.2, of_decide_eq_true h⟩)
    · have := of_decide_eq_true h
      exact .inr (.inr ⟨this.1, this.2, fun e => h0 ⟨this.2, e⟩⟩)
theorem none_shapes {K D : Int} {U : List UInt8} (h : oneB ⟨K, D, U⟩ = false) : (K ≠ 0 ∧ D ≠ 0 ∧ U ≠ []) ∨ (K ≠ 0 ∧ D ≠ 0 ∧ U = []) ∨ (K ≠ 0 ∧ D = 0 ∧ U ≠ []) ∨ (K = 0 ∧ D ≠ 0 ∧ U ≠ []) ∨ (K = 0 ∧ D = 0 ∧ U = []) ∨ (K < 0 ∧ D = 0 ∧ U = []) ∨ (K = 0 ∧ D < 0 ∧ U = []) := by
  unfold oneB at h
  by_cases h1 : K = 0 <;> by_cases h2 : D = 0 <;> by_cases h3 : U = [] <;> simp [h1, h2, h3] at h ⊢ <;> omega

set_option maxRecDepth 100000 in
set_option maxHeartbeats 4000000 in
theorem refCheck_any (v : Value) (ps : List Pt) (N : Int) (w : World) (hr : opAt w v ps) (hwf : ∀ p ∈ ps, wfP p) (hsm : ∀ p ∈ ps, p.put.length < 100000000) (hN : -9223372036854775808 ≤ N ∧ N < 9223372036854775808) (hl : ps.length < 10000000) :
    Calls Tryz.prog 36 #[v, .int .i64 N] w fun e w' => e = .returned (.int .i64 (chkE ps N)) ∧ Below w.heap.size w w' := by
  obtain ⟨p, c, rfl, r1, r2, r3⟩ := hr
  obtain ⟨n, hn⟩ : ∃ n, n = ps.length := ⟨_, rfl⟩
  rw [← hn] at r1 hl ⊢
  have HN : Hid (n = ps.length) := hn
  clear hn
  have R3 : Hid (ps ≠ [] → ∃ b o, p = some ⟨b, o, none⟩ ∧ b < w.heap.size ∧ ∀ i q, ps[i]? = some q →
    w.cell? ⟨b, o + i * 3, none⟩ = some (.int .i64 q.keep) ∧ w.cell? ⟨b, o + i * 3 + 1, none⟩ = some (.int .i64 q.drop) ∧ w.cell? ⟨b, o + i * 3 + 2, none⟩ = some (.string ⟨q.put.toArray⟩)) := r3
  have HWF : Hid (∀ p ∈ ps, wfP p) := hwf
  have HSM : Hid (∀ p ∈ ps, p.put.length < 100000000) := hsm
  obtain ⟨hN0, hN1⟩ := hN
  clear r3 hwf hsm
  go_enter Tryz.func36, Tryz.ntmps36
  go_wp2
  go_loopw [14] (fun i wr => ∃ (k : Nat), k ≤ n ∧ i = .int .i64 k ∧ chk1 ps = chk1 (ps.drop k) ∧ Below w.heap.size w wr) (fun i _ => n - (intOf i).toNat)
  case atStart => exact ⟨0, Nat.zero_le _, rfl, rfl, Below.refl _ _⟩
  case round =>
    obtain ⟨k, hk, rfl, hch, hwr⟩ := hrel
    by_cases hlt : k < n
    · have hkr : k < ps.length := by rw [← HN.out]; exact hlt
      have hne : ps ≠ [] := by intro e; rw [e] at hkr; exact absurd hkr (Nat.not_lt_zero _)
      obtain ⟨b, o, rfl, hbw, hcell⟩ := R3.out hne
      obtain ⟨c0, c1, c2⟩ := hcell k ps[k] (List.getElem?_eq_getElem hkr)
      have g0 := (hwr.cell (p := ⟨b, o + k * 3, none⟩) hbw).trans c0
      have g1 := (hwr.cell (p := ⟨b, o + k * 3 + 1, none⟩) hbw).trans c1
      have g2 := (hwr.cell (p := ⟨b, o + k * 3 + 2, none⟩) hbw).trans c2
      rw [List.drop_eq_getElem_cons hkr, chk1] at hch
      have hwq := HWF.out ps[k] (List.getElem_mem _)
      have hsm := HSM.out ps[k] (List.getElem_mem _)
      generalize ps[k] = q at *
      obtain ⟨K, D, U⟩ := q
      have hsize := hwr.size
      have HWR : Hid (Below w.heap.size w wr) := hwr
      have HBA : Hid (∀ o w2, Below (wr.alloc o).heap.size (wr.alloc o) w2 → Below w.heap.size w w2) := fun o w2 h => (hwr.alloc hsize o).trans (h.mono (hwr.alloc hsize o).size)
      have HBO : Hid (∀ o, Below w.heap.size w (wr.alloc o)) := fun o => hwr.alloc hsize o
      have cR' := fun wx => refRunes_told ⟨U.toArray⟩ (by simpa [ByteArray.size] using hsm) wx
      simp only at hch cR' g0 g1 g2
      by_cases h1 : oneB ⟨K, D, U⟩ = true
      · rw [if_pos h1] at hch
        by_cases h2 : (scan U).2 = true
        · rw [if_pos h2] at hch
          simp only [h2, if_true] at cR'
          have HCH : Hid (chk1 ps = chk1 (ps.drop (k + 1))) := hch
          have hsh := one_shapes h1
          clear hcell c0 c1 c2 hch hwq hwr HWF HSM h1 h2 hsm
          rcases hsh with ⟨rfl, rfl, s⟩ | ⟨rfl, rfl, s⟩ | ⟨rfl, rfl, s⟩
          · have sb : (K == 0) = false := beq_eq_false_iff_ne.2 (by omega)
            have sn : ¬ K < 0 := by omega
            have cR : ∀ wx, Calls Tryz.prog 30 #[.string ⟨#[]⟩] wx fun e w' => ∃ p n c d, e = .returned (.tuple #[.slice p n c, .agg #[.int .i64 0, .int .i64 d]]) ∧ Below wx.heap.size wx w' := cR'
            clear cR'
            go_wp2_with (first | (go_at_call 30; refine (cR _).mono ?_; rintro e w2 ⟨pp, nn, cc, dd, rfl, hb2⟩; have HB2 : Hid (Below w.heap.size w w2) := HBA.out _ _ hb2; clear hb2) | fail)
            go_roundw
            case rel => exact ⟨k + 1, by omega, by go_num, HCH.out, HB2.out.alloc HB2.out.size _⟩
            case measure => simp [intOf]; omega
          · have sb : (D == 0) = false := beq_eq_false_iff_ne.2 (by omega)
            have sn : ¬ D < 0 := by omega
            have cR : ∀ wx, Calls Tryz.prog 30 #[.string ⟨#[]⟩] wx fun e w' => ∃ p n c d, e = .returned (.tuple #[.slice p n c, .agg #[.int .i64 0, .int .i64 d]]) ∧ Below wx.heap.size wx w' := cR'
            clear cR'
            go_wp2_with (first | (go_at_call 30; refine (cR _).mono ?_; rintro e w2 ⟨pp, nn, cc, dd, rfl, hb2⟩; have HB2 : Hid (Below w.heap.size w w2) := HBA.out _ _ hb2; clear hb2) | fail)
            go_roundw
            case rel => exact ⟨k + 1, by omega, by go_num, HCH.out, HB2.out.alloc HB2.out.size _⟩
            case measure => simp [intOf]; omega
          · have cR := cR'
            have sU : U.isEmpty = false := by simpa using s
            clear cR'
            go_wp2_with (first | (go_at_call 30; refine (cR _).mono ?_; rintro e w2 ⟨pp, nn, cc, dd, rfl, hb2⟩; have HB2 : Hid (Below w.heap.size w w2) := HBA.out _ _ hb2; clear hb2) | fail)
            go_roundw
            case rel => exact ⟨k + 1, by omega, by go_num, HCH.out, HB2.out.alloc HB2.out.size _⟩
            case measure => simp [intOf]; omega
        · have h2 : (scan U).2 = false := Bool.eq_false_iff.2 h2
          have hU : U ≠ [] := by intro e; rw [e] at h2; cases h2
          rw [h2] at hch
          simp only [h2, Bool.false_eq_true, if_false] at cR'
          have HCH : Hid (chk1 ps = 3) := by show chk1 ps = 3; simpa using hch
          have hsh := one_shapes h1
          clear hcell c0 c1 c2 hch hwq hwr HWF HSM h1 h2 hsm
          rcases hsh with ⟨rfl, rfl, s⟩ | ⟨rfl, rfl, s⟩ | ⟨rfl, rfl, s⟩
          · exact absurd rfl hU
          · exact absurd rfl hU
          · have cR := cR'
            have sU : U.isEmpty = false := by simpa using s
            clear cR'
            go_wp2_with (first | (go_at_call 30; refine (cR _).mono ?_; rintro e w2 ⟨pp, nn, cc, dd, rfl, hb2⟩; have HB2 : Hid (Below w.heap.size w w2) := HBA.out _ _ hb2; clear hb2) | fail)
            go_ret
            refine ⟨?_, HB2.out.alloc HB2.out.size _⟩
            unfold chkE
            rw [HCH.out]
            rfl
      · have h1 : oneB ⟨K, D, U⟩ = false := Bool.eq_false_iff.2 h1
        rw [h1] at hch
        have HCH : Hid (chk1 ps = 1) := by show chk1 ps = 1; simpa using hch
        have hsh := none_shapes h1
        clear hcell c0 c1 c2 hch hwq hwr HWF HSM h1 hsm cR'
        rcases hsh with ⟨s1, s2, s3⟩ | ⟨s1, s2, rfl⟩ | ⟨s1, rfl, s3⟩ | ⟨rfl, s2, s3⟩ | ⟨rfl, rfl, rfl⟩ | ⟨s1, rfl, rfl⟩ | ⟨rfl, s2, rfl⟩
        · have kb : (K == 0) = false := beq_eq_false_iff_ne.2 (by omega)
          have db : (D == 0) = false := beq_eq_false_iff_ne.2 (by omega)
          have sU : U.isEmpty = false := by simpa using s3
          go_wp2
          go_ret
          refine ⟨?_, HBO.out _⟩
          unfold chkE
          rw [HCH.out]
          rfl
        · have kb : (K == 0) = false := beq_eq_false_iff_ne.2 (by omega)
          have db : (D == 0) = false := beq_eq_false_iff_ne.2 (by omega)
          go_wp2
          go_ret
          refine ⟨?_, HBO.out _⟩
          unfold chkE
          rw [HCH.out]
          rfl
        · have kb : (K == 0) = false := beq_eq_false_iff_ne.2 (by omega)
          have sU : U.isEmpty = false := by simpa using s3
          go_wp2
          go_ret
          refine ⟨?_, HBO.out _⟩
          unfold chkE
          rw [HCH.out]
          rfl
        · have db : (D == 0) = false := beq_eq_false_iff_ne.2 (by omega)
          have sU : U.isEmpty = false := by simpa using s3
          go_wp2
          go_ret
          refine ⟨?_, HBO.out _⟩
          unfold chkE
          rw [HCH.out]
          rfl
        · have t0 := HBO.out
          clear t0
          go_wp2
          go_ret
          refine ⟨?_, HBO.out _⟩
          unfold chkE
          rw [HCH.out]
          rfl
        · have kb : (K == 0) = false := beq_eq_false_iff_ne.2 (by omega)
          go_wp2
          go_ret
          refine ⟨?_, HBO.out _⟩
          unfold chkE
          rw [HCH.out]
          rfl
        · have db : (D == 0) = false := beq_eq_false_iff_ne.2 (by omega)
          go_wp2
          go_ret
          refine ⟨?_, HBO.out _⟩
          unfold chkE
          rw [HCH.out]
          rfl
    · have e : ps.drop k = [] := List.drop_of_length_le (by rw [← HN.out]; omega)
      rw [e] at hch
      have H0 : Hid (chk1 ps = 0) := hch
      have HWR : Hid (Below w.heap.size w wr) := hwr
      have HON : Hid (∀ p ∈ ps, soundP p ∧ (p.keep = 0 ∨ p.drop = 0)) := fun p hp => one_sound (chk1_ones hch p hp).1
      clear e hch hwr
      go_wp2
      go_loopw [1, 57] (fun m i wr => ∃ (k : Nat) (M : Int), k ≤ n ∧ i = .int .i64 k ∧ m = .int .i64 M ∧ -9223372036854775808 ≤ M ∧ M < 9223372036854775808 ∧ chk2 ps N = chk2 (ps.drop k) M ∧ Below w.heap.size w wr) (fun _ i _ => n - (intOf i).toNat)
      case atStart => exact ⟨0, N, Nat.zero_le _, rfl, rfl, hN0, hN1, rfl, HWR.out⟩
      case round =>
        obtain ⟨k, M, hk, rfl, rfl, hM0, hM1, hch, hwr⟩ := hrel
        by_cases hlt : k < n
        · have hkr : k < ps.length := by rw [← HN.out]; exact hlt
          have hne : ps ≠ [] := by intro e; rw [e] at hkr; exact absurd hkr (Nat.not_lt_zero _)
          obtain ⟨b, o, rfl, hbw, hcell⟩ := R3.out hne
          obtain ⟨c0, c1, c2⟩ := hcell k ps[k] (List.getElem?_eq_getElem hkr)
          have g0 := (hwr.cell (p := ⟨b, o + k * 3, none⟩) hbw).trans c0
          have g1 := (hwr.cell (p := ⟨b, o + k * 3 + 1, none⟩) hbw).trans c1
          have g2 := (hwr.cell (p := ⟨b, o + k * 3 + 2, none⟩) hbw).trans c2
          rw [List.drop_eq_getElem_cons hkr, chk2] at hch
          have hwq := HWF.out ps[k] (List.getElem_mem _)
          have hon := HON.out ps[k] (List.getElem_mem _)
          generalize ps[k] = q at *
          obtain ⟨⟨s0, s1⟩, s2⟩ := hon
          have hsum0 : 0 ≤ q.keep + q.drop := by omega
          have hsum1 : q.keep + q.drop < 9223372036854775808 := by have := hwq.2.1; have := hwq.2.2.2.1; omega
          have hw1 : IntKind.i64.wrap (q.keep + q.drop) = q.keep + q.drop := by rw [IntKind.wrap_i64]; omega
          have HB0 : Hid (Below w.heap.size w (wr.alloc (.cells #[.int .i64 q.keep, .int .i64 q.drop, .string ⟨q.put.toArray⟩] 50))) := hwr.alloc hwr.size _
          by_cases h1 : M < q.keep + q.drop
          · rw [if_pos h1] at hch
            have HCH : Hid (chk2 ps N = 2) := hch
            by_cases hK : M < q.keep
            · clear hcell c0 c1 c2 hch hwq hwr HWF HSM s2 hw1
              go_wp2
              go_ret
              refine ⟨?_, HB0.out⟩
              unfold chkE
              rw [if_pos H0.out, HCH.out]
              rfl
            · have hD : M < q.drop := by omega
              clear hcell c0 c1 c2 hch hwq hwr HWF HSM s2 hw1
              go_wp2
              go_ret
              refine ⟨?_, HB0.out⟩
              unfold chkE
              rw [if_pos H0.out, HCH.out]
              rfl
          · rw [if_neg h1, ← Int.sub_sub] at hch
            have HCH : Hid (chk2 ps N = chk2 (ps.drop (k + 1)) (M - q.keep - q.drop)) := hch
            have hK : ¬ M < q.keep := by omega
            have hD : ¬ M < q.drop := by omega
            have hw2 : IntKind.i64.wrap (M - q.keep) = M - q.keep := by rw [IntKind.wrap_i64]; omega
            have hw3 : IntKind.i64.wrap (M - q.keep - q.drop) = M - q.keep - q.drop := by rw [IntKind.wrap_i64]; omega
            clear hcell c0 c1 c2 hch hwq hwr HWF HSM s2 hw1
            go_wp2
            go_roundw
            case rel => exact ⟨k + 1, M - q.keep - q.drop, by omega, by go_num, by first | rfl | go_num, by omega, by omega, HCH.out, HB0.out⟩
            case measure => simp [intOf]; omega
        · have e : ps.drop k = [] := List.drop_of_length_le (by rw [← HN.out]; omega)
          rw [e, chk2] at hch
          have HX : Hid (Below w.heap.size w wr) := hwr
          by_cases h0 : M = 0
          · rw [if_pos h0] at hch
            subst h0
            have HCH : Hid (chk2 ps N = 0) := hch
            clear e hch hwr
            go_wp2
            go_ret
            refine ⟨?_, HX.out⟩
            unfold chkE
            rw [if_pos H0.out, HCH.out]
            rfl
          · rw [if_neg h0] at hch
            have hmb : (M == 0) = false := beq_eq_false_iff_ne.2 h0
            have HCH : Hid (chk2 ps N = 2) := hch
            clear e hch hwr
            go_wp2
            go_ret
            refine ⟨?_, HX.out⟩
            unfold chkE
            rw [if_pos H0.out, HCH.out]
            rfl
end Go.Proofs.YtedonckeomccpabGreatDoor
