/-
  The closures of utf.Halves and utf.Count; utf.Plus, utf.countsOf; then utf.Runes, utf.Halves, utf.Count: what they return of any text.
  utf.Runes, utf.Halves, utf.Count: what they return of any text.
  utf.Text and utf.FromHalves: what they return of any slice.
-/
import Derived.Test.YtedonckeomccpaaDoorPartA
import Derived.Laws.IdiomStrings
import Derived.Lib.UnsafeStr
namespace Go.Proofs.YtedonckeomccpaaDoor
open Go.RowKit

theorem halCells_one {r : Nat} (h : r < 65536) : halCells r = [.int .u16 r] := by simp [halCells, hal, h]
theorem halCells_two {r : Nat} (h : ¬ r < 65536) : halCells r = [.int .u16 (55296 + ((r : Int) - 65536) / 1024), .int .u16 (56320 + ((r : Int) - 65536) % 1024)] := by
  simp only [halCells, hal, h, if_false, List.map_cons, List.map_nil]
  rw [show ((55296 + (r - 65536) / 1024 : Nat) : Int) = 55296 + ((r : Int) - 65536) / 1024 by omega, show ((56320 + (r - 65536) % 1024 : Nat) : Int) = 56320 + ((r : Int) - 65536) % 1024 by omega]
theorem halCells_le (r : Nat) : (halCells r).length ≤ 2 := by
  by_cases h : r < 65536
  · rw [halCells_one h]; simp
  · rw [halCells_two h]; simp

theorem appendHalves_any (r : Nat) (h2 : r ≤ 1114111) (B n : Nat) (w : World) (v : Value) (xs : List Value) (hown : w.ownsRow B 59 1 v n xs) (hlen : n < 1000000000) (hB : B ≤ w.heap.size) :
    Calls Tryd.prog 66 #[v, .int .i32 r] w fun e w' => ∃ p c o m, e = .returned (.slice p m c) ∧ m = n + (halCells r).length ∧ w'.ownsRow B 59 1 (.slice p m c) m (xs ++ halCells r) ∧ (w.alloc o).grownBy w' v.ownBlock := by
  by_cases h : r < 65536
  · rw [halCells_one h]
    refine (appendHalves_one r (by omega) (by omega) B n w v xs hown hlen hB).mono ?_
    rintro e w' ⟨v', o, rfl, h1, h2⟩
    obtain ⟨p, c, rfl⟩ := own_slice h1
    exact ⟨p, c, o, _, rfl, rfl, h1, h2⟩
  · rw [halCells_two h]
    refine (appendHalves_two r (by omega) (by omega) B n w v xs hown hlen hB).mono ?_
    rintro e w' ⟨v', o, rfl, h1, h2⟩
    obtain ⟨p, c, rfl⟩ := own_slice h1
    exact ⟨p, c, o, _, rfl, rfl, h1, h2⟩

set_option maxHeartbeats 400000 in
theorem halves1_any (r : Nat) (hr : r ≤ 1114111) (n : Int) (a : Nat) (w : World) (xs : List Value) (h : gathers w 59 a xs) (hlen : xs.length < 1000000000) :
    Calls Tryd.prog 65 #[.int .i32 r, .int .i64 n, .pointer (some ⟨a, 0, none⟩)] w fun e w' => e = .returned (.bool true) ∧ gathers w' 59 a (xs ++ halCells r) ∧ Below a w w' := by
  have hlt := gathers_lt h
  obtain ⟨p, c, hc, hf, hown⟩ := h
  have cA := appendHalves_any r hr (a + 1) xs.length w _ xs hown hlen hlt
  obtain ⟨ys, hys⟩ : ∃ ys, ys = halCells r := ⟨_, rfl⟩
  rw [← hys] at cA ⊢
  clear hr hys
  generalize (r : Int) = R at cA ⊢
  have NX := fun (w1 : World) (o : Obj) (v' : Value) => @gathers_next w w1 59 a xs ys p c o v' hlt hf hc hown
  have HN : Hid (∀ (w1 : World) (o : Obj) (v' : Value), w1.ownsRow (a + 1) 59 1 v' (xs.length + ys.length) (xs ++ ys) → (w.alloc o).grownBy w1 (Value.slice p xs.length c).ownBlock → _) := NX
  clear NX hown
  go_enter Tryd.func65, Tryd.ntmps65
  go_wp2_with (first | (go_at_call 66; refine cA.mono ?_; rintro e w1 ⟨p', c', o, m, rfl, hm, hown1, hg⟩; have Rs := HN.out w1 o _ (by rw [← hm]; exact hown1) hg; obtain ⟨R1, R2, R3, R4, R5⟩ := Rs; clear hown1 hg hm) | fail)
  go_ret
  exact ⟨rfl, R1, R2⟩

set_option maxHeartbeats 400000 in
theorem plus_any (a1 a2 a3 a4 b1 b2 b3 b4 : Int) (w : World) :
    Calls Tryd.prog 23 #[.agg #[.int .i64 a1, .int .i64 a2, .int .i64 a3, .int .i64 a4], .agg #[.int .i64 b1, .int .i64 b2, .int .i64 b3, .int .i64 b4]] w
      fun e w' => e = .returned (.agg #[.int .i64 (wrap64 (a1 + b1)), .int .i64 (wrap64 (a2 + b2)), .int .i64 (wrap64 (a3 + b3)), .int .i64 (wrap64 (a4 + b4))]) ∧ Below w.heap.size w w' := by
  go_enter Tryd.func23, Tryd.ntmps23
  go_wp2
  refine bodyPost_ret (v := .agg #[.int .i64 (wrap64 (a1 + b1)), .int .i64 (wrap64 (a2 + b2)), .int .i64 (wrap64 (a3 + b3)), .int .i64 (wrap64 (a4 + b4))]) (by simp [results, Tryd.results23, go_sem]) rfl ⟨rfl, ?_⟩
  exact (((Below.refl _ _).alloc (Nat.le_refl _) _).alloc (by simp) _).alloc (by simp [Nat.le_add_right, Nat.add_assoc]) _

/-- What one rune counts in halves, and in lines. -/
def cH (r : Nat) : Int := if r < 65536 then 1 else 2
def cL (r : Nat) : Int := if r = 10 then 1 else 0

set_option maxHeartbeats 400000 in
theorem countsOf_any (r : Nat) (n : Int) (w : World) :
    Calls Tryd.prog 68 #[.int .i32 r, .int .i64 n] w
      fun e w' => e = .returned (.agg #[.int .i64 n, .int .i64 (cH r), .int .i64 1, .int .i64 (cL r)]) ∧ Below w.heap.size w w' := by
  by_cases h1 : r < 65536
  · have e1 : cH r = 1 := if_pos h1
    by_cases h2 : r = 10
    · have e2 : cL r = 1 := if_pos h2
      rw [e1, e2]
      subst h2
      clear h1 e1 e2
      go_enter Tryd.func68, Tryd.ntmps68
      go_wp2
      refine bodyPost_ret (v := .agg #[.int .i64 n, .int .i64 1, .int .i64 1, .int .i64 1]) (by simp [results, Tryd.results68, go_sem]) rfl ⟨rfl, ?_⟩
      exact ((Below.refl _ _).alloc (Nat.le_refl _) _).alloc (by simp) _
    · have e2 : cL r = 0 := if_neg h2
      rw [e1, e2]
      have k1 : (r : Int) < 65536 := by omega
      have k2 : ((r : Int) == 10) = false := by rw [beq_eq_false_iff_ne]; omega
      clear e1 e2 h1 h2
      generalize (r : Int) = R at k1 k2 ⊢
      go_enter Tryd.func68, Tryd.ntmps68
      go_wp2
      refine bodyPost_ret (v := .agg #[.int .i64 n, .int .i64 1, .int .i64 1, .int .i64 0]) (by simp [results, Tryd.results68, go_sem]) rfl ⟨rfl, ?_⟩
      exact ((Below.refl _ _).alloc (Nat.le_refl _) _).alloc (by simp) _
  · have e1 : cH r = 2 := if_neg h1
    have e2 : cL r = 0 := if_neg (by omega)
    rw [e1, e2]
    · have k1 : ¬ (r : Int) < 65536 := by omega
      have k2 : ((r : Int) == 10) = false := by rw [beq_eq_false_iff_ne]; omega
      clear e1 e2 h1
      generalize (r : Int) = R at k1 k2 ⊢
      go_enter Tryd.func68, Tryd.ntmps68
      go_wp2
      refine bodyPost_ret (v := .agg #[.int .i64 n, .int .i64 2, .int .i64 1, .int .i64 0]) (by simp [results, Tryd.results68, go_sem]) rfl ⟨rfl, ?_⟩
      exact ((Below.refl _ _).alloc (Nat.le_refl _) _).alloc (by simp) _

/-- The variable in block a holds these counts. -/
def counted (w : World) (a : Nat) (n1 n2 n3 n4 : Int) : Prop :=
  (w.cell? ⟨a, 0, none⟩ = some (.int .i64 n1) ∧ w.cell? ⟨a, 1, none⟩ = some (.int .i64 n2) ∧ w.cell? ⟨a, 2, none⟩ = some (.int .i64 n3) ∧ w.cell? ⟨a, 3, none⟩ = some (.int .i64 n4)) ∧
  (w.frozen? ⟨a, 0, none⟩ = false ∧ w.frozen? ⟨a, 1, none⟩ = false ∧ w.frozen? ⟨a, 2, none⟩ = false ∧ w.frozen? ⟨a, 3, none⟩ = false)

theorem counted_lt {w : World} {a : Nat} {n1 n2 n3 n4 : Int} (h : counted w a n1 n2 n3 n4) : a < w.heap.size := World.block_lt_of_cell? w _ h.1.1
theorem counted_old {B : Nat} {w w' : World} {a : Nat} {n1 n2 n3 n4 : Int} (h : counted w a n1 n2 n3 n4) (hb : Below B w w') (hlt : a < B) : counted w' a n1 n2 n3 n4 := by
  obtain ⟨⟨a0, a1, a2, a3⟩, b0, b1, b2, b3⟩ := h
  refine ⟨⟨?_, ?_, ?_, ?_⟩, ?_, ?_, ?_, ?_⟩
  · rw [hb.cell (p := ⟨a, 0, none⟩) hlt]; exact a0
  · rw [hb.cell (p := ⟨a, 1, none⟩) hlt]; exact a1
  · rw [hb.cell (p := ⟨a, 2, none⟩) hlt]; exact a2
  · rw [hb.cell (p := ⟨a, 3, none⟩) hlt]; exact a3
  · rw [hb.frozen (p := ⟨a, 0, none⟩) hlt]; exact b0
  · rw [hb.frozen (p := ⟨a, 1, none⟩) hlt]; exact b1
  · rw [hb.frozen (p := ⟨a, 2, none⟩) hlt]; exact b2
  · rw [hb.frozen (p := ⟨a, 3, none⟩) hlt]; exact b3
theorem counted_below {w w' : World} {a : Nat} {n1 n2 n3 n4 : Int} (h : counted w a n1 n2 n3 n4) (hb : Below w.heap.size w w') : counted w' a n1 n2 n3 n4 := counted_old h hb (counted_lt h)

theorem counted_set {w : World} {a : Nat} {n1 n2 n3 n4 m1 m2 m3 m4 : Int} (h : counted w a n1 n2 n3 n4) :
    counted ((((w.setCell ⟨a, 0, none⟩ (.int .i64 m1)).setCell ⟨a, 1, none⟩ (.int .i64 m2)).setCell ⟨a, 2, none⟩ (.int .i64 m3)).setCell ⟨a, 3, none⟩ (.int .i64 m4)) a m1 m2 m3 m4 := by
  obtain ⟨⟨a0, a1, a2, a3⟩, b0, b1, b2, b3⟩ := h
  refine ⟨⟨?_, ?_, ?_, ?_⟩, ?_, ?_, ?_, ?_⟩
  all_goals simp [go_sem, a0, a1, a2, a3, b0, b1, b2, b3]
theorem below_set {B : Nat} {w w' : World} {a : Nat} (hb : Below B w w') (hB : B ≤ a) (v1 v2 v3 v4 : Value) :
    Below B w ((((w'.setCell ⟨a, 0, none⟩ v1).setCell ⟨a, 1, none⟩ v2).setCell ⟨a, 2, none⟩ v3).setCell ⟨a, 3, none⟩ v4) :=
  (((hb.setCell (p := ⟨a, 0, none⟩) hB _).setCell (p := ⟨a, 1, none⟩) hB _).setCell (p := ⟨a, 2, none⟩) hB _).setCell (p := ⟨a, 3, none⟩) hB _

set_option maxHeartbeats 1000000 in
theorem count1_any (r : Nat) (n : Int) (a : Nat) (w : World) (n1 n2 n3 n4 : Int) (h : counted w a n1 n2 n3 n4) :
    Calls Tryd.prog 67 #[.int .i32 r, .int .i64 n, .pointer (some ⟨a, 0, none⟩)] w fun e w' => e = .returned (.bool true) ∧
      counted w' a (wrap64 (n1 + n)) (wrap64 (n2 + cH r)) (wrap64 (n3 + 1)) (wrap64 (n4 + cL r)) ∧ Below a w w' := by
  have hlt := counted_lt h
  have HC : Hid (counted w a n1 n2 n3 n4) := h
  obtain ⟨⟨a0, a1, a2, a3⟩, b0, b1, b2, b3⟩ := h
  have cO := fun (w : World) => countsOf_any r n w
  generalize cH r = x2 at cO ⊢
  generalize cL r = x4 at cO ⊢
  generalize (r : Int) = R at cO ⊢
  go_enter Tryd.func67, Tryd.ntmps67
  go_wp2
  go_region_with (first | (go_at_call 68; refine (cO _).mono ?_; rintro e w1 ⟨rfl, hb1⟩; have HC1 : counted w1 a n1 n2 n3 n4 := counted_old (w := w.drew) HC.out hb1 hlt; have HD1 : Hid (counted w1 a n1 n2 n3 n4) := HC1; obtain ⟨⟨c0, c1, c2, c3⟩, d0, d1, d2, d3⟩ := HC1) | (go_at_call 23; refine (plus_any _ _ _ _ _ _ _ _ _).mono ?_; rintro e w2 ⟨rfl, hb2⟩; have HC2 : counted w2 a n1 n2 n3 n4 := counted_old (w := w1) HD1.out hb2 (Nat.lt_of_lt_of_le hlt hb1.size); have HD2 : Hid (counted w2 a n1 n2 n3 n4) := HC2; obtain ⟨⟨c0, c1, c2, c3⟩, d0, d1, d2, d3⟩ := HC2))
  all_goals
    have hbb : Below a w w2 := (Below.drew (Below.refl a w)).trans ((hb1.trans (hb2.mono hb1.size)).mono (Nat.le_of_lt hlt))
    clear a0 a1 a2 a3 b0 b1 b2 b3 HC HD1 hb1 hb2 c0 c1 c2 c3 d0 d1 d2 d3
    go_wp2
    go_ret
    exact ⟨rfl, counted_set HD2.out, below_set hbb (Nat.le_refl _) _ _ _ _⟩

/-! ### What is gathered over runes -/
def cellsOf21 (l : List (Nat × Nat)) : List Value := l.map fun p => Value.int .i32 (p.1 : Int)
def cellsOf59 (l : List (Nat × Nat)) : List Value := l.flatMap fun p => halCells p.1
def sum1 (l : List (Nat × Nat)) : Int := (l.map fun p => (p.2 : Int)).sum
def sum2 (l : List (Nat × Nat)) : Int := (l.map fun p => cH p.1).sum
def sum4 (l : List (Nat × Nat)) : Int := (l.map fun p => cL p.1).sum

theorem runes_takes (W : World) (a : Nat) (l : List (Nat × Nat)) (ha : W.heap.size ≤ a) (hl : l.length < 1000000000) :
    Takes W 64 #[.pointer (some ⟨a, 0, none⟩)] l fun done w => gathers w 21 a (cellsOf21 done) where
  enters := enters_of Tryd.func64 (by kernel_rfl) rfl
  stays := fun _ _ _ h hb => gathers_below h hb
  step := fun done p rest e w hI hw => by
    have hlen : (cellsOf21 done).length < 1000000000 := by
      have := congrArg List.length e
      rw [List.length_append] at this
      unfold cellsOf21
      rw [List.length_map]
      omega
    refine (runes1_any p.1 p.2 a w _ hI hlen).mono ?_
    rintro e w' ⟨rfl, h1, h2⟩
    refine ⟨rfl, ?_, hw.trans (h2.mono ha)⟩
    unfold cellsOf21
    rw [List.map_append]
    exact h1

theorem cellsOf59_le (l : List (Nat × Nat)) : (cellsOf59 l).length ≤ 2 * l.length := by
  induction l with
  | nil => simp [cellsOf59]
  | cons p l ih =>
    have := halCells_le p.1
    unfold cellsOf59 at ih ⊢
    rw [List.flatMap_cons, List.length_append, List.length_cons]
    omega

theorem halves_takes (W : World) (a : Nat) (l : List (Nat × Nat)) (ha : W.heap.size ≤ a) (hl : l.length < 500000000) (hr : ∀ p ∈ l, isRune p.1) :
    Takes W 65 #[.pointer (some ⟨a, 0, none⟩)] l fun done w => gathers w 59 a (cellsOf59 done) where
  enters := enters_of Tryd.func65 (by kernel_rfl) rfl
  stays := fun _ _ _ h hb => gathers_below h hb
  step := fun done p rest e w hI hw => by
    have hlen : (cellsOf59 done).length < 1000000000 := by
      have := congrArg List.length e
      rw [List.length_append] at this
      have := cellsOf59_le done
      omega
    have hp : p.1 ≤ 1114111 := by
      have := hr p (by rw [e]; simp)
      unfold isRune at this
      omega
    refine (halves1_any p.1 hp p.2 a w _ hI hlen).mono ?_
    rintro e w' ⟨rfl, h1, h2⟩
    refine ⟨rfl, ?_, hw.trans (h2.mono ha)⟩
    unfold cellsOf59
    rw [List.flatMap_append, List.flatMap_cons, List.flatMap_nil, List.append_nil]
    exact h1

theorem cH_le (r : Nat) : 0 ≤ cH r ∧ cH r ≤ 2 := by unfold cH; split <;> omega
theorem cL_le (r : Nat) : 0 ≤ cL r ∧ cL r ≤ 1 := by unfold cL; split <;> omega
theorem sum2_le (l : List (Nat × Nat)) : 0 ≤ sum2 l ∧ sum2 l ≤ 2 * l.length := by
  induction l with
  | nil => simp [sum2]
  | cons p l ih => have := cH_le p.1; unfold sum2 at ih ⊢; rw [List.map_cons, List.sum_cons, List.length_cons]; omega
theorem sum4_le (l : List (Nat × Nat)) : 0 ≤ sum4 l ∧ sum4 l ≤ l.length := by
  induction l with
  | nil => simp [sum4]
  | cons p l ih => have := cL_le p.1; unfold sum4 at ih ⊢; rw [List.map_cons, List.sum_cons, List.length_cons]; omega
theorem sum1_le (l : List (Nat × Nat)) (h : ∀ p ∈ l, p.2 ≤ 4) : 0 ≤ sum1 l ∧ sum1 l ≤ 4 * l.length := by
  induction l with
  | nil => simp [sum1]
  | cons p l ih =>
    have h1 := h p (by simp)
    have := ih fun q hq => h q (by simp [hq])
    unfold sum1 at this ⊢; rw [List.map_cons, List.sum_cons, List.length_cons]; omega
theorem wrap64_small {n : Int} (h0 : 0 ≤ n) (h1 : n < 9223372036854775808) : wrap64 n = n := by unfold wrap64; omega

theorem count_takes (W : World) (a : Nat) (l : List (Nat × Nat)) (ha : W.heap.size ≤ a) (hl : l.length < 1000000000) (hr : ∀ p ∈ l, p.2 ≤ 4) :
    Takes W 67 #[.pointer (some ⟨a, 0, none⟩)] l fun done w => counted w a (sum1 done) (sum2 done) (done.length : Int) (sum4 done) where
  enters := enters_of Tryd.func67 (by kernel_rfl) rfl
  stays := fun _ _ _ h hb => counted_below h hb
  step := fun done p rest e w hI hw => by
    have hlen := congrArg List.length e
    rw [List.length_append] at hlen
    have h1 := sum1_le done fun q hq => hr q (by rw [e]; simp [hq])
    have h2 := sum2_le done
    have h4 := sum4_le done
    have hp := hr p (by rw [e]; simp)
    have hp2 := cH_le p.1
    have hp4 := cL_le p.1
    refine (count1_any p.1 p.2 a w _ _ _ _ hI).mono ?_
    rintro e w' ⟨rfl, k1, k2⟩
    refine ⟨rfl, ?_, hw.trans (k2.mono ha)⟩
    rw [wrap64_small (by omega) (by omega), wrap64_small (by omega) (by omega), wrap64_small (by omega) (by omega), wrap64_small (by omega) (by omega)] at k1
    have e1 : sum1 (done ++ [p]) = sum1 done + p.2 := by simp [sum1]
    have e2 : sum2 (done ++ [p]) = sum2 done + cH p.1 := by simp [sum2]
    have e3 : (((done ++ [p]).length : Nat) : Int) = done.length + 1 := by simp
    have e4 : sum4 (done ++ [p]) = sum4 done + cL p.1 := by simp [sum4]
    rw [e1, e2, e3, e4]
    exact k1
end Go.Proofs.YtedonckeomccpaaDoor

namespace Go.Proofs.YtedonckeomccpaaDoor
open Go.RowKit

/-- A slice of new memory that owns the cells xs; or nil, if there are none. -/
def isRow (w w' : World) (e : Nat) (v : Value) (xs : List Value) : Prop := ∃ p c, v = .slice p xs.length c ∧ w'.ownsRow w.heap.size e 1 v xs.length xs

theorem own_mono {w : World} {B B' e size n : Nat} {v : Value} {xs : List Value} (h : w.ownsRow B e size v n xs) (hB : B' ≤ B) : w.ownsRow B' e size v n xs := by
  refine ⟨h.1, ?_⟩
  rcases h.2 with hn | ⟨g, cap, cur, rfl, hg, rest⟩
  · exact .inl hn
  · exact .inr ⟨g, cap, cur, rfl, Nat.le_trans hB hg, rest⟩

set_option maxHeartbeats 1000000 in
theorem Runes_any (s : ByteArray) (hs : s.size < 400000000) (w : World) (hT : Lib.Utf8Tabs 0 1 w) :
    Calls Tryd.prog 13 #[.string s] w fun e w' => ∃ v x, e = .returned (.tuple #[v, x]) ∧ Below w.heap.size w w' ∧
      (((scan s.data.toList).2 = true ∧ x = .nilIface ∧ isRow w w' 21 v (cellsOf21 (scan s.data.toList).1)) ∨
       ((scan s.data.toList).2 = false ∧ v = .slice none 0 0 ∧ isAt w w' x (place s.data.toList))) := by
  have hlen := scan_len s.data.toList
  rw [← Lib.size_eq] at hlen
  have hb0 : Below w.heap.size w (w.alloc (.cells #[.slice none 0 0] 22)) := (Below.refl _ _).alloc (Nat.le_refl _) _
  have cE := each_all s (by unfold maxLen; omega) 64 #[.pointer (some ⟨w.heap.size, 0, none⟩)] w hT _ (runes_takes w w.heap.size (scan s.data.toList).1 (Nat.le_refl _) (by omega)) _ hb0 (gathers_made w 21 22)
  clear hlen hs hb0
  generalize place s.data.toList = pl at cE ⊢
  generalize scan s.data.toList = sc at cE ⊢
  obtain ⟨rs, ok⟩ := sc
  simp only [] at cE ⊢
  generalize cellsOf21 rs = xs at cE ⊢
  go_enter Tryd.func13, Tryd.ntmps13
  go_wp2_with (first | (go_at_call 63; refine cE.mono ?_; rintro e w1 ⟨hb1, ⟨p, c, g1, g2, g3⟩, ⟨rfl, rfl⟩ | ⟨rfl, v, rfl, ⟨b, rfl, v1, v2, v3, v4⟩⟩⟩) | fail)
  · go_ret2
    have hr : isRow w w1 21 (.slice p xs.length c) xs := ⟨_, _, rfl, own_mono g3 (Nat.le_succ _)⟩
    refine ⟨_, _, rfl, hb1, ?_⟩
    first | exact ⟨rfl, hr⟩ | exact .inl ⟨rfl, rfl, hr⟩
  · go_ret2
    have hv : isAt w w1 (.iface 172 (.pointer (some ⟨b, 0, none⟩))) pl := ⟨b, rfl, v1, v2, v3, v4⟩
    refine ⟨_, _, rfl, hb1, ?_⟩
    first | exact ⟨rfl, hv⟩ | exact .inr ⟨rfl, rfl, hv⟩

set_option maxHeartbeats 1000000 in
theorem Halves_any (s : ByteArray) (hs : s.size < 400000000) (w : World) (hT : Lib.Utf8Tabs 0 1 w) :
    Calls Tryd.prog 14 #[.string s] w fun e w' => ∃ v x, e = .returned (.tuple #[v, x]) ∧ Below w.heap.size w w' ∧
      (((scan s.data.toList).2 = true ∧ x = .nilIface ∧ isRow w w' 59 v (cellsOf59 (scan s.data.toList).1)) ∨
       ((scan s.data.toList).2 = false ∧ v = .slice none 0 0 ∧ isAt w w' x (place s.data.toList))) := by
  have hlen := scan_len s.data.toList
  rw [← Lib.size_eq] at hlen
  have hb0 : Below w.heap.size w (w.alloc (.cells #[.slice none 0 0] 32)) := (Below.refl _ _).alloc (Nat.le_refl _) _
  have cE := each_all s (by unfold maxLen; omega) 65 #[.pointer (some ⟨w.heap.size, 0, none⟩)] w hT _ (halves_takes w w.heap.size (scan s.data.toList).1 (Nat.le_refl _) (by omega) fun p hp => ((scan_spec s.data.toList.length _ (Nat.le_refl _)).1 p hp).1) _ hb0 (gathers_made w 59 32)
  clear hlen hs hb0
  generalize place s.data.toList = pl at cE ⊢
  generalize scan s.data.toList = sc at cE ⊢
  obtain ⟨rs, ok⟩ := sc
  simp only [] at cE ⊢
  generalize cellsOf59 rs = xs at cE ⊢
  go_enter Tryd.func14, Tryd.ntmps14
  go_wp2_with (first | (go_at_call 63; refine cE.mono ?_; rintro e w1 ⟨hb1, ⟨p, c, g1, g2, g3⟩, ⟨rfl, rfl⟩ | ⟨rfl, v, rfl, ⟨b, rfl, v1, v2, v3, v4⟩⟩⟩) | fail)
  · go_ret2
    have hr : isRow w w1 59 (.slice p xs.length c) xs := ⟨_, _, rfl, own_mono g3 (Nat.le_succ _)⟩
    refine ⟨_, _, rfl, hb1, ?_⟩
    first | exact ⟨rfl, hr⟩ | exact .inl ⟨rfl, rfl, hr⟩
  · go_ret2
    have hv : isAt w w1 (.iface 172 (.pointer (some ⟨b, 0, none⟩))) pl := ⟨b, rfl, v1, v2, v3, v4⟩
    refine ⟨_, _, rfl, hb1, ?_⟩
    first | exact ⟨rfl, hv⟩ | exact .inr ⟨rfl, rfl, hv⟩

theorem counted_new1 (w : World) : counted ((w.alloc (.cells #[.int .i64 0, .int .i64 0, .int .i64 0, .int .i64 0] 36)).alloc (.cells #[.int .i64 0, .int .i64 0, .int .i64 0, .int .i64 0] 36)) w.heap.size 0 0 0 0 := by
  refine ⟨⟨?_, ?_, ?_, ?_⟩, ?_, ?_, ?_, ?_⟩ <;> simp [go_sem]
theorem counted_new2 (w : World) : counted ((w.alloc (.cells #[.int .i64 0, .int .i64 0, .int .i64 0, .int .i64 0] 36)).alloc (.cells #[.int .i64 0, .int .i64 0, .int .i64 0, .int .i64 0] 36)) (w.heap.size + 1) (sum1 []) (sum2 []) (([] : List (Nat × Nat)).length : Int) (sum4 []) := by
  refine ⟨⟨?_, ?_, ?_, ?_⟩, ?_, ?_, ?_, ?_⟩ <;> simp [go_sem, sum1, sum2, sum4]

theorem count_takes2 (w : World) (l : List (Nat × Nat)) (hl : l.length < 1000000000) (hr : ∀ p ∈ l, p.2 ≤ 4) :
    Takes w 67 #[.pointer (some ⟨w.heap.size + 1, 0, none⟩)] l fun done w' => counted w' (w.heap.size + 1) (sum1 done) (sum2 done) (done.length : Int) (sum4 done) ∧ counted w' w.heap.size 0 0 0 0 := by
  have T := count_takes w (w.heap.size + 1) l (Nat.le_succ _) hl hr
  refine ⟨T.enters, fun done w1 w2 h hb => ⟨T.stays done w1 w2 h.1 hb, counted_below h.2 hb⟩, fun done p rest e w1 hI hw => ?_⟩
  have h1 := sum1_le done fun q hq => hr q (by rw [e]; simp [hq])
  have hlen := congrArg List.length e
  rw [List.length_append] at hlen
  have h2 := sum2_le done
  have h4 := sum4_le done
  have hp := hr p (by rw [e]; simp)
  have hp2 := cH_le p.1
  have hp4 := cL_le p.1
  refine (count1_any p.1 p.2 (w.heap.size + 1) w1 _ _ _ _ hI.1).mono ?_
  rintro e w2 ⟨rfl, k1, k2⟩
  refine ⟨rfl, ⟨?_, counted_old hI.2 k2 (Nat.lt_succ_self _)⟩, hw.trans (k2.mono (Nat.le_succ _))⟩
  rw [wrap64_small (by omega) (by omega), wrap64_small (by omega) (by omega), wrap64_small (by omega) (by omega), wrap64_small (by omega) (by omega)] at k1
  have e1 : sum1 (done ++ [p]) = sum1 done + p.2 := by simp [sum1]
  have e2 : sum2 (done ++ [p]) = sum2 done + cH p.1 := by simp [sum2]
  have e3 : (((done ++ [p]).length : Nat) : Int) = done.length + 1 := by simp
  have e4 : sum4 (done ++ [p]) = sum4 done + cL p.1 := by simp [sum4]
  rw [e1, e2, e3, e4]
  exact k1

/-- Four counts, as a value. -/
def cnt (n1 n2 n3 n4 : Int) : Value := .agg #[.int .i64 n1, .int .i64 n2, .int .i64 n3, .int .i64 n4]

set_option maxHeartbeats 1000000 in
theorem Count_any (s : ByteArray) (hs : s.size < 400000000) (w : World) (hT : Lib.Utf8Tabs 0 1 w) :
    Calls Tryd.prog 15 #[.string s] w fun e w' => ∃ v x, e = .returned (.tuple #[v, x]) ∧ Below w.heap.size w w' ∧
      (((scan s.data.toList).2 = true ∧ x = .nilIface ∧ v = cnt (sum1 (scan s.data.toList).1) (sum2 (scan s.data.toList).1) (scan s.data.toList).1.length (sum4 (scan s.data.toList).1)) ∨
       ((scan s.data.toList).2 = false ∧ v = cnt 0 0 0 0 ∧ isAt w w' x (place s.data.toList))) := by
  have hlen := scan_len s.data.toList
  rw [← Lib.size_eq] at hlen
  have hb0 : Below w.heap.size w ((w.alloc (.cells #[.int .i64 0, .int .i64 0, .int .i64 0, .int .i64 0] 36)).alloc (.cells #[.int .i64 0, .int .i64 0, .int .i64 0, .int .i64 0] 36)) := ((Below.refl _ _).alloc (Nat.le_refl _) _).alloc (by rw [World.size_alloc]; omega) _
  have cE := each_all s (by unfold maxLen; omega) 67 #[.pointer (some ⟨w.heap.size + 1, 0, none⟩)] w hT
    (fun done w' => counted w' (w.heap.size + 1) (sum1 done) (sum2 done) (done.length : Int) (sum4 done) ∧ counted w' w.heap.size 0 0 0 0)
    (count_takes2 w (scan s.data.toList).1 (by omega) (scan_w4 _)) _ hb0 ⟨counted_new2 w, counted_new1 w⟩
  clear hlen hs hb0
  generalize place s.data.toList = pl at cE ⊢
  generalize scan s.data.toList = sc at cE ⊢
  obtain ⟨rs, ok⟩ := sc
  simp only [] at cE ⊢
  generalize sum1 rs = n1 at cE ⊢
  generalize sum2 rs = n2 at cE ⊢
  generalize sum4 rs = n4 at cE ⊢
  generalize (rs.length : Int) = n3 at cE ⊢
  go_enter Tryd.func15, Tryd.ntmps15
  go_wp2_with (first | (go_at_call 63; refine cE.mono ?_; rintro e w1 ⟨hb1, ⟨⟨⟨a0, a1, a2, a3⟩, b0, b1, b2, b3⟩, ⟨c0, c1, c2, c3⟩, d0, d1, d2, d3⟩, ⟨rfl, rfl⟩ | ⟨rfl, v, rfl, ⟨b, rfl, v1, v2, v3, v4⟩⟩⟩) | fail)
  · refine bodyPost_ret (v := .tuple #[cnt n1 n2 n3 n4, .nilIface]) (by simp [results, Tryd.results15, go_sem, cnt, c0, c1, c2, c3]) rfl ?_
    refine ⟨_, _, rfl, ?_, ?_⟩
    · exact below_set hb1 (Nat.le_refl _) _ _ _ _
    · first | exact ⟨rfl, rfl⟩ | exact .inl ⟨rfl, rfl, rfl⟩
  · have hne : b ≠ w.heap.size := by
      intro e
      subst e
      rw [c0] at v3
      cases v3
    refine bodyPost_ret (v := .tuple #[cnt 0 0 0 0, .iface 172 (.pointer (some ⟨b, 0, none⟩))]) (by simp [results, Tryd.results15, go_sem, cnt, c0, c1, c2, c3]) rfl ?_
    refine ⟨_, _, rfl, ?_, ?_⟩
    · exact below_set hb1 (Nat.le_refl _) _ _ _ _
    · have hv : isAt w ((((w1.setCell ⟨w.heap.size, 0, none⟩ (.int .i64 0)).setCell ⟨w.heap.size, 1, none⟩ (.int .i64 0)).setCell ⟨w.heap.size, 2, none⟩ (.int .i64 0)).setCell ⟨w.heap.size, 3, none⟩ (.int .i64 0)) (.iface 172 (.pointer (some ⟨b, 0, none⟩))) pl :=
        ⟨b, rfl, v1, by simpa using v2, by simp [go_sem, v3], by simp [go_sem, v4]⟩
      first | exact ⟨rfl, hv⟩ | exact .inr ⟨rfl, rfl, hv⟩
end Go.Proofs.YtedonckeomccpaaDoor

namespace Go.Proofs.YtedonckeomccpaaDoor
open Go.RowKit

/-- The slice v reads as the numbers zs. -/
def reads (w : World) (k : IntKind) (v : Value) (zs : List Int) : Prop :=
  ∃ p c, v = .slice p zs.length c ∧ zs.length ≤ c ∧ c ≤ maxLen ∧ (zs ≠ [] → ∃ b o, p = some ⟨b, o, none⟩ ∧ b < w.heap.size ∧ ∀ i, i < zs.length → w.cell? ⟨b, o + i, none⟩ = some (.int k (zs.getD i 0)))
theorem reads_below {w w' : World} {k : IntKind} {v : Value} {zs : List Int} (h : reads w k v zs) {B : Nat} (hb : Below B w w') (hB : w.heap.size ≤ B) : reads w' k v zs := by
  obtain ⟨p, c, rfl, h1, h2, h3⟩ := h
  refine ⟨p, c, rfl, h1, h2, fun hne => ?_⟩
  obtain ⟨b, o, e1, e2, e3⟩ := h3 hne
  exact ⟨b, o, e1, Nat.lt_of_lt_of_le e2 hb.size, fun i hi => by rw [hb.cell (p := ⟨b, o + i, none⟩) (Nat.lt_of_lt_of_le e2 hB)]; exact e3 i hi⟩

/-- A row of numbers of one kind reads as them. -/
theorem reads_own {w : World} {B e : Nat} {k : IntKind} {v : Value} {zs : List Int} {xs : List Value} (hx : xs = zs.map (Value.int k)) (h : w.ownsRow B e 1 v zs.length xs) : reads w k v zs := by
  subst hx
  obtain ⟨h0, hrow⟩ := h
  rcases hrow with ⟨rfl, h2⟩ | ⟨g, cap, cur, rfl, h2, h3, h4, h5, h6, h7⟩
  · obtain rfl : zs = [] := List.eq_nil_of_length_eq_zero h2
    exact ⟨none, 0, rfl, Nat.le_refl _, Nat.zero_le _, fun h => absurd rfl h⟩
  · refine ⟨_, cap, rfl, h4, h5, fun _ => ⟨g, 0, rfl, (Array.getElem?_eq_some_iff.1 h3).1, fun i hi => ?_⟩⟩
    rw [Nat.mul_one] at h7
    have hc : cur[i]? = some (.int k (zs.getD i 0)) := by
      rw [← Array.getElem?_toList]
      have := congrArg (·[i]?) h7
      simp only [List.getElem?_take, hi, if_true, List.getElem?_map] at this
      rw [this, List.getElem?_eq_getElem hi, List.getD_eq_getElem?_getD, List.getElem?_eq_getElem hi]
      rfl
    rw [Nat.zero_add]
    show w.cell? ⟨g, i, none⟩ = _
    unfold World.cell?
    simp [h3, hc]

/-- 'string(b)' of bytes that the call owns. -/
theorem string_own {w : World} {B n : Nat} {v : Value} {l : List UInt8} (hn : n = l.length) (h : w.ownsRow B 5 1 v n (Lib.byteCells l)) : (convert 125 9 v).run Tryd.prog w = .ok (.string ⟨l.toArray⟩) w := by
  subst hn
  obtain ⟨h0, hrow⟩ := h
  rcases hrow with ⟨rfl, h2⟩ | ⟨g, cap, cur, rfl, h2, h3, h4, h5, h6, h7⟩
  · obtain rfl : l = [] := List.eq_nil_of_length_eq_zero h2
    kernel_rfl
  · refine run_convert_bytes_back w 125 9 5 ⟨g, 0, none⟩ cap l Tryd.underlying125 Tryd.underlying5 Tryd.underlying9 fun j hj => ?_
    rw [Nat.mul_one] at h7
    have hc : cur[j]? = some (.int .u8 (l[j].toNat : Int)) := by
      rw [← Array.getElem?_toList]
      have := congrArg (·[j]?) h7
      simp only [List.getElem?_take, hj, if_true, Lib.byteCells, List.getElem?_map] at this
      rw [this, List.getElem?_eq_getElem hj]
      rfl
    have ea : (⟨g, 0, none⟩ : Addr).add j = ⟨g, j, none⟩ := by simp [Addr.add] <;> omega
    rw [ea]
    unfold World.cell?
    simp [h3, hc]

/-- The bytes of numbers. -/
def encZ (zs : List Int) : List UInt8 := zs.flatMap Lib.encodeRune
theorem encZ_snoc (zs : List Int) (z : Int) : encZ (zs ++ [z]) = encZ zs ++ Lib.encodeRune z := by simp [encZ]
theorem encZ_len (zs : List Int) : (encZ zs).length ≤ 4 * zs.length := by
  induction zs with
  | nil => simp [encZ]
  | cons z zs ih =>
    have := Lib.runeCells_le z
    rw [Lib.runeCells_length] at this
    unfold encZ at ih ⊢
    rw [List.flatMap_cons, List.length_append, List.length_cons]
    omega

/-- Behind a rune's bytes. -/
theorem bytes_next {w w1 wr : World} {v v' : Value} {o : Obj} {zs : List Int} {z : Int} {B : Nat} (hB : B = w.heap.size) (hw : Below B w wr) (hown : wr.ownsRow B 5 1 v (encZ zs).length (Lib.byteCells (encZ zs)))
    (h1 : w1.ownsRow B 5 1 v' ((encZ zs).length + (Lib.runeCells z).length) (Lib.byteCells (encZ zs) ++ Lib.runeCells z)) (hg : (wr.alloc o).grownBy w1 v.ownBlock) :
    w1.ownsRow B 5 1 v' (encZ (zs ++ [z])).length (Lib.byteCells (encZ (zs ++ [z]))) ∧ Below B w w1 := by
  subst hB
  rw [encZ_snoc, List.length_append, Lib.byteCells_append, Lib.byteCells_encodeRune, ← Lib.runeCells_length]
  exact ⟨h1, (hw.alloc hw.size o).grown hg (by rw [World.size_alloc]; have := hw.size; omega) fun k hk => (hown.lt k hk).1⟩

theorem take_succ (zs : List Int) (k : Nat) (h : k < zs.length) : zs.take (k + 1) = zs.take k ++ [zs.getD k 0] := by
  rw [List.take_succ_eq_append_getElem h, List.getD_eq_getElem?_getD, List.getElem?_eq_getElem h]
  rfl

set_option maxHeartbeats 1000000 in
theorem Text_any (v : Value) (zs : List Int) (w : World) (hz : ∀ z ∈ zs, -2147483648 ≤ z ∧ z ≤ 2147483647) (hr : reads w .i32 v zs) (hl : zs.length < 100000000) :
    Calls Tryd.prog 25 #[v] w fun e w' => ∃ s x, e = .returned (.tuple #[.string s, x]) ∧ Below w.heap.size w w' ∧
      (((∀ z ∈ zs, Lib.validRune z = true) ∧ x = .nilIface ∧ s = ⟨(encZ zs).toArray⟩) ∨
       (∃ k : Nat, k < zs.length ∧ (∀ z ∈ zs.take k, Lib.validRune z = true) ∧ Lib.validRune (zs.getD k 0) = false ∧ s = ⟨#[]⟩ ∧ isAt w w' x k)) := by
  obtain ⟨p, c, rfl, r1, r2, r3⟩ := hr
  obtain ⟨n, hn⟩ : ∃ n, n = zs.length := ⟨_, rfl⟩
  rw [← hn] at r1 r3 hl ⊢
  have HN : Hid (n = zs.length) := hn
  clear hn
  have R3 : Hid (zs ≠ [] → ∃ b o, p = some ⟨b, o, none⟩ ∧ b < w.heap.size ∧ ∀ i, i < n → w.cell? ⟨b, o + i, none⟩ = some (.int .i32 (zs.getD i 0))) := r3
  have HZ : Hid (∀ z ∈ zs, -2147483648 ≤ z ∧ z ≤ 2147483647) := hz
  clear r3 hz
  go_enter Tryd.func25, Tryd.ntmps25
  go_wp2
  go_loopw [4, 9] (fun b i wr => ∃ k : Nat, k ≤ n ∧ i = .int .i64 k ∧ (∀ z ∈ zs.take k, Lib.validRune z = true) ∧ wr.ownsRow w.heap.size 5 1 b (encZ (zs.take k)).length (Lib.byteCells (encZ (zs.take k))) ∧ Below w.heap.size w wr) (fun _ i _ => n - (intOf i).toNat)
  case atStart => exact ⟨0, Nat.zero_le _, rfl, by simp, World.ownsRow_nil _ _ _ _, Below.refl _ _⟩
  case round =>
    obtain ⟨k, hk, rfl, hval, hown, hwr⟩ := hrel
    by_cases hlt : k < n
    · have hne : zs ≠ [] := by intro e; rw [HN.out, e] at hlt; exact absurd hlt (Nat.not_lt_zero _)
      obtain ⟨b, o, rfl, hbw, hcell⟩ := R3.out hne
      have hc := (hwr.cell (p := ⟨b, o + k, none⟩) hbw).trans (hcell k hlt)
      obtain ⟨z, hz⟩ : ∃ z, z = zs.getD k 0 := ⟨_, rfl⟩
      rw [← hz] at hc
      have hzr := HZ.out z (by rw [hz, List.getD_eq_getElem?_getD, List.getElem?_eq_getElem (by rw [← HN.out]; exact hlt)]; exact List.getElem_mem _)
      have hzk : Hid (z = zs.getD k 0) := hz
      have hts : Hid (zs.take (k + 1) = zs.take k ++ [z]) := by rw [hz]; exact take_succ zs k (by rw [← HN.out]; exact hlt)
      clear hz hcell hne
      have cV := Tryd.utf8_ValidRune z wr
      have hlen := encZ_len (zs.take k)
      rw [List.length_take] at hlen
      have hlen4 : (encZ (zs.take k)).length + 4 ≤ 140737488355328 := by omega
      have cA := Tryd.utf8_AppendRune_plain w.heap.size _ _ _ z hzr.1 hzr.2 wr hown hlen4 hwr.size
      clear hlen hlen4
      by_cases hv : Lib.validRune z = true
      · rw [hv] at cV
        have hval' : Hid (∀ y ∈ zs.take (k + 1), Lib.validRune y = true) := by
          show ∀ y ∈ zs.take (k + 1), Lib.validRune y = true
          rw [hts.out]
          intro y hy
          rcases List.mem_append.1 hy with hy | hy
          · exact hval y hy
          · rw [List.mem_singleton.1 hy]; exact hv
        have NX : Hid (∀ w1 v' o, w1.ownsRow w.heap.size 5 1 v' ((encZ (zs.take k)).length + (Lib.runeCells z).length) (Lib.byteCells (encZ (zs.take k)) ++ Lib.runeCells z) → (wr.alloc o).grownBy w1 u4.ownBlock →
            w1.ownsRow w.heap.size 5 1 v' (encZ (zs.take (k + 1))).length (Lib.byteCells (encZ (zs.take (k + 1)))) ∧ Below w.heap.size w w1) := by
          intro w1 v' o h1 hg
          rw [hts.out]
          exact bytes_next rfl hwr hown h1 hg
        clear hval hown hv hzk hts hzr R3 HZ
        go_wp2_with (first | (go_at_call 75; refine cV.mono ?_; rintro e wx ⟨rfl, rfl⟩) | (go_at_call 77; refine cA.mono ?_; rintro e w1 ⟨v', rfl, h1, o', hg⟩; have hnx := NX.out w1 v' o' h1 hg; clear h1 hg) | fail)
        go_roundw
        case rel => exact ⟨k + 1, by omega, by go_num, hval'.out, hnx.1, hnx.2⟩
        case measure => simp [intOf]; omega
      · have hv : Lib.validRune z = false := Bool.eq_false_iff.2 hv
        rw [hv] at cV
        have hfin : Hid (∀ y ∈ zs.take k, Lib.validRune y = true) := hval
        have hbad : Hid (Lib.validRune (zs.getD k 0) = false) := by rw [← hzk.out]; exact hv
        clear hval hown hv hzk hts hzr R3 HZ cA
        go_wp2_with (first | (go_at_call 75; refine cV.mono ?_; rintro e wx ⟨rfl, rfl⟩) | (go_at_call 76; refine (wrong_any _ _).mono ?_; rintro e w1 ⟨⟨x, rfl, hx⟩, hb1⟩) | fail)
        go_ret2
        refine ⟨_, _, rfl, hwr.trans (hb1.mono hwr.size), .inr ⟨k, hlt, hfin.out, hbad.out, rfl, isAt_from hx hwr.size⟩⟩
    · have e : zs.take k = zs := List.take_of_length_le (by rw [← HN.out]; omega)
      rw [e] at hval hown
      have hval' : Hid (∀ y ∈ zs, Lib.validRune y = true) := hval
      have hs := string_own rfl hown
      clear hval hown e R3 HZ
      go_wp2
      go_ret2
      refine ⟨_, _, rfl, hwr, .inl ⟨hval'.out, rfl, rfl⟩⟩
end Go.Proofs.YtedonckeomccpaaDoor
