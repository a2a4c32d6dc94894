/-
  The closures of utf.Halves and utf.Count; utf.Plus, utf.countsOf; then utf.Runes, utf.Halves, utf.Count: what they return of any text.
-/
import Derived.Test.YtedgnlgjmnccgabGreatDoorGather
namespace Go.Proofs.YtedgnlgjmnccgabGreatDoor
open Go.RowKit

theorem halCells_one {r : Nat} (h : r < 65536) : halCells r = [.int .u16 r] := by simp [halCells, hal, h]
theorem halCells_two {r : Nat} (h : ¬ r < 65536) : halCells r = [.int .u16 (55296 + ((r : Int) - 65536) / 1024), .int .u16 (56320 + ((r : Int) - 65536) % 1024)] := by
  simp only [halCells, hal, h, if_false, List.map_cons, List.map_nil]
  rw [show ((55296 + (r - 65536) / 1024 : Nat) : Int) = 55296 + ((r : Int) - 65536) / 1024 by omega, show ((56320 + (r - 65536) % 1024 : Nat) : Int) = 56320 + ((r : Int) - 65536) % 1024 by omega]
theorem halCells_le (r : Nat) : (halCells r).length ≤ 2 := by
  by_cases h : r < 65536
  · rw [halCells_one h]; simp
  · rw [halCells_two h]; simp

theorem appendHalves_any (r : Nat) (h2 : r ≤ 1114111) (B n : Nat) (w : World) (v : Value) (xs : List Value) (hown : w.ownsRow B 167 1 v n xs) (hlen : n < 1000000000) (hB : B ≤ w.heap.size) :
    Calls Tryz.prog 166 #[v, .int .i32 r] w fun e w' => ∃ p c o m, e = .returned (.slice p m c) ∧ m = n + (halCells r).length ∧ w'.ownsRow B 167 1 (.slice p m c) m (xs ++ halCells r) ∧ (w.alloc o).grownBy w' v.ownBlock := by
  by_cases h : r < 65536
  · rw [halCells_one h]
    refine (appendHalves_one r (by omega) (by omega) B n w v xs hown hlen hB).mono ?_
    rintro e w' ⟨v', o, rfl, h1, h2⟩
    obtain ⟨p, c, rfl⟩ := own_slice h1
    exact ⟨p, c, o, _, rfl, rfl, h1, h2⟩
  · rw [halCells_two h]
    refine (appendHalves_two r (by omega) (by omega) B n w v xs hown hlen hB).mono ?_
    rintro e w' ⟨v', o, rfl, h1, h2⟩
    obtain ⟨p, c, rfl⟩ := own_slice h1
    exact ⟨p, c, o, _, rfl, rfl, h1, h2⟩

set_option maxHeartbeats 400000 in
theorem halves1_any (r : Nat) (hr : r ≤ 1114111) (n : Int) (a : Nat) (w : World) (xs : List Value) (h : gathers w 167 a xs) (hlen : xs.length < 1000000000) :
    Calls Tryz.prog 165 #[.int .i32 r, .int .i64 n, .pointer (some ⟨a, 0, none⟩)] w fun e w' => e = .returned (.bool true) ∧ gathers w' 167 a (xs ++ halCells r) ∧ Below a w w' := by
  have hlt := gathers_lt h
  obtain ⟨p, c, hc, hf, hown⟩ := h
  have cA := appendHalves_any r hr (a + 1) xs.length w _ xs hown hlen hlt
  obtain ⟨ys, hys⟩ : ∃ ys, ys = halCells r := ⟨_, rfl⟩
  rw [← hys] at cA ⊢
  clear hr hys
  generalize (r : Int) = R at cA ⊢
  have NX := fun (w1 : World) (o : Obj) (v' : Value) => @gathers_next w w1 167 a xs ys p c o v' hlt hf hc hown
  have HN : Hid (∀ (w1 : World) (o : Obj) (v' : Value), w1.ownsRow (a + 1) 167 1 v' (xs.length + ys.length) (xs ++ ys) → (w.alloc o).grownBy w1 (Value.slice p xs.length c).ownBlock → _) := NX
  clear NX hown
  go_enter Tryz.func165, Tryz.ntmps165
  go_wp2_with (first | (go_at_call 166; refine cA.mono ?_; rintro e w1 ⟨p', c', o, m, rfl, hm, hown1, hg⟩; have Rs := HN.out w1 o _ (by rw [← hm]; exact hown1) hg; obtain ⟨R1, R2, R3, R4, R5⟩ := Rs; clear hown1 hg hm) | fail)
  go_ret
  exact ⟨rfl, R1, R2⟩

set_option maxHeartbeats 400000 in
theorem plus_any (a1 a2 a3 a4 b1 b2 b3 b4 : Int) (w : World) :
    Calls Tryz.prog 137 #[.agg #[.int .i64 a1, .int .i64 a2, .int .i64 a3, .int .i64 a4], .agg #[.int .i64 b1, .int .i64 b2, .int .i64 b3, .int .i64 b4]] w
      fun e w' => e = .returned (.agg #[.int .i64 (wrap64 (a1 + b1)), .int .i64 (wrap64 (a2 + b2)), .int .i64 (wrap64 (a3 + b3)), .int .i64 (wrap64 (a4 + b4))]) ∧ Below w.heap.size w w' := by
  go_enter Tryz.func137, Tryz.ntmps137
  go_wp2
  refine bodyPost_ret (v := .agg #[.int .i64 (wrap64 (a1 + b1)), .int .i64 (wrap64 (a2 + b2)), .int .i64 (wrap64 (a3 + b3)), .int .i64 (wrap64 (a4 + b4))]) (by simp [results, Tryz.results137, go_sem]) rfl ⟨rfl, ?_⟩
  exact (((Below.refl _ _).alloc (Nat.le_refl _) _).alloc (by simp) _).alloc (by simp [Nat.le_add_right, Nat.add_assoc]) _

/-- What one rune counts in halves, and in lines. -/
def cH (r : Nat) : Int := if r < 65536 then 1 else 2
def cL (r : Nat) : Int := if r = 10 then 1 else 0

set_option maxHeartbeats 400000 in
theorem countsOf_any (r : Nat) (n : Int) (w : World) :
    Calls Tryz.prog 138 #[.int .i32 r, .int .i64 n] w
      fun e w' => e = .returned (.agg #[.int .i64 n, .int .i64 (cH r), .int .i64 1, .int .i64 (cL r)]) ∧ Below w.heap.size w w' := by
  by_cases h1 : r < 65536
  · have e1 : cH r = 1 := if_pos h1
    by_cases h2 : r = 10
    · have e2 : cL r = 1 := if_pos h2
      rw [e1, e2]
      subst h2
      clear h1 e1 e2
      go_enter Tryz.func138, Tryz.ntmps138
      go_wp2
      refine bodyPost_ret (v := .agg #[.int .i64 n, .int .i64 1, .int .i64 1, .int .i64 1]) (by simp [results, Tryz.results138, go_sem]) rfl ⟨rfl, ?_⟩
      exact ((Below.refl _ _).alloc (Nat.le_refl _) _).alloc (by simp) _
    · have e2 : cL r = 0 := if_neg h2
      rw [e1, e2]
      have k1 : (r : Int) < 65536 := by omega
      have k2 : ((r : Int) == 10) = false := by rw [beq_eq_false_iff_ne]; omega
      clear e1 e2 h1 h2
      generalize (r : Int) = R at k1 k2 ⊢
      go_enter Tryz.func138, Tryz.ntmps138
      go_wp2
      refine bodyPost_ret (v := .agg #[.int .i64 n, .int .i64 1, .int .i64 1, .int .i64 0]) (by simp [results, Tryz.results138, go_sem]) rfl ⟨rfl, ?_⟩
      exact ((Below.refl _ _).alloc (Nat.le_refl _) _).alloc (by simp) _
  · have e1 : cH r = 2 := if_neg h1
    have e2 : cL r = 0 := if_neg (by omega)
    rw [e1, e2]
    · have k1 : ¬ (r : Int) < 65536 := by omega
      have k2 : ((r : Int) == 10) = false := by rw [beq_eq_false_iff_ne]; omega
      clear e1 e2 h1
      generalize (r : Int) = R at k1 k2 ⊢
      go_enter Tryz.func138, Tryz.ntmps138
      go_wp2
      refine bodyPost_ret (v := .agg #[.int .i64 n, .int .i64 2, .int .i64 1, .int .i64 0]) (by simp [results, Tryz.results138, go_sem]) rfl ⟨rfl, ?_⟩
      exact ((Below.refl _ _).alloc (Nat.le_refl _) _).alloc (by simp) _

/-- The variable in block a holds these counts. -/
def counted (w : World) (a : Nat) (n1 n2 n3 n4 : Int) : Prop :=
  (w.cell? ⟨a, 0, none⟩ = some (.int .i64 n1) ∧ w.cell? ⟨a, 1, none⟩ = some (.int .i64 n2) ∧ w.cell? ⟨a, 2, none⟩ = some (.int .i64 n3) ∧ w.cell? ⟨a, 3, none⟩ = some (.int .i64 n4)) ∧
  (w.frozen? ⟨a, 0, none⟩ = false ∧ w.frozen? ⟨a, 1, none⟩ = false ∧ w.frozen? ⟨a, 2, none⟩ = false ∧ w.frozen? ⟨a, 3, none⟩ = false)

theorem counted_lt {w : World} {a : Nat} {n1 n2 n3 n4 : Int} (h : counted w a n1 n2 n3 n4) : a < w.heap.size := World.block_lt_of_cell? w _ h.1.1
theorem counted_old {B : Nat} {w w' : World} {a : Nat} {n1 n2 n3 n4 : Int} (h : counted w a n1 n2 n3 n4) (hb : Below B w w') (hlt : a < B) : counted w' a n1 n2 n3 n4 := by
  obtain ⟨⟨a0, a1, a2, a3⟩, b0, b1, b2, b3⟩ := h
  refine ⟨⟨?_, ?_, ?_, ?_⟩, ?_, ?_, ?_, ?_⟩
  · rw [hb.cell (p := ⟨a, 0, none⟩) hlt]; exact a0
  · rw [hb.cell (p := ⟨a, 1, none⟩) hlt]; exact a1
  · rw [hb.cell (p := ⟨a, 2, none⟩) hlt]; exact a2
  · rw [hb.cell (p := ⟨a, 3, none⟩) hlt]; exact a3
  · rw [hb.frozen (p := ⟨a, 0, none⟩) hlt]; exact b0
  · rw [hb.frozen (p := ⟨a, 1, none⟩) hlt]; exact b1
  · rw [hb.frozen (p := ⟨a, 2, none⟩) hlt]; exact b2
  · rw [hb.frozen (p := ⟨a, 3, none⟩) hlt]; exact b3
theorem counted_below {w w' : World} {a : Nat} {n1 n2 n3 n4 : Int} (h : counted w a n1 n2 n3 n4) (hb : Below w.heap.size w w') : counted w' a n1 n2 n3 n4 := counted_old h hb (counted_lt h)

theorem counted_set {w : World} {a : Nat} {n1 n2 n3 n4 m1 m2 m3 m4 : Int} (h : counted w a n1 n2 n3 n4) :
    counted ((((w.setCell ⟨a, 0, none⟩ (.int .i64 m1)).setCell ⟨a, 1, none⟩ (.int .i64 m2)).setCell ⟨a, 2, none⟩ (.int .i64 m3)).setCell ⟨a, 3, none⟩ (.int .i64 m4)) a m1 m2 m3 m4 := by
  obtain ⟨⟨a0, a1, a2, a3⟩, b0, b1, b2, b3⟩ := h
  refine ⟨⟨?_, ?_, ?_, ?_⟩, ?_, ?_, ?_, ?_⟩
  all_goals simp [go_sem, a0, a1, a2, a3, b0, b1, b2, b3]
theorem below_set {B : Nat} {w w' : World} {a : Nat} (hb : Below B w w') (hB : B ≤ a) (v1 v2 v3 v4 : Value) :
    Below B w ((((w'.setCell ⟨a, 0, none⟩ v1).setCell ⟨a, 1, none⟩ v2).setCell ⟨a, 2, none⟩ v3).setCell ⟨a, 3, none⟩ v4) :=
  (((hb.setCell (p := ⟨a, 0, none⟩) hB _).setCell (p := ⟨a, 1, none⟩) hB _).setCell (p := ⟨a, 2, none⟩) hB _).setCell (p := ⟨a, 3, none⟩) hB _

set_option maxHeartbeats 1000000 in
theorem count1_any (r : Nat) (n : Int) (a : Nat) (w : World) (n1 n2 n3 n4 : Int) (h : counted w a n1 n2 n3 n4) :
    Calls Tryz.prog 136 #[.int .i32 r, .int .i64 n, .pointer (some ⟨a, 0, none⟩)] w fun e w' => e = .returned (.bool true) ∧
      counted w' a (wrap64 (n1 + n)) (wrap64 (n2 + cH r)) (wrap64 (n3 + 1)) (wrap64 (n4 + cL r)) ∧ Below a w w' := by
  have hlt := counted_lt h
  have HC : Hid (counted w a n1 n2 n3 n4) := h
  obtain ⟨⟨a0, a1, a2, a3⟩, b0, b1, b2, b3⟩ := h
  have cO := fun (w : World) => countsOf_any r n w
  generalize cH r = x2 at cO ⊢
  generalize cL r = x4 at cO ⊢
  generalize (r : Int) = R at cO ⊢
  go_enter Tryz.func136, Tryz.ntmps136
  go_wp2
  go_region_with (first | (go_at_call 138; refine (cO _).mono ?_; rintro e w1 ⟨rfl, hb1⟩; have HC1 : counted w1 a n1 n2 n3 n4 := counted_old (w := w.drew) HC.out hb1 hlt; have HD1 : Hid (counted w1 a n1 n2 n3 n4) := HC1; obtain ⟨⟨c0, c1, c2, c3⟩, d0, d1, d2, d3⟩ := HC1) | (go_at_call 137; refine (plus_any _ _ _ _ _ _ _ _ _).mono ?_; rintro e w2 ⟨rfl, hb2⟩; have HC2 : counted w2 a n1 n2 n3 n4 := counted_old (w := w1) HD1.out hb2 (Nat.lt_of_lt_of_le hlt hb1.size); have HD2 : Hid (counted w2 a n1 n2 n3 n4) := HC2; obtain ⟨⟨c0, c1, c2, c3⟩, d0, d1, d2, d3⟩ := HC2))
  all_goals
    have hbb : Below a w w2 := (Below.drew (Below.refl a w)).trans ((hb1.trans (hb2.mono hb1.size)).mono (Nat.le_of_lt hlt))
    clear a0 a1 a2 a3 b0 b1 b2 b3 HC HD1 hb1 hb2 c0 c1 c2 c3 d0 d1 d2 d3
    go_wp2
    go_ret
    exact ⟨rfl, counted_set HD2.out, below_set hbb (Nat.le_refl _) _ _ _ _⟩

/-! ### What is gathered over runes -/
def cellsOf21 (l : List (Nat × Nat)) : List Value := l.map fun p => Value.int .i32 (p.1 : Int)
def cellsOf59 (l : List (Nat × Nat)) : List Value := l.flatMap fun p => halCells p.1
def sum1 (l : List (Nat × Nat)) : Int := (l.map fun p => (p.2 : Int)).sum
def sum2 (l : List (Nat × Nat)) : Int := (l.map fun p => cH p.1).sum
def sum4 (l : List (Nat × Nat)) : Int := (l.map fun p => cL p.1).sum

theorem runes_takes (W : World) (a : Nat) (l : List (Nat × Nat)) (ha : W.heap.size ≤ a) (hl : l.length < 1000000000) :
    Takes W 168 #[.pointer (some ⟨a, 0, none⟩)] l fun done w => gathers w 21 a (cellsOf21 done) where
  enters := enters_of Tryz.func168 (by kernel_rfl) rfl
  stays := fun _ _ _ h hb => gathers_below h hb
  step := fun done p rest e w hI hw => by
    have hlen : (cellsOf21 done).length < 1000000000 := by
      have := congrArg List.length e
      rw [List.length_append] at this
      unfold cellsOf21
      rw [List.length_map]
      omega
    refine (runes1_any p.1 p.2 a w _ hI hlen).mono ?_
    rintro e w' ⟨rfl, h1, h2⟩
    refine ⟨rfl, ?_, hw.trans (h2.mono ha)⟩
    unfold cellsOf21
    rw [List.map_append]
    exact h1

theorem cellsOf59_le (l : List (Nat × Nat)) : (cellsOf59 l).length ≤ 2 * l.length := by
  induction l with
  | nil => simp [cellsOf59]
  | cons p l ih =>
    have := halCells_le p.1
    unfold cellsOf59 at ih ⊢
    rw [List.flatMap_cons, List.length_append, List.length_cons]
    omega

theorem halves_takes (W : World) (a : Nat) (l : List (Nat × Nat)) (ha : W.heap.size ≤ a) (hl : l.length < 500000000) (hr : ∀ p ∈ l, isRune p.1) :
    Takes W 165 #[.pointer (some ⟨a, 0, none⟩)] l fun done w => gathers w 167 a (cellsOf59 done) where
  enters := enters_of Tryz.func165 (by kernel_rfl) rfl
  stays := fun _ _ _ h hb => gathers_below h hb
  step := fun done p rest e w hI hw => by
    have hlen : (cellsOf59 done).length < 1000000000 := by
      have := congrArg List.length e
      rw [List.length_append] at this
      have := cellsOf59_le done
      omega
    have hp : p.1 ≤ 1114111 := by
      have := hr p (by rw [e]; simp)
      unfold isRune at this
      omega
    refine (halves1_any p.1 hp p.2 a w _ hI hlen).mono ?_
    rintro e w' ⟨rfl, h1, h2⟩
    refine ⟨rfl, ?_, hw.trans (h2.mono ha)⟩
    unfold cellsOf59
    rw [List.flatMap_append, List.flatMap_cons, List.flatMap_nil, List.append_nil]
    exact h1

theorem cH_le (r : Nat) : 0 ≤ cH r ∧ cH r ≤ 2 := by unfold cH; split <;> omega
theorem cL_le (r : Nat) : 0 ≤ cL r ∧ cL r ≤ 1 := by unfold cL; split <;> omega
theorem sum2_le (l : List (Nat × Nat)) : 0 ≤ sum2 l ∧ sum2 l ≤ 2 * l.length := by
  induction l with
  | nil => simp [sum2]
  | cons p l ih => have := cH_le p.1; unfold sum2 at ih ⊢; rw [List.map_cons, List.sum_cons, List.length_cons]; omega
theorem sum4_le (l : List (Nat × Nat)) : 0 ≤ sum4 l ∧ sum4 l ≤ l.length := by
  induction l with
  | nil => simp [sum4]
  | cons p l ih => have := cL_le p.1; unfold sum4 at ih ⊢; rw [List.map_cons, List.sum_cons, List.length_cons]; omega
theorem sum1_le (l : List (Nat × Nat)) (h : ∀ p ∈ l, p.2 ≤ 4) : 0 ≤ sum1 l ∧ sum1 l ≤ 4 * l.length := by
  induction l with
  | nil => simp [sum1]
  | cons p l ih =>
    have h1 := h p (by simp)
    have := ih fun q hq => h q (by simp [hq])
    unfold sum1 at this ⊢; rw [List.map_cons, List.sum_cons, List.length_cons]; omega
theorem wrap64_small {n : Int} (h0 : 0 ≤ n) (h1 : n < 9223372036854775808) : wrap64 n = n := by unfold wrap64; omega

theorem count_takes (W : World) (a : Nat) (l : List (Nat × Nat)) (ha : W.heap.size ≤ a) (hl : l.length < 1000000000) (hr : ∀ p ∈ l, p.2 ≤ 4) :
    Takes W 136 #[.pointer (some ⟨a, 0, none⟩)] l fun done w => counted w a (sum1 done) (sum2 done) (done.length : Int) (sum4 done) where
  enters := enters_of Tryz.func136 (by kernel_rfl) rfl
  stays := fun _ _ _ h hb => counted_below h hb
  step := fun done p rest e w hI hw => by
    have hlen := congrArg List.length e
    rw [List.length_append] at hlen
    have h1 := sum1_le done fun q hq => hr q (by rw [e]; simp [hq])
    have h2 := sum2_le done
    have h4 := sum4_le done
    have hp := hr p (by rw [e]; simp)
    have hp2 := cH_le p.1
    have hp4 := cL_le p.1
    refine (count1_any p.1 p.2 a w _ _ _ _ hI).mono ?_
    rintro e w' ⟨rfl, k1, k2⟩
    refine ⟨rfl, ?_, hw.trans (k2.mono ha)⟩
    rw [wrap64_small (by omega) (by omega), wrap64_small (by omega) (by omega), wrap64_small (by omega) (by omega), wrap64_small (by omega) (by omega)] at k1
    have e1 : sum1 (done ++ [p]) = sum1 done + p.2 := by simp [sum1]
    have e2 : sum2 (done ++ [p]) = sum2 done + cH p.1 := by simp [sum2]
    have e3 : (((done ++ [p]).length : Nat) : Int) = done.length + 1 := by simp
    have e4 : sum4 (done ++ [p]) = sum4 done + cL p.1 := by simp [sum4]
    rw [e1, e2, e3, e4]
    exact k1
end Go.Proofs.YtedgnlgjmnccgabGreatDoor
