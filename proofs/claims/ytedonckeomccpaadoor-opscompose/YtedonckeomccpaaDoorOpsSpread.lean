/-
  The document's Spread: an operation as gaps.
-/
import Derived.Test.YtedonckeomccpaaDoorOpsLens
import Derived.Test.YtedonckeomccpaaDoorRegionRel
import Derived.Test.YtedonckeomccpaaDoorRefText
namespace Go.Proofs.YtedonckeomccpaaDoor
open Go.RowKit
set_option linter.unusedVariables false

theorem info_str : (Tryd.prog.info? 9).map (fun i => (i.zero, i.size, i.bytes)) = some (some (.string ⟨#[]⟩), 1, 16) := by kernel_rfl
theorem info_bool : (Tryd.prog.info? 4).map (fun i => (i.zero, i.size, i.bytes)) = some (some (.bool false), 1, 1) := by kernel_rfl

theorem mk_str (n : Nat) (hn : n < 100000000) (W : World) : (Instr.makeSlice 93 (.int .i64 ((n : Int) + 1)) (.int .i64 ((n : Int) + 1))).run Tryd.prog W = .ok (.slice (some ⟨W.heap.size, 0, none⟩) (n + 1) (n + 1)) (W.alloc (.cells (madeCells #[.string ⟨#[]⟩] (n + 1)) 9)) := by
  obtain ⟨i0, hi, hz0, hz1, hz2⟩ := info_parts info_str
  have h := run_make (P := Tryd.prog) W 93 9 i0 (.string ⟨#[]⟩) Tryd.underlying93 hi hz0 .i64 .i64 ((n : Int) + 1) ((n : Int) + 1) (by omega) (Int.le_refl _) (by rw [hz2]; omega) (by omega)
  rw [h]
  have e : ((n : Int) + 1).toNat = n + 1 := by omega
  rw [e, hz1]
  simp [Value.cells]
theorem mk_bool (n : Nat) (hn : n < 100000000) (W : World) : (Instr.makeSlice 94 (.int .i64 (n : Int)) (.int .i64 (n : Int))).run Tryd.prog W = .ok (.slice (some ⟨W.heap.size, 0, none⟩) n n) (W.alloc (.cells (madeCells #[.bool false] n) 4)) := by
  obtain ⟨i0, hi, hz0, hz1, hz2⟩ := info_parts info_bool
  have h := run_make (P := Tryd.prog) W 94 4 i0 (.bool false) Tryd.underlying94 hi hz0 .i64 .i64 (n : Int) (n : Int) (by omega) (Int.le_refl _) (by rw [hz2]; omega) (by omega)
  rw [h]
  have e : ((n : Int)).toNat = n := by omega
  rw [e, hz1]
  simp [Value.cells]

/-- The rows of strings and of bools, gaps that are yet to come among them. -/
def strsP (n : Nat) (g : GSt) : List (List UInt8) := g.1.map (·.1) ++ g.2 :: List.replicate (n - g.1.length) []
def boolsP (n : Nat) (g : GSt) : List Bool := g.1.map (·.2) ++ List.replicate (n - g.1.length) false
def strV (u : List UInt8) : Value := .string ⟨u.toArray⟩

theorem strsP_len {n : Nat} {g : GSt} (h : g.1.length ≤ n) : (strsP n g).length = n + 1 := by simp [strsP]; omega
theorem boolsP_len {n : Nat} {g : GSt} (h : g.1.length ≤ n) : (boolsP n g).length = n := by simp [boolsP]; omega
theorem strsP_tick {n : Nat} {g : GSt} (h : g.1.length < n) (d : Bool) : strsP n (tick d g) = strsP n g := by
  unfold strsP tick
  simp only [List.map_append, List.map_cons, List.map_nil, List.length_append, List.length_cons, List.length_nil, List.append_assoc, List.singleton_append]
  obtain ⟨k, hk⟩ : ∃ k, n - g.1.length = k + 1 := ⟨n - g.1.length - 1, by omega⟩
  have e : n - (g.1.length + (0 + 1)) = k := by omega
  rw [e, hk, List.replicate_succ]
theorem boolsP_tick {n : Nat} {g : GSt} (h : g.1.length < n) (d : Bool) : boolsP n (tick d g) = (boolsP n g).set g.1.length d := by
  unfold boolsP tick
  obtain ⟨k, hk⟩ : ∃ k, n - g.1.length = k + 1 := ⟨n - g.1.length - 1, by omega⟩
  have e : n - (g.1.length + 1) = k := by omega
  have hl : (g.1.map (·.2)).length = g.1.length := by simp
  rw [List.set_append_right _ _ (by rw [hl]; exact Nat.le_refl _), hl, Nat.sub_self, hk, List.replicate_succ, List.set_cons_zero]
  simp [e]
theorem boolsP_at {n : Nat} {g : GSt} (h : g.1.length < n) : (boolsP n g)[g.1.length]? = some false := by
  unfold boolsP
  obtain ⟨k, hk⟩ : ∃ k, n - g.1.length = k + 1 := ⟨n - g.1.length - 1, by omega⟩
  rw [List.getElem?_append_right (by simp), List.length_map, Nat.sub_self, hk, List.replicate_succ]
  rfl
theorem strsP_at {n : Nat} {g : GSt} : (strsP n g)[g.1.length]? = some g.2 := by
  unfold strsP
  rw [List.getElem?_append_right (by simp)]
  simp
theorem strsP_put {n : Nat} {g : GSt} (u : List UInt8) : strsP n (g.1, u) = (strsP n g).set g.1.length u := by
  unfold strsP
  have hl : (g.1.map (·.1)).length = g.1.length := by simp
  rw [List.set_append_right _ _ (by rw [hl]; exact Nat.le_refl _), hl, Nat.sub_self, List.set_cons_zero]
theorem boolsP_put {n : Nat} {g : GSt} (u : List UInt8) : boolsP n (g.1, u) = boolsP n g := rfl
theorem rowsP_keeps {n : Nat} : ∀ (k : Nat) (g : GSt), g.1.length + k ≤ n → strsP n (ticks false k g) = strsP n g ∧ boolsP n (ticks false k g) = boolsP n g
  | 0, _, _ => ⟨rfl, rfl⟩
  | k + 1, g, h => by
    have hl : (tick false g).1.length = g.1.length + 1 := by simp [tick]
    obtain ⟨h1, h2⟩ := rowsP_keeps (n := n) k (tick false g) (by rw [hl]; omega)
    rw [ticks, h1, h2, strsP_tick (n := n) (g := g) (by omega), boolsP_tick (n := n) (g := g) (by omega)]
    refine ⟨rfl, ?_⟩
    have := boolsP_at (n := n) (g := g) (by omega)
    have hlt : g.1.length < (boolsP n g).length := (List.getElem?_eq_some_iff.1 this).1
    rw [List.getElem?_eq_getElem hlt] at this
    have e := Option.some.inj this
    rw [← e]
    exact List.set_getElem_self hlt
theorem strsP_drops {n : Nat} : ∀ (k : Nat) (g : GSt), g.1.length + k ≤ n → strsP n (ticks true k g) = strsP n g
  | 0, _, _ => rfl
  | k + 1, g, h => by
    have hl : (tick true g).1.length = g.1.length + 1 := by simp [tick]
    rw [ticks, strsP_drops k (tick true g) (by rw [hl]; omega), strsP_tick (n := n) (g := g) (by omega)]

theorem spreads_snoc (ps : List Pt) (p : Pt) : spreads (ps ++ [p]) = spreadP (spreads ps) p := by simp [spreads]
theorem spreadP_nat (g : GSt) (p : Pt) : (spreadP g p).1.length = g.1.length + p.drop.toNat + p.keep.toNat := by
  unfold spreadP
  rw [ticks_len, ticks_len]
theorem spreads_le (ps : List Pt) (k : Nat) : (spreads (ps.take k)).1.length ≤ (spreads ps).1.length := by
  have key : ∀ (l : List Pt) (g : GSt), g.1.length ≤ (l.foldl spreadP g).1.length := by
    intro l
    induction l with
    | nil => intro g; exact Nat.le_refl _
    | cons p l ih =>
      intro g
      rw [List.foldl_cons]
      have := ih (spreadP g p)
      rw [spreadP_nat] at this
      omega
  have e : spreads ps = (ps.drop k).foldl spreadP (spreads (ps.take k)) := by
    unfold spreads
    rw [← List.foldl_append, List.take_append_drop]
  rw [e]
  exact key _ _

/-- How long an operation is, where nothing wraps round. -/
def isP (p : Pt) : Int := p.keep + p.put.length
theorem lens_plain (ps : List Pt) (h : ∀ p ∈ ps, soundP p) (hw : wts ps < 4611686018427387904) : (lensW ps).1 = (spreads ps).1.length ∧ (lensW ps).2 = (ps.map isP).sum ∧ ((spreads ps).1.length : Int) ≤ wts ps ∧ (ps.map isP).sum ≤ wts ps := by
  have key : ∀ k, k ≤ ps.length → (lensW (ps.take k)).1 = (spreads (ps.take k)).1.length ∧ (lensW (ps.take k)).2 = ((ps.take k).map isP).sum ∧ ((spreads (ps.take k)).1.length : Int) ≤ wts (ps.take k) ∧ ((ps.take k).map isP).sum ≤ wts (ps.take k) ∧ 0 ≤ ((ps.take k).map isP).sum := by
    intro k
    induction k with
    | zero => intro _; simp [lensW, spreads, wts]
    | succ k ih =>
      intro hk
      obtain ⟨h1, h2, h3, h4, h5⟩ := ih (by omega)
      have hp := h _ (List.getElem_mem (show k < ps.length by omega))
      have ht := wts_take h (k + 1)
      have hts : ps.take (k + 1) = ps.take k ++ [ps[k]] := List.take_succ_eq_append_getElem (by omega)
      have hls : lensW (ps.take (k + 1)) = lenW (lensW (ps.take k)) ps[k] := by
        unfold lensW
        rw [hts, List.foldl_append]; rfl
      rw [hls, hts, spreads_snoc, spreadP_nat, wts_snoc, List.map_append, List.sum_append]
      rw [hts, wts_snoc] at ht
      generalize ps[k] = q at *
      obtain ⟨q1, q2⟩ := hp
      have hwq : wtP q = q.keep + q.drop + q.put.length := rfl
      have hiq : ([q].map isP).sum = q.keep + q.put.length := by simp [isP]
      rw [hiq]
      unfold lenW
      simp only
      rw [h1, h2]
      have w1 : IntKind.i64.wrap (q.keep + q.drop) = q.keep + q.drop := by rw [IntKind.wrap_i64]; omega
      have w2 : IntKind.i64.wrap (q.keep + (q.put.length : Int)) = q.keep + q.put.length := by rw [IntKind.wrap_i64]; omega
      rw [w1, w2]
      have w3 : IntKind.i64.wrap (((spreads (ps.take k)).1.length : Int) + (q.keep + q.drop)) = ((spreads (ps.take k)).1.length : Int) + (q.keep + q.drop) := by rw [IntKind.wrap_i64]; omega
      have w4 : IntKind.i64.wrap (((ps.take k).map isP).sum + (q.keep + (q.put.length : Int))) = ((ps.take k).map isP).sum + (q.keep + q.put.length) := by rw [IntKind.wrap_i64]; omega
      rw [w3, w4]
      refine ⟨by omega, rfl, by omega, by omega, by omega⟩
  have := key ps.length (Nat.le_refl _)
  rw [List.take_length] at this
  exact ⟨this.1, this.2.1, this.2.2.1, this.2.2.2.1⟩

theorem ticks_put (d : Bool) : ∀ (n : Nat) (g : GSt), (ticks d n g).2.length ≤ g.2.length
  | 0, _ => Nat.le_refl _
  | n + 1, g => by
    have := ticks_put d n (tick d g)
    rw [ticks]
    have e : (tick d g).2.length = 0 := rfl
    omega
theorem spreads_put (ps : List Pt) (h : ∀ p ∈ ps, soundP p) (k : Nat) (hk : k ≤ ps.length) : ((spreads (ps.take k)).2.length : Int) ≤ wts (ps.take k) := by
  induction k with
  | zero => simp [spreads, wts]
  | succ k ih =>
    have h1 := ih (by omega)
    have hp := h _ (List.getElem_mem (show k < ps.length by omega))
    rw [List.take_succ_eq_append_getElem (by omega), spreads_snoc, wts_snoc]
    generalize ps[k] = q at *
    obtain ⟨q1, q2⟩ := hp
    have hwq : wtP q = q.keep + q.drop + q.put.length := rfl
    have h2 := ticks_put false q.keep.toNat (ticks true q.drop.toNat ((spreads (ps.take k)).1, (spreads (ps.take k)).2 ++ q.put))
    have h3 := ticks_put true q.drop.toNat ((spreads (ps.take k)).1, (spreads (ps.take k)).2 ++ q.put)
    have h4 : ((spreads (ps.take k)).2 ++ q.put).length = (spreads (ps.take k)).2.length + q.put.length := List.length_append
    have h5 : (spreadP (spreads (ps.take k)) q).2.length ≤ ((spreads (ps.take k)).2 ++ q.put).length := Nat.le_trans h2 h3
    omega

theorem wp_key {P : Program} {c : Code} {Q : Exit → Act → World → Prop} {a : Act} {w : World} (F : Act → World → Prop) (h1 : ∀ Q' : Exit → Act → World → Prop, (∀ a' w', F a' w' → Q' .normal a' w') → c.wp P Q' a w) (h2 : ∀ a' w', F a' w' → Q .normal a' w') : c.wp P Q a w := h1 Q h2

theorem own_setAt {w : World} {B e size n b o : Nat} {v : Value} {xs : List Value} (h : w.ownsRow B e size v n xs) (hb : b < B) (u : Value) : (w.setCell ⟨b, o, none⟩ u).ownsRow B e size v n xs := by
  obtain ⟨h0, hrow⟩ := h
  refine ⟨h0, ?_⟩
  rcases hrow with hn | ⟨g, cap, cur, rfl, hg, hgg, rest⟩
  · exact .inl hn
  · exact .inr ⟨g, cap, cur, rfl, hg, (Below.heap_setCell _ _ _ _ (by show g ≠ b; omega)).trans hgg, rest⟩
theorem below_three (w : World) (o1 o2 o3 : Obj) : Below w.heap.size w (((w.alloc o1).alloc o2).alloc o3).drew :=
  ((((Below.refl w.heap.size w).alloc (Nat.le_refl _) o1).alloc (by simp) o2).alloc (by rw [World.size_alloc, World.size_alloc]; omega) o3).drew
/-- A row that is made. -/
theorem own_made (W : World) (B n g : Nat) (z : Value) (T : TypeId) (hg : W.heap.size = g) (hB : B ≤ g) (hn : n ≤ maxLen) : (W.alloc (.cells (madeCells #[z] n) T)).ownsRow B T 1 (.slice (some ⟨g, 0, none⟩) n n) n (List.replicate n z) := by
  subst hg
  have := World.ownsRow_lit (base := B) (e := T) (size := 1) W (madeCells #[z] n) n hB hn (by rw [size_madeCells]; simp)
  rwa [toList_madeCells_one] at this

set_option maxRecDepth 100000 in
set_option maxHeartbeats 4000000 in
theorem Spread_any (v : Value) (ps : List Pt) (w : World) (hr : opAt w v ps) (hs : ∀ p ∈ ps, soundP p) (hw : wts ps < 10000000) (hl : ps.length < 10000000) (n : Nat) (hn : (spreads ps).1.length = n) :
    Calls Tryd.prog 51 #[v] w fun e w' => ∃ g1 g2, e = .returned (.agg #[.slice (some ⟨g1, 0, none⟩) (n + 1) (n + 1), .slice (some ⟨g2, 0, none⟩) n n]) ∧
      w'.ownsRow w.heap.size 9 1 (.slice (some ⟨g1, 0, none⟩) (n + 1) (n + 1)) (n + 1) ((strsP n (spreads ps)).map strV) ∧ w'.ownsRow w.heap.size 4 1 (.slice (some ⟨g2, 0, none⟩) n n) n ((boolsP n (spreads ps)).map Value.bool) ∧ Below w.heap.size w w' := by
  have cL := fun wx hb => refLens_any v ps wx (opAt_below hr hb (Nat.le_refl _)) hl
  obtain ⟨hp1, _, hp3, _⟩ := lens_plain ps hs (by omega)
  rw [hp1, hn] at cL
  have hn' : n < 10000000 := by omega
  have HNS : Hid ((spreads ps).1.length = n) := hn
  obtain ⟨l2, hl2⟩ : ∃ l2, (lensW ps).2 = l2 := ⟨_, rfl⟩
  rw [hl2] at cL
  obtain ⟨p, c, rfl, r1, r2, r3⟩ := hr
  obtain ⟨m, hm⟩ : ∃ m, m = ps.length := ⟨_, rfl⟩
  rw [← hm] at r1 hl cL ⊢
  have HM : Hid (m = ps.length) := hm
  have R3 : Hid (ps ≠ [] → ∃ b o, p = some ⟨b, o, none⟩ ∧ b < w.heap.size ∧ ∀ i q, ps[i]? = some q →
    w.cell? ⟨b, o + i * 3, none⟩ = some (.int .i64 q.keep) ∧ w.cell? ⟨b, o + i * 3 + 1, none⟩ = some (.int .i64 q.drop) ∧ w.cell? ⟨b, o + i * 3 + 2, none⟩ = some (.string ⟨q.put.toArray⟩)) := r3
  have HS : Hid (∀ p ∈ ps, soundP p) := hs
  have HW : Hid (wts ps < 10000000) := hw
  have hm1 := mk_str n (by omega)
  have hm2 := mk_bool n (by omega)
  have hwn : IntKind.i64.wrap ((n : Int) + 1) = (n : Int) + 1 := by rw [IntKind.wrap_i64]; omega
  clear hs hw hn hp1 hp3 hl2 hm r3
  go_enter Tryd.func51, Tryd.ntmps51
  go_wp2_with (first | (go_at_call 47; refine (cL _ ((Below.refl _ _).alloc (Nat.le_refl _) _)).mono ?_; rintro e w1 ⟨rfl, hb1⟩) | fail)
  have hB1 : Below w.heap.size w w1 := ((Below.refl _ _).alloc (Nat.le_refl _) _).trans (hb1.mono (by simp))
  have hs1 : w.heap.size < w1.heap.size := by have := hb1.size; rw [World.size_alloc] at this; omega
  have x0 : w1.cell? ⟨w.heap.size, 0, none⟩ = some (.slice none 0 0) := (hb1.cell (p := ⟨w.heap.size, 0, none⟩) (by simp)).trans (by simp [go_sem])
  have x1 : w1.cell? ⟨w.heap.size, 1, none⟩ = some (.slice none 0 0) := (hb1.cell (p := ⟨w.heap.size, 1, none⟩) (by simp)).trans (by simp [go_sem])
  have x2 : w1.frozen? ⟨w.heap.size, 0, none⟩ = false := (hb1.frozen (p := ⟨w.heap.size, 0, none⟩) (by simp)).trans (by simp [go_sem])
  have x3 : w1.frozen? ⟨w.heap.size, 1, none⟩ = false := (hb1.frozen (p := ⟨w.heap.size, 1, none⟩) (by simp)).trans (by simp [go_sem])
  clear hb1 cL
  refine wp_key (F := fun a' w' => ∃ g1 g2 b, a' = { tmps := #[.slice p m c, undef, .pointer (some ⟨w.heap.size, 0, none⟩), .int .i64 n, .int .i64 l2, .pointer (some ⟨b, 0, none⟩), undef, undef, undef, .tuple #[.int .i64 n, .int .i64 l2], .slice p m c, .tuple #[.int .i64 n, .int .i64 l2], .int .i64 n, .int .i64 l2, .int .i64 n, .int .i64 ((n : Int) + 1),
      .slice (some ⟨g1, 0, none⟩) (n + 1) (n + 1), .int .i64 n, .slice (some ⟨g2, 0, none⟩) n n, .agg #[.slice (some ⟨g1, 0, none⟩) (n + 1) (n + 1), .slice (some ⟨g2, 0, none⟩) n n],
      undef, undef, undef, undef, undef, undef, undef, undef, undef, undef, undef, undef, undef, undef, undef, undef, undef, undef, undef, undef, undef, undef, undef, undef, undef, undef, undef, undef, undef, undef, undef, undef], defers := [] } ∧
      w'.ownsRow (w.heap.size + 1) 9 1 (.slice (some ⟨g1, 0, none⟩) (n + 1) (n + 1)) (n + 1) (List.replicate (n + 1) (.string ⟨#[]⟩)) ∧ w'.ownsRow (w.heap.size + 1) 4 1 (.slice (some ⟨g2, 0, none⟩) n n) n (List.replicate n (.bool false)) ∧
      w'.cell? ⟨b, 0, none⟩ = some (.slice (some ⟨g1, 0, none⟩) (n + 1) (n + 1)) ∧ w'.cell? ⟨b, 1, none⟩ = some (.slice (some ⟨g2, 0, none⟩) n n) ∧ b ≠ g1 ∧ b ≠ g2 ∧ w.heap.size < b ∧ Below w1.heap.size w1 w') ?_ ?_
  · intro Q' hQ
    go_region
    all_goals
      have hm0 : n + 1 ≤ maxLen := by unfold maxLen; omega
      have hm3 : n ≤ maxLen := by omega
      refine hQ _ _ ⟨_, _, _, rfl, ?_, ?_, by simp [go_sem], by simp [go_sem], by omega, by omega, by omega, ?_⟩
      · first
          | exact (own_made _ _ _ _ _ _ (by simp) (by omega) hm0).drew
          | exact ((own_made _ _ _ _ _ _ (by simp) (by omega) hm0).alloc _).drew
          | exact (((own_made _ _ _ _ _ _ (by simp) (by omega) hm0).alloc _).alloc _).drew
      · first
          | exact (own_made _ _ _ _ _ _ (by simp) (by omega) hm3).drew
          | exact ((own_made _ _ _ _ _ _ (by simp) (by omega) hm3).alloc _).drew
          | exact (((own_made _ _ _ _ _ _ (by simp) (by omega) hm3).alloc _).alloc _).drew
      · exact below_three _ _ _ _
  · rintro a' w2 ⟨g1, g2, b, rfl, hO1, hO2, hc0, hc1, hn1, hn2, hb0, hb2⟩
    have HB2 : Hid (Below w.heap.size w w2) := hB1.trans (hb2.mono (by omega))
    have y0 := (hb2.cell (p := ⟨w.heap.size, 0, none⟩) hs1).trans x0
    have y1 := (hb2.cell (p := ⟨w.heap.size, 1, none⟩) hs1).trans x1
    have y2 := (hb2.frozen (p := ⟨w.heap.size, 0, none⟩) hs1).trans x2
    have y3 := (hb2.frozen (p := ⟨w.heap.size, 1, none⟩) hs1).trans x3
    have hg1 := (hO1.lt g1 rfl)
    have hg2 := (hO2.lt g2 rfl)
    have hbl := World.block_lt_of_cell? w2 _ hc0
    have hng : g1 ≠ g2 := by
      have := own_ne hO1 hO2 (by decide)
      rcases this with h | h
      · cases h
      · intro e; subst e; exact h rfl
    have HST : Hid (strsP n ([], []) = List.replicate (n + 1) []) := by show _ = _; rfl
    have hO1' : w2.ownsRow (w.heap.size + 1) 9 1 (.slice (some ⟨g1, 0, none⟩) (n + 1) (n + 1)) (n + 1) ((strsP n (spreads (ps.take 0))).map strV) := by
      have e : (strsP n (spreads (ps.take 0))).map strV = List.replicate (n + 1) (.string ⟨#[]⟩) := by
        show (strsP n ([], [])).map strV = _
        rw [HST.out, List.map_replicate]
        rfl
      rw [e]; exact hO1
    have hO2' : w2.ownsRow (w.heap.size + 1) 4 1 (.slice (some ⟨g2, 0, none⟩) n n) n ((boolsP n (spreads (ps.take 0))).map Value.bool) := by
      have e : (boolsP n (spreads (ps.take 0))).map Value.bool = List.replicate n (.bool false) := by
        show ((List.replicate n false)).map Value.bool = _
        rw [List.map_replicate]
      rw [e]; exact hO2
    have HO1 : Hid _ := hO1'
    have HO2 : Hid _ := hO2'
    clear hO1 hO2 hO1' hO2' x0 x1 x2 x3 hb2 hB1 hm1 hm2 HST
    go_wp2
    go_loopw [6, 22] (fun at_ i wr => ∃ (k : Nat), k ≤ m ∧ i = .int .i64 k ∧ at_ = .int .i64 (spreads (ps.take k)).1.length ∧
        wr.ownsRow (w.heap.size + 1) 9 1 (.slice (some ⟨g1, 0, none⟩) (n + 1) (n + 1)) (n + 1) ((strsP n (spreads (ps.take k))).map strV) ∧ wr.ownsRow (w.heap.size + 1) 4 1 (.slice (some ⟨g2, 0, none⟩) n n) n ((boolsP n (spreads (ps.take k))).map Value.bool) ∧
        wr.cell? ⟨b, 0, none⟩ = some (.slice (some ⟨g1, 0, none⟩) (n + 1) (n + 1)) ∧ wr.cell? ⟨b, 1, none⟩ = some (.slice (some ⟨g2, 0, none⟩) n n) ∧
        wr.cell? ⟨w.heap.size, 0, none⟩ = some (.slice none 0 0) ∧ wr.cell? ⟨w.heap.size, 1, none⟩ = some (.slice none 0 0) ∧ wr.frozen? ⟨w.heap.size, 0, none⟩ = false ∧ wr.frozen? ⟨w.heap.size, 1, none⟩ = false ∧ Below w.heap.size w wr) (fun _ i _ => m - (intOf i).toNat)
    case atStart => exact ⟨0, Nat.zero_le _, rfl, rfl, HO1.out, HO2.out, hc0, hc1, y0, y1, y2, y3, HB2.out⟩
    case round =>
      obtain ⟨k, hk, rfl, rfl, hO1, hO2, z0, z1, z2, z3, z4, z5, hwr⟩ := hrel
      clear HO1 HO2 hc0 hc1 y0 y1 y2 y3
      by_cases hlt : k < m
      · have hkr : k < ps.length := by rw [← HM.out]; exact hlt
        have hne : ps ≠ [] := by intro e; rw [e] at hkr; exact absurd hkr (Nat.not_lt_zero _)
        obtain ⟨pb, po, rfl, hbw, hcell⟩ := R3.out hne
        obtain ⟨c0, c1, c2⟩ := hcell k ps[k] (List.getElem?_eq_getElem hkr)
        have e0 := (hwr.cell (p := ⟨pb, po + k * 3, none⟩) hbw).trans c0
        have e1 := (hwr.cell (p := ⟨pb, po + k * 3 + 1, none⟩) hbw).trans c1
        have e2 := (hwr.cell (p := ⟨pb, po + k * 3 + 2, none⟩) hbw).trans c2
        have hsp := HS.out ps[k] (List.getElem_mem _)
        have hle := spreads_le ps (k + 1)
        have hpu := spreads_put ps HS.out k (by omega)
        have hpt := wts_take HS.out (k + 1)
        rw [List.take_succ_eq_append_getElem hkr, wts_snoc] at hpt
        have hpw := HW.out
        rw [HNS.out, List.take_succ_eq_append_getElem hkr, spreads_snoc, spreadP_nat] at hle
        have HSN : Hid (spreads (ps.take (k + 1)) = spreadP (spreads (ps.take k)) ps[k]) := by
          show _ = _
          rw [List.take_succ_eq_append_getElem hkr, spreads_snoc]
        generalize ps[k] = q at *
        generalize spreads (ps.take k) = G at *
        obtain ⟨K, D, U⟩ := q
        obtain ⟨s1, s2⟩ := hsp
        simp only at e0 e1 e2 hle s1 s2
        have hcb : ¬ 9223372036854775807 < G.2.length + U.length := by
          have : wtP ⟨K, D, U⟩ = K + D + U.length := rfl
          omega
        have hat : G.1.length ≤ n := by omega
        have i0 : (strsP n G).map strV = ((strsP n G).map strV) := rfl
        have hstr : wr.cell? ⟨g1, G.1.length, none⟩ = some (.string ⟨G.2.toArray⟩) := by
          rw [hO1.cellAt _ (by omega), List.getElem?_map, strsP_at]
          rfl
        have hsf := hO1.frozenAt G.1.length
        have hgl1 := (hO1.lt g1 rfl).2
        have hgl2 := (hO2.lt g2 rfl).2
        have hbl' := World.block_lt_of_cell? wr _ z0
        have hcat := str_append G.2 U
        have t1 : ((G.1.length : Nat) : Int) < (n : Int) + 1 := by omega
        have t0 : (0 : Int) ≤ ((G.1.length : Nat) : Int) := by omega
        have HO1 : Hid (wr.ownsRow (w.heap.size + 1) 9 1 (.slice (some ⟨g1, 0, none⟩) (n + 1) (n + 1)) (n + 1) ((strsP n G).map strV)) := hO1
        have HO2 : Hid (wr.ownsRow (w.heap.size + 1) 4 1 (.slice (some ⟨g2, 0, none⟩) n n) n ((boolsP n G).map Value.bool)) := hO2
        have HWR : Hid (Below w.heap.size w wr) := hwr
        clear hcell c0 c1 c2 i0 hO1 hO2 hwr hpu hpt hpw
        go_wp2
        go_region
        obtain ⟨r1, r2⟩ := HO1.out.stored G.1.length (strV (G.2 ++ U))
        have q1 : ((wr.setCell ⟨g1, G.1.length, none⟩ (strV (G.2 ++ U))).alloc (.cells #[.int .i64 K, .int .i64 D, .string ⟨U.toArray⟩] 151)).drew.ownsRow (w.heap.size + 1) 9 1 (.slice (some ⟨g1, 0, none⟩) (n + 1) (n + 1)) (n + 1) ((strsP n (G.1, G.2 ++ U)).map strV) := by
          rw [strsP_put, List.map_set]
          exact (World.ownsRow.alloc r1 _).drew
        have q2 : ((wr.setCell ⟨g1, G.1.length, none⟩ (strV (G.2 ++ U))).alloc (.cells #[.int .i64 K, .int .i64 D, .string ⟨U.toArray⟩] 151)).drew.ownsRow (w.heap.size + 1) 4 1 (.slice (some ⟨g2, 0, none⟩) n n) n ((boolsP n (G.1, G.2 ++ U)).map Value.bool) :=
          (World.ownsRow.alloc (HO2.out.kept r2 (own_ne HO2.out HO1.out (by decide))) _).drew
        have keep : ∀ (x : Nat) (o : Nat), x ≠ g1 → x < wr.heap.size → (((wr.setCell ⟨g1, G.1.length, none⟩ (strV (G.2 ++ U))).alloc (.cells #[.int .i64 K, .int .i64 D, .string ⟨U.toArray⟩] 151)).drew).heap[x]? = wr.heap[x]? := by
          intro x o hx hxl
          rw [← r2.block x hxl (by intro e; exact hx (Option.some.inj e))]
          exact heap_alloc_old _ _ (by simpa using hxl)
        have hs0 := World.block_lt_of_cell? wr _ z2
        have hg1b := (HO1.out.lt g1 rfl).1
        have hg2b := (HO2.out.lt g2 rfl).1
        have u0 := (World.cell?_of_block (a := ⟨b, 0, none⟩) (keep b 0 hn1 hbl')).trans z0
        have u1 := (World.cell?_of_block (a := ⟨b, 1, none⟩) (keep b 0 hn1 hbl')).trans z1
        have u2 := (World.cell?_of_block (a := ⟨w.heap.size, 0, none⟩) (keep w.heap.size 0 (by omega) hs0)).trans z2
        have u3 := (World.cell?_of_block (a := ⟨w.heap.size, 1, none⟩) (keep w.heap.size 0 (by omega) hs0)).trans z3
        have u4 := (World.frozen?_of_block (a := ⟨w.heap.size, 0, none⟩) (keep w.heap.size 0 (by omega) hs0)).trans z4
        have u5 := (World.frozen?_of_block (a := ⟨w.heap.size, 1, none⟩) (keep w.heap.size 0 (by omega) hs0)).trans z5
        have hset : Below w.heap.size w (wr.setCell ⟨g1, G.1.length, none⟩ (strV (G.2 ++ U))) := HWR.out.setCell (p := ⟨g1, G.1.length, none⟩) (by show w.heap.size ≤ g1; omega) _
        have u6 : Below w.heap.size w (((wr.setCell ⟨g1, G.1.length, none⟩ (strV (G.2 ++ U))).alloc (.cells #[.int .i64 K, .int .i64 D, .string ⟨U.toArray⟩] 151)).drew) := (hset.alloc hset.size _).drew
        have u7 : (((wr.setCell ⟨g1, G.1.length, none⟩ (strV (G.2 ++ U))).alloc (.cells #[.int .i64 K, .int .i64 D, .string ⟨U.toArray⟩] 151)).drew).cell? ⟨wr.heap.size, 0, none⟩ = some (.int .i64 K) := by simp [go_sem]
        have u8 : (((wr.setCell ⟨g1, G.1.length, none⟩ (strV (G.2 ++ U))).alloc (.cells #[.int .i64 K, .int .i64 D, .string ⟨U.toArray⟩] 151)).drew).cell? ⟨wr.heap.size, 1, none⟩ = some (.int .i64 D) := by simp [go_sem]
        have hpb : w.heap.size ≠ wr.heap.size ∧ b ≠ wr.heap.size ∧ g1 ≠ wr.heap.size ∧ g2 ≠ wr.heap.size := ⟨by omega, by omega, by omega, by omega⟩
        clear r1 r2 keep z0 z1 z2 z3 z4 z5 HO1 HO2 HWR hset e0 e1 e2 hstr hsf hgl1 hgl2 hbl' hs0
        unfold strV at q1 q2 u0 u1 u2 u3 u4 u5 u6 u7 u8
        generalize (((wr.setCell ⟨g1, G.1.length, none⟩ (.string ⟨(G.2 ++ U).toArray⟩)).alloc (.cells #[.int .i64 K, .int .i64 D, .string ⟨U.toArray⟩] 151)).drew) = W3 at *
        obtain ⟨pB, hpB⟩ : ∃ pB, wr.heap.size = pB := ⟨_, rfl⟩
        rw [hpB] at u7 u8 hpb ⊢
        clear hpB hcat hcb
        have HQ1 : Hid (W3.ownsRow (w.heap.size + 1) 9 1 (.slice (some ⟨g1, 0, none⟩) (n + 1) (n + 1)) (n + 1) ((strsP n (G.1, G.2 ++ U)).map strV)) := q1
        have HQ2 : Hid (W3.ownsRow (w.heap.size + 1) 4 1 (.slice (some ⟨g2, 0, none⟩) n n) n ((boolsP n (G.1, G.2 ++ U)).map Value.bool)) := q2
        clear q1 q2
        go_wp2
        go_loopw [6, 37] (fun at_ i wr => ∃ (j : Nat), j ≤ D.toNat ∧ i = .int .i64 j ∧ at_ = .int .i64 ((G.1.length + j : Nat) : Int) ∧
          wr.ownsRow (w.heap.size + 1) 9 1 (.slice (some ⟨g1, 0, none⟩) (n + 1) (n + 1)) (n + 1) ((strsP n (G.1, G.2 ++ U)).map strV) ∧ wr.ownsRow (w.heap.size + 1) 4 1 (.slice (some ⟨g2, 0, none⟩) n n) n ((boolsP n (ticks true j (G.1, G.2 ++ U))).map Value.bool) ∧
          wr.cell? ⟨b, 0, none⟩ = some (.slice (some ⟨g1, 0, none⟩) (n + 1) (n + 1)) ∧ wr.cell? ⟨b, 1, none⟩ = some (.slice (some ⟨g2, 0, none⟩) n n) ∧
          wr.cell? ⟨w.heap.size, 0, none⟩ = some (.slice none 0 0) ∧ wr.cell? ⟨w.heap.size, 1, none⟩ = some (.slice none 0 0) ∧ wr.frozen? ⟨w.heap.size, 0, none⟩ = false ∧ wr.frozen? ⟨w.heap.size, 1, none⟩ = false ∧ Below w.heap.size w wr ∧
          wr.cell? ⟨pB, 0, none⟩ = some (.int .i64 K) ∧ wr.cell? ⟨pB, 1, none⟩ = some (.int .i64 D)) (fun _ i _ => D.toNat - (intOf i).toNat)
        case atStart => exact ⟨0, Nat.zero_le _, rfl, rfl, HQ1.out, HQ2.out, u0, u1, u2, u3, u4, u5, u6, u7, u8⟩
        case round =>
          obtain ⟨j, hj, rfl, rfl, hO1, hO2, z0, z1, z2, z3, z4, z5, hwr, z6, z7⟩ := hrel
          clear HQ1 HQ2 u0 u1 u2 u3 u4 u5 u6 u7 u8
          by_cases hjl : j < D.toNat
          · have hDj : (j : Int) < D := by omega
            have htl : (ticks true j (G.1, G.2 ++ U)).1.length = G.1.length + j := ticks_len true j (G.1, G.2 ++ U)
            have hcell : wr.cell? ⟨g2, G.1.length + j, none⟩ = some (.bool false) := by
              rw [hO2.cellAt _ (by omega), List.getElem?_map, ← htl, boolsP_at (by omega)]
              rfl
            have hfr := hO2.frozenAt (G.1.length + j)
            have hj1 : ((G.1.length + j : Nat) : Int) < (n : Int) := by omega
            have hj0 : (0 : Int) ≤ ((G.1.length + j : Nat) : Int) := by omega
            obtain ⟨r1, r2⟩ := hO2.stored (G.1.length + j) (.bool true)
            have HR1 : Hid ((wr.setCell ⟨g2, G.1.length + j, none⟩ (.bool true)).ownsRow (w.heap.size + 1) 4 1 (.slice (some ⟨g2, 0, none⟩) n n) n ((boolsP n (ticks true (j + 1) (G.1, G.2 ++ U))).map Value.bool)) := by
              have e : (boolsP n (ticks true (j + 1) (G.1, G.2 ++ U))).map Value.bool = ((boolsP n (ticks true j (G.1, G.2 ++ U))).map Value.bool).set (G.1.length + j) (.bool true) := by
                rw [ticks_more, boolsP_tick (by omega), htl, List.map_set]
              rw [e]; exact r1
            have HR2 : Hid ((wr.setCell ⟨g2, G.1.length + j, none⟩ (.bool true)).ownsRow (w.heap.size + 1) 9 1 (.slice (some ⟨g1, 0, none⟩) (n + 1) (n + 1)) (n + 1) ((strsP n (G.1, G.2 ++ U)).map strV)) := hO1.kept r2 (own_ne hO1 hO2 (by decide))
            have kp : ∀ {x : Nat}, x ≠ g2 → x < wr.heap.size → (wr.setCell ⟨g2, G.1.length + j, none⟩ (.bool true)).heap[x]? = wr.heap[x]? := fun hx hxl => r2.block _ hxl (by intro e; exact hx (Option.some.inj e))
            have lb := World.block_lt_of_cell? wr _ z0
            have lS := World.block_lt_of_cell? wr _ z2
            have lp := World.block_lt_of_cell? wr _ z6
            have HV0 : Hid _ := (World.cell?_of_block (a := ⟨b, 0, none⟩) (kp hn2 lb)).trans z0
            have HV1 : Hid _ := (World.cell?_of_block (a := ⟨b, 1, none⟩) (kp hn2 lb)).trans z1
            have HV2 : Hid _ := (World.cell?_of_block (a := ⟨w.heap.size, 0, none⟩) (kp (x := w.heap.size) (by omega) lS)).trans z2
            have HV3 : Hid _ := (World.cell?_of_block (a := ⟨w.heap.size, 1, none⟩) (kp (x := w.heap.size) (by omega) lS)).trans z3
            have HV4 : Hid _ := (World.frozen?_of_block (a := ⟨w.heap.size, 0, none⟩) (kp (x := w.heap.size) (by omega) lS)).trans z4
            have HV5 : Hid _ := (World.frozen?_of_block (a := ⟨w.heap.size, 1, none⟩) (kp (x := w.heap.size) (by omega) lS)).trans z5
            have HV6 : Hid _ := (World.cell?_of_block (a := ⟨pB, 0, none⟩) (kp (Ne.symm hpb.2.2.2) lp)).trans z6
            have HV7 : Hid _ := (World.cell?_of_block (a := ⟨pB, 1, none⟩) (kp (Ne.symm hpb.2.2.2) lp)).trans z7
            have HV8 : Hid (Below w.heap.size w (wr.setCell ⟨g2, G.1.length + j, none⟩ (.bool true))) := hwr.setCell (p := ⟨g2, G.1.length + j, none⟩) (by show w.heap.size ≤ g2; omega) _
            have hsum : ((G.1.length + j : Nat) : Int) + 1 = ((G.1.length + (j + 1) : Nat) : Int) := by omega
            clear r1 r2 hO1 hO2 kp z2 z3 z4 z5
            go_wp2
            go_roundw
            case rel => exact ⟨j + 1, by omega, by go_num, by first | go_num | (simp; omega), HR2.out, HR1.out, HV0.out, HV1.out, HV2.out, HV3.out, HV4.out, HV5.out, HV8.out, HV6.out, HV7.out⟩
            case measure => simp [intOf]; omega
          · have hje : j = D.toNat := by omega
            subst hje
            have hDj : ¬ ((D.toNat : Nat) : Int) < D := by omega
            have htl : (ticks true D.toNat (G.1, G.2 ++ U)).1.length = G.1.length + D.toNat := ticks_len true D.toNat (G.1, G.2 ++ U)
            obtain ⟨k1, k2⟩ := rowsP_keeps (n := n) K.toNat (ticks true D.toNat (G.1, G.2 ++ U)) (by rw [htl]; omega)
            have HR1 : Hid (wr.ownsRow (w.heap.size + 1) 4 1 (.slice (some ⟨g2, 0, none⟩) n n) n ((boolsP n (spreads (ps.take (k + 1)))).map Value.bool)) := by
              show World.ownsRow _ _ _ _ _ _ _
              rw [HSN.out]
              show World.ownsRow _ _ _ _ _ _ ((boolsP n (ticks false K.toNat (ticks true D.toNat (G.1, G.2 ++ U)))).map Value.bool)
              rw [k2]; exact hO2
            have HR2 : Hid (wr.ownsRow (w.heap.size + 1) 9 1 (.slice (some ⟨g1, 0, none⟩) (n + 1) (n + 1)) (n + 1) ((strsP n (spreads (ps.take (k + 1)))).map strV)) := by
              show World.ownsRow _ _ _ _ _ _ _
              rw [HSN.out]
              show World.ownsRow _ _ _ _ _ _ ((strsP n (ticks false K.toNat (ticks true D.toNat (G.1, G.2 ++ U)))).map strV)
              rw [k1, strsP_drops _ _ (by show G.1.length + D.toNat ≤ n; omega)]; exact hO1
            have HAT : Hid (((spreads (ps.take (k + 1))).1.length : Int) = ((G.1.length + D.toNat : Nat) : Int) + K) := by
              show _ = _
              rw [HSN.out, spreadP_nat]
              show ((G.1.length + D.toNat + K.toNat : Nat) : Int) = _
              omega
            have hwk : IntKind.i64.wrap (((G.1.length + D.toNat : Nat) : Int) + K) = ((G.1.length + D.toNat : Nat) : Int) + K := by rw [IntKind.wrap_i64]; omega
            clear k1 k2 hO1 hO2
            go_wp2
            go_roundw
            case rel => exact ⟨k + 1, by omega, by go_num, by rw [HAT.out]; first | rfl | go_num, HR2.out, HR1.out, z0, z1, z2, z3, z4, z5, hwr⟩
            case measure => simp [intOf]; omega
      · have e : ps.take k = ps := List.take_of_length_le (by rw [← HM.out]; omega)
        rw [e] at hO1 hO2 ⊢
        have hS := World.block_lt_of_cell? wr _ z2
        have HO1 : Hid (wr.ownsRow (w.heap.size + 1) 9 1 (.slice (some ⟨g1, 0, none⟩) (n + 1) (n + 1)) (n + 1) ((strsP n (spreads ps)).map strV)) := hO1
        have HO2 : Hid (wr.ownsRow (w.heap.size + 1) 4 1 (.slice (some ⟨g2, 0, none⟩) n n) n ((boolsP n (spreads ps)).map Value.bool)) := hO2
        clear e hO1 hO2 R3 HS HW
        go_wp2
        refine bodyPost_ret (v := .agg #[.slice (some ⟨g1, 0, none⟩) (n + 1) (n + 1), .slice (some ⟨g2, 0, none⟩) n n]) (by simp [results, Tryd.results51, go_sem, z2, z3]) rfl ?_
        refine ⟨g1, g2, rfl, own_mono (own_setAt (own_setAt HO1.out (by omega) _) (by omega) _) (by omega), own_mono (own_setAt (own_setAt HO2.out (by omega) _) (by omega) _) (by omega), ?_⟩
        exact (hwr.setCell (p := ⟨w.heap.size, 0, none⟩) (Nat.le_refl _) _).setCell (p := ⟨w.heap.size, 1, none⟩) (Nat.le_refl _) _
end Go.Proofs.YtedonckeomccpaaDoor
