/-
  The closures of ops.gather: parts are added, told, and in the end there.
-/
import Derived.Test.YtedgnlgjmnccgabGreatDoorOpsPure
import Derived.Test.YtedgnlgjmnccgabGreatDoorTexts
import Derived.Lib.AppendStr
import Derived.Laws.OwnMore
import Derived.Maps.AppendAt
namespace Go.Proofs.YtedgnlgjmnccgabGreatDoor
open Go.RowKit
set_option linter.unusedVariables false

/-- A part's cells, an operation's cells. -/
def partCells (p : Pt) : List Value := [.int .i64 p.keep, .int .i64 p.drop, .string ⟨p.put.toArray⟩]
def cellsP (l : List Pt) : List Value := l.flatMap partCells
theorem cellsP_snoc (l : List Pt) (p : Pt) : cellsP (l ++ [p]) = cellsP l ++ partCells p := by simp [cellsP]
theorem cellsP_len (l : List Pt) : (cellsP l).length = l.length * 3 := by
  induction l with
  | nil => rfl
  | cons p l ih =>
    have : cellsP (p :: l) = partCells p ++ cellsP l := rfl
    rw [this, List.length_append, ih, List.length_cons]
    show 3 + _ = _
    omega
theorem partCells_one (p : Pt) : ∀ u ∈ partCells p, u.oneCell' = true := by
  intro u hu
  simp only [partCells, List.mem_cons, List.not_mem_nil, or_false] at hu
  rcases hu with rfl | rfl | rfl <;> rfl
theorem cells_new (w : World) (l : List Value) (t : TypeId) : ∀ j u, l[j]? = some u → (w.alloc (.cells l.toArray t)).cell? ((⟨w.heap.size, 0, none⟩ : Addr).add j) = some u := by
  intro j u hj
  obtain ⟨hl, rfl⟩ := List.getElem?_eq_some_iff.1 hj
  rw [Addr.add_lit, Nat.zero_add]
  simp

theorem cells_new_set (w : World) (a : Addr) (x : Value) (l : List Value) (t : TypeId) : ∀ j u, l[j]? = some u → ((w.setCell a x).alloc (.cells l.toArray t)).cell? ((⟨w.heap.size, 0, none⟩ : Addr).add j) = some u := by
  have h := cells_new (w.setCell a x) l t
  rwa [show (w.setCell a x).heap.size = w.heap.size by simp] at h

theorem info_part : (Tryz.prog.info? 50).map (fun i => (i.zero, i.size, i.bytes)) = some (some (.agg #[.int .i64 0, .int .i64 0, .string ⟨#[]⟩]), 3, 32) := by kernel_rfl
theorem info_u8 : (Tryz.prog.info? 5).map (fun i => (i.zero, i.size, i.bytes)) = some (some (.int .u8 0), 1, 1) := by kernel_rfl

/-- Two rows of cells of different types are different rows. -/
theorem own_ne {w : World} {B B' e e' size size' n n' : Nat} {v v' : Value} {xs xs' : List Value} (h : w.ownsRow B e size v n xs) (h' : w.ownsRow B' e' size' v' n' xs') (hne : e ≠ e') : v.ownBlock = none ∨ v.ownBlock ≠ v'.ownBlock := by
  rcases h.2 with ⟨rfl, _⟩ | ⟨g, cap, cur, rfl, _, hg, _⟩
  · exact .inl rfl
  · rcases h'.2 with ⟨rfl, _⟩ | ⟨g', cap', cur', rfl, _, hg', _⟩
    · exact .inr (by simp [Value.ownBlock])
    · refine .inr fun e => ?_
      simp only [Value.ownBlock, Option.some.injEq] at e
      subst e
      rw [hg] at hg'
      simp only [Option.some.injEq, Obj.cells.injEq] at hg'
      exact hne hg'.2.1

/-- The variables of a gathering: op in block a, put, drop and tell behind it; what op and put hold lies at M or behind it. -/
structure gath (M : Nat) (w : World) (a : Nat) (s : NSt) : Prop where
  out : ∃ p c, w.cell? ⟨a, 0, none⟩ = some (.slice p s.out.length c) ∧ w.ownsRow M 50 3 (.slice p s.out.length c) s.out.length (cellsP s.out)
  outF : w.frozen? ⟨a, 0, none⟩ = false
  put : ∃ p c, w.cell? ⟨a + 1, 0, none⟩ = some (.slice p s.put.length c) ∧ w.ownsRow M 5 1 (.slice p s.put.length c) s.put.length (Lib.byteCells s.put)
  putF : w.frozen? ⟨a + 1, 0, none⟩ = false
  drop : w.cell? ⟨a + 2, 0, none⟩ = some (.int .i64 s.drop)
  dropF : w.frozen? ⟨a + 2, 0, none⟩ = false
  tell : w.cell? ⟨a + 3, 0, none⟩ = some (.func (.func 264) #[] #[.pointer (some ⟨a + 1, 0, none⟩), .pointer (some ⟨a, 0, none⟩), .pointer (some ⟨a + 2, 0, none⟩)])
  le : a + 4 ≤ M
  top : M ≤ w.heap.size

/-- Every block but a, a + 1, a + 2 that is no row of bytes or of parts, at M or behind it, stands. -/
def KeptG (M a : Nat) (w w' : World) : Prop := ∀ k o, w.heap[k]? = some o → k ≠ a → k ≠ a + 1 → k ≠ a + 2 → (∀ c fz, M ≤ k → o ≠ .cells c 5 fz) → (∀ c fz, M ≤ k → o ≠ .cells c 50 fz) → w'.heap[k]? = some o
structure BelowG (M a : Nat) (w w' : World) : Prop where
  below : Below a w w'
  kept : KeptG M a w w'
theorem heap_lt {w : World} {k : Nat} {o : Obj} (h : w.heap[k]? = some o) : k < w.heap.size := by
  rcases Nat.lt_or_ge k w.heap.size with h' | h'
  · exact h'
  · rw [Array.getElem?_eq_none h'] at h; cases h
theorem KeptG.refl (M a : Nat) (w : World) : KeptG M a w w := fun _ _ h _ _ _ _ _ => h
theorem KeptG.trans {M : Nat} {a : Nat} {x y z : World} (h : KeptG M a x y) (k : KeptG M a y z) : KeptG M a x z := fun i o hi h1 h2 h3 h4 h5 => k i o (h i o hi h1 h2 h3 h4 h5) h1 h2 h3 h4 h5
theorem KeptG.of {M : Nat} {a : Nat} {w w' : World} (h : Below w.heap.size w w') : KeptG M a w w' := fun k o hk _ _ _ _ _ => (h.block k (heap_lt hk)).trans hk
theorem KeptG.alloc {M : Nat} {a : Nat} {w w' : World} (h : KeptG M a w w') (o : Obj) : KeptG M a w (w'.alloc o) := h.trans fun k o' hk _ _ _ _ _ => (heap_alloc_old w' o (heap_lt hk)).trans hk
theorem KeptG.set {M : Nat} {a : Nat} {w w' : World} (h : KeptG M a w w') {b : Nat} (hb : b = a ∨ b = a + 1 ∨ b = a + 2) (v : Value) : KeptG M a w (w'.setCell ⟨b, 0, none⟩ v) :=
  h.trans fun k o' hk h1 h2 h3 _ _ => (Below.heap_setCell _ _ _ _ (by show k ≠ b; omega)).trans hk
theorem KeptG.grown {M : Nat} {a e size n : Nat} {v : Value} {xs : List Value} {w w1 w2 : World} (h : KeptG M a w w1) (hr : w1.ownsRow M e size v n xs) (he : e = 5 ∨ e = 50) (hg : w1.grownBy w2 v.ownBlock) : KeptG M a w w2 := by
  refine h.trans fun k o hk _ _ _ h4 h5 => ?_
  refine (hg.block k (heap_lt hk) ?_).trans hk
  intro e'
  obtain ⟨_, hrow⟩ := hr
  rcases hrow with ⟨hx, _⟩ | ⟨g, cap, cur, rfl, hge, hgg, _⟩
  · rw [hx] at e'; cases e'
  · have e2 : some k = some g := e'
    obtain rfl := Option.some.inj e2
    rw [hk] at hgg
    rcases he with rfl | rfl
    · exact h4 _ _ hge (Option.some.inj hgg)
    · exact h5 _ _ hge (Option.some.inj hgg)
theorem BelowG.size {M : Nat} {a : Nat} {w w' : World} (h : BelowG M a w w') : w.heap.size ≤ w'.heap.size := h.below.size
theorem BelowG.refl {M : Nat} (a : Nat) (w : World) : BelowG M a w w := ⟨.refl a w, .refl M a w⟩
theorem BelowG.trans {M : Nat} {a : Nat} {x y z : World} (h : BelowG M a x y) (k : BelowG M a y z) : BelowG M a x z := ⟨h.below.trans k.below, h.kept.trans k.kept⟩
theorem BelowG.of {M : Nat} {a : Nat} {w w' : World} (h : Below w.heap.size w w') (ha : a ≤ w.heap.size) : BelowG M a w w' := ⟨h.mono ha, .of h⟩
theorem BelowG.drew {M : Nat} {a : Nat} {w w' : World} (h : BelowG M a w w') : BelowG M a w w'.drew := ⟨h.below.drew, h.kept⟩

theorem gath_lt {M : Nat} {w : World} {a : Nat} {s : NSt} (h : gath M w a s) : a + 3 < w.heap.size := World.block_lt_of_cell? w _ h.tell

theorem gath_below {M : Nat} {w w' : World} {a : Nat} {s : NSt} (h : gath M w a s) (hb : Below w.heap.size w w') : gath M w' a s := by
  have hM := h.le
  have hT := h.top
  have hlt := gath_lt h
  obtain ⟨⟨p, c, h1, h2⟩, h3, ⟨p', c', h4, h5⟩, h6, h7, h8, h9⟩ := h
  exact ⟨⟨p, c, (hb.cell (p := ⟨a, 0, none⟩) (by show a < _; omega)).trans h1, own_below h2 hb⟩, (hb.frozen (p := ⟨a, 0, none⟩) (by show a < _; omega)).trans h3,
    ⟨p', c', (hb.cell (p := ⟨a + 1, 0, none⟩) (by show a + 1 < _; omega)).trans h4, own_below h5 hb⟩, (hb.frozen (p := ⟨a + 1, 0, none⟩) (by show a + 1 < _; omega)).trans h6,
    (hb.cell (p := ⟨a + 2, 0, none⟩) (by show a + 2 < _; omega)).trans h7, (hb.frozen (p := ⟨a + 2, 0, none⟩) (by show a + 2 < _; omega)).trans h8, (hb.cell (p := ⟨a + 3, 0, none⟩) (by show a + 3 < _; omega)).trans h9, hM, Nat.le_trans hT hb.size⟩

/-- A row beside a box that is written. -/
theorem own_set {w : World} {B e size n b : Nat} {v : Value} {xs : List Value} (h : w.ownsRow B e size v n xs) (hb : b < B) (u : Value) : (w.setCell ⟨b, 0, none⟩ u).ownsRow B e size v n xs := by
  obtain ⟨h0, hrow⟩ := h
  refine ⟨h0, ?_⟩
  rcases hrow with hn | ⟨g, cap, cur, rfl, hg, hgg, rest⟩
  · exact .inl hn
  · exact .inr ⟨g, cap, cur, rfl, hg, (Below.heap_setCell _ _ _ _ (by show g ≠ b; omega)).trans hgg, rest⟩

theorem cell_set_ne {w : World} {b b' o : Nat} (h : b' ≠ b) (u : Value) : (w.setCell ⟨b, 0, none⟩ u).cell? ⟨b', o, none⟩ = w.cell? ⟨b', o, none⟩ := by
  unfold World.cell?
  rw [Below.heap_setCell _ _ _ _ (by show b' ≠ b; exact h)]

/-- A block behind the variables that is not the row of op's. -/
def spare (w : World) (a b : Nat) : Prop := b < w.heap.size ∧ a + 3 < b ∧ ∀ v, w.cell? ⟨a, 0, none⟩ = some v → v.ownBlock ≠ some b

/-- Behind an append to op: the blocks beside it. -/
theorem push_spare {w w1 : World} {a b : Nat} {v v' : Value} {o : Obj} (hc : w.cell? ⟨a, 0, none⟩ = some v) (hc1 : (w1.cell? ⟨a, 0, none⟩).isSome = true) (hg : (w.alloc o).grownBy w1 v.ownBlock) (hat : v'.ownBlock = v.ownBlock ∨ ∃ k, v'.ownBlock = some k ∧ w.heap.size ≤ k) (h : spare w a b) :
    spare (w1.setCell ⟨a, 0, none⟩ v') a b ∧ (w1.setCell ⟨a, 0, none⟩ v').heap[b]? = w.heap[b]? := by
  obtain ⟨h1, h2, h3⟩ := h
  have hne := h3 v hc
  have hs := hg.size
  rw [World.size_alloc] at hs
  refine ⟨⟨by simp; omega, h2, ?_⟩, ?_⟩
  · intro u hu
    obtain ⟨v0, hv0⟩ := Option.isSome_iff_exists.1 hc1
    rw [World.cell?_setCell_same _ _ _ hv0] at hu
    obtain rfl := Option.some.inj hu
    rcases hat with e | ⟨k, e, hk⟩
    · rw [e]; exact hne
    · rw [e]
      intro e
      have := Option.some.inj e
      omega
  · rw [Below.heap_setCell _ _ _ _ (by show b ≠ a; omega), hg.block b (by rw [World.size_alloc]; omega) (fun e => hne e.symm)]
    exact heap_alloc_old w o h1

theorem set_spare {w : World} {a b c : Nat} (h : spare w a b) (hc : c ≠ a) (hb : c ≠ b) (u : Value) : spare (w.setCell ⟨c, 0, none⟩ u) a b ∧ (w.setCell ⟨c, 0, none⟩ u).heap[b]? = w.heap[b]? := by
  obtain ⟨h1, h2, h3⟩ := h
  refine ⟨⟨by simpa using h1, h2, fun v hv => h3 v ?_⟩, Below.heap_setCell _ _ _ _ (by show b ≠ c; omega)⟩
  rwa [cell_set_ne (by omega)] at hv

/-- Behind an append to op, and its store. -/
theorem gath_push {M : Nat} {w w1 : World} {a : Nat} {s : NSt} {p : Option Addr} {c : Nat} {o : Obj} {v' : Value} {q : Pt} (h : gath M w a s) (hc : w.cell? ⟨a, 0, none⟩ = some (.slice p s.out.length c))
    (hown1 : w1.ownsRow M 50 3 v' (s.out.length + 1) (cellsP s.out ++ partCells q)) (hg : (w.alloc o).grownBy w1 (Value.slice p s.out.length c).ownBlock) :
    gath M (w1.setCell ⟨a, 0, none⟩ v') a ⟨s.out ++ [q], s.put, s.drop⟩ ∧ BelowG M a w (w1.setCell ⟨a, 0, none⟩ v') ∧ w1.cell? ⟨a, 0, none⟩ = some (.slice p s.out.length c) ∧ w1.frozen? ⟨a, 0, none⟩ = false := by
  have hM := h.le
  have hT := h.top
  have hlt := gath_lt h
  obtain ⟨⟨p1, c1, h1, h2⟩, h3, ⟨p', c', h4, h5⟩, h6, h7, h8, h9⟩ := h
  rw [hc] at h1
  simp only [Option.some.injEq, Value.slice.injEq, true_and] at h1
  obtain ⟨rfl, rfl⟩ := h1
  have hrow : ∀ k, (Value.slice p s.out.length c).ownBlock = some k → a + 4 ≤ k := fun k hk => Nat.le_trans hM (h2.lt k hk).1
  have hb1 : Below (a + 4) w w1 := ((Below.refl (a + 4) w).alloc (by omega) o).grown hg (by rw [World.size_alloc]; omega) hrow
  have hc1 : w1.cell? ⟨a, 0, none⟩ = some (.slice p s.out.length c) := by rw [hb1.cell (p := ⟨a, 0, none⟩) (by show a < _; omega)]; exact hc
  have hf1 : w1.frozen? ⟨a, 0, none⟩ = false := by rw [hb1.frozen (p := ⟨a, 0, none⟩) (by show a < _; omega)]; exact h3
  have h5' := (h5.alloc o).kept hg (own_ne (h5.alloc o) (h2.alloc o) (by decide))
  obtain ⟨pv, cv, rfl⟩ := own_slice hown1
  refine ⟨⟨⟨pv, cv, ?_, ?_⟩, ?_, ⟨p', c', ?_, ?_⟩, ?_, ?_, ?_, ?_, hM, (by have := hb1.size; simp; omega)⟩, ⟨(hb1.mono (show a ≤ a + 4 by omega)).setCell (Nat.le_refl _) _, (((KeptG.refl M a w).alloc o).grown (h2.alloc o) (.inr rfl) hg).set (.inl rfl) _⟩, hc1, hf1⟩
  · show _ = some (Value.slice pv (s.out ++ [q]).length cv)
    rw [List.length_append]; exact World.cell?_setCell_same _ _ _ hc1
  · show World.ownsRow _ _ _ _ (.slice pv (s.out ++ [q]).length cv) (s.out ++ [q]).length (cellsP (s.out ++ [q]))
    rw [List.length_append, cellsP_snoc]; exact own_set hown1 (by omega) _
  · rw [World.frozen?_setCell]; exact hf1
  · rw [cell_set_ne (by omega)]; exact (hb1.cell (p := ⟨a + 1, 0, none⟩) (by show a + 1 < _; omega)).trans h4
  · exact own_set h5' (by omega) _
  · rw [World.frozen?_setCell]; exact (hb1.frozen (p := ⟨a + 1, 0, none⟩) (by show a + 1 < _; omega)).trans h6
  · rw [cell_set_ne (by omega)]; exact (hb1.cell (p := ⟨a + 2, 0, none⟩) (by show a + 2 < _; omega)).trans h7
  · rw [World.frozen?_setCell]; exact (hb1.frozen (p := ⟨a + 2, 0, none⟩) (by show a + 2 < _; omega)).trans h8
  · rw [cell_set_ne (by omega)]; exact (hb1.cell (p := ⟨a + 3, 0, none⟩) (by show a + 3 < _; omega)).trans h9

/-- Behind an append to put, and its store. -/
theorem gath_puts {M : Nat} {w w1 : World} {a : Nat} {s : NSt} {p : Option Addr} {c : Nat} {v' : Value} {q : List UInt8} (h : gath M w a s) (hc : w.cell? ⟨a + 1, 0, none⟩ = some (.slice p s.put.length c))
    (hown1 : w1.ownsRow M 5 1 v' (s.put.length + q.length) (Lib.byteCells s.put ++ Lib.byteCells q)) (hg : w.grownBy w1 (Value.slice p s.put.length c).ownBlock) :
    gath M (w1.setCell ⟨a + 1, 0, none⟩ v') a ⟨s.out, s.put ++ q, s.drop⟩ ∧ BelowG M a w (w1.setCell ⟨a + 1, 0, none⟩ v') ∧ w1.cell? ⟨a + 1, 0, none⟩ = some (.slice p s.put.length c) ∧ w1.frozen? ⟨a + 1, 0, none⟩ = false := by
  have hM := h.le
  have hT := h.top
  have hlt := gath_lt h
  obtain ⟨⟨p', c', h4, h5⟩, h6, ⟨p1, c1, h1, h2⟩, h3, h7, h8, h9⟩ := h
  rw [hc] at h1
  simp only [Option.some.injEq, Value.slice.injEq, true_and] at h1
  obtain ⟨rfl, rfl⟩ := h1
  have hrow : ∀ k, (Value.slice p s.put.length c).ownBlock = some k → a + 4 ≤ k := fun k hk => Nat.le_trans hM (h2.lt k hk).1
  have hb1 : Below (a + 4) w w1 := (Below.refl (a + 4) w).grown hg (by omega) hrow
  have hc1 : w1.cell? ⟨a + 1, 0, none⟩ = some (.slice p s.put.length c) := by rw [hb1.cell (p := ⟨a + 1, 0, none⟩) (by show a + 1 < _; omega)]; exact hc
  have hf1 : w1.frozen? ⟨a + 1, 0, none⟩ = false := by rw [hb1.frozen (p := ⟨a + 1, 0, none⟩) (by show a + 1 < _; omega)]; exact h3
  have h5' := h5.kept hg (own_ne h5 h2 (by decide))
  obtain ⟨pv, cv, rfl⟩ := own_slice hown1
  refine ⟨⟨⟨p', c', ?_, ?_⟩, ?_, ⟨pv, cv, ?_, ?_⟩, ?_, ?_, ?_, ?_, hM, (by have := hb1.size; simp; omega)⟩, ⟨(hb1.mono (show a ≤ a + 4 by omega)).setCell (by show a ≤ a + 1; omega) _, ((KeptG.refl M a w).grown h2 (.inl rfl) hg).set (.inr (.inl rfl)) _⟩, hc1, hf1⟩
  · rw [cell_set_ne (by omega)]; exact (hb1.cell (p := ⟨a, 0, none⟩) (by show a < _; omega)).trans h4
  · exact own_set h5' (by omega) _
  · rw [World.frozen?_setCell]; exact (hb1.frozen (p := ⟨a, 0, none⟩) (by show a < _; omega)).trans h6
  · show _ = some (Value.slice pv (s.put ++ q).length cv)
    rw [List.length_append]; exact World.cell?_setCell_same _ _ _ hc1
  · show World.ownsRow _ _ _ _ (.slice pv (s.put ++ q).length cv) (s.put ++ q).length (Lib.byteCells (s.put ++ q))
    rw [List.length_append, Lib.byteCells_append]; exact own_set hown1 (by omega) _
  · rw [World.frozen?_setCell]; exact hf1
  · rw [cell_set_ne (by omega)]; exact (hb1.cell (p := ⟨a + 2, 0, none⟩) (by show a + 2 < _; omega)).trans h7
  · rw [World.frozen?_setCell]; exact (hb1.frozen (p := ⟨a + 2, 0, none⟩) (by show a + 2 < _; omega)).trans h8
  · rw [cell_set_ne (by omega)]; exact (hb1.cell (p := ⟨a + 3, 0, none⟩) (by show a + 3 < _; omega)).trans h9

/-- Behind a store of drop. -/
theorem gath_drop {M : Nat} {w : World} {a : Nat} {s : NSt} (h : gath M w a s) (d : Int) : gath M (w.setCell ⟨a + 2, 0, none⟩ (.int .i64 d)) a ⟨s.out, s.put, d⟩ ∧ BelowG M a w (w.setCell ⟨a + 2, 0, none⟩ (.int .i64 d)) := by
  have hM := h.le
  have hT := h.top
  have hlt := gath_lt h
  obtain ⟨⟨p, c, h1, h2⟩, h3, ⟨p', c', h4, h5⟩, h6, h7, h8, h9⟩ := h
  refine ⟨⟨⟨p, c, ?_, own_set h2 (by omega) _⟩, ?_, ⟨p', c', ?_, own_set h5 (by omega) _⟩, ?_, World.cell?_setCell_same _ _ _ h7, ?_, ?_, hM, (by simp; omega)⟩, ⟨(Below.refl a w).setCell (by show a ≤ a + 2; omega) _, (KeptG.refl M a w).set (.inr (.inr rfl)) _⟩⟩
  · rw [cell_set_ne (by omega)]; exact h1
  · rw [World.frozen?_setCell]; exact h3
  · rw [cell_set_ne (by omega)]; exact h4
  · rw [World.frozen?_setCell]; exact h6
  · rw [World.frozen?_setCell]; exact h8
  · rw [cell_set_ne (by omega)]; exact h9

/-- Behind 'put = put[:0]'. -/
theorem gath_none {M : Nat} {w : World} {a : Nat} {s : NSt} {p : Option Addr} {c : Nat} (h : gath M w a s) (hc : w.cell? ⟨a + 1, 0, none⟩ = some (.slice p s.put.length c)) :
    gath M (w.setCell ⟨a + 1, 0, none⟩ (.slice p 0 c)) a ⟨s.out, [], s.drop⟩ ∧ BelowG M a w (w.setCell ⟨a + 1, 0, none⟩ (.slice p 0 c)) := by
  have hM := h.le
  have hT := h.top
  have hlt := gath_lt h
  obtain ⟨⟨p', c', h4, h5⟩, h6, ⟨p1, c1, h1, h2⟩, h3, h7, h8, h9⟩ := h
  have hc' := hc
  rw [hc] at h1
  simp only [Option.some.injEq, Value.slice.injEq, true_and] at h1
  obtain ⟨rfl, rfl⟩ := h1
  have h2' : w.ownsRow M 5 1 (.slice p 0 c) 0 [] := by
    obtain ⟨_, hrow⟩ := h2
    refine ⟨rfl, ?_⟩
    rcases hrow with ⟨hn, h0⟩ | ⟨g, cap, cur, hv, hg, hgg, hnc, rest⟩
    · simp only [Value.slice.injEq] at hn
      obtain ⟨rfl, _, rfl⟩ := hn
      exact .inl ⟨rfl, rfl⟩
    · simp only [Value.slice.injEq, true_and] at hv
      obtain ⟨rfl, rfl⟩ := hv
      exact .inr ⟨g, c, cur, rfl, hg, hgg, Nat.zero_le _, rest.1, rest.2.1, by simp⟩
  refine ⟨⟨⟨p', c', ?_, own_set h5 (by omega) _⟩, ?_, ⟨p, c, World.cell?_setCell_same _ _ _ hc', own_set h2' (by omega) _⟩, ?_, ?_, ?_, ?_, hM, (by simp; omega)⟩, ⟨(Below.refl a w).setCell (by show a ≤ a + 1; omega) _, (KeptG.refl M a w).set (.inr (.inl rfl)) _⟩⟩
  · rw [cell_set_ne (by omega)]; exact h4
  · rw [World.frozen?_setCell]; exact h6
  · rw [World.frozen?_setCell]; exact h3
  · rw [cell_set_ne (by omega)]; exact h7
  · rw [World.frozen?_setCell]; exact h8
  · rw [cell_set_ne (by omega)]; exact h9
end Go.Proofs.YtedgnlgjmnccgabGreatDoor
