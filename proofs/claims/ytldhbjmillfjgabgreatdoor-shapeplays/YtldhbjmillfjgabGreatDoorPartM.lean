/-
  An operation that is handed in: what it reads as, and how great it is.
  A slice of operations that is handed in: what it reads as.
  rosettaref's edge, and what it says of an operation's parts.
  rosettaref's Apply.
  The document's Transform: what comes so far, and the closures that add to it.
  The document's both: what is wrong with two operations.
  The document's Transform.
  The document's Transform, where what it puts comes first.
  The document's Transform, where what the other one puts comes first.
  rosettalaw.OpsTransform: the law's own walk.
  The document's own Count, of a sound text.
  The document's own In, of counts.
  The document's own Ahead: all places are looked at.
-/
import Derived.Test.YtldhbjmillfjgabGreatDoorPartE
import Derived.Test.YtldhbjmillfjgabGreatDoorRows
import Derived.Deep.Slices
import Derived.Deep.Strs
import Derived.ChangeSame
import Derived.OpenShut
import Derived.Test.YtldhbjmillfjgabGreatDoorPartF
import Derived.Test.YtldhbjmillfjgabGreatDoorPartH
import Derived.Test.YtldhbjmillfjgabGreatDoorPartG
import Derived.Deep.LoopGhost
import Derived.Test.YtldhbjmillfjgabGreatDoorPartL
import Derived.Deep.Cut
import Derived.Test.YtldhbjmillfjgabGreatDoorPartD
import Derived.Test.YtldhbjmillfjgabGreatDoorPartB
import Derived.Maps.OwnOps
import Derived.Test.YtldhbjmillfjgabGreatDoorPartA
namespace Go.Proofs.YtldhbjmillfjgabGreatDoor
open Go.RowKit Go.Deep Go.ChangeShapes Go.WideShapes
set_option linter.unusedVariables false

def rangeP (p : Pt) : Prop := -9223372036854775808 ≤ p.keep ∧ p.keep < 9223372036854775808 ∧ -9223372036854775808 ≤ p.drop ∧ p.drop < 9223372036854775808

theorem bulk_part {H : Type} {d : DataW H} {l : List (DataW H)} (h : d ∈ l) : Rows.uptoBulk d ≤ Rows.uptoBulkAll l := by
  induction l with
  | nil => cases h
  | cons x r ih =>
    simp only [Rows.uptoBulkAll]
    rcases List.mem_cons.1 h with e | e
    · subst e; omega
    · have := ih e; omega

theorem cellsOf_part : Tryz.prog.cellsOf 50 = 3 := by kernel_rfl
theorem cellsOf_int : Tryz.prog.cellsOf 3 = 1 := by kernel_rfl
theorem cellsOf_str : Tryz.prog.cellsOf 9 = 1 := by kernel_rfl

theorem open_part {H : Type} {enc : TypeId × Value → H} {W : World} {base : Nat} {sp : Nat → Bool} {held : Bool} {n : Nat} {a : Addr} {cs : List Value} {y : DataW H × List MemPlace}
    (h1 : W.cells? base a 3 = some cs) (h2 : DataW.trod enc Tryz.prog W base sp held n 50 cs = some y) :
    ∃ q : Pt, a.spot = none ∧ W.cell? ⟨a.block, a.off, none⟩ = some (.int .i64 q.keep) ∧ W.cell? ⟨a.block, a.off + 1, none⟩ = some (.int .i64 q.drop) ∧ W.cell? ⟨a.block, a.off + 2, none⟩ = some (.string ⟨q.put.toArray⟩) ∧ rangeP q ∧ q.put.length ≤ maxLen ∧
      y.1 = .agg [.lit (.int .i64 q.keep), .lit (.int .i64 q.drop), .lit (.string q.put)] := by
  obtain ⟨_, hlen, hcell⟩ := World.cells?_some h1
  obtain ⟨y0, y1, y2, m, rfl, _, t0, t1, t2⟩ := trod_struct3 Tryz.underlying50 h2
  rw [cellsOf_int] at t0 t1
  rw [cellsOf_str] at t2
  match cs, hlen with
  | [c0, c1, c2], _ =>
    simp only [List.drop_zero, List.take_succ_cons, List.take_zero, List.drop_succ_cons] at t0 t1 t2
    obtain ⟨K, e0, rfl, w0⟩ := DataW.trod_int Tryz.underlying3 t0
    obtain ⟨D, e1, rfl, w1⟩ := DataW.trod_int Tryz.underlying3 t1
    obtain ⟨s, e2, rfl, w2⟩ := DataW.trod_string Tryz.underlying9 t2
    simp only [List.cons.injEq, and_true] at e0 e1 e2
    subst e0 e1 e2
    obtain ⟨b, o, spot⟩ := a
    have k0 := hcell 0 (by omega)
    have k1 := hcell 1 (by omega)
    have k2 := hcell 2 (by omega)
    have hspot : spot = none := by simpa [Addr.add] using World.cell?_spot (show W.cell? ((⟨b, o, spot⟩ : Addr).add 0) = some (.int .i64 K) from k0)
    subst hspot
    rw [Addr.add_lit] at k0 k1 k2
    have hw0 := bounds_i64 w0
    have hw1 := bounds_i64 w1
    have es : (ByteArray.mk s.data.toList.toArray) = s := by cases s; simp
    refine ⟨⟨K, D, s.data.toList⟩, rfl, k0, k1, by rw [es]; exact k2, ⟨hw0.1, by show K < _; omega, hw1.1, by show D < _; omega⟩, ?_, rfl⟩
    rw [Lib.size_eq] at w2
    exact w2

theorem open_op {H : Type} {enc : TypeId × Value → H} {W : World} {base : Nat} {sp : Nat → Bool} {held : Bool} {fuel : Nat} {v : Value} {x : DataW H × List MemPlace}
    (h : DataW.trod enc Tryz.prog W base sp held fuel 23 [v] = some x) :
    ∃ ps, opAt W v ps ∧ (∀ p ∈ ps, rangeP p ∧ p.put.length ≤ maxLen) ∧ (∀ p ∈ ps, p.put.length ≤ Rows.uptoBulk x.1) ∧ ps.length ≤ maxLen := by
  rcases open_slice Tryz.underlying23 h with ⟨hcs, _⟩ | ⟨a, len, cap, m, n, D, Pl, hcs, hb, hl, hm, hmm, rfl, hx⟩
  · simp only [List.cons.injEq, and_true] at hcs
    subst hcs
    exact ⟨[], ⟨none, 0, rfl, Nat.le_refl _, Nat.zero_le _, fun h => absurd rfl h⟩, by simp, by simp, Nat.zero_le _⟩
  · simp only [List.cons.injEq, and_true] at hcs
    subst hcs
    have hlm : len ≤ m := by rw [hmm]; split <;> omega
    haveI : Inhabited Pt := ⟨⟨0, 0, []⟩⟩
    obtain ⟨f, hf⟩ := choose_lt (α := Pt) (n := len) (p := fun i q => (a.add (i * 3)).spot = none ∧ W.cell? ⟨(a.add (i * 3)).block, (a.add (i * 3)).off, none⟩ = some (.int .i64 q.keep) ∧ W.cell? ⟨(a.add (i * 3)).block, (a.add (i * 3)).off + 1, none⟩ = some (.int .i64 q.drop) ∧ W.cell? ⟨(a.add (i * 3)).block, (a.add (i * 3)).off + 2, none⟩ = some (.string ⟨q.put.toArray⟩) ∧ rangeP q ∧ q.put.length ≤ maxLen ∧
        D i = .agg [.lit (.int .i64 q.keep), .lit (.int .i64 q.drop), .lit (.string q.put)]) (fun i hi => by
      obtain ⟨cs, h1, h2⟩ := hx i (by omega)
      rw [cellsOf_part] at h1
      obtain ⟨q, hq⟩ := open_part h1 h2
      exact ⟨q, hq⟩)
    have hlen : ((List.range len).map f).length = len := by simp
    refine ⟨(List.range len).map f, ⟨some a, cap, by rw [hlen], by rw [hlen]; exact hl, hm, fun hne => ?_⟩, ?_, ?_, by rw [hlen]; omega⟩
    · have hpos : 0 < len := by
        cases len with
        | zero => exact absurd rfl hne
        | succ n => exact Nat.succ_pos n
      obtain ⟨b, o, spot⟩ := a
      have hs0 := (hf 0 hpos).1
      have hspot : spot = none := by simpa [Addr.add] using hs0
      subst hspot
      refine ⟨b, o, rfl, ?_, fun i q hi => ?_⟩
      · have := World.block_lt_of_cell? W _ (hf 0 hpos).2.1
        rw [Addr.add_lit] at this
        exact this
      · have hil : i < len := by have := (List.getElem?_eq_some_iff.1 hi).1; rw [hlen] at this; exact this
        have e : q = f i := by
          rw [List.getElem?_map, List.getElem?_range hil] at hi
          exact (Option.some.inj hi).symm
        subst e
        obtain ⟨_, k0, k1, k2, _⟩ := hf i hil
        rw [Addr.add_lit] at k0 k1 k2
        exact ⟨k0, k1, k2⟩
    · intro p hp
      obtain ⟨i, hi, rfl⟩ := List.mem_map.1 hp
      have := hf i (List.mem_range.1 hi)
      exact ⟨this.2.2.2.2.1, this.2.2.2.2.2.1⟩
    · intro p hp
      obtain ⟨i, hi, rfl⟩ := List.mem_map.1 hp
      have hd := (hf i (List.mem_range.1 hi)).2.2.2.2.2.2
      have h1 : Rows.uptoBulk (D i) ≤ Rows.uptoBulkAll ((List.range len).map D) := bulk_part (List.mem_map.2 ⟨i, hi, rfl⟩)
      rw [hd] at h1
      simp only [Rows.uptoBulk, Rows.uptoBulkAll] at h1 ⊢
      omega
end Go.Proofs.YtldhbjmillfjgabGreatDoor

namespace Go.Proofs.YtldhbjmillfjgabGreatDoor
open Go.RowKit Go.Deep Go.ChangeShapes Go.WideShapes
set_option linter.unusedVariables false

/-- A slice of operations. -/
def opsAt (w : World) (v : Value) (l : List (List Pt)) : Prop := ∃ p c, v = .slice p l.length c ∧ l.length ≤ c ∧ c ≤ maxLen ∧ (l ≠ [] → ∃ b o, p = some ⟨b, o, none⟩ ∧ b < w.heap.size ∧ ∀ i q, l[i]? = some q → ∃ v', w.cell? ⟨b, o + i, none⟩ = some v' ∧ opAt w v' q)
/-- Where it is small, its numbers are numbers. -/
def smallWf (q : List Pt) : Prop := ∀ p ∈ q, p.put.length ≤ 300 → wfP p
theorem opsAt_below {w w' : World} {v : Value} {l : List (List Pt)} (h : opsAt w v l) (hb : Below w.heap.size w w') : opsAt w' v l := by
  obtain ⟨p, c, h1, h2, h3, h4⟩ := h
  refine ⟨p, c, h1, h2, h3, fun hne => ?_⟩
  obtain ⟨b, o, g1, g2, g3⟩ := h4 hne
  refine ⟨b, o, g1, Nat.lt_of_lt_of_le g2 hb.size, fun i q hi => ?_⟩
  obtain ⟨v', k1, k2⟩ := g3 i q hi
  exact ⟨v', (hb.cell (p := ⟨b, o + i, none⟩) g2).trans k1, opAt_below k2 hb (Nat.le_refl _)⟩
theorem cellsOf_op : Tryz.prog.cellsOf 23 = 1 := by kernel_rfl
theorem small_of {q : List Pt} (h : ∀ p ∈ q, rangeP p ∧ p.put.length ≤ maxLen) : smallWf q := fun p hp hs => by
  obtain ⟨⟨r1, r2, r3, r4⟩, _⟩ := h p hp
  exact ⟨r1, r2, r3, r4, by omega⟩
theorem open_ops {H : Type} {enc : TypeId × Value → H} {W : World} {base : Nat} {sp : Nat → Bool} {held : Bool} {fuel : Nat} {v : Value} {x : DataW H × List MemPlace}
    (h : DataW.trod enc Tryz.prog W base sp held fuel 60 [v] = some x) :
    ∃ l, opsAt W v l ∧ ∀ q ∈ l, smallWf q := by
  rcases open_slice Tryz.underlying60 h with ⟨hcs, _⟩ | ⟨a, len, cap, m, n, D, Pl, hcs, hb, hl, hm, hmm, rfl, hx⟩
  · simp only [List.cons.injEq, and_true] at hcs
    subst hcs
    exact ⟨[], ⟨none, 0, rfl, Nat.le_refl _, Nat.zero_le _, fun h => absurd rfl h⟩, by simp⟩
  · simp only [List.cons.injEq, and_true] at hcs
    subst hcs
    have hlm : len ≤ m := by rw [hmm]; split <;> omega
    obtain ⟨f, hf⟩ := choose_lt (α := List Pt) (n := len) (p := fun i q => (a.add (i * 1)).spot = none ∧ (∃ v', W.cell? ⟨(a.add (i * 1)).block, (a.add (i * 1)).off, none⟩ = some v' ∧ opAt W v' q) ∧ smallWf q) (fun i hi => by
      obtain ⟨cs, h1, h2⟩ := hx i (by omega)
      rw [cellsOf_op] at h1
      obtain ⟨_, hlen, hcell⟩ := World.cells?_some h1
      match cs, hlen with
      | [c0], _ =>
        obtain ⟨ps, p1, p2, _, _⟩ := open_op h2
        have k0 := hcell 0 (by omega)
        have hspot : (a.add (i * 1)).spot = none := by simpa [Addr.add] using World.cell?_spot (show W.cell? ((a.add (i * 1)).add 0) = some c0 from k0)
        refine ⟨ps, hspot, ⟨c0, ?_, p1⟩, small_of p2⟩
        generalize a.add (i * 1) = a' at k0 hspot
        obtain ⟨b, o, spot⟩ := a'
        obtain rfl : spot = none := hspot
        have k0 : W.cell? ((⟨b, o, none⟩ : Addr).add 0) = some c0 := k0
        rw [Addr.add_lit] at k0
        exact k0)
    have hlen : ((List.range len).map f).length = len := by simp
    refine ⟨(List.range len).map f, ⟨some a, cap, by rw [hlen], by rw [hlen]; exact hl, hm, fun hne => ?_⟩, ?_⟩
    · have hpos : 0 < len := by
        cases len with
        | zero => exact absurd rfl hne
        | succ n => exact Nat.succ_pos n
      obtain ⟨b, o, spot⟩ := a
      have hs0 := (hf 0 hpos).1
      have hspot : spot = none := by simpa [Addr.add] using hs0
      subst hspot
      refine ⟨b, o, rfl, ?_, fun i q hi => ?_⟩
      · obtain ⟨_, ⟨v', hv, _⟩, _⟩ := hf 0 hpos
        have := World.block_lt_of_cell? W _ hv
        rw [Addr.add_lit] at this
        exact this
      · have hil : i < len := by have := (List.getElem?_eq_some_iff.1 hi).1; rw [hlen] at this; exact this
        have e : q = f i := by
          rw [List.getElem?_map, List.getElem?_range hil] at hi
          exact (Option.some.inj hi).symm
        subst e
        obtain ⟨_, ⟨v', k0, k1⟩, _⟩ := hf i hil
        rw [Addr.add_lit, Nat.mul_one] at k0
        exact ⟨v', k0, k1⟩
    · intro q hq
      obtain ⟨i, hi, rfl⟩ := List.mem_map.1 hq
      exact (hf i (List.mem_range.1 hi)).2.2
end Go.Proofs.YtldhbjmillfjgabGreatDoor

namespace Go.Proofs.YtldhbjmillfjgabGreatDoor
open Go.RowKit
set_option linter.unusedVariables false
attribute [local go_sem] Oper.semAt_some

/-- What the document asks of the places where parts meet. -/
def refBad : List Pt → List UInt8 → Bool
  | [], _ => false
  | p :: ps, s => badPiece s || badPiece (s.drop (lenP p).toNat) || refBad ps (s.drop (lenP p).toNat)
theorem badO_head (ps : List Pt) (s : List UInt8) (hl : leftP ps s = []) (h : badPiece s = true) : badO ps s = true := by
  induction ps generalizing s with
  | nil =>
    have : s = [] := hl
    rw [this] at h
    cases h
  | cons p ps ih =>
    rw [badO, Bool.or_eq_true]
    cases hn : (lenP p).toNat with
    | zero =>
      refine .inr ?_
      have hl' : leftP ps (s.drop (lenP p).toNat) = [] := hl
      rw [hn] at hl'
      exact ih _ hl' h
    | succ m =>
      refine .inl ?_
      cases s with
      | nil => cases h
      | cons b l => exact h
theorem refBad_eq (ps : List Pt) (s : List UInt8) (hl : leftP ps s = []) : refBad ps s = badO ps s := by
  induction ps generalizing s with
  | nil => rfl
  | cons p ps ih =>
    have hl' : leftP ps (s.drop (lenP p).toNat) = [] := hl
    have e := ih _ hl'
    rw [Bool.eq_iff_iff]
    constructor
    · intro h
      rw [refBad, Bool.or_eq_true, Bool.or_eq_true] at h
      rcases h with (h | h) | h
      · exact badO_head (p :: ps) s hl h
      · rw [badO, Bool.or_eq_true]; exact .inr (badO_head ps _ hl' h)
      · rw [badO, Bool.or_eq_true]; rw [e] at h; exact .inr h
    · intro h
      rw [badO, Bool.or_eq_true] at h
      rw [refBad, Bool.or_eq_true, Bool.or_eq_true]
      rcases h with h | h
      · refine .inl (.inl ?_)
        cases s with
        | nil => simp [badPiece] at h
        | cons b l =>
          cases hn : (lenP p).toNat with
          | zero => rw [hn] at h; cases h
          | succ m => rw [hn] at h; exact h
      · rw [← e] at h; exact .inr h

theorem startO_eq (b : UInt8) : startO b = (decide ((b.toNat : Int) < 128) || decide (192 ≤ (b.toNat : Int))) := by
  have hb := b.toNat_lt
  unfold startO Lib.runeStart
  rw [Bool.eq_iff_iff]
  simp only [bne_iff_ne, ne_eq, Bool.or_eq_true, decide_eq_true_eq]
  omega
theorem byte_at (s : List UInt8) (k : Nat) (h1 : k < (ByteArray.mk s.toArray).size) (h2 : k < s.length) : (ByteArray.mk s.toArray)[k] = s[k] := rfl

set_option maxRecDepth 100000 in
set_option maxHeartbeats 1000000 in
theorem edge_end (s : List UInt8) (w : World) (hs : s.length < 1000000000) :
    Calls Tryz.prog 87 #[.string ⟨s.toArray⟩, .int .i64 s.length] w fun e w' => e = .returned (.bool true) ∧ w' = w := by
  have hz := str_size s
  go_enter Tryz.func87, Tryz.ntmps87
  go_wp2
  go_ret
  exact ⟨rfl, rfl⟩
set_option maxRecDepth 100000 in
set_option maxHeartbeats 1000000 in
theorem edge_mid (s : List UInt8) (k : Nat) (w : World) (hs : s.length < 1000000000) (hk : k < s.length) :
    Calls Tryz.prog 87 #[.string ⟨s.toArray⟩, .int .i64 k] w fun e w' => e = .returned (.bool (!badPiece (s.drop k))) ∧ w' = w := by
  have hz := str_size s
  have hd : s.drop k = s[k] :: s.drop (k + 1) := List.drop_eq_getElem_cons hk
  have hb : badPiece (s.drop k) = !startO s[k] := by rw [hd]; rfl
  rw [startO_eq] at hb
  obtain ⟨R, hR⟩ : ∃ R, (!badPiece (s.drop k)) = R := ⟨_, rfl⟩
  have HB : Hid (R = (decide ((s[k].toNat : Int) < 128) || decide (192 ≤ (s[k].toNat : Int)))) := by
    show R = _
    rw [← hR, hb, Bool.not_not]
  rw [hR]
  clear hd hb hR
  go_enter Tryz.func87, Tryz.ntmps87
  go_wp2
  all_goals go_ret
  all_goals refine ⟨?_, rfl⟩
  all_goals rw [HB.out]
  all_goals have hne : ((k : Int) == (s.length : Int)) = false := beq_eq_false_iff_ne.2 (by omega)
  all_goals first
    | (rw [hne, Bool.false_or]; rfl)
    | (rename_i h; have h' : (s[k].toNat : Int) < 128 := h; rw [decide_eq_true h']; rfl)
theorem edge_any (s : List UInt8) (k : Nat) (w : World) (hs : s.length < 1000000000) (hk : k ≤ s.length) :
    Calls Tryz.prog 87 #[.string ⟨s.toArray⟩, .int .i64 k] w fun e w' => e = .returned (.bool (!badPiece (s.drop k))) ∧ w' = w := by
  rcases Nat.lt_or_ge k s.length with h | h
  · exact edge_mid s k w hs h
  · obtain rfl : k = s.length := Nat.le_antisymm hk h
    rw [List.drop_length]
    exact edge_end s w hs
end Go.Proofs.YtldhbjmillfjgabGreatDoor

namespace Go.Proofs.YtldhbjmillfjgabGreatDoor
open Go.RowKit
set_option linter.unusedVariables false
attribute [local go_sem] Oper.semAt_some

/-- How far so many parts reach. -/
def atP (ps : List Pt) : Nat := (ps.map fun p => (lenP p).toNat).sum
theorem leftP_at (ps : List Pt) (s : List UInt8) : leftP ps s = s.drop (atP ps) := by
  induction ps generalizing s with
  | nil => rfl
  | cons p ps ih =>
    show leftP ps (s.drop (lenP p).toNat) = _
    rw [ih, List.drop_drop]
    simp [atP]
theorem at_snoc (ps : List Pt) (p : Pt) : atP (ps ++ [p]) = atP ps + (lenP p).toNat := by simp [atP]
theorem fits_le (ps : List Pt) (s : List UInt8) (h : fitsP ps s) (k : Nat) : atP (ps.take k) ≤ s.length := by
  induction ps generalizing s k with
  | nil => simp [atP]
  | cons p ps ih =>
    obtain ⟨h1, h2, h3, h4⟩ := h
    cases k with
    | zero => simp [atP]
    | succ k =>
      have := ih _ h4 k
      rw [List.length_drop] at this
      show atP (p :: ps.take k) ≤ _
      unfold atP at this ⊢
      simp only [List.map_cons, List.sum_cons]
      omega
theorem refBad_at (ps : List Pt) (s : List UInt8) (k : Nat) (hk : k < ps.length) : refBad (ps.drop k) (s.drop (atP (ps.take k))) = (badPiece (s.drop (atP (ps.take k))) || badPiece (s.drop (atP (ps.take (k + 1)))) || refBad (ps.drop (k + 1)) (s.drop (atP (ps.take (k + 1))))) := by
  rw [List.drop_eq_getElem_cons hk, refBad, List.drop_drop, ← at_snoc, ← List.take_succ_eq_append_getElem hk]
theorem applyP_snoc (ps : List Pt) (s : List UInt8) (k : Nat) (hk : k < ps.length) : applyP (ps.take (k + 1)) s = applyP (ps.take k) s ++ madeP (ps[k], (s.drop (atP (ps.take k))).take (lenP ps[k]).toNat) := by
  unfold applyP
  rw [List.take_succ_eq_append_getElem hk, pcs_append, List.flatMap_append, leftP_at]
  simp [pcs]
/-- What the document adds of a part. -/
theorem made_cut (s : List UInt8) (a : Nat) (p : Pt) (h0 : 0 ≤ p.keep) (h1 : 0 ≤ p.drop) (h2 : p.keep = 0 ∨ p.drop = 0) : madeP (p, (s.drop a).take (lenP p).toNat) = (s.drop a).take p.keep.toNat ++ p.put := by
  unfold madeP lenP
  rcases Int.lt_or_le 0 p.keep with h | h
  · rw [if_pos h]
    have : p.drop = 0 := by omega
    simp [this]
  · have : p.keep = 0 := by omega
    simp [this]

theorem apply_lenR {ps : List Pt} {s : List UInt8} (h : fitsP ps s) (k : Nat) : (applyP (ps.take k) s).length ≤ s.length + putsP ps := by
  have e : pcs ps s = pcs (ps.take k) s ++ pcs (ps.drop k) (leftP (ps.take k) s) := by
    conv => lhs; rw [← List.take_append_drop k ps]
    rw [pcs_append]
  exact made_pre h e
theorem cat3 (a u : List UInt8) (X : ByteArray) (x : List UInt8) (h : X.data.toList = x) : ByteArray.mk a.toArray ++ (X ++ ByteArray.mk u.toArray) = ByteArray.mk (a ++ (x ++ u)).toArray := by
  subst h
  apply ByteArray.ext
  simp [ByteArray.data_append]
theorem cut_mid (l : List UInt8) (a n : Nat) : ((ByteArray.mk l.toArray).extract a (a + n)).data.toList = (l.drop a).take n := by
  rw [Lib.extract_data]
  simp

set_option maxRecDepth 100000 in
set_option maxHeartbeats 2000000 in
theorem refApply_err (v : Value) (ps : List Pt) (s : List UInt8) (w : World) (hr : opAt w v ps) (hwf : ∀ p ∈ ps, wfP p) (hsm : ∀ p ∈ ps, p.put.length < 100000000) (hs : s.length < 1000000000) (hl : ps.length < 10000000) (he : chkE ps (s.length : Int) ≠ 0) :
    Calls Tryz.prog 28 #[v, .string ⟨s.toArray⟩] w fun e w' => e = .returned (.tuple #[.string ⟨#[]⟩, .int .i64 (chkE ps (s.length : Int))]) ∧ Below w.heap.size w w' := by
  have cC : Hid _ := refCheck_any v ps (s.length : Int) w hr hwf hsm (by omega) hl
  have hz := str_size s
  obtain ⟨E, hE⟩ : ∃ E, chkE ps (s.length : Int) = E := ⟨_, rfl⟩
  rw [hE] at cC he ⊢
  obtain ⟨p, c, rfl, _⟩ := hr
  clear hwf hsm hE
  go_enter Tryz.func28, Tryz.ntmps28
  go_wp2_with (first | (go_at_call 62; refine Calls.mono cC.out ?_; rintro e w1 ⟨rfl, hb1⟩) | fail)
  go_ret2
  exact ⟨rfl, hb1⟩

set_option maxRecDepth 100000 in
set_option maxHeartbeats 4000000 in
theorem refApply_fine (v : Value) (ps : List Pt) (s : List UInt8) (w : World) (hr : opAt w v ps) (hwf : ∀ p ∈ ps, wfP p) (hsm : ∀ p ∈ ps, p.put.length < 100000000) (hs : s.length < 100000000) (hl : ps.length < 10000000) (hpu : putsP ps < 100000000) (he : chkE ps (s.length : Int) = 0) :
    Calls Tryz.prog 28 #[v, .string ⟨s.toArray⟩] w fun e w' => e = .returned (.tuple #[.string ⟨(if badO ps s then [] else applyP ps s).toArray⟩, .int .i64 (if badO ps s then 10 else 0)]) ∧ Below w.heap.size w w' := by
  have cC : Hid _ := refCheck_any v ps (s.length : Int) w hr hwf hsm (by omega) hl
  have hz := str_size s
  rw [he] at cC
  obtain ⟨hfit, hleft⟩ := chkE_fits he
  have hones : ∀ p ∈ ps, soundP p ∧ (p.keep = 0 ∨ p.drop = 0) := by
    unfold chkE at he
    split at he
    · rename_i h1
      exact fun p hp => one_sound (chk1_ones h1 p hp).1
    · rename_i h1; exact absurd he h1
  have HB : Hid (refBad ps s = badO ps s) := refBad_eq ps s hleft
  have HF : Hid (fitsP ps s) := hfit
  have HO : Hid (∀ p ∈ ps, soundP p ∧ (p.keep = 0 ∨ p.drop = 0)) := hones
  have HSL : Hid (s.length < 1000000000) := (by show _ < _; omega)
  have HSM : Hid (∀ p ∈ ps, p.put.length < 100000000) := hsm
  have HPU : Hid (putsP ps < 100000000) := hpu
  obtain ⟨p, c, rfl, r1, r2, r3⟩ := hr
  obtain ⟨n, hn⟩ : ∃ n, n = ps.length := ⟨_, rfl⟩
  obtain ⟨RS, hRS⟩ : ∃ RS, RS = ByteArray.mk (if badO ps s = true then ([] : List UInt8) else applyP ps s).toArray := ⟨_, rfl⟩
  obtain ⟨RE, hRE⟩ : ∃ RE : Int, RE = if badO ps s = true then 10 else 0 := ⟨_, rfl⟩
  have HRS : Hid (RS = ByteArray.mk (if badO ps s = true then ([] : List UInt8) else applyP ps s).toArray) := hRS
  have HRE : Hid (RE = if badO ps s = true then 10 else 0) := hRE
  rw [← hRS, ← hRE]
  have HN : Hid (n = ps.length) := hn
  rw [← hn] at r1 hl cC ⊢
  have R3 : Hid (ps ≠ [] → ∃ b o, p = some ⟨b, o, none⟩ ∧ b < w.heap.size ∧ ∀ i q, ps[i]? = some q →
    w.cell? ⟨b, o + i * 3, none⟩ = some (.int .i64 q.keep) ∧ w.cell? ⟨b, o + i * 3 + 1, none⟩ = some (.int .i64 q.drop) ∧ w.cell? ⟨b, o + i * 3 + 2, none⟩ = some (.string ⟨q.put.toArray⟩)) := r3
  clear r3 hwf hsm hpu hfit hleft he hones hn hRS hRE
  go_enter Tryz.func28, Tryz.ntmps28
  go_wp2_with (first | (go_at_call 62; refine Calls.mono cC.out ?_; rintro e w1 ⟨rfl, hb1⟩) | fail)
  go_loopw [7, 8, 20] (fun x y i wr => ∃ (k : Nat), k ≤ n ∧ i = .int .i64 k ∧ y = .int .i64 (atP (ps.take k) : Nat) ∧ x = .string ⟨(applyP (ps.take k) s).toArray⟩ ∧ refBad ps s = refBad (ps.drop k) (s.drop (atP (ps.take k))) ∧ Below w.heap.size w wr) (fun _ _ i _ => n - (intOf i).toNat)
  case atStart => exact ⟨0, Nat.zero_le _, rfl, rfl, rfl, rfl, hb1⟩
  case round =>
    obtain ⟨k, hk, rfl, rfl, rfl, hbd, hwr⟩ := hrel
    by_cases hlt : k < n
    · have hkr : k < ps.length := by rw [← HN.out]; exact hlt
      have hne : ps ≠ [] := by intro e; rw [e] at hkr; exact absurd hkr (Nat.not_lt_zero _)
      obtain ⟨b, o, rfl, hbw, hcell⟩ := R3.out hne
      obtain ⟨c0, c1, c2⟩ := hcell k ps[k] (List.getElem?_eq_getElem hkr)
      have g0 := (hwr.cell (p := ⟨b, o + k * 3, none⟩) hbw).trans c0
      have g1 := (hwr.cell (p := ⟨b, o + k * 3 + 1, none⟩) hbw).trans c1
      have g2 := (hwr.cell (p := ⟨b, o + k * 3 + 2, none⟩) hbw).trans c2
      obtain ⟨⟨s0, s1⟩, s2⟩ := HO.out ps[k] (List.getElem_mem _)
      have hA0 := fits_le ps s HF.out k
      have hA1 := fits_le ps s HF.out (k + 1)
      have ha : atP (ps.take (k + 1)) = atP (ps.take k) + (lenP ps[k]).toNat := by rw [List.take_succ_eq_append_getElem hkr, at_snoc]
      have hap := applyP_snoc ps s k hkr
      rw [made_cut s _ _ s0 s1 s2] at hap
      rw [refBad_at ps s k hkr] at hbd
      have hU := HSM.out ps[k] (List.getElem_mem _)
      have hOl := apply_lenR HF.out k
      have hpu := HPU.out
      generalize ps[k] = q at g0 g1 g2 s0 s1 s2 ha hap hU
      obtain ⟨K, D, U⟩ := q
      simp only [lenP] at s0 s1 s2 ha hap g0 g1 g2 hU
      have hzU := str_size U
      obtain ⟨A, hA⟩ : ∃ A, A = atP (ps.take k) := ⟨_, rfl⟩
      obtain ⟨A1, hA1'⟩ : ∃ A1, A1 = atP (ps.take (k + 1)) := ⟨_, rfl⟩
      obtain ⟨O, hO⟩ : ∃ O, O = ByteArray.mk (applyP (ps.take k) s).toArray := ⟨_, rfl⟩
      have HOO : Hid (O = ByteArray.mk (applyP (ps.take k) s).toArray) := hO
      rw [← hA, ← hO]
      rw [← hA] at hA0 ha hap hbd
      rw [← hA1'] at hA1 ha hbd
      have hi : (A1 : Int) = (A : Int) + K + D := by omega
      have HI : Hid (((atP (ps.take (k + 1)) : Nat) : Int) = (A : Int) + K + D) := by show _ = _; rw [← hA1']; exact hi
      have hK : (A : Int) + K + D ≤ s.length := by omega
      obtain ⟨B0, hB0⟩ : ∃ B0, B0 = badPiece (s.drop A) := ⟨_, rfl⟩
      obtain ⟨B1, hB1⟩ : ∃ B1, B1 = badPiece (s.drop A1) := ⟨_, rfl⟩
      rw [← hB0, ← hB1] at hbd
      have cE0 : Hid (∀ wx, Calls Tryz.prog 87 #[.string ⟨s.toArray⟩, .int .i64 A] wx fun e w' => e = .returned (.bool (!B0)) ∧ w' = wx) := fun wx => by rw [hB0]; exact edge_any s A wx HSL.out hA0
      have cE1 : Hid (∀ wx, Calls Tryz.prog 87 #[.string ⟨s.toArray⟩, .int .i64 ((A : Int) + K + D)] wx fun e w' => e = .returned (.bool (!B1)) ∧ w' = wx) := fun wx => by rw [hB1, ← hi]; exact edge_any s A1 wx HSL.out hA1
      have HA : Hid (applyP (ps.take (k + 1)) s = applyP (ps.take k) s ++ ((s.drop A).take K.toNat ++ U)) := hap
      have HBD : Hid (refBad ps s = (B0 || B1 || refBad (ps.drop (k + 1)) (s.drop A1))) := hbd
      have HA1 : Hid (A1 = atP (ps.take (k + 1))) := hA1'
      clear hcell c0 c1 c2 ha hap hbd hi hO hA hA1' hB0 hB1 hA1
      have HWR : Hid (Below w.heap.size w wr) := hwr
      have hsize := hwr.size
      have hOs : O.size ≤ 200000000 := by rw [HOO.out, str_size]; omega
      obtain ⟨X, hX⟩ : ∃ X, (ByteArray.mk s.toArray).extract A ((A : Int) + K).toNat = X := ⟨_, rfl⟩
      have hk2 : ((A : Int) + K).toNat = A + K.toNat := by omega
      have HXL : Hid (X.data.toList = (s.drop A).take K.toNat) := by show _ = _; rw [← hX, hk2]; exact cut_mid s A K.toNat
      have hXs : X.size ≤ 100000000 := by
        have e : X.size = X.data.toList.length := Array.length_toList.symm
        rw [e, HXL.out, List.length_take, List.length_drop]; omega
      have hcat : X.size + (ByteArray.mk U.toArray).size ≤ 200000000 := by rw [hzU]; omega
      have hcat2 : O.size + (X.size + (ByteArray.mk U.toArray).size) ≤ 400000000 := by omega
      clear hk2 hOl hpu
      cases B0 with
      | true =>
        have HT : Hid (badO ps s = true) := by show _ = true; rw [← HB.out, HBD.out]; rfl
        go_wp2_with (first | (go_at_call 87; refine (cE0.out _).mono ?_; rintro e w2 ⟨rfl, rfl⟩) | fail)
        go_ret2
        exact ⟨by rw [HRE.out, HRS.out, if_pos HT.out, if_pos HT.out]; rfl, HWR.out.alloc hsize _⟩
      | false =>
      cases B1 with
      | true =>
        have HT : Hid (badO ps s = true) := by show _ = true; rw [← HB.out, HBD.out]; rfl
        go_wp2_with (first | (have _ := hfirst; go_at_call 87; refine (cE1.out _).mono ?_; rintro e w3 ⟨rfl, rfl⟩) | (go_at_call 87; refine (cE0.out _).mono ?_; rintro e w2 ⟨rfl, rfl⟩; have hfirst := trivial) | fail)
        go_ret2
        exact ⟨by rw [HRE.out, HRS.out, if_pos HT.out, if_pos HT.out]; rfl, HWR.out.alloc hsize _⟩
      | false =>
        go_wp2_with (first | (have _ := hfirst; go_at_call 87; refine (cE1.out _).mono ?_; rintro e w3 ⟨rfl, rfl⟩) | (go_at_call 87; refine (cE0.out _).mono ?_; rintro e w2 ⟨rfl, rfl⟩; have hfirst := trivial) | fail)
        go_region
        all_goals
          go_wp2
          go_roundw
          case rel => exact ⟨k + 1, by omega, by go_num, by rw [HI.out, Int.add_assoc], by rw [HA.out, HOO.out, cat3 _ _ _ _ HXL.out], by rw [HBD.out, ← HA1.out]; rfl, (HWR.out.alloc hsize _).drew⟩
          case measure => simp [intOf]; omega
    · have e : ps.take k = ps := List.take_of_length_le (by rw [← HN.out]; omega)
      have e' : ps.drop k = [] := List.drop_eq_nil_of_le (by rw [← HN.out]; omega)
      rw [e, e'] at hbd
      rw [e]
      have HT : Hid (badO ps s = false) := by show _ = false; rw [← HB.out, hbd]; rfl
      obtain ⟨O, hO⟩ : ∃ O, O = ByteArray.mk (applyP ps s).toArray := ⟨_, rfl⟩
      have HOO : Hid (O = ByteArray.mk (applyP ps s).toArray) := hO
      rw [← hO]
      clear e e' hbd hO
      go_wp2
      go_ret2
      exact ⟨by rw [HRE.out, HRS.out, HT.out, HOO.out]; rfl, hwr⟩

theorem refApply_any (v : Value) (ps : List Pt) (s : List UInt8) (w : World) (hr : opAt w v ps) (hwf : ∀ p ∈ ps, wfP p) (hsm : ∀ p ∈ ps, p.put.length < 100000000) (hs : s.length < 100000000) (hl : ps.length < 10000000) (hpu : putsP ps < 100000000) :
    Calls Tryz.prog 28 #[v, .string ⟨s.toArray⟩] w fun e w' => e = .returned (.tuple #[.string ⟨(if ordE ps s = 0 then applyP ps s else []).toArray⟩, .int .i64 (ordE ps s)]) ∧ Below w.heap.size w w' := by
  unfold ordE
  by_cases he : chkE ps (s.length : Int) = 0
  · rw [if_pos he]
    have := refApply_fine v ps s w hr hwf hsm hs hl hpu he
    cases hb : badO ps s <;> simp only [hb] at this <;> simpa using this
  · rw [if_neg he, if_neg he]
    exact refApply_err v ps s w hr hwf hsm (by omega) hl he
end Go.Proofs.YtldhbjmillfjgabGreatDoor

namespace Go.Proofs.YtldhbjmillfjgabGreatDoor
open Go.RowKit
set_option linter.unusedVariables false
attribute [local go_sem] Oper.semAt_some

/-- An operation held in box a, its row behind it. -/
structure outAt (w : World) (a : Nat) (l : List Pt) : Prop where
  out : ∃ p c, w.cell? ⟨a, 0, none⟩ = some (.slice p l.length c) ∧ w.ownsRow (a + 1) 50 3 (.slice p l.length c) l.length (cellsP l)
  outF : w.frozen? ⟨a, 0, none⟩ = false
theorem outAt_lt {w : World} {a : Nat} {l : List Pt} (h : outAt w a l) : a < w.heap.size := by obtain ⟨⟨p, c, h1, _⟩, _⟩ := h; exact World.block_lt_of_cell? w _ h1
theorem outAt_below {w w' : World} {a : Nat} {l : List Pt} (h : outAt w a l) (hb : Below w.heap.size w w') : outAt w' a l := by
  have hlt := outAt_lt h
  obtain ⟨⟨p, c, h1, h2⟩, h3⟩ := h
  exact ⟨⟨p, c, (hb.cell (p := ⟨a, 0, none⟩) hlt).trans h1, own_below h2 hb⟩, (hb.frozen (p := ⟨a, 0, none⟩) hlt).trans h3⟩
theorem outAt_push {w w1 : World} {a : Nat} {l : List Pt} {p : Option Addr} {c : Nat} {o : Obj} {v' : Value} {q : Pt} (h : outAt w a l) (hc : w.cell? ⟨a, 0, none⟩ = some (.slice p l.length c))
    (hown1 : w1.ownsRow (a + 1) 50 3 v' (l.length + 1) (cellsP l ++ partCells q)) (hg : (w.alloc o).grownBy w1 (Value.slice p l.length c).ownBlock) :
    outAt (w1.setCell ⟨a, 0, none⟩ v') a (l ++ [q]) ∧ Below a w (w1.setCell ⟨a, 0, none⟩ v') ∧ w1.cell? ⟨a, 0, none⟩ = some (.slice p l.length c) ∧ w1.frozen? ⟨a, 0, none⟩ = false := by
  have hlt := outAt_lt h
  obtain ⟨⟨p1, c1, h1, h2⟩, h3⟩ := h
  rw [hc] at h1
  simp only [Option.some.injEq, Value.slice.injEq, true_and] at h1
  obtain ⟨rfl, rfl⟩ := h1
  have hrow : ∀ k, (Value.slice p l.length c).ownBlock = some k → a + 1 ≤ k := fun k hk => (h2.lt k hk).1
  have hb1 : Below (a + 1) w w1 := ((Below.refl (a + 1) w).alloc (by omega) o).grown hg (by rw [World.size_alloc]; omega) hrow
  have hc1 : w1.cell? ⟨a, 0, none⟩ = some (.slice p l.length c) := by rw [hb1.cell (p := ⟨a, 0, none⟩) (by show a < _; omega)]; exact hc
  have hf1 : w1.frozen? ⟨a, 0, none⟩ = false := by rw [hb1.frozen (p := ⟨a, 0, none⟩) (by show a < _; omega)]; exact h3
  obtain ⟨pv, cv, rfl⟩ := own_slice hown1
  refine ⟨⟨⟨pv, cv, ?_, ?_⟩, ?_⟩, (hb1.mono (show a ≤ a + 1 by omega)).setCell (Nat.le_refl _) _, hc1, hf1⟩
  · show _ = some (Value.slice pv (l ++ [q]).length cv)
    rw [List.length_append]; exact World.cell?_setCell_same _ _ _ hc1
  · show World.ownsRow _ _ _ _ (.slice pv (l ++ [q]).length cv) (l ++ [q]).length (cellsP (l ++ [q]))
    rw [List.length_append, cellsP_snoc]; exact own_set hown1 (by omega) _
  · rw [World.frozen?_setCell]; exact hf1

def keepO (k : Int) : List Pt := if 0 < k then [⟨k, 0, []⟩] else []
def putO (u : List UInt8) : List Pt := if u ≠ [] then [⟨0, 0, u⟩] else []

set_option maxRecDepth 100000 in
set_option maxHeartbeats 1000000 in
theorem tKeep_any (a : Nat) (l : List Pt) (k : Int) (w : World) (h : outAt w a l) (hlen : l.length < 1000000000) :
    Calls Tryz.prog 153 #[.int .i64 k, .pointer (some ⟨a, 0, none⟩)] w fun e w' => (∃ v, e = .returned v) ∧ outAt w' a (l ++ keepO k) ∧ Below a w w' := by
  obtain ⟨i0, hi, hz0, hz1, hz2⟩ := info_parts info_part
  have hlt := outAt_lt h
  have H0 : Hid (outAt w a l) := h
  obtain ⟨⟨p, c, h1, h2⟩, h3⟩ := h
  have HO : Hid (w.ownsRow (a + 1) 50 3 (.slice p l.length c) l.length (cellsP l)) := h2
  have HC : Hid (w.cell? ⟨a, 0, none⟩ = some (.slice p l.length c)) := h1
  clear h2
  by_cases hk : 0 < k
  · have hkO : keepO k = [⟨k, 0, []⟩] := if_pos hk
    rw [hkO]
    clear hkO
    go_enter Tryz.func153, Tryz.ntmps153
    go_wp2_with (first | (at_builtin; refine wpList_append_own _ rfl _ _ 23 rfl (a + 1) 50 i0 (.agg #[.int .i64 0, .int .i64 0, .string ⟨#[]⟩]) 3 32 Tryz.underlying23 hi hz0 hz1 hz2 rfl (by decide) _ _ _ rfl (HO.out.alloc _) ⟨w.heap.size, 0, none⟩ 1 1 (partCells ⟨k, 0, []⟩) rfl rfl (cells_new _ _ _) (partCells_one _) (by unfold maxLen; omega) (by omega) (by first | omega | (simp; omega)) ?_) | fail)
    intro v1 w1 hown1 hg1 _
    have P1 := outAt_push (q := ⟨k, 0, []⟩) H0.out HC.out hown1 hg1
    obtain ⟨p1, q1, hv1⟩ := own_slice hown1
    rw [hv1] at P1 hown1 ⊢
    obtain ⟨G1, B1, r1, r2⟩ := P1
    have HG1 : Hid (outAt (w1.setCell ⟨a, 0, none⟩ (.slice p1 (l.length + 1) q1)) a (l ++ [⟨k, 0, []⟩])) := G1
    have HB1 : Hid (Below a w (w1.setCell ⟨a, 0, none⟩ (.slice p1 (l.length + 1) q1))) := B1
    clear h1 h3 G1 B1 hown1 hg1 hv1
    go_wp2
    go_end0
    exact ⟨⟨_, rfl⟩, HG1.out, HB1.out⟩
  · have hkO : keepO k = [] := if_neg hk
    rw [hkO, List.append_nil]
    clear hkO
    go_enter Tryz.func153, Tryz.ntmps153
    go_wp2
    go_end0
    exact ⟨⟨_, rfl⟩, H0.out, .refl _ _⟩
set_option maxRecDepth 100000 in
set_option maxHeartbeats 1000000 in
theorem tPut_any (a : Nat) (l : List Pt) (u : List UInt8) (w : World) (h : outAt w a l) (hlen : l.length < 1000000000) :
    Calls Tryz.prog 154 #[.string ⟨u.toArray⟩, .pointer (some ⟨a, 0, none⟩)] w fun e w' => (∃ v, e = .returned v) ∧ outAt w' a (l ++ putO u) ∧ Below a w w' := by
  obtain ⟨i0, hi, hz0, hz1, hz2⟩ := info_parts info_part
  have hlt := outAt_lt h
  have H0 : Hid (outAt w a l) := h
  obtain ⟨⟨p, c, h1, h2⟩, h3⟩ := h
  have HO : Hid (w.ownsRow (a + 1) 50 3 (.slice p l.length c) l.length (cellsP l)) := h2
  have HC : Hid (w.cell? ⟨a, 0, none⟩ = some (.slice p l.length c)) := h1
  clear h2
  by_cases hk : u ≠ []
  · have hkO : putO u = [⟨0, 0, u⟩] := if_pos hk
    have hpe : u.isEmpty = false := by simpa using hk
    rw [hkO]
    clear hkO
    go_enter Tryz.func154, Tryz.ntmps154
    go_wp2_with (first | (at_builtin; refine wpList_append_own _ rfl _ _ 23 rfl (a + 1) 50 i0 (.agg #[.int .i64 0, .int .i64 0, .string ⟨#[]⟩]) 3 32 Tryz.underlying23 hi hz0 hz1 hz2 rfl (by decide) _ _ _ rfl (HO.out.alloc _) ⟨w.heap.size, 0, none⟩ 1 1 (partCells ⟨0, 0, u⟩) rfl rfl (cells_new _ _ _) (partCells_one _) (by unfold maxLen; omega) (by omega) (by first | omega | (simp; omega)) ?_) | fail)
    intro v1 w1 hown1 hg1 _
    have P1 := outAt_push (q := ⟨0, 0, u⟩) H0.out HC.out hown1 hg1
    obtain ⟨p1, q1, hv1⟩ := own_slice hown1
    rw [hv1] at P1 hown1 ⊢
    obtain ⟨G1, B1, r1, r2⟩ := P1
    have HG1 : Hid (outAt (w1.setCell ⟨a, 0, none⟩ (.slice p1 (l.length + 1) q1)) a (l ++ [⟨0, 0, u⟩])) := G1
    have HB1 : Hid (Below a w (w1.setCell ⟨a, 0, none⟩ (.slice p1 (l.length + 1) q1))) := B1
    clear h1 h3 G1 B1 hown1 hg1 hv1
    go_wp2
    go_end0
    exact ⟨⟨_, rfl⟩, HG1.out, HB1.out⟩
  · have hkO : putO u = [] := if_neg hk
    have hu : u = [] := Classical.not_not.1 hk
    subst hu
    rw [hkO, List.append_nil]
    clear hkO hk
    go_enter Tryz.func154, Tryz.ntmps154
    go_wp2
    go_end0
    exact ⟨⟨_, rfl⟩, H0.out, .refl _ _⟩
end Go.Proofs.YtldhbjmillfjgabGreatDoor

namespace Go.Proofs.YtldhbjmillfjgabGreatDoor
open Go.RowKit
set_option linter.unusedVariables false
attribute [local go_sem] Oper.semAt_some

def bothR (w : World) (v1 v2 : Value) (EA EB : Int) (k : Nat) (i : Value) (wr : World) : Prop :=
  ∃ j : Nat, i = .int .i64 j ∧ j + k = 2 ∧ (1 ≤ j → EA = 0) ∧ (2 ≤ j → EB = 0) ∧ Below w.heap.size w wr ∧ wr.cell? ⟨w.heap.size, 0, none⟩ = some v1 ∧ wr.cell? ⟨w.heap.size, 1, none⟩ = some v2

set_option maxRecDepth 100000 in
set_option maxHeartbeats 4000000 in
theorem refBoth_any (v1 v2 : Value) (a b : List Pt) (w : World) (h1 : opAt w v1 a) (h2 : opAt w v2 b) (w1 : ∀ p ∈ a, wfP p) (w2 : ∀ p ∈ b, wfP p) (s1 : ∀ p ∈ a, p.put.length < 100000000) (s2 : ∀ p ∈ b, p.put.length < 100000000) (l1 : a.length < 10000000) (l2 : b.length < 10000000) :
    Calls Tryz.prog 147 #[v1, v2] w fun e w' => e = .returned (.int .i64 (bothE a b)) ∧ Below w.heap.size w w' := by
  have cL1 : Hid (∀ wx, Below w.heap.size w wx → Calls Tryz.prog 148 #[v1] wx fun e w' => e = .returned (.tuple #[.int .i64 (lensW a).1, .int .i64 (lensW a).2]) ∧ Below wx.heap.size wx w') := fun wx hb => refLens_any v1 a wx (opAt_grown h1 hb) l1
  have cL2 : Hid (∀ wx, Below w.heap.size w wx → Calls Tryz.prog 148 #[v2] wx fun e w' => e = .returned (.tuple #[.int .i64 (lensW b).1, .int .i64 (lensW b).2]) ∧ Below wx.heap.size wx w') := fun wx hb => refLens_any v2 b wx (opAt_grown h2 hb) l2
  have cC1 : Hid (∀ wx, Below w.heap.size w wx → Calls Tryz.prog 62 #[v1, .int .i64 (lensW a).1] wx fun e w' => e = .returned (.int .i64 (chkE a (lensW a).1)) ∧ Below wx.heap.size wx w') := fun wx hb => refCheck_any v1 a _ wx (opAt_grown h1 hb) w1 s1 (lensW_range a) l1
  have cC2 : Hid (∀ wx, Below w.heap.size w wx → Calls Tryz.prog 62 #[v2, .int .i64 (lensW b).1] wx fun e w' => e = .returned (.int .i64 (chkE b (lensW b).1)) ∧ Below wx.heap.size wx w') := fun wx hb => refCheck_any v2 b _ wx (opAt_grown h2 hb) w2 s2 (lensW_range b) l2
  obtain ⟨R, hR⟩ : ∃ R, R = bothE a b := ⟨_, rfl⟩
  rw [← hR]
  unfold bothE at hR
  generalize chkE a (lensW a).1 = EA at cC1 hR
  generalize chkE b (lensW b).1 = EB at cC2 hR
  generalize (lensW a).1 = A1 at cL1 cC1
  generalize (lensW a).2 = A2 at cL1
  generalize (lensW b).1 = B1 at cL2 cC2
  generalize (lensW b).2 = B2 at cL2
  have HR : Hid (R = if EA = 0 then EB else EA) := hR
  obtain ⟨p1, c1, rfl, _⟩ := h1
  obtain ⟨p2, c2, rfl, _⟩ := h2
  clear w1 w2 s1 s2 hR
  go_enter Tryz.func147, Tryz.ntmps147
  go_wp2
  have hst : bothR w (.slice p1 a.length c1) (.slice p2 b.length c2) EA EB 2 (.int .i64 0) (w.alloc (.cells #[.slice p1 a.length c1, .slice p2 b.length c2] 23)) :=
    ⟨0, rfl, rfl, fun h => absurd h (by omega), fun h => absurd h (by omega), (Below.refl _ w).alloc (Nat.le_refl _) _, by simp [go_sem], by simp [go_sem]⟩
  have HST : Hid _ := hst
  clear hst
  go_loopg [14] 2 (fun k i wr => bothR w (.slice p1 a.length c1) (.slice p2 b.length c2) EA EB k i wr)
  case atStart => exact HST.out
  case round =>
    obtain ⟨j, rfl, hjk, hA, hB, hb, k0, k1⟩ := hrel
    have HBW : Hid (Below w.heap.size w wr) := hb
    clear HST hb
    rcases Nat.lt_or_ge j 1 with hj | hj
    · obtain rfl : j = 0 := by omega
      obtain rfl : gk = 2 := by omega
      clear hA hB hjk hj
      by_cases he : EA = 0
      · subst he
        go_wp2_with (first
          | (go_at_call 148; refine (cL1.out _ (by first | exact HBW.out | exact HBW.out.drew)).mono ?_; rintro e w2 ⟨rfl, hb2⟩; have HB2 : Hid (Below w.heap.size w w2) := (by first | exact HBW.out.trans (hb2.mono HBW.out.size) | exact HBW.out.drew.trans (hb2.mono HBW.out.size)); have K0 : Hid (w2.cell? ⟨w.heap.size, 0, none⟩ = some (.slice p1 a.length c1)) := (hb2.cell (World.block_lt_of_cell? wr _ k0)).trans k0; have K1 : Hid (w2.cell? ⟨w.heap.size, 1, none⟩ = some (.slice p2 b.length c2)) := (hb2.cell (World.block_lt_of_cell? wr _ k1)).trans k1; clear hb2)
          | (go_at_call 62; refine (cC1.out _ HB2.out).mono ?_; rintro e w3 ⟨rfl, hb3⟩)
          | fail)
        go_roundg 1
        case measure => omega
        case rel => exact ⟨1, rfl, rfl, fun _ => rfl, fun h => absurd h (by omega), HB2.out.trans (hb3.mono HB2.out.size), (hb3.cell (World.block_lt_of_cell? w2 _ K0.out)).trans K0.out, (hb3.cell (World.block_lt_of_cell? w2 _ K1.out)).trans K1.out⟩
      · have hRA : R = EA := by rw [HR.out, if_neg he]
        subst hRA
        clear HR
        go_wp2_with (first
          | (go_at_call 148; refine (cL1.out _ (by first | exact HBW.out | exact HBW.out.drew)).mono ?_; rintro e w2 ⟨rfl, hb2⟩; have HB2 : Hid (Below w.heap.size w w2) := (by first | exact HBW.out.trans (hb2.mono HBW.out.size) | exact HBW.out.drew.trans (hb2.mono HBW.out.size)); clear hb2)
          | (go_at_call 62; refine (cC1.out _ HB2.out).mono ?_; rintro e w3 ⟨rfl, hb3⟩)
          | fail)
        go_ret
        exact ⟨rfl, HB2.out.trans (hb3.mono HB2.out.size)⟩
    · have hA := hA hj
      subst hA
      have HR' : Hid (R = EB) := by have := HR.out; rwa [if_pos rfl] at this
      clear HR
      rcases Nat.lt_or_ge j 2 with hj2 | hj2
      · obtain rfl : j = 1 := by omega
        obtain rfl : gk = 1 := by omega
        clear hB hjk hj hj2
        by_cases he : EB = 0
        · subst he
          go_wp2_with (first
            | (go_at_call 148; refine (cL2.out _ (by first | exact HBW.out | exact HBW.out.drew)).mono ?_; rintro e w2 ⟨rfl, hb2⟩; have HB2 : Hid (Below w.heap.size w w2) := (by first | exact HBW.out.trans (hb2.mono HBW.out.size) | exact HBW.out.drew.trans (hb2.mono HBW.out.size)); have K0 : Hid (w2.cell? ⟨w.heap.size, 0, none⟩ = some (.slice p1 a.length c1)) := (hb2.cell (World.block_lt_of_cell? wr _ k0)).trans k0; have K1 : Hid (w2.cell? ⟨w.heap.size, 1, none⟩ = some (.slice p2 b.length c2)) := (hb2.cell (World.block_lt_of_cell? wr _ k1)).trans k1; clear hb2)
            | (go_at_call 62; refine (cC2.out _ HB2.out).mono ?_; rintro e w3 ⟨rfl, hb3⟩)
            | fail)
          go_roundg 0
          case measure => omega
          case rel => exact ⟨2, rfl, rfl, fun _ => rfl, fun _ => rfl, HB2.out.trans (hb3.mono HB2.out.size), (hb3.cell (World.block_lt_of_cell? w2 _ K0.out)).trans K0.out, (hb3.cell (World.block_lt_of_cell? w2 _ K1.out)).trans K1.out⟩
        · have hRA : R = EB := HR'.out
          subst hRA
          clear HR'
          go_wp2_with (first
            | (go_at_call 148; refine (cL2.out _ (by first | exact HBW.out | exact HBW.out.drew)).mono ?_; rintro e w2 ⟨rfl, hb2⟩; have HB2 : Hid (Below w.heap.size w w2) := (by first | exact HBW.out.trans (hb2.mono HBW.out.size) | exact HBW.out.drew.trans (hb2.mono HBW.out.size)); clear hb2)
            | (go_at_call 62; refine (cC2.out _ HB2.out).mono ?_; rintro e w3 ⟨rfl, hb3⟩)
            | fail)
          go_ret
          exact ⟨rfl, HB2.out.trans (hb3.mono HB2.out.size)⟩
      · obtain rfl : j = 2 := by omega
        have hB := hB (by omega)
        have hRA : R = 0 := by rw [HR'.out, hB]
        subst hRA
        clear HR' hB hjk hj hj2
        go_wp2
        go_ret
        exact ⟨rfl, HBW.out⟩
end Go.Proofs.YtldhbjmillfjgabGreatDoor

namespace Go.Proofs.YtldhbjmillfjgabGreatDoor
open Go.RowKit
set_option linter.unusedVariables false
attribute [local go_sem] Oper.semAt_some

/-- What a gap comes to: what is put there, and what the other one puts; then its byte. -/
def pairO (first : Bool) (u v : List UInt8) : List Pt := if first then putO u ++ keepO v.length else keepO v.length ++ putO u
def unitO (e d : Bool) : List Pt := if e then [] else [unitP d]
def gapO (first : Bool) (z : (List UInt8 × Bool) × (List UInt8 × Bool)) : List Pt := pairO first z.1.1 z.2.1 ++ unitO z.2.2 z.1.2
/-- What has come when j gaps are gone through. -/
def outJ (first : Bool) (x y : GSt) (j : Nat) : List Pt := ((x.1.zip y.1).take j).flatMap (gapO first) ++ if x.1.length < j then pairO first x.2 y.2 else []
theorem putO_fold (u : List UInt8) (s : NSt) : (putO u).foldl addP s = addP s ⟨0, 0, u⟩ := by
  unfold putO
  split
  · rfl
  · rename_i h
    rw [Classical.not_not.1 h, addP_none]; rfl
theorem keepO_fold (v : List UInt8) (s : NSt) : (keepO v.length).foldl addP s = addP s ⟨v.length, 0, []⟩ := by
  unfold keepO
  split
  · rfl
  · rename_i h
    have : (v.length : Int) = 0 := by omega
    rw [this, addP_none]; rfl
theorem pairO_fold (first : Bool) (u v : List UInt8) (s : NSt) : (pairO first u v).foldl addP s = (if first then [⟨0, 0, u⟩, ⟨v.length, 0, []⟩] else [⟨v.length, 0, []⟩, ⟨0, 0, u⟩] : List Pt).foldl addP s := by
  unfold pairO
  cases first
  · simp only [Bool.false_eq_true, if_false, List.foldl_append, putO_fold, keepO_fold]; rfl
  · simp only [if_true, List.foldl_append, putO_fold, keepO_fold]; rfl
theorem out_fold (first : Bool) : ∀ (x y : List (List UInt8 × Bool)) (xl yl : List UInt8) (s : NSt), x.length = y.length → ((x.zip y).flatMap (gapO first) ++ pairO first xl yl).foldl addP s = (docT first x xl y yl).foldl addP s
  | [], [], xl, yl, s, _ => by
    simp only [List.zip_nil_left, List.flatMap_nil, List.nil_append, pairO_fold]; rfl
  | [], _ :: _, _, _, _, h => by simp at h
  | _ :: _, [], _, _, _, h => by simp at h
  | (u, d) :: x, (v, e) :: y, xl, yl, s, h => by
    have ih := out_fold first x y xl yl
    rw [List.zip_cons_cons, List.flatMap_cons, List.append_assoc, List.foldl_append, ih _ (by simpa using h), docT, List.foldl_append, List.foldl_append]
    congr 1
    unfold gapO unitO
    rw [List.foldl_append, pairO_fold]
theorem pairO_len (first : Bool) (u v : List UInt8) : (pairO first u v).length ≤ 2 := by
  have h1 : (putO u).length ≤ 1 := by unfold putO; split <;> simp
  have h2 : (keepO v.length).length ≤ 1 := by unfold keepO; split <;> simp
  unfold pairO
  split <;> (rw [List.length_append]; omega)
theorem gapO_len (first : Bool) (z : (List UInt8 × Bool) × (List UInt8 × Bool)) : (gapO first z).length ≤ 3 := by
  have h1 := pairO_len first z.1.1 z.2.1
  have h2 : (unitO z.2.2 z.1.2).length ≤ 1 := by unfold unitO; split <;> simp
  unfold gapO
  rw [List.length_append]; omega
theorem outJ_len (first : Bool) (x y : GSt) (j : Nat) : (outJ first x y j).length ≤ 3 * j + 2 := by
  have key : ∀ (l : List ((List UInt8 × Bool) × (List UInt8 × Bool))), (l.flatMap (gapO first)).length ≤ 3 * l.length := by
    intro l
    induction l with
    | nil => simp
    | cons z l ih =>
      have := gapO_len first z
      rw [List.flatMap_cons, List.length_append, List.length_cons]; omega
  have h1 := key ((x.1.zip y.1).take j)
  have h2 : ((x.1.zip y.1).take j).length ≤ j := by rw [List.length_take]; omega
  have h3 := pairO_len first x.2 y.2
  unfold outJ
  rw [List.length_append]
  split
  · omega
  · simp only [List.length_nil]; omega
theorem outJ_step {first : Bool} {x y : GSt} {j : Nat} (hl : x.1.length = y.1.length) (hj : j < x.1.length) {u v : List UInt8} {d e : Bool} (hx : x.1[j]? = some (u, d)) (hy : y.1[j]? = some (v, e)) : outJ first x y (j + 1) = outJ first x y j ++ (pairO first u v ++ unitO e d) := by
  have hz : (x.1.zip y.1)[j]? = some ((u, d), (v, e)) := by rw [List.getElem?_zip_eq_some]; exact ⟨hx, hy⟩
  unfold outJ
  rw [if_neg (by omega), if_neg (by omega), List.append_nil, List.append_nil, List.take_add_one, hz, List.flatMap_append]
  simp [gapO]
theorem outJ_last {first : Bool} {x y : GSt} (hl : x.1.length = y.1.length) : outJ first x y (x.1.length + 1) = outJ first x y x.1.length ++ pairO first x.2 y.2 := by
  have hz : (x.1.zip y.1).length = x.1.length := by rw [List.length_zip]; omega
  unfold outJ
  rw [if_pos (by omega), if_neg (by omega), List.append_nil, List.take_of_length_le (by omega), List.take_of_length_le (by omega)]

theorem keepO_ok (k : Nat) : (∀ p ∈ keepO k, soundP p) ∧ wts (keepO k) = k := by
  unfold keepO
  split
  · refine ⟨fun p hp => ?_, by simp [wts, wtP]⟩
    obtain rfl := List.mem_singleton.1 hp
    exact ⟨by simp, by simp⟩
  · exact ⟨by simp, by simp [wts]; omega⟩
theorem putO_ok (u : List UInt8) : (∀ p ∈ putO u, soundP p) ∧ wts (putO u) = u.length := by
  unfold putO
  split
  · refine ⟨fun p hp => ?_, by simp [wts, wtP]⟩
    obtain rfl := List.mem_singleton.1 hp
    exact ⟨by simp, by simp⟩
  · rename_i h
    rw [Classical.not_not.1 h]
    exact ⟨by simp, by simp [wts]⟩
theorem wts_append (l m : List Pt) : wts (l ++ m) = wts l + wts m := by simp [wts]
theorem pairO_ok (first : Bool) (u v : List UInt8) : (∀ p ∈ pairO first u v, soundP p) ∧ wts (pairO first u v) = u.length + v.length := by
  obtain ⟨h1, h2⟩ := keepO_ok v.length
  obtain ⟨h3, h4⟩ := putO_ok u
  unfold pairO
  split
  · refine ⟨fun p hp => ?_, by rw [wts_append]; omega⟩
    rcases List.mem_append.1 hp with hp | hp
    · exact h3 p hp
    · exact h1 p hp
  · refine ⟨fun p hp => ?_, by rw [wts_append]; omega⟩
    rcases List.mem_append.1 hp with hp | hp
    · exact h1 p hp
    · exact h3 p hp
theorem unitO_ok (e d : Bool) : (∀ p ∈ unitO e d, soundP p) ∧ wts (unitO e d) ≤ 1 := by
  cases e <;> cases d <;> simp [unitO, unitP, soundP, wts, wtP]
theorem outJ_sound (first : Bool) (x y : GSt) (j : Nat) : ∀ p ∈ outJ first x y j, soundP p := by
  intro p hp
  unfold outJ at hp
  rcases List.mem_append.1 hp with hp | hp
  · obtain ⟨z, _, hp⟩ := List.mem_flatMap.1 hp
    unfold gapO at hp
    rcases List.mem_append.1 hp with hp | hp
    · exact (pairO_ok _ _ _).1 p hp
    · exact (unitO_ok _ _).1 p hp
  · split at hp
    · exact (pairO_ok _ _ _).1 p hp
    · cases hp
theorem outZ_wts (first : Bool) : ∀ (x y : List (List UInt8 × Bool)) (j : Nat), wts (((x.zip y).take j).flatMap (gapO first)) ≤ putsK x + putsK y + j
  | [], y, j => by simp [wts]; omega
  | _ :: _, [], j => by simp [wts]; omega
  | (u, d) :: x, (v, e) :: y, 0 => by simp [wts]; omega
  | (u, d) :: x, (v, e) :: y, j + 1 => by
    have ih := outZ_wts first x y j
    have h1 := (pairO_ok first u v).2
    have h2 := (unitO_ok e d).2
    have e1 : putsK ((u, d) :: x) = u.length + putsK x := by simp [putsK]
    have e2 : putsK ((v, e) :: y) = v.length + putsK y := by simp [putsK]
    rw [List.zip_cons_cons, List.take_succ_cons, List.flatMap_cons, wts_append, e1, e2]
    have h3 : wts (gapO first ((u, d), (v, e))) = wts (pairO first u v) + wts (unitO e d) := wts_append _ _
    omega
theorem outJ_wts (first : Bool) (x y : GSt) (j : Nat) : wts (outJ first x y j) ≤ putsK x.1 + x.2.length + (putsK y.1 + y.2.length) + j := by
  have h1 := outZ_wts first x.1 y.1 j
  have h2 := (pairO_ok first x.2 y.2).2
  unfold outJ
  rw [wts_append]
  split
  · omega
  · simp only [wts, List.map_nil, List.sum_nil] at h1 ⊢; omega

def trR (first : Bool) (x y : GSt) (n OB : Nat) (W0 : World) (k : Nat) (i : Value) (wr : World) : Prop := ∃ j : Nat, i = .int .i64 j ∧ j + k = n + 1 ∧ outAt wr OB (outJ first x y j) ∧ Below OB W0 wr
/-- What the two spread operations hold. -/
structure gapsAt (W : World) (q gx1 gx2 gy1 gy2 n : Nat) (x y : GSt) : Prop where
  a0 : W.cell? ⟨q, 0, none⟩ = some (.slice (some ⟨gx1, 0, none⟩) (n + 1) (n + 1))
  a1 : W.cell? ⟨q, 1, none⟩ = some (.slice (some ⟨gx2, 0, none⟩) n n)
  b0 : W.cell? ⟨q + 1, 0, none⟩ = some (.slice (some ⟨gy1, 0, none⟩) (n + 1) (n + 1))
  b1 : W.cell? ⟨q + 1, 1, none⟩ = some (.slice (some ⟨gy2, 0, none⟩) n n)
  x1 : ∀ j u d, x.1[j]? = some (u, d) → W.cell? ⟨gx1, j, none⟩ = some (.string ⟨u.toArray⟩) ∧ W.cell? ⟨gx2, j, none⟩ = some (.bool d)
  y1 : ∀ j u d, y.1[j]? = some (u, d) → W.cell? ⟨gy1, j, none⟩ = some (.string ⟨u.toArray⟩) ∧ W.cell? ⟨gy2, j, none⟩ = some (.bool d)
  x2 : W.cell? ⟨gx1, n, none⟩ = some (.string ⟨x.2.toArray⟩)
  y2 : W.cell? ⟨gy1, n, none⟩ = some (.string ⟨y.2.toArray⟩)
  lt : gx1 < q ∧ gx2 < q ∧ gy1 < q ∧ gy2 < q
theorem gapsAt_below {W W' : World} {q gx1 gx2 gy1 gy2 n : Nat} {x y : GSt} (h : gapsAt W q gx1 gx2 gy1 gy2 n x y) {B : Nat} (hb : Below B W W') (hB : q + 2 ≤ B) : gapsAt W' q gx1 gx2 gy1 gy2 n x y := by
  obtain ⟨l1, l2, l3, l4⟩ := h.lt
  exact ⟨(hb.cell (p := ⟨q, 0, none⟩) (by show q < B; omega)).trans h.a0, (hb.cell (p := ⟨q, 1, none⟩) (by show q < B; omega)).trans h.a1, (hb.cell (p := ⟨q + 1, 0, none⟩) (by show q + 1 < B; omega)).trans h.b0, (hb.cell (p := ⟨q + 1, 1, none⟩) (by show q + 1 < B; omega)).trans h.b1,
    fun j u d hj => ⟨(hb.cell (p := ⟨gx1, j, none⟩) (by show gx1 < B; omega)).trans (h.x1 j u d hj).1, (hb.cell (p := ⟨gx2, j, none⟩) (by show gx2 < B; omega)).trans (h.x1 j u d hj).2⟩,
    fun j u d hj => ⟨(hb.cell (p := ⟨gy1, j, none⟩) (by show gy1 < B; omega)).trans (h.y1 j u d hj).1, (hb.cell (p := ⟨gy2, j, none⟩) (by show gy2 < B; omega)).trans (h.y1 j u d hj).2⟩,
    (hb.cell (p := ⟨gx1, n, none⟩) (by show gx1 < B; omega)).trans h.x2, (hb.cell (p := ⟨gy1, n, none⟩) (by show gy1 < B; omega)).trans h.y2, h.lt⟩
theorem rows_gaps {W6 W8 W0 : World} {B6 B8 q gx1 gx2 gy1 gy2 n : Nat} {x y : GSt} (hx : x.1.length = n) (hy : y.1.length = n)
    (X1 : W6.ownsRow B6 9 1 (.slice (some ⟨gx1, 0, none⟩) (n + 1) (n + 1)) (n + 1) ((strsP n x).map strV)) (X2 : W6.ownsRow B6 4 1 (.slice (some ⟨gx2, 0, none⟩) n n) n ((boolsP n x).map Value.bool))
    (Y1 : W8.ownsRow B8 9 1 (.slice (some ⟨gy1, 0, none⟩) (n + 1) (n + 1)) (n + 1) ((strsP n y).map strV)) (Y2 : W8.ownsRow B8 4 1 (.slice (some ⟨gy2, 0, none⟩) n n) n ((boolsP n y).map Value.bool))
    (b6 : Below W6.heap.size W6 W0) (b8 : Below W8.heap.size W8 W0) (s6 : W6.heap.size ≤ q) (s8 : W8.heap.size ≤ q)
    (a0 : W0.cell? ⟨q, 0, none⟩ = some (.slice (some ⟨gx1, 0, none⟩) (n + 1) (n + 1))) (a1 : W0.cell? ⟨q, 1, none⟩ = some (.slice (some ⟨gx2, 0, none⟩) n n)) (b0 : W0.cell? ⟨q + 1, 0, none⟩ = some (.slice (some ⟨gy1, 0, none⟩) (n + 1) (n + 1))) (b1 : W0.cell? ⟨q + 1, 1, none⟩ = some (.slice (some ⟨gy2, 0, none⟩) n n)) :
    gapsAt W0 q gx1 gx2 gy1 gy2 n x y := by
  have lx1 := (X1.lt gx1 rfl).2
  have lx2 := (X2.lt gx2 rfl).2
  have ly1 := (Y1.lt gy1 rfl).2
  have ly2 := (Y2.lt gy2 rfl).2
  have key : ∀ (x : GSt), x.1.length = n → (∀ (j : Nat) (u : List UInt8) (d : Bool), x.1[j]? = some (u, d) → ((strsP n x).map strV)[j]? = some (Value.string ⟨u.toArray⟩) ∧ ((boolsP n x).map Value.bool)[j]? = some (Value.bool d)) ∧ ((strsP n x).map strV)[n]? = some (Value.string ⟨x.2.toArray⟩) := by
    intro x hx
    refine ⟨fun j u d hj => ?_, ?_⟩
    · have hlt := (List.getElem?_eq_some_iff.1 hj).1
      have e1 : (strsP n x)[j]? = some u := by
        unfold strsP
        rw [List.getElem?_append_left (by simpa using hlt), List.getElem?_map, hj]; rfl
      have e2 : (boolsP n x)[j]? = some d := by
        unfold boolsP
        rw [List.getElem?_append_left (by simpa using hlt), List.getElem?_map, hj]; rfl
      rw [List.getElem?_map, e1, List.getElem?_map, e2]
      exact ⟨rfl, rfl⟩
    · have e1 : (strsP n x)[n]? = some x.2 := by
        unfold strsP
        rw [List.getElem?_append_right (by simp [hx])]
        simp [hx]
      rw [List.getElem?_map, e1]; rfl
  obtain ⟨kx1, kx2⟩ := key x hx
  obtain ⟨ky1, ky2⟩ := key y hy
  refine ⟨a0, a1, b0, b1, fun j u d hj => ?_, fun j u d hj => ?_, ?_, ?_, by omega, by omega, by omega, by omega⟩
  · have hlt := (List.getElem?_eq_some_iff.1 hj).1
    obtain ⟨k1, k2⟩ := kx1 j u d hj
    exact ⟨(b6.cell (p := ⟨gx1, j, none⟩) lx1).trans ((X1.cellAt j (by omega)).trans k1), (b6.cell (p := ⟨gx2, j, none⟩) lx2).trans ((X2.cellAt j (by omega)).trans k2)⟩
  · have hlt := (List.getElem?_eq_some_iff.1 hj).1
    obtain ⟨k1, k2⟩ := ky1 j u d hj
    exact ⟨(b8.cell (p := ⟨gy1, j, none⟩) ly1).trans ((Y1.cellAt j (by omega)).trans k1), (b8.cell (p := ⟨gy2, j, none⟩) ly2).trans ((Y2.cellAt j (by omega)).trans k2)⟩
  · exact (b6.cell (p := ⟨gx1, n, none⟩) lx1).trans ((X1.cellAt n (by omega)).trans kx2)
  · exact (b8.cell (p := ⟨gy1, n, none⟩) ly1).trans ((Y1.cellAt n (by omega)).trans ky2)

set_option maxRecDepth 100000 in
set_option maxHeartbeats 2000000 in
theorem refTrans_err (v1 v2 : Value) (first : Bool) (a b : List Pt) (w : World) (h1 : opAt w v1 a) (h2 : opAt w v2 b) (w1 : ∀ p ∈ a, wfP p) (w2 : ∀ p ∈ b, wfP p) (s1 : ∀ p ∈ a, p.put.length < 100000000) (s2 : ∀ p ∈ b, p.put.length < 100000000) (l1 : a.length < 10000000) (l2 : b.length < 10000000) (he : bothE a b ≠ 0) :
    Calls Tryz.prog 101 #[v1, v2, .bool first] w fun e w' => e = .returned (.tuple #[.slice none 0 0, .int .i64 (bothE a b)]) ∧ Below w.heap.size w w' := by
  have cB : Hid _ := refBoth_any v1 v2 a b w h1 h2 w1 w2 s1 s2 l1 l2
  have hne : ¬ bothE a b = 0 := he
  generalize bothE a b = E at *
  obtain ⟨p1, c1, rfl, _⟩ := h1
  obtain ⟨p2, c2, rfl, _⟩ := h2
  clear w1 w2 s1 s2 he
  go_enter Tryz.func101, Tryz.ntmps101
  go_wp2_with (first
    | (go_at_call 147; refine Calls.mono cB.out ?_; rintro e w1 ⟨rfl, hb1⟩)
    | fail)
  go_ret2
  exact ⟨rfl, hb1⟩
set_option maxRecDepth 100000 in
set_option maxHeartbeats 2000000 in
theorem refTrans_len (v1 v2 : Value) (first : Bool) (a b : List Pt) (w : World) (h1 : opAt w v1 a) (h2 : opAt w v2 b) (w1 : ∀ p ∈ a, wfP p) (w2 : ∀ p ∈ b, wfP p) (s1 : ∀ p ∈ a, p.put.length < 100000000) (s2 : ∀ p ∈ b, p.put.length < 100000000) (l1 : a.length < 10000000) (l2 : b.length < 10000000) (he : bothE a b = 0) (hl : (lensW b).1 ≠ (lensW a).1) :
    Calls Tryz.prog 101 #[v1, v2, .bool first] w fun e w' => e = .returned (.tuple #[.slice none 0 0, .int .i64 (2)]) ∧ Below w.heap.size w w' := by
  have cB : Hid _ := refBoth_any v1 v2 a b w h1 h2 w1 w2 s1 s2 l1 l2
  rw [he] at cB
  have cL1 : Hid (∀ wx, Below w.heap.size w wx → Calls Tryz.prog 148 #[v1] wx fun e w' => e = .returned (.tuple #[.int .i64 (lensW a).1, .int .i64 (lensW a).2]) ∧ Below wx.heap.size wx w') := fun wx hb => refLens_any v1 a wx (opAt_grown h1 hb) l1
  have cL2 : Hid (∀ wx, Below w.heap.size w wx → Calls Tryz.prog 148 #[v2] wx fun e w' => e = .returned (.tuple #[.int .i64 (lensW b).1, .int .i64 (lensW b).2]) ∧ Below wx.heap.size wx w') := fun wx hb => refLens_any v2 b wx (opAt_grown h2 hb) l2
  generalize (lensW a).1 = A1 at *
  generalize (lensW a).2 = A2 at *
  generalize (lensW b).1 = B1 at *
  generalize (lensW b).2 = B2 at *
  obtain ⟨p1, c1, rfl, _⟩ := h1
  obtain ⟨p2, c2, rfl, _⟩ := h2
  clear w1 w2 s1 s2 he
  go_enter Tryz.func101, Tryz.ntmps101
  go_wp2_with (first
    | (have _ := HB2; go_at_call 148; refine (cL2.out _ HB2.out).mono ?_; rintro e w3 ⟨rfl, hb3⟩; have HB3 : Hid (Below w.heap.size w w3) := HB2.out.trans (hb3.mono HB2.out.size); clear hb3)
    | (go_at_call 148; refine (cL1.out _ HB1.out).mono ?_; rintro e w2 ⟨rfl, hb2⟩; have HB2 : Hid (Below w.heap.size w w2) := HB1.out.trans (hb2.mono HB1.out.size); clear hb2)
    | (go_at_call 147; refine Calls.mono cB.out ?_; rintro e w1 ⟨rfl, hb1⟩; have HB1 : Hid (Below w.heap.size w w1) := hb1; clear hb1)
    | fail)
  go_ret2
  exact ⟨rfl, HB3.out⟩
end Go.Proofs.YtldhbjmillfjgabGreatDoor

namespace Go.Proofs.YtldhbjmillfjgabGreatDoor
open Go.RowKit
set_option linter.unusedVariables false
attribute [local go_sem] Oper.semAt_some

set_option maxRecDepth 100000 in
set_option maxHeartbeats 8000000 in
theorem refTrans_trueN (v1 v2 : Value) (a b : List Pt) (w : World) (h1 : opAt w v1 a) (h2 : opAt w v2 b) (w1 : ∀ p ∈ a, wfP p) (w2 : ∀ p ∈ b, wfP p) (s1 : ∀ p ∈ a, p.put.length < 100000000) (s2 : ∀ p ∈ b, p.put.length < 100000000) (f1 : fineP a) (f2 : fineP b) (he : bothE a b = 0) (hl : (lensW b).1 = (lensW a).1) :
    Calls Tryz.prog 101 #[v1, v2, .bool true] w fun e w' => ∃ v', e = .returned (.tuple #[v', .int .i64 0]) ∧ opN w.heap.size w' v' (normP (outJ true (spreads (normP a)) (spreads (normP b)) ((spreads (normP a)).1.length + 1))) ∧ Below w.heap.size w w' := by
  have cB : Hid _ := refBoth_any v1 v2 a b w h1 h2 w1 w2 s1 s2 f1.len f2.len
  rw [he] at cB
  have cL1 : Hid (∀ wx, Below w.heap.size w wx → Calls Tryz.prog 148 #[v1] wx fun e w' => e = .returned (.tuple #[.int .i64 (lensW a).1, .int .i64 (lensW a).2]) ∧ Below wx.heap.size wx w') := fun wx hb => refLens_any v1 a wx (opAt_grown h1 hb) f1.len
  have cL2 : Hid (∀ wx, Below w.heap.size w wx → Calls Tryz.prog 148 #[v2] wx fun e w' => e = .returned (.tuple #[.int .i64 (lensW b).1, .int .i64 (lensW b).2]) ∧ Below wx.heap.size wx w') := fun wx hb => refLens_any v2 b wx (opAt_grown h2 hb) f2.len
  obtain ⟨n1, n2, n3, n4⟩ := fine_norm f1
  obtain ⟨m1, m2, m3, m4⟩ := fine_norm f2
  have sn1 := ones_sound fun p hp => (n1 p hp).1
  have sm1 := ones_sound fun p hp => (m1 p hp).1
  have hwn : wts (normP a) < 10000000 := by rw [norm_wts a (ones_sound f1.one)]; have := f1.w; omega
  have hwm : wts (normP b) < 10000000 := by rw [norm_wts b (ones_sound f2.one)]; have := f2.w; omega
  have hln : (normP a).length < 10000000 := by
    have := weight_wts _ fun p hp => (n1 p hp).1
    have key : ∀ (l : List Pt), (∀ p ∈ l, oneP p) → l.length ≤ weight l := by
      intro l
      induction l with
      | nil => intro _; simp
      | cons p l ih => intro h; have h1 := length_pos (h p (by simp)); have h2 := ih fun q hq => h q (by simp [hq]); rw [weight_cons, List.length_cons]; omega
    have := key _ fun p hp => (n1 p hp).1
    omega
  have hlm : (normP b).length < 10000000 := by
    have key : ∀ (l : List Pt), (∀ p ∈ l, oneP p) → l.length ≤ weight l := by
      intro l
      induction l with
      | nil => intro _; simp
      | cons p l ih => intro h; have h1 := length_pos (h p (by simp)); have h2 := ih fun q hq => h q (by simp [hq]); rw [weight_cons, List.length_cons]; omega
    have := key _ fun p hp => (m1 p hp).1
    omega
  have hA1 : (lensW a).1 = ((spreads (normP a)).1.length : Int) := by
    rw [(fine_lens f1).1, ← n3, ← lensU_long _ sn1, spreads_eq]; rfl
  have hB1 : (lensW b).1 = ((spreads (normP b)).1.length : Int) := by
    rw [(fine_lens f2).1, ← m3, ← lensU_long _ sm1, spreads_eq]; rfl
  have hnn : (spreads (normP b)).1.length = (spreads (normP a)).1.length := by omega
  have hn9 : (spreads (normP a)).1.length < 3000000 := by
    have h8 := (lens_plain (normP a) sn1 (by omega)).2.2.1
    rw [norm_wts a (ones_sound f1.one)] at h8
    have := f1.w
    omega
  have cS1 : Hid (∀ wx, Below w.heap.size w wx → _) := fun wx (hb : Below w.heap.size w wx) => refNorm_any v1 a wx (opAt_grown h1 hb) (ones_sound f1.one) (by have := f1.w; omega) f1.len
  have cS3 : Hid (∀ wx, Below w.heap.size w wx → _) := fun wx (hb : Below w.heap.size w wx) => refNorm_any v2 b wx (opAt_grown h2 hb) (ones_sound f2.one) (by have := f2.w; omega) f2.len
  have cS2 : Hid (∀ (v' : Value) wx, opAt wx v' (normP a) → _) := fun v' wx (ho : opAt wx v' (normP a)) => Spread_any v' (normP a) wx ho sn1 hwn hln _ rfl
  have cS4 : Hid (∀ (v' : Value) wx, opAt wx v' (normP b) → _) := fun v' wx (ho : opAt wx v' (normP b)) => Spread_any v' (normP b) wx ho sm1 hwm hlm _ hnn
  have hSm : ∀ p ∈ outJ true (spreads (normP a)) (spreads (normP b)) ((spreads (normP a)).1.length + 1), soundP p := outJ_sound _ _ _ _
  have hWt : wts (outJ true (spreads (normP a)) (spreads (normP b)) ((spreads (normP a)).1.length + 1)) < 10000000 := by
    have e1 := putsK_spreads (normP a) sn1
    have e2 := putsK_spreads (normP b) sm1
    have e3 := outJ_wts true (spreads (normP a)) (spreads (normP b)) ((spreads (normP a)).1.length + 1)
    have e4 := norm_wts a (ones_sound f1.one)
    have e5 := norm_wts b (ones_sound f2.one)
    have e6 := f1.w
    have e7 := f2.w
    have e8 := (lens_plain (normP a) sn1 (by omega)).2.2.1
    omega
  obtain ⟨x, hx⟩ : ∃ x, spreads (normP a) = x := ⟨_, rfl⟩
  obtain ⟨y, hy⟩ : ∃ y, spreads (normP b) = y := ⟨_, rfl⟩
  rw [hx] at hA1 hnn hn9 cS2 hSm hWt ⊢
  rw [hy] at hB1 hnn cS4 hSm hWt ⊢
  rw [hx] at cS4
  obtain ⟨n, hn⟩ : ∃ n, x.1.length = n := ⟨_, rfl⟩
  rw [hn] at hA1 hnn hn9 cS2 cS4 hSm hWt ⊢
  rw [hl] at cL2
  have hN : (lensW a).1 = (n : Int) := hA1
  generalize (lensW a).1 = N at cL1 cL2 hN
  have HN : Hid (N = (n : Int)) := hN
  have hN1 : 0 ≤ N := by omega
  have hN2 : N < 3000000 := by omega
  clear hN
  have HXL : Hid (x.1.length = n) := hn
  have HYL : Hid (y.1.length = n) := hnn
  have HSm : Hid _ := hSm
  have HWt : Hid _ := hWt
  clear hl hA1
  generalize (lensW a).2 = A2 at *
  generalize (lensW b).2 = B2 at *
  obtain ⟨p1, c1, rfl, _⟩ := h1
  obtain ⟨p2, c2, rfl, _⟩ := h2
  clear w1 w2 s1 s2 f1 f2 he hB1 hnn hn hSm hWt n1 n2 n3 n4 m1 m2 m3 m4 sn1 sm1 hwn hwm hln hlm hx hy
  obtain ⟨na, hna⟩ : ∃ l, normP a = l := ⟨_, rfl⟩
  obtain ⟨nb, hnb⟩ : ∃ l, normP b = l := ⟨_, rfl⟩
  rw [hna] at cS1 cS2
  rw [hnb] at cS3 cS4
  clear hna hnb
  obtain ⟨LF, hLF⟩ : ∃ l, outJ true x y (n + 1) = l := ⟨_, rfl⟩
  rw [hLF] at HSm HWt ⊢
  have HLF : Hid (outJ true x y (n + 1) = LF) := hLF
  clear hLF
  go_enter Tryz.func101, Tryz.ntmps101
  go_wp2_with (first
    | (have _ := HO6; go_at_call 152; refine (cS4.out _ _ (opAt_own HO6.out)).mono ?_; rintro e w9 ⟨gy1, gy2, rfl, o1, o2, hb⟩; have HY1 : Hid (w9.ownsRow w8.heap.size 9 1 (.slice (some ⟨gy1, 0, none⟩) (n + 1) (n + 1)) (n + 1) ((strsP n y).map strV)) := o1; have HY2 : Hid (w9.ownsRow w8.heap.size 4 1 (.slice (some ⟨gy2, 0, none⟩) n n) n ((boolsP n y).map Value.bool)) := o2; have HB89 : Hid (Below w8.heap.size w8 w9) := hb; clear o1 o2 hb)
    | (have _ := HG7; go_at_call 149; refine Calls.mono HG7.out ?_; rintro e w8 ⟨v8, rfl, o8, hb8⟩; have HO6 : Hid (w8.ownsRow w7.heap.size 50 3 v8 nb.length (cellsP nb)) := o8; have HB8 : Hid (Below w.heap.size w w8) := HB7.out.trans (hb8.mono HB7.out.size); have HB68 : Hid (Below w6.heap.size w6 w8) := HB67.out.trans (hb8.mono HB67.out.size); obtain ⟨p8, c8, rfl⟩ := own_slice o8; clear o8 hb8)
    | (have _ := HX1; go_at_call 152; refine (cS3.out _ HB6.out).mono ?_; rintro e w7 ⟨g7, rfl, hb7, hc7⟩; have HG7 : Hid _ := hc7; have HB7 : Hid (Below w.heap.size w w7) := HB6.out.trans (hb7.mono HB6.out.size); have HB67 : Hid (Below w6.heap.size w6 w7) := hb7; clear hb7 hc7)
    | (have _ := HO5; go_at_call 152; refine (cS2.out _ _ (opAt_own HO5.out)).mono ?_; rintro e w6 ⟨gx1, gx2, rfl, o1, o2, hb⟩; have HX1 : Hid (w6.ownsRow w5.heap.size 9 1 (.slice (some ⟨gx1, 0, none⟩) (n + 1) (n + 1)) (n + 1) ((strsP n x).map strV)) := o1; have HX2 : Hid (w6.ownsRow w5.heap.size 4 1 (.slice (some ⟨gx2, 0, none⟩) n n) n ((boolsP n x).map Value.bool)) := o2; have HB6 : Hid (Below w.heap.size w w6) := HB5.out.trans (hb.mono HB5.out.size); clear o1 o2 hb)
    | (have _ := HG4; go_at_call 149; refine Calls.mono HG4.out ?_; rintro e w5 ⟨v5, rfl, o5, hb5⟩; have HO5 : Hid (w5.ownsRow w4.heap.size 50 3 v5 na.length (cellsP na)) := o5; have HB5 : Hid (Below w.heap.size w w5) := HB4.out.trans (hb5.mono HB4.out.size); obtain ⟨p5, c5, rfl⟩ := own_slice o5; clear o5 hb5)
    | (have _ := HB3; go_at_call 152; refine (cS1.out _ HB3.out).mono ?_; rintro e w4 ⟨g4, rfl, hb4, hc4⟩; have HG4 : Hid _ := hc4; have HB4 : Hid (Below w.heap.size w w4) := HB3.out.trans (hb4.mono HB3.out.size); clear hb4 hc4)
    | (have _ := HB2; go_at_call 148; refine (cL2.out _ HB2.out).mono ?_; rintro e w3 ⟨rfl, hb3⟩; have HB3 : Hid (Below w.heap.size w w3) := HB2.out.trans (hb3.mono HB2.out.size); clear hb3)
    | (have _ := HB1; go_at_call 148; refine (cL1.out _ HB1.out).mono ?_; rintro e w2 ⟨rfl, hb2⟩; have HB2 : Hid (Below w.heap.size w w2) := HB1.out.trans (hb2.mono HB1.out.size); clear hb2)
    | (go_at_call 147; refine Calls.mono cB.out ?_; rintro e w1 ⟨rfl, hb1⟩; have HB1 : Hid (Below w.heap.size w w1) := hb1; clear hb1)
    | fail)
  obtain ⟨W0, hW0⟩ : ∃ W0, W0 = (((w9.alloc (.cells #[.slice (some ⟨gx1, 0, none⟩) (n + 1) (n + 1), .slice (some ⟨gx2, 0, none⟩) n n] 252)).alloc (.cells #[.slice (some ⟨gy1, 0, none⟩) (n + 1) (n + 1), .slice (some ⟨gy2, 0, none⟩) n n] 252)).alloc (.cells #[.slice none 0 0] 23)) := ⟨_, rfl⟩
  rw [← hW0]
  have hb90 : Below w9.heap.size w9 W0 := by rw [hW0]; exact (((Below.refl _ _).alloc (Nat.le_refl _) _).alloc (by simp) _).alloc (by simp; omega) _
  have hs0 : W0.heap.size = w9.heap.size + 1 + 1 + 1 := by rw [hW0]; simp
  have hb69 : Below w6.heap.size w6 W0 := (HB68.out.trans (HB89.out.mono HB68.out.size)).trans (hb90.mono (Nat.le_trans HB68.out.size HB89.out.size))
  have hb80 : Below w9.heap.size w9 W0 := hb90
  have HGP : Hid (gapsAt W0 w9.heap.size gx1 gx2 gy1 gy2 n x y) := rows_gaps HXL.out HYL.out HX1.out HX2.out HY1.out HY2.out hb69 hb90 (Nat.le_trans HB68.out.size HB89.out.size) (Nat.le_refl _)
    (by rw [hW0]; simp [go_sem]) (by rw [hW0]; simp [go_sem]) (by rw [hW0]; simp [go_sem]) (by rw [hW0]; simp [go_sem])
  have HBW : Hid (Below w.heap.size w W0) := (HB8.out.trans (HB89.out.mono HB8.out.size)).trans (hb90.mono (Nat.le_trans HB8.out.size HB89.out.size))
  have HSZ : Hid (w.heap.size ≤ w9.heap.size) := Nat.le_trans HB8.out.size HB89.out.size
  have hst : trR true x y n (w9.heap.size + 1 + 1) W0 (n + 1) (.int .i64 0) W0 := by
    refine ⟨0, rfl, by omega, ⟨⟨none, 0, ?_, ?_⟩, ?_⟩, .refl _ _⟩
    · have e : outJ true x y 0 = [] := by simp [outJ]
      rw [e, hW0]; simp [go_sem]
    · have e : outJ true x y 0 = [] := by simp [outJ]
      rw [e]; exact World.ownsRow_nil _ _ _ _
    · rw [hW0]; simp [go_sem]
  have HST : Hid (trR true x y n (w9.heap.size + 1 + 1) W0 (n + 1) (.int .i64 0) W0) := hst
  clear hst hW0 hb90 hs0 hb69 hb80 HB1 HB2 HB3 HG4 HB4 HO5 HB5 HX1 HX2 HB6 HG7 HB7 HB67 HO6 HB8 HB68 HY1 HY2 HB89 cB cL1 cL2 cS1 cS2 cS3 cS4
  go_loopg [50] (n + 1) (fun k i wr => trR true x y n (w9.heap.size + 1 + 1) W0 k i wr)
  case atStart => exact HST.out
  case round =>
    obtain ⟨j, rfl, hjk, ho, hb⟩ := hrel
    have HOR : Hid (outAt wr (w9.heap.size + 1 + 1) (outJ true x y j)) := ho
    have HBR : Hid (Below (w9.heap.size + 1 + 1) W0 wr) := hb
    have hlen := outJ_len true x y j
    clear HST ho hb
    rcases Nat.lt_or_ge n j with hj | hj
    · obtain rfl : gk = 0 := by omega
      obtain rfl : j = n + 1 := by omega
      rw [HLF.out] at HOR hlen
      have ho := HOR.out
      obtain ⟨⟨pL, cL, k1, k2⟩, k3⟩ := ho
      have CS : Hid _ := refNorm_any _ LF wr (opAt_own k2) HSm.out HWt.out (by omega)
      have HLT : Hid (w9.heap.size + 1 + 1 < wr.heap.size) := outAt_lt HOR.out
      have hNn := HN.out
      have hjn : ¬ (((n + 1 : Nat) : Int) < N + 1) := by omega
      clear hj hjk hlen k2 hNn
      go_wp2_with (first
        | (go_at_call 152; refine Calls.mono CS.out ?_; rintro e w2 ⟨g2, rfl, hb2, hc2⟩; have HC2 : Hid _ := hc2; have HB2 : Hid (Below wr.heap.size wr w2) := hb2; clear hb2 hc2)
        | (have _ := HC2; go_at_call 149; refine Calls.mono HC2.out ?_; rintro e w3 ⟨v3, rfl, o3, hb3⟩)
        | fail)
      obtain ⟨p3, c3, rfl⟩ := own_slice o3
      go_ret2
      have hB := HBW.out.trans (HBR.out.mono (show w.heap.size ≤ w9.heap.size + 1 + 1 by have := HSZ.out; omega))
      exact ⟨_, rfl, opN_own (Nat.le_trans hB.size HB2.out.size) o3, (hB.trans (HB2.out.mono hB.size)).trans (hb3.mono (Nat.le_trans hB.size HB2.out.size))⟩
    rcases Nat.lt_or_ge j n with hj2 | hj2
    rotate_left
    · obtain rfl : j = n := by omega
      obtain rfl : gk = 1 := by omega
      have hstep : outJ true x y (j + 1) = outJ true x y j ++ (putO x.2 ++ keepO y.2.length) := by
        have := outJ_last (first := true) (HXL.out.trans HYL.out.symm)
        rw [HXL.out] at this
        exact this
      obtain ⟨L, hL⟩ : ∃ L, outJ true x y j = L := ⟨_, rfl⟩
      rw [hL] at HOR hlen hstep
      have GPwr : Hid (gapsAt wr w9.heap.size gx1 gx2 gy1 gy2 j x y) := gapsAt_below HGP.out HBR.out (Nat.le_refl _)
      have fa0wr := GPwr.out.a0
      have fb0wr := GPwr.out.b0
      have fxwr := GPwr.out.x2
      have fywr := GPwr.out.y2
      have HXE : Hid (gapsAt W0 w9.heap.size gx1 gx2 gy1 gy2 j x y) := HGP.out
      obtain ⟨U, hU⟩ : ∃ U, x.2 = U := ⟨_, rfl⟩
      obtain ⟨V, hV⟩ : ∃ V, y.2 = V := ⟨_, rfl⟩
      rw [hU] at hstep fxwr
      rw [hV] at hstep fywr
      have HU : Hid (x.2 = U) := hU
      have HV : Hid (y.2 = V) := hV
      have hzv : (ByteArray.mk V.toArray).size = V.length := by simp [ByteArray.size]
      have cP : Hid (∀ W l, outAt W (w9.heap.size + 1 + 1) l → l.length < 1000000000 → Calls Tryz.prog 154 #[.string ⟨U.toArray⟩, .pointer (some ⟨w9.heap.size + 1 + 1, 0, none⟩)] W fun e w' => (∃ v, e = .returned v) ∧ outAt w' (w9.heap.size + 1 + 1) (l ++ putO U) ∧ Below (w9.heap.size + 1 + 1) W w') := fun W l h hl => tPut_any _ l U W h hl
      have cK : Hid (∀ W l, outAt W (w9.heap.size + 1 + 1) l → l.length < 1000000000 → Calls Tryz.prog 153 #[.int .i64 (V.length : Int), .pointer (some ⟨w9.heap.size + 1 + 1, 0, none⟩)] W fun e w' => (∃ v, e = .returned v) ∧ outAt w' (w9.heap.size + 1 + 1) (l ++ keepO V.length) ∧ Below (w9.heap.size + 1 + 1) W w') := fun W l h hl => tKeep_any _ l V.length W h hl
      have HSTEP : Hid (outJ true x y (j + 1) = (L ++ putO U) ++ keepO V.length) := by rw [List.append_assoc]; exact hstep
      have hpk : (putO U).length ≤ 1 ∧ (keepO V.length).length ≤ 1 := ⟨by unfold putO; split <;> simp, by unfold keepO; split <;> simp⟩
      have HL0 : Hid (L.length < 1000000000) := show L.length < 1000000000 by omega
      have HL1 : Hid ((L ++ putO U).length < 1000000000) := show (L ++ putO U).length < 1000000000 by rw [List.length_append]; omega
      have hNn := HN.out
      have hjn : (j : Int) < N + 1 := by omega
      have hjd : (j : Int) = N := by omega
      clear hNn
      subst hjd
      have hj9 : (j : Int) < 10000000 := by omega
      clear hL hstep hU hV hpk hjk hlen hj hj2
      go_wp2_with (first
        | (have _ := HO1; go_at_call 153; refine (cK.out _ _ HO1.out HL1.out).mono ?_; rintro e w2 ⟨⟨v2, rfl⟩, ho2, hb2⟩; have HO2 : Hid (outAt w2 (w9.heap.size + 1 + 1) ((L ++ putO U) ++ keepO V.length)) := ho2; have HB2 : Hid (Below (w9.heap.size + 1 + 1) W0 w2) := HB1.out.trans hb2; have GPw2 : Hid (gapsAt w2 w9.heap.size gx1 gx2 gy1 gy2 j x y) := gapsAt_below HGP.out HB2.out (Nat.le_refl _); have fa0w2 := GPw2.out.a0; have fb0w2 := GPw2.out.b0; have fxw2 := GPw2.out.x2; rw [HU.out] at fxw2; have fyw2 := GPw2.out.y2; rw [HV.out] at fyw2; clear ho2 hb2)
        | (go_at_call 154; refine (cP.out _ _ HOR.out HL0.out).mono ?_; rintro e w1 ⟨⟨v1, rfl⟩, ho1, hb1⟩; have HO1 : Hid (outAt w1 (w9.heap.size + 1 + 1) (L ++ putO U)) := ho1; have HB1 : Hid (Below (w9.heap.size + 1 + 1) W0 w1) := HBR.out.trans hb1; have GPw1 : Hid (gapsAt w1 w9.heap.size gx1 gx2 gy1 gy2 j x y) := gapsAt_below HGP.out HB1.out (Nat.le_refl _); have fa0w1 := GPw1.out.a0; have fb0w1 := GPw1.out.b0; have fxw1 := GPw1.out.x2; rw [HU.out] at fxw1; have fyw1 := GPw1.out.y2; rw [HV.out] at fyw1; clear ho1 hb1)
        | fail)
      go_roundg 0
      case measure => omega
      case rel => exact ⟨j + 1, by go_num, by omega, by rw [HSTEP.out]; exact HO2.out, HB2.out⟩
    · obtain ⟨⟨u, d⟩, hxj⟩ : ∃ z, x.1[j]? = some z := ⟨_, List.getElem?_eq_getElem (by rw [HXL.out]; exact hj2)⟩
      obtain ⟨⟨v, e⟩, hyj⟩ : ∃ z, y.1[j]? = some z := ⟨_, List.getElem?_eq_getElem (by rw [HYL.out]; exact hj2)⟩
      have HXJ : Hid (x.1[j]? = some (u, d)) := hxj
      have HYJ : Hid (y.1[j]? = some (v, e)) := hyj
      have hstep : outJ true x y (j + 1) = outJ true x y j ++ ((putO u ++ keepO v.length) ++ unitO e d) := outJ_step (first := true) (HXL.out.trans HYL.out.symm) (by rw [HXL.out]; exact hj2) hxj hyj
      obtain ⟨L, hL⟩ : ∃ L, outJ true x y j = L := ⟨_, rfl⟩
      rw [hL] at HOR hlen hstep
      have GPwr : Hid (gapsAt wr w9.heap.size gx1 gx2 gy1 gy2 n x y) := gapsAt_below HGP.out HBR.out (Nat.le_refl _)
      have fa0wr := GPwr.out.a0
      have fa1wr := GPwr.out.a1
      have fb0wr := GPwr.out.b0
      have fb1wr := GPwr.out.b1
      have fxwr := (GPwr.out.x1 _ _ _ HXJ.out).1
      have fxdwr := (GPwr.out.x1 _ _ _ HXJ.out).2
      have fywr := (GPwr.out.y1 _ _ _ HYJ.out).1
      have fydwr := (GPwr.out.y1 _ _ _ HYJ.out).2
      have hzv : (ByteArray.mk v.toArray).size = v.length := by simp [ByteArray.size]
      have cP : Hid (∀ W l, outAt W (w9.heap.size + 1 + 1) l → l.length < 1000000000 → Calls Tryz.prog 154 #[.string ⟨u.toArray⟩, .pointer (some ⟨w9.heap.size + 1 + 1, 0, none⟩)] W fun e w' => (∃ v, e = .returned v) ∧ outAt w' (w9.heap.size + 1 + 1) (l ++ putO u) ∧ Below (w9.heap.size + 1 + 1) W w') := fun W l h hl => tPut_any _ l u W h hl
      have cK : Hid (∀ W l, outAt W (w9.heap.size + 1 + 1) l → l.length < 1000000000 → Calls Tryz.prog 153 #[.int .i64 (v.length : Int), .pointer (some ⟨w9.heap.size + 1 + 1, 0, none⟩)] W fun e w' => (∃ v, e = .returned v) ∧ outAt w' (w9.heap.size + 1 + 1) (l ++ keepO v.length) ∧ Below (w9.heap.size + 1 + 1) W w') := fun W l h hl => tKeep_any _ l v.length W h hl
      have cU : Hid (∀ W l, outAt W (w9.heap.size + 1 + 1) l → l.length < 1000000000 → Calls Tryz.prog 153 #[.int .i64 1, .pointer (some ⟨w9.heap.size + 1 + 1, 0, none⟩)] W fun e w' => (∃ v, e = .returned v) ∧ outAt w' (w9.heap.size + 1 + 1) (l ++ [⟨1, 0, []⟩]) ∧ Below (w9.heap.size + 1 + 1) W w') := fun W l h hl => tKeep_any _ l 1 W h hl
      have HSTEP : Hid (outJ true x y (j + 1) = ((L ++ putO u) ++ keepO v.length) ++ unitO e d) := by rw [List.append_assoc L, List.append_assoc L]; exact hstep
      have hpk : (putO u).length ≤ 1 ∧ (keepO v.length).length ≤ 1 := ⟨by unfold putO; split <;> simp, by unfold keepO; split <;> simp⟩
      have HL0 : Hid (L.length < 1000000000) := show L.length < 1000000000 by omega
      have HL1 : Hid ((L ++ putO u).length < 1000000000) := show (L ++ putO u).length < 1000000000 by rw [List.length_append]; omega
      have HL2' : ((L ++ putO u) ++ keepO v.length).length < 100000000 := by rw [List.length_append, List.length_append]; omega
      obtain ⟨L2, hL2⟩ : ∃ l, (L ++ putO u) ++ keepO v.length = l := ⟨_, rfl⟩
      rw [hL2] at HSTEP HL2'
      have HL2 : Hid (L2.length < 100000000) := HL2'
      have HE2 : Hid ((L ++ putO u) ++ keepO v.length = L2) := hL2
      clear HL2' hL2
      have hjn2 : (j : Int) < (n : Int) := by omega
      have hNn := HN.out
      have hjn : (j : Int) < N + 1 := by omega
      have hjd : ((j : Int) == N) = false := beq_eq_false_iff_ne.2 (by omega)
      clear hNn
      have hj9 : (j : Int) < 10000000 := by omega
      obtain ⟨k, rfl⟩ : ∃ k, gk = k + 1 := ⟨gk - 1, by omega⟩
      have HJK : Hid (j + (k + 1) = n + 1) := hjk
      clear hL hstep hpk hjk hlen hj hj2 hxj hyj
      cases e with
      | true =>
        go_wp2_with (first
          | (have _ := HO1; go_at_call 153; refine (cK.out _ _ HO1.out HL1.out).mono ?_; rintro e w2 ⟨⟨v2, rfl⟩, ho2, hb2⟩; have HO2 : Hid (outAt w2 (w9.heap.size + 1 + 1) L2) := (by rw [← HE2.out]; exact ho2); have HB2 : Hid (Below (w9.heap.size + 1 + 1) W0 w2) := HB1.out.trans hb2; have GPw2 : Hid (gapsAt w2 w9.heap.size gx1 gx2 gy1 gy2 n x y) := gapsAt_below HGP.out HB2.out (Nat.le_refl _); have fa0w2 := GPw2.out.a0; have fa1w2 := GPw2.out.a1; have fb0w2 := GPw2.out.b0; have fb1w2 := GPw2.out.b1; have fxw2 := (GPw2.out.x1 _ _ _ HXJ.out).1; have fxdw2 := (GPw2.out.x1 _ _ _ HXJ.out).2; have fyw2 := (GPw2.out.y1 _ _ _ HYJ.out).1; have fydw2 := (GPw2.out.y1 _ _ _ HYJ.out).2; clear ho2 hb2)
          | (go_at_call 154; refine (cP.out _ _ HOR.out HL0.out).mono ?_; rintro e w1 ⟨⟨v1, rfl⟩, ho1, hb1⟩; have HO1 : Hid (outAt w1 (w9.heap.size + 1 + 1) (L ++ putO u)) := ho1; have HB1 : Hid (Below (w9.heap.size + 1 + 1) W0 w1) := HBR.out.trans hb1; have GPw1 : Hid (gapsAt w1 w9.heap.size gx1 gx2 gy1 gy2 n x y) := gapsAt_below HGP.out HB1.out (Nat.le_refl _); have fa0w1 := GPw1.out.a0; have fa1w1 := GPw1.out.a1; have fb0w1 := GPw1.out.b0; have fb1w1 := GPw1.out.b1; have fxw1 := (GPw1.out.x1 _ _ _ HXJ.out).1; have fxdw1 := (GPw1.out.x1 _ _ _ HXJ.out).2; have fyw1 := (GPw1.out.y1 _ _ _ HYJ.out).1; have fydw1 := (GPw1.out.y1 _ _ _ HYJ.out).2; clear ho1 hb1)
          | fail)
        go_roundg k
        case measure => omega
        case rel => exact ⟨j + 1, by go_num, by have := HJK.out; omega, by rw [HSTEP.out]; exact (List.append_nil _).symm ▸ HO2.out, HB2.out⟩
      | false =>
        cases d with
        | false =>
          go_wp2_with (first
            | (have _ := HO2; go_at_call 153; refine (cU.out _ _ HO2.out (Nat.lt_trans HL2.out (by decide))).mono ?_; rintro e w3 ⟨⟨v3, rfl⟩, ho3, hb3⟩)
            | (have _ := HO1; go_at_call 153; refine (cK.out _ _ HO1.out HL1.out).mono ?_; rintro e w2 ⟨⟨v2, rfl⟩, ho2, hb2⟩; have HO2 : Hid (outAt w2 (w9.heap.size + 1 + 1) L2) := (by rw [← HE2.out]; exact ho2); have HB2 : Hid (Below (w9.heap.size + 1 + 1) W0 w2) := HB1.out.trans hb2; have GPw2 : Hid (gapsAt w2 w9.heap.size gx1 gx2 gy1 gy2 n x y) := gapsAt_below HGP.out HB2.out (Nat.le_refl _); have fa0w2 := GPw2.out.a0; have fa1w2 := GPw2.out.a1; have fb0w2 := GPw2.out.b0; have fb1w2 := GPw2.out.b1; have fxw2 := (GPw2.out.x1 _ _ _ HXJ.out).1; have fxdw2 := (GPw2.out.x1 _ _ _ HXJ.out).2; have fyw2 := (GPw2.out.y1 _ _ _ HYJ.out).1; have fydw2 := (GPw2.out.y1 _ _ _ HYJ.out).2; clear ho2 hb2)
            | (go_at_call 154; refine (cP.out _ _ HOR.out HL0.out).mono ?_; rintro e w1 ⟨⟨v1, rfl⟩, ho1, hb1⟩; have HO1 : Hid (outAt w1 (w9.heap.size + 1 + 1) (L ++ putO u)) := ho1; have HB1 : Hid (Below (w9.heap.size + 1 + 1) W0 w1) := HBR.out.trans hb1; have GPw1 : Hid (gapsAt w1 w9.heap.size gx1 gx2 gy1 gy2 n x y) := gapsAt_below HGP.out HB1.out (Nat.le_refl _); have fa0w1 := GPw1.out.a0; have fa1w1 := GPw1.out.a1; have fb0w1 := GPw1.out.b0; have fb1w1 := GPw1.out.b1; have fxw1 := (GPw1.out.x1 _ _ _ HXJ.out).1; have fxdw1 := (GPw1.out.x1 _ _ _ HXJ.out).2; have fyw1 := (GPw1.out.y1 _ _ _ HYJ.out).1; have fydw1 := (GPw1.out.y1 _ _ _ HYJ.out).2; clear ho1 hb1)
            | fail)
          go_roundg k
          case measure => omega
          case rel => exact ⟨j + 1, by go_num, by have := HJK.out; omega, by rw [HSTEP.out]; exact ho3, HB2.out.trans hb3⟩
        | true =>
          go_upto_region 22 with (first
            | (have _ := HO1; go_at_call 153; refine (cK.out _ _ HO1.out HL1.out).mono ?_; rintro e w2 ⟨⟨v2, rfl⟩, ho2, hb2⟩; have HO2 : Hid (outAt w2 (w9.heap.size + 1 + 1) L2) := (by rw [← HE2.out]; exact ho2); have HB2 : Hid (Below (w9.heap.size + 1 + 1) W0 w2) := HB1.out.trans hb2; have GPw2 : Hid (gapsAt w2 w9.heap.size gx1 gx2 gy1 gy2 n x y) := gapsAt_below HGP.out HB2.out (Nat.le_refl _); have fa0w2 := GPw2.out.a0; have fa1w2 := GPw2.out.a1; have fb0w2 := GPw2.out.b0; have fb1w2 := GPw2.out.b1; have fxw2 := (GPw2.out.x1 _ _ _ HXJ.out).1; have fxdw2 := (GPw2.out.x1 _ _ _ HXJ.out).2; have fyw2 := (GPw2.out.y1 _ _ _ HYJ.out).1; have fydw2 := (GPw2.out.y1 _ _ _ HYJ.out).2; clear ho2 hb2; have ho2' := HO2.out; obtain ⟨⟨pq, cq, kq1, kq2⟩, kq3⟩ := ho2'; have HRW : Hid (w2.ownsRow (w9.heap.size + 1 + 1 + 1) 50 3 (.slice pq L2.length cq) L2.length (cellsP L2)) := kq2; have HCQ : Hid (w2.cell? ⟨w9.heap.size + 1 + 1, 0, none⟩ = some (.slice pq L2.length cq)) := kq1; have HQ2 : Hid (w9.heap.size + 1 + 1 < w2.heap.size) := outAt_lt HO2.out; have HQ3 : Hid (w2.frozen? ⟨w9.heap.size + 1 + 1, 0, none⟩ = false) := kq3; clear kq1 kq2 kq3)
            | (go_at_call 154; refine (cP.out _ _ HOR.out HL0.out).mono ?_; rintro e w1 ⟨⟨v1, rfl⟩, ho1, hb1⟩; have HO1 : Hid (outAt w1 (w9.heap.size + 1 + 1) (L ++ putO u)) := ho1; have HB1 : Hid (Below (w9.heap.size + 1 + 1) W0 w1) := HBR.out.trans hb1; have GPw1 : Hid (gapsAt w1 w9.heap.size gx1 gx2 gy1 gy2 n x y) := gapsAt_below HGP.out HB1.out (Nat.le_refl _); have fa0w1 := GPw1.out.a0; have fa1w1 := GPw1.out.a1; have fb0w1 := GPw1.out.b0; have fb1w1 := GPw1.out.b1; have fxw1 := (GPw1.out.x1 _ _ _ HXJ.out).1; have fxdw1 := (GPw1.out.x1 _ _ _ HXJ.out).2; have fyw1 := (GPw1.out.y1 _ _ _ HYJ.out).1; have fydw1 := (GPw1.out.y1 _ _ _ HYJ.out).2; clear ho1 hb1)
            | fail)
          obtain ⟨i0, hi, hz0, hz1, hz2⟩ := info_parts info_part
          have kq1 := HCQ.out
          have kq3 := HQ3.out
          have hq2 := HQ2.out
          go_wp2_with (first
            | (have _ := HO2; at_builtin; refine wpList_append_own _ rfl _ _ 23 rfl (w9.heap.size + 1 + 1 + 1) 50 i0 (.agg #[.int .i64 0, .int .i64 0, .string ⟨#[]⟩]) 3 32 Tryz.underlying23 hi hz0 hz1 hz2 rfl (by decide) _ _ _ rfl (HRW.out.alloc _) ⟨w2.heap.size, 0, none⟩ 1 1 (partCells ⟨0, 1, []⟩) rfl rfl (cells_new _ _ _) (partCells_one _) (by have := HL2.out; unfold maxLen; omega) (by have := HL2.out; omega) (by first | omega | (simp; omega)) ?_)
            | fail)
          intro v3 w3 hown3 hg3 _
          have P3 := outAt_push (q := ⟨0, 1, []⟩) HO2.out HCQ.out hown3 hg3
          obtain ⟨p3, q3, hv3⟩ := own_slice hown3
          rw [hv3] at P3 hown3 ⊢
          obtain ⟨G3, B3, r1, r2⟩ := P3
          have HG3 : Hid _ := G3
          have HB3 : Hid _ := B3
          clear G3 B3 hown3 hg3 hv3
          go_wp2
          go_roundg k
          case measure => omega
          case rel => exact ⟨j + 1, by go_num, by have := HJK.out; omega, by rw [HSTEP.out]; exact HG3.out, HB2.out.trans HB3.out⟩
theorem refTrans_true (v1 v2 : Value) (a b : List Pt) (w : World) (h1 : opAt w v1 a) (h2 : opAt w v2 b) (w1 : ∀ p ∈ a, wfP p) (w2 : ∀ p ∈ b, wfP p) (s1 : ∀ p ∈ a, p.put.length < 100000000) (s2 : ∀ p ∈ b, p.put.length < 100000000) (f1 : fineP a) (f2 : fineP b) (he : bothE a b = 0) (hl : (lensW b).1 = (lensW a).1) :
    Calls Tryz.prog 101 #[v1, v2, .bool true] w fun e w' => ∃ v', e = .returned (.tuple #[v', .int .i64 0]) ∧ opAt w' v' (normP (outJ true (spreads (normP a)) (spreads (normP b)) ((spreads (normP a)).1.length + 1))) ∧ Below w.heap.size w w' :=
  (refTrans_trueN v1 v2 a b w h1 h2 w1 w2 s1 s2 f1 f2 he hl).mono fun e w' ⟨v', q1, q2, q3⟩ => ⟨v', q1, q2.1, q3⟩
end Go.Proofs.YtldhbjmillfjgabGreatDoor

namespace Go.Proofs.YtldhbjmillfjgabGreatDoor
open Go.RowKit
set_option linter.unusedVariables false
attribute [local go_sem] Oper.semAt_some

set_option maxRecDepth 100000 in
set_option maxHeartbeats 8000000 in
theorem refTrans_falseN (v1 v2 : Value) (a b : List Pt) (w : World) (h1 : opAt w v1 a) (h2 : opAt w v2 b) (w1 : ∀ p ∈ a, wfP p) (w2 : ∀ p ∈ b, wfP p) (s1 : ∀ p ∈ a, p.put.length < 100000000) (s2 : ∀ p ∈ b, p.put.length < 100000000) (f1 : fineP a) (f2 : fineP b) (he : bothE a b = 0) (hl : (lensW b).1 = (lensW a).1) :
    Calls Tryz.prog 101 #[v1, v2, .bool false] w fun e w' => ∃ v', e = .returned (.tuple #[v', .int .i64 0]) ∧ opN w.heap.size w' v' (normP (outJ false (spreads (normP a)) (spreads (normP b)) ((spreads (normP a)).1.length + 1))) ∧ Below w.heap.size w w' := by
  have cB : Hid _ := refBoth_any v1 v2 a b w h1 h2 w1 w2 s1 s2 f1.len f2.len
  rw [he] at cB
  have cL1 : Hid (∀ wx, Below w.heap.size w wx → Calls Tryz.prog 148 #[v1] wx fun e w' => e = .returned (.tuple #[.int .i64 (lensW a).1, .int .i64 (lensW a).2]) ∧ Below wx.heap.size wx w') := fun wx hb => refLens_any v1 a wx (opAt_grown h1 hb) f1.len
  have cL2 : Hid (∀ wx, Below w.heap.size w wx → Calls Tryz.prog 148 #[v2] wx fun e w' => e = .returned (.tuple #[.int .i64 (lensW b).1, .int .i64 (lensW b).2]) ∧ Below wx.heap.size wx w') := fun wx hb => refLens_any v2 b wx (opAt_grown h2 hb) f2.len
  obtain ⟨n1, n2, n3, n4⟩ := fine_norm f1
  obtain ⟨m1, m2, m3, m4⟩ := fine_norm f2
  have sn1 := ones_sound fun p hp => (n1 p hp).1
  have sm1 := ones_sound fun p hp => (m1 p hp).1
  have hwn : wts (normP a) < 10000000 := by rw [norm_wts a (ones_sound f1.one)]; have := f1.w; omega
  have hwm : wts (normP b) < 10000000 := by rw [norm_wts b (ones_sound f2.one)]; have := f2.w; omega
  have hln : (normP a).length < 10000000 := by
    have := weight_wts _ fun p hp => (n1 p hp).1
    have key : ∀ (l : List Pt), (∀ p ∈ l, oneP p) → l.length ≤ weight l := by
      intro l
      induction l with
      | nil => intro _; simp
      | cons p l ih => intro h; have h1 := length_pos (h p (by simp)); have h2 := ih fun q hq => h q (by simp [hq]); rw [weight_cons, List.length_cons]; omega
    have := key _ fun p hp => (n1 p hp).1
    omega
  have hlm : (normP b).length < 10000000 := by
    have key : ∀ (l : List Pt), (∀ p ∈ l, oneP p) → l.length ≤ weight l := by
      intro l
      induction l with
      | nil => intro _; simp
      | cons p l ih => intro h; have h1 := length_pos (h p (by simp)); have h2 := ih fun q hq => h q (by simp [hq]); rw [weight_cons, List.length_cons]; omega
    have := key _ fun p hp => (m1 p hp).1
    omega
  have hA1 : (lensW a).1 = ((spreads (normP a)).1.length : Int) := by
    rw [(fine_lens f1).1, ← n3, ← lensU_long _ sn1, spreads_eq]; rfl
  have hB1 : (lensW b).1 = ((spreads (normP b)).1.length : Int) := by
    rw [(fine_lens f2).1, ← m3, ← lensU_long _ sm1, spreads_eq]; rfl
  have hnn : (spreads (normP b)).1.length = (spreads (normP a)).1.length := by omega
  have hn9 : (spreads (normP a)).1.length < 3000000 := by
    have h8 := (lens_plain (normP a) sn1 (by omega)).2.2.1
    rw [norm_wts a (ones_sound f1.one)] at h8
    have := f1.w
    omega
  have cS1 : Hid (∀ wx, Below w.heap.size w wx → _) := fun wx (hb : Below w.heap.size w wx) => refNorm_any v1 a wx (opAt_grown h1 hb) (ones_sound f1.one) (by have := f1.w; omega) f1.len
  have cS3 : Hid (∀ wx, Below w.heap.size w wx → _) := fun wx (hb : Below w.heap.size w wx) => refNorm_any v2 b wx (opAt_grown h2 hb) (ones_sound f2.one) (by have := f2.w; omega) f2.len
  have cS2 : Hid (∀ (v' : Value) wx, opAt wx v' (normP a) → _) := fun v' wx (ho : opAt wx v' (normP a)) => Spread_any v' (normP a) wx ho sn1 hwn hln _ rfl
  have cS4 : Hid (∀ (v' : Value) wx, opAt wx v' (normP b) → _) := fun v' wx (ho : opAt wx v' (normP b)) => Spread_any v' (normP b) wx ho sm1 hwm hlm _ hnn
  have hSm : ∀ p ∈ outJ false (spreads (normP a)) (spreads (normP b)) ((spreads (normP a)).1.length + 1), soundP p := outJ_sound _ _ _ _
  have hWt : wts (outJ false (spreads (normP a)) (spreads (normP b)) ((spreads (normP a)).1.length + 1)) < 10000000 := by
    have e1 := putsK_spreads (normP a) sn1
    have e2 := putsK_spreads (normP b) sm1
    have e3 := outJ_wts false (spreads (normP a)) (spreads (normP b)) ((spreads (normP a)).1.length + 1)
    have e4 := norm_wts a (ones_sound f1.one)
    have e5 := norm_wts b (ones_sound f2.one)
    have e6 := f1.w
    have e7 := f2.w
    have e8 := (lens_plain (normP a) sn1 (by omega)).2.2.1
    omega
  obtain ⟨x, hx⟩ : ∃ x, spreads (normP a) = x := ⟨_, rfl⟩
  obtain ⟨y, hy⟩ : ∃ y, spreads (normP b) = y := ⟨_, rfl⟩
  rw [hx] at hA1 hnn hn9 cS2 hSm hWt ⊢
  rw [hy] at hB1 hnn cS4 hSm hWt ⊢
  rw [hx] at cS4
  obtain ⟨n, hn⟩ : ∃ n, x.1.length = n := ⟨_, rfl⟩
  rw [hn] at hA1 hnn hn9 cS2 cS4 hSm hWt ⊢
  rw [hl] at cL2
  have hN : (lensW a).1 = (n : Int) := hA1
  generalize (lensW a).1 = N at cL1 cL2 hN
  have HN : Hid (N = (n : Int)) := hN
  have hN1 : 0 ≤ N := by omega
  have hN2 : N < 3000000 := by omega
  clear hN
  have HXL : Hid (x.1.length = n) := hn
  have HYL : Hid (y.1.length = n) := hnn
  have HSm : Hid _ := hSm
  have HWt : Hid _ := hWt
  clear hl hA1
  generalize (lensW a).2 = A2 at *
  generalize (lensW b).2 = B2 at *
  obtain ⟨p1, c1, rfl, _⟩ := h1
  obtain ⟨p2, c2, rfl, _⟩ := h2
  clear w1 w2 s1 s2 f1 f2 he hB1 hnn hn hSm hWt n1 n2 n3 n4 m1 m2 m3 m4 sn1 sm1 hwn hwm hln hlm hx hy
  obtain ⟨na, hna⟩ : ∃ l, normP a = l := ⟨_, rfl⟩
  obtain ⟨nb, hnb⟩ : ∃ l, normP b = l := ⟨_, rfl⟩
  rw [hna] at cS1 cS2
  rw [hnb] at cS3 cS4
  clear hna hnb
  obtain ⟨LF, hLF⟩ : ∃ l, outJ false x y (n + 1) = l := ⟨_, rfl⟩
  rw [hLF] at HSm HWt ⊢
  have HLF : Hid (outJ false x y (n + 1) = LF) := hLF
  clear hLF
  go_enter Tryz.func101, Tryz.ntmps101
  go_wp2_with (first
    | (have _ := HO6; go_at_call 152; refine (cS4.out _ _ (opAt_own HO6.out)).mono ?_; rintro e w9 ⟨gy1, gy2, rfl, o1, o2, hb⟩; have HY1 : Hid (w9.ownsRow w8.heap.size 9 1 (.slice (some ⟨gy1, 0, none⟩) (n + 1) (n + 1)) (n + 1) ((strsP n y).map strV)) := o1; have HY2 : Hid (w9.ownsRow w8.heap.size 4 1 (.slice (some ⟨gy2, 0, none⟩) n n) n ((boolsP n y).map Value.bool)) := o2; have HB89 : Hid (Below w8.heap.size w8 w9) := hb; clear o1 o2 hb)
    | (have _ := HG7; go_at_call 149; refine Calls.mono HG7.out ?_; rintro e w8 ⟨v8, rfl, o8, hb8⟩; have HO6 : Hid (w8.ownsRow w7.heap.size 50 3 v8 nb.length (cellsP nb)) := o8; have HB8 : Hid (Below w.heap.size w w8) := HB7.out.trans (hb8.mono HB7.out.size); have HB68 : Hid (Below w6.heap.size w6 w8) := HB67.out.trans (hb8.mono HB67.out.size); obtain ⟨p8, c8, rfl⟩ := own_slice o8; clear o8 hb8)
    | (have _ := HX1; go_at_call 152; refine (cS3.out _ HB6.out).mono ?_; rintro e w7 ⟨g7, rfl, hb7, hc7⟩; have HG7 : Hid _ := hc7; have HB7 : Hid (Below w.heap.size w w7) := HB6.out.trans (hb7.mono HB6.out.size); have HB67 : Hid (Below w6.heap.size w6 w7) := hb7; clear hb7 hc7)
    | (have _ := HO5; go_at_call 152; refine (cS2.out _ _ (opAt_own HO5.out)).mono ?_; rintro e w6 ⟨gx1, gx2, rfl, o1, o2, hb⟩; have HX1 : Hid (w6.ownsRow w5.heap.size 9 1 (.slice (some ⟨gx1, 0, none⟩) (n + 1) (n + 1)) (n + 1) ((strsP n x).map strV)) := o1; have HX2 : Hid (w6.ownsRow w5.heap.size 4 1 (.slice (some ⟨gx2, 0, none⟩) n n) n ((boolsP n x).map Value.bool)) := o2; have HB6 : Hid (Below w.heap.size w w6) := HB5.out.trans (hb.mono HB5.out.size); clear o1 o2 hb)
    | (have _ := HG4; go_at_call 149; refine Calls.mono HG4.out ?_; rintro e w5 ⟨v5, rfl, o5, hb5⟩; have HO5 : Hid (w5.ownsRow w4.heap.size 50 3 v5 na.length (cellsP na)) := o5; have HB5 : Hid (Below w.heap.size w w5) := HB4.out.trans (hb5.mono HB4.out.size); obtain ⟨p5, c5, rfl⟩ := own_slice o5; clear o5 hb5)
    | (have _ := HB3; go_at_call 152; refine (cS1.out _ HB3.out).mono ?_; rintro e w4 ⟨g4, rfl, hb4, hc4⟩; have HG4 : Hid _ := hc4; have HB4 : Hid (Below w.heap.size w w4) := HB3.out.trans (hb4.mono HB3.out.size); clear hb4 hc4)
    | (have _ := HB2; go_at_call 148; refine (cL2.out _ HB2.out).mono ?_; rintro e w3 ⟨rfl, hb3⟩; have HB3 : Hid (Below w.heap.size w w3) := HB2.out.trans (hb3.mono HB2.out.size); clear hb3)
    | (have _ := HB1; go_at_call 148; refine (cL1.out _ HB1.out).mono ?_; rintro e w2 ⟨rfl, hb2⟩; have HB2 : Hid (Below w.heap.size w w2) := HB1.out.trans (hb2.mono HB1.out.size); clear hb2)
    | (go_at_call 147; refine Calls.mono cB.out ?_; rintro e w1 ⟨rfl, hb1⟩; have HB1 : Hid (Below w.heap.size w w1) := hb1; clear hb1)
    | fail)
  obtain ⟨W0, hW0⟩ : ∃ W0, W0 = (((w9.alloc (.cells #[.slice (some ⟨gx1, 0, none⟩) (n + 1) (n + 1), .slice (some ⟨gx2, 0, none⟩) n n] 252)).alloc (.cells #[.slice (some ⟨gy1, 0, none⟩) (n + 1) (n + 1), .slice (some ⟨gy2, 0, none⟩) n n] 252)).alloc (.cells #[.slice none 0 0] 23)) := ⟨_, rfl⟩
  rw [← hW0]
  have hb90 : Below w9.heap.size w9 W0 := by rw [hW0]; exact (((Below.refl _ _).alloc (Nat.le_refl _) _).alloc (by simp) _).alloc (by simp; omega) _
  have hs0 : W0.heap.size = w9.heap.size + 1 + 1 + 1 := by rw [hW0]; simp
  have hb69 : Below w6.heap.size w6 W0 := (HB68.out.trans (HB89.out.mono HB68.out.size)).trans (hb90.mono (Nat.le_trans HB68.out.size HB89.out.size))
  have hb80 : Below w9.heap.size w9 W0 := hb90
  have HGP : Hid (gapsAt W0 w9.heap.size gx1 gx2 gy1 gy2 n x y) := rows_gaps HXL.out HYL.out HX1.out HX2.out HY1.out HY2.out hb69 hb90 (Nat.le_trans HB68.out.size HB89.out.size) (Nat.le_refl _)
    (by rw [hW0]; simp [go_sem]) (by rw [hW0]; simp [go_sem]) (by rw [hW0]; simp [go_sem]) (by rw [hW0]; simp [go_sem])
  have HBW : Hid (Below w.heap.size w W0) := (HB8.out.trans (HB89.out.mono HB8.out.size)).trans (hb90.mono (Nat.le_trans HB8.out.size HB89.out.size))
  have HSZ : Hid (w.heap.size ≤ w9.heap.size) := Nat.le_trans HB8.out.size HB89.out.size
  have hst : trR false x y n (w9.heap.size + 1 + 1) W0 (n + 1) (.int .i64 0) W0 := by
    refine ⟨0, rfl, by omega, ⟨⟨none, 0, ?_, ?_⟩, ?_⟩, .refl _ _⟩
    · have e : outJ false x y 0 = [] := by simp [outJ]
      rw [e, hW0]; simp [go_sem]
    · have e : outJ false x y 0 = [] := by simp [outJ]
      rw [e]; exact World.ownsRow_nil _ _ _ _
    · rw [hW0]; simp [go_sem]
  have HST : Hid (trR false x y n (w9.heap.size + 1 + 1) W0 (n + 1) (.int .i64 0) W0) := hst
  clear hst hW0 hb90 hs0 hb69 hb80 HB1 HB2 HB3 HG4 HB4 HO5 HB5 HX1 HX2 HB6 HG7 HB7 HB67 HO6 HB8 HB68 HY1 HY2 HB89 cB cL1 cL2 cS1 cS2 cS3 cS4
  go_loopg [50] (n + 1) (fun k i wr => trR false x y n (w9.heap.size + 1 + 1) W0 k i wr)
  case atStart => exact HST.out
  case round =>
    obtain ⟨j, rfl, hjk, ho, hb⟩ := hrel
    have HOR : Hid (outAt wr (w9.heap.size + 1 + 1) (outJ false x y j)) := ho
    have HBR : Hid (Below (w9.heap.size + 1 + 1) W0 wr) := hb
    have hlen := outJ_len false x y j
    clear HST ho hb
    rcases Nat.lt_or_ge n j with hj | hj
    · obtain rfl : gk = 0 := by omega
      obtain rfl : j = n + 1 := by omega
      rw [HLF.out] at HOR hlen
      have ho := HOR.out
      obtain ⟨⟨pL, cL, k1, k2⟩, k3⟩ := ho
      have CS : Hid _ := refNorm_any _ LF wr (opAt_own k2) HSm.out HWt.out (by omega)
      have HLT : Hid (w9.heap.size + 1 + 1 < wr.heap.size) := outAt_lt HOR.out
      have hNn := HN.out
      have hjn : ¬ (((n + 1 : Nat) : Int) < N + 1) := by omega
      clear hj hjk hlen k2 hNn
      go_wp2_with (first
        | (go_at_call 152; refine Calls.mono CS.out ?_; rintro e w2 ⟨g2, rfl, hb2, hc2⟩; have HC2 : Hid _ := hc2; have HB2 : Hid (Below wr.heap.size wr w2) := hb2; clear hb2 hc2)
        | (have _ := HC2; go_at_call 149; refine Calls.mono HC2.out ?_; rintro e w3 ⟨v3, rfl, o3, hb3⟩)
        | fail)
      obtain ⟨p3, c3, rfl⟩ := own_slice o3
      go_ret2
      have hB := HBW.out.trans (HBR.out.mono (show w.heap.size ≤ w9.heap.size + 1 + 1 by have := HSZ.out; omega))
      exact ⟨_, rfl, opN_own (Nat.le_trans hB.size HB2.out.size) o3, (hB.trans (HB2.out.mono hB.size)).trans (hb3.mono (Nat.le_trans hB.size HB2.out.size))⟩
    rcases Nat.lt_or_ge j n with hj2 | hj2
    rotate_left
    · obtain rfl : j = n := by omega
      obtain rfl : gk = 1 := by omega
      have hstep : outJ false x y (j + 1) = outJ false x y j ++ (keepO y.2.length ++ putO x.2) := by
        have := outJ_last (first := false) (HXL.out.trans HYL.out.symm)
        rw [HXL.out] at this
        exact this
      obtain ⟨L, hL⟩ : ∃ L, outJ false x y j = L := ⟨_, rfl⟩
      rw [hL] at HOR hlen hstep
      have GPwr : Hid (gapsAt wr w9.heap.size gx1 gx2 gy1 gy2 j x y) := gapsAt_below HGP.out HBR.out (Nat.le_refl _)
      have fa0wr := GPwr.out.a0
      have fb0wr := GPwr.out.b0
      have fxwr := GPwr.out.x2
      have fywr := GPwr.out.y2
      have HXE : Hid (gapsAt W0 w9.heap.size gx1 gx2 gy1 gy2 j x y) := HGP.out
      obtain ⟨U, hU⟩ : ∃ U, x.2 = U := ⟨_, rfl⟩
      obtain ⟨V, hV⟩ : ∃ V, y.2 = V := ⟨_, rfl⟩
      rw [hU] at hstep fxwr
      rw [hV] at hstep fywr
      have HU : Hid (x.2 = U) := hU
      have HV : Hid (y.2 = V) := hV
      have hzv : (ByteArray.mk V.toArray).size = V.length := by simp [ByteArray.size]
      have cP : Hid (∀ W l, outAt W (w9.heap.size + 1 + 1) l → l.length < 1000000000 → Calls Tryz.prog 154 #[.string ⟨U.toArray⟩, .pointer (some ⟨w9.heap.size + 1 + 1, 0, none⟩)] W fun e w' => (∃ v, e = .returned v) ∧ outAt w' (w9.heap.size + 1 + 1) (l ++ putO U) ∧ Below (w9.heap.size + 1 + 1) W w') := fun W l h hl => tPut_any _ l U W h hl
      have cK : Hid (∀ W l, outAt W (w9.heap.size + 1 + 1) l → l.length < 1000000000 → Calls Tryz.prog 153 #[.int .i64 (V.length : Int), .pointer (some ⟨w9.heap.size + 1 + 1, 0, none⟩)] W fun e w' => (∃ v, e = .returned v) ∧ outAt w' (w9.heap.size + 1 + 1) (l ++ keepO V.length) ∧ Below (w9.heap.size + 1 + 1) W w') := fun W l h hl => tKeep_any _ l V.length W h hl
      have HSTEP : Hid (outJ false x y (j + 1) = (L ++ keepO V.length) ++ putO U) := by rw [List.append_assoc]; exact hstep
      have hpk : (putO U).length ≤ 1 ∧ (keepO V.length).length ≤ 1 := ⟨by unfold putO; split <;> simp, by unfold keepO; split <;> simp⟩
      have HL0 : Hid (L.length < 1000000000) := show L.length < 1000000000 by omega
      have HL1 : Hid ((L ++ keepO V.length).length < 1000000000) := show (L ++ keepO V.length).length < 1000000000 by rw [List.length_append]; omega
      have hNn := HN.out
      have hjn : (j : Int) < N + 1 := by omega
      have hjd : (j : Int) = N := by omega
      clear hNn
      subst hjd
      have hj9 : (j : Int) < 10000000 := by omega
      clear hL hstep hU hV hpk hjk hlen hj hj2
      go_wp2_with (first
        | (have _ := HO1; go_at_call 154; refine (cP.out _ _ HO1.out HL1.out).mono ?_; rintro e w2 ⟨⟨v2, rfl⟩, ho2, hb2⟩; have HO2 : Hid (outAt w2 (w9.heap.size + 1 + 1) ((L ++ keepO V.length) ++ putO U)) := ho2; have HB2 : Hid (Below (w9.heap.size + 1 + 1) W0 w2) := HB1.out.trans hb2; have GPw2 : Hid (gapsAt w2 w9.heap.size gx1 gx2 gy1 gy2 j x y) := gapsAt_below HGP.out HB2.out (Nat.le_refl _); have fa0w2 := GPw2.out.a0; have fb0w2 := GPw2.out.b0; have fxw2 := GPw2.out.x2; rw [HU.out] at fxw2; have fyw2 := GPw2.out.y2; rw [HV.out] at fyw2; clear ho2 hb2)
        | (go_at_call 153; refine (cK.out _ _ HOR.out HL0.out).mono ?_; rintro e w1 ⟨⟨v1, rfl⟩, ho1, hb1⟩; have HO1 : Hid (outAt w1 (w9.heap.size + 1 + 1) (L ++ keepO V.length)) := ho1; have HB1 : Hid (Below (w9.heap.size + 1 + 1) W0 w1) := HBR.out.trans hb1; have GPw1 : Hid (gapsAt w1 w9.heap.size gx1 gx2 gy1 gy2 j x y) := gapsAt_below HGP.out HB1.out (Nat.le_refl _); have fa0w1 := GPw1.out.a0; have fb0w1 := GPw1.out.b0; have fxw1 := GPw1.out.x2; rw [HU.out] at fxw1; have fyw1 := GPw1.out.y2; rw [HV.out] at fyw1; clear ho1 hb1)
        | fail)
      go_roundg 0
      case measure => omega
      case rel => exact ⟨j + 1, by go_num, by omega, by rw [HSTEP.out]; exact HO2.out, HB2.out⟩
    · obtain ⟨⟨u, d⟩, hxj⟩ : ∃ z, x.1[j]? = some z := ⟨_, List.getElem?_eq_getElem (by rw [HXL.out]; exact hj2)⟩
      obtain ⟨⟨v, e⟩, hyj⟩ : ∃ z, y.1[j]? = some z := ⟨_, List.getElem?_eq_getElem (by rw [HYL.out]; exact hj2)⟩
      have HXJ : Hid (x.1[j]? = some (u, d)) := hxj
      have HYJ : Hid (y.1[j]? = some (v, e)) := hyj
      have hstep : outJ false x y (j + 1) = outJ false x y j ++ ((keepO v.length ++ putO u) ++ unitO e d) := outJ_step (first := false) (HXL.out.trans HYL.out.symm) (by rw [HXL.out]; exact hj2) hxj hyj
      obtain ⟨L, hL⟩ : ∃ L, outJ false x y j = L := ⟨_, rfl⟩
      rw [hL] at HOR hlen hstep
      have GPwr : Hid (gapsAt wr w9.heap.size gx1 gx2 gy1 gy2 n x y) := gapsAt_below HGP.out HBR.out (Nat.le_refl _)
      have fa0wr := GPwr.out.a0
      have fa1wr := GPwr.out.a1
      have fb0wr := GPwr.out.b0
      have fb1wr := GPwr.out.b1
      have fxwr := (GPwr.out.x1 _ _ _ HXJ.out).1
      have fxdwr := (GPwr.out.x1 _ _ _ HXJ.out).2
      have fywr := (GPwr.out.y1 _ _ _ HYJ.out).1
      have fydwr := (GPwr.out.y1 _ _ _ HYJ.out).2
      have hzv : (ByteArray.mk v.toArray).size = v.length := by simp [ByteArray.size]
      have cP : Hid (∀ W l, outAt W (w9.heap.size + 1 + 1) l → l.length < 1000000000 → Calls Tryz.prog 154 #[.string ⟨u.toArray⟩, .pointer (some ⟨w9.heap.size + 1 + 1, 0, none⟩)] W fun e w' => (∃ v, e = .returned v) ∧ outAt w' (w9.heap.size + 1 + 1) (l ++ putO u) ∧ Below (w9.heap.size + 1 + 1) W w') := fun W l h hl => tPut_any _ l u W h hl
      have cK : Hid (∀ W l, outAt W (w9.heap.size + 1 + 1) l → l.length < 1000000000 → Calls Tryz.prog 153 #[.int .i64 (v.length : Int), .pointer (some ⟨w9.heap.size + 1 + 1, 0, none⟩)] W fun e w' => (∃ v, e = .returned v) ∧ outAt w' (w9.heap.size + 1 + 1) (l ++ keepO v.length) ∧ Below (w9.heap.size + 1 + 1) W w') := fun W l h hl => tKeep_any _ l v.length W h hl
      have cU : Hid (∀ W l, outAt W (w9.heap.size + 1 + 1) l → l.length < 1000000000 → Calls Tryz.prog 153 #[.int .i64 1, .pointer (some ⟨w9.heap.size + 1 + 1, 0, none⟩)] W fun e w' => (∃ v, e = .returned v) ∧ outAt w' (w9.heap.size + 1 + 1) (l ++ [⟨1, 0, []⟩]) ∧ Below (w9.heap.size + 1 + 1) W w') := fun W l h hl => tKeep_any _ l 1 W h hl
      have HSTEP : Hid (outJ false x y (j + 1) = ((L ++ keepO v.length) ++ putO u) ++ unitO e d) := by rw [List.append_assoc L, List.append_assoc L]; exact hstep
      have hpk : (putO u).length ≤ 1 ∧ (keepO v.length).length ≤ 1 := ⟨by unfold putO; split <;> simp, by unfold keepO; split <;> simp⟩
      have HL0 : Hid (L.length < 1000000000) := show L.length < 1000000000 by omega
      have HL1 : Hid ((L ++ keepO v.length).length < 1000000000) := show (L ++ keepO v.length).length < 1000000000 by rw [List.length_append]; omega
      have HL2' : ((L ++ keepO v.length) ++ putO u).length < 100000000 := by rw [List.length_append, List.length_append]; omega
      obtain ⟨L2, hL2⟩ : ∃ l, (L ++ keepO v.length) ++ putO u = l := ⟨_, rfl⟩
      rw [hL2] at HSTEP HL2'
      have HL2 : Hid (L2.length < 100000000) := HL2'
      have HE2 : Hid ((L ++ keepO v.length) ++ putO u = L2) := hL2
      clear HL2' hL2
      have hjn2 : (j : Int) < (n : Int) := by omega
      have hNn := HN.out
      have hjn : (j : Int) < N + 1 := by omega
      have hjd : ((j : Int) == N) = false := beq_eq_false_iff_ne.2 (by omega)
      clear hNn
      have hj9 : (j : Int) < 10000000 := by omega
      obtain ⟨k, rfl⟩ : ∃ k, gk = k + 1 := ⟨gk - 1, by omega⟩
      have HJK : Hid (j + (k + 1) = n + 1) := hjk
      clear hL hstep hpk hjk hlen hj hj2 hxj hyj
      cases e with
      | true =>
        go_wp2_with (first
          | (have _ := HO1; go_at_call 154; refine (cP.out _ _ HO1.out HL1.out).mono ?_; rintro e w2 ⟨⟨v2, rfl⟩, ho2, hb2⟩; have HO2 : Hid (outAt w2 (w9.heap.size + 1 + 1) L2) := (by rw [← HE2.out]; exact ho2); have HB2 : Hid (Below (w9.heap.size + 1 + 1) W0 w2) := HB1.out.trans hb2; have GPw2 : Hid (gapsAt w2 w9.heap.size gx1 gx2 gy1 gy2 n x y) := gapsAt_below HGP.out HB2.out (Nat.le_refl _); have fa0w2 := GPw2.out.a0; have fa1w2 := GPw2.out.a1; have fb0w2 := GPw2.out.b0; have fb1w2 := GPw2.out.b1; have fxw2 := (GPw2.out.x1 _ _ _ HXJ.out).1; have fxdw2 := (GPw2.out.x1 _ _ _ HXJ.out).2; have fyw2 := (GPw2.out.y1 _ _ _ HYJ.out).1; have fydw2 := (GPw2.out.y1 _ _ _ HYJ.out).2; clear ho2 hb2)
          | (go_at_call 153; refine (cK.out _ _ HOR.out HL0.out).mono ?_; rintro e w1 ⟨⟨v1, rfl⟩, ho1, hb1⟩; have HO1 : Hid (outAt w1 (w9.heap.size + 1 + 1) (L ++ keepO v.length)) := ho1; have HB1 : Hid (Below (w9.heap.size + 1 + 1) W0 w1) := HBR.out.trans hb1; have GPw1 : Hid (gapsAt w1 w9.heap.size gx1 gx2 gy1 gy2 n x y) := gapsAt_below HGP.out HB1.out (Nat.le_refl _); have fa0w1 := GPw1.out.a0; have fa1w1 := GPw1.out.a1; have fb0w1 := GPw1.out.b0; have fb1w1 := GPw1.out.b1; have fxw1 := (GPw1.out.x1 _ _ _ HXJ.out).1; have fxdw1 := (GPw1.out.x1 _ _ _ HXJ.out).2; have fyw1 := (GPw1.out.y1 _ _ _ HYJ.out).1; have fydw1 := (GPw1.out.y1 _ _ _ HYJ.out).2; clear ho1 hb1)
          | fail)
        go_roundg k
        case measure => omega
        case rel => exact ⟨j + 1, by go_num, by have := HJK.out; omega, by rw [HSTEP.out]; exact (List.append_nil _).symm ▸ HO2.out, HB2.out⟩
      | false =>
        cases d with
        | false =>
          go_wp2_with (first
            | (have _ := HO2; go_at_call 153; refine (cU.out _ _ HO2.out (Nat.lt_trans HL2.out (by decide))).mono ?_; rintro e w3 ⟨⟨v3, rfl⟩, ho3, hb3⟩)
            | (have _ := HO1; go_at_call 154; refine (cP.out _ _ HO1.out HL1.out).mono ?_; rintro e w2 ⟨⟨v2, rfl⟩, ho2, hb2⟩; have HO2 : Hid (outAt w2 (w9.heap.size + 1 + 1) L2) := (by rw [← HE2.out]; exact ho2); have HB2 : Hid (Below (w9.heap.size + 1 + 1) W0 w2) := HB1.out.trans hb2; have GPw2 : Hid (gapsAt w2 w9.heap.size gx1 gx2 gy1 gy2 n x y) := gapsAt_below HGP.out HB2.out (Nat.le_refl _); have fa0w2 := GPw2.out.a0; have fa1w2 := GPw2.out.a1; have fb0w2 := GPw2.out.b0; have fb1w2 := GPw2.out.b1; have fxw2 := (GPw2.out.x1 _ _ _ HXJ.out).1; have fxdw2 := (GPw2.out.x1 _ _ _ HXJ.out).2; have fyw2 := (GPw2.out.y1 _ _ _ HYJ.out).1; have fydw2 := (GPw2.out.y1 _ _ _ HYJ.out).2; clear ho2 hb2)
            | (go_at_call 153; refine (cK.out _ _ HOR.out HL0.out).mono ?_; rintro e w1 ⟨⟨v1, rfl⟩, ho1, hb1⟩; have HO1 : Hid (outAt w1 (w9.heap.size + 1 + 1) (L ++ keepO v.length)) := ho1; have HB1 : Hid (Below (w9.heap.size + 1 + 1) W0 w1) := HBR.out.trans hb1; have GPw1 : Hid (gapsAt w1 w9.heap.size gx1 gx2 gy1 gy2 n x y) := gapsAt_below HGP.out HB1.out (Nat.le_refl _); have fa0w1 := GPw1.out.a0; have fa1w1 := GPw1.out.a1; have fb0w1 := GPw1.out.b0; have fb1w1 := GPw1.out.b1; have fxw1 := (GPw1.out.x1 _ _ _ HXJ.out).1; have fxdw1 := (GPw1.out.x1 _ _ _ HXJ.out).2; have fyw1 := (GPw1.out.y1 _ _ _ HYJ.out).1; have fydw1 := (GPw1.out.y1 _ _ _ HYJ.out).2; clear ho1 hb1)
            | fail)
          go_roundg k
          case measure => omega
          case rel => exact ⟨j + 1, by go_num, by have := HJK.out; omega, by rw [HSTEP.out]; exact ho3, HB2.out.trans hb3⟩
        | true =>
          go_upto_region 22 with (first
            | (have _ := HO1; go_at_call 154; refine (cP.out _ _ HO1.out HL1.out).mono ?_; rintro e w2 ⟨⟨v2, rfl⟩, ho2, hb2⟩; have HO2 : Hid (outAt w2 (w9.heap.size + 1 + 1) L2) := (by rw [← HE2.out]; exact ho2); have HB2 : Hid (Below (w9.heap.size + 1 + 1) W0 w2) := HB1.out.trans hb2; have GPw2 : Hid (gapsAt w2 w9.heap.size gx1 gx2 gy1 gy2 n x y) := gapsAt_below HGP.out HB2.out (Nat.le_refl _); have fa0w2 := GPw2.out.a0; have fa1w2 := GPw2.out.a1; have fb0w2 := GPw2.out.b0; have fb1w2 := GPw2.out.b1; have fxw2 := (GPw2.out.x1 _ _ _ HXJ.out).1; have fxdw2 := (GPw2.out.x1 _ _ _ HXJ.out).2; have fyw2 := (GPw2.out.y1 _ _ _ HYJ.out).1; have fydw2 := (GPw2.out.y1 _ _ _ HYJ.out).2; clear ho2 hb2; have ho2' := HO2.out; obtain ⟨⟨pq, cq, kq1, kq2⟩, kq3⟩ := ho2'; have HRW : Hid (w2.ownsRow (w9.heap.size + 1 + 1 + 1) 50 3 (.slice pq L2.length cq) L2.length (cellsP L2)) := kq2; have HCQ : Hid (w2.cell? ⟨w9.heap.size + 1 + 1, 0, none⟩ = some (.slice pq L2.length cq)) := kq1; have HQ2 : Hid (w9.heap.size + 1 + 1 < w2.heap.size) := outAt_lt HO2.out; have HQ3 : Hid (w2.frozen? ⟨w9.heap.size + 1 + 1, 0, none⟩ = false) := kq3; clear kq1 kq2 kq3)
            | (go_at_call 153; refine (cK.out _ _ HOR.out HL0.out).mono ?_; rintro e w1 ⟨⟨v1, rfl⟩, ho1, hb1⟩; have HO1 : Hid (outAt w1 (w9.heap.size + 1 + 1) (L ++ keepO v.length)) := ho1; have HB1 : Hid (Below (w9.heap.size + 1 + 1) W0 w1) := HBR.out.trans hb1; have GPw1 : Hid (gapsAt w1 w9.heap.size gx1 gx2 gy1 gy2 n x y) := gapsAt_below HGP.out HB1.out (Nat.le_refl _); have fa0w1 := GPw1.out.a0; have fa1w1 := GPw1.out.a1; have fb0w1 := GPw1.out.b0; have fb1w1 := GPw1.out.b1; have fxw1 := (GPw1.out.x1 _ _ _ HXJ.out).1; have fxdw1 := (GPw1.out.x1 _ _ _ HXJ.out).2; have fyw1 := (GPw1.out.y1 _ _ _ HYJ.out).1; have fydw1 := (GPw1.out.y1 _ _ _ HYJ.out).2; clear ho1 hb1)
            | fail)
          obtain ⟨i0, hi, hz0, hz1, hz2⟩ := info_parts info_part
          have kq1 := HCQ.out
          have kq3 := HQ3.out
          have hq2 := HQ2.out
          go_wp2_with (first
            | (have _ := HO2; at_builtin; refine wpList_append_own _ rfl _ _ 23 rfl (w9.heap.size + 1 + 1 + 1) 50 i0 (.agg #[.int .i64 0, .int .i64 0, .string ⟨#[]⟩]) 3 32 Tryz.underlying23 hi hz0 hz1 hz2 rfl (by decide) _ _ _ rfl (HRW.out.alloc _) ⟨w2.heap.size, 0, none⟩ 1 1 (partCells ⟨0, 1, []⟩) rfl rfl (cells_new _ _ _) (partCells_one _) (by have := HL2.out; unfold maxLen; omega) (by have := HL2.out; omega) (by first | omega | (simp; omega)) ?_)
            | fail)
          intro v3 w3 hown3 hg3 _
          have P3 := outAt_push (q := ⟨0, 1, []⟩) HO2.out HCQ.out hown3 hg3
          obtain ⟨p3, q3, hv3⟩ := own_slice hown3
          rw [hv3] at P3 hown3 ⊢
          obtain ⟨G3, B3, r1, r2⟩ := P3
          have HG3 : Hid _ := G3
          have HB3 : Hid _ := B3
          clear G3 B3 hown3 hg3 hv3
          go_wp2
          go_roundg k
          case measure => omega
          case rel => exact ⟨j + 1, by go_num, by have := HJK.out; omega, by rw [HSTEP.out]; exact HG3.out, HB2.out.trans HB3.out⟩
theorem refTrans_false (v1 v2 : Value) (a b : List Pt) (w : World) (h1 : opAt w v1 a) (h2 : opAt w v2 b) (w1 : ∀ p ∈ a, wfP p) (w2 : ∀ p ∈ b, wfP p) (s1 : ∀ p ∈ a, p.put.length < 100000000) (s2 : ∀ p ∈ b, p.put.length < 100000000) (f1 : fineP a) (f2 : fineP b) (he : bothE a b = 0) (hl : (lensW b).1 = (lensW a).1) :
    Calls Tryz.prog 101 #[v1, v2, .bool false] w fun e w' => ∃ v', e = .returned (.tuple #[v', .int .i64 0]) ∧ opAt w' v' (normP (outJ false (spreads (normP a)) (spreads (normP b)) ((spreads (normP a)).1.length + 1))) ∧ Below w.heap.size w w' :=
  (refTrans_falseN v1 v2 a b w h1 h2 w1 w2 s1 s2 f1 f2 he hl).mono fun e w' ⟨v', q1, q2, q3⟩ => ⟨v', q1, q2.1, q3⟩
end Go.Proofs.YtldhbjmillfjgabGreatDoor

namespace Go.Proofs.YtldhbjmillfjgabGreatDoor
open Go.RowKit
set_option linter.unusedVariables false
attribute [local go_sem] Oper.semAt_some

theorem fine_lensU {a b : List Pt} (f1 : fineP a) (f2 : fineP b) (hl : (lensW b).1 = (lensW a).1) : lensU (normP a) = lensU (normP b) := by
  have h1 := lensU_long _ (ones_sound fun p hp => ((fine_norm f1).1 p hp).1)
  have h2 := lensU_long _ (ones_sound fun p hp => ((fine_norm f2).1 p hp).1)
  have h3 := (fine_norm f1).2.2.1
  have h4 := (fine_norm f2).2.2.1
  have h5 := (fine_lens f1).1
  have h6 := (fine_lens f2).1
  omega
theorem trans_eq (F : Bool) {a b : List Pt} (f1 : fineP a) (f2 : fineP b) (hl : (lensW b).1 = (lensW a).1) : normP (outJ F (spreads (normP a)) (spreads (normP b)) ((spreads (normP a)).1.length + 1)) = tellP (transS F a b) := by
  have hU := fine_lensU f1 f2 hl
  have o1 : ∀ p ∈ normP a, oneP p := fun p hp => ((fine_norm f1).1 p hp).1
  have o2 : ∀ p ∈ normP b, oneP p := fun p hp => ((fine_norm f2).1 p hp).1
  have hz : (spreads (normP a)).1.length = (spreads (normP b)).1.length := by rw [spreads_eq, spreads_eq]; exact hU
  have e1 : outJ F (spreads (normP a)) (spreads (normP b)) ((spreads (normP a)).1.length + 1) = ((spreads (normP a)).1.zip (spreads (normP b)).1).flatMap (gapO F) ++ pairO F (spreads (normP a)).2 (spreads (normP b)).2 := by
    unfold outJ
    rw [if_pos (by omega), List.take_of_length_le (by rw [List.length_zip]; omega)]
  rw [e1]
  unfold normP transS
  congr 1
  have e2 := out_fold F (spreads (normP a)).1 (spreads (normP b)).1 (spreads (normP a)).2 (spreads (normP b)).2 nst0 hz
  unfold normP at e2
  rw [e2]
  cases F with
  | true =>
    rw [if_pos rfl]
    have e3 := turn_first (weight (normP a) + weight (normP b)) (normP a) (normP b) nst0 o1 o2 hU (Nat.le_refl _)
    rw [← spreads_eq, ← spreads_eq] at e3
    exact e3.symm
  | false =>
    rw [if_neg (by decide)]
    have e3 := turn_second (weight (normP b) + weight (normP a)) (normP a) (normP b) nst0 o1 o2 hU (by omega)
    rw [← spreads_eq, ← spreads_eq] at e3
    exact e3.symm

theorem refTrans_allN (v1 v2 : Value) (first : Bool) (a b : List Pt) (w : World) (h1 : opAt w v1 a) (h2 : opAt w v2 b) (w1 : ∀ p ∈ a, wfP p) (w2 : ∀ p ∈ b, wfP p) (s1 : ∀ p ∈ a, p.put.length < 100000000) (s2 : ∀ p ∈ b, p.put.length < 100000000) (l1 : a.length < 10000000) (l2 : b.length < 10000000) (hf : bothE a b = 0 → fineP a ∧ fineP b) :
    Calls Tryz.prog 101 #[v1, v2, .bool first] w fun e w' => ∃ v', e = .returned (.tuple #[v', .int .i64 (turnE a b)]) ∧ opN w.heap.size w' v' (if turnE a b = 0 then tellP (transS first a b) else []) ∧ Below w.heap.size w w' := by
  have none : ∀ w', opN w.heap.size w' (.slice none 0 0) [] := opN_none _
  unfold turnE
  by_cases he : bothE a b = 0
  · obtain ⟨f1, f2⟩ := hf he
    rw [if_pos he]
    by_cases hl : (lensW b).1 = (lensW a).1
    · rw [if_pos hl, if_pos rfl, ← trans_eq first f1 f2 hl]
      cases first with
      | true => exact refTrans_trueN v1 v2 a b w h1 h2 w1 w2 s1 s2 f1 f2 he hl
      | false => exact refTrans_falseN v1 v2 a b w h1 h2 w1 w2 s1 s2 f1 f2 he hl
    · rw [if_neg hl, if_neg (by decide)]
      exact (refTrans_len v1 v2 first a b w h1 h2 w1 w2 s1 s2 l1 l2 he hl).mono fun e w' h => ⟨_, h.1, none w', h.2⟩
  · rw [if_neg he, if_neg he]
    exact (refTrans_err v1 v2 first a b w h1 h2 w1 w2 s1 s2 l1 l2 he).mono fun e w' h => ⟨_, h.1, none w', h.2⟩
theorem refTrans_all (v1 v2 : Value) (first : Bool) (a b : List Pt) (w : World) (h1 : opAt w v1 a) (h2 : opAt w v2 b) (w1 : ∀ p ∈ a, wfP p) (w2 : ∀ p ∈ b, wfP p) (s1 : ∀ p ∈ a, p.put.length < 100000000) (s2 : ∀ p ∈ b, p.put.length < 100000000) (l1 : a.length < 10000000) (l2 : b.length < 10000000) (hf : bothE a b = 0 → fineP a ∧ fineP b) :
    Calls Tryz.prog 101 #[v1, v2, .bool first] w fun e w' => ∃ v', e = .returned (.tuple #[v', .int .i64 (turnE a b)]) ∧ opAt w' v' (if turnE a b = 0 then tellP (transS first a b) else []) ∧ Below w.heap.size w w' :=
  (refTrans_allN v1 v2 first a b w h1 h2 w1 w2 s1 s2 l1 l2 hf).mono fun e w' ⟨v', q1, q2, q3⟩ => ⟨v', q1, q2.1, q3⟩

/-- Few parts that may be: fine. -/
theorem few_fine {ps : List Pt} {n : Int} (h : fewB ps = true) (hc : chkE ps n = 0) : fineP ps ∧ wts ps ≤ 1030000 := by
  have hs := chkE_sound hc
  obtain ⟨h1, h2⟩ := few_wts h hs
  refine ⟨⟨fun p hp => ?_, by omega, by omega⟩, h1⟩
  unfold chkE at hc
  split at hc
  · rename_i h0
    have := (chk1_ones h0 p hp).1
    obtain ⟨K, D, U⟩ := p
    rcases one_shapes this with ⟨e1, e2, e3⟩ | ⟨e1, e2, e3⟩ | ⟨e1, e2, e3⟩
    · exact .inl ⟨e3, e1, e2⟩
    · exact .inr (.inl ⟨e1, e3, e2⟩)
    · exact .inr (.inr ⟨e1, e2, e3⟩)
  · rename_i h0; exact absurd hc h0
theorem both_fine {a b : List Pt} (h1 : fewB a = true) (h2 : fewB b = true) (he : bothE a b = 0) : (fineP a ∧ fineP b) ∧ wts a ≤ 1030000 ∧ wts b ≤ 1030000 := by
  unfold bothE at he
  split at he
  · rename_i h0
    exact ⟨⟨(few_fine h1 h0).1, (few_fine h2 he).1⟩, (few_fine h1 h0).2, (few_fine h2 he).2⟩
  · rename_i h0; exact absurd he h0
theorem few_small {ps : List Pt} (h : fewB ps = true) : ps.length ≤ 100 ∧ ∀ p ∈ ps, p.put.length ≤ 300 := by
  unfold fewB at h
  rw [Bool.and_eq_true] at h
  refine ⟨of_decide_eq_true h.1, fun p hp => ?_⟩
  have h2 := List.all_eq_true.1 h.2 p hp
  unfold fewP at h2
  simp only [Bool.not_eq_true', Bool.or_eq_false_iff, decide_eq_false_iff_not] at h2
  omega
/-- What is told of few pairs is short. -/
theorem run_len {t : Pt × Pt → List Pt} {l : List (Pt × Pt)} (hB : BdS t l nst0 0 0) (hl : l.length < 3000000) : (tellP (runS t l nst0)).length < 10000000 := by
  have h1 := tellP_len (runS t l nst0)
  rw [run_flat] at h1 ⊢
  have hb := bds (l.flatMap t) fun p hp => by
    obtain ⟨x, hx, hp⟩ := List.mem_flatMap.1 hp
    exact hB.sound x hx p hp
  have key : ∀ (l : List (Pt × Pt)), (∀ x ∈ l, (t x).length ≤ 1) → (l.flatMap t).length ≤ l.length := by
    intro l
    induction l with
    | nil => intro _; simp
    | cons x l ih =>
      intro h
      have h1 := h x (by simp)
      have h2 := ih fun y hy => h y (by simp [hy])
      rw [List.flatMap_cons, List.length_append, List.length_cons]
      omega
  have h2 := key l hB.one
  have h3 := hb.len
  omega
theorem side_len {la lb : Pt → Bool} (ka : kindOk la) (kb : kindOk lb) {t : Pt × Pt → List Pt} (ht : takeOk t) {a b : List Pt} (f1 : fineP a) (f2 : fineP b) (w1 : wts a ≤ 1030000) (w2 : wts b ≤ 1030000) (hm : measP la (normP a) = measP lb (normP b)) :
    (tellP (runS t (sideP la lb (weight (normP a) + weight (normP b)) (normP a) (normP b)) nst0)).length < 10000000 := by
  obtain ⟨n1, n2, _, _⟩ := fine_norm f1
  obtain ⟨m1, m2, _, _⟩ := fine_norm f2
  have e1 := weight_wts _ fun p hp => (n1 p hp).1
  have e2 := weight_wts _ fun p hp => (m1 p hp).1
  rw [norm_wts a (ones_sound f1.one)] at e1
  rw [norm_wts b (ones_sound f2.one)] at e2
  obtain ⟨_, hok, hpw, hln⟩ := side_ok ka kb (weight (normP a) + weight (normP b)) (normP a) (normP b) n1 m1 hm (Nat.le_refl _)
  exact run_len (bdS_of ht hok (by rw [hpw]; omega) (by omega)) (by omega)
theorem trans_short (F : Bool) {a b : List Pt} (h1 : fewB a = true) (h2 : fewB b = true) : (if turnE a b = 0 then tellP (transS F a b) else []).length < 10000000 := by
  split
  · rename_i h0
    unfold turnE at h0
    split at h0
    · rename_i he
      obtain ⟨⟨f1, f2⟩, x1, x2⟩ := both_fine h1 h2 he
      split at h0
      · rename_i hl
        have e1 := (fine_lens f1).1
        have e2 := (fine_lens f2).1
        have e3 := (fine_norm f1).2.2.1
        have e4 := (fine_norm f2).2.2.1
        have hm : measP isPutP (normP a) = measP isPutP (normP b) := by
          rw [meas_put _ (fun p hp => ((fine_norm f1).1 p hp).1), meas_put _ (fun p hp => ((fine_norm f2).1 p hp).1)]
          omega
        unfold transS
        cases F with
        | true => exact side_len kind_put kind_put take_turn f1 f2 x1 x2 hm
        | false => exact side_len kind_put kind_put take_turn2 f2 f1 x2 x1 hm.symm
      · cases h0
    · rename_i he; exact absurd h0 he
  · simp

/-- few, of an operation of any length. -/
theorem fewX_any (v : Value) (ps : List Pt) (w : World) (hr : opAt w v ps) : Calls Tryz.prog 27 #[v] w fun e w' => e = .returned (.bool (fewB ps)) ∧ Below w.heap.size w w' := by
  by_cases hl : ps.length < 10000000
  · exact few_any v ps w hr hl
  · obtain ⟨p, c, rfl, r1, r2, r3⟩ := hr
    have hb : fewB ps = false := by unfold fewB; rw [decide_eq_false (by omega)]; rfl
    rw [hb]
    unfold maxLen at r2
    have hm' : (100 : Int) < (ps.length : Int) := by omega
    clear r3
    go_enter Tryz.func27, Tryz.ntmps27
    go_wp2
    go_ret
    exact ⟨rfl, Below.refl _ _⟩

end Go.Proofs.YtldhbjmillfjgabGreatDoor

namespace Go.Proofs.YtldhbjmillfjgabGreatDoor
open Go.RowKit
set_option linter.unusedVariables false

/-- What Count tells of a sound text. -/
theorem refCount_of (s : ByteArray) (rs : List Nat) (hr : ∀ r ∈ rs, isRune r) (he : encs rs = s.data.toList) (hs : s.size < 100000000) (w : World) :
    Calls Tryz.prog 8 #[.string s] w fun e w' => e = .returned (.tuple #[cntV rs, .agg #[.int .i64 0, .int .i64 (-1)]]) ∧ Below w.heap.size w w' := by
  have hsc := scan_encs rs hr
  rw [he] at hsc
  have hro : runesOf s.data.toList = rs := by
    unfold runesOf
    rw [hsc]
    simp [wide, List.map_map, Function.comp_def]
  refine (refCount_good s hs w (by rw [hsc])).mono fun e w' h => ⟨?_, h.1⟩
  rw [h.2, hro]
  have h1 : (s.size : Int) = C1 rs := by rw [C1_len, he, ← Lib.size_eq]
  have h2 : ((halRow rs).length : Int) = C2 rs := by unfold C2; rw [sum2_wide]
  have h4 : (Lib.countByte s.data.toList 10 : Int) = C4 rs := by unfold C4; rw [sum4_wide hr, he]
  unfold cnt cntV
  rw [h1, h2, h4]
  rfl
end Go.Proofs.YtldhbjmillfjgabGreatDoor

namespace Go.Proofs.YtldhbjmillfjgabGreatDoor
open Go.RowKit
open Go.Maps (Keyed int_keyed keyOf_int_mk)
set_option linter.unusedVariables false

theorem keyed_int : Keyed Tryz.prog 3 := int_keyed Tryz.underlying3
theorem zero_int (w : World) : (zeroValue 3).run Tryz.prog w = .ok (.int .i64 0) w := by kernel_rfl
def inC (u a b c : Int) : Int := if u = 1 then a else if u = 2 then b else if u = 3 then c else 0
theorem at_in (u a b c : Int) : (((((DataW.map (H := Unit) []).put (.int .i64 1) (.lit (.int .i64 a))).put (.int .i64 2) (.lit (.int .i64 b))).put (.int .i64 3) (.lit (.int .i64 c))).atKey (.int .i64 u) (.lit (.int .i64 0))) = .lit (.int .i64 (inC u a b c)) := by
  simp [DataW.put, DataW.insert, DataW.atKey, Lit.sameKey, Lit.before, inC]
  by_cases h1 : u = 1
  · subst h1; rfl
  by_cases h2 : u = 2
  · subst h2; rfl
  by_cases h3 : u = 3
  · subst h3; rfl
  simp [List.find?, h1, h2, h3, Ne.symm h1, Ne.symm h2, Ne.symm h3]

set_option maxHeartbeats 1000000 in
theorem refinc_any (a1 a2 a3 a4 u : Int) (v1 : (Lit.int .i64 a1).wf = true) (v2 : (Lit.int .i64 a2).wf = true) (v3 : (Lit.int .i64 a3).wf = true) (vu : (Lit.int .i64 u).wf = true) (w : World) :
    Calls Tryz.prog 30 #[.agg #[.int .i64 a1, .int .i64 a2, .int .i64 a3, .int .i64 a4], .int .i64 u] w
      fun e w' => e = .returned (.int .i64 (inC u a1 a2 a3)) ∧ Below w.heap.size w w' := by
  have wf1 : (Lit.int .i64 1).wf = true := by decide
  have wf2 : (Lit.int .i64 2).wf = true := by decide
  have wf3 : (Lit.int .i64 3).wf = true := by decide
  have hb0 : Below (w.heap.size + 1) (w.alloc (.cells #[.int .i64 a1, .int .i64 a2, .int .i64 a3, .int .i64 a4] 25)) ((w.alloc (.cells #[.int .i64 a1, .int .i64 a2, .int .i64 a3, .int .i64 a4] 25)).alloc (.map #[] 0)) :=
    (Below.refl _ _).alloc (by simp) _
  have h0 := World.ownsMap_made (H := Unit) (w.alloc (.cells #[.int .i64 a1, .int .i64 a2, .int .i64 a3, .int .i64 a4] 25)) Tryz.prog 3 (plainElem Tryz.prog 3)
  rw [World.size_alloc] at h0
  obtain ⟨w1, r1, h1, g1⟩ := h0.update keyed_int Tryz.underlying165 (by unfold maxLen; omega) (keyOf_int_mk Tryz.underlying3 wf1) (plainElem_int Tryz.underlying3 v1)
  have hb1 := hb0.grown g1 (by simp) (by intro k hk; cases hk; omega)
  obtain ⟨w2, r2, h2, g2⟩ := h1.update keyed_int Tryz.underlying165 (by unfold maxLen; omega) (keyOf_int_mk Tryz.underlying3 wf2) (plainElem_int Tryz.underlying3 v2)
  have hb2 := hb1.grown g2 (by have := hb1.size; simp at this; omega) (by intro k hk; cases hk; omega)
  obtain ⟨w3, r3, h3, g3⟩ := h2.update keyed_int Tryz.underlying165 (by unfold maxLen; omega) (keyOf_int_mk Tryz.underlying3 wf3) (plainElem_int Tryz.underlying3 v3)
  have hb3 := hb2.grown g3 (by have := hb2.size; simp at this; omega) (by intro k hk; cases hk; omega)
  obtain ⟨c, r4, h4, _⟩ := h3.lookup_int keyed_int Tryz.underlying165 Tryz.underlying3 (zero_int _) (keyOf_int_mk Tryz.underlying3 vu)
  rw [at_in] at h4
  injection h4 with h4; injection h4 with _ h4
  have c1 : w1.cell? ⟨w.heap.size, 1, none⟩ = some (.int .i64 a2) := by rw [hb1.cell (p := ⟨w.heap.size, 1, none⟩) (by simp)]; simp [go_sem]
  have c2 : w2.cell? ⟨w.heap.size, 2, none⟩ = some (.int .i64 a3) := by rw [hb2.cell (p := ⟨w.heap.size, 2, none⟩) (by simp)]; simp [go_sem]
  have hb : Below w.heap.size w w3 := (((Below.refl _ w).alloc (Nat.le_refl _) _)).trans (hb3.mono (by omega))
  clear hb0 hb1 hb2 hb3 h0 h1 h2 h3 g1 g2 g3
  subst h4
  have hmm := @run_makeMap Tryz.prog
  go_enter Tryz.func30, Tryz.ntmps30
  go_wp2
  go_ret
  exact ⟨rfl, hb⟩
theorem wf_small {n : Int} (h0 : -9223372036854775808 ≤ n) (h1 : n < 9223372036854775808) : (Lit.int .i64 n).wf = true := by
  simp [Lit.wf, IntKind.min, IntKind.max, IntKind.signed, IntKind.bits]; omega
/-- How many of a unit. -/
theorem refIn_any (u : Int) (rs : List Nat) (hu0 : -9223372036854775808 ≤ u) (hu1 : u < 9223372036854775808) (hz : C1 rs ≤ 100000000) (w : World) :
    Calls Tryz.prog 30 #[cntV rs, .int .i64 u] w fun e w' => e = .returned (.int .i64 (by_ u rs)) ∧ Below w.heap.size w w' := by
  have h1 := C1_pos rs
  have h2 := C2_le rs
  have h3 := C3_le rs
  exact refinc_any (C1 rs) (C2 rs) (C3 rs) (C4 rs) u (wf_small (by omega) (by omega)) (wf_small (by omega) (by omega)) (wf_small (by omega) (by omega)) (wf_small hu0 hu1) w

/-- The places as the program counts them. -/
theorem edge_cnt {rs : List Nat} (hr : ∀ r ∈ rs, isRune r) {i : Nat} (hi : i ≤ rs.length) : edge rs i = [.int .i64 (C1 (rs.take i)), .int .i64 (C2 (rs.take i)), .int .i64 (C3 (rs.take i)), .int .i64 (C4 (rs.take i))] := by
  have h1 : edge1 rs i = C1 (rs.take i) := by unfold edge1; rw [C1_len]
  have h2 : edge2 rs i = C2 (rs.take i) := by unfold edge2 C2; rw [sum2_wide]
  have h3 : C3 (rs.take i) = (i : Int) := by show ((rs.take i).length : Int) = _; rw [List.length_take]; omega
  have h4 : edge4 rs i = C4 (rs.take i) := by unfold edge4 C4; rw [sum4_wide fun r h => hr r (List.mem_of_mem_take h)]
  unfold edge
  rw [h1, h2, h3, h4]
end Go.Proofs.YtldhbjmillfjgabGreatDoor

namespace Go.Proofs.YtldhbjmillfjgabGreatDoor
open Go.RowKit
set_option linter.unusedVariables false
attribute [local go_sem] Oper.semAt_some

theorem inB_unit (u : Int) : inB u 1 3 = true ↔ unitOk u := by
  unfold inB unitOk
  rw [decide_eq_true_iff]
  constructor
  · intro h; omega
  · intro h; omega
set_option maxHeartbeats 1000000 in
theorem refAhead_bad (s : ByteArray) (u a : Int) (hu : ¬ unitOk u) (w : World) :
    Calls Tryz.prog 63 #[.string s, .int .i64 u, .int .i64 a] w fun e w' => e = .returned (.tuple #[cntV [], .int .i64 1]) ∧ Below w.heap.size w w' := by
  have hb : inB u 1 3 = false := Bool.eq_false_iff.2 fun e => hu ((inB_unit u).1 e)
  have cI := fun wx => in_any u 1 3 wx
  rw [hb] at cI
  have hC : cntV [] = .agg #[.int .i64 0, .int .i64 0, .int .i64 0, .int .i64 0] := rfl
  have HB : Hid (Below w.heap.size w (w.alloc (.cells #[.int .i64 0, .int .i64 0, .int .i64 0, .int .i64 0] 25))) := (Below.refl _ w).alloc (Nat.le_refl _) _
  rw [hC]
  clear hu hb hC
  go_enter Tryz.func63, Tryz.ntmps63
  go_wp2_with (first
    | (go_at_call 61; refine (cI _).mono ?_; rintro e w1 ⟨rfl, hw1⟩; obtain rfl := hw1.symm)
    | fail)
  refine bodyPost_ret (v := .tuple #[.agg #[.int .i64 0, .int .i64 0, .int .i64 0, .int .i64 0], .int .i64 1]) (by simp [results, Tryz.results63, go_sem]) rfl ⟨rfl, HB.out⟩

def raI (w W : World) (g c : Nat) (rs : List Nat) (u a : Int) (k : Nat) (wr : World) : Prop :=
  k ≤ rs.length + 1 ∧ (∀ i, i < k → by_ u (rs.take i) ≠ a) ∧ Below W.heap.size W wr
set_option maxRecDepth 100000 in
set_option maxHeartbeats 8000000 in
theorem refAhead_any (s : ByteArray) (rs : List Nat) (u a : Int) (hr : ∀ r ∈ rs, isRune r) (he : encs rs = s.data.toList) (hs : s.size < 1000000) (hu : unitOk u) (h0 : 0 ≤ a) (h1 : a ≤ by_ u rs) (w : World) :
    Calls Tryz.prog 63 #[.string s, .int .i64 u, .int .i64 a] w fun e w' => e = .returned (.tuple #[cntV (if onEdge rs u a then upTo rs u a else []), .int .i64 (if onEdge rs u a then 0 else 10)]) ∧ Below w.heap.size w w' := by
  have hC1 : C1 rs = s.size := by rw [C1_len, he, ← Lib.size_eq]
  have hru : inB u 1 3 = true := (inB_unit u).2 hu
  have hra : inB a 0 (by_ u rs) = true := decide_eq_true ⟨h0, h1⟩
  have hu0 : -9223372036854775808 ≤ u ∧ u < 9223372036854775808 := by unfold unitOk at hu; omega
  have cI1 := fun wx => in_any u 1 3 wx
  rw [hru] at cI1
  have cI2 := fun wx => in_any a 0 (by_ u rs) wx
  rw [hra] at cI2
  have cC : Hid (∀ wx, Calls Tryz.prog 8 #[.string s] wx fun e w' => e = .returned (.tuple #[cntV rs, .agg #[.int .i64 0, .int .i64 (-1)]]) ∧ Below wx.heap.size wx w') := fun wx => refCount_of s rs hr he (by omega) wx
  have cN : Hid (∀ wx, Calls Tryz.prog 30 #[cntV rs, .int .i64 u] wx fun e w' => e = .returned (.int .i64 (by_ u rs)) ∧ Below wx.heap.size wx w') := fun wx => refIn_any u rs hu0.1 hu0.2 (by omega) wx
  have hsc := scan_encs rs hr
  rw [he] at hsc
  have hro : runesOf s.data.toList = rs := by
    unfold runesOf
    rw [hsc]
    simp [wide, List.map_map, Function.comp_def]
  have cE : Hid (∀ wx, Calls Tryz.prog 118 #[.string s] wx fun e w' => ∃ v, e = .returned v ∧ w'.ownsRow wx.heap.size 25 4 v (rs.length + 1) (edges rs (rs.length + 1)) ∧ Below wx.heap.size wx w') := fun wx => by
    have := refEdges_any s (by omega) wx (by rw [hsc])
    rw [hro] at this
    exact this
  obtain ⟨e1, e2⟩ := edge_first hu h1
  have HE1 : Hid _ := e1
  have HE2 : Hid _ := e2
  have HR : Hid (∀ r ∈ rs, isRune r) := hr
  have cT : Hid (∀ i wx, Calls Tryz.prog 30 #[cntV (rs.take i), .int .i64 u] wx fun e w' => e = .returned (.int .i64 (by_ u (rs.take i))) ∧ Below wx.heap.size wx w') := fun i wx => refIn_any u (rs.take i) hu0.1 hu0.2 (by
    have e : C1 rs = C1 (rs.take i) + C1 (rs.drop i) := by rw [← C1_append, List.take_append_drop]
    have := C1_pos (rs.drop i)
    omega) wx
  have hrl : rs.length < 1000000 := by have := C3_le rs; unfold C3 at this; omega
  have hb0 : Below w.heap.size w (w.alloc (.cells #[.int .i64 0, .int .i64 0, .int .i64 0, .int .i64 0] 25)) := (Below.refl _ w).alloc (Nat.le_refl _) _
  have HB0 : Hid _ := hb0
  have HK0 : Hid (counted (w.alloc (.cells #[.int .i64 0, .int .i64 0, .int .i64 0, .int .i64 0] 25)) w.heap.size 0 0 0 0) := counted_new w 0 0 0 0 25
  obtain ⟨Bu, hBu⟩ : ∃ Bu, by_ u rs = Bu := ⟨_, rfl⟩
  rw [hBu] at cI2 cN
  obtain ⟨XA, hXA⟩ : ∃ XA, (if onEdge rs u a then upTo rs u a else []) = XA := ⟨_, rfl⟩
  obtain ⟨EA, hEA⟩ : ∃ EA : Int, (if onEdge rs u a then 0 else 10) = EA := ⟨_, rfl⟩
  have HXA : Hid _ := hXA
  have HEA : Hid _ := hEA
  rw [hXA, hEA]
  clear hXA hEA
  unfold cntV at cC cN cT
  clear hr he hs hu h0 h1 hC1 hru hra hu0 hsc hro e1 e2 hb0 hBu
  go_enter Tryz.func63, Tryz.ntmps63
  go_wp2_with (first
    | (have _ := HB2; go_at_call 61; refine (cI2 _).mono ?_; rintro e w1 ⟨rfl, hw1⟩; obtain rfl := hw1.symm)
    | (go_at_call 61; refine (cI1 _).mono ?_; rintro e w1 ⟨rfl, hw1⟩; obtain rfl := hw1.symm)
    | (go_at_call 8; refine (cC.out _).mono ?_; rintro e w1 ⟨rfl, hb1⟩; have HB1 : Hid (Below w.heap.size w w1) := HB0.out.trans (hb1.mono HB0.out.size); have HK1 : Hid (counted w1 w.heap.size 0 0 0 0) := counted_below HK0.out hb1; have hbx := (Below.refl w1.heap.size w1).alloc (Nat.le_refl _) (.cells #[.int .i64 (C1 rs), .int .i64 (C2 rs), .int .i64 (C3 rs), .int .i64 (C4 rs)] 25); have hby := hbx.alloc hbx.size (.cells #[.int .i64 0, .int .i64 (-1)] 28); have HBY : Hid (Below w1.heap.size w1 ((w1.alloc (.cells #[.int .i64 (C1 rs), .int .i64 (C2 rs), .int .i64 (C3 rs), .int .i64 (C4 rs)] 25)).alloc (.cells #[.int .i64 0, .int .i64 (-1)] 28))) := hby; clear hb1 hbx hby)
    | (go_at_call 30; refine (cN.out _).mono ?_; rintro e w2 ⟨rfl, hb2⟩; have HB2 : Hid (Below w.heap.size w w2) := HB1.out.trans ((HBY.out.trans (hb2.mono HBY.out.size)).mono HB1.out.size); have HK2 : Hid (counted w2 w.heap.size 0 0 0 0) := counted_below HK1.out (HBY.out.trans (hb2.mono HBY.out.size)); clear hb2)
    | (go_at_call 118; refine (cE.out _).mono ?_; rintro e w3 ⟨v3, rfl, ho3, hb3⟩; obtain ⟨g, c3, rfl, hg1, hg2⟩ := own_pos ho3 (Nat.succ_pos _); have HO3 : Hid (w3.ownsRow w2.heap.size 25 4 (.slice (some ⟨g, 0, none⟩) (rs.length + 1) c3) (rs.length + 1) (edges rs (rs.length + 1))) := ho3; have HB3 : Hid (Below w.heap.size w w3) := HB2.out.trans (hb3.mono HB2.out.size); have HK3 : Hid (counted w3 w.heap.size 0 0 0 0) := counted_below HK2.out hb3; clear ho3 hb3)
    | fail)
  clear cI1 cI2 cC cN cE HB0 HB1 HBY HB2 HK0 HK1 HK2
  go_loopw [31] (fun i wr => ∃ k : Nat, i = .int .i64 k ∧ k ≤ rs.length + 1 ∧ (∀ j, j < k → by_ u (rs.take j) ≠ a) ∧ Below w3.heap.size w3 wr) (fun i _ => rs.length + 1 - (intOf i).toNat)
  case atStart => exact ⟨0, rfl, Nat.zero_le _, fun j hj => absurd hj (Nat.not_lt_zero _), Below.refl _ _⟩
  case round =>
    obtain ⟨k, rfl, hk, hno, hbw⟩ := hrel
    have HNO : Hid (∀ j, j < k → by_ u (rs.take j) ≠ a) := hno
    have HBW : Hid (Below w3.heap.size w3 wr) := hbw
    have hKr := counted_below HK3.out hbw
    have HKR : Hid (counted wr w.heap.size 0 0 0 0) := hKr
    have HWR : Hid (Below w.heap.size w wr) := HB3.out.trans (hbw.mono HB3.out.size)
    clear hno hKr
    by_cases hlt : k < rs.length + 1
    · have hkl : (k : Int) < (rs.length : Int) + 1 := by omega
      have hown := own_below HO3.out hbw
      have hec := edge_cnt HR.out (i := k) (by omega)
      have g0 : wr.cell? ⟨g, k * 4, none⟩ = some (.int .i64 (C1 (rs.take k))) := edge_cell hown k 0 hlt (by omega) (by rw [hec]; rfl)
      have g1 : wr.cell? ⟨g, k * 4 + 1, none⟩ = some (.int .i64 (C2 (rs.take k))) := edge_cell hown k 1 hlt (by omega) (by rw [hec]; rfl)
      have g2 : wr.cell? ⟨g, k * 4 + 2, none⟩ = some (.int .i64 (C3 (rs.take k))) := edge_cell hown k 2 hlt (by omega) (by rw [hec]; rfl)
      have g3 : wr.cell? ⟨g, k * 4 + 3, none⟩ = some (.int .i64 (C4 (rs.take k))) := edge_cell hown k 3 hlt (by omega) (by rw [hec]; rfl)
      have hbx : Below wr.heap.size wr (wr.alloc (.cells #[.int .i64 (C1 (rs.take k)), .int .i64 (C2 (rs.take k)), .int .i64 (C3 (rs.take k)), .int .i64 (C4 (rs.take k))] 25)) := (Below.refl _ _).alloc (Nat.le_refl _) _
      have HBX : Hid (Below wr.heap.size wr (wr.alloc (.cells #[.int .i64 (C1 (rs.take k)), .int .i64 (C2 (rs.take k)), .int .i64 (C3 (rs.take k)), .int .i64 (C4 (rs.take k))] 25))) := hbx
      have HCX : Hid (counted (wr.alloc (.cells #[.int .i64 (C1 (rs.take k)), .int .i64 (C2 (rs.take k)), .int .i64 (C3 (rs.take k)), .int .i64 (C4 (rs.take k))] 25)) wr.heap.size (C1 (rs.take k)) (C2 (rs.take k)) (C3 (rs.take k)) (C4 (rs.take k))) := counted_new wr _ _ _ _ _
      have cK := fun wx => cT.out k wx
      have CK : Hid (∀ wx, Calls Tryz.prog 30 #[.agg #[.int .i64 (C1 (rs.take k)), .int .i64 (C2 (rs.take k)), .int .i64 (C3 (rs.take k)), .int .i64 (C4 (rs.take k))], .int .i64 u] wx fun e w' => e = .returned (.int .i64 (by_ u (rs.take k))) ∧ Below wx.heap.size wx w') := cK
      by_cases heq : by_ u (rs.take k) = a
      · have HEQ : Hid (onEdge rs u a = true ∧ upTo rs u a = rs.take k) := by
          show onEdge rs u a = true ∧ upTo rs u a = rs.take k
          cases hE : onEdge rs u a with
          | false => exact absurd heq (HE2.out hE k (by omega))
          | true =>
            obtain ⟨j, j1, j2, j3, j4⟩ := HE1.out hE
            have : j = k := by
              by_cases h1 : j < k
              · exact absurd j3 (HNO.out j h1)
              · by_cases h2 : k < j
                · exact absurd heq (j4 k h2)
                · omega
            subst this
            exact ⟨rfl, j2⟩
        rw [heq] at CK
        clear hown hec hbx cK heq hbw HNO
        go_wp2_with (first
          | (go_at_call 30; refine (CK.out _).mono ?_; rintro e w5 ⟨rfl, hb5⟩; have hg := HBX.out.trans (hb5.mono HBX.out.size); have HB5 : Hid (Below w.heap.size w w5) := HWR.out.trans (hg.mono HWR.out.size); have HK5 : Hid (counted w5 w.heap.size 0 0 0 0) := counted_below HKR.out hg; have hC5 := counted_below HCX.out hb5; have HC5 : Hid _ := hC5; obtain ⟨⟨m0, m1, m2, m3⟩, _⟩ := hC5; obtain ⟨⟨z0, z1, z2, z3⟩, y0, y1, y2, y3⟩ := counted_below HKR.out hg; clear hb5 hg)
          | fail)
        have hset := counted_set (m1 := C1 (rs.take k)) (m2 := C2 (rs.take k)) (m3 := C3 (rs.take k)) (m4 := C4 (rs.take k)) HK5.out
        obtain ⟨⟨s0, s1, s2, s3⟩, _⟩ := hset
        refine bodyPost_ret (v := .tuple #[.agg #[.int .i64 (C1 (rs.take k)), .int .i64 (C2 (rs.take k)), .int .i64 (C3 (rs.take k)), .int .i64 (C4 (rs.take k))], .int .i64 0]) (by simp [results, Tryz.results63, go_sem, s0, s1, s2, s3]) rfl ⟨?_, below_set4 HB5.out (Nat.le_refl _) _ _ _ _⟩
        rw [← HXA.out, ← HEA.out, HEQ.out.1, HEQ.out.2]; rfl
      · have hne : (by_ u (rs.take k) == a) = false := beq_eq_false_iff_ne.2 heq
        have HNE : Hid (by_ u (rs.take k) ≠ a) := heq
        obtain ⟨bx, hbxe⟩ : ∃ bx, by_ u (rs.take k) = bx := ⟨_, rfl⟩
        rw [hbxe] at CK hne
        clear hown hec hbx cK heq hbw hbxe
        go_wp2_with (first
          | (go_at_call 30; refine (CK.out _).mono ?_; rintro e w5 ⟨rfl, hb5⟩; have hg := HBX.out.trans (hb5.mono HBX.out.size); have HB5 : Hid (Below w3.heap.size w3 w5) := HBW.out.trans (hg.mono HBW.out.size); clear hb5 hg)
          | fail)
        go_roundw
        case rel =>
          refine ⟨k + 1, by go_num, by omega, fun j hj => ?_, HB5.out⟩
          by_cases h1 : j = k
          · subst h1; exact HNE.out
          · exact HNO.out j (by omega)
        case measure => simp [intOf]; omega
    · obtain rfl : k = rs.length + 1 := by omega
      have hkl : ¬ ((rs.length + 1 : Nat) : Int) < (rs.length : Int) + 1 := by omega
      have HEQ : Hid (onEdge rs u a = false) := by
        show onEdge rs u a = false
        cases hE : onEdge rs u a with
        | false => rfl
        | true =>
          obtain ⟨j, j1, j2, j3, j4⟩ := HE1.out hE
          exact absurd j3 (HNO.out j (by omega))
      clear hbw HNO
      obtain ⟨⟨z0, z1, z2, z3⟩, y0, y1, y2, y3⟩ := HKR.out
      go_wp2
      have hset := counted_set (m1 := 0) (m2 := 0) (m3 := 0) (m4 := 0) HKR.out
      obtain ⟨⟨s0, s1, s2, s3⟩, _⟩ := hset
      refine bodyPost_ret (v := .tuple #[.agg #[.int .i64 0, .int .i64 0, .int .i64 0, .int .i64 0], .int .i64 10]) (by simp [results, Tryz.results63, go_sem, s0, s1, s2, s3]) rfl ⟨?_, below_set4 HWR.out (Nat.le_refl _) _ _ _ _⟩
      rw [← HXA.out, ← HEA.out, HEQ.out]; rfl
end Go.Proofs.YtldhbjmillfjgabGreatDoor
