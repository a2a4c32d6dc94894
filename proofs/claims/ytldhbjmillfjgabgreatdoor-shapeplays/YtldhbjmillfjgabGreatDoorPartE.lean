/-
  An operation that is handed in: what it reads as, and how great it is.
  A slice of operations that is handed in: what it reads as.
  rosettaref's edge, and what it says of an operation's parts.
  rosettaref's Apply.
  rosettalaw.OpsTransform: the law's own walk.
  The document's own Count, of a sound text.
  The document's own In, of counts.
  The document's own Ahead: all places are looked at.
  The document's own Turn.
  bridge.To and From, and the document's Turn, of any operation by any units.
  rosettalaw.ShapePlays: the law's own walk.
  Three operations (pure): composed alike in whichever order; and a third one sees no difference.
  ops' functions at operations that never cut a rune of their text, as rosettakeep calls them.
  rosettalaw.ShapePlays: whatever is done, the document's answer.
  rosettalaw.ShapePlays, at every argument.
-/
import Derived.Test.YtldhbjmillfjgabGreatDoorPartB
import Derived.Test.YtldhbjmillfjgabGreatDoorRows
import Derived.Deep.Slices
import Derived.Deep.Strs
import Derived.ChangeSame
import Derived.OpenShut
import Derived.Test.YtldhbjmillfjgabGreatDoorPartC
import Derived.Laws.EntriesVeiled
import Derived.Deep.LoopGhost
import Derived.Deep.Cut
import Derived.Maps.OwnOps
import Derived.Test.YtldhbjmillfjgabGreatDoorPartA
import Derived.Test.YtldhbjmillfjgabGreatDoorPartD
import Derived.Deep.QuietTactic
import Derived.BigQuiet
import Derived.Stop.RegionWithIn
namespace Go.Proofs.YtldhbjmillfjgabGreatDoor
open Go.RowKit Go.Deep Go.ChangeShapes Go.WideShapes
set_option linter.unusedVariables false

def rangeP (p : Pt) : Prop := -9223372036854775808 ≤ p.keep ∧ p.keep < 9223372036854775808 ∧ -9223372036854775808 ≤ p.drop ∧ p.drop < 9223372036854775808

theorem bulk_part {H : Type} {d : DataW H} {l : List (DataW H)} (h : d ∈ l) : Rows.uptoBulk d ≤ Rows.uptoBulkAll l := by
  induction l with
  | nil => cases h
  | cons x r ih =>
    simp only [Rows.uptoBulkAll]
    rcases List.mem_cons.1 h with e | e
    · subst e; omega
    · have := ih e; omega

theorem cellsOf_part : Tryz.prog.cellsOf 50 = 3 := by kernel_rfl
theorem cellsOf_int : Tryz.prog.cellsOf 3 = 1 := by kernel_rfl
theorem cellsOf_str : Tryz.prog.cellsOf 9 = 1 := by kernel_rfl

theorem open_part {H : Type} {enc : TypeId × Value → H} {W : World} {base : Nat} {sp : Nat → Bool} {held : Bool} {n : Nat} {a : Addr} {cs : List Value} {y : DataW H × List MemPlace}
    (h1 : W.cells? base a 3 = some cs) (h2 : DataW.trod enc Tryz.prog W base sp held n 50 cs = some y) :
    ∃ q : Pt, a.spot = none ∧ W.cell? ⟨a.block, a.off, none⟩ = some (.int .i64 q.keep) ∧ W.cell? ⟨a.block, a.off + 1, none⟩ = some (.int .i64 q.drop) ∧ W.cell? ⟨a.block, a.off + 2, none⟩ = some (.string ⟨q.put.toArray⟩) ∧ rangeP q ∧ q.put.length ≤ maxLen ∧
      y.1 = .agg [.lit (.int .i64 q.keep), .lit (.int .i64 q.drop), .lit (.string q.put)] := by
  obtain ⟨_, hlen, hcell⟩ := World.cells?_some h1
  obtain ⟨y0, y1, y2, m, rfl, _, t0, t1, t2⟩ := trod_struct3 Tryz.underlying50 h2
  rw [cellsOf_int] at t0 t1
  rw [cellsOf_str] at t2
  match cs, hlen with
  | [c0, c1, c2], _ =>
    simp only [List.drop_zero, List.take_succ_cons, List.take_zero, List.drop_succ_cons] at t0 t1 t2
    obtain ⟨K, e0, rfl, w0⟩ := DataW.trod_int Tryz.underlying3 t0
    obtain ⟨D, e1, rfl, w1⟩ := DataW.trod_int Tryz.underlying3 t1
    obtain ⟨s, e2, rfl, w2⟩ := DataW.trod_string Tryz.underlying9 t2
    simp only [List.cons.injEq, and_true] at e0 e1 e2
    subst e0 e1 e2
    obtain ⟨b, o, spot⟩ := a
    have k0 := hcell 0 (by omega)
    have k1 := hcell 1 (by omega)
    have k2 := hcell 2 (by omega)
    have hspot : spot = none := by simpa [Addr.add] using World.cell?_spot (show W.cell? ((⟨b, o, spot⟩ : Addr).add 0) = some (.int .i64 K) from k0)
    subst hspot
    rw [Addr.add_lit] at k0 k1 k2
    have hw0 := bounds_i64 w0
    have hw1 := bounds_i64 w1
    have es : (ByteArray.mk s.data.toList.toArray) = s := by cases s; simp
    refine ⟨⟨K, D, s.data.toList⟩, rfl, k0, k1, by rw [es]; exact k2, ⟨hw0.1, by show K < _; omega, hw1.1, by show D < _; omega⟩, ?_, rfl⟩
    rw [Lib.size_eq] at w2
    exact w2

theorem open_op {H : Type} {enc : TypeId × Value → H} {W : World} {base : Nat} {sp : Nat → Bool} {held : Bool} {fuel : Nat} {v : Value} {x : DataW H × List MemPlace}
    (h : DataW.trod enc Tryz.prog W base sp held fuel 23 [v] = some x) :
    ∃ ps, opAt W v ps ∧ (∀ p ∈ ps, rangeP p ∧ p.put.length ≤ maxLen) ∧ (∀ p ∈ ps, p.put.length ≤ Rows.uptoBulk x.1) ∧ ps.length ≤ maxLen := by
  rcases open_slice Tryz.underlying23 h with ⟨hcs, _⟩ | ⟨a, len, cap, m, n, D, Pl, hcs, hb, hl, hm, hmm, rfl, hx⟩
  · simp only [List.cons.injEq, and_true] at hcs
    subst hcs
    exact ⟨[], ⟨none, 0, rfl, Nat.le_refl _, Nat.zero_le _, fun h => absurd rfl h⟩, by simp, by simp, Nat.zero_le _⟩
  · simp only [List.cons.injEq, and_true] at hcs
    subst hcs
    have hlm : len ≤ m := by rw [hmm]; split <;> omega
    haveI : Inhabited Pt := ⟨⟨0, 0, []⟩⟩
    obtain ⟨f, hf⟩ := choose_lt (α := Pt) (n := len) (p := fun i q => (a.add (i * 3)).spot = none ∧ W.cell? ⟨(a.add (i * 3)).block, (a.add (i * 3)).off, none⟩ = some (.int .i64 q.keep) ∧ W.cell? ⟨(a.add (i * 3)).block, (a.add (i * 3)).off + 1, none⟩ = some (.int .i64 q.drop) ∧ W.cell? ⟨(a.add (i * 3)).block, (a.add (i * 3)).off + 2, none⟩ = some (.string ⟨q.put.toArray⟩) ∧ rangeP q ∧ q.put.length ≤ maxLen ∧
        D i = .agg [.lit (.int .i64 q.keep), .lit (.int .i64 q.drop), .lit (.string q.put)]) (fun i hi => by
      obtain ⟨cs, h1, h2⟩ := hx i (by omega)
      rw [cellsOf_part] at h1
      obtain ⟨q, hq⟩ := open_part h1 h2
      exact ⟨q, hq⟩)
    have hlen : ((List.range len).map f).length = len := by simp
    refine ⟨(List.range len).map f, ⟨some a, cap, by rw [hlen], by rw [hlen]; exact hl, hm, fun hne => ?_⟩, ?_, ?_, by rw [hlen]; omega⟩
    · have hpos : 0 < len := by
        cases len with
        | zero => exact absurd rfl hne
        | succ n => exact Nat.succ_pos n
      obtain ⟨b, o, spot⟩ := a
      have hs0 := (hf 0 hpos).1
      have hspot : spot = none := by simpa [Addr.add] using hs0
      subst hspot
      refine ⟨b, o, rfl, ?_, fun i q hi => ?_⟩
      · have := World.block_lt_of_cell? W _ (hf 0 hpos).2.1
        rw [Addr.add_lit] at this
        exact this
      · have hil : i < len := by have := (List.getElem?_eq_some_iff.1 hi).1; rw [hlen] at this; exact this
        have e : q = f i := by
          rw [List.getElem?_map, List.getElem?_range hil] at hi
          exact (Option.some.inj hi).symm
        subst e
        obtain ⟨_, k0, k1, k2, _⟩ := hf i hil
        rw [Addr.add_lit] at k0 k1 k2
        exact ⟨k0, k1, k2⟩
    · intro p hp
      obtain ⟨i, hi, rfl⟩ := List.mem_map.1 hp
      have := hf i (List.mem_range.1 hi)
      exact ⟨this.2.2.2.2.1, this.2.2.2.2.2.1⟩
    · intro p hp
      obtain ⟨i, hi, rfl⟩ := List.mem_map.1 hp
      have hd := (hf i (List.mem_range.1 hi)).2.2.2.2.2.2
      have h1 : Rows.uptoBulk (D i) ≤ Rows.uptoBulkAll ((List.range len).map D) := bulk_part (List.mem_map.2 ⟨i, hi, rfl⟩)
      rw [hd] at h1
      simp only [Rows.uptoBulk, Rows.uptoBulkAll] at h1 ⊢
      omega
end Go.Proofs.YtldhbjmillfjgabGreatDoor

namespace Go.Proofs.YtldhbjmillfjgabGreatDoor
open Go.RowKit Go.Deep Go.ChangeShapes Go.WideShapes
set_option linter.unusedVariables false

/-- A slice of operations. -/
def opsAt (w : World) (v : Value) (l : List (List Pt)) : Prop := ∃ p c, v = .slice p l.length c ∧ l.length ≤ c ∧ c ≤ maxLen ∧ (l ≠ [] → ∃ b o, p = some ⟨b, o, none⟩ ∧ b < w.heap.size ∧ ∀ i q, l[i]? = some q → ∃ v', w.cell? ⟨b, o + i, none⟩ = some v' ∧ opAt w v' q)
/-- Where it is small, its numbers are numbers. -/
def smallWf (q : List Pt) : Prop := ∀ p ∈ q, p.put.length ≤ 300 → wfP p
theorem cellsOf_op : Tryz.prog.cellsOf 23 = 1 := by kernel_rfl
theorem small_of {q : List Pt} (h : ∀ p ∈ q, rangeP p ∧ p.put.length ≤ maxLen) : smallWf q := fun p hp hs => by
  obtain ⟨⟨r1, r2, r3, r4⟩, _⟩ := h p hp
  exact ⟨r1, r2, r3, r4, by omega⟩
theorem open_ops {H : Type} {enc : TypeId × Value → H} {W : World} {base : Nat} {sp : Nat → Bool} {held : Bool} {fuel : Nat} {v : Value} {x : DataW H × List MemPlace}
    (h : DataW.trod enc Tryz.prog W base sp held fuel 60 [v] = some x) :
    ∃ l, opsAt W v l ∧ ∀ q ∈ l, smallWf q := by
  rcases open_slice Tryz.underlying60 h with ⟨hcs, _⟩ | ⟨a, len, cap, m, n, D, Pl, hcs, hb, hl, hm, hmm, rfl, hx⟩
  · simp only [List.cons.injEq, and_true] at hcs
    subst hcs
    exact ⟨[], ⟨none, 0, rfl, Nat.le_refl _, Nat.zero_le _, fun h => absurd rfl h⟩, by simp⟩
  · simp only [List.cons.injEq, and_true] at hcs
    subst hcs
    have hlm : len ≤ m := by rw [hmm]; split <;> omega
    obtain ⟨f, hf⟩ := choose_lt (α := List Pt) (n := len) (p := fun i q => (a.add (i * 1)).spot = none ∧ (∃ v', W.cell? ⟨(a.add (i * 1)).block, (a.add (i * 1)).off, none⟩ = some v' ∧ opAt W v' q) ∧ smallWf q) (fun i hi => by
      obtain ⟨cs, h1, h2⟩ := hx i (by omega)
      rw [cellsOf_op] at h1
      obtain ⟨_, hlen, hcell⟩ := World.cells?_some h1
      match cs, hlen with
      | [c0], _ =>
        obtain ⟨ps, p1, p2, _, _⟩ := open_op h2
        have k0 := hcell 0 (by omega)
        have hspot : (a.add (i * 1)).spot = none := by simpa [Addr.add] using World.cell?_spot (show W.cell? ((a.add (i * 1)).add 0) = some c0 from k0)
        refine ⟨ps, hspot, ⟨c0, ?_, p1⟩, small_of p2⟩
        generalize a.add (i * 1) = a' at k0 hspot
        obtain ⟨b, o, spot⟩ := a'
        obtain rfl : spot = none := hspot
        have k0 : W.cell? ((⟨b, o, none⟩ : Addr).add 0) = some c0 := k0
        rw [Addr.add_lit] at k0
        exact k0)
    have hlen : ((List.range len).map f).length = len := by simp
    refine ⟨(List.range len).map f, ⟨some a, cap, by rw [hlen], by rw [hlen]; exact hl, hm, fun hne => ?_⟩, ?_⟩
    · have hpos : 0 < len := by
        cases len with
        | zero => exact absurd rfl hne
        | succ n => exact Nat.succ_pos n
      obtain ⟨b, o, spot⟩ := a
      have hs0 := (hf 0 hpos).1
      have hspot : spot = none := by simpa [Addr.add] using hs0
      subst hspot
      refine ⟨b, o, rfl, ?_, fun i q hi => ?_⟩
      · obtain ⟨_, ⟨v', hv, _⟩, _⟩ := hf 0 hpos
        have := World.block_lt_of_cell? W _ hv
        rw [Addr.add_lit] at this
        exact this
      · have hil : i < len := by have := (List.getElem?_eq_some_iff.1 hi).1; rw [hlen] at this; exact this
        have e : q = f i := by
          rw [List.getElem?_map, List.getElem?_range hil] at hi
          exact (Option.some.inj hi).symm
        subst e
        obtain ⟨_, ⟨v', k0, k1⟩, _⟩ := hf i hil
        rw [Addr.add_lit, Nat.mul_one] at k0
        exact ⟨v', k0, k1⟩
    · intro q hq
      obtain ⟨i, hi, rfl⟩ := List.mem_map.1 hq
      exact (hf i (List.mem_range.1 hi)).2.2
end Go.Proofs.YtldhbjmillfjgabGreatDoor

namespace Go.Proofs.YtldhbjmillfjgabGreatDoor
open Go.RowKit
set_option linter.unusedVariables false
attribute [local go_sem] Oper.semAt_some

/-- What the document asks of the places where parts meet. -/
def refBad : List Pt → List UInt8 → Bool
  | [], _ => false
  | p :: ps, s => badPiece s || badPiece (s.drop (lenP p).toNat) || refBad ps (s.drop (lenP p).toNat)
theorem badO_head (ps : List Pt) (s : List UInt8) (hl : leftP ps s = []) (h : badPiece s = true) : badO ps s = true := by
  induction ps generalizing s with
  | nil =>
    have : s = [] := hl
    rw [this] at h
    cases h
  | cons p ps ih =>
    rw [badO, Bool.or_eq_true]
    cases hn : (lenP p).toNat with
    | zero =>
      refine .inr ?_
      have hl' : leftP ps (s.drop (lenP p).toNat) = [] := hl
      rw [hn] at hl'
      exact ih _ hl' h
    | succ m =>
      refine .inl ?_
      cases s with
      | nil => cases h
      | cons b l => exact h
theorem refBad_eq (ps : List Pt) (s : List UInt8) (hl : leftP ps s = []) : refBad ps s = badO ps s := by
  induction ps generalizing s with
  | nil => rfl
  | cons p ps ih =>
    have hl' : leftP ps (s.drop (lenP p).toNat) = [] := hl
    have e := ih _ hl'
    rw [Bool.eq_iff_iff]
    constructor
    · intro h
      rw [refBad, Bool.or_eq_true, Bool.or_eq_true] at h
      rcases h with (h | h) | h
      · exact badO_head (p :: ps) s hl h
      · rw [badO, Bool.or_eq_true]; exact .inr (badO_head ps _ hl' h)
      · rw [badO, Bool.or_eq_true]; rw [e] at h; exact .inr h
    · intro h
      rw [badO, Bool.or_eq_true] at h
      rw [refBad, Bool.or_eq_true, Bool.or_eq_true]
      rcases h with h | h
      · refine .inl (.inl ?_)
        cases s with
        | nil => simp [badPiece] at h
        | cons b l =>
          cases hn : (lenP p).toNat with
          | zero => rw [hn] at h; cases h
          | succ m => rw [hn] at h; exact h
      · rw [← e] at h; exact .inr h

theorem startO_eq (b : UInt8) : startO b = (decide ((b.toNat : Int) < 128) || decide (192 ≤ (b.toNat : Int))) := by
  have hb := b.toNat_lt
  unfold startO Lib.runeStart
  rw [Bool.eq_iff_iff]
  simp only [bne_iff_ne, ne_eq, Bool.or_eq_true, decide_eq_true_eq]
  omega
set_option maxRecDepth 100000 in
set_option maxHeartbeats 1000000 in
theorem edge_end (s : List UInt8) (w : World) (hs : s.length < 1000000000) :
    Calls Tryz.prog 87 #[.string ⟨s.toArray⟩, .int .i64 s.length] w fun e w' => e = .returned (.bool true) ∧ w' = w := by
  have hz := str_size s
  go_enter Tryz.func87, Tryz.ntmps87
  go_wp2
  go_ret
  exact ⟨rfl, rfl⟩
set_option maxRecDepth 100000 in
set_option maxHeartbeats 1000000 in
theorem edge_mid (s : List UInt8) (k : Nat) (w : World) (hs : s.length < 1000000000) (hk : k < s.length) :
    Calls Tryz.prog 87 #[.string ⟨s.toArray⟩, .int .i64 k] w fun e w' => e = .returned (.bool (!badPiece (s.drop k))) ∧ w' = w := by
  have hz := str_size s
  have hd : s.drop k = s[k] :: s.drop (k + 1) := List.drop_eq_getElem_cons hk
  have hb : badPiece (s.drop k) = !startO s[k] := by rw [hd]; rfl
  rw [startO_eq] at hb
  obtain ⟨R, hR⟩ : ∃ R, (!badPiece (s.drop k)) = R := ⟨_, rfl⟩
  have HB : Hid (R = (decide ((s[k].toNat : Int) < 128) || decide (192 ≤ (s[k].toNat : Int)))) := by
    show R = _
    rw [← hR, hb, Bool.not_not]
  rw [hR]
  clear hd hb hR
  go_enter Tryz.func87, Tryz.ntmps87
  go_wp2
  all_goals go_ret
  all_goals refine ⟨?_, rfl⟩
  all_goals rw [HB.out]
  all_goals have hne : ((k : Int) == (s.length : Int)) = false := beq_eq_false_iff_ne.2 (by omega)
  all_goals first
    | (rw [hne, Bool.false_or]; rfl)
    | (rename_i h; have h' : (s[k].toNat : Int) < 128 := h; rw [decide_eq_true h']; rfl)
theorem edge_any (s : List UInt8) (k : Nat) (w : World) (hs : s.length < 1000000000) (hk : k ≤ s.length) :
    Calls Tryz.prog 87 #[.string ⟨s.toArray⟩, .int .i64 k] w fun e w' => e = .returned (.bool (!badPiece (s.drop k))) ∧ w' = w := by
  rcases Nat.lt_or_ge k s.length with h | h
  · exact edge_mid s k w hs h
  · obtain rfl : k = s.length := Nat.le_antisymm hk h
    rw [List.drop_length]
    exact edge_end s w hs
end Go.Proofs.YtldhbjmillfjgabGreatDoor

namespace Go.Proofs.YtldhbjmillfjgabGreatDoor
open Go.RowKit
set_option linter.unusedVariables false
attribute [local go_sem] Oper.semAt_some

/-- How far so many parts reach. -/
def atP (ps : List Pt) : Nat := (ps.map fun p => (lenP p).toNat).sum
theorem leftP_at (ps : List Pt) (s : List UInt8) : leftP ps s = s.drop (atP ps) := by
  induction ps generalizing s with
  | nil => rfl
  | cons p ps ih =>
    show leftP ps (s.drop (lenP p).toNat) = _
    rw [ih, List.drop_drop]
    simp [atP]
theorem at_snoc (ps : List Pt) (p : Pt) : atP (ps ++ [p]) = atP ps + (lenP p).toNat := by simp [atP]
theorem fits_le (ps : List Pt) (s : List UInt8) (h : fitsP ps s) (k : Nat) : atP (ps.take k) ≤ s.length := by
  induction ps generalizing s k with
  | nil => simp [atP]
  | cons p ps ih =>
    obtain ⟨h1, h2, h3, h4⟩ := h
    cases k with
    | zero => simp [atP]
    | succ k =>
      have := ih _ h4 k
      rw [List.length_drop] at this
      show atP (p :: ps.take k) ≤ _
      unfold atP at this ⊢
      simp only [List.map_cons, List.sum_cons]
      omega
theorem refBad_at (ps : List Pt) (s : List UInt8) (k : Nat) (hk : k < ps.length) : refBad (ps.drop k) (s.drop (atP (ps.take k))) = (badPiece (s.drop (atP (ps.take k))) || badPiece (s.drop (atP (ps.take (k + 1)))) || refBad (ps.drop (k + 1)) (s.drop (atP (ps.take (k + 1))))) := by
  rw [List.drop_eq_getElem_cons hk, refBad, List.drop_drop, ← at_snoc, ← List.take_succ_eq_append_getElem hk]
theorem applyP_snoc (ps : List Pt) (s : List UInt8) (k : Nat) (hk : k < ps.length) : applyP (ps.take (k + 1)) s = applyP (ps.take k) s ++ madeP (ps[k], (s.drop (atP (ps.take k))).take (lenP ps[k]).toNat) := by
  unfold applyP
  rw [List.take_succ_eq_append_getElem hk, pcs_append, List.flatMap_append, leftP_at]
  simp [pcs]
/-- What the document adds of a part. -/
theorem made_cut (s : List UInt8) (a : Nat) (p : Pt) (h0 : 0 ≤ p.keep) (h1 : 0 ≤ p.drop) (h2 : p.keep = 0 ∨ p.drop = 0) : madeP (p, (s.drop a).take (lenP p).toNat) = (s.drop a).take p.keep.toNat ++ p.put := by
  unfold madeP lenP
  rcases Int.lt_or_le 0 p.keep with h | h
  · rw [if_pos h]
    have : p.drop = 0 := by omega
    simp [this]
  · have : p.keep = 0 := by omega
    simp [this]

theorem apply_lenR {ps : List Pt} {s : List UInt8} (h : fitsP ps s) (k : Nat) : (applyP (ps.take k) s).length ≤ s.length + putsP ps := by
  have e : pcs ps s = pcs (ps.take k) s ++ pcs (ps.drop k) (leftP (ps.take k) s) := by
    conv => lhs; rw [← List.take_append_drop k ps]
    rw [pcs_append]
  exact made_pre h e
theorem cat3 (a u : List UInt8) (X : ByteArray) (x : List UInt8) (h : X.data.toList = x) : ByteArray.mk a.toArray ++ (X ++ ByteArray.mk u.toArray) = ByteArray.mk (a ++ (x ++ u)).toArray := by
  subst h
  apply ByteArray.ext
  simp [ByteArray.data_append]
theorem cut_mid (l : List UInt8) (a n : Nat) : ((ByteArray.mk l.toArray).extract a (a + n)).data.toList = (l.drop a).take n := by
  rw [Lib.extract_data]
  simp

set_option maxRecDepth 100000 in
set_option maxHeartbeats 2000000 in
theorem refApply_err (v : Value) (ps : List Pt) (s : List UInt8) (w : World) (hr : opAt w v ps) (hwf : ∀ p ∈ ps, wfP p) (hsm : ∀ p ∈ ps, p.put.length < 100000000) (hs : s.length < 1000000000) (hl : ps.length < 10000000) (he : chkE ps (s.length : Int) ≠ 0) :
    Calls Tryz.prog 28 #[v, .string ⟨s.toArray⟩] w fun e w' => e = .returned (.tuple #[.string ⟨#[]⟩, .int .i64 (chkE ps (s.length : Int))]) ∧ Below w.heap.size w w' := by
  have cC : Hid _ := refCheck_any v ps (s.length : Int) w hr hwf hsm (by omega) hl
  have hz := str_size s
  obtain ⟨E, hE⟩ : ∃ E, chkE ps (s.length : Int) = E := ⟨_, rfl⟩
  rw [hE] at cC he ⊢
  obtain ⟨p, c, rfl, _⟩ := hr
  clear hwf hsm hE
  go_enter Tryz.func28, Tryz.ntmps28
  go_wp2_with (first | (go_at_call 62; refine Calls.mono cC.out ?_; rintro e w1 ⟨rfl, hb1⟩) | fail)
  go_ret2
  exact ⟨rfl, hb1⟩

set_option maxRecDepth 100000 in
set_option maxHeartbeats 4000000 in
theorem refApply_fine (v : Value) (ps : List Pt) (s : List UInt8) (w : World) (hr : opAt w v ps) (hwf : ∀ p ∈ ps, wfP p) (hsm : ∀ p ∈ ps, p.put.length < 100000000) (hs : s.length < 100000000) (hl : ps.length < 10000000) (hpu : putsP ps < 100000000) (he : chkE ps (s.length : Int) = 0) :
    Calls Tryz.prog 28 #[v, .string ⟨s.toArray⟩] w fun e w' => e = .returned (.tuple #[.string ⟨(if badO ps s then [] else applyP ps s).toArray⟩, .int .i64 (if badO ps s then 10 else 0)]) ∧ Below w.heap.size w w' := by
  have cC : Hid _ := refCheck_any v ps (s.length : Int) w hr hwf hsm (by omega) hl
  have hz := str_size s
  rw [he] at cC
  obtain ⟨hfit, hleft⟩ := chkE_fits he
  have hones : ∀ p ∈ ps, soundP p ∧ (p.keep = 0 ∨ p.drop = 0) := by
    unfold chkE at he
    split at he
    · rename_i h1
      exact fun p hp => one_sound (chk1_ones h1 p hp).1
    · rename_i h1; exact absurd he h1
  have HB : Hid (refBad ps s = badO ps s) := refBad_eq ps s hleft
  have HF : Hid (fitsP ps s) := hfit
  have HO : Hid (∀ p ∈ ps, soundP p ∧ (p.keep = 0 ∨ p.drop = 0)) := hones
  have HSL : Hid (s.length < 1000000000) := (by show _ < _; omega)
  have HSM : Hid (∀ p ∈ ps, p.put.length < 100000000) := hsm
  have HPU : Hid (putsP ps < 100000000) := hpu
  obtain ⟨p, c, rfl, r1, r2, r3⟩ := hr
  obtain ⟨n, hn⟩ : ∃ n, n = ps.length := ⟨_, rfl⟩
  obtain ⟨RS, hRS⟩ : ∃ RS, RS = ByteArray.mk (if badO ps s = true then ([] : List UInt8) else applyP ps s).toArray := ⟨_, rfl⟩
  obtain ⟨RE, hRE⟩ : ∃ RE : Int, RE = if badO ps s = true then 10 else 0 := ⟨_, rfl⟩
  have HRS : Hid (RS = ByteArray.mk (if badO ps s = true then ([] : List UInt8) else applyP ps s).toArray) := hRS
  have HRE : Hid (RE = if badO ps s = true then 10 else 0) := hRE
  rw [← hRS, ← hRE]
  have HN : Hid (n = ps.length) := hn
  rw [← hn] at r1 hl cC ⊢
  have R3 : Hid (ps ≠ [] → ∃ b o, p = some ⟨b, o, none⟩ ∧ b < w.heap.size ∧ ∀ i q, ps[i]? = some q →
    w.cell? ⟨b, o + i * 3, none⟩ = some (.int .i64 q.keep) ∧ w.cell? ⟨b, o + i * 3 + 1, none⟩ = some (.int .i64 q.drop) ∧ w.cell? ⟨b, o + i * 3 + 2, none⟩ = some (.string ⟨q.put.toArray⟩)) := r3
  clear r3 hwf hsm hpu hfit hleft he hones hn hRS hRE
  go_enter Tryz.func28, Tryz.ntmps28
  go_wp2_with (first | (go_at_call 62; refine Calls.mono cC.out ?_; rintro e w1 ⟨rfl, hb1⟩) | fail)
  go_loopw [7, 8, 20] (fun x y i wr => ∃ (k : Nat), k ≤ n ∧ i = .int .i64 k ∧ y = .int .i64 (atP (ps.take k) : Nat) ∧ x = .string ⟨(applyP (ps.take k) s).toArray⟩ ∧ refBad ps s = refBad (ps.drop k) (s.drop (atP (ps.take k))) ∧ Below w.heap.size w wr) (fun _ _ i _ => n - (intOf i).toNat)
  case atStart => exact ⟨0, Nat.zero_le _, rfl, rfl, rfl, rfl, hb1⟩
  case round =>
    obtain ⟨k, hk, rfl, rfl, rfl, hbd, hwr⟩ := hrel
    by_cases hlt : k < n
    · have hkr : k < ps.length := by rw [← HN.out]; exact hlt
      have hne : ps ≠ [] := by intro e; rw [e] at hkr; exact absurd hkr (Nat.not_lt_zero _)
      obtain ⟨b, o, rfl, hbw, hcell⟩ := R3.out hne
      obtain ⟨c0, c1, c2⟩ := hcell k ps[k] (List.getElem?_eq_getElem hkr)
      have g0 := (hwr.cell (p := ⟨b, o + k * 3, none⟩) hbw).trans c0
      have g1 := (hwr.cell (p := ⟨b, o + k * 3 + 1, none⟩) hbw).trans c1
      have g2 := (hwr.cell (p := ⟨b, o + k * 3 + 2, none⟩) hbw).trans c2
      obtain ⟨⟨s0, s1⟩, s2⟩ := HO.out ps[k] (List.getElem_mem _)
      have hA0 := fits_le ps s HF.out k
      have hA1 := fits_le ps s HF.out (k + 1)
      have ha : atP (ps.take (k + 1)) = atP (ps.take k) + (lenP ps[k]).toNat := by rw [List.take_succ_eq_append_getElem hkr, at_snoc]
      have hap := applyP_snoc ps s k hkr
      rw [made_cut s _ _ s0 s1 s2] at hap
      rw [refBad_at ps s k hkr] at hbd
      have hU := HSM.out ps[k] (List.getElem_mem _)
      have hOl := apply_lenR HF.out k
      have hpu := HPU.out
      generalize ps[k] = q at g0 g1 g2 s0 s1 s2 ha hap hU
      obtain ⟨K, D, U⟩ := q
      simp only [lenP] at s0 s1 s2 ha hap g0 g1 g2 hU
      have hzU := str_size U
      obtain ⟨A, hA⟩ : ∃ A, A = atP (ps.take k) := ⟨_, rfl⟩
      obtain ⟨A1, hA1'⟩ : ∃ A1, A1 = atP (ps.take (k + 1)) := ⟨_, rfl⟩
      obtain ⟨O, hO⟩ : ∃ O, O = ByteArray.mk (applyP (ps.take k) s).toArray := ⟨_, rfl⟩
      have HOO : Hid (O = ByteArray.mk (applyP (ps.take k) s).toArray) := hO
      rw [← hA, ← hO]
      rw [← hA] at hA0 ha hap hbd
      rw [← hA1'] at hA1 ha hbd
      have hi : (A1 : Int) = (A : Int) + K + D := by omega
      have HI : Hid (((atP (ps.take (k + 1)) : Nat) : Int) = (A : Int) + K + D) := by show _ = _; rw [← hA1']; exact hi
      have hK : (A : Int) + K + D ≤ s.length := by omega
      obtain ⟨B0, hB0⟩ : ∃ B0, B0 = badPiece (s.drop A) := ⟨_, rfl⟩
      obtain ⟨B1, hB1⟩ : ∃ B1, B1 = badPiece (s.drop A1) := ⟨_, rfl⟩
      rw [← hB0, ← hB1] at hbd
      have cE0 : Hid (∀ wx, Calls Tryz.prog 87 #[.string ⟨s.toArray⟩, .int .i64 A] wx fun e w' => e = .returned (.bool (!B0)) ∧ w' = wx) := fun wx => by rw [hB0]; exact edge_any s A wx HSL.out hA0
      have cE1 : Hid (∀ wx, Calls Tryz.prog 87 #[.string ⟨s.toArray⟩, .int .i64 ((A : Int) + K + D)] wx fun e w' => e = .returned (.bool (!B1)) ∧ w' = wx) := fun wx => by rw [hB1, ← hi]; exact edge_any s A1 wx HSL.out hA1
      have HA : Hid (applyP (ps.take (k + 1)) s = applyP (ps.take k) s ++ ((s.drop A).take K.toNat ++ U)) := hap
      have HBD : Hid (refBad ps s = (B0 || B1 || refBad (ps.drop (k + 1)) (s.drop A1))) := hbd
      have HA1 : Hid (A1 = atP (ps.take (k + 1))) := hA1'
      clear hcell c0 c1 c2 ha hap hbd hi hO hA hA1' hB0 hB1 hA1
      have HWR : Hid (Below w.heap.size w wr) := hwr
      have hsize := hwr.size
      have hOs : O.size ≤ 200000000 := by rw [HOO.out, str_size]; omega
      obtain ⟨X, hX⟩ : ∃ X, (ByteArray.mk s.toArray).extract A ((A : Int) + K).toNat = X := ⟨_, rfl⟩
      have hk2 : ((A : Int) + K).toNat = A + K.toNat := by omega
      have HXL : Hid (X.data.toList = (s.drop A).take K.toNat) := by show _ = _; rw [← hX, hk2]; exact cut_mid s A K.toNat
      have hXs : X.size ≤ 100000000 := by
        have e : X.size = X.data.toList.length := Array.length_toList.symm
        rw [e, HXL.out, List.length_take, List.length_drop]; omega
      have hcat : X.size + (ByteArray.mk U.toArray).size ≤ 200000000 := by rw [hzU]; omega
      have hcat2 : O.size + (X.size + (ByteArray.mk U.toArray).size) ≤ 400000000 := by omega
      clear hk2 hOl hpu
      cases B0 with
      | true =>
        have HT : Hid (badO ps s = true) := by show _ = true; rw [← HB.out, HBD.out]; rfl
        go_wp2_with (first | (go_at_call 87; refine (cE0.out _).mono ?_; rintro e w2 ⟨rfl, rfl⟩) | fail)
        go_ret2
        exact ⟨by rw [HRE.out, HRS.out, if_pos HT.out, if_pos HT.out]; rfl, HWR.out.alloc hsize _⟩
      | false =>
      cases B1 with
      | true =>
        have HT : Hid (badO ps s = true) := by show _ = true; rw [← HB.out, HBD.out]; rfl
        go_wp2_with (first | (have _ := hfirst; go_at_call 87; refine (cE1.out _).mono ?_; rintro e w3 ⟨rfl, rfl⟩) | (go_at_call 87; refine (cE0.out _).mono ?_; rintro e w2 ⟨rfl, rfl⟩; have hfirst := trivial) | fail)
        go_ret2
        exact ⟨by rw [HRE.out, HRS.out, if_pos HT.out, if_pos HT.out]; rfl, HWR.out.alloc hsize _⟩
      | false =>
        go_wp2_with (first | (have _ := hfirst; go_at_call 87; refine (cE1.out _).mono ?_; rintro e w3 ⟨rfl, rfl⟩) | (go_at_call 87; refine (cE0.out _).mono ?_; rintro e w2 ⟨rfl, rfl⟩; have hfirst := trivial) | fail)
        go_region
        all_goals
          go_wp2
          go_roundw
          case rel => exact ⟨k + 1, by omega, by go_num, by rw [HI.out, Int.add_assoc], by rw [HA.out, HOO.out, cat3 _ _ _ _ HXL.out], by rw [HBD.out, ← HA1.out]; rfl, (HWR.out.alloc hsize _).drew⟩
          case measure => simp [intOf]; omega
    · have e : ps.take k = ps := List.take_of_length_le (by rw [← HN.out]; omega)
      have e' : ps.drop k = [] := List.drop_eq_nil_of_le (by rw [← HN.out]; omega)
      rw [e, e'] at hbd
      rw [e]
      have HT : Hid (badO ps s = false) := by show _ = false; rw [← HB.out, hbd]; rfl
      obtain ⟨O, hO⟩ : ∃ O, O = ByteArray.mk (applyP ps s).toArray := ⟨_, rfl⟩
      have HOO : Hid (O = ByteArray.mk (applyP ps s).toArray) := hO
      rw [← hO]
      clear e e' hbd hO
      go_wp2
      go_ret2
      exact ⟨by rw [HRE.out, HRS.out, HT.out, HOO.out]; rfl, hwr⟩

theorem refApply_any (v : Value) (ps : List Pt) (s : List UInt8) (w : World) (hr : opAt w v ps) (hwf : ∀ p ∈ ps, wfP p) (hsm : ∀ p ∈ ps, p.put.length < 100000000) (hs : s.length < 100000000) (hl : ps.length < 10000000) (hpu : putsP ps < 100000000) :
    Calls Tryz.prog 28 #[v, .string ⟨s.toArray⟩] w fun e w' => e = .returned (.tuple #[.string ⟨(if ordE ps s = 0 then applyP ps s else []).toArray⟩, .int .i64 (ordE ps s)]) ∧ Below w.heap.size w w' := by
  unfold ordE
  by_cases he : chkE ps (s.length : Int) = 0
  · rw [if_pos he]
    have := refApply_fine v ps s w hr hwf hsm hs hl hpu he
    cases hb : badO ps s <;> simp only [hb] at this <;> simpa using this
  · rw [if_neg he, if_neg he]
    exact refApply_err v ps s w hr hwf hsm (by omega) hl he
end Go.Proofs.YtldhbjmillfjgabGreatDoor

namespace Go.Proofs.YtldhbjmillfjgabGreatDoor
open Go.RowKit
set_option linter.unusedVariables false
attribute [local go_sem] Oper.semAt_some

theorem few_small {ps : List Pt} (h : fewB ps = true) : ps.length ≤ 100 ∧ ∀ p ∈ ps, p.put.length ≤ 300 := by
  unfold fewB at h
  rw [Bool.and_eq_true] at h
  refine ⟨of_decide_eq_true h.1, fun p hp => ?_⟩
  have h2 := List.all_eq_true.1 h.2 p hp
  unfold fewP at h2
  simp only [Bool.not_eq_true', Bool.or_eq_false_iff, decide_eq_false_iff_not] at h2
  omega
/-- few, of an operation of any length. -/
theorem fewX_any (v : Value) (ps : List Pt) (w : World) (hr : opAt w v ps) : Calls Tryz.prog 27 #[v] w fun e w' => e = .returned (.bool (fewB ps)) ∧ Below w.heap.size w w' := by
  by_cases hl : ps.length < 10000000
  · exact few_any v ps w hr hl
  · obtain ⟨p, c, rfl, r1, r2, r3⟩ := hr
    have hb : fewB ps = false := by unfold fewB; rw [decide_eq_false (by omega)]; rfl
    rw [hb]
    unfold maxLen at r2
    have hm' : (100 : Int) < (ps.length : Int) := by omega
    clear r3
    go_enter Tryz.func27, Tryz.ntmps27
    go_wp2
    go_ret
    exact ⟨rfl, Below.refl _ _⟩

end Go.Proofs.YtldhbjmillfjgabGreatDoor

namespace Go.Proofs.YtldhbjmillfjgabGreatDoor
open Go.RowKit
set_option linter.unusedVariables false

/-- What Count tells of a sound text. -/
theorem refCount_of (s : ByteArray) (rs : List Nat) (hr : ∀ r ∈ rs, isRune r) (he : encs rs = s.data.toList) (hs : s.size < 100000000) (w : World) :
    Calls Tryz.prog 8 #[.string s] w fun e w' => e = .returned (.tuple #[cntV rs, .agg #[.int .i64 0, .int .i64 (-1)]]) ∧ Below w.heap.size w w' := by
  have hsc := scan_encs rs hr
  rw [he] at hsc
  have hro : runesOf s.data.toList = rs := by
    unfold runesOf
    rw [hsc]
    simp [wide, List.map_map, Function.comp_def]
  refine (refCount_good s hs w (by rw [hsc])).mono fun e w' h => ⟨?_, h.1⟩
  rw [h.2, hro]
  have h1 : (s.size : Int) = C1 rs := by rw [C1_len, he, ← Lib.size_eq]
  have h2 : ((halRow rs).length : Int) = C2 rs := by unfold C2; rw [sum2_wide]
  have h4 : (Lib.countByte s.data.toList 10 : Int) = C4 rs := by unfold C4; rw [sum4_wide hr, he]
  unfold cnt cntV
  rw [h1, h2, h4]
  rfl
end Go.Proofs.YtldhbjmillfjgabGreatDoor

namespace Go.Proofs.YtldhbjmillfjgabGreatDoor
open Go.RowKit
open Go.Maps (Keyed int_keyed keyOf_int_mk)
set_option linter.unusedVariables false

theorem keyed_int : Keyed Tryz.prog 3 := int_keyed Tryz.underlying3
theorem zero_int (w : World) : (zeroValue 3).run Tryz.prog w = .ok (.int .i64 0) w := by kernel_rfl
def inC (u a b c : Int) : Int := if u = 1 then a else if u = 2 then b else if u = 3 then c else 0
theorem at_in (u a b c : Int) : (((((DataW.map (H := Unit) []).put (.int .i64 1) (.lit (.int .i64 a))).put (.int .i64 2) (.lit (.int .i64 b))).put (.int .i64 3) (.lit (.int .i64 c))).atKey (.int .i64 u) (.lit (.int .i64 0))) = .lit (.int .i64 (inC u a b c)) := by
  simp [DataW.put, DataW.insert, DataW.atKey, Lit.sameKey, Lit.before, inC]
  by_cases h1 : u = 1
  · subst h1; rfl
  by_cases h2 : u = 2
  · subst h2; rfl
  by_cases h3 : u = 3
  · subst h3; rfl
  simp [List.find?, h1, h2, h3, Ne.symm h1, Ne.symm h2, Ne.symm h3]

set_option maxHeartbeats 1000000 in
theorem refinc_any (a1 a2 a3 a4 u : Int) (v1 : (Lit.int .i64 a1).wf = true) (v2 : (Lit.int .i64 a2).wf = true) (v3 : (Lit.int .i64 a3).wf = true) (vu : (Lit.int .i64 u).wf = true) (w : World) :
    Calls Tryz.prog 30 #[.agg #[.int .i64 a1, .int .i64 a2, .int .i64 a3, .int .i64 a4], .int .i64 u] w
      fun e w' => e = .returned (.int .i64 (inC u a1 a2 a3)) ∧ Below w.heap.size w w' := by
  have wf1 : (Lit.int .i64 1).wf = true := by decide
  have wf2 : (Lit.int .i64 2).wf = true := by decide
  have wf3 : (Lit.int .i64 3).wf = true := by decide
  have hb0 : Below (w.heap.size + 1) (w.alloc (.cells #[.int .i64 a1, .int .i64 a2, .int .i64 a3, .int .i64 a4] 25)) ((w.alloc (.cells #[.int .i64 a1, .int .i64 a2, .int .i64 a3, .int .i64 a4] 25)).alloc (.map #[] 0)) :=
    (Below.refl _ _).alloc (by simp) _
  have h0 := World.ownsMap_made (H := Unit) (w.alloc (.cells #[.int .i64 a1, .int .i64 a2, .int .i64 a3, .int .i64 a4] 25)) Tryz.prog 3 (plainElem Tryz.prog 3)
  rw [World.size_alloc] at h0
  obtain ⟨w1, r1, h1, g1⟩ := h0.update keyed_int Tryz.underlying165 (by unfold maxLen; omega) (keyOf_int_mk Tryz.underlying3 wf1) (plainElem_int Tryz.underlying3 v1)
  have hb1 := hb0.grown g1 (by simp) (by intro k hk; cases hk; omega)
  obtain ⟨w2, r2, h2, g2⟩ := h1.update keyed_int Tryz.underlying165 (by unfold maxLen; omega) (keyOf_int_mk Tryz.underlying3 wf2) (plainElem_int Tryz.underlying3 v2)
  have hb2 := hb1.grown g2 (by have := hb1.size; simp at this; omega) (by intro k hk; cases hk; omega)
  obtain ⟨w3, r3, h3, g3⟩ := h2.update keyed_int Tryz.underlying165 (by unfold maxLen; omega) (keyOf_int_mk Tryz.underlying3 wf3) (plainElem_int Tryz.underlying3 v3)
  have hb3 := hb2.grown g3 (by have := hb2.size; simp at this; omega) (by intro k hk; cases hk; omega)
  obtain ⟨c, r4, h4, _⟩ := h3.lookup_int keyed_int Tryz.underlying165 Tryz.underlying3 (zero_int _) (keyOf_int_mk Tryz.underlying3 vu)
  rw [at_in] at h4
  injection h4 with h4; injection h4 with _ h4
  have c1 : w1.cell? ⟨w.heap.size, 1, none⟩ = some (.int .i64 a2) := by rw [hb1.cell (p := ⟨w.heap.size, 1, none⟩) (by simp)]; simp [go_sem]
  have c2 : w2.cell? ⟨w.heap.size, 2, none⟩ = some (.int .i64 a3) := by rw [hb2.cell (p := ⟨w.heap.size, 2, none⟩) (by simp)]; simp [go_sem]
  have hb : Below w.heap.size w w3 := (((Below.refl _ w).alloc (Nat.le_refl _) _)).trans (hb3.mono (by omega))
  clear hb0 hb1 hb2 hb3 h0 h1 h2 h3 g1 g2 g3
  subst h4
  have hmm := @run_makeMap Tryz.prog
  go_enter Tryz.func30, Tryz.ntmps30
  go_wp2
  go_ret
  exact ⟨rfl, hb⟩
theorem wf_small {n : Int} (h0 : -9223372036854775808 ≤ n) (h1 : n < 9223372036854775808) : (Lit.int .i64 n).wf = true := by
  simp [Lit.wf, IntKind.min, IntKind.max, IntKind.signed, IntKind.bits]; omega
/-- How many of a unit. -/
theorem refIn_any (u : Int) (rs : List Nat) (hu0 : -9223372036854775808 ≤ u) (hu1 : u < 9223372036854775808) (hz : C1 rs ≤ 100000000) (w : World) :
    Calls Tryz.prog 30 #[cntV rs, .int .i64 u] w fun e w' => e = .returned (.int .i64 (by_ u rs)) ∧ Below w.heap.size w w' := by
  have h1 := C1_pos rs
  have h2 := C2_le rs
  have h3 := C3_le rs
  exact refinc_any (C1 rs) (C2 rs) (C3 rs) (C4 rs) u (wf_small (by omega) (by omega)) (wf_small (by omega) (by omega)) (wf_small (by omega) (by omega)) (wf_small hu0 hu1) w

/-- The places as the program counts them. -/
theorem edge_cnt {rs : List Nat} (hr : ∀ r ∈ rs, isRune r) {i : Nat} (hi : i ≤ rs.length) : edge rs i = [.int .i64 (C1 (rs.take i)), .int .i64 (C2 (rs.take i)), .int .i64 (C3 (rs.take i)), .int .i64 (C4 (rs.take i))] := by
  have h1 : edge1 rs i = C1 (rs.take i) := by unfold edge1; rw [C1_len]
  have h2 : edge2 rs i = C2 (rs.take i) := by unfold edge2 C2; rw [sum2_wide]
  have h3 : C3 (rs.take i) = (i : Int) := by show ((rs.take i).length : Int) = _; rw [List.length_take]; omega
  have h4 : edge4 rs i = C4 (rs.take i) := by unfold edge4 C4; rw [sum4_wide fun r h => hr r (List.mem_of_mem_take h)]
  unfold edge
  rw [h1, h2, h3, h4]
end Go.Proofs.YtldhbjmillfjgabGreatDoor

namespace Go.Proofs.YtldhbjmillfjgabGreatDoor
open Go.RowKit
set_option linter.unusedVariables false
attribute [local go_sem] Oper.semAt_some

theorem inB_unit (u : Int) : inB u 1 3 = true ↔ unitOk u := by
  unfold inB unitOk
  rw [decide_eq_true_iff]
  constructor
  · intro h; omega
  · intro h; omega
set_option maxRecDepth 100000 in
set_option maxHeartbeats 8000000 in
theorem refAhead_any (s : ByteArray) (rs : List Nat) (u a : Int) (hr : ∀ r ∈ rs, isRune r) (he : encs rs = s.data.toList) (hs : s.size < 1000000) (hu : unitOk u) (h0 : 0 ≤ a) (h1 : a ≤ by_ u rs) (w : World) :
    Calls Tryz.prog 63 #[.string s, .int .i64 u, .int .i64 a] w fun e w' => e = .returned (.tuple #[cntV (if onEdge rs u a then upTo rs u a else []), .int .i64 (if onEdge rs u a then 0 else 10)]) ∧ Below w.heap.size w w' := by
  have hC1 : C1 rs = s.size := by rw [C1_len, he, ← Lib.size_eq]
  have hru : inB u 1 3 = true := (inB_unit u).2 hu
  have hra : inB a 0 (by_ u rs) = true := decide_eq_true ⟨h0, h1⟩
  have hu0 : -9223372036854775808 ≤ u ∧ u < 9223372036854775808 := by unfold unitOk at hu; omega
  have cI1 := fun wx => in_any u 1 3 wx
  rw [hru] at cI1
  have cI2 := fun wx => in_any a 0 (by_ u rs) wx
  rw [hra] at cI2
  have cC : Hid (∀ wx, Calls Tryz.prog 8 #[.string s] wx fun e w' => e = .returned (.tuple #[cntV rs, .agg #[.int .i64 0, .int .i64 (-1)]]) ∧ Below wx.heap.size wx w') := fun wx => refCount_of s rs hr he (by omega) wx
  have cN : Hid (∀ wx, Calls Tryz.prog 30 #[cntV rs, .int .i64 u] wx fun e w' => e = .returned (.int .i64 (by_ u rs)) ∧ Below wx.heap.size wx w') := fun wx => refIn_any u rs hu0.1 hu0.2 (by omega) wx
  have hsc := scan_encs rs hr
  rw [he] at hsc
  have hro : runesOf s.data.toList = rs := by
    unfold runesOf
    rw [hsc]
    simp [wide, List.map_map, Function.comp_def]
  have cE : Hid (∀ wx, Calls Tryz.prog 118 #[.string s] wx fun e w' => ∃ v, e = .returned v ∧ w'.ownsRow wx.heap.size 25 4 v (rs.length + 1) (edges rs (rs.length + 1)) ∧ Below wx.heap.size wx w') := fun wx => by
    have := refEdges_any s (by omega) wx (by rw [hsc])
    rw [hro] at this
    exact this
  obtain ⟨e1, e2⟩ := edge_first hu h1
  have HE1 : Hid _ := e1
  have HE2 : Hid _ := e2
  have HR : Hid (∀ r ∈ rs, isRune r) := hr
  have cT : Hid (∀ i wx, Calls Tryz.prog 30 #[cntV (rs.take i), .int .i64 u] wx fun e w' => e = .returned (.int .i64 (by_ u (rs.take i))) ∧ Below wx.heap.size wx w') := fun i wx => refIn_any u (rs.take i) hu0.1 hu0.2 (by
    have e : C1 rs = C1 (rs.take i) + C1 (rs.drop i) := by rw [← C1_append, List.take_append_drop]
    have := C1_pos (rs.drop i)
    omega) wx
  have hrl : rs.length < 1000000 := by have := C3_le rs; unfold C3 at this; omega
  have hb0 : Below w.heap.size w (w.alloc (.cells #[.int .i64 0, .int .i64 0, .int .i64 0, .int .i64 0] 25)) := (Below.refl _ w).alloc (Nat.le_refl _) _
  have HB0 : Hid _ := hb0
  have HK0 : Hid (counted (w.alloc (.cells #[.int .i64 0, .int .i64 0, .int .i64 0, .int .i64 0] 25)) w.heap.size 0 0 0 0) := counted_new w 0 0 0 0 25
  obtain ⟨Bu, hBu⟩ : ∃ Bu, by_ u rs = Bu := ⟨_, rfl⟩
  rw [hBu] at cI2 cN
  obtain ⟨XA, hXA⟩ : ∃ XA, (if onEdge rs u a then upTo rs u a else []) = XA := ⟨_, rfl⟩
  obtain ⟨EA, hEA⟩ : ∃ EA : Int, (if onEdge rs u a then 0 else 10) = EA := ⟨_, rfl⟩
  have HXA : Hid _ := hXA
  have HEA : Hid _ := hEA
  rw [hXA, hEA]
  clear hXA hEA
  unfold cntV at cC cN cT
  clear hr he hs hu h0 h1 hC1 hru hra hu0 hsc hro e1 e2 hb0 hBu
  go_enter Tryz.func63, Tryz.ntmps63
  go_wp2_with (first
    | (have _ := HB2; go_at_call 61; refine (cI2 _).mono ?_; rintro e w1 ⟨rfl, hw1⟩; obtain rfl := hw1.symm)
    | (go_at_call 61; refine (cI1 _).mono ?_; rintro e w1 ⟨rfl, hw1⟩; obtain rfl := hw1.symm)
    | (go_at_call 8; refine (cC.out _).mono ?_; rintro e w1 ⟨rfl, hb1⟩; have HB1 : Hid (Below w.heap.size w w1) := HB0.out.trans (hb1.mono HB0.out.size); have HK1 : Hid (counted w1 w.heap.size 0 0 0 0) := counted_below HK0.out hb1; have hbx := (Below.refl w1.heap.size w1).alloc (Nat.le_refl _) (.cells #[.int .i64 (C1 rs), .int .i64 (C2 rs), .int .i64 (C3 rs), .int .i64 (C4 rs)] 25); have hby := hbx.alloc hbx.size (.cells #[.int .i64 0, .int .i64 (-1)] 28); have HBY : Hid (Below w1.heap.size w1 ((w1.alloc (.cells #[.int .i64 (C1 rs), .int .i64 (C2 rs), .int .i64 (C3 rs), .int .i64 (C4 rs)] 25)).alloc (.cells #[.int .i64 0, .int .i64 (-1)] 28))) := hby; clear hb1 hbx hby)
    | (go_at_call 30; refine (cN.out _).mono ?_; rintro e w2 ⟨rfl, hb2⟩; have HB2 : Hid (Below w.heap.size w w2) := HB1.out.trans ((HBY.out.trans (hb2.mono HBY.out.size)).mono HB1.out.size); have HK2 : Hid (counted w2 w.heap.size 0 0 0 0) := counted_below HK1.out (HBY.out.trans (hb2.mono HBY.out.size)); clear hb2)
    | (go_at_call 118; refine (cE.out _).mono ?_; rintro e w3 ⟨v3, rfl, ho3, hb3⟩; obtain ⟨g, c3, rfl, hg1, hg2⟩ := own_pos ho3 (Nat.succ_pos _); have HO3 : Hid (w3.ownsRow w2.heap.size 25 4 (.slice (some ⟨g, 0, none⟩) (rs.length + 1) c3) (rs.length + 1) (edges rs (rs.length + 1))) := ho3; have HB3 : Hid (Below w.heap.size w w3) := HB2.out.trans (hb3.mono HB2.out.size); have HK3 : Hid (counted w3 w.heap.size 0 0 0 0) := counted_below HK2.out hb3; clear ho3 hb3)
    | fail)
  clear cI1 cI2 cC cN cE HB0 HB1 HBY HB2 HK0 HK1 HK2
  go_loopw [31] (fun i wr => ∃ k : Nat, i = .int .i64 k ∧ k ≤ rs.length + 1 ∧ (∀ j, j < k → by_ u (rs.take j) ≠ a) ∧ Below w3.heap.size w3 wr) (fun i _ => rs.length + 1 - (intOf i).toNat)
  case atStart => exact ⟨0, rfl, Nat.zero_le _, fun j hj => absurd hj (Nat.not_lt_zero _), Below.refl _ _⟩
  case round =>
    obtain ⟨k, rfl, hk, hno, hbw⟩ := hrel
    have HNO : Hid (∀ j, j < k → by_ u (rs.take j) ≠ a) := hno
    have HBW : Hid (Below w3.heap.size w3 wr) := hbw
    have hKr := counted_below HK3.out hbw
    have HKR : Hid (counted wr w.heap.size 0 0 0 0) := hKr
    have HWR : Hid (Below w.heap.size w wr) := HB3.out.trans (hbw.mono HB3.out.size)
    clear hno hKr
    by_cases hlt : k < rs.length + 1
    · have hkl : (k : Int) < (rs.length : Int) + 1 := by omega
      have hown := own_below HO3.out hbw
      have hec := edge_cnt HR.out (i := k) (by omega)
      have g0 : wr.cell? ⟨g, k * 4, none⟩ = some (.int .i64 (C1 (rs.take k))) := edge_cell hown k 0 hlt (by omega) (by rw [hec]; rfl)
      have g1 : wr.cell? ⟨g, k * 4 + 1, none⟩ = some (.int .i64 (C2 (rs.take k))) := edge_cell hown k 1 hlt (by omega) (by rw [hec]; rfl)
      have g2 : wr.cell? ⟨g, k * 4 + 2, none⟩ = some (.int .i64 (C3 (rs.take k))) := edge_cell hown k 2 hlt (by omega) (by rw [hec]; rfl)
      have g3 : wr.cell? ⟨g, k * 4 + 3, none⟩ = some (.int .i64 (C4 (rs.take k))) := edge_cell hown k 3 hlt (by omega) (by rw [hec]; rfl)
      have hbx : Below wr.heap.size wr (wr.alloc (.cells #[.int .i64 (C1 (rs.take k)), .int .i64 (C2 (rs.take k)), .int .i64 (C3 (rs.take k)), .int .i64 (C4 (rs.take k))] 25)) := (Below.refl _ _).alloc (Nat.le_refl _) _
      have HBX : Hid (Below wr.heap.size wr (wr.alloc (.cells #[.int .i64 (C1 (rs.take k)), .int .i64 (C2 (rs.take k)), .int .i64 (C3 (rs.take k)), .int .i64 (C4 (rs.take k))] 25))) := hbx
      have HCX : Hid (counted (wr.alloc (.cells #[.int .i64 (C1 (rs.take k)), .int .i64 (C2 (rs.take k)), .int .i64 (C3 (rs.take k)), .int .i64 (C4 (rs.take k))] 25)) wr.heap.size (C1 (rs.take k)) (C2 (rs.take k)) (C3 (rs.take k)) (C4 (rs.take k))) := counted_new wr _ _ _ _ _
      have cK := fun wx => cT.out k wx
      have CK : Hid (∀ wx, Calls Tryz.prog 30 #[.agg #[.int .i64 (C1 (rs.take k)), .int .i64 (C2 (rs.take k)), .int .i64 (C3 (rs.take k)), .int .i64 (C4 (rs.take k))], .int .i64 u] wx fun e w' => e = .returned (.int .i64 (by_ u (rs.take k))) ∧ Below wx.heap.size wx w') := cK
      by_cases heq : by_ u (rs.take k) = a
      · have HEQ : Hid (onEdge rs u a = true ∧ upTo rs u a = rs.take k) := by
          show onEdge rs u a = true ∧ upTo rs u a = rs.take k
          cases hE : onEdge rs u a with
          | false => exact absurd heq (HE2.out hE k (by omega))
          | true =>
            obtain ⟨j, j1, j2, j3, j4⟩ := HE1.out hE
            have : j = k := by
              by_cases h1 : j < k
              · exact absurd j3 (HNO.out j h1)
              · by_cases h2 : k < j
                · exact absurd heq (j4 k h2)
                · omega
            subst this
            exact ⟨rfl, j2⟩
        rw [heq] at CK
        clear hown hec hbx cK heq hbw HNO
        go_wp2_with (first
          | (go_at_call 30; refine (CK.out _).mono ?_; rintro e w5 ⟨rfl, hb5⟩; have hg := HBX.out.trans (hb5.mono HBX.out.size); have HB5 : Hid (Below w.heap.size w w5) := HWR.out.trans (hg.mono HWR.out.size); have HK5 : Hid (counted w5 w.heap.size 0 0 0 0) := counted_below HKR.out hg; have hC5 := counted_below HCX.out hb5; have HC5 : Hid _ := hC5; obtain ⟨⟨m0, m1, m2, m3⟩, _⟩ := hC5; obtain ⟨⟨z0, z1, z2, z3⟩, y0, y1, y2, y3⟩ := counted_below HKR.out hg; clear hb5 hg)
          | fail)
        have hset := counted_set (m1 := C1 (rs.take k)) (m2 := C2 (rs.take k)) (m3 := C3 (rs.take k)) (m4 := C4 (rs.take k)) HK5.out
        obtain ⟨⟨s0, s1, s2, s3⟩, _⟩ := hset
        refine bodyPost_ret (v := .tuple #[.agg #[.int .i64 (C1 (rs.take k)), .int .i64 (C2 (rs.take k)), .int .i64 (C3 (rs.take k)), .int .i64 (C4 (rs.take k))], .int .i64 0]) (by simp [results, Tryz.results63, go_sem, s0, s1, s2, s3]) rfl ⟨?_, below_set4 HB5.out (Nat.le_refl _) _ _ _ _⟩
        rw [← HXA.out, ← HEA.out, HEQ.out.1, HEQ.out.2]; rfl
      · have hne : (by_ u (rs.take k) == a) = false := beq_eq_false_iff_ne.2 heq
        have HNE : Hid (by_ u (rs.take k) ≠ a) := heq
        obtain ⟨bx, hbxe⟩ : ∃ bx, by_ u (rs.take k) = bx := ⟨_, rfl⟩
        rw [hbxe] at CK hne
        clear hown hec hbx cK heq hbw hbxe
        go_wp2_with (first
          | (go_at_call 30; refine (CK.out _).mono ?_; rintro e w5 ⟨rfl, hb5⟩; have hg := HBX.out.trans (hb5.mono HBX.out.size); have HB5 : Hid (Below w3.heap.size w3 w5) := HBW.out.trans (hg.mono HBW.out.size); clear hb5 hg)
          | fail)
        go_roundw
        case rel =>
          refine ⟨k + 1, by go_num, by omega, fun j hj => ?_, HB5.out⟩
          by_cases h1 : j = k
          · subst h1; exact HNE.out
          · exact HNO.out j (by omega)
        case measure => simp [intOf]; omega
    · obtain rfl : k = rs.length + 1 := by omega
      have hkl : ¬ ((rs.length + 1 : Nat) : Int) < (rs.length : Int) + 1 := by omega
      have HEQ : Hid (onEdge rs u a = false) := by
        show onEdge rs u a = false
        cases hE : onEdge rs u a with
        | false => rfl
        | true =>
          obtain ⟨j, j1, j2, j3, j4⟩ := HE1.out hE
          exact absurd j3 (HNO.out j (by omega))
      clear hbw HNO
      obtain ⟨⟨z0, z1, z2, z3⟩, y0, y1, y2, y3⟩ := HKR.out
      go_wp2
      have hset := counted_set (m1 := 0) (m2 := 0) (m3 := 0) (m4 := 0) HKR.out
      obtain ⟨⟨s0, s1, s2, s3⟩, _⟩ := hset
      refine bodyPost_ret (v := .tuple #[.agg #[.int .i64 0, .int .i64 0, .int .i64 0, .int .i64 0], .int .i64 10]) (by simp [results, Tryz.results63, go_sem, s0, s1, s2, s3]) rfl ⟨?_, below_set4 HWR.out (Nat.le_refl _) _ _ _ _⟩
      rw [← HXA.out, ← HEA.out, HEQ.out]; rfl
end Go.Proofs.YtldhbjmillfjgabGreatDoor

namespace Go.Proofs.YtldhbjmillfjgabGreatDoor
open Go.RowKit
set_option linter.unusedVariables false
attribute [local go_sem] Oper.semAt_some

/-- A part that lies in a box. -/
structure Pcell (w : World) (β : Nat) (K D : Int) (U : List UInt8) : Prop where
  c0 : w.cell? ⟨β, 0, none⟩ = some (.int .i64 K)
  c1 : w.cell? ⟨β, 1, none⟩ = some (.int .i64 D)
  c2 : w.cell? ⟨β, 2, none⟩ = some (.string ⟨U.toArray⟩)
  f0 : w.frozen? ⟨β, 0, none⟩ = false
  f1 : w.frozen? ⟨β, 1, none⟩ = false
theorem Pcell.below {w w' : World} {β : Nat} {K D : Int} {U : List UInt8} (h : Pcell w β K D U) (hb : Below w.heap.size w w') : Pcell w' β K D U := by
  have l := World.block_lt_of_cell? w _ h.c0
  exact ⟨cell_on hb h.c0, cell_on hb h.c1, cell_on hb h.c2, (hb.frozen (p := ⟨β, 0, none⟩) l).trans h.f0, (hb.frozen (p := ⟨β, 1, none⟩) l).trans h.f1⟩

set_option maxHeartbeats 1000000 in
theorem refTurn_unit (s : ByteArray) (u v : Int) (val : Value) (hu : ¬ (unitOk u ∧ unitOk v)) (w : World) :
    Calls Tryz.prog 10 #[.string s, .int .i64 u, .int .i64 v, val] w fun e w' => e = .returned (.tuple #[.slice none 0 0, .int .i64 1]) ∧ Below w.heap.size w w' := by
  have cU := fun wx => in_any u 1 3 wx
  have cV := fun wx => in_any v 1 3 wx
  by_cases h1 : unitOk u
  · have h2 : ¬ unitOk v := fun h => hu ⟨h1, h⟩
    rw [(inB_unit u).2 h1] at cU
    rw [Bool.eq_false_iff.2 fun e => h2 ((inB_unit v).1 e)] at cV
    have CU : Hid _ := cU
    have CV : Hid _ := cV
    clear hu h1 h2 cU cV
    go_enter Tryz.func10, Tryz.ntmps10
    go_wp2_with (first
      | (have _ := hfirst; go_at_call 61; refine (CV.out _).mono ?_; rintro e w1 ⟨rfl, hw1⟩; obtain rfl := hw1.symm)
      | (go_at_call 61; refine (CU.out _).mono ?_; rintro e w1 ⟨rfl, hw1⟩; obtain rfl := hw1.symm; have hfirst := trivial)
      | fail)
    go_ret2
    exact ⟨rfl, Below.refl _ _⟩
  · rw [Bool.eq_false_iff.2 fun e => h1 ((inB_unit u).1 e)] at cU
    have CU : Hid _ := cU
    clear hu h1 cU cV
    go_enter Tryz.func10, Tryz.ntmps10
    go_wp2_with (first
      | (go_at_call 61; refine (CU.out _).mono ?_; rintro e w1 ⟨rfl, hw1⟩; obtain rfl := hw1.symm)
      | fail)
    go_ret2
    exact ⟨rfl, Below.refl _ _⟩

set_option maxRecDepth 100000 in
set_option maxHeartbeats 4000000 in
theorem refTurn_chk (s : ByteArray) (rs : List Nat) (u v : Int) (qs : List Pt) (val : Value) (w : World) (hr : ∀ r ∈ rs, isRune r) (he : encs rs = s.data.toList) (hs : s.size < 1000000) (hu : unitOk u) (hv : unitOk v) (ho : opAt w val qs) (hwf : ∀ q ∈ qs, wfP q) (hsm : ∀ q ∈ qs, q.put.length < 100000000) (hl : qs.length ≤ 1000) (hc : chkE qs (by_ u rs) ≠ 0) :
    Calls Tryz.prog 10 #[.string s, .int .i64 u, .int .i64 v, val] w fun e w' => e = .returned (.tuple #[.slice none 0 0, .int .i64 (chkE qs (by_ u rs))]) ∧ Below w.heap.size w w' := by
  have hC1 : C1 rs = s.size := by rw [C1_len, he, ← Lib.size_eq]
  have hu0 : -9223372036854775808 ≤ u ∧ u < 9223372036854775808 := by unfold unitOk at hu; omega
  have hub : by_ u rs ≤ 3000000 := by
    have h2 := C2_le rs; have h3 := C3_le rs
    unfold by_; split <;> (try split) <;> (try split) <;> omega
  have hup := by_pos u rs
  have cU := fun wx => in_any u 1 3 wx
  have cV := fun wx => in_any v 1 3 wx
  rw [(inB_unit u).2 hu] at cU
  rw [(inB_unit v).2 hv] at cV
  have CU : Hid _ := cU
  have CV : Hid _ := cV
  have cC : Hid (∀ wx, Calls Tryz.prog 8 #[.string s] wx fun e w' => e = .returned (.tuple #[cntV rs, .agg #[.int .i64 0, .int .i64 (-1)]]) ∧ Below wx.heap.size wx w') := fun wx => refCount_of s rs hr he (by omega) wx
  have cN : Hid (∀ wx, Calls Tryz.prog 30 #[cntV rs, .int .i64 u] wx fun e w' => e = .returned (.int .i64 (by_ u rs)) ∧ Below wx.heap.size wx w') := fun wx => refIn_any u rs hu0.1 hu0.2 (by omega) wx
  have cK : Hid (∀ wx, Below w.heap.size w wx → Calls Tryz.prog 62 #[val, .int .i64 (by_ u rs)] wx fun e w' => e = .returned (.int .i64 (chkE qs (by_ u rs))) ∧ Below wx.heap.size wx w') := fun wx hb => refCheck_any val qs (by_ u rs) wx (opAt_below ho hb (Nat.le_refl _)) hwf hsm (by omega) (by omega)
  obtain ⟨p, c, rfl, _⟩ := ho
  obtain ⟨E, hE⟩ : ∃ E, chkE qs (by_ u rs) = E := ⟨_, rfl⟩
  rw [hE] at cK hc ⊢
  have hne : (E == 0) = false := beq_eq_false_iff_ne.2 hc
  obtain ⟨Bu, hBu⟩ : ∃ Bu, by_ u rs = Bu := ⟨_, rfl⟩
  rw [hBu] at cN cK
  unfold cntV at cC cN
  clear cU cV hr he hs hu hv hwf hsm hC1 hu0 hub hup hE hBu
  go_enter Tryz.func10, Tryz.ntmps10
  go_wp2_with (first
    | (have _ := hfirst; go_at_call 61; refine (CV.out _).mono ?_; rintro e w1 ⟨rfl, hw1⟩; obtain rfl := hw1.symm)
    | (go_at_call 61; refine (CU.out _).mono ?_; rintro e w1 ⟨rfl, hw1⟩; obtain rfl := hw1.symm; have hfirst := trivial)
    | (go_at_call 8; refine (cC.out _).mono ?_; rintro e w1 ⟨rfl, hb1⟩; have hbx := (Below.refl w1.heap.size w1).alloc (Nat.le_refl _) (.cells #[.int .i64 (C1 rs), .int .i64 (C2 rs), .int .i64 (C3 rs), .int .i64 (C4 rs)] 25); have hby := hbx.alloc hbx.size (.cells #[.int .i64 0, .int .i64 (-1)] 28); have HB1 : Hid (Below w.heap.size w ((w1.alloc (.cells #[.int .i64 (C1 rs), .int .i64 (C2 rs), .int .i64 (C3 rs), .int .i64 (C4 rs)] 25)).alloc (.cells #[.int .i64 0, .int .i64 (-1)] 28))) := hb1.trans (hby.mono hb1.size); clear hb1 hbx hby)
    | (go_at_call 30; refine (cN.out _).mono ?_; rintro e w2 ⟨rfl, hb2⟩; have HB2 : Hid (Below w.heap.size w w2) := HB1.out.trans (hb2.mono HB1.out.size); clear hb2)
    | (go_at_call 62; refine (cK.out _ HB2.out).mono ?_; rintro e w3 ⟨rfl, hb3⟩; have HB3 : Hid (Below w.heap.size w w3) := HB2.out.trans (hb3.mono HB2.out.size); clear hb3)
    | fail)
  go_ret2
  exact ⟨rfl, HB3.out⟩
theorem own_setNe {w : World} {B e size n b o : Nat} {v : Value} {xs : List Value} (h : w.ownsRow B e size v n xs) (hb : ∀ j, v.ownBlock = some j → j < b) (u : Value) : (w.setCell ⟨b, o, none⟩ u).ownsRow B e size v n xs := by
  obtain ⟨h0, hrow⟩ := h
  refine ⟨h0, ?_⟩
  rcases hrow with hn | ⟨g, cap, cur, rfl, hg, hgg, rest⟩
  · exact .inl hn
  · exact .inr ⟨g, cap, cur, rfl, hg, (Below.heap_setCell _ _ _ _ (by show g ≠ b; have := hb g rfl; omega)).trans hgg, rest⟩
theorem pset0 {w : World} {β : Nat} {K D : Int} {U : List UInt8} (h : Pcell w β K D U) (M : Int) : Pcell (w.setCell ⟨β, 0, none⟩ (.int .i64 M)) β M D U := by
  obtain ⟨h0, h1, h2, h3, h4⟩ := h
  refine ⟨?_, ?_, ?_, ?_, ?_⟩ <;> simp [go_sem, h0, h1, h2, h3, h4]
theorem pset1 {w : World} {β : Nat} {K D : Int} {U : List UInt8} (h : Pcell w β K D U) (M : Int) : Pcell (w.setCell ⟨β, 1, none⟩ (.int .i64 M)) β K M U := by
  obtain ⟨h0, h1, h2, h3, h4⟩ := h
  refine ⟨?_, ?_, ?_, ?_, ?_⟩ <;> simp [go_sem, h0, h1, h2, h3, h4]

set_option maxRecDepth 100000 in
set_option maxHeartbeats 8000000 in
theorem refTurn_fine (s : ByteArray) (rs : List Nat) (u v : Int) (qs : List Pt) (val : Value) (w : World) (hr : ∀ r ∈ rs, isRune r) (he : encs rs = s.data.toList) (hs : s.size < 1000000) (hu : unitOk u) (hv : unitOk v) (ho : opAt w val qs) (hwf : ∀ q ∈ qs, wfP q) (hsm : ∀ q ∈ qs, q.put.length < 100000000) (hl : qs.length ≤ 1000) (hc : chkE qs (by_ u rs) = 0) :
    Calls Tryz.prog 10 #[.string s, .int .i64 u, .int .i64 v, val] w fun e w' => ∃ v', e = .returned (.tuple #[v', .int .i64 (turnX rs u v qs)]) ∧ opAt w' v' (turnO rs u v qs) ∧ Below w.heap.size w w' := by
  obtain ⟨hp1, hp2, hp3⟩ := chkE_parts hc
  have hC1 : C1 rs = s.size := by rw [C1_len, he, ← Lib.size_eq]
  have hu0 : -9223372036854775808 ≤ u ∧ u < 9223372036854775808 := by unfold unitOk at hu; omega
  have hv0 : -9223372036854775808 ≤ v ∧ v < 9223372036854775808 := by unfold unitOk at hv; omega
  have hub : ∀ x : Int, by_ x rs ≤ 3000000 := fun x => by
    have h2 := C2_le rs; have h3 := C3_le rs; have h1 := C1_pos rs
    unfold by_; split <;> (try split) <;> (try split) <;> omega
  have hup := by_pos u rs
  have cU := fun wx => in_any u 1 3 wx
  have cV := fun wx => in_any v 1 3 wx
  rw [(inB_unit u).2 hu] at cU
  rw [(inB_unit v).2 hv] at cV
  have CU : Hid _ := cU
  have CV : Hid _ := cV
  have cC : Hid (∀ wx, Calls Tryz.prog 8 #[.string s] wx fun e w' => e = .returned (.tuple #[cntV rs, .agg #[.int .i64 0, .int .i64 (-1)]]) ∧ Below wx.heap.size wx w') := fun wx => refCount_of s rs hr he (by omega) wx
  have cN : Hid (∀ wx, Calls Tryz.prog 30 #[cntV rs, .int .i64 u] wx fun e w' => e = .returned (.int .i64 (by_ u rs)) ∧ Below wx.heap.size wx w') := fun wx => refIn_any u rs hu0.1 hu0.2 (by omega) wx
  have hub1 := hub u
  have cK : Hid (∀ wx, Below w.heap.size w wx → Calls Tryz.prog 62 #[val, .int .i64 (by_ u rs)] wx fun e w' => e = .returned (.int .i64 0) ∧ Below wx.heap.size wx w') := fun wx hb => by
    have := refCheck_any val qs (by_ u rs) wx (opAt_below ho hb (Nat.le_refl _)) hwf hsm (by omega) (by omega)
    rw [hc] at this
    exact this
  have CAH : Hid (∀ a wx, 0 ≤ a → a ≤ by_ u rs → Calls Tryz.prog 63 #[.string s, .int .i64 u, .int .i64 a] wx fun e w' => e = .returned (.tuple #[cntV (if onEdge rs u a then upTo rs u a else []), .int .i64 (if onEdge rs u a then 0 else 10)]) ∧ Below wx.heap.size wx w') := fun a wx h0 h1 => refAhead_any s rs u a hr he hs hu h0 h1 wx
  have CIH : Hid (∀ X wx, C1 X ≤ 100000000 → Calls Tryz.prog 30 #[cntV X, .int .i64 v] wx fun e w' => e = .returned (.int .i64 (by_ v X)) ∧ Below wx.heap.size wx w') := fun X wx h => refIn_any v X hv0.1 hv0.2 h wx
  have HP1 : Hid (∀ p ∈ qs, oneB p = true ∧ (scan p.put).2 = true) := hp1
  have HP2 : Hid (longP qs = by_ u rs) := hp2
  have HP3 : Hid (∀ q ∈ qs, 0 ≤ lenP q) := hp3
  have HUB : Hid (∀ x : Int, by_ x rs ≤ 3000000) := hub
  have HC1 : Hid (C1 rs ≤ 3000000) := by show C1 rs ≤ 3000000; omega
  have HOP : Hid (opAt w val qs) := ho
  obtain ⟨p, c, rfl, r1, r2, r3⟩ := ho
  obtain ⟨n, hn⟩ : ∃ n, qs.length = n := ⟨_, rfl⟩
  have HN : Hid (qs.length = n) := hn
  rw [hn] at r1 hl cK ⊢
  obtain ⟨i0, hi, hz0, hz1, hz2⟩ := info_parts info_part
  obtain ⟨RL, hRL⟩ : ∃ RL : Int, by_ u rs = RL := ⟨_, rfl⟩
  rw [hRL] at cN cK hub1 hup
  have HRL : Hid (by_ u rs = RL) := hRL
  unfold cntV at cC cN
  unfold maxLen at r2
  clear cU cV hr he hs hu hv hwf hsm hC1 hu0 hv0 hub hp1 hp2 hp3 hc hn r3 hRL
  go_enter Tryz.func10, Tryz.ntmps10
  go_wp2_with (first
    | (have _ := hfirst; go_at_call 61; refine (CV.out _).mono ?_; rintro e w1 ⟨rfl, hw1⟩; obtain rfl := hw1.symm)
    | (go_at_call 61; refine (CU.out _).mono ?_; rintro e w1 ⟨rfl, hw1⟩; obtain rfl := hw1.symm; have hfirst := trivial)
    | (go_at_call 8; refine (cC.out _).mono ?_; rintro e w1 ⟨rfl, hb1⟩; have hbx := (Below.refl w1.heap.size w1).alloc (Nat.le_refl _) (.cells #[.int .i64 (C1 rs), .int .i64 (C2 rs), .int .i64 (C3 rs), .int .i64 (C4 rs)] 25); have hby := hbx.alloc hbx.size (.cells #[.int .i64 0, .int .i64 (-1)] 28); have HB1 : Hid (Below w.heap.size w ((w1.alloc (.cells #[.int .i64 (C1 rs), .int .i64 (C2 rs), .int .i64 (C3 rs), .int .i64 (C4 rs)] 25)).alloc (.cells #[.int .i64 0, .int .i64 (-1)] 28))) := hb1.trans (hby.mono hb1.size); clear hb1 hbx hby)
    | (go_at_call 30; refine (cN.out _).mono ?_; rintro e w2 ⟨rfl, hb2⟩; have HB2 : Hid (Below w.heap.size w w2) := HB1.out.trans (hb2.mono HB1.out.size); clear hb2)
    | (go_at_call 62; refine (cK.out _ HB2.out).mono ?_; rintro e w3 ⟨rfl, hb3⟩; have HB3 : Hid (Below w.heap.size w w3) := HB2.out.trans (hb3.mono HB2.out.size); clear hb3)
    | fail)
  clear HB1 HB2 CU CV cC cN cK
  go_loopw [13, 14, 15, 43] (fun v13 v14 v15 i wr => ∃ k : Nat, i = .int .i64 k ∧ v14 = .int .i64 (longP (qs.take k)) ∧ v15 = .int .i64 (by_ v (upTo rs u (longP (qs.take k)))) ∧ ∃ L : List Pt, L.length = k ∧ turnZ rs u v 0 qs = (L ++ (turnZ rs u v (longP (qs.take k)) (qs.drop k)).1, (turnZ rs u v (longP (qs.take k)) (qs.drop k)).2) ∧ k ≤ n ∧ wr.ownsRow w.heap.size 50 3 v13 k (cellsP L) ∧ Below w.heap.size w wr) (fun _ _ _ i _ => n - (intOf i).toNat)
  case atStart =>
    have e1 : longP (qs.take 0) = 0 := by simp [longP]
    refine ⟨0, rfl, by rw [e1], by rw [e1, upTo_zero, by_nil], [], rfl, by rw [e1]; rfl, Nat.zero_le _, World.ownsRow_nil _ _ _ _, HB3.out⟩
  case round =>
    obtain ⟨k, rfl, rfl, rfl, L, hLk, htz, hk, hown, hbw'⟩ := hrel
    obtain ⟨pv, cv, rfl⟩ := own_slice hown
    clear HB3
    by_cases hlt : k < n
    · have hkr : k < qs.length := by rw [HN.out]; exact hlt
      have hne : qs ≠ [] := by intro e; rw [e] at hkr; exact absurd hkr (Nat.not_lt_zero _)
      obtain ⟨p0, c0, hvv, _, _, hcell⟩ := HOP.out
      obtain ⟨b0, o, rfl, hb0, hcell⟩ := hcell hne
      obtain ⟨f0, f1, f2⟩ := hcell k qs[k] (List.getElem?_eq_getElem hkr)
      have g0 := (hbw'.cell (p := ⟨b0, o + k * 3, none⟩) hb0).trans f0
      have g1 := (hbw'.cell (p := ⟨b0, o + k * 3 + 1, none⟩) hb0).trans f1
      have g2 := (hbw'.cell (p := ⟨b0, o + k * 3 + 2, none⟩) hb0).trans f2
      obtain rfl : p = some ⟨b0, o, none⟩ := by injection hvv
      clear hvv hcell f0 f1 f2 hne
      have hqm : qs[k] ∈ qs := List.getElem_mem _
      have hob := (HP1.out _ hqm).1
      have hts : qs.take (k + 1) = qs.take k ++ [qs[k]] := List.take_succ_eq_append_getElem hkr
      have hA1' : longP (qs.take (k + 1)) = longP (qs.take k) + lenP qs[k] := by rw [hts, long_append]; simp [longP]
      have hA0 : 0 ≤ longP (qs.take k) := sum_pos fun q hq => HP3.out q (List.mem_of_mem_take hq)
      have hAN : longP (qs.take (k + 1)) ≤ RL := by
        have e2 : longP qs = longP (qs.take (k + 1)) + longP (qs.drop (k + 1)) := by rw [← long_append, List.take_append_drop]
        have := sum_pos fun q hq => HP3.out q (List.mem_of_mem_drop (i := k + 1) hq)
        have := HP2.out; have := HRL.out
        omega
      have hdk : qs.drop k = qs[k] :: qs.drop (k + 1) := List.drop_eq_getElem_cons hkr
      rw [hdk] at htz
      generalize qs[k] = q at *
      obtain ⟨K, D, U⟩ := q
      obtain ⟨A, hA⟩ : ∃ A, longP (qs.take k) = A := ⟨_, rfl⟩
      rw [hA] at hA1' hA0 htz ⊢
      have hld : lenP ⟨K, D, U⟩ = K + D := rfl
      rw [hld] at hA1'
      have hsnd := (one_sound hob).1
      obtain ⟨s1, s2⟩ := hsnd
      have s1 : 0 ≤ K := s1
      have s2 : 0 ≤ D := s2
      have hRLe := HRL.out
      have hw0 : IntKind.i64.wrap (K + D) = K + D := by rw [IntKind.wrap_i64]; omega
      have hw3 : IntKind.i64.wrap (A + (K + D)) = A + (K + D) := by rw [IntKind.wrap_i64]; omega
      have hj : (k : Int) < (n : Int) := by omega
      have HOP' : Hid ((wr.alloc (.cells #[.int .i64 K, .int .i64 D, .string ⟨U.toArray⟩] 50)).ownsRow w.heap.size 50 3 (.slice pv k cv) k (cellsP L)) := hown.alloc _
      have HLT : Hid (∀ j, (Value.slice pv k cv).ownBlock = some j → j < wr.heap.size) := fun j hj => (hown.lt j hj).2
      have HBP : Hid (Below w.heap.size w (wr.alloc (.cells #[.int .i64 K, .int .i64 D, .string ⟨U.toArray⟩] 50))) := hbw'.alloc hbw'.size _
      have hwlt := hbw'.size
      have hltw : wr.heap.size < (wr.alloc (.cells #[.int .i64 K, .int .i64 D, .string ⟨U.toArray⟩] 50)).heap.size := by simp
      have x0 : (wr.alloc (.cells #[.int .i64 K, .int .i64 D, .string ⟨U.toArray⟩] 50)).cell? ⟨wr.heap.size, 0, none⟩ = some (.int .i64 K) := by simp [go_sem]
      have x1 : (wr.alloc (.cells #[.int .i64 K, .int .i64 D, .string ⟨U.toArray⟩] 50)).cell? ⟨wr.heap.size, 1, none⟩ = some (.int .i64 D) := by simp [go_sem]
      have x2 : (wr.alloc (.cells #[.int .i64 K, .int .i64 D, .string ⟨U.toArray⟩] 50)).cell? ⟨wr.heap.size, 2, none⟩ = some (.string ⟨U.toArray⟩) := by simp [go_sem]
      have xf : (wr.alloc (.cells #[.int .i64 K, .int .i64 D, .string ⟨U.toArray⟩] 50)).frozen? ⟨wr.heap.size, 0, none⟩ = false := by simp [go_sem]
      have xg : (wr.alloc (.cells #[.int .i64 K, .int .i64 D, .string ⟨U.toArray⟩] 50)).frozen? ⟨wr.heap.size, 1, none⟩ = false := by simp [go_sem]
      have cA := CAH.out (A + (K + D)) (wr.alloc (.cells #[.int .i64 K, .int .i64 D, .string ⟨U.toArray⟩] 50)) (by omega) (by omega)
      obtain ⟨h, hh⟩ : ∃ h, by_ v (upTo rs u A) = h := ⟨_, rfl⟩
      by_cases hed : onEdge rs u (A + (K + D)) = true
      · rw [if_pos hed, if_pos hed] at cA
        rw [turnZ, if_pos (by rw [hld]; exact hed)] at htz
        have hXle1 := upTo_le (v := 1) rs (u := u) (a := A + (K + D)) (by omega)
        have hXle := upTo_le (v := v) rs (u := u) (a := A + (K + D)) (by omega)
        have hmono := upTo_mono (u := u) (v := v) rs (a := A) (b := A + (K + D)) (by omega) (by omega)
        have hp0 := by_pos v (upTo rs u A)
        have hHU := HUB.out v
        have hHC := HC1.out
        have hby1 : ∀ y, by_ 1 y = C1 y := fun _ => rfl
        rw [hby1, hby1] at hXle1
        rw [hld] at htz
        obtain ⟨X, hX⟩ : ∃ X, upTo rs u (A + (K + D)) = X := ⟨_, rfl⟩
        rw [hX] at cA htz hXle hXle1 hmono
        have cI := fun wx => CIH.out X wx (by omega)
        obtain ⟨XV, hXV⟩ : ∃ XV, by_ v X = XV := ⟨_, rfl⟩
        rw [hXV] at cI htz hXle hmono
        rw [hh] at htz hmono hp0 ⊢
        obtain ⟨M, hM⟩ : ∃ M, XV - h = M := ⟨_, rfl⟩
        rw [hM] at htz
        have hwM : IntKind.i64.wrap (XV - h) = M := by rw [IntKind.wrap_i64]; omega
        have HTK0 : Hid (turnZ rs u v 0 qs = ((L ++ [unit1 M ⟨K, D, U⟩]) ++ (turnZ rs u v (longP (qs.take (k + 1))) (qs.drop (k + 1))).1, (turnZ rs u v (longP (qs.take (k + 1))) (qs.drop (k + 1))).2)) := by
          show turnZ rs u v 0 qs = _
          rw [htz, hA1']; simp
        have HA1 : Hid (longP (qs.take (k + 1)) = A + (K + D)) := hA1'
        have HXV : Hid (by_ v (upTo rs u (A + (K + D))) = XV) := by show by_ v (upTo rs u (A + (K + D))) = XV; rw [hX, hXV]
        have HLL : Hid (L.length = k) := hLk
        unfold cntV at cA cI
        have CA : Hid _ := cA
        have CI : Hid _ := cI
        have HOPX := HOP'
        clear hown hbw' htz hA1' hAN hts hqm hkr hXle hXle1 hmono hp0 hHU hHC hby1 hX hXV hh hM hed cA cI hRLe hLk hdk hA HOP
        have HOP := HOP'
        rcases oneB_shapes hob with ⟨o1, o2, o3⟩ | ⟨o1, o2, o3⟩ | ⟨o1, o2, o3⟩
        · replace o1 : 0 < K := o1
          replace o2 : D = 0 := o2
          replace o3 : U = [] := o3
          have hUe : U.isEmpty = true := by rw [o3]; rfl
          have HTK := HTK0
          have e1 : unit1 M ⟨K, D, U⟩ = ⟨M, D, U⟩ := by unfold unit1; rw [if_pos o1]; show (⟨M, 0, []⟩ : Pt) = ⟨M, D, U⟩; rw [o2, o3]
          rw [e1] at HTK
          clear e1 HTK0 o2 o3 s2 hob
          go_wp2_with (first
            | (go_at_call 63; refine Calls.mono CA.out ?_; rintro e w5 ⟨rfl, hb5⟩; have HB5 : Hid (Below w.heap.size w w5) := HBP.out.trans (hb5.mono HBP.out.size); have HO5 : Hid (w5.ownsRow w.heap.size 50 3 (.slice pv k cv) k (cellsP L)) := own_below HOP'.out hb5; have y0 := cell_on hb5 x0; have y1 := cell_on hb5 x1; have y2 := cell_on hb5 x2; have yf := (hb5.frozen (p := ⟨wr.heap.size, 0, none⟩) hltw).trans xf; have yg := (hb5.frozen (p := ⟨wr.heap.size, 1, none⟩) hltw).trans xg; have hba : Below w5.heap.size w5 (w5.alloc (.cells #[.int .i64 (C1 X), .int .i64 (C2 X), .int .i64 (C3 X), .int .i64 (C4 X)] 25)) := (Below.refl _ _).alloc (Nat.le_refl _) _; have HBA : Hid (Below w5.heap.size w5 (w5.alloc (.cells #[.int .i64 (C1 X), .int .i64 (C2 X), .int .i64 (C3 X), .int .i64 (C4 X)] 25))) := hba; have z0 := cell_on hba y0; have z1 := cell_on hba y1; have z2 := cell_on hba y2; have hlt5 : wr.heap.size < w5.heap.size := Nat.lt_of_lt_of_le hltw hb5.size; have HB6 : Hid (Below w.heap.size w (w5.alloc (.cells #[.int .i64 (C1 X), .int .i64 (C2 X), .int .i64 (C3 X), .int .i64 (C4 X)] 25))) := HB5.out.alloc HB5.out.size _; have HO6 : Hid ((w5.alloc (.cells #[.int .i64 (C1 X), .int .i64 (C2 X), .int .i64 (C3 X), .int .i64 (C4 X)] 25)).ownsRow w.heap.size 50 3 (.slice pv k cv) k (cellsP L)) := HO5.out.alloc _; have HCX : Hid (counted (w5.alloc (.cells #[.int .i64 (C1 X), .int .i64 (C2 X), .int .i64 (C3 X), .int .i64 (C4 X)] 25)) w5.heap.size (C1 X) (C2 X) (C3 X) (C4 X)) := counted_new w5 _ _ _ _ _; have HY0 : Hid (Pcell w5 wr.heap.size K D U) := ⟨y0, y1, y2, yf, yg⟩; clear hb5)
            | (have _ := HM7; go_at_call 30; refine (CI.out _).mono ?_; rintro e w8 ⟨rfl, hb8⟩; have HB7s : Below w.heap.size w (w7.setCell ⟨wr.heap.size, 0, none⟩ (.int .i64 M)) := HB7.out.setCell (p := ⟨wr.heap.size, 0, none⟩) hwlt _; have HB8 : Hid (Below w.heap.size w w8) := HB7s.trans (hb8.mono HB7s.size); have HO8 : Hid (w8.ownsRow w.heap.size 50 3 (.slice pv k cv) k (cellsP L)) := own_below (own_setNe HO7.out HLT.out _) hb8; obtain ⟨q0, q1, q2, q3, q4⟩ := (pset0 HP7.out M).below hb8; have hs8 := HB8.out.size; clear hb8 HB7s)
            | (go_at_call 30; refine (CI.out _).mono ?_; rintro e w7 ⟨rfl, hb7⟩; have HB7 : Hid (Below w.heap.size w w7) := HB6.out.trans (hb7.mono HB6.out.size); have HO7 : Hid (w7.ownsRow w.heap.size 50 3 (.slice pv k cv) k (cellsP L)) := own_below HO6.out hb7; have HP7 : Hid (Pcell w7 wr.heap.size K D U) := (HY0.out.below HBA.out).below hb7; obtain ⟨n0, n1, n2, n3, n4⟩ := (HY0.out.below HBA.out).below hb7; have hc7 := counted_below HCX.out hb7; obtain ⟨⟨c0', c1', c2', c3'⟩, _⟩ := hc7; have HM7 := trivial; clear hb7)
            | (at_builtin; refine wpList_append_own _ rfl _ _ 23 rfl w.heap.size 50 i0 (.agg #[.int .i64 0, .int .i64 0, .string ⟨#[]⟩]) 3 32 Tryz.underlying23 hi hz0 hz1 hz2 rfl (by decide) _ _ _ rfl (HO8.out.alloc _) ⟨w8.heap.size, 0, none⟩ 1 1 (partCells ⟨M, D, U⟩) rfl rfl (cells_newN _ _ (by first | rfl | simp) _ _) (partCells_one _) (by unfold maxLen; omega) (by omega) (by first | omega | (simp; omega)) ?_)
            | fail)
          intro v' w' hown' hg' _
          obtain ⟨p', c', rfl⟩ := own_slice hown'
          have HB9 : Hid (Below w.heap.size w w') := (HB8.out.alloc HB8.out.size _).grown hg' (by simp; omega) fun k hk => (HO8.out.lt k hk).1
          have HO9 : Hid (w'.ownsRow w.heap.size 50 3 (.slice p' (k + 1) c') (k + 1) (cellsP L ++ partCells ⟨M, D, U⟩)) := hown'
          clear hown' hg'
          go_wp2
          go_roundw
          case rel =>
            refine ⟨k + 1, by go_num, HA1.out.symm ▸ rfl, by first | rfl | (rw [HA1.out, HXV.out]), L ++ [⟨M, D, U⟩], by rw [List.length_append, HLL.out]; rfl, HTK.out, by have := HN.out; omega, ?_, HB9.out⟩
            rw [cellsP_snoc]
            exact HO9.out
          case measure => simp [intOf]; omega
        · replace o1 : K = 0 := o1
          replace o2 : 0 < D := o2
          replace o3 : U = [] := o3
          have hUe : U.isEmpty = true := by rw [o3]; rfl
          have HTK := HTK0
          have hK0 : ¬ 0 < K := by omega
          have e1 : unit1 M ⟨K, D, U⟩ = ⟨K, M, U⟩ := by unfold unit1; rw [if_neg (show ¬ 0 < (⟨K, D, U⟩ : Pt).keep from hK0), if_pos o2]; show (⟨0, M, []⟩ : Pt) = ⟨K, M, U⟩; rw [o1, o3]
          rw [e1] at HTK
          clear e1 HTK0 o1 o3 s1 hob
          go_wp2_with (first
            | (go_at_call 63; refine Calls.mono CA.out ?_; rintro e w5 ⟨rfl, hb5⟩; have HB5 : Hid (Below w.heap.size w w5) := HBP.out.trans (hb5.mono HBP.out.size); have HO5 : Hid (w5.ownsRow w.heap.size 50 3 (.slice pv k cv) k (cellsP L)) := own_below HOP'.out hb5; have y0 := cell_on hb5 x0; have y1 := cell_on hb5 x1; have y2 := cell_on hb5 x2; have yf := (hb5.frozen (p := ⟨wr.heap.size, 0, none⟩) hltw).trans xf; have yg := (hb5.frozen (p := ⟨wr.heap.size, 1, none⟩) hltw).trans xg; have hba : Below w5.heap.size w5 (w5.alloc (.cells #[.int .i64 (C1 X), .int .i64 (C2 X), .int .i64 (C3 X), .int .i64 (C4 X)] 25)) := (Below.refl _ _).alloc (Nat.le_refl _) _; have HBA : Hid (Below w5.heap.size w5 (w5.alloc (.cells #[.int .i64 (C1 X), .int .i64 (C2 X), .int .i64 (C3 X), .int .i64 (C4 X)] 25))) := hba; have z0 := cell_on hba y0; have z1 := cell_on hba y1; have z2 := cell_on hba y2; have hlt5 : wr.heap.size < w5.heap.size := Nat.lt_of_lt_of_le hltw hb5.size; have HB6 : Hid (Below w.heap.size w (w5.alloc (.cells #[.int .i64 (C1 X), .int .i64 (C2 X), .int .i64 (C3 X), .int .i64 (C4 X)] 25))) := HB5.out.alloc HB5.out.size _; have HO6 : Hid ((w5.alloc (.cells #[.int .i64 (C1 X), .int .i64 (C2 X), .int .i64 (C3 X), .int .i64 (C4 X)] 25)).ownsRow w.heap.size 50 3 (.slice pv k cv) k (cellsP L)) := HO5.out.alloc _; have HCX : Hid (counted (w5.alloc (.cells #[.int .i64 (C1 X), .int .i64 (C2 X), .int .i64 (C3 X), .int .i64 (C4 X)] 25)) w5.heap.size (C1 X) (C2 X) (C3 X) (C4 X)) := counted_new w5 _ _ _ _ _; have HY0 : Hid (Pcell w5 wr.heap.size K D U) := ⟨y0, y1, y2, yf, yg⟩; clear hb5)
            | (have _ := HM7; go_at_call 30; refine (CI.out _).mono ?_; rintro e w8 ⟨rfl, hb8⟩; have HB7s : Below w.heap.size w (w7.setCell ⟨wr.heap.size, 1, none⟩ (.int .i64 M)) := HB7.out.setCell (p := ⟨wr.heap.size, 1, none⟩) hwlt _; have HB8 : Hid (Below w.heap.size w w8) := HB7s.trans (hb8.mono HB7s.size); have HO8 : Hid (w8.ownsRow w.heap.size 50 3 (.slice pv k cv) k (cellsP L)) := own_below (own_setNe HO7.out HLT.out _) hb8; obtain ⟨q0, q1, q2, q3, q4⟩ := (pset1 HP7.out M).below hb8; have hs8 := HB8.out.size; clear hb8 HB7s)
            | (go_at_call 30; refine (CI.out _).mono ?_; rintro e w7 ⟨rfl, hb7⟩; have HB7 : Hid (Below w.heap.size w w7) := HB6.out.trans (hb7.mono HB6.out.size); have HO7 : Hid (w7.ownsRow w.heap.size 50 3 (.slice pv k cv) k (cellsP L)) := own_below HO6.out hb7; have HP7 : Hid (Pcell w7 wr.heap.size K D U) := (HY0.out.below HBA.out).below hb7; obtain ⟨n0, n1, n2, n3, n4⟩ := (HY0.out.below HBA.out).below hb7; have hc7 := counted_below HCX.out hb7; obtain ⟨⟨c0', c1', c2', c3'⟩, _⟩ := hc7; have HM7 := trivial; clear hb7)
            | (at_builtin; refine wpList_append_own _ rfl _ _ 23 rfl w.heap.size 50 i0 (.agg #[.int .i64 0, .int .i64 0, .string ⟨#[]⟩]) 3 32 Tryz.underlying23 hi hz0 hz1 hz2 rfl (by decide) _ _ _ rfl (HO8.out.alloc _) ⟨w8.heap.size, 0, none⟩ 1 1 (partCells ⟨K, M, U⟩) rfl rfl (cells_newN _ _ (by first | rfl | simp) _ _) (partCells_one _) (by unfold maxLen; omega) (by omega) (by first | omega | (simp; omega)) ?_)
            | fail)
          intro v' w' hown' hg' _
          obtain ⟨p', c', rfl⟩ := own_slice hown'
          have HB9 : Hid (Below w.heap.size w w') := (HB8.out.alloc HB8.out.size _).grown hg' (by simp; omega) fun k hk => (HO8.out.lt k hk).1
          have HO9 : Hid (w'.ownsRow w.heap.size 50 3 (.slice p' (k + 1) c') (k + 1) (cellsP L ++ partCells ⟨K, M, U⟩)) := hown'
          clear hown' hg'
          go_wp2
          go_roundw
          case rel =>
            refine ⟨k + 1, by go_num, HA1.out.symm ▸ rfl, by first | rfl | (rw [HA1.out, HXV.out]), L ++ [⟨K, M, U⟩], by rw [List.length_append, HLL.out]; rfl, HTK.out, by have := HN.out; omega, ?_, HB9.out⟩
            rw [cellsP_snoc]
            exact HO9.out
          case measure => simp [intOf]; omega
        · replace o1 : K = 0 := o1
          replace o2 : D = 0 := o2
          have hUe : U.isEmpty = false := by cases U with | nil => exact absurd rfl o3 | cons x U => rfl
          have HTK := HTK0
          have e1 : unit1 M ⟨K, D, U⟩ = ⟨K, D, U⟩ := by unfold unit1; rw [if_neg (show ¬ 0 < (⟨K, D, U⟩ : Pt).keep by show ¬ 0 < K; omega), if_neg (show ¬ 0 < (⟨K, D, U⟩ : Pt).drop by show ¬ 0 < D; omega)]; show (⟨0, 0, U⟩ : Pt) = ⟨K, D, U⟩; rw [o1, o2]
          rw [e1] at HTK
          clear e1 HTK0 o1 o2 s1 s2 hob
          go_wp2_with (first
            | (go_at_call 63; refine Calls.mono CA.out ?_; rintro e w5 ⟨rfl, hb5⟩; have HB5 : Hid (Below w.heap.size w w5) := HBP.out.trans (hb5.mono HBP.out.size); have HO5 : Hid (w5.ownsRow w.heap.size 50 3 (.slice pv k cv) k (cellsP L)) := own_below HOP'.out hb5; have y0 := cell_on hb5 x0; have y1 := cell_on hb5 x1; have y2 := cell_on hb5 x2; have yf := (hb5.frozen (p := ⟨wr.heap.size, 0, none⟩) hltw).trans xf; have yg := (hb5.frozen (p := ⟨wr.heap.size, 1, none⟩) hltw).trans xg; have hba : Below w5.heap.size w5 (w5.alloc (.cells #[.int .i64 (C1 X), .int .i64 (C2 X), .int .i64 (C3 X), .int .i64 (C4 X)] 25)) := (Below.refl _ _).alloc (Nat.le_refl _) _; have HBA : Hid (Below w5.heap.size w5 (w5.alloc (.cells #[.int .i64 (C1 X), .int .i64 (C2 X), .int .i64 (C3 X), .int .i64 (C4 X)] 25))) := hba; have z0 := cell_on hba y0; have z1 := cell_on hba y1; have z2 := cell_on hba y2; have hlt5 : wr.heap.size < w5.heap.size := Nat.lt_of_lt_of_le hltw hb5.size; have HB6 : Hid (Below w.heap.size w (w5.alloc (.cells #[.int .i64 (C1 X), .int .i64 (C2 X), .int .i64 (C3 X), .int .i64 (C4 X)] 25))) := HB5.out.alloc HB5.out.size _; have HO6 : Hid ((w5.alloc (.cells #[.int .i64 (C1 X), .int .i64 (C2 X), .int .i64 (C3 X), .int .i64 (C4 X)] 25)).ownsRow w.heap.size 50 3 (.slice pv k cv) k (cellsP L)) := HO5.out.alloc _; have HCX : Hid (counted (w5.alloc (.cells #[.int .i64 (C1 X), .int .i64 (C2 X), .int .i64 (C3 X), .int .i64 (C4 X)] 25)) w5.heap.size (C1 X) (C2 X) (C3 X) (C4 X)) := counted_new w5 _ _ _ _ _; have HY0 : Hid (Pcell w5 wr.heap.size K D U) := ⟨y0, y1, y2, yf, yg⟩; clear hb5)
            | (go_at_call 30; refine (CI.out _).mono ?_; rintro e w8 ⟨rfl, hb8⟩; have HB8 : Hid (Below w.heap.size w w8) := HB6.out.trans (hb8.mono HB6.out.size); have HO8 : Hid (w8.ownsRow w.heap.size 50 3 (.slice pv k cv) k (cellsP L)) := own_below HO6.out hb8; have q0 := cell_on hb8 z0; have q1 := cell_on hb8 z1; have q2 := cell_on hb8 z2; have hs8 := HB8.out.size; clear hb8)
            | (at_builtin; refine wpList_append_own _ rfl _ _ 23 rfl w.heap.size 50 i0 (.agg #[.int .i64 0, .int .i64 0, .string ⟨#[]⟩]) 3 32 Tryz.underlying23 hi hz0 hz1 hz2 rfl (by decide) _ _ _ rfl (HO8.out.alloc _) ⟨w8.heap.size, 0, none⟩ 1 1 (partCells ⟨K, D, U⟩) rfl rfl (cells_newN _ _ (by first | rfl | simp) _ _) (partCells_one _) (by unfold maxLen; omega) (by omega) (by first | omega | (simp; omega)) ?_)
            | fail)
          intro v' w' hown' hg' _
          obtain ⟨p', c', rfl⟩ := own_slice hown'
          have HB9 : Hid (Below w.heap.size w w') := (HB8.out.alloc HB8.out.size _).grown hg' (by simp; omega) fun k hk => (HO8.out.lt k hk).1
          have HO9 : Hid (w'.ownsRow w.heap.size 50 3 (.slice p' (k + 1) c') (k + 1) (cellsP L ++ partCells ⟨K, D, U⟩)) := hown'
          clear hown' hg'
          go_wp2
          go_roundw
          case rel =>
            refine ⟨k + 1, by go_num, HA1.out.symm ▸ rfl, by first | rfl | (rw [HA1.out, HXV.out]), L ++ [⟨K, D, U⟩], by rw [List.length_append, HLL.out]; rfl, HTK.out, by have := HN.out; omega, ?_, HB9.out⟩
            rw [cellsP_snoc]
            exact HO9.out
          case measure => simp [intOf]; omega
      · have hed : onEdge rs u (A + (K + D)) = false := Bool.eq_false_iff.2 hed
        rw [if_neg (by rw [hed]; decide), if_neg (by rw [hed]; decide)] at cA
        rw [turnZ, if_neg (by rw [hld, hed]; decide)] at htz
        have e2 : (turnZ rs u v 0 qs).2 = false := by rw [htz]
        have HRX : Hid (turnX rs u v qs = 10 ∧ turnO rs u v qs = []) := by
          show turnX rs u v qs = 10 ∧ turnO rs u v qs = []
          unfold turnX turnO
          rw [e2]; exact ⟨rfl, rfl⟩
        rw [hh]
        unfold cntV at cA
        have CA : Hid _ := cA
        clear hown hbw' htz hA1' hAN hts hqm hkr hh hed cA hRLe hLk hdk hA e2 hob
        go_wp2_with (first
          | (go_at_call 63; refine Calls.mono CA.out ?_; rintro e w5 ⟨rfl, hb5⟩; have HB5 : Hid (Below w.heap.size w w5) := HBP.out.trans (hb5.mono HBP.out.size); have HB6 : Hid (Below w.heap.size w (w5.alloc (.cells #[.int .i64 (C1 []), .int .i64 (C2 []), .int .i64 (C3 []), .int .i64 (C4 [])] 25))) := HB5.out.alloc HB5.out.size _; clear hb5)
          | fail)
        go_ret2
        refine ⟨.slice none 0 0, ?_, ?_, HB6.out⟩
        · rw [HRX.out.1]; rfl
        · rw [HRX.out.2]; exact ⟨none, 0, rfl, Nat.le_refl _, Nat.zero_le _, fun h => absurd rfl h⟩
    · obtain rfl : k = n := by omega
      have e : qs.drop k = [] := List.drop_of_length_le (by rw [HN.out]; exact Nat.le_refl _)
      rw [e] at htz
      have htz2 : turnZ rs u v 0 qs = (L, true) := by rw [htz]; simp [turnZ]
      have HRX : Hid (turnX rs u v qs = 0 ∧ turnO rs u v qs = L) := by
        show turnX rs u v qs = 0 ∧ turnO rs u v qs = L
        unfold turnX turnO
        rw [htz2]; exact ⟨rfl, rfl⟩
      have HB : Hid (Below w.heap.size w wr) := hbw'
      have hop : opAt wr (.slice pv k cv) L := by
        have := hown
        rw [← hLk] at this ⊢
        exact opAt_own this
      have HOPW : Hid (opAt wr (.slice pv k cv) L) := hop
      clear hop hown e hbw' htz htz2 hLk
      go_wp2
      go_ret2
      refine ⟨.slice pv k cv, ?_, ?_, HB.out⟩
      · rw [HRX.out.1]; rfl
      · rw [HRX.out.2]; exact HOPW.out
end Go.Proofs.YtldhbjmillfjgabGreatDoor

namespace Go.Proofs.YtldhbjmillfjgabGreatDoor
open Go.RowKit
set_option linter.unusedVariables false
attribute [local go_sem] Oper.semAt_some

def uB (u : Int) : Bool := decide (u = 1 ∨ u = 2 ∨ u = 3)
theorem uB_iff (u : Int) : uB u = true ↔ unitOk u := by unfold uB unitOk; exact decide_eq_true_iff
def tzE (rs : List Nat) (u v : Int) (qs : List Pt) : Int := if (uB u && uB v) = true then (if chkE qs (by_ u rs) = 0 then turnX rs u v qs else chkE qs (by_ u rs)) else 1
def tzO (rs : List Nat) (u v : Int) (qs : List Pt) : List Pt := if (uB u && uB v) = true then (if chkE qs (by_ u rs) = 0 then turnO rs u v qs else []) else []
theorem opAt_none (w : World) : opAt w (.slice none 0 0) [] := ⟨none, 0, rfl, Nat.le_refl _, Nat.zero_le _, fun h => absurd rfl h⟩
theorem refTurn_all (s : ByteArray) (rs : List Nat) (u v : Int) (qs : List Pt) (val : Value) (w : World) (hr : ∀ r ∈ rs, isRune r) (he : encs rs = s.data.toList) (hs : s.size < 1000000) (ho : opAt w val qs) (hwf : ∀ q ∈ qs, wfP q) (hsm : ∀ q ∈ qs, q.put.length < 100000000) (hl : qs.length ≤ 1000) :
    Calls Tryz.prog 10 #[.string s, .int .i64 u, .int .i64 v, val] w fun e w' => ∃ v', e = .returned (.tuple #[v', .int .i64 (tzE rs u v qs)]) ∧ opAt w' v' (tzO rs u v qs) ∧ Below w.heap.size w w' := by
  unfold tzE tzO
  by_cases hu : unitOk u ∧ unitOk v
  · rw [(uB_iff u).2 hu.1, (uB_iff v).2 hu.2, Bool.and_self, if_pos rfl, if_pos rfl]
    by_cases hc : chkE qs (by_ u rs) = 0
    · rw [if_pos hc, if_pos hc]
      exact refTurn_fine s rs u v qs val w hr he hs hu.1 hu.2 ho hwf hsm hl hc
    · rw [if_neg hc, if_neg hc]
      exact (refTurn_chk s rs u v qs val w hr he hs hu.1 hu.2 ho hwf hsm hl hc).mono fun e w' h => ⟨_, h.1, opAt_none w', h.2⟩
  · have e : (uB u && uB v) = false := Bool.eq_false_iff.2 fun e => hu (by rw [Bool.and_eq_true] at e; exact ⟨(uB_iff u).1 e.1, (uB_iff v).1 e.2⟩)
    rw [e, if_neg (by decide), if_neg (by decide)]
    exact (refTurn_unit s u v val hu w).mono fun e w' h => ⟨_, h.1, opAt_none w', h.2⟩
end Go.Proofs.YtldhbjmillfjgabGreatDoor

namespace Go.Proofs.YtldhbjmillfjgabGreatDoor
open Go.RowKit
set_option linter.unusedVariables false
attribute [local go_sem] Oper.semAt_some

theorem shlen_any (b u : Nat) (hu : unitN u) (rs : List Nat) (w : World) (h : isShape w b u rs) : Calls Tryz.prog 29 #[.pointer (some ⟨b, 0, none⟩)] w fun e w' => e = .returned (.int .i64 (by_ (u : Int) rs)) ∧ w' = w := by
  rcases hu with rfl | rfl | rfl
  · exact shlen1_any b rs w h
  · exact shlen2_any b rs w h
  · exact shlen3_any b rs w h
theorem shtext_any (b u : Nat) (hu : unitN u) (rs : List Nat) (w : World) (h : isShape w b u rs) (hR : ∀ r ∈ rs, isRune r) (hz : C1 rs ≤ 1000000) (hT : Lib.Utf8Tabs 2 3 w) : Calls Tryz.prog 24 #[.pointer (some ⟨b, 0, none⟩)] w fun e w' => e = .returned (.string (bytesOf rs)) ∧ Below w.heap.size w w' := by
  rcases hu with rfl | rfl | rfl
  · exact shtext1_any b rs w h hR hz hT
  · exact shtext2_any b rs w h hR hz hT
  · exact shtext3_any b rs w h hR hz hT
theorem shapply_any (b u : Nat) (hu : unitN u) (rs : List Nat) (qs : List Pt) (v : Value) (w : World) (h : isShape w b u rs) (hR : ∀ r ∈ rs, isRune r) (hz : C1 rs ≤ 100000) (hT : Lib.Utf8Tabs 2 3 w) (hr : opAt w v qs) (hwf : ∀ q ∈ qs, wfP q) (hl : qs.length ≤ 1000) (hpl : ∀ q ∈ qs, q.put.length ≤ 1000000) :
    Calls Tryz.prog 22 #[.pointer (some ⟨b, 0, none⟩), v] w fun e w' => e = .returned (errV (shE (u : Int) rs qs)) ∧ isShape w' b u (shR (u : Int) rs qs) ∧ Below b w w' := by
  rcases hu with rfl | rfl | rfl
  · exact shapply1_any b rs qs v w h hR hz hT hr hwf hl hpl
  · exact shapply2_any b rs qs v w h hR hz hT hr hwf hl hpl
  · exact shapply3_any b rs qs v w h hR hz hT hr hwf hl hpl
theorem shnew_text (u : Nat) (hu : unitN u) (s : List UInt8) (hs : s.length ≤ 1000000) (hsc : (scan s).2 = false) (w : World) (hT : Lib.Utf8Tabs 2 3 w) : Calls Tryz.prog 21 #[.int .i64 (u : Int), .string ⟨s.toArray⟩] w fun e w' => ∃ x w1, e = .returned (.tuple #[.pointer none, x]) ∧ isAt w w1 x (place s) ∧ Below w1.heap.size w1 w' ∧ Below w.heap.size w w' := by
  rcases hu with rfl | rfl | rfl
  · exact shnew1_text s hs hsc w hT
  · exact shnew2_text s hs hsc w hT
  · exact shnew3_text s hs hsc w hT
theorem shnew_good (u : Nat) (hu : unitN u) (rs : List Nat) (hR : ∀ r ∈ rs, isRune r) (hz : C1 rs ≤ 8000) (w : World) (hT : Lib.Utf8Tabs 2 3 w) : Calls Tryz.prog 21 #[.int .i64 (u : Int), .string (bytesOf rs)] w fun e w' => ∃ b, e = .returned (.tuple #[.pointer (some ⟨b, 0, none⟩), .nilIface]) ∧ isShape w' b u rs ∧ w.heap.size ≤ b ∧ Below w.heap.size w w' := by
  rcases hu with rfl | rfl | rfl
  · exact shnew1_good rs hR hz w hT
  · exact shnew2_good rs hR hz w hT
  · exact shnew3_good rs hR hz w hT

theorem sh_bad {u : Int} (hu : unitOk u) {rs : List Nat} {q : List Pt} (h : tzE rs u 1 q ≠ 0) : shE u rs q = tzE rs u 1 q ∧ shR u rs q = rs := by
  have h1 : (uB u && uB 1) = true := by rw [(uB_iff u).2 hu, (uB_iff 1).2 (.inl rfl)]; rfl
  have key : shE u rs q = tzE rs u 1 q := by
    unfold tzE at h ⊢
    rw [h1, if_pos rfl] at h ⊢
    unfold shE
    by_cases hc : chkE q (by_ u rs) = 0
    · rw [if_pos hc] at h
      rw [if_pos hc, if_pos hc]
      obtain ⟨_, h2, h3⟩ := chkE_parts hc
      obtain ⟨t1, _⟩ := turn_in hu 1 q rs h3 (Int.le_of_eq h2)
      rw [t1] at h ⊢
      unfold plE
      split at h
      · exact absurd rfl h
      · rename_i ho; rw [if_neg ho, if_neg ho]
    · rw [if_neg hc, if_neg hc]
  exact ⟨key, by unfold shR; rw [if_neg (by rw [key]; exact h)]⟩
theorem sh_fine {u : Int} (hu : unitOk u) {rs : List Nat} {q : List Pt} (hR : ∀ r ∈ rs, isRune r) (h : tzE rs u 1 q = 0) :
    good (tzO rs u 1 q) (encs rs) ∧ applyP (tzO rs u 1 q) (encs rs) = encs (comesZ u rs q) ∧ (∀ r ∈ comesZ u rs q, isRune r) ∧ shE u rs q = (if C1 (comesZ u rs q) ≤ 8000 then 0 else 12) ∧ shR u rs q = (if C1 (comesZ u rs q) ≤ 8000 then comesZ u rs q else rs) ∧ chkE q (by_ u rs) = 0 ∧ okZ u rs q = true ∧ tzO rs u 1 q = inZ u 1 rs q := by
  have h1 : (uB u && uB 1) = true := by rw [(uB_iff u).2 hu, (uB_iff 1).2 (.inl rfl)]; rfl
  unfold tzE at h
  unfold tzO
  rw [h1, if_pos rfl] at h ⊢
  have hc : chkE q (by_ u rs) = 0 := by
    by_cases hc : chkE q (by_ u rs) = 0
    · exact hc
    · rw [if_neg hc] at h; exact absurd h hc
  rw [if_pos hc] at h ⊢
  obtain ⟨hp1, h2, h3⟩ := chkE_parts hc
  obtain ⟨t1, t2⟩ := turn_in hu 1 q rs h3 (Int.le_of_eq h2)
  have ho : okZ u rs q = true := by
    rw [t1] at h
    cases e : okZ u rs q with
    | true => rfl
    | false => rw [e] at h; cases h
  rw [t2, ho, if_pos rfl]
  obtain ⟨il, ia⟩ := in_left hu q rs hp1 h2 hR ho
  have hE : shE u rs q = (if C1 (comesZ u rs q) ≤ 8000 then 0 else 12) := by
    unfold shE plE
    rw [if_pos hc, if_pos ho]
  refine ⟨il.good, ia, comes_rune hu q rs h3 (Int.le_of_eq h2) ho hR, hE, ?_, hc, rfl, rfl⟩
  unfold shR
  rw [hE]
  by_cases h8 : C1 (comesZ u rs q) ≤ 8000
  · rw [if_pos h8, if_pos rfl, if_pos h8]
  · rw [if_neg h8, if_neg (by decide), if_neg h8]
theorem in_puts {u : Int} : ∀ (qs : List Pt) (R : List Nat), (∀ q ∈ qs, oneB q = true) → putsP (inZ u 1 R qs) = putsP qs
  | [], _, _ => rfl
  | q :: qs, R, h => by
    have ih := in_puts (u := u) qs (restZ u R (lenP q)) fun x hx => h x (by simp [hx])
    have e : ∀ (p : Pt) (l : List Pt), putsP (p :: l) = p.put.length + putsP l := fun p l => by simp [putsP]
    rw [inZ, e, e, ih, unit_put (h q (by simp))]
theorem in_len {u v : Int} : ∀ (qs : List Pt) (R : List Nat), (inZ u v R qs).length = qs.length
  | [], _ => rfl
  | q :: qs, R => by rw [inZ, List.length_cons, List.length_cons, in_len qs]
theorem putsP_le : ∀ (qs : List Pt), (∀ q ∈ qs, q.put.length ≤ 300) → putsP qs ≤ 300 * qs.length
  | [], _ => by simp [putsP]
  | q :: qs, h => by
    have ih := putsP_le qs fun x hx => h x (by simp [hx])
    have := h q (by simp)
    have e : putsP (q :: qs) = q.put.length + putsP qs := by simp [putsP]
    rw [e, List.length_cons]; omega

theorem put_le_puts (p : Pt) : ∀ (qs : List Pt), p ∈ qs → p.put.length ≤ putsP qs
  | [], h => by cases h
  | q :: qs, h => by
    have e : putsP (q :: qs) = q.put.length + putsP qs := by simp [putsP]
    rw [e]
    rcases List.mem_cons.1 h with rfl | h
    · omega
    · have := put_le_puts p qs h; omega
/-- What the law's loop keeps. -/
def shI (w : World) (b u : Nat) (x : Nat) (v1 : Value) (wr : World) : Prop :=
  ∃ rs, v1 = .string (bytesOf rs) ∧ isShape wr b u rs ∧ (∀ r ∈ rs, isRune r) ∧ C1 rs ≤ 8000 ∧ Below w.heap.size w wr

set_option maxHeartbeats 1000000 in
theorem shapeLaw_long (u : Int) (s : List UInt8) (v : Value) (l : List (List Pt)) (w : World) (hr : opsAt w v l) (h : 400 < s.length ∨ 12 < l.length) :
    Calls Tryz.prog 5 #[.int .i64 u, .string ⟨s.toArray⟩, v] w fun e w' => e = .returned (.bool true) ∧ Below w.heap.size w w' := by
  have hz : (ByteArray.mk s.toArray).size = s.length := by simp [ByteArray.size]
  obtain ⟨p, c, rfl, r1, r2, _⟩ := hr
  unfold maxLen at r2
  by_cases h1 : 400 < s.length
  · have h2 : (400 : Int) < (s.length : Int) := by omega
    go_enter Tryz.func5, Tryz.ntmps5
    go_wp2
    go_ret
    exact ⟨rfl, Below.refl _ _⟩
  · have h2 : ¬ (400 : Int) < (s.length : Int) := by omega
    have h3 : (12 : Int) < (l.length : Int) := by omega
    clear h
    go_enter Tryz.func5, Tryz.ntmps5
    go_wp2
    go_ret
    exact ⟨rfl, Below.refl _ _⟩
set_option maxHeartbeats 1000000 in
theorem shapeLaw_unit (u : Int) (s : List UInt8) (v : Value) (l : List (List Pt)) (w : World) (hg : asLaid w) (hr : opsAt w v l) (hs : s.length ≤ 400) (hl : l.length ≤ 12) (hu : ¬ unitOk u) :
    Calls Tryz.prog 5 #[.int .i64 u, .string ⟨s.toArray⟩, v] w fun e w' => e = .returned (.bool true) ∧ Below w.heap.size w w' := by
  have hz : (ByteArray.mk s.toArray).size = s.length := by simp [ByteArray.size]
  obtain ⟨p, c, rfl, r1, r2, _⟩ := hr
  unfold maxLen at r2
  have h2 : ¬ (400 : Int) < (s.length : Int) := by omega
  have h3 : ¬ (12 : Int) < (l.length : Int) := by omega
  have cN := shnew_unit u hu ⟨s.toArray⟩ w
  have cB : Hid (∀ wx, Below w.heap.size w wx → Calls Tryz.prog 13 #[errV 1, .int .i64 1] wx fun e w' => e = .returned (.bool true) ∧ Below wx.heap.size wx w') := fun wx hb => bare_any _ wx (asLaid_below hg hb)
  have hV : errV 1 = .iface 26 (.int .i64 1) := rfl
  rw [hV] at cN cB
  have CN : Hid _ := cN
  clear hV cN
  unfold unitOk at hu
  by_cases h1 : u < 1
  · clear hu hg hs hl
    go_enter Tryz.func5, Tryz.ntmps5
    go_wp2_with (first
      | (go_at_call 21; refine Calls.mono CN.out ?_; rintro e w1 ⟨rfl, hb1⟩; have HB1 : Hid (Below w.heap.size w w1) := hb1; clear hb1)
      | (go_at_call 13; refine (cB.out _ HB1.out).mono ?_; rintro e w2 ⟨rfl, hb2⟩; have HB2 : Hid (Below w.heap.size w w2) := HB1.out.trans (hb2.mono HB1.out.size); clear hb2)
      | fail)
    go_ret
    exact ⟨rfl, HB2.out⟩
  · have h4 : 3 < u := by omega
    clear hu hg hs hl
    go_enter Tryz.func5, Tryz.ntmps5
    go_wp2_with (first
      | (go_at_call 21; refine Calls.mono CN.out ?_; rintro e w1 ⟨rfl, hb1⟩; have HB1 : Hid (Below w.heap.size w w1) := hb1; clear hb1)
      | (go_at_call 13; refine (cB.out _ HB1.out).mono ?_; rintro e w2 ⟨rfl, hb2⟩; have HB2 : Hid (Below w.heap.size w w2) := HB1.out.trans (hb2.mono HB1.out.size); clear hb2)
      | fail)
    go_ret
    exact ⟨rfl, HB2.out⟩
set_option maxHeartbeats 2000000 in
theorem shapeLaw_text (u : Nat) (hu : unitN u) (s : List UInt8) (v : Value) (l : List (List Pt)) (w : World) (hg : asLaid w) (hT : Lib.Utf8Tabs 2 3 w) (hr : opsAt w v l) (hs : s.length ≤ 400) (hl : l.length ≤ 12) (hsc : (scan s).2 = false) :
    Calls Tryz.prog 5 #[.int .i64 (u : Int), .string ⟨s.toArray⟩, v] w fun e w' => e = .returned (.bool true) ∧ Below w.heap.size w w' := by
  have hz : (ByteArray.mk s.toArray).size = s.length := by simp [ByteArray.size]
  obtain ⟨p, c, rfl, r1, r2, _⟩ := hr
  unfold maxLen at r2
  have h2 : ¬ (400 : Int) < (s.length : Int) := by omega
  have h3 : ¬ (12 : Int) < (l.length : Int) := by omega
  have hu1 : ¬ ((u : Int) < 1) ∧ ¬ (3 < (u : Int)) := by unfold unitN at hu; omega
  obtain ⟨hu1, hu2⟩ := hu1
  have CN : Hid _ := shnew_text u hu s (by omega) hsc w hT
  have cR : Hid (∀ wx, Below w.heap.size w wx → Calls Tryz.prog 8 #[.string ⟨s.toArray⟩] wx fun e w' => Below wx.heap.size wx w' ∧ e = .returned (.tuple #[cnt 0 0 0 0, fault 3 (place s)])) := fun wx hb => refCount_bad ⟨s.toArray⟩ (by rw [hz]; omega) wx hsc
  have HG : Hid (asLaid w) := hg
  unfold cnt fault at cR
  generalize place s = PL at *
  clear hu hg hs hl hsc hT
  go_enter Tryz.func5, Tryz.ntmps5
  go_wp2_with (first
    | (go_at_call 21; refine Calls.mono CN.out ?_; rintro e w1 ⟨x, w0, rfl, hat, hb0, hb1⟩; have HB1 : Hid (Below w.heap.size w w1) := hb1; have HAT : Hid (isAt w w0 x PL) := hat; have HB0 : Hid (Below w0.heap.size w0 w1) := hb0; clear hb1 hb0 hat)
    | (go_at_call 8; refine (cR.out _ HB1.out).mono ?_; rintro e w2 ⟨hb2, rfl⟩; have HB2 : Hid (Below w.heap.size w ((w2.alloc (.cells #[.int .i64 0, .int .i64 0, .int .i64 0, .int .i64 0] 25)).alloc (.cells #[.int .i64 3, .int .i64 PL] 28))) := ((HB1.out.trans (hb2.mono HB1.out.size)).alloc (Nat.le_trans HB1.out.size hb2.size) _).alloc (by have := HB1.out.size; have := hb2.size; simp; omega) _; have HB02 : Hid (Below w0.heap.size w0 ((w2.alloc (.cells #[.int .i64 0, .int .i64 0, .int .i64 0, .int .i64 0] 25)).alloc (.cells #[.int .i64 3, .int .i64 PL] 28))) := ((HB0.out.trans (hb2.mono HB0.out.size)).alloc (Nat.le_trans HB0.out.size hb2.size) _).alloc (by have := HB0.out.size; have := hb2.size; simp; omega) _; clear hb2)
    | (go_at_call 26; refine (is_at (asLaid_below HG.out HB2.out) HAT.out HB02.out).mono ?_; rintro e w3 ⟨rfl, hb3⟩; have HB3 : Hid (Below w.heap.size w w3) := HB2.out.trans (hb3.mono HB2.out.size); clear hb3)
    | fail)
  go_ret
  exact ⟨rfl, HB3.out⟩
end Go.Proofs.YtldhbjmillfjgabGreatDoor

namespace Go.Proofs.YtldhbjmillfjgabGreatDoor
set_option linter.unusedVariables false

theorem good.left {ps : List Pt} {t : List UInt8} (h : good ps t) : Left ps t := ⟨h.one, h.long, h.al⟩

theorem puts_cons (p : Pt) (ps : List Pt) : putsP (p :: ps) = p.put.length + putsP ps := by simp [putsP]
end Go.Proofs.YtldhbjmillfjgabGreatDoor

namespace Go.Proofs.YtldhbjmillfjgabGreatDoor
open Go.RowKit
set_option linter.unusedVariables false

theorem wts_eq : ∀ (ps : List Pt), wts ps = longP ps + putsP ps
  | [] => by simp [wts, longP, putsP]
  | p :: ps => by
    have ih := wts_eq ps
    have e1 : wts (p :: ps) = wtP p + wts ps := by simp [wts]
    rw [e1, long_cons, puts_cons, ih]
    unfold wtP lenP
    push_cast; omega
theorem len_wts : ∀ (ps : List Pt), (∀ p ∈ ps, oneP p) → (ps.length : Int) ≤ wts ps
  | [], _ => by simp [wts]
  | p :: ps, h => by
    have ih := len_wts ps fun q hq => h q (by simp [hq])
    have e1 : wts (p :: ps) = wtP p + wts ps := by simp [wts]
    have h1 := length_pos (h p (by simp))
    have e2 : lengthP p = wtP p := rfl
    rw [e1, List.length_cons]; push_cast; omega
theorem wts_mem : ∀ (ps : List Pt), (∀ p ∈ ps, oneP p) → ∀ p ∈ ps, wtP p ≤ wts ps
  | [], _, p, hp => by cases hp
  | q :: ps, h, p, hp => by
    have e1 : wts (q :: ps) = wtP q + wts ps := by simp [wts]
    have h0 := len_wts ps fun x hx => h x (by simp [hx])
    have h1 := length_pos (h q (by simp))
    have e2 : lengthP q = wtP q := rfl
    rcases List.mem_cons.1 hp with rfl | hp
    · omega
    · have := wts_mem ps (fun x hx => h x (by simp [hx])) p hp
      omega
theorem good.wt {x : List Pt} {t : List UInt8} (h : good x t) : wts x = t.length + putsP x := by rw [wts_eq, h.long]
theorem good.wf {x : List Pt} {t : List UInt8} (h : good x t) (hb : t.length + putsP x < 1000000) : ∀ p ∈ x, wfP p := by
  intro p hp
  have h1 := h.wt
  have h2 := wts_mem x h.one p hp
  obtain ⟨k1, k2, _⟩ := one_kind (h.one p hp)
  have e : wtP p = p.keep + p.drop + p.put.length := rfl
  exact ⟨by omega, by omega, by omega, by omega, by omega⟩
end Go.Proofs.YtldhbjmillfjgabGreatDoor

namespace Go.Proofs.YtldhbjmillfjgabGreatDoor
open Go.RowKit
set_option linter.unusedVariables false
attribute [local go_sem] Oper.semAt_some

theorem cellsCnt (w : World) (n1 n2 n3 n4 : Int) (t t' : TypeId) (b : Obj) : ∀ (j : Nat) u, (#[Value.int .i64 n1, .int .i64 n2, .int .i64 n3, .int .i64 n4] : Array Value)[j]? = some u → ((w.alloc (.cells #[.int .i64 n1, .int .i64 n2, .int .i64 n3, .int .i64 n4] t)).alloc b).cell? ⟨w.heap.size, j, none⟩ = some u := fun j u h => by
  have h2 : ((w.alloc (.cells #[.int .i64 n1, .int .i64 n2, .int .i64 n3, .int .i64 n4] t)).alloc b).heap[w.heap.size]? = some (.cells #[.int .i64 n1, .int .i64 n2, .int .i64 n3, .int .i64 n4] t (0, 0)) := (heap_alloc_old _ _ (by simp)).trans (heap_alloc_new _ _)
  simp [World.cell?, h2, h]
set_option maxRecDepth 100000 in
set_option maxHeartbeats 3000000 in
theorem shapeLaw_good (u : Nat) (hu : unitN u) (rs0 : List Nat) (hR0 : ∀ r ∈ rs0, isRune r) (hz0 : C1 rs0 ≤ 400) (v : Value) (l : List (List Pt)) (w : World) (hg : asLaid w) (hT : Lib.Utf8Tabs 2 3 w) (hr : opsAt w v l) (hwf : ∀ q ∈ l, smallWf q) (hl : l.length ≤ 12) :
    Calls Tryz.prog 5 #[.int .i64 (u : Int), .string (bytesOf rs0), v] w fun e w' => e = .returned (.bool true) ∧ Below w.heap.size w w' := by
  have huo := unitN_ok hu
  have HUN : Hid (unitN u) := hu
  have HUO : Hid (unitOk (u : Int)) := huo
  have HG : Hid (asLaid w) := hg
  have HT : Hid (Lib.Utf8Tabs 2 3 w) := hT
  have HOP : Hid (opsAt w v l) := hr
  have HWF : Hid (∀ q ∈ l, smallWf q) := hwf
  have hbz : ∀ rs : List Nat, (bytesOf rs).size = (encs rs).length := fun rs => by simp [bytesOf, ByteArray.size]
  have cN : Hid (Calls Tryz.prog 21 #[.int .i64 (u : Int), .string (bytesOf rs0)] w fun e w' => ∃ b, e = .returned (.tuple #[.pointer (some ⟨b, 0, none⟩), .nilIface]) ∧ isShape w' b u rs0 ∧ w.heap.size ≤ b ∧ Below w.heap.size w w') := shnew_good u hu rs0 hR0 (by omega) w hT
  have cC : Hid (∀ rs wx, (∀ r ∈ rs, isRune r) → C1 rs ≤ 8000 → Calls Tryz.prog 8 #[.string (bytesOf rs)] wx fun e w' => e = .returned (.tuple #[.agg #[.int .i64 (C1 rs), .int .i64 (C2 rs), .int .i64 (C3 rs), .int .i64 (C4 rs)], .agg #[.int .i64 0, .int .i64 (-1)]]) ∧ Below wx.heap.size wx w') := fun rs wx h1 h2 => refCount_of (bytesOf rs) rs h1 rfl (by rw [hbz]; have := C1_len rs; omega) wx
  have cTx : Hid (∀ b rs wx, Below w.heap.size w wx → isShape wx b u rs → (∀ r ∈ rs, isRune r) → C1 rs ≤ 8000 → Calls Tryz.prog 24 #[.pointer (some ⟨b, 0, none⟩)] wx fun e w' => e = .returned (.string (bytesOf rs)) ∧ Below wx.heap.size wx w') := fun b rs wx hb h1 h2 h3 => shtext_any b u HUN.out rs wx h1 h2 (by omega) (Go.Proofs.Utf8Tabs_below HT.out hb)
  have cL : Hid (∀ b rs wx, isShape wx b u rs → Calls Tryz.prog 29 #[.pointer (some ⟨b, 0, none⟩)] wx fun e w' => e = .returned (.int .i64 (by_ (u : Int) rs)) ∧ w' = wx) := fun b rs wx h => shlen_any b u HUN.out rs wx h
  have cU : Hid (∀ b rs wx, isShape wx b u rs → Calls Tryz.prog 31 #[.pointer (some ⟨b, 0, none⟩)] wx fun e w' => e = .returned (.int .i64 (u : Int)) ∧ w' = wx) := fun b rs wx h => shunit_any b u rs wx h
  have cI : Hid (∀ rs wx, C1 rs ≤ 8000 → Calls Tryz.prog 30 #[.agg #[.int .i64 (C1 rs), .int .i64 (C2 rs), .int .i64 (C3 rs), .int .i64 (C4 rs)], .int .i64 (u : Int)] wx fun e w' => e = .returned (.int .i64 (by_ (u : Int) rs)) ∧ Below wx.heap.size wx w') := fun rs wx h => refIn_any (u : Int) rs (by have := HUN.out; unfold unitN at this; omega) (by have := HUN.out; unfold unitN at this; omega) (by omega) wx
  have hu1 : ¬ ((u : Int) < 1) ∧ ¬ (3 < (u : Int)) := by unfold unitN at hu; omega
  obtain ⟨hu1, hu2⟩ := hu1
  have hs0 : ((bytesOf rs0).size : Int) ≤ 400 := by rw [hbz, ← C1_len]; exact hz0
  have HR0 : Hid (∀ r ∈ rs0, isRune r) := hR0
  have HZ0 : Hid (C1 rs0 ≤ 8000) := show C1 rs0 ≤ 8000 by omega
  obtain ⟨pl, cl, rfl, r1, r2, r3⟩ := hr
  obtain ⟨N, hN⟩ : ∃ N, l.length = N := ⟨_, rfl⟩
  rw [hN] at hl r1 ⊢
  have HN : Hid (l.length = N) := hN
  unfold maxLen at r2
  have hN0 : (N : Int) ≤ 12 := by omega
  clear hT hg hwf r3 hu huo hR0 hz0 hN hbz
  obtain ⟨S0, hS0⟩ : ∃ S0, bytesOf rs0 = S0 := ⟨_, rfl⟩
  have cC0 : Hid (∀ wx, Calls Tryz.prog 8 #[.string S0] wx fun e w' => e = .returned (.tuple #[.agg #[.int .i64 (C1 rs0), .int .i64 (C2 rs0), .int .i64 (C3 rs0), .int .i64 (C4 rs0)], .agg #[.int .i64 0, .int .i64 (-1)]]) ∧ Below wx.heap.size wx w') := fun wx => hS0 ▸ cC.out rs0 wx HR0.out HZ0.out
  rw [hS0] at cN hs0 ⊢
  have HS0 : Hid (S0 = bytesOf rs0) := hS0.symm
  clear hS0
  go_enter Tryz.func5, Tryz.ntmps5
  go_wp2_with (first
    | (go_at_call 21; refine Calls.mono cN.out ?_; rintro e w1 ⟨b, rfl, hs1, hb1, hB1⟩; have HB1 : Hid (Below w.heap.size w w1) := hB1; have HS1 : Hid (isShape w1 b u rs0) := hs1; have HBW : Hid (w.heap.size ≤ b) := hb1; have HBL : Hid (b < w1.heap.size) := isShape_lt hs1; clear hB1 hs1 hb1)
    | (go_at_call 8; refine (cC0.out _).mono ?_; rintro e w2 ⟨rfl, hb2⟩; have HB2 : Hid (Below w1.heap.size w1 w2) := hb2; clear hb2)
    | fail)
  have HB3 : Hid (Below w1.heap.size w1 ((w2.alloc (.cells #[.int .i64 (C1 rs0), .int .i64 (C2 rs0), .int .i64 (C3 rs0), .int .i64 (C4 rs0)] 25)).alloc (.cells #[.int .i64 0, .int .i64 (-1)] 28))) := (HB2.out.alloc HB2.out.size _).alloc (Nat.le_trans HB2.out.size (by simp)) _
  have HST : Hid (shI w b u 0 (.string S0) ((w2.alloc (.cells #[.int .i64 (C1 rs0), .int .i64 (C2 rs0), .int .i64 (C3 rs0), .int .i64 (C4 rs0)] 25)).alloc (.cells #[.int .i64 0, .int .i64 (-1)] 28))) := ⟨rs0, by rw [HS0.out], isShape_below HS1.out HB3.out, HR0.out, HZ0.out, HB1.out.trans (HB3.out.mono HB1.out.size)⟩
  clear cN cC0 HB2 HB3 HB1 HS1 HR0 HZ0 HS0 hs0
  go_loopw [1, 11] (fun v1 i wr => ∃ x : Nat, i = .int .i64 x ∧ x ≤ N + 1 ∧ shI w b u x v1 wr) (fun _ i _ => N + 1 - (intOf i).toNat)
  case atStart => exact ⟨0, rfl, by omega, HST.out⟩
  case round =>
    obtain ⟨x, rfl, hxN, rs, rfl, hsh, hR, hz, hbw⟩ := hrel
    have HSH : Hid (isShape wr b u rs) := hsh
    have HR : Hid (∀ r ∈ rs, isRune r) := hR
    have HZ : Hid (C1 rs ≤ 8000) := hz
    have HBR : Hid (Below w.heap.size w wr) := hbw
    have hxi : (x : Int) ≤ 13 := by omega
    clear HST hsh hR hz hbw
    by_cases hlt : x ≤ N
    case neg =>
      obtain rfl : x = N + 1 := by omega
      have hn : ¬ (((N + 1 : Nat) : Int) ≤ (N : Int)) := by omega
      clear hlt
      go_wp2
      go_ret
      exact ⟨rfl, HBR.out⟩
    case pos =>
      have hle : (x : Int) ≤ (N : Int) := by omega
      go_upto_if 72 with fail
      go_cut [1, 12, 13, 14, 15] from 65 to 149 (fun v1 v12 v13 v14 v15 wc => ∃ rs2, v1 = .string (bytesOf rs2) ∧ isShape wc b u rs2 ∧ (∀ r ∈ rs2, isRune r) ∧ C1 rs2 ≤ 8000 ∧ Below w.heap.size w wc)
      case first =>
        by_cases hx0 : x = 0
        case pos =>
          subst hx0
          go_wp2
          go_meet
          case rel => exact ⟨rs, rfl, HSH.out, HR.out, HZ.out, HBR.out⟩
        case neg =>
          obtain ⟨k, hk⟩ : ∃ k, x = k + 1 := ⟨x - 1, by omega⟩
          have hkl : k < l.length := by have := HN.out; omega
          have hne : l ≠ [] := by intro e; rw [e] at hkl; exact absurd hkl (Nat.not_lt_zero _)
          obtain ⟨p0, c0, hvv, _, _, hcell⟩ := HOP.out
          obtain ⟨b0, o, rfl, hb0, hcell⟩ := hcell hne
          obtain ⟨v', hv', hop'⟩ := hcell k l[k] (List.getElem?_eq_getElem hkl)
          have hvr := (HBR.out.cell (p := ⟨b0, o + k, none⟩) hb0).trans hv'
          obtain rfl : pl = some ⟨b0, o, none⟩ := by injection hvv
          have hsw := HWF.out _ (List.getElem_mem hkl)
          obtain ⟨q, hq⟩ : ∃ q, l[k] = q := ⟨_, rfl⟩
          rw [hq] at hop' hsw
          have HQ : Hid (opAt w v' q) := hop'
          have hvs : ∃ p c, v' = .slice p q.length c := by obtain ⟨p, c, e, _⟩ := hop'; exact ⟨p, c, e⟩
          obtain ⟨pq, cq, rfl⟩ := hvs
          have HSW : Hid (smallWf q) := hsw
          have hqm : q.length ≤ maxLen := by
            obtain ⟨p1, c1, e1, e2, e3, _⟩ := hop'
            exact Nat.le_trans e2 e3
          unfold maxLen at hqm
          have hk1 : (x : Int) - 1 = (k : Int) := by omega
          have hkp : (0 : Int) < (x : Int) := by omega
          have hkN : (k : Int) < (N : Int) := by omega
          have cF : Hid (∀ wx, Below w.heap.size w wx → Calls Tryz.prog 27 #[.slice pq q.length cq] wx fun e w' => e = .returned (.bool (fewB q)) ∧ Below wx.heap.size wx w') := fun wx hb => fewX_any _ q wx (opAt_below HQ.out hb (Nat.le_refl _))
          have HFB : Hid (b < wr.heap.size ∧ w.heap.size ≤ b) := ⟨isShape_lt HSH.out, HBW.out⟩
          have hSz : ((bytesOf rs).size : Int) = C1 rs := by rw [C1_len]; simp [bytesOf, ByteArray.size]
          clear hcell hvv hv' hop' hsw hq hne hx0 hk
          by_cases hf : fewB q = true
          case neg =>
            have hf : fewB q = false := by simpa using hf
            rw [hf] at cF
            go_wp2_with (first
              | (go_at_call 27; refine (cF.out _ HBR.out).mono ?_; rintro e w3 ⟨rfl, hb3⟩; have HB3 : Hid (Below w.heap.size w w3) := HBR.out.trans (hb3.mono HBR.out.size); clear hb3)
              | fail)
            go_ret
            exact ⟨rfl, HB3.out⟩
          case pos =>
            rw [hf] at cF
            have HF : Hid (fewB q = true) := hf
            clear hf
            by_cases h40 : 40 < q.length
            case pos =>
              have h40' : (40 : Int) < (q.length : Int) := by omega
              go_wp2_with (first
                | (go_at_call 27; refine (cF.out _ HBR.out).mono ?_; rintro e w3 ⟨rfl, hb3⟩; have HB3 : Hid (Below w.heap.size w w3) := HBR.out.trans (hb3.mono HBR.out.size); have hvr3 := (hb3.cell (p := ⟨b0, o + k, none⟩) (World.block_lt_of_cell? wr _ hvr)).trans hvr; clear hb3)
                | fail)
              go_ret
              exact ⟨rfl, HB3.out⟩
            case neg =>
              have h40' : ¬ (40 : Int) < (q.length : Int) := by omega
              obtain ⟨S, hS⟩ : ∃ S, bytesOf rs = S := ⟨_, rfl⟩
              rw [hS] at hSz ⊢
              have HS : Hid (bytesOf rs = S) := hS
              clear hS
              by_cases h2k : 2000 < C1 rs
              case pos =>
                have h2k' : (2000 : Int) < (S.size : Int) := by omega
                go_wp2_with (first
                  | (go_at_call 27; refine (cF.out _ HBR.out).mono ?_; rintro e w3 ⟨rfl, hb3⟩; have HB3 : Hid (Below w.heap.size w w3) := HBR.out.trans (hb3.mono HBR.out.size); have hvr3 := (hb3.cell (p := ⟨b0, o + k, none⟩) (World.block_lt_of_cell? wr _ hvr)).trans hvr; clear hb3)
                  | fail)
                go_ret
                exact ⟨rfl, HB3.out⟩
              case neg =>
                have h2k' : ¬ (2000 : Int) < (S.size : Int) := by omega
                obtain ⟨hq1, hq2⟩ := few_small HF.out
                have hwq : ∀ p ∈ q, wfP p := fun p hp => HSW.out p hp (hq2 p hp)
                have cT : Hid (∀ wx, Below w.heap.size w wx → Calls Tryz.prog 10 #[.string S, .int .i64 (u : Int), .int .i64 1, .slice pq q.length cq] wx fun e w' => ∃ p2 c2, e = .returned (.tuple #[.slice p2 (tzO rs (u : Int) 1 q).length c2, .int .i64 (tzE rs (u : Int) 1 q)]) ∧ opAt w' (.slice p2 (tzO rs (u : Int) 1 q).length c2) (tzO rs (u : Int) 1 q) ∧ Below wx.heap.size wx w') := fun wx hb => by
                  have := refTurn_all S rs (u : Int) 1 q _ wx HR.out (by rw [← HS.out]; rfl) (by have := HZ.out; omega) (opAt_below HQ.out hb (Nat.le_refl _)) hwq (fun p hp => by have := hq2 p hp; omega) (by omega)
                  refine this.mono ?_
                  rintro e w' ⟨v2, h1, h2, h3⟩
                  have h2' := h2
                  obtain ⟨p2, c2, rfl, _⟩ := h2'
                  exact ⟨p2, c2, h1, h2, h3⟩
                have cA : Hid (∀ wx, Below w.heap.size w wx → isShape wx b u rs → Calls Tryz.prog 22 #[.pointer (some ⟨b, 0, none⟩), .slice pq q.length cq] wx fun e w' => e = .returned (errV (shE (u : Int) rs q)) ∧ isShape w' b u (shR (u : Int) rs q) ∧ Below b wx w') := fun wx hb hs => shapply_any b u HUN.out rs q _ wx hs HR.out (by have := HZ.out; omega) (Go.Proofs.Utf8Tabs_below HT.out hb) (opAt_below HQ.out hb (Nat.le_refl _)) hwq (by omega) (fun p hp => by have := hq2 p hp; omega)
                have cB : Hid (∀ E wx, Below w.heap.size w wx → Calls Tryz.prog 13 #[errV E, .int .i64 E] wx fun e w' => e = .returned (.bool true) ∧ Below wx.heap.size wx w') := fun E wx hb => bare_any E wx (asLaid_below HG.out hb)
                have HQ2 : Hid (∀ p ∈ q, p.put.length ≤ 300) := hq2
                have HQ1 : Hid (q.length ≤ 40) := show q.length ≤ 40 by omega
                clear hwq hq1 hq2 h40 h2k
                by_cases hE : tzE rs (u : Int) 1 q = 0
                case neg =>
                  obtain ⟨b1, b2⟩ := sh_bad HUO.out hE
                  rw [b1, b2] at cA
                  have cB2 : Hid (∀ wx, Below w.heap.size w wx → Calls Tryz.prog 13 #[errV (tzE rs (u : Int) 1 q), .int .i64 (tzE rs (u : Int) 1 q)] wx fun e w' => e = .returned (.bool true) ∧ Below wx.heap.size wx w') := cB.out _
                  obtain ⟨V, hV⟩ : ∃ V, errV (tzE rs (u : Int) 1 q) = V := ⟨_, rfl⟩
                  rw [hV] at cA cB2
                  generalize tzE rs (u : Int) 1 q = E at *
                  generalize (tzO rs (u : Int) 1 q) = TO at *
                  have hE0 : (E == 0) = false := by simpa using hE
                  clear b1 b2 hV cB hE
                  go_wp2_with (first
                    | (go_at_call 27; refine (cF.out _ HBR.out).mono ?_; rintro e w3 ⟨rfl, hb3⟩; have HB3 : Hid (Below wr.heap.size wr w3) := hb3; have hvr3 := (hb3.cell (p := ⟨b0, o + k, none⟩) (World.block_lt_of_cell? wr _ hvr)).trans hvr; clear hb3)
                    | (go_at_call 10; refine (cT.out _ (HBR.out.trans (HB3.out.mono HBR.out.size))).mono ?_; rintro e w4 ⟨p2, c2, rfl, ho4, hb4⟩; have HO4 : Hid _ := ho4; have HB4 : Hid (Below wr.heap.size wr w4) := HB3.out.trans (hb4.mono HB3.out.size); have hvr4 := (HB4.out.cell (p := ⟨b0, o + k, none⟩) (World.block_lt_of_cell? wr _ hvr)).trans hvr; clear hb4 ho4)
                    | (go_at_call 22; refine (cA.out _ (HBR.out.trans (HB4.out.mono HBR.out.size)) (isShape_below HSH.out HB4.out)).mono ?_; rintro e w6 ⟨rfl, hs6, hb6⟩; have HS6 : Hid (isShape w6 b u rs) := hs6; have HB6 : Hid (Below w.heap.size w w6) := (HBR.out.trans (HB4.out.mono HBR.out.size)).trans (hb6.mono HFB.out.2); clear hb6 hs6)
                    | (go_at_call 13; refine (cB2.out _ HB6.out).mono ?_; rintro e w7 ⟨rfl, hb7⟩; have HB7 : Hid (Below w.heap.size w w7) := HB6.out.trans (hb7.mono HB6.out.size); have HS7 : Hid (isShape w7 b u rs) := isShape_below HS6.out hb7; clear hb7)
                    | fail)
                  go_meet
                  case rel => exact ⟨rs, by rw [HS.out], HS7.out, HR.out, HZ.out, HB7.out⟩
                case pos =>
                  obtain ⟨g1, g2, g3, g4, g5, g6, g7, g8⟩ := sh_fine HUO.out HR.out hE
                  have hones : ∀ p ∈ q, oneB p = true := fun p hp => ((chkE_parts g6).1 p hp).1
                  have hpu : putsP (tzO rs (u : Int) 1 q) ≤ 12000 := by
                    rw [g8, in_puts q rs hones]
                    have := putsP_le q HQ2.out
                    have := HQ1.out
                    omega
                  have hCl := C1_len rs
                  have hbd : (encs rs).length + putsP (tzO rs (u : Int) 1 q) < 1000000 := by have := HZ.out; omega
                  have hwt := g1.wf hbd
                  have hlt2 : (tzO rs (u : Int) 1 q).length ≤ 40 := by rw [g8, in_len]; exact HQ1.out
                  have cR : Hid (∀ p2 c2 wx, opAt wx (.slice p2 (tzO rs (u : Int) 1 q).length c2) (tzO rs (u : Int) 1 q) → Calls Tryz.prog 28 #[.slice p2 (tzO rs (u : Int) 1 q).length c2, .string S] wx fun e w' => e = .returned (.tuple #[.string (bytesOf (comesZ (u : Int) rs q)), .int .i64 0]) ∧ Below wx.heap.size wx w') := fun p2 c2 wx ho => by
                    have := refApply_any _ (tzO rs (u : Int) 1 q) (encs rs) wx ho hwt (fun p hp => by have := put_le_puts p (tzO rs (u : Int) 1 q) hp; omega) (by omega) (by omega) (by omega)
                    rw [g1.ord, if_pos rfl, g2] at this
                    rw [← HS.out]
                    exact this
                  rw [hE] at cT
                  rw [g4, g5] at cA
                  have hcs : ((bytesOf (comesZ (u : Int) rs q)).size : Int) = C1 (comesZ (u : Int) rs q) := by rw [C1_len]; simp [bytesOf, ByteArray.size]
                  have HG3 : Hid (∀ r ∈ comesZ (u : Int) rs q, isRune r) := g3
                  generalize (tzO rs (u : Int) 1 q) = TO at *
                  generalize (comesZ (u : Int) rs q) = CZ at *
                  clear g1 g2 g3 g4 g5 g6 g7 g8 hones hpu hCl hbd hwt hlt2 hE
                  by_cases h8 : C1 CZ ≤ 8000
                  case pos =>
                    rw [if_pos h8, if_pos h8, errV_0] at cA
                    have cB2 : Hid (∀ wx, Below w.heap.size w wx → Calls Tryz.prog 13 #[.nilIface, .int .i64 0] wx fun e w' => e = .returned (.bool true) ∧ Below wx.heap.size wx w') := cB.out 0
                    have h8' : ¬ (8000 : Int) < ((bytesOf CZ).size : Int) := by omega
                    have H8 : Hid (C1 CZ ≤ 8000) := h8
                    obtain ⟨S2, hS2⟩ : ∃ S2, bytesOf CZ = S2 := ⟨_, rfl⟩
                    rw [hS2] at cR hcs h8'
                    have HS2 : Hid (bytesOf CZ = S2) := hS2
                    clear hS2 cB h8 hcs
                    go_wp2_with (first
                      | (go_at_call 27; refine (cF.out _ HBR.out).mono ?_; rintro e w3 ⟨rfl, hb3⟩; have HB3 : Hid (Below wr.heap.size wr w3) := hb3; have hvr3 := (hb3.cell (p := ⟨b0, o + k, none⟩) (World.block_lt_of_cell? wr _ hvr)).trans hvr; clear hb3)
                      | (go_at_call 10; refine (cT.out _ (HBR.out.trans (HB3.out.mono HBR.out.size))).mono ?_; rintro e w4 ⟨p2, c2, rfl, ho4, hb4⟩; have HO4 : Hid _ := ho4; have HB4 : Hid (Below wr.heap.size wr w4) := HB3.out.trans (hb4.mono HB3.out.size); have hvr4 := (HB4.out.cell (p := ⟨b0, o + k, none⟩) (World.block_lt_of_cell? wr _ hvr)).trans hvr; clear hb4 ho4)
                      | (go_at_call 28; refine (cR.out _ _ _ HO4.out).mono ?_; rintro e w5 ⟨rfl, hb5⟩; have HB5 : Hid (Below wr.heap.size wr w5) := HB4.out.trans (hb5.mono HB4.out.size); have hvr5 := (HB5.out.cell (p := ⟨b0, o + k, none⟩) (World.block_lt_of_cell? wr _ hvr)).trans hvr; clear hb5)
                      | (go_at_call 22; refine (cA.out _ (HBR.out.trans (HB5.out.mono HBR.out.size)) (isShape_below HSH.out HB5.out)).mono ?_; rintro e w6 ⟨rfl, hs6, hb6⟩; have HS6 : Hid (isShape w6 b u CZ) := hs6; have HB6 : Hid (Below w.heap.size w w6) := (HBR.out.trans (HB5.out.mono HBR.out.size)).trans (hb6.mono HFB.out.2); clear hb6 hs6)
                      | (go_at_call 13; refine (cB2.out _ HB6.out).mono ?_; rintro e w7 ⟨rfl, hb7⟩; have HB7 : Hid (Below w.heap.size w w7) := HB6.out.trans (hb7.mono HB6.out.size); have HS7 : Hid (isShape w7 b u CZ) := isShape_below HS6.out hb7; clear hb7)
                      | fail)
                    go_meet
                    case rel => exact ⟨CZ, by rw [HS2.out], HS7.out, HG3.out, H8.out, HB7.out⟩
                  case neg =>
                    rw [if_neg h8, if_neg h8] at cA
                    have cB2 : Hid (∀ wx, Below w.heap.size w wx → Calls Tryz.prog 13 #[errV 12, .int .i64 12] wx fun e w' => e = .returned (.bool true) ∧ Below wx.heap.size wx w') := cB.out 12
                    have h8' : (8000 : Int) < ((bytesOf CZ).size : Int) := by omega
                    obtain ⟨S2, hS2⟩ : ∃ S2, bytesOf CZ = S2 := ⟨_, rfl⟩
                    rw [hS2] at cR hcs h8'
                    obtain ⟨V, hV⟩ : ∃ V, errV 12 = V := ⟨_, rfl⟩
                    rw [hV] at cA cB2
                    clear hS2 cB h8 hcs hV
                    go_wp2_with (first
                      | (go_at_call 27; refine (cF.out _ HBR.out).mono ?_; rintro e w3 ⟨rfl, hb3⟩; have HB3 : Hid (Below wr.heap.size wr w3) := hb3; have hvr3 := (hb3.cell (p := ⟨b0, o + k, none⟩) (World.block_lt_of_cell? wr _ hvr)).trans hvr; clear hb3)
                      | (go_at_call 10; refine (cT.out _ (HBR.out.trans (HB3.out.mono HBR.out.size))).mono ?_; rintro e w4 ⟨p2, c2, rfl, ho4, hb4⟩; have HO4 : Hid _ := ho4; have HB4 : Hid (Below wr.heap.size wr w4) := HB3.out.trans (hb4.mono HB3.out.size); have hvr4 := (HB4.out.cell (p := ⟨b0, o + k, none⟩) (World.block_lt_of_cell? wr _ hvr)).trans hvr; clear hb4 ho4)
                      | (go_at_call 28; refine (cR.out _ _ _ HO4.out).mono ?_; rintro e w5 ⟨rfl, hb5⟩; have HB5 : Hid (Below wr.heap.size wr w5) := HB4.out.trans (hb5.mono HB4.out.size); have hvr5 := (HB5.out.cell (p := ⟨b0, o + k, none⟩) (World.block_lt_of_cell? wr _ hvr)).trans hvr; clear hb5)
                      | (go_at_call 22; refine (cA.out _ (HBR.out.trans (HB5.out.mono HBR.out.size)) (isShape_below HSH.out HB5.out)).mono ?_; rintro e w6 ⟨rfl, hs6, hb6⟩; have HS6 : Hid (isShape w6 b u rs) := hs6; have HB6 : Hid (Below w.heap.size w w6) := (HBR.out.trans (HB5.out.mono HBR.out.size)).trans (hb6.mono HFB.out.2); clear hb6 hs6)
                      | (go_at_call 13; refine (cB2.out _ HB6.out).mono ?_; rintro e w7 ⟨rfl, hb7⟩; have HB7 : Hid (Below w.heap.size w w7) := HB6.out.trans (hb7.mono HB6.out.size); have HS7 : Hid (isShape w7 b u rs) := isShape_below HS6.out hb7; clear hb7)
                      | fail)
                    go_meet
                    case rel => exact ⟨rs, by rw [HS.out], HS7.out, HR.out, HZ.out, HB7.out⟩
      case rest =>
        obtain ⟨rs2, rfl, hsh2, hR2, hz2, hbw2⟩ := hcut
        clear HSH HR HZ HBR
        have HSH : Hid (isShape wc b u rs2) := hsh2
        have HR : Hid (∀ r ∈ rs2, isRune r) := hR2
        have HZ : Hid (C1 rs2 ≤ 8000) := hz2
        have HBR : Hid (Below w.heap.size w wc) := hbw2
        clear hsh2 hR2 hz2 hbw2
        obtain ⟨S, hS⟩ : ∃ S, bytesOf rs2 = S := ⟨_, rfl⟩
        have cCr : Hid (∀ wx, Calls Tryz.prog 8 #[.string S] wx fun e w' => e = .returned (.tuple #[.agg #[.int .i64 (C1 rs2), .int .i64 (C2 rs2), .int .i64 (C3 rs2), .int .i64 (C4 rs2)], .agg #[.int .i64 0, .int .i64 (-1)]]) ∧ Below wx.heap.size wx w') := fun wx => hS ▸ cC.out rs2 wx HR.out HZ.out
        have cTr : Hid (∀ wx, Below wc.heap.size wc wx → Calls Tryz.prog 24 #[.pointer (some ⟨b, 0, none⟩)] wx fun e w' => e = .returned (.string S) ∧ Below wx.heap.size wx w') := fun wx hb => hS ▸ cTx.out b rs2 wx (HBR.out.trans (hb.mono HBR.out.size)) (isShape_below HSH.out hb) HR.out HZ.out
        have HS : Hid (bytesOf rs2 = S) := hS
        rw [hS]
        clear hS
        go_wp2_with (first
          | (go_at_call 8; refine (cCr.out _).mono ?_; rintro e w2 ⟨rfl, hb2⟩; have HB2 : Hid (Below wc.heap.size wc w2) := hb2; have HZ2 : Hid (wc.heap.size ≤ w2.heap.size) := hb2.size; clear hb2)
          | fail)
        obtain ⟨β, hβ⟩ : ∃ β, w2.heap.size = β := ⟨_, rfl⟩
        obtain ⟨X, hX⟩ : ∃ X, X = ((w2.alloc (.cells #[.int .i64 (C1 rs2), .int .i64 (C2 rs2), .int .i64 (C3 rs2), .int .i64 (C4 rs2)] 25)).alloc (.cells #[.int .i64 0, .int .i64 (-1)] 28)) := ⟨_, rfl⟩
        have HX : Hid (Below wc.heap.size wc X) := by rw [hX]; exact (HB2.out.alloc HB2.out.size _).alloc (Nat.le_trans HB2.out.size (by simp)) _
        have y0 : X.cell? ⟨β, 0, none⟩ = some (.int .i64 (C1 rs2)) := by rw [hX, ← hβ]; exact cellsCnt _ _ _ _ _ _ 0 _ 0 _ rfl
        have y1 : X.cell? ⟨β, 1, none⟩ = some (.int .i64 (C2 rs2)) := by rw [hX, ← hβ]; exact cellsCnt _ _ _ _ _ _ 0 _ 1 _ rfl
        have y2 : X.cell? ⟨β, 2, none⟩ = some (.int .i64 (C3 rs2)) := by rw [hX, ← hβ]; exact cellsCnt _ _ _ _ _ _ 0 _ 2 _ rfl
        have y3 : X.cell? ⟨β, 3, none⟩ = some (.int .i64 (C4 rs2)) := by rw [hX, ← hβ]; exact cellsCnt _ _ _ _ _ _ 0 _ 3 _ rfl
        rw [← hX, hβ]
        have hβX : β < X.heap.size := World.block_lt_of_cell? X _ y0
        have HBX : Hid (β < X.heap.size) := hβX
        clear hX hβ
        go_region_with (first
          | (go_at_call 24; refine (cTr.out _ (by first | exact HX.out.drew | exact HX.out)).mono ?_; rintro e w3 ⟨rfl, hb3⟩; have HB3 : Hid (Below X.heap.size X w3) := (by first | exact hb3 | exact (Below.refl _ X).drew.trans hb3)
             have z0 := (HB3.out.cell (p := ⟨β, 0, none⟩) HBX.out).trans y0
             have z1 := (HB3.out.cell (p := ⟨β, 1, none⟩) HBX.out).trans y1
             have z2 := (HB3.out.cell (p := ⟨β, 2, none⟩) HBX.out).trans y2
             have z3 := (HB3.out.cell (p := ⟨β, 3, none⟩) HBX.out).trans y3
             have HX3 : Hid (Below wc.heap.size wc w3) := HX.out.trans (HB3.out.mono HX.out.size)
             clear hb3)
          | (go_at_call 29; refine (cL.out b rs2 _ (by first | exact isShape_below HSH.out HX3.out | exact isShape_below HSH.out HX3.out.drew)).mono ?_; rintro e w4 ⟨rfl, hw4⟩; obtain rfl := hw4.symm)
          | (go_at_call 30; refine (cI.out rs2 _ HZ.out).mono ?_; rintro e w5 ⟨rfl, hb5⟩; have HX5 : Hid (Below wc.heap.size wc w5) := (by first | exact HX3.out.trans (hb5.mono HX3.out.size) | exact HX3.out.drew.trans (hb5.mono HX3.out.size)); clear hb5)
          | (go_at_call 31; refine (cU.out b rs2 _ (by first | exact isShape_below HSH.out HX5.out | exact isShape_below HSH.out HX5.out.drew)).mono ?_; rintro e w6 ⟨rfl, hw6⟩; obtain rfl := hw6.symm)
          | fail)
        all_goals
          go_wp2
          refine ⟨⟨x + 1, by go_num, by omega, rs2, by rw [HS.out], isShape_below HSH.out HX5.out, HR.out, HZ.out, HBR.out.trans (HX5.out.mono HBR.out.size)⟩, by simp [intOf]; omega⟩
end Go.Proofs.YtldhbjmillfjgabGreatDoor

namespace Go.Proofs.YtldhbjmillfjgabGreatDoor
open Go.RowKit
set_option linter.unusedVariables false

theorem shapePlays_any (u : Int) (s : ByteArray) (v : Value) (l : List (List Pt)) (w : World) (hg : asLaid w) (hT : Lib.Utf8Tabs 2 3 w) (hr : opsAt w v l) (hwf : ∀ q ∈ l, smallWf q) :
    Calls Tryz.prog 5 #[.int .i64 u, .string s, v] w fun e w' => e = .returned (.bool true) ∧ Below w.heap.size w w' := by
  have es : (ByteArray.mk s.data.toList.toArray) = s := by cases s; simp
  rw [← es]
  generalize s.data.toList = t
  by_cases h : 400 < t.length ∨ 12 < l.length
  · exact shapeLaw_long u t v l w hr h
  · have h1 : t.length ≤ 400 := by omega
    have h2 : l.length ≤ 12 := by omega
    by_cases hu : unitOk u
    · obtain ⟨n, hn, hun⟩ : ∃ n : Nat, u = (n : Int) ∧ unitN n := by
        rcases hu with rfl | rfl | rfl
        · exact ⟨1, rfl, .inl rfl⟩
        · exact ⟨2, rfl, .inr (.inl rfl)⟩
        · exact ⟨3, rfl, .inr (.inr rfl)⟩
      subst hn
      by_cases hsc : (scan t).2 = true
      · have he : encs (runesOf t) = t := encs_runesOf hsc
        have hb : (ByteArray.mk t.toArray) = bytesOf (runesOf t) := by unfold bytesOf; rw [he]
        rw [hb]
        exact shapeLaw_good n hun (runesOf t) (fun r hr => runesOf_rune hr) (by rw [C1_len, he]; omega) v l w hg hT hr hwf h2
      · exact shapeLaw_text n hun t v l w hg hT hr h1 h2 (by simpa using hsc)
    · exact shapeLaw_unit u t v l w hg hr h1 h2 hu
end Go.Proofs.YtldhbjmillfjgabGreatDoor
