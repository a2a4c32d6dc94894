/-
  An operation that is handed in: what it reads as, and how great it is.
-/
import Derived.Test.YtedgnlgjmnccgabGreatDoorOpsNorm
import Derived.Test.YtedgnlgjmnccgabGreatDoorRows
import Derived.Deep.Slices
import Derived.Deep.Strs
import Derived.ChangeSame
import Derived.OpenShut
namespace Go.Proofs.YtedgnlgjmnccgabGreatDoor
open Go.RowKit Go.Deep Go.ChangeShapes Go.WideShapes
set_option linter.unusedVariables false

def rangeP (p : Pt) : Prop := -9223372036854775808 ≤ p.keep ∧ p.keep < 9223372036854775808 ∧ -9223372036854775808 ≤ p.drop ∧ p.drop < 9223372036854775808

theorem bulk_part {H : Type} {d : DataW H} {l : List (DataW H)} (h : d ∈ l) : Rows.uptoBulk d ≤ Rows.uptoBulkAll l := by
  induction l with
  | nil => cases h
  | cons x r ih =>
    simp only [Rows.uptoBulkAll]
    rcases List.mem_cons.1 h with e | e
    · subst e; omega
    · have := ih e; omega

theorem cellsOf_part : Tryz.prog.cellsOf 50 = 3 := by kernel_rfl
theorem cellsOf_int : Tryz.prog.cellsOf 3 = 1 := by kernel_rfl
theorem cellsOf_str : Tryz.prog.cellsOf 9 = 1 := by kernel_rfl

theorem open_part {H : Type} {enc : TypeId × Value → H} {W : World} {base : Nat} {sp : Nat → Bool} {held : Bool} {n : Nat} {a : Addr} {cs : List Value} {y : DataW H × List MemPlace}
    (h1 : W.cells? base a 3 = some cs) (h2 : DataW.trod enc Tryz.prog W base sp held n 50 cs = some y) :
    ∃ q : Pt, a.spot = none ∧ W.cell? ⟨a.block, a.off, none⟩ = some (.int .i64 q.keep) ∧ W.cell? ⟨a.block, a.off + 1, none⟩ = some (.int .i64 q.drop) ∧ W.cell? ⟨a.block, a.off + 2, none⟩ = some (.string ⟨q.put.toArray⟩) ∧ rangeP q ∧ q.put.length ≤ maxLen ∧
      y.1 = .agg [.lit (.int .i64 q.keep), .lit (.int .i64 q.drop), .lit (.string q.put)] := by
  obtain ⟨_, hlen, hcell⟩ := World.cells?_some h1
  obtain ⟨y0, y1, y2, m, rfl, _, t0, t1, t2⟩ := trod_struct3 Tryz.underlying50 h2
  rw [cellsOf_int] at t0 t1
  rw [cellsOf_str] at t2
  match cs, hlen with
  | [c0, c1, c2], _ =>
    simp only [List.drop_zero, List.take_succ_cons, List.take_zero, List.drop_succ_cons] at t0 t1 t2
    obtain ⟨K, e0, rfl, w0⟩ := DataW.trod_int Tryz.underlying3 t0
    obtain ⟨D, e1, rfl, w1⟩ := DataW.trod_int Tryz.underlying3 t1
    obtain ⟨s, e2, rfl, w2⟩ := DataW.trod_string Tryz.underlying9 t2
    simp only [List.cons.injEq, and_true] at e0 e1 e2
    subst e0 e1 e2
    obtain ⟨b, o, spot⟩ := a
    have k0 := hcell 0 (by omega)
    have k1 := hcell 1 (by omega)
    have k2 := hcell 2 (by omega)
    have hspot : spot = none := by simpa [Addr.add] using World.cell?_spot (show W.cell? ((⟨b, o, spot⟩ : Addr).add 0) = some (.int .i64 K) from k0)
    subst hspot
    rw [Addr.add_lit] at k0 k1 k2
    have hw0 := bounds_i64 w0
    have hw1 := bounds_i64 w1
    have es : (ByteArray.mk s.data.toList.toArray) = s := by cases s; simp
    refine ⟨⟨K, D, s.data.toList⟩, rfl, k0, k1, by rw [es]; exact k2, ⟨hw0.1, by show K < _; omega, hw1.1, by show D < _; omega⟩, ?_, rfl⟩
    rw [Lib.size_eq] at w2
    exact w2

theorem open_op {H : Type} {enc : TypeId × Value → H} {W : World} {base : Nat} {sp : Nat → Bool} {held : Bool} {fuel : Nat} {v : Value} {x : DataW H × List MemPlace}
    (h : DataW.trod enc Tryz.prog W base sp held fuel 23 [v] = some x) :
    ∃ ps, opAt W v ps ∧ (∀ p ∈ ps, rangeP p ∧ p.put.length ≤ maxLen) ∧ (∀ p ∈ ps, p.put.length ≤ Rows.uptoBulk x.1) ∧ ps.length ≤ maxLen := by
  rcases open_slice Tryz.underlying23 h with ⟨hcs, _⟩ | ⟨a, len, cap, m, n, D, Pl, hcs, hb, hl, hm, hmm, rfl, hx⟩
  · simp only [List.cons.injEq, and_true] at hcs
    subst hcs
    exact ⟨[], ⟨none, 0, rfl, Nat.le_refl _, Nat.zero_le _, fun h => absurd rfl h⟩, by simp, by simp, Nat.zero_le _⟩
  · simp only [List.cons.injEq, and_true] at hcs
    subst hcs
    have hlm : len ≤ m := by rw [hmm]; split <;> omega
    haveI : Inhabited Pt := ⟨⟨0, 0, []⟩⟩
    obtain ⟨f, hf⟩ := choose_lt (α := Pt) (n := len) (p := fun i q => (a.add (i * 3)).spot = none ∧ W.cell? ⟨(a.add (i * 3)).block, (a.add (i * 3)).off, none⟩ = some (.int .i64 q.keep) ∧ W.cell? ⟨(a.add (i * 3)).block, (a.add (i * 3)).off + 1, none⟩ = some (.int .i64 q.drop) ∧ W.cell? ⟨(a.add (i * 3)).block, (a.add (i * 3)).off + 2, none⟩ = some (.string ⟨q.put.toArray⟩) ∧ rangeP q ∧ q.put.length ≤ maxLen ∧
        D i = .agg [.lit (.int .i64 q.keep), .lit (.int .i64 q.drop), .lit (.string q.put)]) (fun i hi => by
      obtain ⟨cs, h1, h2⟩ := hx i (by omega)
      rw [cellsOf_part] at h1
      obtain ⟨q, hq⟩ := open_part h1 h2
      exact ⟨q, hq⟩)
    have hlen : ((List.range len).map f).length = len := by simp
    refine ⟨(List.range len).map f, ⟨some a, cap, by rw [hlen], by rw [hlen]; exact hl, hm, fun hne => ?_⟩, ?_, ?_, by rw [hlen]; omega⟩
    · have hpos : 0 < len := by
        cases len with
        | zero => exact absurd rfl hne
        | succ n => exact Nat.succ_pos n
      obtain ⟨b, o, spot⟩ := a
      have hs0 := (hf 0 hpos).1
      have hspot : spot = none := by simpa [Addr.add] using hs0
      subst hspot
      refine ⟨b, o, rfl, ?_, fun i q hi => ?_⟩
      · have := World.block_lt_of_cell? W _ (hf 0 hpos).2.1
        rw [Addr.add_lit] at this
        exact this
      · have hil : i < len := by have := (List.getElem?_eq_some_iff.1 hi).1; rw [hlen] at this; exact this
        have e : q = f i := by
          rw [List.getElem?_map, List.getElem?_range hil] at hi
          exact (Option.some.inj hi).symm
        subst e
        obtain ⟨_, k0, k1, k2, _⟩ := hf i hil
        rw [Addr.add_lit] at k0 k1 k2
        exact ⟨k0, k1, k2⟩
    · intro p hp
      obtain ⟨i, hi, rfl⟩ := List.mem_map.1 hp
      have := hf i (List.mem_range.1 hi)
      exact ⟨this.2.2.2.2.1, this.2.2.2.2.2.1⟩
    · intro p hp
      obtain ⟨i, hi, rfl⟩ := List.mem_map.1 hp
      have hd := (hf i (List.mem_range.1 hi)).2.2.2.2.2.2
      have h1 : Rows.uptoBulk (D i) ≤ Rows.uptoBulkAll ((List.range len).map D) := bulk_part (List.mem_map.2 ⟨i, hi, rfl⟩)
      rw [hd] at h1
      simp only [Rows.uptoBulk, Rows.uptoBulkAll] at h1 ⊢
      omega
end Go.Proofs.YtedgnlgjmnccgabGreatDoor
