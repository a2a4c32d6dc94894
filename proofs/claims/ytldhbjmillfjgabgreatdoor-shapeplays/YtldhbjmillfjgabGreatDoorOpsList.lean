/-
  A slice of operations that is handed in: what it reads as.
-/
import Derived.Test.YtldhbjmillfjgabGreatDoorOpsOpen
import Derived.Test.YtldhbjmillfjgabGreatDoorOpsChk
namespace Go.Proofs.YtldhbjmillfjgabGreatDoor
open Go.RowKit Go.Deep Go.ChangeShapes Go.WideShapes
set_option linter.unusedVariables false

/-- A slice of operations. -/
def opsAt (w : World) (v : Value) (l : List (List Pt)) : Prop := ∃ p c, v = .slice p l.length c ∧ l.length ≤ c ∧ c ≤ maxLen ∧ (l ≠ [] → ∃ b o, p = some ⟨b, o, none⟩ ∧ b < w.heap.size ∧ ∀ i q, l[i]? = some q → ∃ v', w.cell? ⟨b, o + i, none⟩ = some v' ∧ opAt w v' q)
/-- Where it is small, its numbers are numbers. -/
def smallWf (q : List Pt) : Prop := ∀ p ∈ q, p.put.length ≤ 300 → wfP p
theorem cellsOf_op : Tryz.prog.cellsOf 23 = 1 := by kernel_rfl
theorem small_of {q : List Pt} (h : ∀ p ∈ q, rangeP p ∧ p.put.length ≤ maxLen) : smallWf q := fun p hp hs => by
  obtain ⟨⟨r1, r2, r3, r4⟩, _⟩ := h p hp
  exact ⟨r1, r2, r3, r4, by omega⟩
theorem open_ops {H : Type} {enc : TypeId × Value → H} {W : World} {base : Nat} {sp : Nat → Bool} {held : Bool} {fuel : Nat} {v : Value} {x : DataW H × List MemPlace}
    (h : DataW.trod enc Tryz.prog W base sp held fuel 60 [v] = some x) :
    ∃ l, opsAt W v l ∧ ∀ q ∈ l, smallWf q := by
  rcases open_slice Tryz.underlying60 h with ⟨hcs, _⟩ | ⟨a, len, cap, m, n, D, Pl, hcs, hb, hl, hm, hmm, rfl, hx⟩
  · simp only [List.cons.injEq, and_true] at hcs
    subst hcs
    exact ⟨[], ⟨none, 0, rfl, Nat.le_refl _, Nat.zero_le _, fun h => absurd rfl h⟩, by simp⟩
  · simp only [List.cons.injEq, and_true] at hcs
    subst hcs
    have hlm : len ≤ m := by rw [hmm]; split <;> omega
    obtain ⟨f, hf⟩ := choose_lt (α := List Pt) (n := len) (p := fun i q => (a.add (i * 1)).spot = none ∧ (∃ v', W.cell? ⟨(a.add (i * 1)).block, (a.add (i * 1)).off, none⟩ = some v' ∧ opAt W v' q) ∧ smallWf q) (fun i hi => by
      obtain ⟨cs, h1, h2⟩ := hx i (by omega)
      rw [cellsOf_op] at h1
      obtain ⟨_, hlen, hcell⟩ := World.cells?_some h1
      match cs, hlen with
      | [c0], _ =>
        obtain ⟨ps, p1, p2, _, _⟩ := open_op h2
        have k0 := hcell 0 (by omega)
        have hspot : (a.add (i * 1)).spot = none := by simpa [Addr.add] using World.cell?_spot (show W.cell? ((a.add (i * 1)).add 0) = some c0 from k0)
        refine ⟨ps, hspot, ⟨c0, ?_, p1⟩, small_of p2⟩
        generalize a.add (i * 1) = a' at k0 hspot
        obtain ⟨b, o, spot⟩ := a'
        obtain rfl : spot = none := hspot
        have k0 : W.cell? ((⟨b, o, none⟩ : Addr).add 0) = some c0 := k0
        rw [Addr.add_lit] at k0
        exact k0)
    have hlen : ((List.range len).map f).length = len := by simp
    refine ⟨(List.range len).map f, ⟨some a, cap, by rw [hlen], by rw [hlen]; exact hl, hm, fun hne => ?_⟩, ?_⟩
    · have hpos : 0 < len := by
        cases len with
        | zero => exact absurd rfl hne
        | succ n => exact Nat.succ_pos n
      obtain ⟨b, o, spot⟩ := a
      have hs0 := (hf 0 hpos).1
      have hspot : spot = none := by simpa [Addr.add] using hs0
      subst hspot
      refine ⟨b, o, rfl, ?_, fun i q hi => ?_⟩
      · obtain ⟨_, ⟨v', hv, _⟩, _⟩ := hf 0 hpos
        have := World.block_lt_of_cell? W _ hv
        rw [Addr.add_lit] at this
        exact this
      · have hil : i < len := by have := (List.getElem?_eq_some_iff.1 hi).1; rw [hlen] at this; exact this
        have e : q = f i := by
          rw [List.getElem?_map, List.getElem?_range hil] at hi
          exact (Option.some.inj hi).symm
        subst e
        obtain ⟨_, ⟨v', k0, k1⟩, _⟩ := hf i hil
        rw [Addr.add_lit, Nat.mul_one] at k0
        exact ⟨v', k0, k1⟩
    · intro q hq
      obtain ⟨i, hi, rfl⟩ := List.mem_map.1 hq
      exact (hf i (List.mem_range.1 hi)).2.2
end Go.Proofs.YtldhbjmillfjgabGreatDoor
