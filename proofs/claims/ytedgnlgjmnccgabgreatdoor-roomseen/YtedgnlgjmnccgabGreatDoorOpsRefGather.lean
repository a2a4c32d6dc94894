/-
  The document's Gather: gaps in least form.
-/
import Derived.Test.YtedgnlgjmnccgabGreatDoorOpsGather
import Derived.Laws.EntriesVeiled
import Derived.Test.YtedgnlgjmnccgabGreatDoorOpsSpread
namespace Go.Proofs.YtedgnlgjmnccgabGreatDoor
open Go.RowKit
set_option linter.unusedVariables false

/-- What the document's gathering keeps is at most so much. -/
structure BdK (s : KSt) (T k : Nat) : Prop where
  put : s.put.length ≤ T
  d0 : 0 ≤ s.drop
  dk : s.drop ≤ k
  k0 : 0 ≤ s.keep
  kk : s.keep ≤ k
  len : s.out.length ≤ 3 * k
theorem tellP_len (s : NSt) : (tellP s).length ≤ s.out.length + 2 := by
  unfold tellP
  simp only [List.length_append]
  split <;> split <;> simp
theorem BdK.step {s : KSt} {T k : Nat} (h : BdK s T k) (x : List UInt8 × Bool) : BdK (stepK s x) (T + x.1.length) (k + 1) := by
  obtain ⟨q, d⟩ := x
  obtain ⟨h1, h2, h3, h4, h5, h6⟩ := h
  have hf : (flushK s q d).put.length ≤ T + q.length ∧ (flushK s q d).drop = s.drop ∧ 0 ≤ (flushK s q d).keep ∧ (flushK s q d).keep ≤ k ∧ (flushK s q d).out.length ≤ 3 * k + 1 := by
    unfold flushK
    split
    · refine ⟨by show (s.put ++ q).length ≤ _; rw [List.length_append]; omega, rfl, ?_, ?_, ?_⟩
      · show 0 ≤ if 0 < s.keep then 0 else s.keep; split <;> omega
      · show (if 0 < s.keep then 0 else s.keep) ≤ _; split <;> omega
      · show (if 0 < s.keep then s.out ++ [⟨s.keep, 0, []⟩] else s.out).length ≤ _
        split
        · rw [List.length_append, List.length_singleton]; omega
        · omega
    · exact ⟨by omega, rfl, h4, h5, by omega⟩
  obtain ⟨f1, f2, f3, f4, f5⟩ := hf
  show BdK (byteK (flushK s q d) d) (T + q.length) (k + 1)
  generalize flushK s q d = t at *
  unfold byteK
  cases d with
  | true => exact ⟨f1, by show 0 ≤ t.drop + 1; omega, by show t.drop + 1 ≤ _; omega, f3, by show t.keep ≤ _; omega, by show t.out.length ≤ _; omega⟩
  | false =>
    have : (tellP ⟨t.out, t.put, t.drop⟩).length ≤ t.out.length + 2 := tellP_len _
    exact ⟨Nat.zero_le _, Int.le_refl _, by show (0 : Int) ≤ _; omega, by show 0 ≤ t.keep + 1; omega, by show t.keep + 1 ≤ _; omega, by show (tellP ⟨t.out, t.put, t.drop⟩).length ≤ _; omega⟩
end Go.Proofs.YtedgnlgjmnccgabGreatDoor
