/-
  Plain mathematics: where runes begin among bytes; a text cut into pieces.
-/
import Derived.Test.YtldhbjmillfjgabGreatDoorRegionBut
namespace Go.Proofs.YtldhbjmillfjgabGreatDoor

/-- A byte with which a rune may begin. -/
def startB (b : UInt8) : Bool := Lib.runeStart (b.toNat : Int)
theorem startB_lead {n : Nat} (h : n < 256) (h2 : n / 64 ≠ 2) : startB n.toUInt8 = true := by
  unfold startB Lib.runeStart
  rw [toU8 h, bne_iff_ne]
  omega
theorem startB_tail {n : Nat} (h : n < 64) : startB (128 + n).toUInt8 = false := by
  unfold startB Lib.runeStart
  rw [toU8 (by omega), bne_eq_false_iff_eq]
  omega
theorem enc_starts {r : Nat} (hr : isRune r) : ∃ b t, enc r = b :: t ∧ startB b = true ∧ (∀ x ∈ t, startB x = false) ∧ t.length ≤ 3 := by
  unfold isRune at hr
  by_cases h1 : r ≤ 127
  · rw [enc1 h1]; exact ⟨_, [], rfl, startB_lead (by omega) (by omega), by simp, by simp⟩
  by_cases h2 : r ≤ 2047
  · rw [enc2 (by omega) h2]
    exact ⟨_, _, rfl, startB_lead (by omega) (by omega), fun x hx => by simp only [List.mem_cons, List.not_mem_nil, or_false] at hx; subst hx; exact startB_tail (by omega), by simp⟩
  by_cases h3 : r ≤ 65535
  · rw [enc3 (by omega)]
    exact ⟨_, _, rfl, startB_lead (by omega) (by omega), fun x hx => by simp only [List.mem_cons, List.not_mem_nil, or_false] at hx; rcases hx with rfl | rfl <;> exact startB_tail (by omega), by simp⟩
  · rw [enc4 (by omega) (by omega)]
    exact ⟨_, _, rfl, startB_lead (by omega) (by omega), fun x hx => by simp only [List.mem_cons, List.not_mem_nil, or_false] at hx; rcases hx with rfl | rfl | rfl <;> exact startB_tail (by omega), by simp⟩

end Go.Proofs.YtldhbjmillfjgabGreatDoor
