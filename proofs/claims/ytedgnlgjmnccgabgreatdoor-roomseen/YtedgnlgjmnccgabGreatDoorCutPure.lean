/-
  Plain mathematics: where runes begin among bytes; a text cut into pieces.
-/
import Derived.Test.YtedgnlgjmnccgabGreatDoorRegionBut
namespace Go.Proofs.YtedgnlgjmnccgabGreatDoor

/-- A byte with which a rune may begin. -/
def startB (b : UInt8) : Bool := Lib.runeStart (b.toNat : Int)
theorem startB_lead {n : Nat} (h : n < 256) (h2 : n / 64 ≠ 2) : startB n.toUInt8 = true := by
  unfold startB Lib.runeStart
  rw [toU8 h, bne_iff_ne]
  omega
theorem startB_tail {n : Nat} (h : n < 64) : startB (128 + n).toUInt8 = false := by
  unfold startB Lib.runeStart
  rw [toU8 (by omega), bne_eq_false_iff_eq]
  omega
theorem enc_starts {r : Nat} (hr : isRune r) : ∃ b t, enc r = b :: t ∧ startB b = true ∧ (∀ x ∈ t, startB x = false) ∧ t.length ≤ 3 := by
  unfold isRune at hr
  by_cases h1 : r ≤ 127
  · rw [enc1 h1]; exact ⟨_, [], rfl, startB_lead (by omega) (by omega), by simp, by simp⟩
  by_cases h2 : r ≤ 2047
  · rw [enc2 (by omega) h2]
    exact ⟨_, _, rfl, startB_lead (by omega) (by omega), fun x hx => by simp only [List.mem_cons, List.not_mem_nil, or_false] at hx; subst hx; exact startB_tail (by omega), by simp⟩
  by_cases h3 : r ≤ 65535
  · rw [enc3 (by omega)]
    exact ⟨_, _, rfl, startB_lead (by omega) (by omega), fun x hx => by simp only [List.mem_cons, List.not_mem_nil, or_false] at hx; rcases hx with rfl | rfl <;> exact startB_tail (by omega), by simp⟩
  · rw [enc4 (by omega) (by omega)]
    exact ⟨_, _, rfl, startB_lead (by omega) (by omega), fun x hx => by simp only [List.mem_cons, List.not_mem_nil, or_false] at hx; rcases hx with rfl | rfl | rfl <;> exact startB_tail (by omega), by simp⟩

/-- A place between two runes, or at an end. -/
def edgeAt (rs : List Nat) (j : Nat) : Prop := ∃ k, k ≤ rs.length ∧ j = (encs (rs.take k)).length
theorem edgeAt_zero (rs : List Nat) : edgeAt rs 0 := ⟨0, Nat.zero_le _, by simp [encs]⟩
theorem edgeAt_of_start : ∀ {rs : List Nat}, (∀ r ∈ rs, isRune r) → ∀ {j : Nat} {b : UInt8}, (encs rs)[j]? = some b → startB b = true → edgeAt rs j
  | [], _, j, b, h, _ => by simp [encs] at h
  | r :: rs, hr, j, b, h, hb => by
    obtain ⟨b0, t, e, h1, h2, _⟩ := enc_starts (hr r (by simp))
    rw [encs_cons] at h
    by_cases hj : j < (enc r).length
    · rw [List.getElem?_append_left hj, e] at h
      cases j with
      | zero => exact edgeAt_zero _
      | succ j =>
        rw [List.getElem?_cons_succ] at h
        have := h2 b (List.mem_of_getElem? h)
        rw [this] at hb
        cases hb
    · rw [List.getElem?_append_right (by omega)] at h
      obtain ⟨k, hk, e2⟩ := edgeAt_of_start (fun x hx => hr x (by simp [hx])) h hb
      refine ⟨k + 1, by simp; omega, ?_⟩
      rw [List.take_succ_cons, encs_cons, List.length_append, ← e2]
      omega
end Go.Proofs.YtedgnlgjmnccgabGreatDoor
