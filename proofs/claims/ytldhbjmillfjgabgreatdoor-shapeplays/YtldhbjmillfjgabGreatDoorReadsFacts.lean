/-
  Plain mathematics: what a text counts, told by its runes, and by its bytes.
-/
import Derived.Test.YtldhbjmillfjgabGreatDoorRefCount
namespace Go.Proofs.YtldhbjmillfjgabGreatDoor

theorem sum1_wide (rs : List Nat) : sum1 (wide rs) = ((encs rs).length : Int) := by
  induction rs with
  | nil => rfl
  | cons r rs ih =>
    have e : sum1 (wide (r :: rs)) = ((enc r).length : Int) + sum1 (wide rs) := by simp [sum1, wide]
    rw [e, ih, encs_cons, List.length_append]
    push_cast
    rfl
theorem sum2_wide (rs : List Nat) : sum2 (wide rs) = ((halRow rs).length : Int) := by
  induction rs with
  | nil => rfl
  | cons r rs ih =>
    have e : sum2 (wide (r :: rs)) = cH r + sum2 (wide rs) := by simp [sum2, wide]
    have e2 : halRow (r :: rs) = halCells r ++ halRow rs := by simp [halRow]
    have e3 : ((halCells r).length : Int) = cH r := by
      unfold halCells hal cH
      split <;> simp
    rw [e, ih, e2, List.length_append, ← e3]
    push_cast
    rfl
theorem enc_count {r : Nat} (hr : isRune r) : ((enc r).count 10 : Int) = cL r := by
  unfold isRune at hr
  have ne : ∀ n : Nat, n < 256 → n ≠ 10 → (n.toUInt8 == (10 : UInt8)) = false := by
    intro n h1 h2
    rw [beq_eq_false_iff_ne]
    intro e
    have := congrArg UInt8.toNat e
    rw [toU8 h1] at this
    exact h2 this
  unfold cL
  by_cases h1 : r ≤ 127
  · rw [enc1 h1]
    by_cases h : r = 10
    · subst h; rfl
    · rw [if_neg h, List.count_cons, ne r (by omega) h]; rfl
  rw [if_neg (by omega)]
  by_cases h2 : r ≤ 2047
  · rw [enc2 (by omega) h2, List.count_cons, List.count_cons, ne _ (by omega) (by omega), ne _ (by omega) (by omega)]; rfl
  by_cases h3 : r ≤ 65535
  · rw [enc3 (by omega), List.count_cons, List.count_cons, List.count_cons, ne _ (by omega) (by omega), ne _ (by omega) (by omega), ne _ (by omega) (by omega)]; rfl
  · rw [enc4 (by omega) (by omega), List.count_cons, List.count_cons, List.count_cons, List.count_cons, ne _ (by omega) (by omega), ne _ (by omega) (by omega), ne _ (by omega) (by omega), ne _ (by omega) (by omega)]; rfl
theorem sum4_wide {rs : List Nat} (h : ∀ r ∈ rs, isRune r) : sum4 (wide rs) = (Lib.countByte (encs rs) 10 : Int) := by
  unfold Lib.countByte
  induction rs with
  | nil => rfl
  | cons r rs ih =>
    have e : sum4 (wide (r :: rs)) = cL r + sum4 (wide rs) := by simp [sum4, wide]
    rw [e, ih fun x hx => h x (by simp [hx]), encs_cons, List.count_append, ← enc_count (h r (by simp))]
    push_cast
    rfl
end Go.Proofs.YtldhbjmillfjgabGreatDoor
