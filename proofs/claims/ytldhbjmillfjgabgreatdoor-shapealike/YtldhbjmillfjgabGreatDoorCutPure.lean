/-
  Plain mathematics: where runes begin among bytes; a text cut into pieces.
-/
import Derived.Test.YtldhbjmillfjgabGreatDoorAdd
namespace Go.Proofs.YtldhbjmillfjgabGreatDoor

/-- A byte with which a rune may begin. -/
def startB (b : UInt8) : Bool := Lib.runeStart (b.toNat : Int)
theorem startB_lead {n : Nat} (h : n < 256) (h2 : n / 64 ≠ 2) : startB n.toUInt8 = true := by
  unfold startB Lib.runeStart
  rw [toU8 h, bne_iff_ne]
  omega
theorem startB_tail {n : Nat} (h : n < 64) : startB (128 + n).toUInt8 = false := by
  unfold startB Lib.runeStart
  rw [toU8 (by omega), bne_eq_false_iff_eq]
  omega
theorem enc_starts {r : Nat} (hr : isRune r) : ∃ b t, enc r = b :: t ∧ startB b = true ∧ (∀ x ∈ t, startB x = false) ∧ t.length ≤ 3 := by
  unfold isRune at hr
  by_cases h1 : r ≤ 127
  · rw [enc1 h1]; exact ⟨_, [], rfl, startB_lead (by omega) (by omega), by simp, by simp⟩
  by_cases h2 : r ≤ 2047
  · rw [enc2 (by omega) h2]
    exact ⟨_, _, rfl, startB_lead (by omega) (by omega), fun x hx => by simp only [List.mem_cons, List.not_mem_nil, or_false] at hx; subst hx; exact startB_tail (by omega), by simp⟩
  by_cases h3 : r ≤ 65535
  · rw [enc3 (by omega)]
    exact ⟨_, _, rfl, startB_lead (by omega) (by omega), fun x hx => by simp only [List.mem_cons, List.not_mem_nil, or_false] at hx; rcases hx with rfl | rfl <;> exact startB_tail (by omega), by simp⟩
  · rw [enc4 (by omega) (by omega)]
    exact ⟨_, _, rfl, startB_lead (by omega) (by omega), fun x hx => by simp only [List.mem_cons, List.not_mem_nil, or_false] at hx; rcases hx with rfl | rfl | rfl <;> exact startB_tail (by omega), by simp⟩

/-- A place between two runes, or at an end. -/
def edgeAt (rs : List Nat) (j : Nat) : Prop := ∃ k, k ≤ rs.length ∧ j = (encs (rs.take k)).length
theorem edgeAt_zero (rs : List Nat) : edgeAt rs 0 := ⟨0, Nat.zero_le _, by simp [encs]⟩
theorem edgeAt_end (rs : List Nat) : edgeAt rs (encs rs).length := ⟨rs.length, Nat.le_refl _, by rw [List.take_length]⟩
theorem edgeAt_first {r : Nat} (rs : List Nat) : edgeAt (r :: rs) (enc r).length := ⟨1, by simp, by simp [encs]⟩
theorem edgeAt_of_start : ∀ {rs : List Nat}, (∀ r ∈ rs, isRune r) → ∀ {j : Nat} {b : UInt8}, (encs rs)[j]? = some b → startB b = true → edgeAt rs j
  | [], _, j, b, h, _ => by simp [encs] at h
  | r :: rs, hr, j, b, h, hb => by
    obtain ⟨b0, t, e, h1, h2, _⟩ := enc_starts (hr r (by simp))
    rw [encs_cons] at h
    by_cases hj : j < (enc r).length
    · rw [List.getElem?_append_left hj, e] at h
      cases j with
      | zero => exact edgeAt_zero _
      | succ j =>
        rw [List.getElem?_cons_succ] at h
        have := h2 b (List.mem_of_getElem? h)
        rw [this] at hb
        cases hb
    · rw [List.getElem?_append_right (by omega)] at h
      obtain ⟨k, hk, e2⟩ := edgeAt_of_start (fun x hx => hr x (by simp [hx])) h hb
      refine ⟨k + 1, by simp; omega, ?_⟩
      rw [List.take_succ_cons, encs_cons, List.length_append, ← e2]
      omega
theorem start_of_edgeAt : ∀ {rs : List Nat}, (∀ r ∈ rs, isRune r) → ∀ {j : Nat} {b : UInt8}, edgeAt rs j → (encs rs)[j]? = some b → startB b = true
  | [], _, j, b, _, h => by simp [encs] at h
  | r :: rs, hr, j, b, ⟨k, hk, hj⟩, h => by
    obtain ⟨b0, t, e, h1, _, _⟩ := enc_starts (hr r (by simp))
    cases k with
    | zero =>
      simp [encs] at hj
      subst hj
      rw [encs_cons, e] at h
      simp at h
      subst h
      exact h1
    | succ k =>
      rw [List.take_succ_cons, encs_cons, List.length_append] at hj
      rw [encs_cons, List.getElem?_append_right (by omega)] at h
      exact start_of_edgeAt (fun x hx => hr x (by simp [hx])) ⟨k, by simpa using hk, by omega⟩ h

/-- A cut at an edge. -/
theorem cut_at {rs : List Nat} (hr : ∀ r ∈ rs, isRune r) {j : Nat} (h : edgeAt rs j) (h0 : 0 < j) (h32 : j ≤ 32) :
    ∃ x y, rs = x ++ y ∧ okChunk x ∧ (bytesOf rs).extract 0 j = bytesOf x ∧ (bytesOf rs).extract j (bytesOf rs).size = bytesOf y ∧ (encs y).length + j = (encs rs).length := by
  obtain ⟨k, hk, rfl⟩ := h
  refine ⟨rs.take k, rs.drop k, (List.take_append_drop k rs).symm, ⟨?_, h32, fun r h => hr r (List.mem_of_mem_take h)⟩, ?_, ?_, ?_⟩
  · intro e
    rw [e] at h0
    simp [encs] at h0
  · apply ByteArray.ext
    apply Array.toList_inj.1
    rw [Lib.extract_data, List.drop_zero, Nat.sub_zero, bytesOf_list, bytesOf_list]
    conv => lhs; rw [← List.take_append_drop k rs, encs_append]
    simp
  · apply ByteArray.ext
    apply Array.toList_inj.1
    rw [Lib.extract_to_end, bytesOf_list, bytesOf_list]
    conv => lhs; rw [← List.take_append_drop k rs, encs_append]
    simp
  · have e : encs rs = encs (rs.take k) ++ encs (rs.drop k) := by rw [← encs_append, List.take_append_drop]
    rw [e, List.length_append]
    omega
theorem first_len {rs : List Nat} (hr : ∀ r ∈ rs, isRune r) (hne : rs ≠ []) : ∃ f, 1 ≤ f ∧ f ≤ 4 ∧ edgeAt rs f ∧ f ≤ (encs rs).length := by
  cases rs with
  | nil => exact absurd rfl hne
  | cons r rs =>
    obtain ⟨b0, t, e, _, _, h3⟩ := enc_starts (hr r (by simp))
    refine ⟨(enc r).length, by rw [e]; simp, by rw [e]; simp; omega, edgeAt_first rs, by rw [encs_cons, List.length_append]; omega⟩
end Go.Proofs.YtldhbjmillfjgabGreatDoor
