/-
  Plain mathematics: which of up to four bytes' numbers is a rune with just these bytes; no Go in sight.
-/
import Derived.Test.YtldhbjmillfjgabGreatDoorBackPure
namespace Go.Proofs.YtldhbjmillfjgabGreatDoor

/-- What one to four bytes say, by division. -/
def val1 (b0 : Nat) : Nat := b0
def val2 (b0 b1 : Nat) : Nat := b0 % 32 * 64 + b1 % 64
def val3 (b0 b1 b2 : Nat) : Nat := b0 % 16 * 4096 + b1 % 64 * 64 + b2 % 64
def val4 (b0 b1 b2 b3 : Nat) : Nat := b0 % 8 * 262144 + b1 % 64 * 4096 + b2 % 64 * 64 + b3 % 64
def byteAt (l : List UInt8) (i : Nat) : Nat := (l.getD i 0).toNat
theorem byteAt_lt (l : List UInt8) (i : Nat) : byteAt l i < 256 := (l.getD i 0).toNat_lt
/-- The number of the first n bytes. -/
def valN (l : List UInt8) (n : Nat) : Nat :=
  if n = 1 then val1 (byteAt l 0) else if n = 2 then val2 (byteAt l 0) (byteAt l 1) else if n = 3 then val3 (byteAt l 0) (byteAt l 1) (byteAt l 2) else val4 (byteAt l 0) (byteAt l 1) (byteAt l 2) (byteAt l 3)
/-- These bytes are just that rune's. -/
def fits (l : List UInt8) (n : Nat) : Prop := isRune (valN l n) ∧ enc (valN l n) = l.take n

theorem valN_lt (l : List UInt8) (n : Nat) : valN l n < 2097152 := by
  have h0 := byteAt_lt l 0
  have h1 := byteAt_lt l 1
  have h2 := byteAt_lt l 2
  have h3 := byteAt_lt l 3
  unfold valN val1 val2 val3 val4
  split
  · omega
  split
  · omega
  split
  · omega
  · omega

/-- If they are, that rune begins there. -/
theorem dec_of_fits {l : List UInt8} {n : Nat} (hn : n ≤ l.length) (h : fits l n) : dec l = (valN l n, n) ∧ badB (dec l) = false := by
  obtain ⟨h1, h2⟩ := h
  have e : l = enc (valN l n) ++ l.drop n := by rw [h2]; exact (List.take_append_drop n l).symm
  have hl : (enc (valN l n)).length = n := by rw [h2, List.length_take]; omega
  have hd := dec_enc h1 (l.drop n)
  rw [← e, hl] at hd
  exact hd

theorem enc_val {r : Nat} (hr : isRune r) (t : List UInt8) : valN (enc r ++ t) (enc r).length = r := by
  unfold isRune at hr
  by_cases h1 : r ≤ 127
  · rw [enc1 h1]
    show byteAt (r.toUInt8 :: t) 0 = r
    unfold byteAt
    rw [List.getD_cons_zero, toU8 (show r < 256 by omega)]
  by_cases h2 : r ≤ 2047
  · rw [enc2 (by omega) h2]
    show val2 ((192 + r / 64).toUInt8.toNat) ((128 + r % 64).toUInt8.toNat) = r
    rw [toU8 (show 192 + r / 64 < 256 by omega), toU8 (show 128 + r % 64 < 256 by omega)]
    unfold val2
    omega
  by_cases h3 : r ≤ 65535
  · rw [enc3 (by omega)]
    show val3 ((224 + r / 4096).toUInt8.toNat) ((128 + r / 64 % 64).toUInt8.toNat) ((128 + r % 64).toUInt8.toNat) = r
    rw [toU8 (show 224 + r / 4096 < 256 by omega), toU8 (show 128 + r / 64 % 64 < 256 by omega), toU8 (show 128 + r % 64 < 256 by omega)]
    unfold val3
    omega
  · rw [enc4 (by omega) (by omega)]
    show val4 ((240 + r / 262144).toUInt8.toNat) ((128 + r / 4096 % 64).toUInt8.toNat) ((128 + r / 64 % 64).toUInt8.toNat) ((128 + r % 64).toUInt8.toNat) = r
    rw [toU8 (show 240 + r / 262144 < 256 by omega), toU8 (show 128 + r / 4096 % 64 < 256 by omega), toU8 (show 128 + r / 64 % 64 < 256 by omega), toU8 (show 128 + r % 64 < 256 by omega)]
    unfold val4
    omega

/-- If a rune begins there, its bytes are. -/
theorem fits_of_dec {l : List UInt8} (hne : l ≠ []) (hb : badB (dec l) = false) : fits l (dec l).2 ∧ valN l (dec l).2 = (dec l).1 := by
  obtain ⟨h1, h2⟩ := dec_good hne hb
  have hw := dec_le hne
  have hl : (enc (dec l).1).length = (dec l).2 := by rw [← h2, List.length_take]; omega
  have e : l = enc (dec l).1 ++ l.drop (dec l).2 := by rw [← h2]; exact (List.take_append_drop _ l).symm
  have hv : valN l (dec l).2 = (dec l).1 := by
    have := enc_val h1 (l.drop (dec l).2)
    rw [← e, hl] at this
    exact this
  exact ⟨⟨by rw [hv]; exact h1, by rw [hv]; exact h2.symm⟩, hv⟩

/-- What 'first' answers. -/
def firstOf (l : List UInt8) : Nat × Nat := if l = [] then (0, 0) else if badB (dec l) then (0, 0) else dec l
theorem firstOf_fits {l : List UInt8} {n : Nat} (h0 : 1 ≤ n) (hn : n ≤ l.length) (h : fits l n) : firstOf l = (valN l n, n) := by
  obtain ⟨h1, h2⟩ := dec_of_fits hn h
  have hne : l ≠ [] := by rintro rfl; simp at hn; omega
  unfold firstOf
  rw [if_neg hne, h2, h1]
  simp
/-- If none of one to four is, nothing begins there. -/
theorem firstOf_none {l : List UInt8} (h : ∀ n, 1 ≤ n → n ≤ 4 → n ≤ l.length → ¬ fits l n) : firstOf l = (0, 0) := by
  unfold firstOf
  by_cases hne : l = []
  · rw [if_pos hne]
  rw [if_neg hne]
  by_cases hb : badB (dec l) = true
  · rw [if_pos hb]
  · have hb : badB (dec l) = false := Bool.eq_false_iff.2 hb
    exact absurd (fits_of_dec hne hb).1 (h _ (dec_ge1 l) (dec_le4 l) (dec_le hne))
end Go.Proofs.YtldhbjmillfjgabGreatDoor
