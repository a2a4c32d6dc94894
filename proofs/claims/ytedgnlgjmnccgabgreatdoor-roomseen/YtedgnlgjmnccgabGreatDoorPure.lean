/-
  Plain mathematics of UTF-8: bytes as runes and back. No Go in sight.
-/
import Derived.Lib.DecodeN
import Derived.Lib.RuneBytes
import Derived.Lib.Strings
namespace Go.Proofs.YtedgnlgjmnccgabGreatDoor
open Go.Lib

/-- The rune at the beginning of bytes, and how many it takes; (65533, 1): none begins there. -/
def dec (l : List UInt8) : Nat × Nat := decodeN l.length (l.getD 0 0).toNat (l.getD 1 0).toNat (l.getD 2 0).toNat (l.getD 3 0).toNat

theorem decN_ge1 (n b0 b1 b2 b3 : Nat) : 1 ≤ (decodeN n b0 b1 b2 b3).2 := by
  unfold decodeN
  repeat' split
  all_goals simp
theorem decN_le4 (n b0 b1 b2 b3 : Nat) : (decodeN n b0 b1 b2 b3).2 ≤ 4 := by
  unfold decodeN
  repeat' split
  all_goals simp
theorem decN_le (n b0 b1 b2 b3 : Nat) (h : 1 ≤ n) : (decodeN n b0 b1 b2 b3).2 ≤ n := by
  unfold decodeN
  repeat' split
  all_goals simp
  all_goals omega
theorem dec_ge1 (l : List UInt8) : 1 ≤ (dec l).2 := decN_ge1 _ _ _ _ _
theorem dec_le4 (l : List UInt8) : (dec l).2 ≤ 4 := decN_le4 _ _ _ _ _
theorem dec_le {l : List UInt8} (h : l ≠ []) : (dec l).2 ≤ l.length := decN_le _ _ _ _ _ (by cases l <;> simp_all)

/-- No rune begins here. -/
def badB (p : Nat × Nat) : Bool := p.1 == 65533 && p.2 == 1

/-- The runes of bytes, each with its width, up to the first byte at which none begins; and whether that is the end: n: as many at most. -/
def scanF : Nat → List UInt8 → List (Nat × Nat) × Bool
  | 0, _ => ([], true)
  | n + 1, l => if l = [] then ([], true) else if badB (dec l) then ([], false) else (dec l :: (scanF n (l.drop (dec l).2)).1, (scanF n (l.drop (dec l).2)).2)
theorem scanF_any : ∀ (n m : Nat) (l : List UInt8), l.length ≤ n → l.length ≤ m → scanF n l = scanF m l
  | 0, m, l, hn, _ => by
    obtain rfl : l = [] := List.eq_nil_of_length_eq_zero (by omega)
    cases m <;> simp [scanF]
  | n + 1, 0, l, _, hm => by
    obtain rfl : l = [] := List.eq_nil_of_length_eq_zero (by omega)
    simp [scanF]
  | n + 1, m + 1, l, hn, hm => by
    unfold scanF
    by_cases h : l = []
    · simp [h]
    · have h1 := dec_ge1 l
      have h2 : l.length ≠ 0 := by simpa using h
      rw [scanF_any n m (l.drop (dec l).2) (by rw [List.length_drop]; omega) (by rw [List.length_drop]; omega)]
/-- All of them. -/
def scan (l : List UInt8) : List (Nat × Nat) × Bool := scanF l.length l
theorem scan_step (l : List UInt8) (h : l ≠ []) : scan l = if badB (dec l) then ([], false) else (dec l :: (scan (l.drop (dec l).2)).1, (scan (l.drop (dec l).2)).2) := by
  have h1 := dec_ge1 l
  have h2 : l.length ≠ 0 := by simpa using h
  unfold scan
  rw [scanF_any l.length ((l.length - 1) + 1) l (Nat.le_refl _) (by omega), scanF, if_neg h, scanF_any (l.length - 1) (l.drop (dec l).2).length _ (by rw [List.length_drop]; omega) (Nat.le_refl _)]

theorem scan_nil : scan [] = ([], true) := rfl
theorem scan_bad {l : List UInt8} (h : l ≠ []) (hb : badB (dec l) = true) : scan l = ([], false) := by rw [scan_step l h, hb]; rfl
theorem scan_good {l : List UInt8} (h : l ≠ []) (hb : badB (dec l) = false) : scan l = (dec l :: (scan (l.drop (dec l).2)).1, (scan (l.drop (dec l).2)).2) := by
  rw [scan_step l h, hb]; rfl

/-- What a rune is. -/
def isRune (r : Nat) : Prop := r < 55296 ∨ (57344 ≤ r ∧ r ≤ 1114111)

/-- A rune's bytes. -/
def enc (r : Nat) : List UInt8 := encodeRune r
theorem enc1 {r : Nat} (h : r ≤ 127) : enc r = [r.toUInt8] := by
  unfold enc encodeRune; rw [encodeRuneZ_one (by omega) (by omega)]; simp
theorem enc2 {r : Nat} (h0 : 128 ≤ r) (h1 : r ≤ 2047) : enc r = [(192 + r / 64).toUInt8, (128 + r % 64).toUInt8] := by
  unfold enc encodeRune; rw [encodeRuneZ_two (by omega) (by omega)]
  simp only [List.map_cons, List.map_nil]
  rw [show (192 + (r : Int) / 64).toNat = 192 + r / 64 by omega, show (128 + (r : Int) % 64).toNat = 128 + r % 64 by omega]
theorem enc3 {r : Nat} (h : (2048 ≤ r ∧ r < 55296) ∨ (57343 < r ∧ r ≤ 65535)) : enc r = [(224 + r / 4096).toUInt8, (128 + r / 64 % 64).toUInt8, (128 + r % 64).toUInt8] := by
  unfold enc encodeRune; rw [encodeRuneZ_three (by omega)]
  simp only [List.map_cons, List.map_nil]
  rw [show (224 + (r : Int) / 4096).toNat = 224 + r / 4096 by omega, show (128 + (r : Int) / 64 % 64).toNat = 128 + r / 64 % 64 by omega, show (128 + (r : Int) % 64).toNat = 128 + r % 64 by omega]
theorem enc4 {r : Nat} (h0 : 65536 ≤ r) (h1 : r ≤ 1114111) : enc r = [(240 + r / 262144).toUInt8, (128 + r / 4096 % 64).toUInt8, (128 + r / 64 % 64).toUInt8, (128 + r % 64).toUInt8] := by
  unfold enc encodeRune; rw [encodeRuneZ_four (by omega) (by omega)]
  simp only [List.map_cons, List.map_nil]
  rw [show (240 + (r : Int) / 262144).toNat = 240 + r / 262144 by omega, show (128 + (r : Int) / 4096 % 64).toNat = 128 + r / 4096 % 64 by omega, show (128 + (r : Int) / 64 % 64).toNat = 128 + r / 64 % 64 by omega, show (128 + (r : Int) % 64).toNat = 128 + r % 64 by omega]

theorem toU8 {n : Nat} (h : n < 256) : n.toUInt8.toNat = n := by simp [Nat.toUInt8]; omega
theorem u8_eq {n : Nat} {a : UInt8} (h : n = a.toNat) : n.toUInt8 = a := by
  subst h; simp [Nat.toUInt8]

/-- Where a rune begins as it should be, its bytes are just its own. -/
theorem dec_good {l : List UInt8} (h : l ≠ []) (hb : badB (dec l) = false) : isRune (dec l).1 ∧ l.take (dec l).2 = enc (dec l).1 := by
  revert hb
  unfold badB dec isRune
  have z0 : (l.getD 0 0).toNat < 256 := (l.getD 0 0).toNat_lt
  have z1 : (l.getD 1 0).toNat < 256 := (l.getD 1 0).toNat_lt
  have z2 : (l.getD 2 0).toNat < 256 := (l.getD 2 0).toNat_lt
  have z3 : (l.getD 3 0).toNat < 256 := (l.getD 3 0).toNat_lt
  obtain ⟨a, t, rfl⟩ := List.exists_cons_of_ne_nil h
  unfold decodeN
  split
  · intro _
    refine ⟨by simp only [List.getD_cons_zero] at *; omega, ?_⟩
    rw [enc1 (by omega)]
    simp
  split
  · rename_i c
    split
    · intro _
      obtain ⟨c1, c2, c3⟩ := c
      obtain ⟨b, t, rfl⟩ : ∃ b t', t = b :: t' := by cases t with | nil => simp at c2 | cons b t => exact ⟨b, t, rfl⟩
      simp only [List.getD_cons_zero, List.getD_cons_succ] at *
      refine ⟨by omega, ?_⟩
      rw [enc2 (by omega) (by omega)]
      simp only [List.take_succ_cons, List.take_zero]
      rw [u8_eq (a := a) (by omega), u8_eq (a := b) (by omega)]
    · intro hb; simp at hb
  split
  · rename_i c
    split
    · intro _
      obtain ⟨c1, ⟨c2, c3⟩, c4, c5⟩ := c
      obtain ⟨b, t, rfl⟩ : ∃ b t', t = b :: t' := by cases t with | nil => simp at c2 | cons b t => exact ⟨b, t, rfl⟩
      obtain ⟨d, t, rfl⟩ : ∃ b t', t = b :: t' := by cases t with | nil => simp at c4 | cons b t => exact ⟨b, t, rfl⟩
      simp only [List.getD_cons_zero, List.getD_cons_succ] at *
      refine ⟨by omega, ?_⟩
      rw [enc3 (by omega)]
      simp only [List.take_succ_cons, List.take_zero]
      rw [u8_eq (a := a) (by omega), u8_eq (a := b) (by omega), u8_eq (a := d) (by omega)]
    · intro hb; simp at hb
  split
  · rename_i c
    split
    · intro _
      obtain ⟨c1, ⟨c2, c3⟩, ⟨c4, c5⟩, c6, c7⟩ := c
      obtain ⟨b, t, rfl⟩ : ∃ b t', t = b :: t' := by cases t with | nil => simp at c2 | cons b t => exact ⟨b, t, rfl⟩
      obtain ⟨d, t, rfl⟩ : ∃ b t', t = b :: t' := by cases t with | nil => simp at c4 | cons b t => exact ⟨b, t, rfl⟩
      obtain ⟨e, t, rfl⟩ : ∃ b t', t = b :: t' := by cases t with | nil => simp at c6 | cons b t => exact ⟨b, t, rfl⟩
      simp only [List.getD_cons_zero, List.getD_cons_succ] at *
      refine ⟨by omega, ?_⟩
      rw [enc4 (by omega) (by omega)]
      simp only [List.take_succ_cons, List.take_zero]
      rw [u8_eq (a := a) (by omega), u8_eq (a := b) (by omega), u8_eq (a := d) (by omega), u8_eq (a := e) (by omega)]
    · intro hb; simp at hb
  · intro hb; simp at hb

/-- A rune's bytes, whatever stands behind them, are that rune. -/
theorem dec_enc {r : Nat} (hr : isRune r) (t : List UInt8) : dec (enc r ++ t) = (r, (enc r).length) ∧ badB (dec (enc r ++ t)) = false := by
  have key : dec (enc r ++ t) = (r, (enc r).length) ∧ ((enc r).length = 1 → r ≤ 127) := by
    unfold isRune at hr
    by_cases h1 : r ≤ 127
    · rw [enc1 h1]
      simp only [dec, List.cons_append, List.nil_append, List.getD_cons_zero, toU8 (show r < 256 by omega), List.length_cons, List.length_nil]
      exact ⟨by simp [decodeN, show r < 128 by omega], fun _ => h1⟩
    by_cases h2 : r ≤ 2047
    · rw [enc2 (by omega) h2]
      simp only [dec, List.cons_append, List.nil_append, List.getD_cons_zero, List.getD_cons_succ, toU8 (show 192 + r / 64 < 256 by omega), toU8 (show 128 + r % 64 < 256 by omega), List.length_cons, List.length_nil]
      refine ⟨?_, by simp⟩
      unfold decodeN
      rw [if_neg (by omega), if_pos ⟨by omega, by omega, by omega⟩, if_pos (by omega)]
      simp; omega
    by_cases h3 : r ≤ 65535
    · rw [enc3 (by omega)]
      simp only [dec, List.cons_append, List.nil_append, List.getD_cons_zero, List.getD_cons_succ, toU8 (show 224 + r / 4096 < 256 by omega), toU8 (show 128 + r / 64 % 64 < 256 by omega), toU8 (show 128 + r % 64 < 256 by omega), List.length_cons, List.length_nil]
      refine ⟨?_, by simp⟩
      unfold decodeN
      rw [if_neg (by omega), if_neg (by omega), if_pos ⟨by omega, ⟨by omega, by omega⟩, by omega, by omega⟩, if_pos (by omega)]
      simp; omega
    · rw [enc4 (by omega) (by omega)]
      simp only [dec, List.cons_append, List.nil_append, List.getD_cons_zero, List.getD_cons_succ, toU8 (show 240 + r / 262144 < 256 by omega), toU8 (show 128 + r / 4096 % 64 < 256 by omega), toU8 (show 128 + r / 64 % 64 < 256 by omega), toU8 (show 128 + r % 64 < 256 by omega), List.length_cons, List.length_nil]
      refine ⟨?_, by simp⟩
      unfold decodeN
      rw [if_neg (by omega), if_neg (by omega), if_neg (by omega), if_pos ⟨by omega, ⟨by omega, by omega⟩, ⟨by omega, by omega⟩, by omega, by omega⟩, if_pos (by omega)]
      simp; omega
  refine ⟨key.1, ?_⟩
  rw [key.1]
  unfold badB
  by_cases hl : (enc r).length = 1
  · have := key.2 hl; simp; omega
  · simp [hl]

theorem enc_ne (r : Nat) : enc r ≠ [] := by
  have := (encodeRuneZ_length r).1
  intro h
  have h2 := congrArg List.length h
  simp [enc, encodeRune] at h2
  rw [h2] at this; simp at this

/-- Runes, each with its width. -/
def wide (rs : List Nat) : List (Nat × Nat) := rs.map fun r => (r, (enc r).length)

/-- The bytes of runes. -/
def encs (rs : List Nat) : List UInt8 := rs.flatMap enc
theorem encs_cons (r : Nat) (rs : List Nat) : encs (r :: rs) = enc r ++ encs rs := rfl
theorem encs_append (a b : List Nat) : encs (a ++ b) = encs a ++ encs b := by simp [encs]

/-- What runes' bytes are: these runes. -/
theorem scan_encs : ∀ (rs : List Nat), (∀ r ∈ rs, isRune r) → scan (encs rs) = (wide rs, true)
  | [], _ => scan_nil
  | r :: rs, h => by
    have hr := h r (by simp)
    obtain ⟨h1, h2⟩ := dec_enc hr (encs rs)
    have hne : encs (r :: rs) ≠ [] := by rw [encs_cons]; simp [enc_ne]
    rw [encs_cons] at hne ⊢
    rw [scan_good hne h2, h1]
    simp only [List.drop_left]
    rw [scan_encs rs (fun x hx => h x (by simp [hx]))]
    rfl

theorem scan_spec (n : Nat) : ∀ (l : List UInt8), l.length ≤ n → (∀ p ∈ (scan l).1, isRune p.1 ∧ p.2 = (enc p.1).length) ∧ (∃ t, l = encs ((scan l).1.map (·.1)) ++ t ∧ ((scan l).2 = true → t = []) ∧ ((scan l).2 = false → t ≠ [] ∧ badB (dec t) = true)) := by
  induction n with
  | zero =>
    intro l hl
    obtain rfl : l = [] := by cases l <;> simp_all
    rw [scan_nil]; exact ⟨by simp, [], by simp [encs]⟩
  | succ n ih =>
    intro l hl
    by_cases h : l = []
    · subst h; rw [scan_nil]; exact ⟨by simp, [], by simp [encs]⟩
    by_cases hb : badB (dec l) = true
    · rw [scan_bad h hb]; exact ⟨by simp, l, by simp [encs], by simp, fun _ => ⟨h, hb⟩⟩
    have hb : badB (dec l) = false := by simpa using hb
    obtain ⟨g1, g2⟩ := dec_good h hb
    have w1 := dec_ge1 l
    have w2 := dec_le h
    obtain ⟨i1, t, i2, i3, i4⟩ := ih (l.drop (dec l).2) (by simp; omega)
    rw [scan_good h hb]
    have hw : (dec l).2 = (enc (dec l).1).length := by rw [← g2]; simp; omega
    refine ⟨?_, t, ?_, i3, i4⟩
    · intro p hp
      rcases List.mem_cons.1 hp with rfl | hp
      · exact ⟨g1, hw⟩
      · exact i1 p hp
    · simp only [List.map_cons, encs_cons]
      rw [← g2, List.append_assoc, ← i2]
      exact (List.take_append_drop _ _).symm

/-- The runes of bytes. -/
def runesOf (l : List UInt8) : List Nat := (scan l).1.map (·.1)
theorem runesOf_rune {l : List UInt8} {r : Nat} (h : r ∈ runesOf l) : isRune r := by
  obtain ⟨p, hp, rfl⟩ := List.mem_map.1 h
  exact ((scan_spec l.length l (Nat.le_refl _)).1 p hp).1
/-- Bytes that are a text are their runes' bytes. -/
theorem encs_runesOf {l : List UInt8} (h : (scan l).2 = true) : encs (runesOf l) = l := by
  obtain ⟨_, t, h1, h2, _⟩ := scan_spec l.length l (Nat.le_refl _)
  rw [h2 h] at h1
  exact (h1.trans (List.append_nil _)).symm

theorem encs_len (rs : List Nat) : rs.length ≤ (encs rs).length := by
  induction rs with
  | nil => simp [encs]
  | cons r rs ih =>
    have h : (enc r).length ≠ 0 := by simpa using enc_ne r
    rw [encs_cons, List.length_append, List.length_cons]
    omega
theorem scan_len (l : List UInt8) : (scan l).1.length ≤ l.length := by
  obtain ⟨_, t, h1, _⟩ := scan_spec l.length l (Nat.le_refl _)
  have h := encs_len ((scan l).1.map (·.1))
  rw [List.length_map] at h
  have h2 := congrArg List.length h1
  rw [List.length_append] at h2
  omega
theorem scan_w4 (l : List UInt8) : ∀ p ∈ (scan l).1, p.2 ≤ 4 := by
  intro p hp
  rw [((scan_spec l.length l (Nat.le_refl _)).1 p hp).2]
  have := (encodeRuneZ_length p.1).2
  simpa [enc, encodeRune] using this

/-! ### Halves -/
def hal (r : Nat) : List Nat := if r < 65536 then [r] else [55296 + (r - 65536) / 1024, 56320 + (r - 65536) % 1024]
def hals (rs : List Nat) : List Nat := rs.flatMap hal

theorem get!_getD (s : ByteArray) (i : Nat) : s.get! i = s.data.toList.getD i 0 := by
  simp only [ByteArray.get!, List.getD_eq_getElem?_getD, Array.getElem?_toList]
  cases h : s.data[i]? with
  | none => rw [getElem!_def]; simp [h]; rfl
  | some x => rw [getElem!_def]; simp [h]

/-- What is decoded behind a place is what begins there. -/
theorem decode_dec (s : ByteArray) (k : Nat) : Utf8.decode (s.extract k s.size) 0 = dec (s.data.toList.drop k) := by
  have e1 : (s.extract k s.size).data.toList = s.data.toList.drop k := by
    rw [extract_data, List.take_of_length_le (by rw [List.length_drop, Array.length_toList]; exact Nat.le_refl _)]
  have e : (s.extract k s.size).size = (s.data.toList.drop k).length := by rw [← e1, Array.length_toList]; rfl
  rw [decode_at, e, get!_getD, get!_getD, get!_getD, get!_getD, e1]
  rfl

/-- Where a text breaks off, or its end. -/
def place (l : List UInt8) : Nat := ((scan l).1.map (·.2)).sum

theorem badB_true {p : Nat × Nat} (h : badB p = true) : p.1 = 65533 ∧ p.2 = 1 := by simpa [badB] using h
theorem badB_false {p : Nat × Nat} (h : badB p = false) : p.1 ≠ 65533 ∨ (p.1 = 65533 ∧ p.2 ≠ 1) := by
  simp [badB] at h
  by_cases h1 : p.1 = 65533
  · exact .inr ⟨h1, h h1⟩
  · exact .inl h1

end Go.Proofs.YtedgnlgjmnccgabGreatDoor
