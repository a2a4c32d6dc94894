/-
  Plain mathematics of UTF-8: bytes as runes and back. No Go in sight.
  utf.wrong and utf.each: a text is walked rune by rune by a closure.
  A captured variable that gathers elements, and the closures of utf that append to one or count.
-/
import Derived.Lib.DecodeN
import Derived.Lib.RuneBytes
import Derived.Lib.Strings
import Derived.Test.YtedonckeomccpaaDoorShelf
import Derived.WalkKit
import Derived.WalkSpells
import Derived.WalkLawsBesides
import Derived.OwnWalk
import Derived.Lib.QuoteBits
namespace Go.Proofs.YtedonckeomccpaaDoor
open Go.Lib

/-- The rune at the beginning of bytes, and how many it takes; (65533, 1): none begins there. -/
def dec (l : List UInt8) : Nat × Nat := decodeN l.length (l.getD 0 0).toNat (l.getD 1 0).toNat (l.getD 2 0).toNat (l.getD 3 0).toNat

theorem decN_ge1 (n b0 b1 b2 b3 : Nat) : 1 ≤ (decodeN n b0 b1 b2 b3).2 := by
  unfold decodeN
  repeat' split
  all_goals simp
theorem decN_le4 (n b0 b1 b2 b3 : Nat) : (decodeN n b0 b1 b2 b3).2 ≤ 4 := by
  unfold decodeN
  repeat' split
  all_goals simp
theorem decN_le (n b0 b1 b2 b3 : Nat) (h : 1 ≤ n) : (decodeN n b0 b1 b2 b3).2 ≤ n := by
  unfold decodeN
  repeat' split
  all_goals simp
  all_goals omega
theorem dec_ge1 (l : List UInt8) : 1 ≤ (dec l).2 := decN_ge1 _ _ _ _ _
theorem dec_le4 (l : List UInt8) : (dec l).2 ≤ 4 := decN_le4 _ _ _ _ _
theorem dec_le {l : List UInt8} (h : l ≠ []) : (dec l).2 ≤ l.length := decN_le _ _ _ _ _ (by cases l <;> simp_all)

/-- No rune begins here. -/
def badB (p : Nat × Nat) : Bool := p.1 == 65533 && p.2 == 1

/-- The runes of bytes, each with its width, up to the first byte at which none begins; and whether that is the end: n: as many at most. -/
def scanF : Nat → List UInt8 → List (Nat × Nat) × Bool
  | 0, _ => ([], true)
  | n + 1, l => if l = [] then ([], true) else if badB (dec l) then ([], false) else (dec l :: (scanF n (l.drop (dec l).2)).1, (scanF n (l.drop (dec l).2)).2)
theorem scanF_any : ∀ (n m : Nat) (l : List UInt8), l.length ≤ n → l.length ≤ m → scanF n l = scanF m l
  | 0, m, l, hn, _ => by
    obtain rfl : l = [] := List.eq_nil_of_length_eq_zero (by omega)
    cases m <;> simp [scanF]
  | n + 1, 0, l, _, hm => by
    obtain rfl : l = [] := List.eq_nil_of_length_eq_zero (by omega)
    simp [scanF]
  | n + 1, m + 1, l, hn, hm => by
    unfold scanF
    by_cases h : l = []
    · simp [h]
    · have h1 := dec_ge1 l
      have h2 : l.length ≠ 0 := by simpa using h
      rw [scanF_any n m (l.drop (dec l).2) (by rw [List.length_drop]; omega) (by rw [List.length_drop]; omega)]
/-- All of them. -/
def scan (l : List UInt8) : List (Nat × Nat) × Bool := scanF l.length l
theorem scan_step (l : List UInt8) (h : l ≠ []) : scan l = if badB (dec l) then ([], false) else (dec l :: (scan (l.drop (dec l).2)).1, (scan (l.drop (dec l).2)).2) := by
  have h1 := dec_ge1 l
  have h2 : l.length ≠ 0 := by simpa using h
  unfold scan
  rw [scanF_any l.length ((l.length - 1) + 1) l (Nat.le_refl _) (by omega), scanF, if_neg h, scanF_any (l.length - 1) (l.drop (dec l).2).length _ (by rw [List.length_drop]; omega) (Nat.le_refl _)]

theorem scan_nil : scan [] = ([], true) := rfl
theorem scan_bad {l : List UInt8} (h : l ≠ []) (hb : badB (dec l) = true) : scan l = ([], false) := by rw [scan_step l h, hb]; rfl
theorem scan_good {l : List UInt8} (h : l ≠ []) (hb : badB (dec l) = false) : scan l = (dec l :: (scan (l.drop (dec l).2)).1, (scan (l.drop (dec l).2)).2) := by
  rw [scan_step l h, hb]; rfl

/-- What a rune is. -/
def isRune (r : Nat) : Prop := r < 55296 ∨ (57344 ≤ r ∧ r ≤ 1114111)

/-- A rune's bytes. -/
def enc (r : Nat) : List UInt8 := encodeRune r
theorem enc1 {r : Nat} (h : r ≤ 127) : enc r = [r.toUInt8] := by
  unfold enc encodeRune; rw [encodeRuneZ_one (by omega) (by omega)]; simp
theorem enc2 {r : Nat} (h0 : 128 ≤ r) (h1 : r ≤ 2047) : enc r = [(192 + r / 64).toUInt8, (128 + r % 64).toUInt8] := by
  unfold enc encodeRune; rw [encodeRuneZ_two (by omega) (by omega)]
  simp only [List.map_cons, List.map_nil]
  rw [show (192 + (r : Int) / 64).toNat = 192 + r / 64 by omega, show (128 + (r : Int) % 64).toNat = 128 + r % 64 by omega]
theorem enc3 {r : Nat} (h : (2048 ≤ r ∧ r < 55296) ∨ (57343 < r ∧ r ≤ 65535)) : enc r = [(224 + r / 4096).toUInt8, (128 + r / 64 % 64).toUInt8, (128 + r % 64).toUInt8] := by
  unfold enc encodeRune; rw [encodeRuneZ_three (by omega)]
  simp only [List.map_cons, List.map_nil]
  rw [show (224 + (r : Int) / 4096).toNat = 224 + r / 4096 by omega, show (128 + (r : Int) / 64 % 64).toNat = 128 + r / 64 % 64 by omega, show (128 + (r : Int) % 64).toNat = 128 + r % 64 by omega]
theorem enc4 {r : Nat} (h0 : 65536 ≤ r) (h1 : r ≤ 1114111) : enc r = [(240 + r / 262144).toUInt8, (128 + r / 4096 % 64).toUInt8, (128 + r / 64 % 64).toUInt8, (128 + r % 64).toUInt8] := by
  unfold enc encodeRune; rw [encodeRuneZ_four (by omega) (by omega)]
  simp only [List.map_cons, List.map_nil]
  rw [show (240 + (r : Int) / 262144).toNat = 240 + r / 262144 by omega, show (128 + (r : Int) / 4096 % 64).toNat = 128 + r / 4096 % 64 by omega, show (128 + (r : Int) / 64 % 64).toNat = 128 + r / 64 % 64 by omega, show (128 + (r : Int) % 64).toNat = 128 + r % 64 by omega]

theorem toU8 {n : Nat} (h : n < 256) : n.toUInt8.toNat = n := by simp [Nat.toUInt8]; omega
theorem u8_eq {n : Nat} {a : UInt8} (h : n = a.toNat) : n.toUInt8 = a := by
  subst h; simp [Nat.toUInt8]

/-- Where a rune begins as it should be, its bytes are just its own. -/
theorem dec_good {l : List UInt8} (h : l ≠ []) (hb : badB (dec l) = false) : isRune (dec l).1 ∧ l.take (dec l).2 = enc (dec l).1 := by
  revert hb
  unfold badB dec isRune
  have z0 : (l.getD 0 0).toNat < 256 := (l.getD 0 0).toNat_lt
  have z1 : (l.getD 1 0).toNat < 256 := (l.getD 1 0).toNat_lt
  have z2 : (l.getD 2 0).toNat < 256 := (l.getD 2 0).toNat_lt
  have z3 : (l.getD 3 0).toNat < 256 := (l.getD 3 0).toNat_lt
  obtain ⟨a, t, rfl⟩ := List.exists_cons_of_ne_nil h
  unfold decodeN
  split
  · intro _
    refine ⟨by simp only [List.getD_cons_zero] at *; omega, ?_⟩
    rw [enc1 (by omega)]
    simp
  split
  · rename_i c
    split
    · intro _
      obtain ⟨c1, c2, c3⟩ := c
      obtain ⟨b, t, rfl⟩ : ∃ b t', t = b :: t' := by cases t with | nil => simp at c2 | cons b t => exact ⟨b, t, rfl⟩
      simp only [List.getD_cons_zero, List.getD_cons_succ] at *
      refine ⟨by omega, ?_⟩
      rw [enc2 (by omega) (by omega)]
      simp only [List.take_succ_cons, List.take_zero]
      rw [u8_eq (a := a) (by omega), u8_eq (a := b) (by omega)]
    · intro hb; simp at hb
  split
  · rename_i c
    split
    · intro _
      obtain ⟨c1, ⟨c2, c3⟩, c4, c5⟩ := c
      obtain ⟨b, t, rfl⟩ : ∃ b t', t = b :: t' := by cases t with | nil => simp at c2 | cons b t => exact ⟨b, t, rfl⟩
      obtain ⟨d, t, rfl⟩ : ∃ b t', t = b :: t' := by cases t with | nil => simp at c4 | cons b t => exact ⟨b, t, rfl⟩
      simp only [List.getD_cons_zero, List.getD_cons_succ] at *
      refine ⟨by omega, ?_⟩
      rw [enc3 (by omega)]
      simp only [List.take_succ_cons, List.take_zero]
      rw [u8_eq (a := a) (by omega), u8_eq (a := b) (by omega), u8_eq (a := d) (by omega)]
    · intro hb; simp at hb
  split
  · rename_i c
    split
    · intro _
      obtain ⟨c1, ⟨c2, c3⟩, ⟨c4, c5⟩, c6, c7⟩ := c
      obtain ⟨b, t, rfl⟩ : ∃ b t', t = b :: t' := by cases t with | nil => simp at c2 | cons b t => exact ⟨b, t, rfl⟩
      obtain ⟨d, t, rfl⟩ : ∃ b t', t = b :: t' := by cases t with | nil => simp at c4 | cons b t => exact ⟨b, t, rfl⟩
      obtain ⟨e, t, rfl⟩ : ∃ b t', t = b :: t' := by cases t with | nil => simp at c6 | cons b t => exact ⟨b, t, rfl⟩
      simp only [List.getD_cons_zero, List.getD_cons_succ] at *
      refine ⟨by omega, ?_⟩
      rw [enc4 (by omega) (by omega)]
      simp only [List.take_succ_cons, List.take_zero]
      rw [u8_eq (a := a) (by omega), u8_eq (a := b) (by omega), u8_eq (a := d) (by omega), u8_eq (a := e) (by omega)]
    · intro hb; simp at hb
  · intro hb; simp at hb

/-- A rune's bytes, whatever stands behind them, are that rune. -/
theorem dec_enc {r : Nat} (hr : isRune r) (t : List UInt8) : dec (enc r ++ t) = (r, (enc r).length) ∧ badB (dec (enc r ++ t)) = false := by
  have key : dec (enc r ++ t) = (r, (enc r).length) ∧ ((enc r).length = 1 → r ≤ 127) := by
    unfold isRune at hr
    by_cases h1 : r ≤ 127
    · rw [enc1 h1]
      simp only [dec, List.cons_append, List.nil_append, List.getD_cons_zero, toU8 (show r < 256 by omega), List.length_cons, List.length_nil]
      exact ⟨by simp [decodeN, show r < 128 by omega], fun _ => h1⟩
    by_cases h2 : r ≤ 2047
    · rw [enc2 (by omega) h2]
      simp only [dec, List.cons_append, List.nil_append, List.getD_cons_zero, List.getD_cons_succ, toU8 (show 192 + r / 64 < 256 by omega), toU8 (show 128 + r % 64 < 256 by omega), List.length_cons, List.length_nil]
      refine ⟨?_, by simp⟩
      unfold decodeN
      rw [if_neg (by omega), if_pos ⟨by omega, by omega, by omega⟩, if_pos (by omega)]
      simp; omega
    by_cases h3 : r ≤ 65535
    · rw [enc3 (by omega)]
      simp only [dec, List.cons_append, List.nil_append, List.getD_cons_zero, List.getD_cons_succ, toU8 (show 224 + r / 4096 < 256 by omega), toU8 (show 128 + r / 64 % 64 < 256 by omega), toU8 (show 128 + r % 64 < 256 by omega), List.length_cons, List.length_nil]
      refine ⟨?_, by simp⟩
      unfold decodeN
      rw [if_neg (by omega), if_neg (by omega), if_pos ⟨by omega, ⟨by omega, by omega⟩, by omega, by omega⟩, if_pos (by omega)]
      simp; omega
    · rw [enc4 (by omega) (by omega)]
      simp only [dec, List.cons_append, List.nil_append, List.getD_cons_zero, List.getD_cons_succ, toU8 (show 240 + r / 262144 < 256 by omega), toU8 (show 128 + r / 4096 % 64 < 256 by omega), toU8 (show 128 + r / 64 % 64 < 256 by omega), toU8 (show 128 + r % 64 < 256 by omega), List.length_cons, List.length_nil]
      refine ⟨?_, by simp⟩
      unfold decodeN
      rw [if_neg (by omega), if_neg (by omega), if_neg (by omega), if_pos ⟨by omega, ⟨by omega, by omega⟩, ⟨by omega, by omega⟩, by omega, by omega⟩, if_pos (by omega)]
      simp; omega
  refine ⟨key.1, ?_⟩
  rw [key.1]
  unfold badB
  by_cases hl : (enc r).length = 1
  · have := key.2 hl; simp; omega
  · simp [hl]

theorem enc_ne (r : Nat) : enc r ≠ [] := by
  have := (encodeRuneZ_length r).1
  intro h
  have h2 := congrArg List.length h
  simp [enc, encodeRune] at h2
  rw [h2] at this; simp at this

/-- Runes, each with its width. -/
def wide (rs : List Nat) : List (Nat × Nat) := rs.map fun r => (r, (enc r).length)

/-- The bytes of runes. -/
def encs (rs : List Nat) : List UInt8 := rs.flatMap enc
theorem encs_cons (r : Nat) (rs : List Nat) : encs (r :: rs) = enc r ++ encs rs := rfl
theorem encs_append (a b : List Nat) : encs (a ++ b) = encs a ++ encs b := by simp [encs]

/-- What runes' bytes are: these runes. -/
theorem scan_encs : ∀ (rs : List Nat), (∀ r ∈ rs, isRune r) → scan (encs rs) = (wide rs, true)
  | [], _ => scan_nil
  | r :: rs, h => by
    have hr := h r (by simp)
    obtain ⟨h1, h2⟩ := dec_enc hr (encs rs)
    have hne : encs (r :: rs) ≠ [] := by rw [encs_cons]; simp [enc_ne]
    rw [encs_cons] at hne ⊢
    rw [scan_good hne h2, h1]
    simp only [List.drop_left]
    rw [scan_encs rs (fun x hx => h x (by simp [hx]))]
    rfl

theorem scan_spec (n : Nat) : ∀ (l : List UInt8), l.length ≤ n → (∀ p ∈ (scan l).1, isRune p.1 ∧ p.2 = (enc p.1).length) ∧ (∃ t, l = encs ((scan l).1.map (·.1)) ++ t ∧ ((scan l).2 = true → t = []) ∧ ((scan l).2 = false → t ≠ [] ∧ badB (dec t) = true)) := by
  induction n with
  | zero =>
    intro l hl
    obtain rfl : l = [] := by cases l <;> simp_all
    rw [scan_nil]; exact ⟨by simp, [], by simp [encs]⟩
  | succ n ih =>
    intro l hl
    by_cases h : l = []
    · subst h; rw [scan_nil]; exact ⟨by simp, [], by simp [encs]⟩
    by_cases hb : badB (dec l) = true
    · rw [scan_bad h hb]; exact ⟨by simp, l, by simp [encs], by simp, fun _ => ⟨h, hb⟩⟩
    have hb : badB (dec l) = false := by simpa using hb
    obtain ⟨g1, g2⟩ := dec_good h hb
    have w1 := dec_ge1 l
    have w2 := dec_le h
    obtain ⟨i1, t, i2, i3, i4⟩ := ih (l.drop (dec l).2) (by simp; omega)
    rw [scan_good h hb]
    have hw : (dec l).2 = (enc (dec l).1).length := by rw [← g2]; simp; omega
    refine ⟨?_, t, ?_, i3, i4⟩
    · intro p hp
      rcases List.mem_cons.1 hp with rfl | hp
      · exact ⟨g1, hw⟩
      · exact i1 p hp
    · simp only [List.map_cons, encs_cons]
      rw [← g2, List.append_assoc, ← i2]
      exact (List.take_append_drop _ _).symm

/-- The runes of bytes. -/
def runesOf (l : List UInt8) : List Nat := (scan l).1.map (·.1)
theorem runesOf_rune {l : List UInt8} {r : Nat} (h : r ∈ runesOf l) : isRune r := by
  obtain ⟨p, hp, rfl⟩ := List.mem_map.1 h
  exact ((scan_spec l.length l (Nat.le_refl _)).1 p hp).1
theorem scan_wide (l : List UInt8) : (scan l).1 = wide (runesOf l) := by
  unfold wide runesOf
  rw [List.map_map]
  have h := (scan_spec l.length l (Nat.le_refl _)).1
  conv => lhs; rw [← List.map_id (scan l).1]
  refine List.map_congr_left fun p hp => ?_
  have := (h p hp).2
  simp [← this]
/-- Bytes that are a text are their runes' bytes. -/
theorem encs_runesOf {l : List UInt8} (h : (scan l).2 = true) : encs (runesOf l) = l := by
  obtain ⟨_, t, h1, h2, _⟩ := scan_spec l.length l (Nat.le_refl _)
  rw [h2 h] at h1
  exact (h1.trans (List.append_nil _)).symm

theorem encs_len (rs : List Nat) : rs.length ≤ (encs rs).length := by
  induction rs with
  | nil => simp [encs]
  | cons r rs ih =>
    have h : (enc r).length ≠ 0 := by simpa using enc_ne r
    rw [encs_cons, List.length_append, List.length_cons]
    omega
theorem scan_len (l : List UInt8) : (scan l).1.length ≤ l.length := by
  obtain ⟨_, t, h1, _⟩ := scan_spec l.length l (Nat.le_refl _)
  have h := encs_len ((scan l).1.map (·.1))
  rw [List.length_map] at h
  have h2 := congrArg List.length h1
  rw [List.length_append] at h2
  omega
theorem scan_w4 (l : List UInt8) : ∀ p ∈ (scan l).1, p.2 ≤ 4 := by
  intro p hp
  rw [((scan_spec l.length l (Nat.le_refl _)).1 p hp).2]
  have := (encodeRuneZ_length p.1).2
  simpa [enc, encodeRune] using this

/-! ### Halves -/
def hal (r : Nat) : List Nat := if r < 65536 then [r] else [55296 + (r - 65536) / 1024, 56320 + (r - 65536) % 1024]
def hals (rs : List Nat) : List Nat := rs.flatMap hal

theorem get!_getD (s : ByteArray) (i : Nat) : s.get! i = s.data.toList.getD i 0 := by
  simp only [ByteArray.get!, List.getD_eq_getElem?_getD, Array.getElem?_toList]
  cases h : s.data[i]? with
  | none => rw [getElem!_def]; simp [h]; rfl
  | some x => rw [getElem!_def]; simp [h]

/-- What is decoded behind a place is what begins there. -/
theorem decode_dec (s : ByteArray) (k : Nat) : Utf8.decode (s.extract k s.size) 0 = dec (s.data.toList.drop k) := by
  have e1 : (s.extract k s.size).data.toList = s.data.toList.drop k := by
    rw [extract_data, List.take_of_length_le (by rw [List.length_drop, Array.length_toList]; exact Nat.le_refl _)]
  have e : (s.extract k s.size).size = (s.data.toList.drop k).length := by rw [← e1, Array.length_toList]; rfl
  rw [decode_at, e, get!_getD, get!_getD, get!_getD, get!_getD, e1]
  rfl

/-- Where a text breaks off, or its end. -/
def place (l : List UInt8) : Nat := ((scan l).1.map (·.2)).sum

theorem badB_true {p : Nat × Nat} (h : badB p = true) : p.1 = 65533 ∧ p.2 = 1 := by simpa [badB] using h
theorem badB_false {p : Nat × Nat} (h : badB p = false) : p.1 ≠ 65533 ∨ (p.1 = 65533 ∧ p.2 ≠ 1) := by
  simp [badB] at h
  by_cases h1 : p.1 = 65533
  · exact .inr ⟨h1, h h1⟩
  · exact .inl h1

end Go.Proofs.YtedonckeomccpaaDoor

namespace Go.Proofs.YtedonckeomccpaaDoor
open Go.RowKit

/-- An error at a place, in memory that is new since w. -/
def isAt (w w' : World) (v : Value) (at_ : Int) : Prop :=
  ∃ b, v = .iface 172 (.pointer (some ⟨b, 0, none⟩)) ∧ w.heap.size ≤ b ∧ b < w'.heap.size ∧ w'.cell? ⟨b, 0, none⟩ = some (.int .i64 3) ∧ w'.cell? ⟨b, 1, none⟩ = some (.int .i64 at_)

set_option maxHeartbeats 400000 in
theorem wrong_any (n : Int) (w : World) :
    Calls Tryd.prog 76 #[.int .i64 n] w fun e w' => (∃ v, e = .returned v ∧ isAt w w' v n) ∧ Below w.heap.size w w' := by
  go_enter Tryd.func76, Tryd.ntmps76
  go_wp2
  go_ret
  refine ⟨⟨_, rfl, w.heap.size, rfl, Nat.le_refl _, by simp, by simp [go_sem], by simp [go_sem]⟩, (Below.refl _ _).alloc (Nat.le_refl _) _⟩

theorem isAt_below {w w' w'' : World} {v : Value} {n : Int} (h : isAt w w' v n) (hb : Below w'.heap.size w' w'') : isAt w w'' v n := by
  obtain ⟨b, rfl, h1, h2, h3, h4⟩ := h
  exact ⟨b, rfl, h1, Nat.lt_of_lt_of_le h2 hb.size, by rw [hb.cell (p := ⟨b, 0, none⟩) h2]; exact h3, by rw [hb.cell (p := ⟨b, 1, none⟩) h2]; exact h4⟩
theorem isAt_from {w0 w w' : World} {v : Value} {n : Int} (h : isAt w w' v n) (hb : w0.heap.size ≤ w.heap.size) : isAt w0 w' v n := by
  obtain ⟨b, rfl, h1, h2⟩ := h
  exact ⟨b, rfl, Nat.le_trans hb h1, h2⟩

/-- What each rune's closure keeps. -/
structure Takes (W : World) (F : Nat) (cap : Array Value) (l : List (Nat × Nat)) (I : List (Nat × Nat) → World → Prop) : Prop where
  enters : ∀ args w, (callFunc F args).run Tryd.prog w = .ok (.enter F args) w
  stays : ∀ done w w', I done w → Below w.heap.size w w' → I done w'
  step : ∀ done p rest, l = done ++ p :: rest → ∀ w, I done w → Below W.heap.size W w →
    Calls Tryd.prog F (#[.int .i32 p.1, .int .i64 p.2] ++ cap) w fun e w' => e = .returned (.bool true) ∧ I (done ++ [p]) w' ∧ Below W.heap.size W w'

set_option maxHeartbeats 1000000 in
theorem each_all (s : ByteArray) (hs : s.size ≤ maxLen) (F : Nat) (cap : Array Value) (W : World) (hT : Lib.Utf8Tabs 0 1 W) (I : List (Nat × Nat) → World → Prop)
    (H : Takes W F cap (scan s.data.toList).1 I) (w : World) (hw : Below W.heap.size W w) (h0 : I [] w) :
    Calls Tryd.prog 63 #[.string s, .func (.func F) #[] cap] w fun e w' => Below W.heap.size W w' ∧ I (scan s.data.toList).1 w' ∧
      (((scan s.data.toList).2 = true ∧ e = .returned .nilIface) ∨ ((scan s.data.toList).2 = false ∧ ∃ v, e = .returned v ∧ isAt W w' v (place s.data.toList))) := by
  unfold maxLen at hs
  have hent := H.enters
  have key : ∀ done k, (scan s.data.toList).1 = done ++ (scan (s.data.toList.drop k)).1 → (done.map (·.2)).sum = k → (scan s.data.toList).2 = (scan (s.data.toList.drop k)).2 →
      (scan (s.data.toList.drop k)).1 = [] → place s.data.toList = k := by
    intro done k h1 h2 _ h4
    unfold place
    rw [h1, h4, List.append_nil, h2]
  go_enter Tryd.func63, Tryd.ntmps63
  go_wp2
  go_loopw [5, 6, 7, 12] (fun at_ _ _ _ wr => ∃ (k : Nat) (done : List (Nat × Nat)), k ≤ s.size ∧ at_ = .int .i64 k ∧ (scan s.data.toList).1 = done ++ (scan (s.data.toList.drop k)).1 ∧ (done.map (·.2)).sum = k ∧
      (scan s.data.toList).2 = (scan (s.data.toList.drop k)).2 ∧ I done wr ∧ Below W.heap.size W wr) (fun at_ _ _ _ _ => s.size - (intOf at_).toNat)
  case atStart => exact ⟨0, [], Nat.zero_le _, rfl, by rw [List.drop_zero]; rfl, rfl, by rw [List.drop_zero], h0, hw⟩
  case round =>
    obtain ⟨k, done, hk, rfl, hd1, hd2, hd3, hI, hwr⟩ := hrel
    have hTr := Go.Proofs.Utf8Tabs_below hT hwr
    by_cases hlt : k < s.size
    · have hne : s.data.toList.drop k ≠ [] := by
        intro e
        have := congrArg List.length e
        rw [List.length_drop, List.length_nil, ← Lib.size_eq] at this
        omega
      have hdec : Lib.decodeGo (s.extract k s.size) = dec (s.data.toList.drop k) := by
        unfold Lib.decodeGo
        rw [if_neg (by rw [ByteArray.size_extract]; omega), decode_dec]
      have hge := dec_ge1 (s.data.toList.drop k)
      have hle := dec_le hne
      have hle4 := dec_le4 (s.data.toList.drop k)
      have cD := Tryd.utf8_DecodeRuneInString (s.extract k s.size) wr hTr
      rw [hdec] at cD
      by_cases hb : badB (dec (s.data.toList.drop k)) = true
      · have hs2 := scan_bad hne hb
        have hpl : Hid (place s.data.toList = k) := key done k hd1 hd2 hd3 (by rw [hs2])
        have hf : (scan s.data.toList).2 = false := by rw [hd3, hs2]
        have hfin : Hid (I (scan s.data.toList).1 wr) := by show I _ wr; rw [hd1, hs2, List.append_nil]; exact hI
        have hb' : (dec (s.data.toList.drop k)).1 = 65533 ∧ (dec (s.data.toList.drop k)).2 = 1 := badB_true hb
        rw [hb'.1, hb'.2] at cD
        clear hdec hge hle hle4 hb hb' hd1 hd2 hd3 hs2 hne key hI
        go_wp2_with (first | (go_at_call 112; refine cD.mono ?_; rintro e w1 ⟨rfl, hb1⟩) | (go_at_call 76; refine (wrong_any _ _).mono ?_; rintro e w2 ⟨⟨v, rfl, hv⟩, hb2⟩) | fail)
        go_ret
        have hb12 : Below wr.heap.size wr w2 := hb1.trans (hb2.mono hb1.size)
        refine ⟨hwr.trans (hb12.mono hwr.size), H.stays _ _ _ hfin hb12, .inr ⟨hf, v, rfl, ?_⟩⟩
        rw [hpl]
        exact isAt_from hv (Nat.le_trans hwr.size hb1.size)
      · have hb : badB (dec (s.data.toList.drop k)) = false := Bool.eq_false_iff.2 hb
        have hs2 := scan_good hne hb
        have hl : (scan s.data.toList).1 = done ++ dec (s.data.toList.drop k) :: (scan ((s.data.toList.drop k).drop (dec (s.data.toList.drop k)).2)).1 := by rw [hd1, hs2]
        have hl' : (scan s.data.toList).2 = (scan ((s.data.toList.drop k).drop (dec (s.data.toList.drop k)).2)).2 := by rw [hd3, hs2]
        rw [List.drop_drop] at hl hl'
        rw [List.length_drop, ← Lib.size_eq] at hle
        have hstep := H.step done _ _ hl
        obtain ⟨R, hR⟩ : ∃ R, R = (dec (s.data.toList.drop k)).1 := ⟨_, rfl⟩
        obtain ⟨K, hK⟩ : ∃ K, K = (dec (s.data.toList.drop k)).2 := ⟨_, rfl⟩
        have hp : dec (s.data.toList.drop k) = (R, K) := by rw [hR, hK]
        rw [hp] at cD hb hge hle hle4 hl hl' hstep
        have hnext : Hid ((scan s.data.toList).1 = done ++ [(R, K)] ++ (scan (s.data.toList.drop (k + K))).1) := by
          show _ = _
          rw [hl, List.append_assoc]; rfl
        have hnext2 : Hid (((done ++ [(R, K)]).map (·.2)).sum = k + K) := by
          show _ = _
          rw [List.map_append, List.sum_append, hd2]; rfl
        have hnext3 : Hid ((scan s.data.toList).2 = (scan (s.data.toList.drop (k + K))).2) := hl'
        simp only [] at hge hle
        clear hdec hd1 hd2 hd3 hs2 hne key hle4 hl hl' hR hK hp
        have hbF := badB_false hb
        clear hb
        rcases hbF with hr | ⟨hr, hr2⟩
        · have hr0 : ((R : Int) == 65533) = false := by
            rw [beq_eq_false_iff_ne]
            intro e
            exact hr (by omega)
          clear hr
          go_wp2_with (first | (go_at_call 112; refine cD.mono ?_; rintro e w1 ⟨rfl, hb1⟩) | (go_at_fn F; refine (hstep w1 (H.stays _ _ _ hI hb1) (hwr.trans (hb1.mono hwr.size))).mono ?_; rintro e w2 ⟨rfl, hI2, hb2⟩) | fail)
          go_roundw
          case rel => exact ⟨k + K, done ++ [(R, K)], by omega, by go_num, hnext, hnext2, hnext3, hI2, hb2⟩
          case measure => simp [intOf]; omega
        · have hr0 : ((K : Int) == 1) = false := by
            rw [beq_eq_false_iff_ne]
            intro e
            exact hr2 (by omega)
          subst hr
          clear hr2
          go_wp2_with (first | (go_at_call 112; refine cD.mono ?_; rintro e w1 ⟨rfl, hb1⟩) | (go_at_fn F; refine (hstep w1 (H.stays _ _ _ hI hb1) (hwr.trans (hb1.mono hwr.size))).mono ?_; rintro e w2 ⟨rfl, hI2, hb2⟩) | fail)
          go_roundw
          case rel => exact ⟨k + K, done ++ [(65533, K)], by omega, by go_num, hnext, hnext2, hnext3, hI2, hb2⟩
          case measure => simp [intOf]; omega
    · have hend : s.data.toList.drop k = [] := List.drop_eq_nil_of_le (by rw [← Lib.size_eq]; omega)
      rw [hend, scan_nil] at hd1 hd3
      rw [List.append_nil] at hd1
      have hfin : Hid (I (scan s.data.toList).1 wr) := by show I _ wr; rw [hd1]; exact hI
      clear hd1 hend key hTr
      go_wp2
      go_ret
      refine ⟨hwr, hfin, ?_⟩
      first | exact rfl | exact .inl ⟨hd3, rfl⟩
end Go.Proofs.YtedonckeomccpaaDoor

namespace Go.Proofs.YtedonckeomccpaaDoor
open Go.RowKit

theorem own_below {w w' : World} {B e size n : Nat} {v : Value} {xs : List Value} (h : w.ownsRow B e size v n xs) (hb : Below w.heap.size w w') : w'.ownsRow B e size v n xs := by
  refine ⟨h.1, ?_⟩
  rcases h.2 with hn | ⟨g, cap, cur, rfl, hg, hgg, rest⟩
  · exact .inl hn
  · exact .inr ⟨g, cap, cur, rfl, hg, by rw [hb.block g (Array.getElem?_eq_some_iff.1 hgg).1]; exact hgg, rest⟩
theorem own_slice {w : World} {B e size n : Nat} {v : Value} {xs : List Value} (h : w.ownsRow B e size v n xs) : ∃ p c, v = .slice p n c := by
  rcases h.2 with ⟨rfl, rfl⟩ | ⟨g, cap, cur, rfl, _⟩
  · exact ⟨_, _, rfl⟩
  · exact ⟨_, _, rfl⟩

/-- The variable in block a holds a slice that owns the cells xs, in rows from block a + 1 on. -/
def gathers (w : World) (e a : Nat) (xs : List Value) : Prop :=
  ∃ p c, w.cell? ⟨a, 0, none⟩ = some (.slice p xs.length c) ∧ w.frozen? ⟨a, 0, none⟩ = false ∧ w.ownsRow (a + 1) e 1 (.slice p xs.length c) xs.length xs

theorem gathers_lt {w : World} {e a : Nat} {xs : List Value} (h : gathers w e a xs) : a < w.heap.size := by
  obtain ⟨p, c, h1, _⟩ := h
  exact World.block_lt_of_cell? w _ h1
theorem gathers_below {w w' : World} {e a : Nat} {xs : List Value} (h : gathers w e a xs) (hb : Below w.heap.size w w') : gathers w' e a xs := by
  have hlt := gathers_lt h
  obtain ⟨p, c, h1, h2, h3⟩ := h
  exact ⟨p, c, by rw [hb.cell (p := ⟨a, 0, none⟩) hlt]; exact h1, by rw [hb.frozen (p := ⟨a, 0, none⟩) hlt]; exact h2, own_below h3 hb⟩

theorem gathers_made (w : World) (e T : Nat) : gathers (w.alloc (.cells #[.slice none 0 0] T)) e w.heap.size [] :=
  ⟨none, 0, by simp [go_sem], by simp [go_sem], World.ownsRow_nil _ _ _ _⟩

/-- Behind an append and the store of what it gave. -/
theorem gathers_next {w w1 : World} {e a : Nat} {xs ys : List Value} {p : Option Addr} {c : Nat} {o : Obj} {v' : Value} (hlt : a < w.heap.size) (h2 : w.frozen? ⟨a, 0, none⟩ = false) (hc : w.cell? ⟨a, 0, none⟩ = some (.slice p xs.length c))
    (hown : w.ownsRow (a + 1) e 1 (.slice p xs.length c) xs.length xs)
    (hown1 : w1.ownsRow (a + 1) e 1 v' (xs.length + ys.length) (xs ++ ys)) (hg : (w.alloc o).grownBy w1 (Value.slice p xs.length c).ownBlock) :
    gathers (w1.setCell ⟨a, 0, none⟩ v') e a (xs ++ ys) ∧ Below a w (w1.setCell ⟨a, 0, none⟩ v') ∧ w1.cell? ⟨a, 0, none⟩ = some (.slice p xs.length c) ∧ w1.frozen? ⟨a, 0, none⟩ = false ∧ w.heap.size ≤ w1.heap.size := by
  have hrow : ∀ k, (Value.slice p xs.length c).ownBlock = some k → a + 1 ≤ k := fun k hk => (hown.lt k hk).1
  have hb1 : Below (a + 1) w w1 := ((Below.refl (a + 1) w).alloc hlt o).grown hg (by rw [World.size_alloc]; omega) hrow
  have hc1 : w1.cell? ⟨a, 0, none⟩ = some (.slice p xs.length c) := by rw [hb1.cell (p := ⟨a, 0, none⟩) (Nat.lt_succ_self a)]; exact hc
  have hf1 : w1.frozen? ⟨a, 0, none⟩ = false := by rw [hb1.frozen (p := ⟨a, 0, none⟩) (Nat.lt_succ_self a)]; exact h2
  obtain ⟨p', c', rfl⟩ := own_slice hown1
  refine ⟨⟨p', c', ?_, ?_, ?_⟩, (hb1.mono (Nat.le_succ a)).setCell (Nat.le_refl _) _, hc1, hf1, hb1.size⟩
  · rw [List.length_append]; exact World.cell?_setCell_same _ _ _ hc1
  · rw [World.frozen?_setCell]; exact hf1
  · rw [List.length_append]; exact ownsRow_setCell_below hown1 (Nat.lt_succ_self a) _

theorem info21 : (Tryd.prog.info? 21).map (fun i => (i.zero, i.size, i.bytes)) = some (some (.int .i32 0), 1, 4) := by kernel_rfl
theorem info59 : (Tryd.prog.info? 59).map (fun i => (i.zero, i.size, i.bytes)) = some (some (.int .u16 0), 1, 2) := by kernel_rfl

set_option maxHeartbeats 400000 in
theorem runes1_any (r n : Int) (a : Nat) (w : World) (xs : List Value) (h : gathers w 21 a xs) (hlen : xs.length < 1000000000) :
    Calls Tryd.prog 64 #[.int .i32 r, .int .i64 n, .pointer (some ⟨a, 0, none⟩)] w fun e w' => e = .returned (.bool true) ∧ gathers w' 21 a (xs ++ [.int .i32 r]) ∧ Below a w w' := by
  obtain ⟨i0, hi, hz0, hz1, hz2⟩ := info_parts info21
  have hlt := gathers_lt h
  obtain ⟨p, c, hc, hf, hown⟩ := h
  go_enter Tryd.func64, Tryd.ntmps64
  go_wp2_with (first
    | (at_builtin; refine wpList_append_own _ rfl _ _ 22 rfl (a + 1) 21 i0 (.int .i32 0) 1 4 Tryd.underlying22 hi hz0 hz1 hz2 rfl (by decide) _ _ _ rfl (hown.alloc _) ⟨w.heap.size, 0, none⟩ 1 1 [.int .i32 r] rfl rfl (cell_one_new _ _ _) (ints_oneCell .i32 [r]) ?c3 ?c4 ?c5 ?_)
    | fail)
  case c3 => unfold maxLen; omega
  case c4 => omega
  case c5 => first | omega | (simp; omega)
  intro v' w1 hown1 hg _
  obtain ⟨R1, R2, R3, R4, R5⟩ := gathers_next (ys := [.int .i32 r]) hlt hf hc hown hown1 hg
  obtain ⟨p', c', hv⟩ := own_slice hown1
  clear hown hown1 hg hc hf
  rw [hv] at R1 R2 ⊢
  go_wp2
  go_ret
  exact ⟨rfl, R1, R2⟩

/-- A rune's halves, as cells. -/
def halCells (r : Nat) : List Value := (hal r).map fun h : Nat => Value.int .u16 (h : Int)

theorem and1023 (r : Int) (h0 : 0 ≤ r) (h1 : r ≤ 1114111) : bits BinOp.and IntKind.i32 r 1023 = r % 1024 := by
  obtain ⟨x, rfl⟩ : ∃ x : Nat, r = x := ⟨r.toNat, by omega⟩
  show IntKind.i32.wrap ((BitVec.ofInt 32 (x : Int) &&& BitVec.ofInt 32 ((1023 : Nat) : Int)).toNat : Int) = _
  have hm : x &&& 1023 = x % 1024 := Nat.and_two_pow_sub_one_eq_mod x 10
  rw [BitVec.toNat_and, ofInt_u32 x (by omega), ofInt_u32 1023 (by omega), hm]
  exact (Lib.wrap_i32_small _ (by omega)).trans (Int.natCast_emod x 1024)

set_option maxHeartbeats 400000 in
theorem appendHalves_one (r : Int) (h0 : 0 ≤ r) (h1 : r < 65536) (B n : Nat) (w : World) (v : Value) (xs : List Value) (hown : w.ownsRow B 59 1 v n xs) (hlen : n < 1000000000) (hB : B ≤ w.heap.size) :
    Calls Tryd.prog 66 #[v, .int .i32 r] w fun e w' => ∃ v' o, e = .returned v' ∧ w'.ownsRow B 59 1 v' (n + 1) (xs ++ [.int .u16 r]) ∧ (w.alloc o).grownBy w' v.ownBlock := by
  obtain ⟨i0, hi, hz0, hz1, hz2⟩ := info_parts info59
  obtain ⟨p, c, rfl⟩ := own_slice hown
  go_enter Tryd.func66, Tryd.ntmps66
  go_wp2_with (first
    | (at_builtin; refine wpList_append_own _ rfl _ _ 32 rfl B 59 i0 (.int .u16 0) 1 2 Tryd.underlying32 hi hz0 hz1 hz2 rfl (by decide) _ _ _ rfl (hown.alloc _) ⟨w.heap.size, 0, none⟩ 1 1 [.int .u16 r] rfl rfl (cell_one_new _ _ _) (ints_oneCell .u16 [r]) ?c3 ?c4 ?c5 ?_)
    | fail)
  case c3 => unfold maxLen; omega
  case c4 => omega
  case c5 => first | omega | (simp; omega)
  intro v' w1 hown1 hg _
  obtain ⟨p', c', hv⟩ := own_slice hown1
  clear hown hi hz0 hz1 hz2
  rw [hv] at hown1 ⊢
  go_wp2
  go_ret
  exact ⟨_, _, rfl, hown1, hg⟩
set_option maxHeartbeats 400000 in
theorem appendHalves_two (r : Int) (h1 : ¬ r < 65536) (h2 : r ≤ 1114111) (B n : Nat) (w : World) (v : Value) (xs : List Value) (hown : w.ownsRow B 59 1 v n xs) (hlen : n < 1000000000) (hB : B ≤ w.heap.size) :
    Calls Tryd.prog 66 #[v, .int .i32 r] w fun e w' => ∃ v' o, e = .returned v' ∧ w'.ownsRow B 59 1 v' (n + 2) (xs ++ [.int .u16 (55296 + (r - 65536) / 1024), .int .u16 (56320 + (r - 65536) % 1024)]) ∧ (w.alloc o).grownBy w' v.ownBlock := by
  obtain ⟨i0, hi, hz0, hz1, hz2⟩ := info_parts info59
  obtain ⟨p, c, rfl⟩ := own_slice hown
  have ha := and1023 (r - 65536) (by omega) (by omega)
  go_enter Tryd.func66, Tryd.ntmps66
  go_wp2_with (first
    | (at_builtin; refine wpList_append_own _ rfl _ _ 32 rfl B 59 i0 (.int .u16 0) 1 2 Tryd.underlying32 hi hz0 hz1 hz2 rfl (by decide) _ _ _ rfl (hown.alloc _) ⟨w.heap.size, 0, none⟩ 2 2 [.int .u16 (55296 + (r - 65536) / 1024), .int .u16 (56320 + (r - 65536) % 1024)] rfl rfl (cell_two_new _ _ _ _) (ints_oneCell .u16 [55296 + (r - 65536) / 1024, 56320 + (r - 65536) % 1024]) ?c3 ?c4 ?c5 ?_)
    | fail)
  case c3 => unfold maxLen; omega
  case c4 => omega
  case c5 => first | omega | (simp; omega)
  intro v' w1 hown1 hg _
  obtain ⟨p', c', hv⟩ := own_slice hown1
  clear hown hi hz0 hz1 hz2
  rw [hv] at hown1 ⊢
  go_wp2
  go_ret
  exact ⟨_, _, rfl, hown1, hg⟩
end Go.Proofs.YtedonckeomccpaaDoor
