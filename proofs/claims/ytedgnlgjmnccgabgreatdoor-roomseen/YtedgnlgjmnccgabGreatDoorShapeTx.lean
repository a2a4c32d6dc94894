/-
  What a piece of a document is in bytes, and what a text is in a document's form: package shape's functions for the three forms.
-/
import Derived.Test.YtedgnlgjmnccgabGreatDoorShapeP
import Derived.Test.YtedgnlgjmnccgabGreatDoorSl
import Derived.Test.YtedgnlgjmnccgabGreatDoorUtf
import Derived.Test.YtedgnlgjmnccgabGreatDoorHalves
import Derived.Lib.ConvBytes
namespace Go.Proofs.YtedgnlgjmnccgabGreatDoor
open Go.RowKit
set_option linter.unusedVariables false
attribute [local go_sem] Oper.semAt_some

def atV (b : Nat) : Value := .iface 273 (.pointer (some ⟨b, 0, none⟩))
theorem row1 (X : List Nat) : rowZ 1 X = (encs X).map fun b => (b.toNat : Int) := rfl
theorem row2 (X : List Nat) : rowZ 2 X = toI (hals X) := rfl
theorem row3 (X : List Nat) : rowZ 3 X = toI X := rfl
theorem encs_small {X : List Nat} (h : C1 X ≤ 1000000) : (encs X).length ≤ 1000000 ∧ X.length ≤ 1000000 ∧ (hals X).length ≤ 2000000 := by
  have h1 := C1_len X
  have h2 := encs_len X
  have h3 := (hals_len X).1
  omega
theorem text1_good (X : List Nat) (hX : ∀ r ∈ X, isRune r) (hz : C1 X ≤ 1000000) (p : Option Addr) (n c : Nat) (w : World) (hT : Lib.Utf8Tabs 2 3 w) (h : sl w .u8 p n c (rowZ 1 X)) :
    Calls Tryz.prog 94 #[.slice p n c] w fun e w' => e = .returned (.tuple #[.string (bytesOf X), .nilIface]) ∧ Below w.heap.size w w' := by
  have hconv := string_sl (l := encs X) h
  obtain ⟨e1, _, _⟩ := encs_small hz
  have hsc : (scan (encs X)).2 = true := by rw [scan_encs X hX]
  have cC : Hid (Calls Tryz.prog 78 #[.string ⟨(encs X).toArray⟩] w fun e w' => ∃ n1 n2 n3 n4, e = .returned (.tuple #[.agg #[.int .i64 n1, .int .i64 n2, .int .i64 n3, .int .i64 n4], .nilIface]) ∧ Below w.heap.size w w') :=
    (Count_any ⟨(encs X).toArray⟩ (by simp [ByteArray.size]; omega) w hT).mono fun e w' ⟨v, x, h1, h2, h3⟩ => by
      rcases h3 with ⟨_, rfl, rfl⟩ | ⟨h4, _⟩
      · exact ⟨_, _, _, _, h1, h2⟩
      · rw [show (ByteArray.mk (encs X).toArray).data.toList = encs X from rfl, hsc] at h4; cases h4
  have eb : bytesOf X = ⟨(encs X).toArray⟩ := rfl
  rw [eb]
  generalize ByteArray.mk (encs X).toArray = S at *
  clear hT h hX hz hsc e1 eb
  go_enter Tryz.func94, Tryz.ntmps94
  go_wp2_with (first
    | (go_at_call 78; refine Calls.mono cC.out ?_; rintro e w1 ⟨n1, n2, n3, n4, rfl, hb1⟩)
    | fail)
  go_ret2
  exact ⟨rfl, hb1.alloc hb1.size _⟩
theorem take_bytes (R : List Nat) (m : Nat) : (rowZ 1 R).take m = ((encs R).take m).map fun b => (b.toNat : Int) := by rw [row1, List.map_take]
theorem text1_bad (R : List Nat) (m : Nat) (hbad : ∀ X, (∀ r ∈ X, isRune r) → (rowZ 1 R).take m ≠ rowZ 1 X) (hz : C1 R ≤ 1000000) (p : Option Addr) (n c : Nat) (w : World) (hT : Lib.Utf8Tabs 2 3 w) (h : sl w .u8 p n c ((rowZ 1 R).take m)) :
    Calls Tryz.prog 94 #[.slice p n c] w fun e w' => ∃ s bx, e = .returned (.tuple #[.string s, atV bx]) ∧ Below w.heap.size w w' := by
  obtain ⟨L, hL⟩ : ∃ L, (encs R).take m = L := ⟨_, rfl⟩
  have e0 := take_bytes R m
  rw [hL] at e0
  rw [e0] at h hbad
  have hconv := string_sl (l := L) h
  obtain ⟨e1, _, _⟩ := encs_small hz
  have hLl : L.length ≤ 1000000 := by rw [← hL, List.length_take]; omega
  have hsc : (scan L).2 = false := by
    cases e : (scan L).2 with
    | false => rfl
    | true => exact absurd (by rw [row1, encs_runesOf e]) (hbad (runesOf L) fun r hr => runesOf_rune hr)
  have cC : Hid (Calls Tryz.prog 78 #[.string ⟨L.toArray⟩] w fun e w' => ∃ bx, e = .returned (.tuple #[.agg #[.int .i64 0, .int .i64 0, .int .i64 0, .int .i64 0], .iface 273 (.pointer (some ⟨bx, 0, none⟩))]) ∧ Below w.heap.size w w') :=
    (Count_any ⟨L.toArray⟩ (by simp [ByteArray.size]; omega) w hT).mono fun e w' ⟨v, x, h1, h2, h3⟩ => by
      rcases h3 with ⟨h4, _⟩ | ⟨_, rfl, bx, rfl, _⟩
      · rw [show (ByteArray.mk L.toArray).data.toList = L from rfl, hsc] at h4; cases h4
      · exact ⟨bx, h1, h2⟩
  generalize ByteArray.mk L.toArray = S at *
  unfold atV
  clear hT h hbad hz hsc e1 e0 hL hLl
  go_enter Tryz.func94, Tryz.ntmps94
  go_wp2_with (first
    | (go_at_call 78; refine Calls.mono cC.out ?_; rintro e w1 ⟨bx, rfl, hb1⟩)
    | fail)
  go_ret2
  exact ⟨_, _, rfl, hb1.alloc hb1.size _⟩
theorem text2_good (X : List Nat) (hX : ∀ r ∈ X, isRune r) (hz : C1 X ≤ 1000000) (p : Option Addr) (n c : Nat) (w : World) (hT : Lib.Utf8Tabs 2 3 w) (h : sl w .u16 p n c (rowZ 2 X)) :
    Calls Tryz.prog 97 #[.slice p n c] w fun e w' => e = .returned (.tuple #[.string (bytesOf X), .nilIface]) ∧ Below w.heap.size w w' := by
  obtain ⟨_, _, e3⟩ := encs_small hz
  refine (FromHalves_any (.slice p n c) (toI (hals X)) w (hals_bd hX) (sl_reads h) (by simp [toI]; omega)).mono fun e w' ⟨s, x, h1, h2, h3⟩ => ?_
  have hsc := scanH_hals X hX
  rcases h3 with ⟨_, rfl, rfl⟩ | ⟨h4, _⟩
  · rw [hsc] at h1
    have e5 : ((X.map fun r : Nat => ((r : Int), (hal r).length)).map (·.1)) = toI X := by simp [toI, Function.comp_def]
    rw [e5, encZ_toI] at h1
    exact ⟨h1, h2⟩
  · rw [hsc] at h4; cases h4
theorem text2_bad (R : List Nat) (m : Nat) (hR : ∀ r ∈ R, isRune r) (hbad : ∀ X, (∀ r ∈ X, isRune r) → (rowZ 2 R).take m ≠ rowZ 2 X) (hz : C1 R ≤ 1000000) (p : Option Addr) (n c : Nat) (w : World) (hT : Lib.Utf8Tabs 2 3 w) (h : sl w .u16 p n c ((rowZ 2 R).take m)) :
    Calls Tryz.prog 97 #[.slice p n c] w fun e w' => ∃ s bx, e = .returned (.tuple #[.string s, atV bx]) ∧ Below w.heap.size w w' := by
  obtain ⟨_, _, e3⟩ := encs_small hz
  have hb : ∀ z ∈ (rowZ 2 R).take m, 0 ≤ z ∧ z < 65536 := fun z hz => hals_bd hR z (List.mem_of_mem_take hz)
  have hl : ((rowZ 2 R).take m).length ≤ 2000000 := by
    rw [List.length_take, row2]
    have : (toI (hals R)).length = (hals R).length := by simp [toI]
    omega
  refine (FromHalves_any (.slice p n c) ((rowZ 2 R).take m) w hb (sl_reads h) (by omega)).mono fun e w' ⟨s, x, h1, h2, h3⟩ => ?_
  rcases h3 with ⟨h4, _, _⟩ | ⟨_, _, bx, rfl, _⟩
  · obtain ⟨rs, _, r2, r3⟩ := hals_scanH _ _ (Nat.le_refl _) hb h4
    exact absurd r3 (hbad rs r2)
  · exact ⟨s, bx, h1, h2⟩
theorem text3_good (X : List Nat) (hX : ∀ r ∈ X, isRune r) (hz : C1 X ≤ 1000000) (p : Option Addr) (n c : Nat) (w : World) (hT : Lib.Utf8Tabs 2 3 w) (h : sl w .i32 p n c (rowZ 3 X)) :
    Calls Tryz.prog 101 #[.slice p n c] w fun e w' => e = .returned (.tuple #[.string (bytesOf X), .nilIface]) ∧ Below w.heap.size w w' := by
  obtain ⟨_, e2, _⟩ := encs_small hz
  refine (Text_any (.slice p n c) (toI X) w (toI_bd hX) (sl_reads h) (by simp [toI]; omega)).mono fun e w' ⟨s, x, h1, h2, h3⟩ => ?_
  rcases h3 with ⟨_, rfl, rfl⟩ | ⟨k, k1, _, k3, _⟩
  · rw [encZ_toI] at h1
    exact ⟨h1, h2⟩
  · have := valid_toI hX ((toI X).getD k 0) (by rw [List.getD_eq_getElem?_getD, List.getElem?_eq_getElem k1]; exact List.getElem_mem _)
    rw [this] at k3; cases k3
theorem text3_bad (R : List Nat) (m : Nat) (hR : ∀ r ∈ R, isRune r) (hbad : ∀ X, (∀ r ∈ X, isRune r) → (rowZ 3 R).take m ≠ rowZ 3 X) : False :=
  hbad (R.take m) (fun r hr => hR r (List.mem_of_mem_take hr)) (by rw [row3, row3]; simp [toI, List.map_take])

theorem bytes_below (w : World) (e : TypeId) (s : ByteArray) : Below w.heap.size w (Lib.bytesWorld w e s) :=
  ⟨rfl, rfl, rfl, by rw [Lib.bytesWorld_size]; omega, fun k hk => Lib.bytesWorld_at_old w e s k hk⟩
theorem put1_any (U : List UInt8) (hU : (scan U).2 = true) (hl : U.length ≤ 1000000) (w : World) :
    Calls Tryz.prog 95 #[.string ⟨U.toArray⟩] w fun e w' => ∃ p n c, e = .returned (.slice p n c) ∧ sl w' .u8 p n c (rowZ 1 (runesOf U)) ∧ Below w.heap.size w w' := by
  have hconv := Lib.run_convert_string_bytes (P := Tryz.prog) w 9 158 5 ⟨U.toArray⟩ (u := .string) Tryz.underlying9 Tryz.underlying158 Tryz.underlying5
  have hz : (ByteArray.mk U.toArray).size = U.length := by simp [ByteArray.size]
  have hsl : sl (Lib.bytesWorld w 5 ⟨U.toArray⟩) .u8 (some ⟨w.heap.size, 0, none⟩) (ByteArray.mk U.toArray).size (grownCap w (ByteArray.mk U.toArray).size 0 5) (rowZ 1 (runesOf U)) := by
    rw [row1, encs_runesOf hU]
    refine ⟨by rw [hz, List.length_map], .inr ⟨w.heap.size, 0, rfl, ?_, ?_, ?_, fun i z hi => ?_⟩⟩
    · rw [List.length_map, ← hz]; exact grownCap_ge _ _ _ _
    · exact grownCap_le_maxLen _ _ _ _ (by rw [hz]; unfold maxLen; omega)
    · rw [Lib.bytesWorld_size]; omega
    · have hil : i < U.length := by have := (List.getElem?_eq_some_iff.1 hi).1; rwa [List.length_map] at this
      rw [Nat.zero_add, Lib.bytesWorld_cell _ _ _ _ (by rw [hz]; exact hil)]
      rw [List.getElem?_map, List.getElem?_eq_getElem hil] at hi
      have := Option.some.inj hi
      rw [← this, List.getD_eq_getElem?_getD]
      simp [hil]
  have hbl := bytes_below w 5 ⟨U.toArray⟩
  have HSL : Hid _ := hsl
  have HBL : Hid _ := hbl
  generalize Lib.bytesWorld w 5 ⟨U.toArray⟩ = W at *
  clear hsl hbl
  go_enter Tryz.func95, Tryz.ntmps95
  go_wp2
  go_ret
  exact ⟨_, _, _, rfl, HSL.out, HBL.out⟩
theorem put2_any (U : List UInt8) (hU : (scan U).2 = true) (hl : U.length ≤ 1000000) (w : World) (hT : Lib.Utf8Tabs 2 3 w) :
    Calls Tryz.prog 98 #[.string ⟨U.toArray⟩] w fun e w' => ∃ p n c, e = .returned (.slice p n c) ∧ sl w' .u16 p n c (rowZ 2 (runesOf U)) ∧ Below w.heap.size w w' := by
  have cC : Hid (Calls Tryz.prog 99 #[.string ⟨U.toArray⟩] w fun e w' => ∃ p n c, e = .returned (.tuple #[.slice p n c, .nilIface]) ∧ sl w' .u16 p n c (rowZ 2 (runesOf U)) ∧ Below w.heap.size w w') :=
    (Halves_any ⟨U.toArray⟩ (by simp [ByteArray.size]; omega) w hT).mono fun e w' ⟨v, x, h1, h2, h3⟩ => by
      rcases h3 with ⟨_, rfl, p, c, h4, h5⟩ | ⟨h4, _⟩
      · have e0 : (ByteArray.mk U.toArray).data.toList = U := rfl
        have e1 := cells59_eq U
        rw [e0] at h4 h5
        have hlen : (cellsOf59 (scan U).1).length = (rowZ 2 (runesOf U)).length := by rw [e1, row2, List.length_map]
        rw [hlen] at h4 h5
        obtain ⟨p', c', q1, q2⟩ := sl_own e1 h5
        exact ⟨p', _, c', by rw [h1, q1], q2, h2⟩
      · rw [show (ByteArray.mk U.toArray).data.toList = U from rfl, hU] at h4; cases h4
  clear hT hU hl
  go_enter Tryz.func98, Tryz.ntmps98
  go_wp2_with (first
    | (go_at_call 99; refine Calls.mono cC.out ?_; rintro e w1 ⟨p, n, c, rfl, hs1, hb1⟩; have HS1 : Hid _ := hs1; clear hs1)
    | fail)
  go_ret
  exact ⟨_, _, _, rfl, HS1.out, hb1⟩
theorem put3_any (U : List UInt8) (hU : (scan U).2 = true) (hl : U.length ≤ 1000000) (w : World) (hT : Lib.Utf8Tabs 2 3 w) :
    Calls Tryz.prog 102 #[.string ⟨U.toArray⟩] w fun e w' => ∃ p n c, e = .returned (.slice p n c) ∧ sl w' .i32 p n c (rowZ 3 (runesOf U)) ∧ Below w.heap.size w w' := by
  have cC : Hid (Calls Tryz.prog 103 #[.string ⟨U.toArray⟩] w fun e w' => ∃ p n c, e = .returned (.tuple #[.slice p n c, .nilIface]) ∧ sl w' .i32 p n c (rowZ 3 (runesOf U)) ∧ Below w.heap.size w w') :=
    (Runes_any ⟨U.toArray⟩ (by simp [ByteArray.size]; omega) w hT).mono fun e w' ⟨v, x, h1, h2, h3⟩ => by
      rcases h3 with ⟨_, rfl, p, c, h4, h5⟩ | ⟨h4, _⟩
      · have e0 : (ByteArray.mk U.toArray).data.toList = U := rfl
        have e1 := cells21_eq U
        rw [e0] at h4 h5
        have hlen : (cellsOf21 (scan U).1).length = (rowZ 3 (runesOf U)).length := by rw [e1, row3, List.length_map]
        rw [hlen] at h4 h5
        obtain ⟨p', c', q1, q2⟩ := sl_own e1 h5
        exact ⟨p', _, c', by rw [h1, q1], q2, h2⟩
      · rw [show (ByteArray.mk U.toArray).data.toList = U from rfl, hU] at h4; cases h4
  clear hT hU hl
  go_enter Tryz.func102, Tryz.ntmps102
  go_wp2_with (first
    | (go_at_call 103; refine Calls.mono cC.out ?_; rintro e w1 ⟨p, n, c, rfl, hs1, hb1⟩; have HS1 : Hid _ := hs1; clear hs1)
    | fail)
  go_ret
  exact ⟨_, _, _, rfl, HS1.out, hb1⟩
end Go.Proofs.YtedgnlgjmnccgabGreatDoor
