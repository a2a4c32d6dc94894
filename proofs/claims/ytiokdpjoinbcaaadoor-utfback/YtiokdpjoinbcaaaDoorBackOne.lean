/-
  The contracts as UtfBack meets them: of a text, of what is none, of runes and halves that came out of one.
-/
import Derived.Test.YtiokdpjoinbcaaaDoorBackPure
namespace Go.Proofs.YtiokdpjoinbcaaaDoor
open Go.RowKit

variable {w : World}

theorem Runes_good (s : ByteArray) (hs : s.size < 400000000) (wx : World) (hT : Lib.Utf8Tabs 1 2 wx) (ok : (scan s.data.toList).2 = true) :
    Calls Tryd.prog 7 #[.string s] wx fun e w' => ∃ p c, e = .returned (.tuple #[.slice p (toI (runesOf s.data.toList)).length c, .nilIface]) ∧ reads w' .i32 (.slice p (toI (runesOf s.data.toList)).length c) (toI (runesOf s.data.toList)) ∧ Below wx.heap.size wx w' := by
  refine (Runes_any s hs wx hT).mono ?_
  rintro e w' ⟨v, x, rfl, hb, ⟨_, rfl, p, c, rfl, hown⟩ | ⟨hf, _⟩⟩
  · have e : (cellsOf21 (scan s.data.toList).1).length = (toI (runesOf s.data.toList)).length := by rw [cells21_eq, List.length_map]
    rw [e] at hown ⊢
    exact ⟨p, c, rfl, reads_own (cells21_eq _) hown, hb⟩
  · rw [ok] at hf; cases hf
theorem Runes_bad (s : ByteArray) (hs : s.size < 400000000) (wx : World) (hT : Lib.Utf8Tabs 1 2 wx) (ok : (scan s.data.toList).2 = false) :
    Calls Tryd.prog 7 #[.string s] wx fun e w' => ∃ b, e = .returned (.tuple #[.slice none 0 0, .iface 83 (.pointer (some ⟨b, 0, none⟩))]) ∧ Below wx.heap.size wx w' := by
  refine (Runes_any s hs wx hT).mono ?_
  rintro e w' ⟨v, x, rfl, hb, ⟨hf, _⟩ | ⟨_, rfl, b, rfl, _⟩⟩
  · rw [ok] at hf; cases hf
  · exact ⟨b, rfl, hb⟩
theorem Halves_good (s : ByteArray) (hs : s.size < 400000000) (wx : World) (hT : Lib.Utf8Tabs 1 2 wx) (ok : (scan s.data.toList).2 = true) :
    Calls Tryd.prog 8 #[.string s] wx fun e w' => ∃ p c, e = .returned (.tuple #[.slice p (toI (hals (runesOf s.data.toList))).length c, .nilIface]) ∧ reads w' .u16 (.slice p (toI (hals (runesOf s.data.toList))).length c) (toI (hals (runesOf s.data.toList))) ∧ Below wx.heap.size wx w' := by
  refine (Halves_any s hs wx hT).mono ?_
  rintro e w' ⟨v, x, rfl, hb, ⟨_, rfl, p, c, rfl, hown⟩ | ⟨hf, _⟩⟩
  · have e : (cellsOf59 (scan s.data.toList).1).length = (toI (hals (runesOf s.data.toList))).length := by rw [cells59_eq, List.length_map]
    rw [e] at hown ⊢
    exact ⟨p, c, rfl, reads_own (cells59_eq _) hown, hb⟩
  · rw [ok] at hf; cases hf
theorem Halves_bad (s : ByteArray) (hs : s.size < 400000000) (wx : World) (hT : Lib.Utf8Tabs 1 2 wx) (ok : (scan s.data.toList).2 = false) :
    Calls Tryd.prog 8 #[.string s] wx fun e w' => ∃ b, e = .returned (.tuple #[.slice none 0 0, .iface 83 (.pointer (some ⟨b, 0, none⟩))]) ∧ Below wx.heap.size wx w' := by
  refine (Halves_any s hs wx hT).mono ?_
  rintro e w' ⟨v, x, rfl, hb, ⟨hf, _⟩ | ⟨_, rfl, b, rfl, _⟩⟩
  · rw [ok] at hf; cases hf
  · exact ⟨b, rfl, hb⟩
theorem Count_good (s : ByteArray) (hs : s.size < 400000000) (wx : World) (hT : Lib.Utf8Tabs 1 2 wx) (ok : (scan s.data.toList).2 = true) :
    Calls Tryd.prog 9 #[.string s] wx fun e w' => e = .returned (.tuple #[cnt (sum1 (scan s.data.toList).1) (sum2 (scan s.data.toList).1) (scan s.data.toList).1.length (sum4 (scan s.data.toList).1), .nilIface]) ∧ Below wx.heap.size wx w' := by
  refine (Count_any s hs wx hT).mono ?_
  rintro e w' ⟨v, x, rfl, hb, ⟨_, rfl, rfl⟩ | ⟨hf, _⟩⟩
  · exact ⟨rfl, hb⟩
  · rw [ok] at hf; cases hf
theorem Count_bad (s : ByteArray) (hs : s.size < 400000000) (wx : World) (hT : Lib.Utf8Tabs 1 2 wx) (ok : (scan s.data.toList).2 = false) :
    Calls Tryd.prog 9 #[.string s] wx fun e w' => ∃ b, e = .returned (.tuple #[cnt 0 0 0 0, .iface 83 (.pointer (some ⟨b, 0, none⟩))]) ∧ Below wx.heap.size wx w' := by
  refine (Count_any s hs wx hT).mono ?_
  rintro e w' ⟨v, x, rfl, hb, ⟨hf, _⟩ | ⟨_, rfl, b, rfl, _⟩⟩
  · rw [ok] at hf; cases hf
  · exact ⟨b, rfl, hb⟩

/-- utf.Text of runes. -/
theorem Text_good (v : Value) (rs : List Nat) (wy wx : World) (hv : ∀ r ∈ rs, isRune r) (hl : rs.length < 100000000) (hr : reads wy .i32 v (toI rs)) (hb : Below wy.heap.size wy wx) :
    Calls Tryd.prog 19 #[v] wx fun e w' => e = .returned (.tuple #[.string ⟨(encs rs).toArray⟩, .nilIface]) ∧ Below wx.heap.size wx w' := by
  refine (Text_any v (toI rs) wx (toI_bd hv) (reads_below hr hb (Nat.le_refl _)) (by unfold toI; rw [List.length_map]; exact hl)).mono ?_
  rintro e w' ⟨s, x, rfl, hb', ⟨_, rfl, rfl⟩ | ⟨k, hk, _, hbad, _⟩⟩
  · rw [encZ_toI]; exact ⟨rfl, hb'⟩
  · have := valid_toI hv ((toI rs).getD k 0) (by rw [List.getD_eq_getElem?_getD, List.getElem?_eq_getElem hk]; exact List.getElem_mem _)
    rw [this] at hbad; cases hbad
theorem Text_bad (v : Value) (zs : List Int) (wy wx : World) (hz : ∀ z ∈ zs, -2147483648 ≤ z ∧ z ≤ 2147483647) (hl : zs.length < 100000000) (hr : reads wy .i32 v zs) (hb : Below wy.heap.size wy wx) (hbad : ¬ ∀ z ∈ zs, Lib.validRune z = true) :
    Calls Tryd.prog 19 #[v] wx fun e w' => ∃ b, e = .returned (.tuple #[.string ⟨#[]⟩, .iface 83 (.pointer (some ⟨b, 0, none⟩))]) ∧ Below wx.heap.size wx w' := by
  refine (Text_any v zs wx hz (reads_below hr hb (Nat.le_refl _)) hl).mono ?_
  rintro e w' ⟨s, x, rfl, hb', ⟨h, _⟩ | ⟨k, hk, _, _, rfl, b, rfl, _⟩⟩
  · exact absurd h hbad
  · exact ⟨b, rfl, hb'⟩
theorem FromHalves_good (v : Value) (rs : List Nat) (wy wx : World) (hv : ∀ r ∈ rs, isRune r) (hl : (hals rs).length < 100000000) (hr : reads wy .u16 v (toI (hals rs))) (hb : Below wy.heap.size wy wx) :
    Calls Tryd.prog 21 #[v] wx fun e w' => e = .returned (.tuple #[.string ⟨(encs rs).toArray⟩, .nilIface]) ∧ Below wx.heap.size wx w' := by
  refine (FromHalves_any v (toI (hals rs)) wx (hals_bd hv) (reads_below hr hb (Nat.le_refl _)) (by unfold toI; rw [List.length_map]; exact hl)).mono ?_
  rintro e w' ⟨s, x, rfl, hb', ⟨_, rfl, rfl⟩ | ⟨hf, _⟩⟩
  · rw [scanH_hals rs hv]
    simp only [List.map_map]
    have e : (List.map ((fun x => x.1) ∘ fun r : Nat => ((r : Int), (hal r).length)) rs) = toI rs := rfl
    rw [e, encZ_toI]
    exact ⟨rfl, hb'⟩
  · rw [scanH_hals rs hv] at hf; cases hf
theorem FromHalves_bad (v : Value) (zs : List Int) (wy wx : World) (hz : ∀ z ∈ zs, 0 ≤ z ∧ z < 65536) (hl : zs.length < 100000000) (hr : reads wy .u16 v zs) (hb : Below wy.heap.size wy wx) (hbad : (scanH zs).2 = false) :
    Calls Tryd.prog 21 #[v] wx fun e w' => ∃ b, e = .returned (.tuple #[.string ⟨#[]⟩, .iface 83 (.pointer (some ⟨b, 0, none⟩))]) ∧ Below wx.heap.size wx w' := by
  refine (FromHalves_any v zs wx hz (reads_below hr hb (Nat.le_refl _)) hl).mono ?_
  rintro e w' ⟨s, x, rfl, hb', ⟨hf, _⟩ | ⟨_, rfl, b, rfl, _⟩⟩
  · rw [hbad] at hf; cases hf
  · exact ⟨b, rfl, hb'⟩

theorem back_bytes (l : List UInt8) : (⟨l.toArray⟩ : ByteArray).data.toList = l := rfl
theorem text_back (s : ByteArray) (ok : (scan s.data.toList).2 = true) : (⟨(encs (runesOf s.data.toList)).toArray⟩ : ByteArray) = s := by
  rw [encs_runesOf ok]

theorem wide_fst (rs : List Nat) : (wide rs).map (·.1) = rs := by
  unfold wide
  rw [List.map_map]
  exact List.map_id rs

/-- The fact: a rune of four bytes, two halves. -/
theorem scan_read : scan [97, 240, 159, 152, 128, 10] = (wide [97, 128512, 10], true) := by
  have h : ∀ r ∈ [97, 128512, 10], isRune r := by
    intro r hr
    simp at hr
    unfold isRune
    omega
  have e : encs [97, 128512, 10] = [97, 240, 159, 152, 128, 10] := by decide
  rw [← e]
  exact scan_encs _ h

set_option maxHeartbeats 400000 in
theorem read_any (w : World) (hT : Lib.Utf8Tabs 1 2 w) :
    Calls Tryd.prog 22 #[] w fun e w' => e = .returned (.bool true) ∧ Below w.heap.size w w' := by
  have cC := Count_good ⟨#[97, 240, 159, 152, 128, 10]⟩ (by decide) w hT (by show (scan [97, 240, 159, 152, 128, 10]).2 = true; rw [scan_read])
  have e : scan (⟨#[97, 240, 159, 152, 128, 10]⟩ : ByteArray).data.toList = (wide [97, 128512, 10], true) := scan_read
  rw [e] at cC
  have e1 : sum1 (wide [97, 128512, 10]) = 6 := by decide
  have e2 : sum2 (wide [97, 128512, 10]) = 4 := by decide
  have e3 : ((wide [97, 128512, 10]).length : Int) = 3 := by decide
  have e4 : sum4 (wide [97, 128512, 10]) = 1 := by decide
  simp only [e1, e2, e3, e4] at cC
  clear e e1 e2 e3 e4
  unfold cnt at cC
  go_enter Tryd.func22, Tryd.ntmps22
  go_wp2_with (first | (go_at_call 9; refine cC.mono ?_; rintro e w1 ⟨rfl, hb1⟩) | fail)
  go_ret
  exact ⟨rfl, hb1.alloc hb1.size _⟩
end Go.Proofs.YtiokdpjoinbcaaaDoor
