/-
  rosettakeep.UtfBack: three forms, one text: the law's own walk, by whether the text, the runes, the halves are sound.
-/
import Derived.Test.YtiokdpjoinbcaaaDoorBackOne
import Derived.Deep.RegionWith
namespace Go.Proofs.YtiokdpjoinbcaaaDoor
open Go.RowKit
set_option linter.unusedVariables false

set_option maxRecDepth 100000 in
set_option maxHeartbeats 4000000 in
theorem back_tft (s : ByteArray) (v1 v2 : Value) (zl : List Int) (rh : List Nat) (w : World) (hT : Lib.Utf8Tabs 1 2 w) (hs : s.size ≤ 500)
    (ok : (scan s.data.toList).2 = true) (hzl : ∀ z ∈ zl, -2147483648 ≤ z ∧ z ≤ 2147483647) (hvl : ¬ ∀ z ∈ zl, Lib.validRune z = true) (hrl : reads w .i32 v1 zl) (hl : zl.length ≤ 200) (hvh : ∀ r ∈ rh, isRune r) (hrh : reads w .u16 v2 (toI (hals rh))) (hh : (toI (hals rh)).length ≤ 200) :
    Calls Tryd.prog 5 #[.string s, v1, v2] w fun e w' => e = .returned (.bool true) ∧ Below w.heap.size w w' := by
  have cRead := fun (wx : World) (hb : Below w.heap.size w wx) => read_any wx (Go.Proofs.Utf8Tabs_below hT hb)
  have cR := fun (wx : World) (hb : Below w.heap.size w wx) => Runes_good s (by omega) wx (Go.Proofs.Utf8Tabs_below hT hb) ok
  have cH := fun (wx : World) (hb : Below w.heap.size w wx) => Halves_good s (by omega) wx (Go.Proofs.Utf8Tabs_below hT hb) ok
  have cC := fun (wx : World) (hb : Below w.heap.size w wx) => Count_good s (by omega) wx (Go.Proofs.Utf8Tabs_below hT hb) ok
  have hlen : (runesOf s.data.toList).length ≤ 500 := by have := runesOf_len s.data.toList; rw [← Lib.size_eq] at this; omega
  have hrs : ∀ r ∈ runesOf s.data.toList, isRune r := fun r hr => runesOf_rune hr
  have hhl : (hals (runesOf s.data.toList)).length < 100000000 := by have := (hals_len (runesOf s.data.toList)).1; omega
  have cT := fun (v : Value) (wy wx : World) (hr : reads wy .i32 v (toI (runesOf s.data.toList))) (hb : Below wy.heap.size wy wx) => Text_good v _ wy wx hrs (by omega) hr hb
  have cF := fun (v : Value) (wy wx : World) (hr : reads wy .u16 v (toI (hals (runesOf s.data.toList)))) (hb : Below wy.heap.size wy wx) => FromHalves_good v _ wy wx hrs hhl hr hb
  rw [text_back s ok] at cT cF
  clear hlen hrs hhl ok
  unfold cnt at cC
  generalize sum1 (scan s.data.toList).1 = k1 at cC
  generalize sum2 (scan s.data.toList).1 = k2 at cC
  generalize sum4 (scan s.data.toList).1 = k4 at cC
  generalize ((scan s.data.toList).1.length : Int) = k3 at cC
  generalize toI (runesOf s.data.toList) = zr at cR cT
  generalize toI (hals (runesOf s.data.toList)) = zk at cH cF
  have cTl := fun (wx : World) (hb : Below w.heap.size w wx) => Text_bad v1 zl w wx hzl (by omega) hrl hb hvl
  clear hzl hvl
  have cFh := fun (wx : World) (hb : Below w.heap.size w wx) => FromHalves_good v2 rh w wx hvh (by unfold toI at hh; rw [List.length_map] at hh; omega) hrh hb
  obtain ⟨sh, hsh⟩ : ∃ sh : ByteArray, sh = ⟨(encs rh).toArray⟩ := ⟨_, rfl⟩
  rw [← hsh] at cFh
  have hscanh : scan sh.data.toList = (wide rh, true) := by rw [hsh]; exact scan_encs rh hvh
  have hroh : runesOf sh.data.toList = rh := by unfold runesOf; rw [hscanh]; exact wide_fst rh
  have hshz : sh.size < 400000000 := by
    have := encZ_len (toI rh)
    rw [encZ_toI] at this
    have h2 := (hals_len rh).2
    have h3 : (toI (hals rh)).length = (hals rh).length := by unfold toI; rw [List.length_map]
    have h4 : (toI rh).length = rh.length := by unfold toI; rw [List.length_map]
    rw [hsh, Lib.size_eq]
    show (encs rh).length < _
    omega
  have cHh := fun (wx : World) (hb : Below w.heap.size w wx) => Halves_good sh hshz wx (Go.Proofs.Utf8Tabs_below hT hb) (by rw [hscanh])
  rw [hroh] at cHh
  clear hsh hscanh hroh hshz hvh
  generalize toI (hals rh) = zh at hrh hh cHh
  have Hrl : Hid (reads w .i32 v1 zl) := hrl
  have Hrh : Hid (reads w .u16 v2 zh) := hrh
  obtain ⟨pl, cl, rfl, q1, q2, q3⟩ := hrl
  obtain ⟨ph, ch, rfl, q4, q5, q6⟩ := hrh
  clear q1 q2 q3 q4 q5 q6 hT
  obtain ⟨nl, hnl⟩ : ∃ nl, nl = zl.length := ⟨_, rfl⟩
  obtain ⟨nh, hnh⟩ : ∃ nh, nh = zh.length := ⟨_, rfl⟩
  have Hnl : Hid (nl = zl.length) := hnl
  have Hnh : Hid (nh = zh.length) := hnh
  rw [← hnl] at hl Hrl cTl
  rw [← hnh] at hh Hrh cFh cHh
  rw [← hnl, ← hnh]
  clear hnl hnh
  have HcRead : Hid _ := cRead
  have HcR : Hid _ := cR
  have HcH : Hid _ := cH
  have HcC : Hid _ := cC
  have HcTl : Hid _ := cTl
  have HcFh : Hid _ := cFh
  have HcT : Hid _ := cT
  have HcF : Hid _ := cF
  have HcHh : Hid _ := cHh
  clear cRead cR cH cC cTl cFh cT cF cHh
  have b1 : ¬ (500 : Int) < (s.size : Int) := by omega
  have b2 : ¬ (200 : Int) < (nl : Int) := by omega
  have b3 : ¬ (200 : Int) < (nh : Int) := by omega
  have b4 : (nl : Int) ≤ 200 := by omega
  have b5 : (nh : Int) ≤ 200 := by omega
  go_enter Tryd.func5, Tryd.ntmps5
  go_wp2_with (first
    | (go_at_call 22; refine (HcRead.out w (Below.refl _ _)).mono ?_; rintro e w0 ⟨rfl, hB0⟩)
    | (go_at_call 7; refine (HcR.out _ hB0).mono ?_; rintro e w1 ⟨pr, cr, rfl, hr1, hb1⟩; have hB1 := hB0.trans (hb1.mono hB0.size); have Hr1 : Hid (reads w1 .i32 _ _) := hr1; clear hr1)
    | (go_at_call 8; refine (HcH.out _ hB1).mono ?_; rintro e w2 ⟨pk, ck, rfl, hk2, hb2⟩; have hB2 := hB1.trans (hb2.mono hB1.size); have Hk2 : Hid (reads w2 .u16 _ _) := hk2; clear hk2)
    | (go_at_call 9; refine (HcC.out _ hB2).mono ?_; rintro e w3 ⟨rfl, hb3⟩; have hB3 := hB2.trans (hb3.mono hB2.size))
    | fail)
  have Hr3 : Hid (reads w3 .i32 _ _) := reads_below (reads_below Hr1.out hb2 (Nat.le_refl _)) hb3 (Nat.le_refl _)
  have Hk3 : Hid (reads w3 .u16 _ _) := reads_below Hk2.out hb3 (Nat.le_refl _)
  clear Hr1 Hk2 hb1 hb2 hb3 hB0 hB1 hB2 HcR HcH HcC HcRead
  go_quiet (fail)
  have hB4 := below_drewN (hB3.alloc hB3.size (.cells #[.int .i64 k1, .int .i64 k2, .int .i64 k3, .int .i64 k4] 36)) nq
  have hb4 := below_drewN ((Below.refl w3.heap.size w3).alloc (Nat.le_refl _) (.cells #[.int .i64 k1, .int .i64 k2, .int .i64 k3, .int .i64 k4] 36)) nq
  go_wp2_with (first
    | (go_at_call_of 19 pr; refine (HcT.out _ w3 _ Hr3.out hb4).mono ?_; rintro e w5 ⟨rfl, hb5⟩; have hB5 := hB4.trans (hb5.mono hB4.size); have hb5' := hb4.trans (hb5.mono hb4.size))
    | (go_at_call_of 21 pk; refine (HcF.out _ w3 _ Hk3.out hb5').mono ?_; rintro e w6 ⟨rfl, hb6⟩; have hB6 := hB5.trans (hb6.mono hB5.size))
    | (go_at_call_of 19 pl; refine (HcTl.out _ hB6).mono ?_; rintro e w8 ⟨x8, rfl, hb8⟩; have hB8 := hB6.trans (hb8.mono hB6.size))
    | (go_at_call_of 21 ph; refine (HcFh.out _ hB8).mono ?_; rintro e w9 ⟨rfl, hb9⟩; have hB9 := hB8.trans (hb9.mono hB8.size))
    | (go_at_call 8; refine (HcHh.out _ hB9).mono ?_; rintro e w10 ⟨py, cy, rfl, hy10, hb10⟩; have hB10 := hB9.trans (hb10.mono hB9.size); have Hy10 : Hid (reads w10 .u16 _ _) := hy10; clear hy10)
    | fail)
  go_loopw [26] (fun i wr => ∃ k : Nat, k ≤ nh ∧ i = .int .i64 k ∧ Below w10.heap.size w10 wr) (fun i _ => nh - (intOf i).toNat)
  case atStart => exact ⟨0, Nat.zero_le _, rfl, Below.refl _ _⟩
  case round =>
    obtain ⟨k, hk, rfl, hwr⟩ := hrel
    by_cases hlt : k < nh
    · have hne : zh ≠ [] := by
        intro e
        have := Hnh.out
        rw [e] at this
        rw [this] at hlt
        exact absurd hlt (Nat.not_lt_zero _)
      obtain ⟨xp, xc, ex1, ex2, ex3, ex4⟩ := Hy10.out
      obtain ⟨ap, ac, ea1, ea2, ea3, ea4⟩ := (reads_below Hrh.out hB10 (Nat.le_refl _))
      cases ex1
      cases ea1
      obtain ⟨xb, xo, rfl, xlt, xcell⟩ := ex4 hne
      obtain ⟨ab, ao, rfl, alt, acell⟩ := ea4 hne
      have hcx := (hwr.cell (p := ⟨xb, xo + k, none⟩) xlt).trans (xcell k (by rw [← Hnh.out]; exact hlt))
      have hca := (hwr.cell (p := ⟨ab, ao + k, none⟩) alt).trans (acell k (by rw [← Hnh.out]; exact hlt))
      generalize zh.getD k 0 = zk at hcx hca
      clear xcell acell ex2 ex3 ea2 ea3 ex4 ea4
      go_wp2
      go_quiet (fail)
      go_wp2
      go_roundw
      case rel => exact ⟨k + 1, by omega, by go_num, below_drewN hwr nq⟩
      case measure => simp [intOf]; omega
    · go_wp2
      go_ret
      exact ⟨rfl, hB10.trans (hwr.mono hB10.size)⟩

set_option maxRecDepth 100000 in
set_option maxHeartbeats 4000000 in
theorem back_tff (s : ByteArray) (v1 v2 : Value) (zl : List Int) (zh : List Int) (w : World) (hT : Lib.Utf8Tabs 1 2 w) (hs : s.size ≤ 500)
    (ok : (scan s.data.toList).2 = true) (hzl : ∀ z ∈ zl, -2147483648 ≤ z ∧ z ≤ 2147483647) (hvl : ¬ ∀ z ∈ zl, Lib.validRune z = true) (hrl : reads w .i32 v1 zl) (hl : zl.length ≤ 200) (hzh : ∀ z ∈ zh, 0 ≤ z ∧ z < 65536) (hvh : (scanH zh).2 = false) (hrh : reads w .u16 v2 zh) (hh : zh.length ≤ 200) :
    Calls Tryd.prog 5 #[.string s, v1, v2] w fun e w' => e = .returned (.bool true) ∧ Below w.heap.size w w' := by
  have cRead := fun (wx : World) (hb : Below w.heap.size w wx) => read_any wx (Go.Proofs.Utf8Tabs_below hT hb)
  have cR := fun (wx : World) (hb : Below w.heap.size w wx) => Runes_good s (by omega) wx (Go.Proofs.Utf8Tabs_below hT hb) ok
  have cH := fun (wx : World) (hb : Below w.heap.size w wx) => Halves_good s (by omega) wx (Go.Proofs.Utf8Tabs_below hT hb) ok
  have cC := fun (wx : World) (hb : Below w.heap.size w wx) => Count_good s (by omega) wx (Go.Proofs.Utf8Tabs_below hT hb) ok
  have hlen : (runesOf s.data.toList).length ≤ 500 := by have := runesOf_len s.data.toList; rw [← Lib.size_eq] at this; omega
  have hrs : ∀ r ∈ runesOf s.data.toList, isRune r := fun r hr => runesOf_rune hr
  have hhl : (hals (runesOf s.data.toList)).length < 100000000 := by have := (hals_len (runesOf s.data.toList)).1; omega
  have cT := fun (v : Value) (wy wx : World) (hr : reads wy .i32 v (toI (runesOf s.data.toList))) (hb : Below wy.heap.size wy wx) => Text_good v _ wy wx hrs (by omega) hr hb
  have cF := fun (v : Value) (wy wx : World) (hr : reads wy .u16 v (toI (hals (runesOf s.data.toList)))) (hb : Below wy.heap.size wy wx) => FromHalves_good v _ wy wx hrs hhl hr hb
  rw [text_back s ok] at cT cF
  clear hlen hrs hhl ok
  unfold cnt at cC
  generalize sum1 (scan s.data.toList).1 = k1 at cC
  generalize sum2 (scan s.data.toList).1 = k2 at cC
  generalize sum4 (scan s.data.toList).1 = k4 at cC
  generalize ((scan s.data.toList).1.length : Int) = k3 at cC
  generalize toI (runesOf s.data.toList) = zr at cR cT
  generalize toI (hals (runesOf s.data.toList)) = zk at cH cF
  have cTl := fun (wx : World) (hb : Below w.heap.size w wx) => Text_bad v1 zl w wx hzl (by omega) hrl hb hvl
  clear hzl hvl
  have cFh := fun (wx : World) (hb : Below w.heap.size w wx) => FromHalves_bad v2 zh w wx hzh (by omega) hrh hb hvh
  clear hzh hvh
  have Hrl : Hid (reads w .i32 v1 zl) := hrl
  have Hrh : Hid (reads w .u16 v2 zh) := hrh
  obtain ⟨pl, cl, rfl, q1, q2, q3⟩ := hrl
  obtain ⟨ph, ch, rfl, q4, q5, q6⟩ := hrh
  clear q1 q2 q3 q4 q5 q6 hT
  obtain ⟨nl, hnl⟩ : ∃ nl, nl = zl.length := ⟨_, rfl⟩
  obtain ⟨nh, hnh⟩ : ∃ nh, nh = zh.length := ⟨_, rfl⟩
  have Hnl : Hid (nl = zl.length) := hnl
  have Hnh : Hid (nh = zh.length) := hnh
  rw [← hnl] at hl Hrl cTl
  rw [← hnh] at hh Hrh cFh
  rw [← hnl, ← hnh]
  clear hnl hnh
  have HcRead : Hid _ := cRead
  have HcR : Hid _ := cR
  have HcH : Hid _ := cH
  have HcC : Hid _ := cC
  have HcTl : Hid _ := cTl
  have HcFh : Hid _ := cFh
  have HcT : Hid _ := cT
  have HcF : Hid _ := cF
  clear cRead cR cH cC cTl cFh cT cF
  have b1 : ¬ (500 : Int) < (s.size : Int) := by omega
  have b2 : ¬ (200 : Int) < (nl : Int) := by omega
  have b3 : ¬ (200 : Int) < (nh : Int) := by omega
  have b4 : (nl : Int) ≤ 200 := by omega
  have b5 : (nh : Int) ≤ 200 := by omega
  go_enter Tryd.func5, Tryd.ntmps5
  go_wp2_with (first
    | (go_at_call 22; refine (HcRead.out w (Below.refl _ _)).mono ?_; rintro e w0 ⟨rfl, hB0⟩)
    | (go_at_call 7; refine (HcR.out _ hB0).mono ?_; rintro e w1 ⟨pr, cr, rfl, hr1, hb1⟩; have hB1 := hB0.trans (hb1.mono hB0.size); have Hr1 : Hid (reads w1 .i32 _ _) := hr1; clear hr1)
    | (go_at_call 8; refine (HcH.out _ hB1).mono ?_; rintro e w2 ⟨pk, ck, rfl, hk2, hb2⟩; have hB2 := hB1.trans (hb2.mono hB1.size); have Hk2 : Hid (reads w2 .u16 _ _) := hk2; clear hk2)
    | (go_at_call 9; refine (HcC.out _ hB2).mono ?_; rintro e w3 ⟨rfl, hb3⟩; have hB3 := hB2.trans (hb3.mono hB2.size))
    | fail)
  have Hr3 : Hid (reads w3 .i32 _ _) := reads_below (reads_below Hr1.out hb2 (Nat.le_refl _)) hb3 (Nat.le_refl _)
  have Hk3 : Hid (reads w3 .u16 _ _) := reads_below Hk2.out hb3 (Nat.le_refl _)
  clear Hr1 Hk2 hb1 hb2 hb3 hB0 hB1 hB2 HcR HcH HcC HcRead
  go_quiet (fail)
  have hB4 := below_drewN (hB3.alloc hB3.size (.cells #[.int .i64 k1, .int .i64 k2, .int .i64 k3, .int .i64 k4] 36)) nq
  have hb4 := below_drewN ((Below.refl w3.heap.size w3).alloc (Nat.le_refl _) (.cells #[.int .i64 k1, .int .i64 k2, .int .i64 k3, .int .i64 k4] 36)) nq
  go_wp2_with (first
    | (go_at_call_of 19 pr; refine (HcT.out _ w3 _ Hr3.out hb4).mono ?_; rintro e w5 ⟨rfl, hb5⟩; have hB5 := hB4.trans (hb5.mono hB4.size); have hb5' := hb4.trans (hb5.mono hb4.size))
    | (go_at_call_of 21 pk; refine (HcF.out _ w3 _ Hk3.out hb5').mono ?_; rintro e w6 ⟨rfl, hb6⟩; have hB6 := hB5.trans (hb6.mono hB5.size))
    | (go_at_call_of 19 pl; refine (HcTl.out _ hB6).mono ?_; rintro e w8 ⟨x8, rfl, hb8⟩; have hB8 := hB6.trans (hb8.mono hB6.size))
    | (go_at_call_of 21 ph; refine (HcFh.out _ hB8).mono ?_; rintro e w9 ⟨x9, rfl, hb9⟩; have hB9 := hB8.trans (hb9.mono hB8.size))
    | fail)
  go_ret
  exact ⟨rfl, hB9⟩

end Go.Proofs.YtiokdpjoinbcaaaDoor
