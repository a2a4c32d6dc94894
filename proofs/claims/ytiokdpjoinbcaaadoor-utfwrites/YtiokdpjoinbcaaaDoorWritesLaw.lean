/-
  rosettalaw.UtfWrites: the law's own walk, by whether the runes, and the halves, are sound.
-/
import Derived.Test.YtiokdpjoinbcaaaDoorRefText
import Derived.Test.YtiokdpjoinbcaaaDoorErrTell
namespace Go.Proofs.YtiokdpjoinbcaaaDoor
open Go.RowKit
set_option linter.unusedVariables false

theorem carry {w w' : World} {b o : Nat} {v : Value} (hb : Below w.heap.size w w') (h : w.cell? ⟨b, o, none⟩ = some v) : w'.cell? ⟨b, o, none⟩ = some v :=
  (hb.cell (p := ⟨b, o, none⟩) (World.block_lt_of_cell? w _ h)).trans h

/-- Which is the first that is none. -/
theorem first_bad {zs : List Int} {j k : Nat} (hj : j < zs.length) (hk : k < zs.length) (h1 : ∀ z ∈ zs.take j, Lib.validRune z = true) (h2 : Lib.validRune (zs.getD j 0) = false) (h3 : ∀ z ∈ zs.take k, Lib.validRune z = true) (h4 : Lib.validRune (zs.getD k 0) = false) : j = k := by
  have key : ∀ (a b : Nat), a < zs.length → (∀ z ∈ zs.take b, Lib.validRune z = true) → Lib.validRune (zs.getD a 0) = false → ¬ a < b := by
    intro a b ha hb hv hlt
    have hm : zs.getD a 0 ∈ zs.take b := by
      rw [List.getD_eq_getElem?_getD, List.getElem?_eq_getElem ha]
      exact List.mem_take_iff_getElem.2 ⟨a, by omega, rfl⟩
    rw [hb _ hm] at hv
    cases hv
  have h5 := key j k hj h3 h2
  have h6 := key k j hk h1 h4
  omega

theorem exists_bad {zs : List Int} (h : ¬ ∀ z ∈ zs, Lib.validRune z = true) : ∃ k, k < zs.length ∧ (∀ z ∈ zs.take k, Lib.validRune z = true) ∧ Lib.validRune (zs.getD k 0) = false := by
  induction zs with
  | nil => exact absurd (by simp) h
  | cons z zs ih =>
    by_cases hv : Lib.validRune z = true
    · obtain ⟨k, h1, h2, h3⟩ := ih fun c => h fun y hy => by
        rcases List.mem_cons.1 hy with rfl | hy
        · exact hv
        · exact c y hy
      refine ⟨k + 1, by simpa using h1, fun y hy => ?_, by simpa using h3⟩
      rw [List.take_succ_cons] at hy
      rcases List.mem_cons.1 hy with rfl | hy
      · exact hv
      · exact h2 y hy
    · exact ⟨0, by simp, by simp, by simpa using hv⟩

section
variable (v : Value) (zs : List Int) (w wx : World) (hb : Below w.heap.size w wx)
include hb
theorem wText_good (hz : ∀ z ∈ zs, -2147483648 ≤ z ∧ z ≤ 2147483647) (hr : reads w .i32 v zs) (hl : zs.length < 100000000) (ok : ∀ z ∈ zs, Lib.validRune z = true) :
    Calls Tryd.prog 18 #[v] wx (fun e w' => e = .returned (.tuple #[.string ⟨(encZ zs).toArray⟩, .agg #[.int .i64 0, .int .i64 (-1)]]) ∧ Below wx.heap.size wx w') ∧
    Calls Tryd.prog 19 #[v] wx (fun e w' => e = .returned (.tuple #[.string ⟨(encZ zs).toArray⟩, .nilIface]) ∧ Below wx.heap.size wx w') := by
  have hr' := reads_below hr hb (Nat.le_refl _)
  have no : ∀ k : Nat, k < zs.length → Lib.validRune (zs.getD k 0) = false → False := by
    intro k hk hbad
    have := ok _ (show zs.getD k 0 ∈ zs by rw [List.getD_eq_getElem?_getD, List.getElem?_eq_getElem hk]; exact List.getElem_mem _)
    rw [this] at hbad
    cases hbad
  constructor
  · refine (refText_any v zs wx hz hr' hl).mono ?_
    rintro e w1 ⟨hb1, ⟨_, rfl⟩ | ⟨k, hk, _, hbad, rfl⟩⟩
    · exact ⟨rfl, hb1⟩
    · exact (no k hk hbad).elim
  · refine (Text_any v zs wx hz hr' hl).mono ?_
    rintro e w1 ⟨s, x, rfl, hb1, ⟨_, rfl, rfl⟩ | ⟨k, hk, _, hbad, _⟩⟩
    · exact ⟨rfl, hb1⟩
    · exact (no k hk hbad).elim
theorem wText_bad (k : Nat) (hz : ∀ z ∈ zs, -2147483648 ≤ z ∧ z ≤ 2147483647) (hr : reads w .i32 v zs) (hl : zs.length < 100000000) (hk : k < zs.length) (h1 : ∀ z ∈ zs.take k, Lib.validRune z = true) (h2 : Lib.validRune (zs.getD k 0) = false) :
    Calls Tryd.prog 18 #[v] wx (fun e w' => e = .returned (.tuple #[.string ⟨#[]⟩, .agg #[.int .i64 3, .int .i64 k]]) ∧ Below wx.heap.size wx w') ∧
    Calls Tryd.prog 19 #[v] wx (fun e w' => ∃ x, e = .returned (.tuple #[.string ⟨#[]⟩, x]) ∧ isAt wx w' x k ∧ Below wx.heap.size wx w') := by
  have hr' := reads_below hr hb (Nat.le_refl _)
  have no : ¬ ∀ z ∈ zs, Lib.validRune z = true := fun c => by
    have := c _ (show zs.getD k 0 ∈ zs by rw [List.getD_eq_getElem?_getD, List.getElem?_eq_getElem hk]; exact List.getElem_mem _)
    rw [this] at h2
    cases h2
  constructor
  · refine (refText_any v zs wx hz hr' hl).mono ?_
    rintro e w1 ⟨hb1, ⟨h, _⟩ | ⟨j, hj, h3, h4, rfl⟩⟩
    · exact absurd h no
    · rw [first_bad hj hk h3 h4 h1 h2]; exact ⟨rfl, hb1⟩
  · refine (Text_any v zs wx hz hr' hl).mono ?_
    rintro e w1 ⟨s, x, rfl, hb1, ⟨h, _⟩ | ⟨j, hj, h3, h4, rfl, hx⟩⟩
    · exact absurd h no
    · rw [first_bad hj hk h3 h4 h1 h2] at hx; exact ⟨x, rfl, hx, hb1⟩
theorem wHalves_good (hz : ∀ z ∈ zs, 0 ≤ z ∧ z < 65536) (hr : reads w .u16 v zs) (hl : zs.length < 100000000) (ok : (scanH zs).2 = true) :
    Calls Tryd.prog 20 #[v] wx (fun e w' => e = .returned (.tuple #[.string ⟨(encZ ((scanH zs).1.map (·.1))).toArray⟩, .agg #[.int .i64 0, .int .i64 (-1)]]) ∧ Below wx.heap.size wx w') ∧
    Calls Tryd.prog 21 #[v] wx (fun e w' => e = .returned (.tuple #[.string ⟨(encZ ((scanH zs).1.map (·.1))).toArray⟩, .nilIface]) ∧ Below wx.heap.size wx w') := by
  have hr' := reads_below hr hb (Nat.le_refl _)
  constructor
  · refine (refFromHalves_any v zs wx hz hr' hl).mono ?_
    rintro e w1 ⟨hb1, ⟨_, rfl⟩ | ⟨hf, _⟩⟩
    · exact ⟨rfl, hb1⟩
    · rw [ok] at hf; cases hf
  · refine (FromHalves_any v zs wx hz hr' hl).mono ?_
    rintro e w1 ⟨s, x, rfl, hb1, ⟨_, rfl, rfl⟩ | ⟨hf, _⟩⟩
    · exact ⟨rfl, hb1⟩
    · rw [ok] at hf; cases hf
theorem wHalves_bad (hz : ∀ z ∈ zs, 0 ≤ z ∧ z < 65536) (hr : reads w .u16 v zs) (hl : zs.length < 100000000) (ok : (scanH zs).2 = false) :
    Calls Tryd.prog 20 #[v] wx (fun e w' => e = .returned (.tuple #[.string ⟨#[]⟩, .agg #[.int .i64 3, .int .i64 (placeH zs)]]) ∧ Below wx.heap.size wx w') ∧
    Calls Tryd.prog 21 #[v] wx (fun e w' => ∃ x, e = .returned (.tuple #[.string ⟨#[]⟩, x]) ∧ isAt wx w' x (placeH zs) ∧ Below wx.heap.size wx w') := by
  have hr' := reads_below hr hb (Nat.le_refl _)
  constructor
  · refine (refFromHalves_any v zs wx hz hr' hl).mono ?_
    rintro e w1 ⟨hb1, ⟨hf, _⟩ | ⟨_, rfl⟩⟩
    · rw [ok] at hf; cases hf
    · exact ⟨rfl, hb1⟩
  · refine (FromHalves_any v zs wx hz hr' hl).mono ?_
    rintro e w1 ⟨s, x, rfl, hb1, ⟨hf, _⟩ | ⟨_, rfl, hx⟩⟩
    · rw [ok] at hf; cases hf
    · exact ⟨x, rfl, hx, hb1⟩
end

set_option maxRecDepth 100000 in
set_option maxHeartbeats 4000000 in
theorem writes_ff (v1 v2 : Value) (zl zh : List Int) (w : World) (hg : asLaid w) (hzl : ∀ z ∈ zl, -2147483648 ≤ z ∧ z ≤ 2147483647) (hrl : reads w .i32 v1 zl) (hl : zl.length ≤ 300) (hzh : ∀ z ∈ zh, 0 ≤ z ∧ z < 65536) (hrh : reads w .u16 v2 zh) (hh : zh.length ≤ 300)
    (k : Nat) (hk : k < zl.length) (hk1 : ∀ z ∈ zl.take k, Lib.validRune z = true) (hk2 : Lib.validRune (zl.getD k 0) = false) (okh : (scanH zh).2 = false) :
    Calls Tryd.prog 4 #[v1, v2] w fun e w' => e = .returned (.bool true) ∧ Below w.heap.size w w' := by
  have cL := fun (wx : World) (hb : Below w.heap.size w wx) => wText_bad v1 zl w wx hb k hzl hrl (by omega) hk hk1 hk2
  have cH := fun (wx : World) (hb : Below w.heap.size w wx) => wHalves_bad v2 zh w wx hb hzh hrh (by omega) okh
  generalize ((k : Nat) : Int) = P1 at cL
  generalize ((placeH zh : Nat) : Int) = P2 at cH
  have HcL : Hid _ := cL
  have HcH : Hid _ := cH
  have HG : Hid (asLaid w) := hg
  have hgg := fun (wx : World) (hb : Below w.heap.size w wx) => asLaid_below hg hb
  have HGG : Hid _ := hgg
  obtain ⟨pl, cl, rfl, q1, q2, q3⟩ := hrl
  obtain ⟨ph, ch, rfl, q4, q5, q6⟩ := hrh
  clear q1 q2 q3 q4 q5 q6 hg hgg cL cH hzl hzh okh hk1 hk2 hk
  obtain ⟨nl, hnl⟩ : ∃ nl, nl = zl.length := ⟨_, rfl⟩
  obtain ⟨nh, hnh⟩ : ∃ nh, nh = zh.length := ⟨_, rfl⟩
  rw [← hnl] at hl HcL ⊢
  rw [← hnh] at hh HcH ⊢
  clear hnl hnh
  have b2 : ¬ (300 : Int) < (nl : Int) := by omega
  have b3 : ¬ (300 : Int) < (nh : Int) := by omega
  go_enter Tryd.func4, Tryd.ntmps4
  go_wp2_with (first
    | (go_at_call 18; refine (HcL.out w (Below.refl _ _)).1.mono ?_; rintro e w1 ⟨rfl, hb1⟩)
    | (go_at_call 19; refine (HcL.out _ (hb1.alloc hb1.size _)).2.mono ?_; rintro e w2 ⟨x, rfl, ⟨xb, rfl, x1, x2, x3, x4⟩, hb2⟩; have hB2 : Below w.heap.size w w2 := (hb1.alloc hb1.size _).trans (hb2.mono (by rw [World.size_alloc]; exact Nat.le_succ_of_le hb1.size)); have f20 := carry (b := w1.heap.size) (o := 0) (v := .int .i64 3) hb2 (by simp [go_sem]); have f21 := carry (b := w1.heap.size) (o := 1) (v := .int .i64 P1) hb2 (by simp [go_sem]))
    | (go_at_call 20; refine (HcH.out _ hB2).1.mono ?_; rintro e w3 ⟨rfl, hb3⟩; have hB3 := hB2.trans (hb3.mono hB2.size); have f30 := carry hb3 f20; have f31 := carry hb3 f21; have x33 := carry hb3 x3; have x34 := carry hb3 x4)
    | (go_at_call 21; refine (HcH.out _ (hB3.alloc hB3.size _)).2.mono ?_; rintro e w4 ⟨y, rfl, ⟨yb, rfl, y1, y2, y3, y4⟩, hb4⟩; have hB4 : Below w.heap.size w w4 := (hB3.alloc hB3.size _).trans (hb4.mono (by rw [World.size_alloc]; exact Nat.le_succ_of_le hB3.size)); have hb34 : Below w3.heap.size w3 w4 := ((Below.refl _ w3).alloc (Nat.le_refl _) _).trans (hb4.mono (by rw [World.size_alloc]; exact Nat.le_succ _)); have f40 := carry hb34 f30; have f41 := carry hb34 f31; have g40 := carry (b := w3.heap.size) (o := 0) (v := .int .i64 3) hb4 (by simp [go_sem]); have g41 := carry (b := w3.heap.size) (o := 1) (v := .int .i64 P2) hb4 (by simp [go_sem]); have x43 := carry hb34 x33; have x44 := carry hb34 x34)
    | fail)
  refine (is_any_place xb 3 P1 w4 (HGG.out _ hB4) x43 x44).mono ?_
  rintro e w5 ⟨rfl, hb5⟩
  have hB5 := hB4.trans (hb5.mono hB4.size)
  have g50 := carry hb5 g40
  have g51 := carry hb5 g41
  have y53 := carry hb5 y3
  have y54 := carry hb5 y4
  clear f40 f41
  go_wp2_with (first | (go_at_call 11; refine (is_any_place yb 3 P2 w5 (HGG.out _ hB5) y53 y54).mono ?_; rintro e w6 ⟨rfl, hb6⟩) | fail)
  go_ret
  exact ⟨rfl, hB5.trans (hb6.mono hB5.size)⟩

set_option maxRecDepth 100000 in
set_option maxHeartbeats 4000000 in
theorem writes_ft (v1 v2 : Value) (zl zh : List Int) (w : World) (hg : asLaid w) (hzl : ∀ z ∈ zl, -2147483648 ≤ z ∧ z ≤ 2147483647) (hrl : reads w .i32 v1 zl) (hl : zl.length ≤ 300) (hzh : ∀ z ∈ zh, 0 ≤ z ∧ z < 65536) (hrh : reads w .u16 v2 zh) (hh : zh.length ≤ 300)
    (k : Nat) (hk : k < zl.length) (hk1 : ∀ z ∈ zl.take k, Lib.validRune z = true) (hk2 : Lib.validRune (zl.getD k 0) = false) (okh : (scanH zh).2 = true) :
    Calls Tryd.prog 4 #[v1, v2] w fun e w' => e = .returned (.bool true) ∧ Below w.heap.size w w' := by
  have cL := fun (wx : World) (hb : Below w.heap.size w wx) => wText_bad v1 zl w wx hb k hzl hrl (by omega) hk hk1 hk2
  have cH := fun (wx : World) (hb : Below w.heap.size w wx) => wHalves_good v2 zh w wx hb hzh hrh (by omega) okh
  generalize ((k : Nat) : Int) = P1 at cL
  generalize (⟨(encZ ((scanH zh).1.map (·.1))).toArray⟩ : ByteArray) = S2 at cH
  have HcL : Hid _ := cL
  have HcH : Hid _ := cH
  have HG : Hid (asLaid w) := hg
  have hgg := fun (wx : World) (hb : Below w.heap.size w wx) => asLaid_below hg hb
  have HGG : Hid _ := hgg
  obtain ⟨pl, cl, rfl, q1, q2, q3⟩ := hrl
  obtain ⟨ph, ch, rfl, q4, q5, q6⟩ := hrh
  clear q1 q2 q3 q4 q5 q6 hg hgg cL cH hzl hzh okh hk1 hk2 hk
  obtain ⟨nl, hnl⟩ : ∃ nl, nl = zl.length := ⟨_, rfl⟩
  obtain ⟨nh, hnh⟩ : ∃ nh, nh = zh.length := ⟨_, rfl⟩
  rw [← hnl] at hl HcL ⊢
  rw [← hnh] at hh HcH ⊢
  clear hnl hnh
  have b2 : ¬ (300 : Int) < (nl : Int) := by omega
  have b3 : ¬ (300 : Int) < (nh : Int) := by omega
  go_enter Tryd.func4, Tryd.ntmps4
  go_wp2_with (first
    | (go_at_call 18; refine (HcL.out w (Below.refl _ _)).1.mono ?_; rintro e w1 ⟨rfl, hb1⟩)
    | (go_at_call 19; refine (HcL.out _ (hb1.alloc hb1.size _)).2.mono ?_; rintro e w2 ⟨x, rfl, ⟨xb, rfl, x1, x2, x3, x4⟩, hb2⟩; have hB2 : Below w.heap.size w w2 := (hb1.alloc hb1.size _).trans (hb2.mono (by rw [World.size_alloc]; exact Nat.le_succ_of_le hb1.size)); have f20 := carry (b := w1.heap.size) (o := 0) (v := .int .i64 3) hb2 (by simp [go_sem]); have f21 := carry (b := w1.heap.size) (o := 1) (v := .int .i64 P1) hb2 (by simp [go_sem]))
    | (go_at_call 20; refine (HcH.out _ hB2).1.mono ?_; rintro e w3 ⟨rfl, hb3⟩; have hB3 := hB2.trans (hb3.mono hB2.size); have f30 := carry hb3 f20; have f31 := carry hb3 f21; have x33 := carry hb3 x3; have x34 := carry hb3 x4)
    | (go_at_call 21; refine (HcH.out _ (hB3.alloc hB3.size _)).2.mono ?_; rintro e w4 ⟨rfl, hb4⟩; have hB4 : Below w.heap.size w w4 := (hB3.alloc hB3.size _).trans (hb4.mono (by rw [World.size_alloc]; exact Nat.le_succ_of_le hB3.size)); have hb34 : Below w3.heap.size w3 w4 := ((Below.refl _ w3).alloc (Nat.le_refl _) _).trans (hb4.mono (by rw [World.size_alloc]; exact Nat.le_succ _)); have f40 := carry hb34 f30; have f41 := carry hb34 f31; have g40 := carry (b := w3.heap.size) (o := 0) (v := .int .i64 0) hb4 (by simp [go_sem]); have g41 := carry (b := w3.heap.size) (o := 1) (v := .int .i64 (-1)) hb4 (by simp [go_sem]); have x43 := carry hb34 x33; have x44 := carry hb34 x34)
    | fail)
  refine (is_any_place xb 3 P1 w4 (HGG.out _ hB4) x43 x44).mono ?_
  rintro e w5 ⟨rfl, hb5⟩
  have hB5 := hB4.trans (hb5.mono hB4.size)
  have g50 := carry hb5 g40
  have g51 := carry hb5 g41
  clear f40 f41
  go_wp2_with (first | (go_at_call 11; refine (is_any_nil _).mono ?_; rintro e w6 ⟨rfl, hb6⟩) | fail)
  go_ret
  exact ⟨rfl, hB5.trans (hb6.mono hB5.size)⟩

set_option maxRecDepth 100000 in
set_option maxHeartbeats 4000000 in
theorem writes_tf (v1 v2 : Value) (zl zh : List Int) (w : World) (hg : asLaid w) (hzl : ∀ z ∈ zl, -2147483648 ≤ z ∧ z ≤ 2147483647) (hrl : reads w .i32 v1 zl) (hl : zl.length ≤ 300) (hzh : ∀ z ∈ zh, 0 ≤ z ∧ z < 65536) (hrh : reads w .u16 v2 zh) (hh : zh.length ≤ 300)
    (okl : ∀ z ∈ zl, Lib.validRune z = true) (okh : (scanH zh).2 = false) :
    Calls Tryd.prog 4 #[v1, v2] w fun e w' => e = .returned (.bool true) ∧ Below w.heap.size w w' := by
  have cL := fun (wx : World) (hb : Below w.heap.size w wx) => wText_good v1 zl w wx hb hzl hrl (by omega) okl
  have cH := fun (wx : World) (hb : Below w.heap.size w wx) => wHalves_bad v2 zh w wx hb hzh hrh (by omega) okh
  generalize (⟨(encZ zl).toArray⟩ : ByteArray) = S1 at cL
  generalize ((placeH zh : Nat) : Int) = P2 at cH
  have HcL : Hid _ := cL
  have HcH : Hid _ := cH
  have HG : Hid (asLaid w) := hg
  have hgg := fun (wx : World) (hb : Below w.heap.size w wx) => asLaid_below hg hb
  have HGG : Hid _ := hgg
  obtain ⟨pl, cl, rfl, q1, q2, q3⟩ := hrl
  obtain ⟨ph, ch, rfl, q4, q5, q6⟩ := hrh
  clear q1 q2 q3 q4 q5 q6 hg hgg cL cH hzl hzh okh okl
  obtain ⟨nl, hnl⟩ : ∃ nl, nl = zl.length := ⟨_, rfl⟩
  obtain ⟨nh, hnh⟩ : ∃ nh, nh = zh.length := ⟨_, rfl⟩
  rw [← hnl] at hl HcL ⊢
  rw [← hnh] at hh HcH ⊢
  clear hnl hnh
  have b2 : ¬ (300 : Int) < (nl : Int) := by omega
  have b3 : ¬ (300 : Int) < (nh : Int) := by omega
  go_enter Tryd.func4, Tryd.ntmps4
  go_wp2_with (first
    | (go_at_call 18; refine (HcL.out w (Below.refl _ _)).1.mono ?_; rintro e w1 ⟨rfl, hb1⟩)
    | (go_at_call 19; refine (HcL.out _ (hb1.alloc hb1.size _)).2.mono ?_; rintro e w2 ⟨rfl, hb2⟩; have hB2 : Below w.heap.size w w2 := (hb1.alloc hb1.size _).trans (hb2.mono (by rw [World.size_alloc]; exact Nat.le_succ_of_le hb1.size)); have f20 := carry (b := w1.heap.size) (o := 0) (v := .int .i64 0) hb2 (by simp [go_sem]); have f21 := carry (b := w1.heap.size) (o := 1) (v := .int .i64 (-1)) hb2 (by simp [go_sem]))
    | (go_at_call 20; refine (HcH.out _ hB2).1.mono ?_; rintro e w3 ⟨rfl, hb3⟩; have hB3 := hB2.trans (hb3.mono hB2.size); have f30 := carry hb3 f20; have f31 := carry hb3 f21)
    | (go_at_call 21; refine (HcH.out _ (hB3.alloc hB3.size _)).2.mono ?_; rintro e w4 ⟨y, rfl, ⟨yb, rfl, y1, y2, y3, y4⟩, hb4⟩; have hB4 : Below w.heap.size w w4 := (hB3.alloc hB3.size _).trans (hb4.mono (by rw [World.size_alloc]; exact Nat.le_succ_of_le hB3.size)); have hb34 : Below w3.heap.size w3 w4 := ((Below.refl _ w3).alloc (Nat.le_refl _) _).trans (hb4.mono (by rw [World.size_alloc]; exact Nat.le_succ _)); have f40 := carry hb34 f30; have f41 := carry hb34 f31; have g40 := carry (b := w3.heap.size) (o := 0) (v := .int .i64 3) hb4 (by simp [go_sem]); have g41 := carry (b := w3.heap.size) (o := 1) (v := .int .i64 P2) hb4 (by simp [go_sem]))
    | fail)
  refine (is_any_nil w4).mono ?_
  rintro e w5 ⟨rfl, hb5⟩
  have hB5 := hB4.trans (hb5.mono hB4.size)
  have g50 := carry hb5 g40
  have g51 := carry hb5 g41
  have y53 := carry hb5 y3
  have y54 := carry hb5 y4
  clear f40 f41
  go_wp2_with (first | (go_at_call 11; refine (is_any_place yb 3 P2 w5 (HGG.out _ hB5) y53 y54).mono ?_; rintro e w6 ⟨rfl, hb6⟩) | fail)
  go_ret
  exact ⟨rfl, hB5.trans (hb6.mono hB5.size)⟩

set_option maxRecDepth 100000 in
set_option maxHeartbeats 4000000 in
theorem writes_tt (v1 v2 : Value) (zl zh : List Int) (w : World) (hg : asLaid w) (hzl : ∀ z ∈ zl, -2147483648 ≤ z ∧ z ≤ 2147483647) (hrl : reads w .i32 v1 zl) (hl : zl.length ≤ 300) (hzh : ∀ z ∈ zh, 0 ≤ z ∧ z < 65536) (hrh : reads w .u16 v2 zh) (hh : zh.length ≤ 300)
    (okl : ∀ z ∈ zl, Lib.validRune z = true) (okh : (scanH zh).2 = true) :
    Calls Tryd.prog 4 #[v1, v2] w fun e w' => e = .returned (.bool true) ∧ Below w.heap.size w w' := by
  have cL := fun (wx : World) (hb : Below w.heap.size w wx) => wText_good v1 zl w wx hb hzl hrl (by omega) okl
  have cH := fun (wx : World) (hb : Below w.heap.size w wx) => wHalves_good v2 zh w wx hb hzh hrh (by omega) okh
  generalize (⟨(encZ zl).toArray⟩ : ByteArray) = S1 at cL
  generalize (⟨(encZ ((scanH zh).1.map (·.1))).toArray⟩ : ByteArray) = S2 at cH
  have HcL : Hid _ := cL
  have HcH : Hid _ := cH
  have HG : Hid (asLaid w) := hg
  have hgg := fun (wx : World) (hb : Below w.heap.size w wx) => asLaid_below hg hb
  have HGG : Hid _ := hgg
  obtain ⟨pl, cl, rfl, q1, q2, q3⟩ := hrl
  obtain ⟨ph, ch, rfl, q4, q5, q6⟩ := hrh
  clear q1 q2 q3 q4 q5 q6 hg hgg cL cH hzl hzh okh okl
  obtain ⟨nl, hnl⟩ : ∃ nl, nl = zl.length := ⟨_, rfl⟩
  obtain ⟨nh, hnh⟩ : ∃ nh, nh = zh.length := ⟨_, rfl⟩
  rw [← hnl] at hl HcL ⊢
  rw [← hnh] at hh HcH ⊢
  clear hnl hnh
  have b2 : ¬ (300 : Int) < (nl : Int) := by omega
  have b3 : ¬ (300 : Int) < (nh : Int) := by omega
  go_enter Tryd.func4, Tryd.ntmps4
  go_wp2_with (first
    | (go_at_call 18; refine (HcL.out w (Below.refl _ _)).1.mono ?_; rintro e w1 ⟨rfl, hb1⟩)
    | (go_at_call 19; refine (HcL.out _ (hb1.alloc hb1.size _)).2.mono ?_; rintro e w2 ⟨rfl, hb2⟩; have hB2 : Below w.heap.size w w2 := (hb1.alloc hb1.size _).trans (hb2.mono (by rw [World.size_alloc]; exact Nat.le_succ_of_le hb1.size)); have f20 := carry (b := w1.heap.size) (o := 0) (v := .int .i64 0) hb2 (by simp [go_sem]); have f21 := carry (b := w1.heap.size) (o := 1) (v := .int .i64 (-1)) hb2 (by simp [go_sem]))
    | (go_at_call 20; refine (HcH.out _ hB2).1.mono ?_; rintro e w3 ⟨rfl, hb3⟩; have hB3 := hB2.trans (hb3.mono hB2.size); have f30 := carry hb3 f20; have f31 := carry hb3 f21)
    | (go_at_call 21; refine (HcH.out _ (hB3.alloc hB3.size _)).2.mono ?_; rintro e w4 ⟨rfl, hb4⟩; have hB4 : Below w.heap.size w w4 := (hB3.alloc hB3.size _).trans (hb4.mono (by rw [World.size_alloc]; exact Nat.le_succ_of_le hB3.size)); have hb34 : Below w3.heap.size w3 w4 := ((Below.refl _ w3).alloc (Nat.le_refl _) _).trans (hb4.mono (by rw [World.size_alloc]; exact Nat.le_succ _)); have f40 := carry hb34 f30; have f41 := carry hb34 f31; have g40 := carry (b := w3.heap.size) (o := 0) (v := .int .i64 0) hb4 (by simp [go_sem]); have g41 := carry (b := w3.heap.size) (o := 1) (v := .int .i64 (-1)) hb4 (by simp [go_sem]))
    | fail)
  refine (is_any_nil w4).mono ?_
  rintro e w5 ⟨rfl, hb5⟩
  have hB5 := hB4.trans (hb5.mono hB4.size)
  have g50 := carry hb5 g40
  have g51 := carry hb5 g41
  clear f40 f41
  go_wp2_with (first | (go_at_call 11; refine (is_any_nil _).mono ?_; rintro e w6 ⟨rfl, hb6⟩) | fail)
  go_ret
  exact ⟨rfl, hB5.trans (hb6.mono hB5.size)⟩
end Go.Proofs.YtiokdpjoinbcaaaDoor
