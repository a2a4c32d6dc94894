/-
  utf.In, rope's isUnit, and the closures of Ahead and Line.
  rope's Ahead and Line.
  rope's Ahead, of a unit, at a place that there is.
  pos.Convert at a place that there is.
  errors.As at a target of the project's own number type: an error number; an error at a place, which unwraps to its number; no error. Then api.Tell, plain.Place and the law's own 'is'.
  errors.As at the project's number type, walked.
  errors.As, api.Tell, plain.Place and the law's 'is': at no error, and at an error at a place.
  errors.As, api.Tell, plain.Place and the law's 'is' and 'bare' at an error that is a number.
  pos.Convert by units that are none, and within a rune.
  rope's Ahead, of a unit, at a place that there isn't: below 0, or beyond the end.
  pos.Convert of any place, by units that are.
  pos.Spot of a place that there is; of one that there isn't.
  The document's own Splice, over what its calls tell.
-/
import Derived.Test.YtgmgkbbnciglhaaDoorPartD
import Derived.Test.YtgmgkbbnciglhaaDoorProg
import Derived.WalkKit
import Derived.WalkSpells
import Derived.WalkLawsBesides
import Derived.LaidEql
import Derived.Stop.Asserts
import Derived.RowKitTokens
import Derived.Deep.QuietTactic
import Derived.BigQuiet
import Derived.Test.YtgmgkbbnciglhaaDoorPartA
import Derived.Test.YtgmgkbbnciglhaaDoorPartB
namespace Go.Proofs.YtgmgkbbnciglhaaDoor
open Go.RowKit
set_option linter.unusedVariables false
attribute [local go_sem] Oper.semAt_some yieldsUpon okUpon field0 field3

/-- How many of a unit. -/
def by_ (u : Int) (rs : List Nat) : Int := if u = 1 then C1 rs else if u = 2 then C2 rs else if u = 3 then C3 rs else 0
theorem by_append (u : Int) (a b : List Nat) : by_ u (a ++ b) = by_ u a + by_ u b := by
  unfold by_
  split
  · exact C1_append a b
  · split
    · exact C2_append a b
    · split
      · exact C3_append a b
      · rfl
theorem by_pos (u : Int) (a : List Nat) : 0 ≤ by_ u a := by
  unfold by_
  split
  · exact C1_pos a
  · split
    · exact (C2_le a).1
    · split
      · exact (C3_le a).1
      · omega

set_option maxRecDepth 100000 in
set_option maxHeartbeats 2000000 in
theorem In_any (u : Int) (rs : List Nat) (w : World) : Calls Tryd.prog 37 #[cntV rs, .int .i64 u] w fun e w' => e = .returned (.int .i64 (by_ u rs)) ∧ Below w.heap.size w w' := by
  have hbw : Below w.heap.size w (w.alloc (.cells #[.int .i64 (C1 rs), .int .i64 (C2 rs), .int .i64 (C3 rs), .int .i64 (C4 rs)] 36)) := (Below.refl _ _).alloc (Nat.le_refl _) _
  unfold cntV by_
  by_cases h1 : u = 1
  · subst h1
    go_enter Tryd.func37, Tryd.ntmps37
    go_wp2
    go_ret
    exact ⟨rfl, hbw⟩
  · have k1 : (u == 1) = false := beq_eq_false_iff_ne.2 h1
    rw [if_neg h1]
    by_cases h2 : u = 2
    · subst h2
      go_enter Tryd.func37, Tryd.ntmps37
      go_wp2
      go_ret
      exact ⟨rfl, hbw⟩
    · have k2 : (u == 2) = false := beq_eq_false_iff_ne.2 h2
      rw [if_neg h2]
      by_cases h3 : u = 3
      · subst h3
        go_enter Tryd.func37, Tryd.ntmps37
        go_wp2
        go_ret
        exact ⟨rfl, hbw⟩
      · have k3 : (u == 3) = false := beq_eq_false_iff_ne.2 h3
        rw [if_neg h3]
        clear h1 h2 h3
        go_enter Tryd.func37, Tryd.ntmps37
        go_wp2
        go_ret
        exact ⟨rfl, hbw⟩

def reachesBy (u at_ : Int) (rs : List Nat) : Bool := decide (at_ ≤ by_ u rs)
theorem reachesBy_rising (u at_ : Int) : rising (reachesBy u at_) := fun a b h => by
  have h1 : at_ ≤ by_ u a := of_decide_eq_true h
  have := by_pos u b
  exact decide_eq_true (by rw [by_append]; omega)
def reachesLine (line : Int) (rs : List Nat) : Bool := decide (line ≤ C4 rs)
theorem reachesLine_rising (line : Int) : rising (reachesLine line) := fun a b h => by
  have h1 : line ≤ C4 a := of_decide_eq_true h
  have := (C4_le b).1
  exact decide_eq_true (by rw [C4_append]; omega)

set_option maxRecDepth 100000 in
set_option maxHeartbeats 2000000 in
theorem line1_asks (line : Int) (b : Nat) (W : World) (hb : W.cell? ⟨b, 0, none⟩ = some (.int .i64 line)) : asks W 131 #[.pointer (some ⟨b, 0, none⟩)] (reachesLine line) := by
  refine ⟨enters_of Tryd.func131 (by kernel_rfl) rfl, fun rs wx _ hbx => ?_⟩
  have h0 := cell_on hbx hb
  have hbw : Below wx.heap.size wx (wx.alloc (.cells #[.int .i64 (C1 rs), .int .i64 (C2 rs), .int .i64 (C3 rs), .int .i64 (C4 rs)] 36)) := (Below.refl _ _).alloc (Nat.le_refl _) _
  have h1 := cell_on hbw h0
  unfold cntV reachesLine
  go_enter Tryd.func131, Tryd.ntmps131
  go_wp2
  go_ret
  exact ⟨by simp, hbw⟩
end Go.Proofs.YtgmgkbbnciglhaaDoor

namespace Go.Proofs.YtgmgkbbnciglhaaDoor
open Go.RowKit
set_option linter.unusedVariables false
attribute [local go_sem] Oper.semAt_some yieldsUpon okUpon field0 field3

set_option maxRecDepth 100000 in
set_option maxHeartbeats 2000000 in
theorem ahead1_asks (u at_ : Int) (b1 b2 : Nat) (W : World) (hu : W.cell? ⟨b1, 0, none⟩ = some (.int .i64 u)) (ha : W.cell? ⟨b2, 0, none⟩ = some (.int .i64 at_)) : asks W 94 #[.pointer (some ⟨b1, 0, none⟩), .pointer (some ⟨b2, 0, none⟩)] (reachesBy u at_) := by
  refine ⟨enters_of Tryd.func94 (by kernel_rfl) rfl, fun rs wx _ hbx => ?_⟩
  have h0 := cell_on hbx hu
  have h1 := cell_on hbx ha
  have hbw : Below wx.heap.size wx (wx.alloc (.cells #[.int .i64 (C1 rs), .int .i64 (C2 rs), .int .i64 (C3 rs), .int .i64 (C4 rs)] 36)) := (Below.refl _ _).alloc (Nat.le_refl _) _
  have hc := counted_new wx (C1 rs) (C2 rs) (C3 rs) (C4 rs) 36
  have k0 := cell_on hbw h0
  have k1 := cell_on hbw h1
  have cI := fun wy => In_any u rs wy
  unfold cntV at cI ⊢
  unfold reachesBy
  generalize by_ u rs = n at *
  go_enter Tryd.func94, Tryd.ntmps94
  go_wp2_with (first | (go_at_call 9999) | fail)
  refine wp_region_rel 6 6 (by kernel_rfl) rfl ?_
  intro w1 hb1
  obtain ⟨G, hG⟩ := exists_growth w1
  have hc1 := counted_below hc hb1
  obtain ⟨⟨a0, a1, a2, a3⟩, _⟩ := hc1
  have g0 := hG.cell a0
  have g1 := hG.cell a1
  have g2 := hG.cell a2
  have g3 := hG.cell a3
  have gu := hG.cell (cell_on hb1 k0)
  have ga := hG.cell (cell_on hb1 k1)
  have cG := fun x => cI (G x)
  (refine anyG_step hG (i := 0) rfl (by kernel_rfl) (by kernel_rfl) (by kernel_rfl) (fun K hK => ?_); go_simp; refine hK _ ?_; clear hK K)
  (refine anyG_step hG (i := 1) rfl (by kernel_rfl) (by kernel_rfl) (by kernel_rfl) (fun K hK => ?_); go_simp; refine hK _ ?_; clear hK K)
  (refine anyG_step hG (i := 2) rfl (by kernel_rfl) (by kernel_rfl) (by kernel_rfl) (fun K hK => ?_); go_simp; apply Exists.intro; refine ⟨fun _ => ?_, hK _ ?_⟩; exact cG _; clear hK K)
  (refine anyG_step hG (i := 3) rfl (by kernel_rfl) (by kernel_rfl) (by kernel_rfl) (fun K hK => ?_); go_simp; refine hK _ ?_; clear hK K)
  (refine anyG_step hG (i := 4) rfl (by kernel_rfl) (by kernel_rfl) (by kernel_rfl) (fun K hK => ?_); go_simp; refine hK _ ?_; clear hK K)
  (refine anyG_step hG (i := 5) rfl (by kernel_rfl) (by kernel_rfl) (by kernel_rfl) (fun K hK => ?_); go_simp; refine hK _ ?_; clear hK K)
  clear g0 g1 g2 g3 gu ga cG hG
  refine anyG_end (by kernel_rfl) ?_
  intro w2 hb2
  have hb4 := hbw.trans ((hb1.trans (hb2.mono hb1.size)).mono hbw.size)
  clear hb1 hb2 a0 a1 a2 a3 k0 k1 hc
  go_wp2
  go_ret
  exact ⟨by simp, hb4⟩

set_option maxRecDepth 100000 in
set_option maxHeartbeats 2000000 in
theorem line_any (b : Nat) (rs : List Nat) (line : Int) (hl0 : 0 ≤ line) (hl1 : line ≤ C4 rs) (w : World) (hT : Lib.Utf8Tabs 0 1 w) (h : isRope w b rs) (hz : C1 rs ≤ 100000000) :
    Calls Tryd.prog 90 #[.pointer (some ⟨b, 0, none⟩), .int .i64 line] w fun e w' => e = .returned (.tuple #[cntV (find (reachesLine line) [] rs), .nilIface]) ∧ Below w.heap.size w w' := by
  obtain ⟨q, t, h1, _, _, h4, ho, rfl⟩ := h
  have hb2 : Below w.heap.size w ((w.alloc (.cells #[.int .i64 line] 3)).alloc (.cells #[.int .i64 0, .int .i64 0, .int .i64 0, .int .i64 0] 36)) := ((Below.refl _ w).alloc (Nat.le_refl _) _).alloc (by simp) _
  have hl : ((w.alloc (.cells #[.int .i64 line] 3)).alloc (.cells #[.int .i64 0, .int .i64 0, .int .i64 0, .int .i64 0] 36)).cell? ⟨w.heap.size, 0, none⟩ = some (.int .i64 line) := by simp [go_sem]
  have hr := counted_new (w.alloc (.cells #[.int .i64 line] 3)) 0 0 0 0 36
  rw [World.size_alloc] at hr
  have cT := fun wx (hb : Below w.heap.size w wx) => ropetree_any b q wx (cell_on hb h1)
  have cC := fun wx (hb : Below w.heap.size w wx) => ncounts_any q t wx (isTree_below hb h4)
  have cU := fun wx (hb : Below w.heap.size w wx) (hc : wx.cell? ⟨w.heap.size, 0, none⟩ = some (.int .i64 line)) => until_any (reachesLine line) (reachesLine_rising line) 131 #[.pointer (some ⟨w.heap.size, 0, none⟩)] q t wx (Go.Proofs.Utf8Tabs_below hT hb) (isTree_below hb h4) ho hz (line1_asks line w.heap.size wx hc)
  unfold cntV at cU ⊢
  generalize find (reachesLine line) [] t.runes = X at *
  generalize C1 t.runes = x1 at *
  generalize C2 t.runes = x2 at *
  generalize C3 t.runes = x3 at *
  generalize C4 t.runes = x4 at *
  have n0 : ¬ line < 0 := by omega
  have n1 : ¬ x4 < line := by omega
  clear h4 ho hT
  go_enter Tryd.func90, Tryd.ntmps90
  go_wp2_with (first
    | (go_at_call 82; refine (cT _ hb2).mono ?_; rintro e w1 ⟨rfl, hw1⟩; obtain rfl := hw1.symm)
    | fail)
  obtain ⟨W2, hW2⟩ : ∃ W2, ((w.alloc (.cells #[.int .i64 line] 3)).alloc (.cells #[.int .i64 0, .int .i64 0, .int .i64 0, .int .i64 0] 36)) = W2 := ⟨_, rfl⟩
  rw [hW2] at hb2 hl hr ⊢
  clear hW2
  refine wp_region_rel 9 9 (by kernel_rfl) rfl ?_
  intro w3 hb3
  have hb23 := hb2.trans (hb3.mono hb2.size)
  obtain ⟨G, hG⟩ := exists_growth w3
  have gl := hG.cell (cell_on hb3 hl)
  have cG := fun x => cC (G x) (hb23.trans ((hG.below x).mono hb23.size))
  (refine anyG_step hG (i := 0) rfl (by kernel_rfl) (by kernel_rfl) (by kernel_rfl) (fun K hK => ?_); go_simp; refine hK _ ?_; clear hK K)
  (refine anyG_step hG (i := 1) rfl (by kernel_rfl) (by kernel_rfl) (by kernel_rfl) (fun K hK => ?_); go_simp; refine hK _ ?_; clear hK K)
  (refine anyG_step hG (i := 2) rfl (by kernel_rfl) (by kernel_rfl) (by kernel_rfl) (fun K hK => ?_); go_simp; refine hK _ ?_; clear hK K)
  (refine anyG_step hG (i := 3) rfl (by kernel_rfl) (by kernel_rfl) (by kernel_rfl) (fun K hK => ?_); go_simp; refine hK _ ?_; clear hK K)
  (refine anyG_step hG (i := 4) rfl (by kernel_rfl) (by kernel_rfl) (by kernel_rfl) (fun K hK => ?_); go_simp; refine hK _ ?_; clear hK K)
  (refine anyG_step hG (i := 5) rfl (by kernel_rfl) (by kernel_rfl) (by kernel_rfl) (fun K hK => ?_); go_simp; apply Exists.intro; refine ⟨fun _ => ?_, hK _ ?_⟩; exact cG _; clear hK K)
  (refine anyG_step hG (i := 6) rfl (by kernel_rfl) (by kernel_rfl) (by kernel_rfl) (fun K hK => ?_); go_simp; refine hK _ ?_; clear hK K)
  (refine anyG_step hG (i := 7) rfl (by kernel_rfl) (by kernel_rfl) (by kernel_rfl) (fun K hK => ?_); go_simp; refine hK _ ?_; clear hK K)
  (refine anyG_step hG (i := 8) rfl (by kernel_rfl) (by kernel_rfl) (by kernel_rfl) (fun K hK => ?_); go_simp; refine hK _ ?_; clear hK K)
  clear gl cG hG
  refine anyG_end (by kernel_rfl) ?_
  intro w4 hb4
  have hb34 := hb3.trans (hb4.mono hb3.size)
  have hb24 := hb2.trans (hb34.mono hb2.size)
  have hl4 := cell_on hb34 hl
  have hr4 := counted_below hr hb34
  have cU4 := cU w4 hb24 hl4
  clear hb3 hb4 hb34 hb23 cU cC cT hl hr
  go_wp2_with (first
    | (go_at_call 93; refine cU4.mono ?_; rintro e w5 ⟨rfl, hb5⟩; have hr5 := counted_below hr4 hb5; have HR5 : Hid _ := hr5; obtain ⟨⟨z0, z1, z2, z3⟩, y0, y1, y2, y3⟩ := hr5)
    | fail)
  have hset := counted_set (m1 := C1 X) (m2 := C2 X) (m3 := C3 X) (m4 := C4 X) HR5.out
  obtain ⟨⟨s0, s1, s2, s3⟩, _⟩ := hset
  have hb25 := hb24.trans (hb5.mono hb24.size)
  refine bodyPost_ret (v := .tuple #[.agg #[.int .i64 (C1 X), .int .i64 (C2 X), .int .i64 (C3 X), .int .i64 (C4 X)], .nilIface]) (by simp [results, Tryd.results90, go_sem, s0, s1, s2, s3]) rfl ⟨rfl, below_set4 hb25 (Nat.le_succ _) _ _ _ _⟩
end Go.Proofs.YtgmgkbbnciglhaaDoor

namespace Go.Proofs.YtgmgkbbnciglhaaDoor
open Go.RowKit
set_option linter.unusedVariables false
attribute [local go_sem] Oper.semAt_some yieldsUpon okUpon field0 field3

set_option maxRecDepth 100000 in
set_option maxHeartbeats 2000000 in
theorem isUnit_good (u : Int) (hu : u = 1 ∨ u = 2 ∨ u = 3) (w : World) : Calls Tryd.prog 92 #[.int .i64 u] w fun e w' => e = .returned (.bool true) ∧ w' = w := by
  rcases hu with rfl | rfl | rfl
  · go_enter Tryd.func92, Tryd.ntmps92
    go_wp2
    go_ret
    exact ⟨rfl, rfl⟩
  · go_enter Tryd.func92, Tryd.ntmps92
    go_wp2
    go_ret
    exact ⟨rfl, rfl⟩
  · go_enter Tryd.func92, Tryd.ntmps92
    go_wp2
    go_ret
    exact ⟨rfl, rfl⟩

set_option maxRecDepth 100000 in
set_option maxHeartbeats 2000000 in
theorem ahead_any (b : Nat) (rs : List Nat) (u at_ : Int) (hu : u = 1 ∨ u = 2 ∨ u = 3) (hl0 : 0 ≤ at_) (hl1 : at_ ≤ by_ u rs) (w : World) (hT : Lib.Utf8Tabs 0 1 w) (h : isRope w b rs) (hz : C1 rs ≤ 100000000) :
    Calls Tryd.prog 42 #[.pointer (some ⟨b, 0, none⟩), .int .i64 u, .int .i64 at_] w fun e w' => e = .returned (.tuple (if by_ u (find (reachesBy u at_) [] rs) = at_ then #[cntV (find (reachesBy u at_) [] rs), .nilIface] else #[cntV [], .iface 23 (.int .i64 10)])) ∧ Below w.heap.size w w' := by
  obtain ⟨q, t, h1, _, _, h4, ho, rfl⟩ := h
  have hb2 : Below w.heap.size w (((w.alloc (.cells #[.int .i64 u] 3)).alloc (.cells #[.int .i64 at_] 3)).alloc (.cells #[.int .i64 0, .int .i64 0, .int .i64 0, .int .i64 0] 36)) := (((Below.refl _ w).alloc (Nat.le_refl _) _).alloc (by simp) _).alloc (by simp; omega) _
  have hlu : (((w.alloc (.cells #[.int .i64 u] 3)).alloc (.cells #[.int .i64 at_] 3)).alloc (.cells #[.int .i64 0, .int .i64 0, .int .i64 0, .int .i64 0] 36)).cell? ⟨w.heap.size, 0, none⟩ = some (.int .i64 u) := by simp [go_sem]
  have hla : (((w.alloc (.cells #[.int .i64 u] 3)).alloc (.cells #[.int .i64 at_] 3)).alloc (.cells #[.int .i64 0, .int .i64 0, .int .i64 0, .int .i64 0] 36)).cell? ⟨w.heap.size + 1, 0, none⟩ = some (.int .i64 at_) := by simp [go_sem]
  have hr := counted_new ((w.alloc (.cells #[.int .i64 u] 3)).alloc (.cells #[.int .i64 at_] 3)) 0 0 0 0 36
  rw [World.size_alloc, World.size_alloc] at hr
  have cT := fun wx (hb : Below w.heap.size w wx) => ropetree_any b q wx (cell_on hb h1)
  have cC := fun wx (hb : Below w.heap.size w wx) => ncounts_any q t wx (isTree_below hb h4)
  have cN := fun wx => isUnit_good u hu wx
  have cI := fun wx => In_any u t.runes wx
  have HU : Hid (∀ wx, Below w.heap.size w wx → wx.cell? ⟨w.heap.size, 0, none⟩ = some (.int .i64 u) → wx.cell? ⟨w.heap.size + 1, 0, none⟩ = some (.int .i64 at_) → Calls Tryd.prog 93 #[.pointer q, .func (.func 94) #[] #[.pointer (some ⟨w.heap.size, 0, none⟩), .pointer (some ⟨w.heap.size + 1, 0, none⟩)]] wx fun e w' => e = .returned (cntV (find (reachesBy u at_) [] t.runes)) ∧ Below wx.heap.size wx w') :=
    fun wx (hb : Below w.heap.size w wx) h1 h2 => until_any (reachesBy u at_) (reachesBy_rising u at_) _ _ q t wx (Go.Proofs.Utf8Tabs_below hT hb) (isTree_below hb h4) ho hz (ahead1_asks u at_ w.heap.size (w.heap.size + 1) wx h1 h2)
  have HX : Hid (∀ wx, Calls Tryd.prog 37 #[cntV (find (reachesBy u at_) [] t.runes), .int .i64 u] wx fun e w' => e = .returned (.int .i64 (by_ u (find (reachesBy u at_) [] t.runes))) ∧ Below wx.heap.size wx w') := fun wx => In_any u _ wx
  generalize find (reachesBy u at_) [] t.runes = X at *
  generalize by_ u t.runes = n at *
  generalize by_ u X = nx at *
  have n0 : ¬ at_ < 0 := by omega
  have n1 : ¬ n < at_ := by omega
  clear h4 ho hT hu hz
  unfold cntV at cI HU HX ⊢
  go_enter Tryd.func42, Tryd.ntmps42
  go_wp2_with (first
    | (go_at_call 92; refine (cN _).mono ?_; rintro e w1 ⟨rfl, hw1⟩; obtain rfl := hw1.symm)
    | (go_at_call 82; refine (cT _ hb2).mono ?_; rintro e w1 ⟨rfl, hw1⟩; obtain rfl := hw1.symm)
    | fail)
  obtain ⟨W2, hW2⟩ : ∃ W2, (((w.alloc (.cells #[.int .i64 u] 3)).alloc (.cells #[.int .i64 at_] 3)).alloc (.cells #[.int .i64 0, .int .i64 0, .int .i64 0, .int .i64 0] 36)) = W2 := ⟨_, rfl⟩
  rw [hW2] at hb2 hlu hla hr ⊢
  clear hW2
  refine wp_region_rel 10 10 (by kernel_rfl) rfl ?_
  intro w3 hb3
  have hb23 := hb2.trans (hb3.mono hb2.size)
  obtain ⟨G, hG⟩ := exists_growth w3
  have gl := hG.cell (cell_on hb3 hla)
  have gu := hG.cell (cell_on hb3 hlu)
  have cG := fun x => cC (G x) (hb23.trans ((hG.below x).mono hb23.size))
  have cJ := fun x => cI (G x)
  (refine anyG_step hG (i := 0) rfl (by kernel_rfl) (by kernel_rfl) (by kernel_rfl) (fun K hK => ?_); go_simp; refine hK _ ?_; clear hK K)
  (refine anyG_step hG (i := 1) rfl (by kernel_rfl) (by kernel_rfl) (by kernel_rfl) (fun K hK => ?_); go_simp; refine hK _ ?_; clear hK K)
  (refine anyG_step hG (i := 2) rfl (by kernel_rfl) (by kernel_rfl) (by kernel_rfl) (fun K hK => ?_); go_simp; refine hK _ ?_; clear hK K)
  (refine anyG_step hG (i := 3) rfl (by kernel_rfl) (by kernel_rfl) (by kernel_rfl) (fun K hK => ?_); go_simp; refine hK _ ?_; clear hK K)
  (refine anyG_step hG (i := 4) rfl (by kernel_rfl) (by kernel_rfl) (by kernel_rfl) (fun K hK => ?_); go_simp; refine hK _ ?_; clear hK K)
  (refine anyG_step hG (i := 5) rfl (by kernel_rfl) (by kernel_rfl) (by kernel_rfl) (fun K hK => ?_); go_simp; apply Exists.intro; refine ⟨fun _ => ?_, hK _ ?_⟩; exact cG _; clear hK K)
  (refine anyG_step hG (i := 6) rfl (by kernel_rfl) (by kernel_rfl) (by kernel_rfl) (fun K hK => ?_); go_simp; refine hK _ ?_; clear hK K)
  (refine anyG_step hG (i := 7) rfl (by kernel_rfl) (by kernel_rfl) (by kernel_rfl) (fun K hK => ?_); go_simp; apply Exists.intro; refine ⟨fun _ => ?_, hK _ ?_⟩; exact cJ _; clear hK K)
  (refine anyG_step hG (i := 8) rfl (by kernel_rfl) (by kernel_rfl) (by kernel_rfl) (fun K hK => ?_); go_simp; refine hK _ ?_; clear hK K)
  (refine anyG_step hG (i := 9) rfl (by kernel_rfl) (by kernel_rfl) (by kernel_rfl) (fun K hK => ?_); go_simp; refine hK _ ?_; clear hK K)
  clear gl gu cG cJ hG
  refine anyG_end (by kernel_rfl) ?_
  intro w4 hb4
  have hb34 := hb3.trans (hb4.mono hb3.size)
  have hb24 := hb2.trans (hb34.mono hb2.size)
  have hlu4 := cell_on hb34 hlu
  have hla4 := cell_on hb34 hla
  have hr4 := counted_below hr hb34
  have cU4 := HU.out w4 hb24 hlu4 hla4
  clear hb3 hb4 hb34 hb23 cC cT cI cN hlu hla hr
  go_wp2_with (first
    | (go_at_call 93; refine cU4.mono ?_; rintro e w5 ⟨rfl, hb5⟩)
    | fail)
  have hbx : Below w5.heap.size w5 (w5.alloc (.cells #[.int .i64 (C1 X), .int .i64 (C2 X), .int .i64 (C3 X), .int .i64 (C4 X)] 36)) := (Below.refl _ _).alloc (Nat.le_refl _) _
  have hb46 := hb5.trans (hbx.mono hb5.size)
  have hcX := counted_new w5 (C1 X) (C2 X) (C3 X) (C4 X) 36
  have hlu6 := cell_on hb46 hlu4
  have hla6 := cell_on hb46 hla4
  have hr6 := counted_below hr4 hb46
  have hb26 := hb24.trans (hb46.mono hb24.size)
  generalize (w5.alloc (.cells #[.int .i64 (C1 X), .int .i64 (C2 X), .int .i64 (C3 X), .int .i64 (C4 X)] 36)) = W6 at *
  generalize w5.heap.size = B5 at *
  clear hb5 hbx hb46 hlu4 hla4 hr4 hb24 cU4
  refine wp_region_rel 5 5 (by kernel_rfl) rfl ?_
  intro w7 hb7
  obtain ⟨G, hG⟩ := exists_growth w7
  have hc7 := counted_below hcX hb7
  obtain ⟨⟨a0, a1, a2, a3⟩, _⟩ := hc7
  have g0 := hG.cell a0
  have g1 := hG.cell a1
  have g2 := hG.cell a2
  have g3 := hG.cell a3
  have gu := hG.cell (cell_on hb7 hlu6)
  have ga := hG.cell (cell_on hb7 hla6)
  have cG := fun x => HX.out (G x)
  (refine anyG_step hG (i := 0) rfl (by kernel_rfl) (by kernel_rfl) (by kernel_rfl) (fun K hK => ?_); go_simp; refine hK _ ?_; clear hK K)
  (refine anyG_step hG (i := 1) rfl (by kernel_rfl) (by kernel_rfl) (by kernel_rfl) (fun K hK => ?_); go_simp; refine hK _ ?_; clear hK K)
  (refine anyG_step hG (i := 2) rfl (by kernel_rfl) (by kernel_rfl) (by kernel_rfl) (fun K hK => ?_); go_simp; apply Exists.intro; refine ⟨fun _ => ?_, hK _ ?_⟩; exact cG _; clear hK K)
  (refine anyG_step hG (i := 3) rfl (by kernel_rfl) (by kernel_rfl) (by kernel_rfl) (fun K hK => ?_); go_simp; refine hK _ ?_; clear hK K)
  (refine anyG_step hG (i := 4) rfl (by kernel_rfl) (by kernel_rfl) (by kernel_rfl) (fun K hK => ?_); go_simp; refine hK _ ?_; clear hK K)
  clear g0 g1 g2 g3 gu ga cG hG a0 a1 a2 a3
  refine anyG_end (by kernel_rfl) ?_
  intro w8 hb8
  have hb78 := hb7.trans (hb8.mono hb7.size)
  have hb28 := hb26.trans (hb78.mono hb26.size)
  have hc8 := counted_below hcX hb78
  have hr8 := counted_below hr6 hb78
  have HR8 : Hid _ := hr8
  obtain ⟨⟨a0, a1, a2, a3⟩, _⟩ := hc8
  obtain ⟨⟨z0, z1, z2, z3⟩, y0, y1, y2, y3⟩ := hr8
  clear hb7 hb8 hb78 hb26 hcX hr6 hlu6 hla6
  by_cases hx : nx = at_
  · subst hx
    go_wp2
    have hset := counted_set (m1 := C1 X) (m2 := C2 X) (m3 := C3 X) (m4 := C4 X) HR8.out
    obtain ⟨⟨s0, s1, s2, s3⟩, _⟩ := hset
    refine bodyPost_ret (v := .tuple #[.agg #[.int .i64 (C1 X), .int .i64 (C2 X), .int .i64 (C3 X), .int .i64 (C4 X)], .nilIface]) (by simp [results, Tryd.results42, go_sem, s0, s1, s2, s3]) rfl ⟨rfl, below_set4 hb28 (by omega) _ _ _ _⟩
  · have hx1 : (nx == at_) = false := beq_eq_false_iff_ne.2 hx
    go_wp2
    have hset := counted_set (m1 := 0) (m2 := 0) (m3 := 0) (m4 := 0) HR8.out
    obtain ⟨⟨s0, s1, s2, s3⟩, _⟩ := hset
    refine bodyPost_ret (v := .tuple #[.agg #[.int .i64 0, .int .i64 0, .int .i64 0, .int .i64 0], .iface 23 (.int .i64 10)]) (by simp [results, Tryd.results42, go_sem, s0, s1, s2, s3]) rfl ⟨rfl, below_set4 hb28 (by omega) _ _ _ _⟩
end Go.Proofs.YtgmgkbbnciglhaaDoor

namespace Go.Proofs.YtgmgkbbnciglhaaDoor
open Go.RowKit
set_option linter.unusedVariables false
attribute [local go_sem] Oper.semAt_some

theorem find_zero (u : Int) (rs : List Nat) : find (reachesBy u 0) [] rs = [] := by
  unfold find
  have : reachesBy u 0 [] = true := decide_eq_true (by_pos u [])
  rw [if_pos this]
theorem by_nil (u : Int) : by_ u [] = 0 := by
  unfold by_
  split
  · rfl
  · split
    · rfl
    · split <;> rfl
/-- By runes, each place is one. -/
theorem find_runes : ∀ (rs pre : List Nat) (at_ : Int), (pre.length : Int) ≤ at_ → at_ ≤ (pre.length : Int) + rs.length → find (reachesBy 3 at_) pre rs = pre ++ rs.take (at_ - pre.length).toNat := by
  have key : ∀ (x : List Nat) (at_ : Int), reachesBy 3 at_ x = decide (at_ ≤ (x.length : Int)) := fun x at_ => rfl
  intro rs
  induction rs with
  | nil =>
    intro pre at_ h1 h2
    have : reachesBy 3 at_ pre = true := by rw [key]; exact decide_eq_true (by simpa using h2)
    unfold find
    rw [if_pos this]; simp
  | cons r rs ih =>
    intro pre at_ h1 h2
    by_cases h : at_ ≤ (pre.length : Int)
    · have e : (at_ - pre.length).toNat = 0 := by omega
      unfold find
      rw [key, if_pos (decide_eq_true h), e]; simp
    · have h3 := ih (pre ++ [r]) at_ (by simp; omega) (by simp at h2 ⊢; omega)
      have e2 : (at_ - pre.length).toNat = (at_ - (pre ++ [r]).length).toNat + 1 := by simp; omega
      rw [e2, List.take_succ_cons]
      have e3 : pre ++ r :: rs.take (at_ - (pre ++ [r]).length).toNat = (pre ++ [r]) ++ rs.take (at_ - (pre ++ [r]).length).toNat := by simp
      rw [e3, ← h3]
      conv => lhs; unfold find
      rw [key, if_neg (by simpa using h), seek]
      conv => rhs; unfold find
      split
      · rfl
      · simp

set_option maxRecDepth 100000 in
set_option maxHeartbeats 2000000 in
theorem unitError_good (b : Nat) (rs : List Nat) (u : Int) (hu : u = 1 ∨ u = 2 ∨ u = 3) (w : World) (hT : Lib.Utf8Tabs 0 1 w) (h : isRope w b rs) (hz : C1 rs ≤ 100000000) :
    Calls Tryd.prog 89 #[.pointer (some ⟨b, 0, none⟩), .int .i64 u] w fun e w' => e = .returned .nilIface ∧ Below w.heap.size w w' := by
  have cA := ahead_any b rs u 0 hu (Int.le_refl _) (by_pos u rs) w hT h hz
  rw [find_zero, by_nil, if_pos rfl] at cA
  have HA : Hid _ := cA
  unfold cntV at HA
  clear cA hT h hu hz
  go_enter Tryd.func89, Tryd.ntmps89
  go_wp2_with (first
    | (go_at_call 42; refine Calls.mono HA.out ?_; rintro e w1 ⟨rfl, hb1⟩)
    | fail)
  go_ret
  exact ⟨rfl, hb1.alloc hb1.size _⟩

/-- A place by u as one by v. -/
theorem convert_any (b : Nat) (rs : List Nat) (u v at_ : Int) (hu : u = 1 ∨ u = 2 ∨ u = 3) (hv : v = 1 ∨ v = 2 ∨ v = 3) (hl0 : 0 ≤ at_) (hl1 : at_ ≤ by_ u rs) (w : World) (hT : Lib.Utf8Tabs 0 1 w) (h : isRope w b rs) (hz : C1 rs ≤ 100000000) (X : List Nat) (hX : find (reachesBy u at_) [] rs = X) (hfine : by_ u X = at_) :
    Calls Tryd.prog 39 #[.pointer (some ⟨b, 0, none⟩), .int .i64 u, .int .i64 v, .int .i64 at_] w fun e w' => e = .returned (.tuple #[.int .i64 (by_ v X), .nilIface]) ∧ Below w.heap.size w w' := by
  have cU : Hid _ := unitError_good b rs v hv w hT h hz
  have cA : Hid (∀ wx, Below w.heap.size w wx → Calls Tryd.prog 42 #[.pointer (some ⟨b, 0, none⟩), .int .i64 u, .int .i64 at_] wx fun e w' => e = .returned (.tuple #[cntV X, .nilIface]) ∧ Below wx.heap.size wx w') := fun wx hb => by
    have := ahead_any b rs u at_ hu hl0 hl1 wx (Go.Proofs.Utf8Tabs_below hT hb) (isRope_below h hb) hz
    rw [hX, if_pos hfine] at this
    exact this
  have cI : Hid (∀ wx, Calls Tryd.prog 37 #[cntV X, .int .i64 v] wx fun e w' => e = .returned (.int .i64 (by_ v X)) ∧ Below wx.heap.size wx w') := fun wx => In_any v X wx
  unfold cntV at cA cI
  clear hT h hu hz hv hl0 hl1 hX hfine
  generalize by_ v X = nx at *
  go_enter Tryd.func39, Tryd.ntmps39
  go_wp2_with (first
    | (go_at_call 89; refine Calls.mono cU.out ?_; rintro e w1 ⟨rfl, hb1⟩; have HB1 : Hid (Below w.heap.size w w1) := hb1; clear hb1)
    | (go_at_call 42; refine (cA.out _ HB1.out).mono ?_; rintro e w2 ⟨rfl, hb2⟩; have HB2 : Hid (Below w.heap.size w w2) := HB1.out.trans (hb2.mono HB1.out.size); clear hb2)
    | (go_at_call 37; refine (cI.out _).mono ?_; rintro e w3 ⟨rfl, hb3⟩)
    | fail)
  go_ret2
  have hb2' := HB2.out.alloc HB2.out.size (.cells #[.int .i64 (C1 X), .int .i64 (C2 X), .int .i64 (C3 X), .int .i64 (C4 X)] 36)
  exact ⟨rfl, hb2'.trans (hb3.mono hb2'.size)⟩
end Go.Proofs.YtgmgkbbnciglhaaDoor

namespace Go.Proofs.YtgmgkbbnciglhaaDoor
open Go.RowKit Go.Extern.Stop Go.Stop Go.Extern

theorem as_nil (t : Value) (w : World) :
    Calls Tryd.prog 143 #[.nilIface, t] w fun e w' => e = .returned (.bool false) ∧ w' = w := by
  go_enter Tryd.func143, Tryd.ntmps143
  go_wp2
  go_ret
  exact ⟨rfl, rfl⟩

theorem as_valueOf (t : Addr) (w : World) : (ReflectliteValue.unpack (.iface 206 (.pointer (some t)))).run Tryd.prog w
    = .ok (.agg #[.pointer (some ⟨4, 206, none⟩), .pointer (some ⟨w.heap.size, 0, none⟩), .int .u64 150]) (w.alloc (.cells #[.pointer (some t)] 206)) := by kernel_rfl
theorem as_type (a : Addr) (w : World) : (ReflectliteValue.methodAny (ReflectliteValue.valueError "reflectlite.Value.Type" 0) (fun t _ _ _ => ReflectliteType.toType t) #[.agg #[.pointer (some ⟨4, 206, none⟩), .pointer (some a), .int .u64 150]]).run Tryd.prog w
    = .ok (.iface 227 (.agg #[.pointer (some ⟨4, 206, none⟩)])) w := by kernel_rfl
theorem as_methodKind (h : Value) (w : World) : (Go.method 363 227 (.agg #[h]) "Kind").run Tryd.prog w = .ok (179, h) w := by kernel_rfl
theorem as_kindP (w : World) : ((ReflectliteType.abiMethod fun t => (fun a : Nat => Value.int IntKind.u8 (a : Int)) <$> Rtype.kind t) #[.pointer (some ⟨4, 206, none⟩)]).run Tryd.prog w = .ok (.int .u8 22) w := by kernel_rfl
theorem as_kindE (w : World) : ((ReflectliteType.abiMethod fun t => (fun a : Nat => Value.int IntKind.u8 (a : Int)) <$> Rtype.kind t) #[.pointer (some ⟨4, 23, none⟩)]).run Tryd.prog w = .ok (.int .u8 2) w := by kernel_rfl

theorem as_rlm (z : Sem Value) (f : TypeId → Addr → Nat → Nat → Sem Value) (v : Value) :
    ReflectliteValue.method z f #[v] = (do match ← ReflectliteValue.parts v with | none => z | some (t, a, fl) => f t a fl (fl % 32)) := rfl
theorem as_partsP (a : Addr) (w : World) : (ReflectliteValue.parts (.agg #[.pointer (some ⟨4, 206, none⟩), .pointer (some a), .int .u64 150])).run Tryd.prog w = .ok (some (206, a, 150)) w := by kernel_rfl
theorem as_isNil (a p : Addr) (W : World) (ha : W.cell? a = some (.pointer (some p))) :
    (ReflectliteValue.method (ReflectliteValue.valueError "reflectlite.Value.IsNil" 0) ReflectliteValue.isNil #[.agg #[.pointer (some ⟨4, 206, none⟩), .pointer (some a), .int .u64 150]]).run Tryd.prog W = .ok (.bool false) W := by
  rw [as_rlm]
  simp only [Sem.run_bind, as_partsP, Result.andThen]
  simp [ReflectliteValue.isNil, loadVar, isAgg, underlying, Tryd.underlying206, ha, Result.andThen]
theorem as_methodElem (h : Value) (w : World) : (Go.method 363 227 (.agg #[h]) "Elem").run Tryd.prog w = .ok (193, .agg #[h]) w := by kernel_rfl
theorem as_methodImplements (h : Value) (w : World) : (Go.method 363 227 (.agg #[h]) "Implements").run Tryd.prog w = .ok (194, .agg #[h]) w := by kernel_rfl
theorem as_methodAssignableTo (h : Value) (w : World) : (Go.method 363 227 (.agg #[h]) "AssignableTo").run Tryd.prog w = .ok (191, .agg #[h]) w := by kernel_rfl
theorem as_elem (w : World) : (ReflectliteType.method ReflectliteType.elem #[.agg #[.pointer (some ⟨4, 206, none⟩)]]).run Tryd.prog w = .ok (.iface 227 (.agg #[.pointer (some ⟨4, 23, none⟩)])) w := by kernel_rfl
theorem as_implements (w : World) : (ReflectliteType.relation "Implements" ReflectliteType.implements_ #[.agg #[.pointer (some ⟨4, 23, none⟩)], .iface 227 (.agg #[.pointer (some ⟨4, 29, none⟩)])]).run Tryd.prog w = .ok (.bool true) w := by kernel_rfl
theorem as_typeOfE (v : Value) (w : World) : (ReflectliteType.typeOf #[.iface 23 v]).run Tryd.prog w = .ok (.iface 227 (.agg #[.pointer (some ⟨4, 23, none⟩)])) w := by kernel_rfl
theorem as_typeOfA (v : Value) (w : World) : (ReflectliteType.typeOf #[.iface 172 v]).run Tryd.prog w = .ok (.iface 227 (.agg #[.pointer (some ⟨4, 172, none⟩)])) w := by kernel_rfl
theorem as_assignE (w : World) : (ReflectliteType.relation "AssignableTo" ReflectliteType.assignableTo #[.agg #[.pointer (some ⟨4, 23, none⟩)], .iface 227 (.agg #[.pointer (some ⟨4, 23, none⟩)])]).run Tryd.prog w = .ok (.bool true) w := by kernel_rfl
theorem as_assignA (w : World) : (ReflectliteType.relation "AssignableTo" ReflectliteType.assignableTo #[.agg #[.pointer (some ⟨4, 172, none⟩)], .iface 227 (.agg #[.pointer (some ⟨4, 23, none⟩)])]).run Tryd.prog w = .ok (.bool false) w := by kernel_rfl
theorem as_valueOfE (n : Int) (w : World) : (ReflectliteValue.unpack (.iface 23 (.int .i64 n))).run Tryd.prog w
    = .ok (.agg #[.pointer (some ⟨4, 23, none⟩), .pointer (some ⟨w.heap.size, 0, none⟩), .int .u64 130]) (w.alloc (.cells #[.int .i64 n] 23)) := by kernel_rfl
theorem as_elemOf (w : World) : (Rtype.elem? 206).run Tryd.prog w = .ok (some 23) w := by kernel_rfl
theorem as_mk (p : Addr) (w : World) : (ReflectliteValue.mk 23 p ReflectliteValue.flagAddr).run Tryd.prog w = .ok (.agg #[.pointer (some ⟨4, 23, none⟩), .pointer (some p), .int .u64 386]) w := by kernel_rfl
theorem as_elemV (a p : Addr) (W : World) (ha : W.cell? a = some (.pointer (some p))) :
    (ReflectliteValue.method (ReflectliteValue.valueError "reflectlite.Value.Elem" 0) ReflectliteValue.elem #[.agg #[.pointer (some ⟨4, 206, none⟩), .pointer (some a), .int .u64 150]]).run Tryd.prog W
      = .ok (.agg #[.pointer (some ⟨4, 23, none⟩), .pointer (some p), .int .u64 386]) W := by
  rw [as_rlm]
  simp only [Sem.run_bind, as_partsP, Result.andThen]
  simp [ReflectliteValue.elem, loadVar, isAgg, underlying, Tryd.underlying206, ha, Result.andThen, as_elemOf, as_mk]
theorem as_rls (v x : Value) : ReflectliteValue.set #[v, x] = (do
    let (some (dst, a, fl), some (src, b, _)) := (← ReflectliteValue.parts v, ← ReflectliteValue.parts x)
      | unsupported (.noEntry "extern/(internal/reflectlite.Value).Set.zeroValue")
    if fl / ReflectliteValue.flagAddr % 2 == 0 then unsupported (.noEntry "extern/(internal/reflectlite.Value).Set.unaddressable")
    let val ← loadVar src b
    if ← Rtype.directlyAssignable dst src then storeVar dst a val
    else if ← Rtype.implements dst src then
      if (← Rtype.kind src) == 20 then
        match val with
        | .nilIface => unsupported (.noEntry "extern/reflectlite: a nil value of one interface type handed on as a value of another")
        | _ => storeVar dst a val
      else storeVar dst a (.iface src val)
    else panicString ("reflectlite.Set: value of type " ++ (← Rtype.spelt src) ++ " is not assignable to type " ++ (← Rtype.spelt dst))
    pure (.tuple #[])) := rfl
theorem as_partsD (a : Addr) (w : World) : (ReflectliteValue.parts (.agg #[.pointer (some ⟨4, 23, none⟩), .pointer (some a), .int .u64 386])).run Tryd.prog w = .ok (some (23, a, 386)) w := by kernel_rfl
theorem as_partsE (a : Addr) (w : World) : (ReflectliteValue.parts (.agg #[.pointer (some ⟨4, 23, none⟩), .pointer (some a), .int .u64 130])).run Tryd.prog w = .ok (some (23, a, 130)) w := by kernel_rfl
theorem as_direct (w : World) : (Rtype.directlyAssignable 23 23).run Tryd.prog w = .ok true w := by kernel_rfl
theorem as_set (ta b : Addr) (n : Int) (old : Value) (W : World) (hb : W.cell? b = some (.int .i64 n)) (ht : W.cell? ta = some old) (hf : W.frozen? ta = false) :
    (ReflectliteValue.set #[.agg #[.pointer (some ⟨4, 23, none⟩), .pointer (some ta), .int .u64 386], .agg #[.pointer (some ⟨4, 23, none⟩), .pointer (some b), .int .u64 130]]).run Tryd.prog W
      = .ok (.tuple #[]) (W.setCell ta (.int .i64 n)) := by
  rw [as_rls]
  simp only [Sem.run_bind, as_partsD, as_partsE, Result.andThen]
  simp [ReflectliteValue.flagAddr, loadVar, isAgg, underlying, Tryd.underlying23, hb, Result.andThen, as_direct, storeVar, Value.cells, storeCells, Addr.add]
  rw [run_store Tryd.prog W ta _ _ (by rfl)]
  simp [ht, hf]
theorem as_noAs (v : Value) (xT : TypeId) (w : World) : (Instr.typeAssert (.iface 172 v) xT 232 true).run Tryd.prog w = .ok (.tuple #[.nilIface, .bool false]) w := run_typeAssert_lacksB Tryd.underlying232 (by kernel_rfl) (by kernel_rfl) v xT w
theorem as_hasUnwrap (v : Value) (xT : TypeId) (w : World) : (Instr.typeAssert (.iface 172 v) xT 175 true).run Tryd.prog w = .ok (.tuple #[.iface 172 v, .bool true]) w := run_typeAssert_hasB Tryd.underlying175 (by kernel_rfl) v xT w
theorem as_unwrapAhead (a : Addr) (w : World) : (nilAhead 363 172 (.pointer (some a)) "Unwrap").run Tryd.prog w = .ok (some false) w := by kernel_rfl
theorem as_methodUnwrap (a : Addr) (w : World) : (Go.method 363 172 (.pointer (some a)) "Unwrap").run Tryd.prog w = .ok (186, .pointer (some a)) w := by kernel_rfl

set_option maxHeartbeats 400000 in
theorem unwrap_any (a : Nat) (n : Int) (w : World) (h : w.cell? ⟨a, 0, none⟩ = some (.int .i64 n)) :
    Calls Tryd.prog 186 #[.pointer (some ⟨a, 0, none⟩)] w fun e w' => e = .returned (.iface 23 (.int .i64 n)) ∧ w' = w := by
  go_enter Tryd.func186, Tryd.ntmps186
  go_wp2
  go_ret
  exact ⟨rfl, rfl⟩

/-- What the walks of errors.As want of the library's variable. -/
def asLaid (w : World) : Prop := w.cell? ⟨3, 0, none⟩ = some (.iface 227 (.agg #[.pointer (some ⟨4, 29, none⟩)]))

/-- errors.as at the number itself: the target's variable is set. -/
def target (q : Nat) : Value := .agg #[.pointer (some ⟨4, 206, none⟩), .pointer (some ⟨q, 0, none⟩), .int .u64 150]

end Go.Proofs.YtgmgkbbnciglhaaDoor

namespace Go.Proofs.YtgmgkbbnciglhaaDoor
open Go.RowKit Go.Extern.Stop Go.Stop Go.Extern

theorem set_below {w : World} {t : Nat} {n : Int} {old : Value} (ht : w.cell? ⟨t, 0, none⟩ = some old) (o1 o2 : Obj) :
    (((w.setCell ⟨t, 0, none⟩ (.int .i64 n)).alloc o1).alloc o2).cell? ⟨t, 0, none⟩ = some (.int .i64 n) ∧ Below t w (((w.setCell ⟨t, 0, none⟩ (.int .i64 n)).alloc o1).alloc o2) := by
  have htl := World.block_lt_of_cell? w _ ht
  have hz : (w.setCell ⟨t, 0, none⟩ (.int .i64 n)).heap.size = w.heap.size := by simp
  have h1 : t < (w.setCell ⟨t, 0, none⟩ (.int .i64 n)).heap.size := by rw [hz]; exact htl
  refine ⟨?_, ?_⟩
  · rw [World.cell?_alloc_lt _ _ ⟨t, 0, none⟩ (by rw [World.size_alloc]; exact Nat.lt_succ_of_lt h1), World.cell?_alloc_lt _ _ ⟨t, 0, none⟩ h1]
    exact World.cell?_setCell_same _ _ _ ht
  · exact ((((Below.refl t w).setCell (p := ⟨t, 0, none⟩) (Nat.le_refl _) _)).alloc (Nat.le_of_lt h1) _).alloc (by rw [World.size_alloc]; exact Nat.le_succ_of_le (Nat.le_of_lt h1)) _

set_option maxRecDepth 100000 in
set_option maxHeartbeats 4000000 in
theorem as_number (n : Int) (t q : Nat) (old : Value) (w : World) (hq : w.cell? ⟨q, 0, none⟩ = some (.pointer (some ⟨t, 0, none⟩))) (ht : w.cell? ⟨t, 0, none⟩ = some old) (hf : w.frozen? ⟨t, 0, none⟩ = false) :
    Calls Tryd.prog 157 #[.iface 23 (.int .i64 n), .iface 206 (.pointer (some ⟨t, 0, none⟩)), target q, .iface 227 (.agg #[.pointer (some ⟨4, 23, none⟩)])] w
      fun e w' => e = .returned (.bool true) ∧ w'.cell? ⟨t, 0, none⟩ = some (.int .i64 n) ∧ Below t w w' := by
  have hTO := @run_callFunc_extern Tryd.prog 162 _ ReflectliteType.typeOf Tryd.func162 (by kernel_rfl) (by kernel_rfl) (by kernel_rfl) (by kernel_rfl)
  have hAT := @run_callFunc_extern Tryd.prog 191 _ (ReflectliteType.relation "AssignableTo" ReflectliteType.assignableTo) Tryd.func191 (by kernel_rfl) (by kernel_rfl) (by kernel_rfl) (by kernel_rfl)
  have hVE := @run_callFunc_extern Tryd.prog 163 _ (ReflectliteValue.method (ReflectliteValue.valueError "reflectlite.Value.Elem" 0) ReflectliteValue.elem) Tryd.func163 (by kernel_rfl) (by kernel_rfl) (by kernel_rfl) (by kernel_rfl)
  have hVS := @run_callFunc_extern Tryd.prog 164 _ ReflectliteValue.set Tryd.func164 (by kernel_rfl) (by kernel_rfl) (by kernel_rfl) (by kernel_rfl)
  have hVO := @run_callFunc_extern Tryd.prog 154 _ (fun args => ReflectliteValue.unpack (args.getD 0 (.tuple #[]))) Tryd.func154 (by kernel_rfl) (by kernel_rfl) (by kernel_rfl) (by kernel_rfl)
  have tE := as_typeOfE
  have tA := as_typeOfA
  have mA := as_methodAssignableTo
  have aE := as_assignE
  have aA := as_assignA
  have vE := as_valueOfE
  have nA := as_noAs
  have hU := as_hasUnwrap
  have uA := as_unwrapAhead
  have mU := as_methodUnwrap
  have htl := World.block_lt_of_cell? w _ ht
  have hql := World.block_lt_of_cell? w _ hq
  have hq2 : (w.alloc (.cells #[.pointer (some ⟨4, 206, none⟩), .pointer (some ⟨q, 0, none⟩), .int .u64 150] 215)).cell? ⟨q, 0, none⟩ = some (.pointer (some ⟨t, 0, none⟩)) := by
    rw [World.cell?_alloc_lt _ _ ⟨q, 0, none⟩ hql]; exact hq
  have el := as_elemV ⟨q, 0, none⟩ ⟨t, 0, none⟩ (w.alloc (.cells #[.pointer (some ⟨4, 206, none⟩), .pointer (some ⟨q, 0, none⟩), .int .u64 150] 215)) hq2
  have st := as_set ⟨t, 0, none⟩ ⟨w.heap.size + 1, 0, none⟩ n old ((w.alloc (.cells #[.pointer (some ⟨4, 206, none⟩), .pointer (some ⟨q, 0, none⟩), .int .u64 150] 215)).alloc (.cells #[.int .i64 n] 23))
    (by rw [World.cell?_alloc_at _ _ _ _ (by simp)]; rfl)
    (by rw [World.cell?_alloc_lt _ _ ⟨t, 0, none⟩ (by rw [World.size_alloc]; exact Nat.lt_succ_of_lt htl), World.cell?_alloc_lt _ _ ⟨t, 0, none⟩ htl]; exact ht)
    (by rw [World.frozen?_alloc_old _ _ ⟨t, 0, none⟩ (by rw [World.size_alloc]; exact Nat.ne_of_lt (Nat.lt_succ_of_lt htl)), World.frozen?_alloc_old _ _ ⟨t, 0, none⟩ (Nat.ne_of_lt htl)]; exact hf)
  have fin := fun o1 o2 => @set_below w t n old ht o1 o2
  have HF : Hid (∀ o1 o2, _ ∧ _) := fin
  clear fin
  clear hq ht hf hq2
  unfold target
  go_enter Tryd.func157, Tryd.ntmps157
  go_wp2
  refine wp_loop_rounds 1 ?_
  rw [rounds_succ]
  go_wp2
  go_ret
  exact ⟨rfl, HF.out _ _⟩

set_option maxRecDepth 100000 in
set_option maxHeartbeats 4000000 in
theorem as_place (a : Nat) (n : Int) (t q : Nat) (old : Value) (w : World) (ha : w.cell? ⟨a, 0, none⟩ = some (.int .i64 n)) (hq : w.cell? ⟨q, 0, none⟩ = some (.pointer (some ⟨t, 0, none⟩))) (ht : w.cell? ⟨t, 0, none⟩ = some old) (hf : w.frozen? ⟨t, 0, none⟩ = false) :
    Calls Tryd.prog 157 #[.iface 172 (.pointer (some ⟨a, 0, none⟩)), .iface 206 (.pointer (some ⟨t, 0, none⟩)), target q, .iface 227 (.agg #[.pointer (some ⟨4, 23, none⟩)])] w
      fun e w' => e = .returned (.bool true) ∧ w'.cell? ⟨t, 0, none⟩ = some (.int .i64 n) ∧ Below t w w' := by
  have hTO := @run_callFunc_extern Tryd.prog 162 _ ReflectliteType.typeOf Tryd.func162 (by kernel_rfl) (by kernel_rfl) (by kernel_rfl) (by kernel_rfl)
  have hAT := @run_callFunc_extern Tryd.prog 191 _ (ReflectliteType.relation "AssignableTo" ReflectliteType.assignableTo) Tryd.func191 (by kernel_rfl) (by kernel_rfl) (by kernel_rfl) (by kernel_rfl)
  have hVE := @run_callFunc_extern Tryd.prog 163 _ (ReflectliteValue.method (ReflectliteValue.valueError "reflectlite.Value.Elem" 0) ReflectliteValue.elem) Tryd.func163 (by kernel_rfl) (by kernel_rfl) (by kernel_rfl) (by kernel_rfl)
  have hVS := @run_callFunc_extern Tryd.prog 164 _ ReflectliteValue.set Tryd.func164 (by kernel_rfl) (by kernel_rfl) (by kernel_rfl) (by kernel_rfl)
  have hVO := @run_callFunc_extern Tryd.prog 154 _ (fun args => ReflectliteValue.unpack (args.getD 0 (.tuple #[]))) Tryd.func154 (by kernel_rfl) (by kernel_rfl) (by kernel_rfl) (by kernel_rfl)
  have tE := as_typeOfE
  have tA := as_typeOfA
  have mA := as_methodAssignableTo
  have aE := as_assignE
  have aA := as_assignA
  have vE := as_valueOfE
  have nA := as_noAs
  have hU := as_hasUnwrap
  have uA := as_unwrapAhead
  have mU := as_methodUnwrap
  have htl := World.block_lt_of_cell? w _ ht
  have hql := World.block_lt_of_cell? w _ hq
  have hq2 : (w.alloc (.cells #[.pointer (some ⟨4, 206, none⟩), .pointer (some ⟨q, 0, none⟩), .int .u64 150] 215)).cell? ⟨q, 0, none⟩ = some (.pointer (some ⟨t, 0, none⟩)) := by
    rw [World.cell?_alloc_lt _ _ ⟨q, 0, none⟩ hql]; exact hq
  have el := as_elemV ⟨q, 0, none⟩ ⟨t, 0, none⟩ (w.alloc (.cells #[.pointer (some ⟨4, 206, none⟩), .pointer (some ⟨q, 0, none⟩), .int .u64 150] 215)) hq2
  have st := as_set ⟨t, 0, none⟩ ⟨w.heap.size + 1, 0, none⟩ n old ((w.alloc (.cells #[.pointer (some ⟨4, 206, none⟩), .pointer (some ⟨q, 0, none⟩), .int .u64 150] 215)).alloc (.cells #[.int .i64 n] 23))
    (by rw [World.cell?_alloc_at _ _ _ _ (by simp)]; rfl)
    (by rw [World.cell?_alloc_lt _ _ ⟨t, 0, none⟩ (by rw [World.size_alloc]; exact Nat.lt_succ_of_lt htl), World.cell?_alloc_lt _ _ ⟨t, 0, none⟩ htl]; exact ht)
    (by rw [World.frozen?_alloc_old _ _ ⟨t, 0, none⟩ (by rw [World.size_alloc]; exact Nat.ne_of_lt (Nat.lt_succ_of_lt htl)), World.frozen?_alloc_old _ _ ⟨t, 0, none⟩ (Nat.ne_of_lt htl)]; exact hf)
  have fin := fun o1 o2 => @set_below w t n old ht o1 o2
  have HF : Hid (∀ o1 o2, _ ∧ _) := fin
  clear fin
  have hal := World.block_lt_of_cell? w _ ha
  have ha2 : (w.alloc (.cells #[.pointer (some ⟨4, 206, none⟩), .pointer (some ⟨q, 0, none⟩), .int .u64 150] 215)).cell? ⟨a, 0, none⟩ = some (.int .i64 n) := by
    rw [World.cell?_alloc_lt _ _ ⟨a, 0, none⟩ hal]; exact ha
  have cU := unwrap_any a n _ ha2
  clear hq ht hf hq2 ha ha2
  unfold target
  go_enter Tryd.func157, Tryd.ntmps157
  go_wp2
  refine wp_loop_rounds 2 ?_
  rw [rounds_succ]
  go_wp2_with (first | (go_at_call 186; refine cU.mono ?_; rintro e wx ⟨rfl, rfl⟩) | fail)
  rw [rounds_succ]
  go_wp2
  go_ret
  exact ⟨rfl, HF.out _ _⟩
end Go.Proofs.YtgmgkbbnciglhaaDoor

namespace Go.Proofs.YtgmgkbbnciglhaaDoor
open Go.RowKit Go.Extern.Stop Go.Stop Go.Extern

set_option maxRecDepth 100000 in
set_option maxHeartbeats 4000000 in
theorem As_place (a : Nat) (n : Int) (t : Nat) (old : Value) (w : World) (hg : asLaid w) (ha : w.cell? ⟨a, 0, none⟩ = some (.int .i64 n)) (ht : w.cell? ⟨t, 0, none⟩ = some old) (hf : w.frozen? ⟨t, 0, none⟩ = false) :
    Calls Tryd.prog 143 #[.iface 172 (.pointer (some ⟨a, 0, none⟩)), .iface 206 (.pointer (some ⟨t, 0, none⟩))] w
      fun e w' => e = .returned (.bool true) ∧ w'.cell? ⟨t, 0, none⟩ = some (.int .i64 n) ∧ Below t w w' := by
  have hVO := @run_callFunc_extern Tryd.prog 154 _ (fun args => ReflectliteValue.unpack (args.getD 0 (.tuple #[]))) Tryd.func154 (by kernel_rfl) (by kernel_rfl) (by kernel_rfl) (by kernel_rfl)
  have hTy := @run_callFunc_extern Tryd.prog 155 _ (ReflectliteValue.methodAny (ReflectliteValue.valueError "reflectlite.Value.Type" 0) (fun t _ _ _ => ReflectliteType.toType t)) Tryd.func155 (by kernel_rfl) (by kernel_rfl) (by kernel_rfl) (by kernel_rfl)
  have hIN := @run_callFunc_extern Tryd.prog 156 _ (ReflectliteValue.method (ReflectliteValue.valueError "reflectlite.Value.IsNil" 0) ReflectliteValue.isNil) Tryd.func156 (by kernel_rfl) (by kernel_rfl) (by kernel_rfl) (by kernel_rfl)
  have hKd := @run_callFunc_extern Tryd.prog 179 _ (ReflectliteType.abiMethod fun t => do pure (.int .u8 (← Rtype.kind t))) Tryd.func179 (by kernel_rfl) (by kernel_rfl) (by kernel_rfl) (by kernel_rfl)
  have hEl := @run_callFunc_extern Tryd.prog 193 _ (ReflectliteType.method ReflectliteType.elem) Tryd.func193 (by kernel_rfl) (by kernel_rfl) (by kernel_rfl) (by kernel_rfl)
  have hIm := @run_callFunc_extern Tryd.prog 194 _ (ReflectliteType.relation "Implements" ReflectliteType.implements_) Tryd.func194 (by kernel_rfl) (by kernel_rfl) (by kernel_rfl) (by kernel_rfl)
  have f6 := as_valueOf
  have f7 := as_type
  have mK := as_methodKind
  have mE := as_methodElem
  have mI := as_methodImplements
  have k92 := as_kindP
  have k23 := as_kindE
  have e92 := as_elem
  have i23 := as_implements
  have htl := World.block_lt_of_cell? w _ ht
  have hal := World.block_lt_of_cell? w _ ha
  have hgl := World.block_lt_of_cell? w _ hg
  obtain ⟨o1, ho1⟩ : ∃ o, o = Obj.cells #[.pointer (some ⟨t, 0, none⟩)] 206 := ⟨_, rfl⟩
  obtain ⟨o2, ho2⟩ : ∃ o, o = Obj.cells #[.pointer (some ⟨4, 206, none⟩), .pointer (some ⟨w.heap.size, 0, none⟩), .int .u64 150] 215 := ⟨_, rfl⟩
  have hn8 := as_isNil ⟨w.heap.size, 0, none⟩ ⟨t, 0, none⟩ ((w.alloc o1).alloc o2) (by rw [World.cell?_alloc_lt _ _ ⟨w.heap.size, 0, none⟩ (by rw [World.size_alloc]; exact Nat.lt_succ_self _), ho1]; simp [go_sem])
  have hg2 : ((w.alloc o1).alloc o2).cell? ⟨3, 0, none⟩ = some (.iface 227 (.agg #[.pointer (some ⟨4, 29, none⟩)])) := by
    rw [World.cell?_alloc_lt _ _ ⟨3, 0, none⟩ (by rw [World.size_alloc]; exact Nat.lt_succ_of_lt hgl), World.cell?_alloc_lt _ _ ⟨3, 0, none⟩ hgl]; exact hg
  have hb2 : Below w.heap.size w ((w.alloc o1).alloc o2) := ((Below.refl _ _).alloc (Nat.le_refl _) _).alloc (by rw [World.size_alloc]; exact Nat.le_succ _) _
  have cA := as_place a n t w.heap.size old ((w.alloc o1).alloc o2)
    (by rw [hb2.cell (p := ⟨a, 0, none⟩) hal]; exact ha)
    (by rw [World.cell?_alloc_lt _ _ ⟨w.heap.size, 0, none⟩ (by rw [World.size_alloc]; exact Nat.lt_succ_self _), ho1]; simp [go_sem])
    (by rw [hb2.cell (p := ⟨t, 0, none⟩) htl]; exact ht)
    (by rw [hb2.frozen (p := ⟨t, 0, none⟩) htl]; exact hf)
  unfold target at cA
  subst ho1 ho2
  have HB : Hid (Below t w _) := hb2.mono (Nat.le_of_lt htl)
  clear ha ht hf hg hb2
  go_enter Tryd.func143, Tryd.ntmps143
  go_wp2_with (first | (go_at_call 157; refine cA.mono ?_; rintro e wx ⟨rfl, hc, hbx⟩) | fail)
  go_ret
  exact ⟨rfl, hc, HB.out.trans hbx⟩

set_option maxHeartbeats 400000 in
theorem Tell_nil (w : World) : Calls Tryd.prog 116 #[.nilIface] w fun e w' => e = .returned (.int .i64 0) ∧ w' = w := by
  go_enter Tryd.func116, Tryd.ntmps116
  go_wp2
  go_ret
  exact ⟨rfl, rfl⟩

set_option maxRecDepth 100000 in
set_option maxHeartbeats 1000000 in
theorem Tell_place (a : Nat) (n : Int) (w : World) (hg : asLaid w) (ha : w.cell? ⟨a, 0, none⟩ = some (.int .i64 n)) :
    Calls Tryd.prog 116 #[.iface 172 (.pointer (some ⟨a, 0, none⟩))] w fun e w' => e = .returned (.int .i64 n) ∧ Below w.heap.size w w' := by
  have hal := World.block_lt_of_cell? w _ ha
  have hgl := World.block_lt_of_cell? w _ hg
  have hb1 : Below w.heap.size w (w.alloc (.cells #[.int .i64 0] 23)) := (Below.refl _ _).alloc (Nat.le_refl _) _
  have cA := As_place a n w.heap.size (.int .i64 0) (w.alloc (.cells #[.int .i64 0] 23)) (by unfold asLaid; rw [hb1.cell (p := ⟨3, 0, none⟩) hgl]; exact hg)
    (by rw [hb1.cell (p := ⟨a, 0, none⟩) hal]; exact ha) (by simp [go_sem]) (by simp [go_sem])
  clear hg ha
  go_enter Tryd.func116, Tryd.ntmps116
  go_wp2_with (first | (go_at_call 143; refine cA.mono ?_; rintro e wx ⟨rfl, hc, hbx⟩) | fail)
  go_ret
  exact ⟨rfl, hb1.trans hbx⟩

set_option maxRecDepth 100000 in
set_option maxHeartbeats 1000000 in
theorem Place_nil (w : World) : Calls Tryd.prog 70 #[.nilIface] w fun e w' => e = .returned (.tuple #[.int .i64 0, .int .i64 (-1)]) ∧ w' = w := by
  go_enter Tryd.func70, Tryd.ntmps70
  go_wp2_with (first | (go_at_call 116; refine (Tell_nil _).mono ?_; rintro e wx ⟨rfl, rfl⟩) | fail)
  refine wp_loop_rounds 1 ?_
  rw [rounds_succ]
  go_wp2
  go_ret2
  exact ⟨rfl, rfl⟩

theorem as_isPlace (a : Addr) (w : World) : (Instr.typeAssert (.iface 172 (.pointer (some a))) 29 172 true).run Tryd.prog w = .ok (.tuple #[.pointer (some a), .bool true]) w := by kernel_rfl

set_option maxRecDepth 100000 in
set_option maxHeartbeats 1000000 in
theorem Place_place (a : Nat) (n p : Int) (w : World) (hg : asLaid w) (ha : w.cell? ⟨a, 0, none⟩ = some (.int .i64 n)) (hp : w.cell? ⟨a, 1, none⟩ = some (.int .i64 p)) :
    Calls Tryd.prog 70 #[.iface 172 (.pointer (some ⟨a, 0, none⟩))] w fun e w' => e = .returned (.tuple #[.int .i64 n, .int .i64 p]) ∧ Below w.heap.size w w' := by
  have hal := World.block_lt_of_cell? w _ ha
  have cT := Tell_place a n w hg ha
  have iP := as_isPlace
  clear hg
  go_enter Tryd.func70, Tryd.ntmps70
  go_wp2_with (first | (go_at_call 116; refine cT.mono ?_; rintro e w1 ⟨rfl, hb1⟩; have hp1 := (hb1.cell (p := ⟨a, 1, none⟩) hal).trans hp) | fail)
  refine wp_loop_rounds 1 ?_
  rw [rounds_succ]
  go_wp2
  go_quiet (fail)
  go_wp2
  go_ret2
  exact ⟨rfl, below_drewN hb1 nq⟩

/-- What the law's 'is' is asked where it says yes. -/
theorem is_any_nil (w : World) : Calls Tryd.prog 17 #[.nilIface, .agg #[.int .i64 0, .int .i64 (-1)]] w fun e w' => e = .returned (.bool true) ∧ Below w.heap.size w w' := by
  go_enter Tryd.func17, Tryd.ntmps17
  go_wp2_with (first | (go_at_call 70; refine (Place_nil _).mono ?_; rintro e wx ⟨rfl, rfl⟩) | fail)
  go_ret
  exact ⟨rfl, (Below.refl _ _).alloc (Nat.le_refl _) _⟩

theorem is_any_place (a : Nat) (n p : Int) (w : World) (hg : asLaid w) (ha : w.cell? ⟨a, 0, none⟩ = some (.int .i64 n)) (hp : w.cell? ⟨a, 1, none⟩ = some (.int .i64 p)) :
    Calls Tryd.prog 17 #[.iface 172 (.pointer (some ⟨a, 0, none⟩)), .agg #[.int .i64 n, .int .i64 p]] w fun e w' => e = .returned (.bool true) ∧ Below w.heap.size w w' := by
  have hal := World.block_lt_of_cell? w _ ha
  have hgl := World.block_lt_of_cell? w _ hg
  have hb1 : Below w.heap.size w (w.alloc (.cells #[.int .i64 n, .int .i64 p] 25)) := (Below.refl _ _).alloc (Nat.le_refl _) _
  have cP := Place_place a n p (w.alloc (.cells #[.int .i64 n, .int .i64 p] 25)) (by unfold asLaid; rw [hb1.cell (p := ⟨3, 0, none⟩) hgl]; exact hg)
    (by rw [hb1.cell (p := ⟨a, 0, none⟩) hal]; exact ha) (by rw [hb1.cell (p := ⟨a, 1, none⟩) hal]; exact hp)
  clear hg ha hp
  go_enter Tryd.func17, Tryd.ntmps17
  go_wp2_with (first | (go_at_call 70; refine cP.mono ?_; rintro e w1 ⟨rfl, hb2⟩; have c0 : w1.cell? ⟨w.heap.size, 0, none⟩ = some (.int .i64 n) := (hb2.cell (p := ⟨w.heap.size, 0, none⟩) (by simp)).trans (by simp [go_sem]); have c1 : w1.cell? ⟨w.heap.size, 1, none⟩ = some (.int .i64 p) := (hb2.cell (p := ⟨w.heap.size, 1, none⟩) (by simp)).trans (by simp [go_sem])) | fail)
  go_ret
  exact ⟨rfl, hb1.trans (hb2.mono (by simp))⟩

/-- .. at the errors that utf returns. -/
theorem is_at {w0 w w2 : World} {v : Value} {p : Int} (hg : asLaid w) (h : isAt w0 w2 v p) (hb : Below w2.heap.size w2 w) :
    Calls Tryd.prog 17 #[v, .agg #[.int .i64 3, .int .i64 p]] w fun e w' => e = .returned (.bool true) ∧ Below w.heap.size w w' := by
  obtain ⟨b, rfl, _, h2, h3, h4⟩ := isAt_below h hb
  exact is_any_place b 3 p w hg h3 h4
theorem asLaid_below {w w' : World} (h : asLaid w) (hb : Below w.heap.size w w') : asLaid w' := by
  unfold asLaid
  rw [hb.cell (p := ⟨3, 0, none⟩) (World.block_lt_of_cell? w _ h)]
  exact h
end Go.Proofs.YtgmgkbbnciglhaaDoor

namespace Go.Proofs.YtgmgkbbnciglhaaDoor
open Go.RowKit Go.Extern.Stop Go.Stop Go.Extern

set_option maxRecDepth 100000 in
set_option maxHeartbeats 4000000 in
theorem As_number (n : Int) (t : Nat) (old : Value) (w : World) (hg : asLaid w) (ht : w.cell? ⟨t, 0, none⟩ = some old) (hf : w.frozen? ⟨t, 0, none⟩ = false) :
    Calls Tryd.prog 143 #[.iface 23 (.int .i64 n), .iface 206 (.pointer (some ⟨t, 0, none⟩))] w
      fun e w' => e = .returned (.bool true) ∧ w'.cell? ⟨t, 0, none⟩ = some (.int .i64 n) ∧ Below t w w' := by
  have hVO := @run_callFunc_extern Tryd.prog 154 _ (fun args => ReflectliteValue.unpack (args.getD 0 (.tuple #[]))) Tryd.func154 (by kernel_rfl) (by kernel_rfl) (by kernel_rfl) (by kernel_rfl)
  have hTy := @run_callFunc_extern Tryd.prog 155 _ (ReflectliteValue.methodAny (ReflectliteValue.valueError "reflectlite.Value.Type" 0) (fun t _ _ _ => ReflectliteType.toType t)) Tryd.func155 (by kernel_rfl) (by kernel_rfl) (by kernel_rfl) (by kernel_rfl)
  have hIN := @run_callFunc_extern Tryd.prog 156 _ (ReflectliteValue.method (ReflectliteValue.valueError "reflectlite.Value.IsNil" 0) ReflectliteValue.isNil) Tryd.func156 (by kernel_rfl) (by kernel_rfl) (by kernel_rfl) (by kernel_rfl)
  have hKd := @run_callFunc_extern Tryd.prog 179 _ (ReflectliteType.abiMethod fun t => do pure (.int .u8 (← Rtype.kind t))) Tryd.func179 (by kernel_rfl) (by kernel_rfl) (by kernel_rfl) (by kernel_rfl)
  have hEl := @run_callFunc_extern Tryd.prog 193 _ (ReflectliteType.method ReflectliteType.elem) Tryd.func193 (by kernel_rfl) (by kernel_rfl) (by kernel_rfl) (by kernel_rfl)
  have hIm := @run_callFunc_extern Tryd.prog 194 _ (ReflectliteType.relation "Implements" ReflectliteType.implements_) Tryd.func194 (by kernel_rfl) (by kernel_rfl) (by kernel_rfl) (by kernel_rfl)
  have f6 := as_valueOf
  have f7 := as_type
  have mK := as_methodKind
  have mE := as_methodElem
  have mI := as_methodImplements
  have k92 := as_kindP
  have k23 := as_kindE
  have e92 := as_elem
  have i23 := as_implements
  have htl := World.block_lt_of_cell? w _ ht
  have hgl := World.block_lt_of_cell? w _ hg
  obtain ⟨o1, ho1⟩ : ∃ o, o = Obj.cells #[.pointer (some ⟨t, 0, none⟩)] 206 := ⟨_, rfl⟩
  obtain ⟨o2, ho2⟩ : ∃ o, o = Obj.cells #[.pointer (some ⟨4, 206, none⟩), .pointer (some ⟨w.heap.size, 0, none⟩), .int .u64 150] 215 := ⟨_, rfl⟩
  have hn8 := as_isNil ⟨w.heap.size, 0, none⟩ ⟨t, 0, none⟩ ((w.alloc o1).alloc o2) (by rw [World.cell?_alloc_lt _ _ ⟨w.heap.size, 0, none⟩ (by rw [World.size_alloc]; exact Nat.lt_succ_self _), ho1]; simp [go_sem])
  have hg2 : ((w.alloc o1).alloc o2).cell? ⟨3, 0, none⟩ = some (.iface 227 (.agg #[.pointer (some ⟨4, 29, none⟩)])) := by
    rw [World.cell?_alloc_lt _ _ ⟨3, 0, none⟩ (by rw [World.size_alloc]; exact Nat.lt_succ_of_lt hgl), World.cell?_alloc_lt _ _ ⟨3, 0, none⟩ hgl]; exact hg
  have hb2 : Below w.heap.size w ((w.alloc o1).alloc o2) := ((Below.refl _ _).alloc (Nat.le_refl _) _).alloc (by rw [World.size_alloc]; exact Nat.le_succ _) _
  have cA := as_number n t w.heap.size old ((w.alloc o1).alloc o2)
    (by rw [World.cell?_alloc_lt _ _ ⟨w.heap.size, 0, none⟩ (by rw [World.size_alloc]; exact Nat.lt_succ_self _), ho1]; simp [go_sem])
    (by rw [hb2.cell (p := ⟨t, 0, none⟩) htl]; exact ht)
    (by rw [hb2.frozen (p := ⟨t, 0, none⟩) htl]; exact hf)
  unfold target at cA
  subst ho1 ho2
  have HB : Hid (Below t w _) := hb2.mono (Nat.le_of_lt htl)
  clear ht hf hg hb2
  go_enter Tryd.func143, Tryd.ntmps143
  go_wp2_with (first | (go_at_call 157; refine cA.mono ?_; rintro e wx ⟨rfl, hc, hbx⟩) | fail)
  go_ret
  exact ⟨rfl, hc, HB.out.trans hbx⟩

set_option maxRecDepth 100000 in
set_option maxHeartbeats 1000000 in
theorem Tell_number (n : Int) (w : World) (hg : asLaid w) :
    Calls Tryd.prog 116 #[.iface 23 (.int .i64 n)] w fun e w' => e = .returned (.int .i64 n) ∧ Below w.heap.size w w' := by
  have hgl := World.block_lt_of_cell? w _ hg
  have hb1 : Below w.heap.size w (w.alloc (.cells #[.int .i64 0] 23)) := (Below.refl _ _).alloc (Nat.le_refl _) _
  have cA := As_number n w.heap.size (.int .i64 0) (w.alloc (.cells #[.int .i64 0] 23)) (by unfold asLaid; rw [hb1.cell (p := ⟨3, 0, none⟩) hgl]; exact hg)
    (by simp [go_sem]) (by simp [go_sem])
  clear hg
  go_enter Tryd.func116, Tryd.ntmps116
  go_wp2_with (first | (go_at_call 143; refine cA.mono ?_; rintro e wx ⟨rfl, hc, hbx⟩) | fail)
  go_ret
  exact ⟨rfl, hb1.trans hbx⟩

theorem num_isPlace (n : Int) (w : World) : (Instr.typeAssert (.iface 23 (.int .i64 n)) 29 172 true).run Tryd.prog w = .ok (.tuple #[.pointer none, .bool false]) w := by kernel_rfl
theorem num_noUnwrap (v : Value) (xT : TypeId) (w : World) : (Instr.typeAssert (.iface 23 v) xT 175 true).run Tryd.prog w = .ok (.tuple #[.nilIface, .bool false]) w := run_typeAssert_lacksB Tryd.underlying175 (by kernel_rfl) (by kernel_rfl) v xT w

set_option maxRecDepth 100000 in
set_option maxHeartbeats 1000000 in
theorem Place_number (n : Int) (w : World) (hg : asLaid w) :
    Calls Tryd.prog 70 #[.iface 23 (.int .i64 n)] w fun e w' => e = .returned (.tuple #[.int .i64 n, .int .i64 (-1)]) ∧ Below w.heap.size w w' := by
  have cT := Tell_number n w hg
  have iP := num_isPlace
  have nU := num_noUnwrap
  clear hg
  go_enter Tryd.func70, Tryd.ntmps70
  go_wp2_with (first | (go_at_call 116; refine cT.mono ?_; rintro e w1 ⟨rfl, hb1⟩) | fail)
  refine wp_loop_rounds 1 ?_
  rw [rounds_succ]
  go_wp2
  go_ret2
  exact ⟨rfl, hb1⟩

theorem is_any_number (n : Int) (w : World) (hg : asLaid w) : Calls Tryd.prog 17 #[.iface 23 (.int .i64 n), .agg #[.int .i64 n, .int .i64 (-1)]] w fun e w' => e = .returned (.bool true) ∧ Below w.heap.size w w' := by
  have hb1 : Below w.heap.size w (w.alloc (.cells #[.int .i64 n, .int .i64 (-1)] 25)) := (Below.refl _ _).alloc (Nat.le_refl _) _
  have cP := Place_number n (w.alloc (.cells #[.int .i64 n, .int .i64 (-1)] 25)) (asLaid_below hg hb1)
  clear hg
  go_enter Tryd.func17, Tryd.ntmps17
  go_wp2_with (first | (go_at_call 70; refine cP.mono ?_; rintro e w1 ⟨rfl, hb2⟩; have c0 : w1.cell? ⟨w.heap.size, 0, none⟩ = some (.int .i64 n) := (hb2.cell (p := ⟨w.heap.size, 0, none⟩) (by simp)).trans (by simp [go_sem]); have c1 : w1.cell? ⟨w.heap.size, 1, none⟩ = some (.int .i64 (-1)) := (hb2.cell (p := ⟨w.heap.size, 1, none⟩) (by simp)).trans (by simp [go_sem])) | fail)
  go_ret
  exact ⟨rfl, hb1.trans (hb2.mono (by simp))⟩

/-- An error number, or none. -/
def errV (n : Int) : Value := if n = 0 then .nilIface else .iface 23 (.int .i64 n)

/-- The law's 'bare', where both tell the same. -/
theorem bare_any (n : Int) (w : World) (hg : asLaid w) : Calls Tryd.prog 30 #[errV n, .int .i64 n] w fun e w' => e = .returned (.bool true) ∧ Below w.heap.size w w' := by
  have cB := Bare_any n w
  unfold errV
  by_cases h : n = 0
  · subst h
    simp only [if_true]
    clear hg
    go_enter Tryd.func30, Tryd.ntmps30
    go_wp2_with (first | (go_at_call 62; refine cB.mono ?_; rintro e w1 ⟨rfl, hb1⟩) | (go_at_call 17; refine (is_any_nil _).mono ?_; rintro e w2 ⟨rfl, hb2⟩) | fail)
    go_ret
    exact ⟨rfl, hb1.trans (hb2.mono hb1.size)⟩
  · simp only [h, if_false]
    have HG : Hid (∀ wx, Below w.heap.size w wx → asLaid wx) := fun wx hb => asLaid_below hg hb
    clear hg
    go_enter Tryd.func30, Tryd.ntmps30
    go_wp2_with (first | (go_at_call 62; refine cB.mono ?_; rintro e w1 ⟨rfl, hb1⟩) | (go_at_call 17; refine (is_any_number n _ (HG.out _ hb1)).mono ?_; rintro e w2 ⟨rfl, hb2⟩) | fail)
    go_ret
    exact ⟨rfl, hb1.trans (hb2.mono hb1.size)⟩
end Go.Proofs.YtgmgkbbnciglhaaDoor

namespace Go.Proofs.YtgmgkbbnciglhaaDoor
open Go.RowKit
set_option linter.unusedVariables false
attribute [local go_sem] Oper.semAt_some

def unitOk (u : Int) : Prop := u = 1 ∨ u = 2 ∨ u = 3
theorem isUnit_bad (u : Int) (hu : ¬ unitOk u) (w : World) : Calls Tryd.prog 92 #[.int .i64 u] w fun e w' => e = .returned (.bool false) ∧ w' = w := by
  have k1 : (u == 1) = false := beq_eq_false_iff_ne.2 fun e => hu (.inl e)
  have k2 : (u == 2) = false := beq_eq_false_iff_ne.2 fun e => hu (.inr (.inl e))
  have k3 : (u == 3) = false := beq_eq_false_iff_ne.2 fun e => hu (.inr (.inr e))
  clear hu
  go_enter Tryd.func92, Tryd.ntmps92
  go_wp2
  go_ret
  exact ⟨rfl, rfl⟩
set_option maxRecDepth 100000 in
set_option maxHeartbeats 1000000 in
theorem ahead_bad (b : Nat) (u at_ : Int) (hu : ¬ unitOk u) (w : World) :
    Calls Tryd.prog 42 #[.pointer (some ⟨b, 0, none⟩), .int .i64 u, .int .i64 at_] w fun e w' => e = .returned (.tuple #[cntV [], errV 1]) ∧ Below w.heap.size w w' := by
  have cN := fun wx => isUnit_bad u hu wx
  have hb2 : Below w.heap.size w (((w.alloc (.cells #[.int .i64 u] 3)).alloc (.cells #[.int .i64 at_] 3)).alloc (.cells #[.int .i64 0, .int .i64 0, .int .i64 0, .int .i64 0] 36)) := (((Below.refl _ w).alloc (Nat.le_refl _) _).alloc (by simp) _).alloc (by simp; omega) _
  have HB2 : Hid _ := hb2
  have hV : errV 1 = .iface 23 (.int .i64 1) := rfl
  have hC : cntV [] = .agg #[.int .i64 0, .int .i64 0, .int .i64 0, .int .i64 0] := rfl
  rw [hV, hC]
  clear hu hb2 hV hC
  go_enter Tryd.func42, Tryd.ntmps42
  go_wp2_with (first
    | (go_at_call 92; refine (cN _).mono ?_; rintro e w1 ⟨rfl, hw1⟩; obtain rfl := hw1.symm)
    | fail)
  refine bodyPost_ret (v := .tuple #[.agg #[.int .i64 0, .int .i64 0, .int .i64 0, .int .i64 0], .iface 23 (.int .i64 1)]) (by simp [results, Tryd.results42, go_sem]) rfl ⟨rfl, HB2.out⟩
set_option maxHeartbeats 1000000 in
theorem unitError_bad (b : Nat) (u : Int) (hu : ¬ unitOk u) (w : World) :
    Calls Tryd.prog 89 #[.pointer (some ⟨b, 0, none⟩), .int .i64 u] w fun e w' => e = .returned (errV 1) ∧ Below w.heap.size w w' := by
  have cA : Hid _ := ahead_bad b u 0 hu w
  have hV : errV 1 = .iface 23 (.int .i64 1) := rfl
  have hC : cntV [] = .agg #[.int .i64 0, .int .i64 0, .int .i64 0, .int .i64 0] := rfl
  rw [hV] at cA ⊢
  rw [hC] at cA
  clear hu hV hC
  go_enter Tryd.func89, Tryd.ntmps89
  go_wp2_with (first
    | (go_at_call 42; refine Calls.mono cA.out ?_; rintro e w1 ⟨rfl, hb1⟩)
    | fail)
  go_ret
  exact ⟨rfl, hb1.alloc hb1.size _⟩
set_option maxHeartbeats 1000000 in
theorem convert_to (b : Nat) (u v at_ : Int) (hv : ¬ unitOk v) (w : World) :
    Calls Tryd.prog 39 #[.pointer (some ⟨b, 0, none⟩), .int .i64 u, .int .i64 v, .int .i64 at_] w fun e w' => e = .returned (.tuple #[.int .i64 0, errV 1]) ∧ Below w.heap.size w w' := by
  have cU : Hid _ := unitError_bad b v hv w
  have hV : errV 1 = .iface 23 (.int .i64 1) := rfl
  rw [hV] at cU ⊢
  clear hv hV
  go_enter Tryd.func39, Tryd.ntmps39
  go_wp2_with (first
    | (go_at_call 89; refine Calls.mono cU.out ?_; rintro e w1 ⟨rfl, hb1⟩)
    | fail)
  go_ret2
  exact ⟨rfl, hb1⟩
set_option maxHeartbeats 1000000 in
theorem convert_from (b : Nat) (rs : List Nat) (u v at_ : Int) (hv : unitOk v) (hu : ¬ unitOk u) (w : World) (hT : Lib.Utf8Tabs 0 1 w) (h : isRope w b rs) (hz : C1 rs ≤ 100000000) :
    Calls Tryd.prog 39 #[.pointer (some ⟨b, 0, none⟩), .int .i64 u, .int .i64 v, .int .i64 at_] w fun e w' => e = .returned (.tuple #[.int .i64 0, errV 1]) ∧ Below w.heap.size w w' := by
  have cU : Hid _ := unitError_good b rs v hv w hT h hz
  have cA : Hid (∀ wx, Calls Tryd.prog 42 #[.pointer (some ⟨b, 0, none⟩), .int .i64 u, .int .i64 at_] wx fun e w' => e = .returned (.tuple #[.agg #[.int .i64 0, .int .i64 0, .int .i64 0, .int .i64 0], .iface 23 (.int .i64 1)]) ∧ Below wx.heap.size wx w') := fun wx => ahead_bad b u at_ hu wx
  have hV : errV 1 = .iface 23 (.int .i64 1) := rfl
  rw [hV]
  clear hv hu hV hT h hz
  go_enter Tryd.func39, Tryd.ntmps39
  go_wp2_with (first
    | (go_at_call 89; refine Calls.mono cU.out ?_; rintro e w1 ⟨rfl, hb1⟩; have HB1 : Hid (Below w.heap.size w w1) := hb1; clear hb1)
    | (go_at_call 42; refine (cA.out _).mono ?_; rintro e w2 ⟨rfl, hb2⟩; have HB2 : Hid (Below w.heap.size w w2) := HB1.out.trans (hb2.mono HB1.out.size); clear hb2)
    | fail)
  go_ret2
  exact ⟨rfl, HB2.out.alloc HB2.out.size _⟩
set_option maxHeartbeats 1000000 in
theorem convert_ord (b : Nat) (rs : List Nat) (u v at_ : Int) (hu : unitOk u) (hv : unitOk v) (hl0 : 0 ≤ at_) (hl1 : at_ ≤ by_ u rs) (w : World) (hT : Lib.Utf8Tabs 0 1 w) (h : isRope w b rs) (hz : C1 rs ≤ 100000000) (X : List Nat) (hX : find (reachesBy u at_) [] rs = X) (hfine : by_ u X ≠ at_) :
    Calls Tryd.prog 39 #[.pointer (some ⟨b, 0, none⟩), .int .i64 u, .int .i64 v, .int .i64 at_] w fun e w' => e = .returned (.tuple #[.int .i64 0, errV 10]) ∧ Below w.heap.size w w' := by
  have cU : Hid _ := unitError_good b rs v hv w hT h hz
  have cA : Hid (∀ wx, Below w.heap.size w wx → Calls Tryd.prog 42 #[.pointer (some ⟨b, 0, none⟩), .int .i64 u, .int .i64 at_] wx fun e w' => e = .returned (.tuple #[.agg #[.int .i64 0, .int .i64 0, .int .i64 0, .int .i64 0], .iface 23 (.int .i64 10)]) ∧ Below wx.heap.size wx w') := fun wx hb => by
    have := ahead_any b rs u at_ hu hl0 hl1 wx (Go.Proofs.Utf8Tabs_below hT hb) (isRope_below h hb) hz
    rw [hX, if_neg hfine] at this
    exact this
  have hV : errV 10 = .iface 23 (.int .i64 10) := rfl
  rw [hV]
  clear hT h hu hz hv hl0 hl1 hX hfine hV
  go_enter Tryd.func39, Tryd.ntmps39
  go_wp2_with (first
    | (go_at_call 89; refine Calls.mono cU.out ?_; rintro e w1 ⟨rfl, hb1⟩; have HB1 : Hid (Below w.heap.size w w1) := hb1; clear hb1)
    | (go_at_call 42; refine (cA.out _ HB1.out).mono ?_; rintro e w2 ⟨rfl, hb2⟩; have HB2 : Hid (Below w.heap.size w w2) := HB1.out.trans (hb2.mono HB1.out.size); clear hb2)
    | fail)
  go_ret2
  exact ⟨rfl, HB2.out.alloc HB2.out.size _⟩
end Go.Proofs.YtgmgkbbnciglhaaDoor

namespace Go.Proofs.YtgmgkbbnciglhaaDoor
open Go.RowKit
set_option linter.unusedVariables false
attribute [local go_sem] Oper.semAt_some yieldsUpon okUpon field0 field3

set_option maxRecDepth 100000 in
set_option maxHeartbeats 2000000 in
theorem ahead_far (b : Nat) (rs : List Nat) (u at_ : Int) (hu : u = 1 ∨ u = 2 ∨ u = 3) (hl0 : 0 ≤ at_) (hl1 : by_ u rs < at_) (w : World) (hT : Lib.Utf8Tabs 0 1 w) (h : isRope w b rs) (hz : C1 rs ≤ 100000000) :
    Calls Tryd.prog 42 #[.pointer (some ⟨b, 0, none⟩), .int .i64 u, .int .i64 at_] w fun e w' => e = .returned (.tuple #[cntV [], .iface 23 (.int .i64 2)]) ∧ Below w.heap.size w w' := by
  obtain ⟨q, t, h1, _, _, h4, ho, rfl⟩ := h
  have hb2 : Below w.heap.size w (((w.alloc (.cells #[.int .i64 u] 3)).alloc (.cells #[.int .i64 at_] 3)).alloc (.cells #[.int .i64 0, .int .i64 0, .int .i64 0, .int .i64 0] 36)) := (((Below.refl _ w).alloc (Nat.le_refl _) _).alloc (by simp) _).alloc (by simp; omega) _
  have hlu : (((w.alloc (.cells #[.int .i64 u] 3)).alloc (.cells #[.int .i64 at_] 3)).alloc (.cells #[.int .i64 0, .int .i64 0, .int .i64 0, .int .i64 0] 36)).cell? ⟨w.heap.size, 0, none⟩ = some (.int .i64 u) := by simp [go_sem]
  have hla : (((w.alloc (.cells #[.int .i64 u] 3)).alloc (.cells #[.int .i64 at_] 3)).alloc (.cells #[.int .i64 0, .int .i64 0, .int .i64 0, .int .i64 0] 36)).cell? ⟨w.heap.size + 1, 0, none⟩ = some (.int .i64 at_) := by simp [go_sem]
  have hr := counted_new ((w.alloc (.cells #[.int .i64 u] 3)).alloc (.cells #[.int .i64 at_] 3)) 0 0 0 0 36
  rw [World.size_alloc, World.size_alloc] at hr
  have cT := fun wx (hb : Below w.heap.size w wx) => ropetree_any b q wx (cell_on hb h1)
  have cC := fun wx (hb : Below w.heap.size w wx) => ncounts_any q t wx (isTree_below hb h4)
  have cN := fun wx => isUnit_good u hu wx
  have cI := fun wx => In_any u t.runes wx
  generalize by_ u t.runes = n at *
  have n0 : ¬ at_ < 0 := by omega
  have n1 : n < at_ := by omega
  have hC : cntV [] = .agg #[.int .i64 0, .int .i64 0, .int .i64 0, .int .i64 0] := rfl
  rw [hC]
  clear hC
  clear h4 ho hT hu hz
  unfold cntV at cI
  go_enter Tryd.func42, Tryd.ntmps42
  go_wp2_with (first
    | (go_at_call 92; refine (cN _).mono ?_; rintro e w1 ⟨rfl, hw1⟩; obtain rfl := hw1.symm)
    | (go_at_call 82; refine (cT _ hb2).mono ?_; rintro e w1 ⟨rfl, hw1⟩; obtain rfl := hw1.symm)
    | fail)
  obtain ⟨W2, hW2⟩ : ∃ W2, (((w.alloc (.cells #[.int .i64 u] 3)).alloc (.cells #[.int .i64 at_] 3)).alloc (.cells #[.int .i64 0, .int .i64 0, .int .i64 0, .int .i64 0] 36)) = W2 := ⟨_, rfl⟩
  rw [hW2] at hb2 hlu hla hr ⊢
  clear hW2
  refine wp_region_rel 10 10 (by kernel_rfl) rfl ?_
  intro w3 hb3
  have hb23 := hb2.trans (hb3.mono hb2.size)
  obtain ⟨G, hG⟩ := exists_growth w3
  have gl := hG.cell (cell_on hb3 hla)
  have gu := hG.cell (cell_on hb3 hlu)
  have cG := fun x => cC (G x) (hb23.trans ((hG.below x).mono hb23.size))
  have cJ := fun x => cI (G x)
  (refine anyG_step hG (i := 0) rfl (by kernel_rfl) (by kernel_rfl) (by kernel_rfl) (fun K hK => ?_); go_simp; refine hK _ ?_; clear hK K)
  (refine anyG_step hG (i := 1) rfl (by kernel_rfl) (by kernel_rfl) (by kernel_rfl) (fun K hK => ?_); go_simp; refine hK _ ?_; clear hK K)
  (refine anyG_step hG (i := 2) rfl (by kernel_rfl) (by kernel_rfl) (by kernel_rfl) (fun K hK => ?_); go_simp; refine hK _ ?_; clear hK K)
  (refine anyG_step hG (i := 3) rfl (by kernel_rfl) (by kernel_rfl) (by kernel_rfl) (fun K hK => ?_); go_simp; refine hK _ ?_; clear hK K)
  (refine anyG_step hG (i := 4) rfl (by kernel_rfl) (by kernel_rfl) (by kernel_rfl) (fun K hK => ?_); go_simp; refine hK _ ?_; clear hK K)
  (refine anyG_step hG (i := 5) rfl (by kernel_rfl) (by kernel_rfl) (by kernel_rfl) (fun K hK => ?_); go_simp; apply Exists.intro; refine ⟨fun _ => ?_, hK _ ?_⟩; exact cG _; clear hK K)
  (refine anyG_step hG (i := 6) rfl (by kernel_rfl) (by kernel_rfl) (by kernel_rfl) (fun K hK => ?_); go_simp; refine hK _ ?_; clear hK K)
  (refine anyG_step hG (i := 7) rfl (by kernel_rfl) (by kernel_rfl) (by kernel_rfl) (fun K hK => ?_); go_simp; apply Exists.intro; refine ⟨fun _ => ?_, hK _ ?_⟩; exact cJ _; clear hK K)
  (refine anyG_step hG (i := 8) rfl (by kernel_rfl) (by kernel_rfl) (by kernel_rfl) (fun K hK => ?_); go_simp; refine hK _ ?_; clear hK K)
  (refine anyG_step hG (i := 9) rfl (by kernel_rfl) (by kernel_rfl) (by kernel_rfl) (fun K hK => ?_); go_simp; refine hK _ ?_; clear hK K)
  clear gl gu cG cJ hG
  refine anyG_end (by kernel_rfl) ?_
  intro w4 hb4
  have hb34 := hb3.trans (hb4.mono hb3.size)
  have hb24 := hb2.trans (hb34.mono hb2.size)
  have hr4 := counted_below hr hb34
  have HR4 : Hid _ := hr4
  have HB24 : Hid _ := hb24
  obtain ⟨⟨z0, z1, z2, z3⟩, y0, y1, y2, y3⟩ := hr4
  clear hb3 hb4 hb34 hb23 hb24 cC cT cI cN hlu hla hr
  go_wp2
  have hset := counted_set (m1 := 0) (m2 := 0) (m3 := 0) (m4 := 0) HR4.out
  obtain ⟨⟨s0, s1, s2, s3⟩, _⟩ := hset
  refine bodyPost_ret (v := .tuple #[.agg #[.int .i64 0, .int .i64 0, .int .i64 0, .int .i64 0], .iface 23 (.int .i64 2)]) (by simp [results, Tryd.results42, go_sem, s0, s1, s2, s3]) rfl ⟨rfl, below_set4 HB24.out (by omega) _ _ _ _⟩

set_option maxRecDepth 100000 in
set_option maxHeartbeats 2000000 in
theorem ahead_neg (b : Nat) (rs : List Nat) (u at_ : Int) (hu : u = 1 ∨ u = 2 ∨ u = 3) (hl0 : at_ < 0) (w : World) (h : isRope w b rs) :
    Calls Tryd.prog 42 #[.pointer (some ⟨b, 0, none⟩), .int .i64 u, .int .i64 at_] w fun e w' => e = .returned (.tuple #[cntV [], .iface 23 (.int .i64 2)]) ∧ Below w.heap.size w w' := by
  obtain ⟨q, t, h1, _, _, h4, ho, rfl⟩ := h
  have hb2 : Below w.heap.size w (((w.alloc (.cells #[.int .i64 u] 3)).alloc (.cells #[.int .i64 at_] 3)).alloc (.cells #[.int .i64 0, .int .i64 0, .int .i64 0, .int .i64 0] 36)) := (((Below.refl _ w).alloc (Nat.le_refl _) _).alloc (by simp) _).alloc (by simp; omega) _
  have hlu : (((w.alloc (.cells #[.int .i64 u] 3)).alloc (.cells #[.int .i64 at_] 3)).alloc (.cells #[.int .i64 0, .int .i64 0, .int .i64 0, .int .i64 0] 36)).cell? ⟨w.heap.size, 0, none⟩ = some (.int .i64 u) := by simp [go_sem]
  have hla : (((w.alloc (.cells #[.int .i64 u] 3)).alloc (.cells #[.int .i64 at_] 3)).alloc (.cells #[.int .i64 0, .int .i64 0, .int .i64 0, .int .i64 0] 36)).cell? ⟨w.heap.size + 1, 0, none⟩ = some (.int .i64 at_) := by simp [go_sem]
  have hr := counted_new ((w.alloc (.cells #[.int .i64 u] 3)).alloc (.cells #[.int .i64 at_] 3)) 0 0 0 0 36
  rw [World.size_alloc, World.size_alloc] at hr
  have cT := fun wx (hb : Below w.heap.size w wx) => ropetree_any b q wx (cell_on hb h1)
  have cN := fun wx => isUnit_good u hu wx
  have hC : cntV [] = .agg #[.int .i64 0, .int .i64 0, .int .i64 0, .int .i64 0] := rfl
  rw [hC]
  clear h4 ho hu hC
  go_enter Tryd.func42, Tryd.ntmps42
  go_wp2_with (first
    | (go_at_call 92; refine (cN _).mono ?_; rintro e w1 ⟨rfl, hw1⟩; obtain rfl := hw1.symm)
    | (go_at_call 82; refine (cT _ hb2).mono ?_; rintro e w1 ⟨rfl, hw1⟩; obtain rfl := hw1.symm)
    | fail)
  obtain ⟨W2, hW2⟩ : ∃ W2, (((w.alloc (.cells #[.int .i64 u] 3)).alloc (.cells #[.int .i64 at_] 3)).alloc (.cells #[.int .i64 0, .int .i64 0, .int .i64 0, .int .i64 0] 36)) = W2 := ⟨_, rfl⟩
  rw [hW2] at hb2 hlu hla hr ⊢
  clear hW2
  have HR4 : Hid _ := hr
  have HB24 : Hid _ := hb2
  obtain ⟨⟨z0, z1, z2, z3⟩, y0, y1, y2, y3⟩ := hr
  clear hb2 cT cN
  go_region
  go_wp2
  have hset := counted_set (m1 := 0) (m2 := 0) (m3 := 0) (m4 := 0) HR4.out
  obtain ⟨⟨s0, s1, s2, s3⟩, _⟩ := hset
  refine bodyPost_ret (v := .tuple #[.agg #[.int .i64 0, .int .i64 0, .int .i64 0, .int .i64 0], .iface 23 (.int .i64 2)]) (by simp [results, Tryd.results42, go_sem, s0, s1, s2, s3]) rfl ⟨rfl, (below_set4 HB24.out (by omega) _ _ _ _).drew⟩

/-- Ahead, of a unit: what it tells. -/
def aheadE (u at_ : Int) (rs : List Nat) : Value :=
  if at_ < 0 ∨ by_ u rs < at_ then .tuple #[cntV [], .iface 23 (.int .i64 2)]
  else if by_ u (find (reachesBy u at_) [] rs) = at_ then .tuple #[cntV (find (reachesBy u at_) [] rs), .nilIface] else .tuple #[cntV [], .iface 23 (.int .i64 10)]
theorem ahead_all (b : Nat) (rs : List Nat) (u at_ : Int) (hu : u = 1 ∨ u = 2 ∨ u = 3) (w : World) (hT : Lib.Utf8Tabs 0 1 w) (h : isRope w b rs) (hz : C1 rs ≤ 100000000) :
    Calls Tryd.prog 42 #[.pointer (some ⟨b, 0, none⟩), .int .i64 u, .int .i64 at_] w fun e w' => e = .returned (aheadE u at_ rs) ∧ Below w.heap.size w w' := by
  unfold aheadE
  by_cases h0 : at_ < 0
  · rw [if_pos (Or.inl h0)]
    exact ahead_neg b rs u at_ hu h0 w h
  · by_cases h1 : by_ u rs < at_
    · rw [if_pos (Or.inr h1)]
      exact ahead_far b rs u at_ hu (by omega) h1 w hT h hz
    · rw [if_neg (by omega)]
      refine (ahead_any b rs u at_ hu (by omega) (by omega) w hT h hz).mono ?_
      rintro e w' ⟨rfl, hb⟩
      refine ⟨?_, hb⟩
      split <;> rfl
end Go.Proofs.YtgmgkbbnciglhaaDoor

namespace Go.Proofs.YtgmgkbbnciglhaaDoor
open Go.RowKit
set_option linter.unusedVariables false
attribute [local go_sem] Oper.semAt_some

set_option maxHeartbeats 1000000 in
theorem convert_rng (b : Nat) (rs : List Nat) (u v at_ : Int) (hu : unitOk u) (hv : unitOk v) (hl : at_ < 0 ∨ by_ u rs < at_) (w : World) (hT : Lib.Utf8Tabs 0 1 w) (h : isRope w b rs) (hz : C1 rs ≤ 100000000) :
    Calls Tryd.prog 39 #[.pointer (some ⟨b, 0, none⟩), .int .i64 u, .int .i64 v, .int .i64 at_] w fun e w' => e = .returned (.tuple #[.int .i64 0, errV 2]) ∧ Below w.heap.size w w' := by
  have cU : Hid _ := unitError_good b rs v hv w hT h hz
  have cA : Hid (∀ wx, Below w.heap.size w wx → Calls Tryd.prog 42 #[.pointer (some ⟨b, 0, none⟩), .int .i64 u, .int .i64 at_] wx fun e w' => e = .returned (.tuple #[.agg #[.int .i64 0, .int .i64 0, .int .i64 0, .int .i64 0], .iface 23 (.int .i64 2)]) ∧ Below wx.heap.size wx w') := fun wx hb => by
    have := ahead_all b rs u at_ hu wx (Go.Proofs.Utf8Tabs_below hT hb) (isRope_below h hb) hz
    unfold aheadE at this
    rw [if_pos hl] at this
    exact this
  have hV : errV 2 = .iface 23 (.int .i64 2) := rfl
  rw [hV]
  clear hT h hu hz hv hl hV
  go_enter Tryd.func39, Tryd.ntmps39
  go_wp2_with (first
    | (go_at_call 89; refine Calls.mono cU.out ?_; rintro e w1 ⟨rfl, hb1⟩; have HB1 : Hid (Below w.heap.size w w1) := hb1; clear hb1)
    | (go_at_call 42; refine (cA.out _ HB1.out).mono ?_; rintro e w2 ⟨rfl, hb2⟩; have HB2 : Hid (Below w.heap.size w w2) := HB1.out.trans (hb2.mono HB1.out.size); clear hb2)
    | fail)
  go_ret2
  exact ⟨rfl, HB2.out.alloc HB2.out.size _⟩

/-- What Convert tells. -/
def convE (u v at_ : Int) (rs : List Nat) : Value :=
  if ¬ (v = 1 ∨ v = 2 ∨ v = 3) then .tuple #[.int .i64 0, errV 1]
  else if ¬ (u = 1 ∨ u = 2 ∨ u = 3) then .tuple #[.int .i64 0, errV 1]
  else if at_ < 0 ∨ by_ u rs < at_ then .tuple #[.int .i64 0, errV 2]
  else if by_ u (find (reachesBy u at_) [] rs) = at_ then .tuple #[.int .i64 (by_ v (find (reachesBy u at_) [] rs)), .nilIface] else .tuple #[.int .i64 0, errV 10]
theorem convert_all (b : Nat) (rs : List Nat) (u v at_ : Int) (w : World) (hT : Lib.Utf8Tabs 0 1 w) (h : isRope w b rs) (hz : C1 rs ≤ 100000000) :
    Calls Tryd.prog 39 #[.pointer (some ⟨b, 0, none⟩), .int .i64 u, .int .i64 v, .int .i64 at_] w fun e w' => e = .returned (convE u v at_ rs) ∧ Below w.heap.size w w' := by
  unfold convE
  by_cases hv : (v = 1 ∨ v = 2 ∨ v = 3)
  · rw [if_neg (not_not_intro hv)]
    by_cases hu : (u = 1 ∨ u = 2 ∨ u = 3)
    · rw [if_neg (not_not_intro hu)]
      by_cases hl : at_ < 0 ∨ by_ u rs < at_
      · rw [if_pos hl]
        exact convert_rng b rs u v at_ hu hv hl w hT h hz
      · rw [if_neg hl]
        by_cases hf : by_ u (find (reachesBy u at_) [] rs) = at_
        · rw [if_pos hf]
          exact convert_any b rs u v at_ hu hv (by omega) (by omega) w hT h hz _ rfl hf
        · rw [if_neg hf]
          exact convert_ord b rs u v at_ hu hv (by omega) (by omega) w hT h hz _ rfl hf
    · rw [if_pos hu]
      exact convert_from b rs u v at_ hv hu w hT h hz
  · rw [if_pos hv]
    exact convert_to b u v at_ hv w
end Go.Proofs.YtgmgkbbnciglhaaDoor

namespace Go.Proofs.YtgmgkbbnciglhaaDoor
open Go.RowKit
set_option linter.unusedVariables false
attribute [local go_sem] Oper.semAt_some yieldsUpon okUpon field0 field3

/-- A spot's two cells. -/
def spotW (w : World) (a : Nat) (x y : Int) : Prop :=
  (w.cell? ⟨a, 0, none⟩ = some (.int .i64 x) ∧ w.cell? ⟨a, 1, none⟩ = some (.int .i64 y)) ∧ w.frozen? ⟨a, 0, none⟩ = false ∧ w.frozen? ⟨a, 1, none⟩ = false
theorem spotW_new (w : World) (x y : Int) (t : TypeId) : spotW (w.alloc (.cells #[.int .i64 x, .int .i64 y] t)) w.heap.size x y := by
  refine ⟨⟨?_, ?_⟩, ?_, ?_⟩ <;> simp [go_sem]
theorem spotW_below {w w' : World} {a : Nat} {x y : Int} (h : spotW w a x y) (hb : Below w.heap.size w w') : spotW w' a x y := by
  have hlt : a < w.heap.size := World.block_lt_of_cell? w _ h.1.1
  obtain ⟨⟨a0, a1⟩, b0, b1⟩ := h
  refine ⟨⟨?_, ?_⟩, ?_, ?_⟩
  · rw [hb.cell (p := ⟨a, 0, none⟩) hlt]; exact a0
  · rw [hb.cell (p := ⟨a, 1, none⟩) hlt]; exact a1
  · rw [hb.frozen (p := ⟨a, 0, none⟩) hlt]; exact b0
  · rw [hb.frozen (p := ⟨a, 1, none⟩) hlt]; exact b1
theorem spotW_set {w : World} {a : Nat} {x y m n : Int} (h : spotW w a x y) : spotW ((w.setCell ⟨a, 0, none⟩ (.int .i64 m)).setCell ⟨a, 1, none⟩ (.int .i64 n)) a m n := by
  obtain ⟨⟨a0, a1⟩, b0, b1⟩ := h
  refine ⟨⟨?_, ?_⟩, ?_, ?_⟩
  all_goals simp [go_sem, a0, a1, b0, b1]
theorem below_set2 {lo : Nat} {w W : World} {B : Nat} (hb : Below lo w W) (hlo : lo ≤ B) (u0 u1 : Value) :
    Below lo w ((W.setCell ⟨B, 0, none⟩ u0).setCell ⟨B, 1, none⟩ u1) :=
  (hb.setCell (p := ⟨B, 0, none⟩) hlo _).setCell (p := ⟨B, 1, none⟩) hlo _
theorem by_le (u : Int) (rs : List Nat) : by_ u rs ≤ 2 * C1 rs := by
  have h1 := C1_pos rs
  have h2 := C2_le rs
  have h3 := C3_le rs
  unfold by_
  split
  · omega
  · split
    · omega
    · split <;> omega

set_option maxRecDepth 100000 in
set_option maxHeartbeats 4000000 in
theorem spot_told (b : Nat) (u at_ E : Int) (w : World)
    (cA : Hid (∀ wx, Below w.heap.size w wx → Calls Tryd.prog 42 #[.pointer (some ⟨b, 0, none⟩), .int .i64 u, .int .i64 at_] wx fun e w' => e = .returned (.tuple #[cntV [], .iface 23 (.int .i64 E)]) ∧ Below wx.heap.size wx w')) :
    Calls Tryd.prog 40 #[.pointer (some ⟨b, 0, none⟩), .int .i64 u, .int .i64 at_] w fun e w' => e = .returned (.tuple #[.agg #[.int .i64 0, .int .i64 0], .iface 23 (.int .i64 E)]) ∧ Below w.heap.size w w' := by
  have hC : cntV [] = .agg #[.int .i64 0, .int .i64 0, .int .i64 0, .int .i64 0] := rfl
  rw [hC] at cA
  clear hC
  have HB0 : Hid (Below w.heap.size w (w.alloc (.cells #[.int .i64 0, .int .i64 0] 77))) := (Below.refl _ w).alloc (Nat.le_refl _) _
  have HS0 : Hid (spotW (w.alloc (.cells #[.int .i64 0, .int .i64 0] 77)) w.heap.size 0 0) := spotW_new w 0 0 _
  go_enter Tryd.func40, Tryd.ntmps40
  go_wp2_with (first
    | (go_at_call 42; refine (cA.out _ HB0.out).mono ?_; rintro e w2 ⟨rfl, hb2⟩; have HB2 : Hid (Below w.heap.size w w2) := HB0.out.trans (hb2.mono HB0.out.size); have HS2 : Hid (spotW w2 w.heap.size 0 0) := spotW_below HS0.out hb2; have hlt : w.heap.size < w2.heap.size := World.block_lt_of_cell? w2 _ HS2.out.1.1; have hne : w.heap.size ≠ w2.heap.size := Nat.ne_of_lt hlt; clear hb2; obtain ⟨⟨k0, k1⟩, k2, k3⟩ := HS2.out)
    | fail)
  have hset := spotW_below (spotW_set (m := 0) (n := 0) HS2.out) ((Below.refl _ _).alloc (Nat.le_refl _) (.cells #[.int .i64 0, .int .i64 0, .int .i64 0, .int .i64 0] 36))
  have hB := below_set2 HB2.out (Nat.le_refl _) (.int .i64 0) (.int .i64 0)
  obtain ⟨⟨s0, s1⟩, _⟩ := hset
  refine bodyPost_ret (v := .tuple #[.agg #[.int .i64 0, .int .i64 0], .iface 23 (.int .i64 E)]) (by simp [results, Tryd.results40, go_sem, s0, s1]) rfl ⟨rfl, hB.alloc hB.size _⟩

set_option maxRecDepth 100000 in
set_option maxHeartbeats 4000000 in
theorem spot_good (b : Nat) (rs X Y : List Nat) (u at_ : Int) (w : World) (hX : C1 X ≤ 100000000) (hY : C1 Y ≤ 100000000)
    (cA : Hid (∀ wx, Below w.heap.size w wx → Calls Tryd.prog 42 #[.pointer (some ⟨b, 0, none⟩), .int .i64 u, .int .i64 at_] wx fun e w' => e = .returned (.tuple #[cntV X, .nilIface]) ∧ Below wx.heap.size wx w'))
    (cL : Hid (∀ wx, Below w.heap.size w wx → Calls Tryd.prog 90 #[.pointer (some ⟨b, 0, none⟩), .int .i64 (C4 X)] wx fun e w' => e = .returned (.tuple #[cntV Y, .nilIface]) ∧ Below wx.heap.size wx w')) :
    Calls Tryd.prog 40 #[.pointer (some ⟨b, 0, none⟩), .int .i64 u, .int .i64 at_] w fun e w' => e = .returned (.tuple #[.agg #[.int .i64 (C4 X), .int .i64 (by_ u X - by_ u Y)], .nilIface]) ∧ Below w.heap.size w w' := by
  have HB0 : Hid (Below w.heap.size w (w.alloc (.cells #[.int .i64 0, .int .i64 0] 77))) := (Below.refl _ w).alloc (Nat.le_refl _) _
  have HS0 : Hid (spotW (w.alloc (.cells #[.int .i64 0, .int .i64 0] 77)) w.heap.size 0 0) := spotW_new w 0 0 _
  have cIX : Hid (∀ wx, Calls Tryd.prog 37 #[cntV X, .int .i64 u] wx fun e w' => e = .returned (.int .i64 (by_ u X)) ∧ Below wx.heap.size wx w') := fun wx => In_any u X wx
  have cIY : Hid (∀ wx, Calls Tryd.prog 37 #[cntV Y, .int .i64 u] wx fun e w' => e = .returned (.int .i64 (by_ u Y)) ∧ Below wx.heap.size wx w') := fun wx => In_any u Y wx
  have bX : by_ u X ≤ 200000000 := Int.le_trans (by_le u X) (by omega)
  have bY : by_ u Y ≤ 200000000 := Int.le_trans (by_le u Y) (by omega)
  have pX := by_pos u X
  have pY := by_pos u Y
  unfold cntV at cA cL cIX cIY
  generalize by_ u X = nx at *
  generalize by_ u Y = ny at *
  have hwr : IntKind.i64.wrap (nx - ny) = nx - ny := by unfold IntKind.wrap; simp [IntKind.bits, IntKind.signed]; omega
  clear hX hY bX bY pX pY
  go_enter Tryd.func40, Tryd.ntmps40
  go_wp2_with (first
    | (go_at_call 42; refine (cA.out _ HB0.out).mono ?_; rintro e w2 ⟨rfl, hb2⟩; have HB2 : Hid (Below w.heap.size w w2) := HB0.out.trans (hb2.mono HB0.out.size); have HS2 : Hid (spotW w2 w.heap.size 0 0) := spotW_below HS0.out hb2; have hlt : w.heap.size < w2.heap.size := World.block_lt_of_cell? w2 _ HS2.out.1.1; have hne : w.heap.size ≠ w2.heap.size := Nat.ne_of_lt hlt; clear hb2; have HS3 : Hid (spotW (w2.alloc (.cells #[.int .i64 (C1 X), .int .i64 (C2 X), .int .i64 (C3 X), .int .i64 (C4 X)] 36)) w.heap.size 0 0) := spotW_below HS2.out ((Below.refl _ _).alloc (Nat.le_refl _) _); have HB3 : Hid (Below w.heap.size w (w2.alloc (.cells #[.int .i64 (C1 X), .int .i64 (C2 X), .int .i64 (C3 X), .int .i64 (C4 X)] 36))) := HB2.out.alloc HB2.out.size _)
    | (go_at_call 90; refine (cL.out _ HB3.out).mono ?_; rintro e w4 ⟨rfl, hb4⟩; have HB4 : Hid (Below w.heap.size w w4) := HB3.out.trans (hb4.mono HB3.out.size); have HS4 : Hid (spotW w4 w.heap.size 0 0) := spotW_below HS3.out hb4; have HX4 : Hid (counted w4 w2.heap.size (C1 X) (C2 X) (C3 X) (C4 X)) := counted_below (counted_new w2 _ _ _ _ _) hb4; clear hb4)
    | fail)
  have hb5 : Below w.heap.size w (w4.alloc (.cells #[.int .i64 (C1 Y), .int .i64 (C2 Y), .int .i64 (C3 Y), .int .i64 (C4 Y)] 36)) := HB4.out.alloc HB4.out.size _
  have hg5 : Below w4.heap.size w4 (w4.alloc (.cells #[.int .i64 (C1 Y), .int .i64 (C2 Y), .int .i64 (C3 Y), .int .i64 (C4 Y)] 36)) := (Below.refl _ _).alloc (Nat.le_refl _) _
  have hs5 := spotW_below HS4.out hg5
  have hx5 := counted_below HX4.out hg5
  have hy5 := counted_new w4 (C1 Y) (C2 Y) (C3 Y) (C4 Y) 36
  generalize (w4.alloc (.cells #[.int .i64 (C1 Y), .int .i64 (C2 Y), .int .i64 (C3 Y), .int .i64 (C4 Y)] 36)) = W5 at *
  generalize w4.heap.size = BY at *
  generalize w2.heap.size = BX at *
  clear hg5 HB4 HS4 HX4 HB3 HS3 HB2 HS2 HB0 HS0 hlt hne cA cL
  refine wp_region_rel 10 12 (by kernel_rfl) rfl ?_
  intro w6 hb6
  obtain ⟨G, hG⟩ := exists_growth w6
  have hx6 := counted_below hx5 hb6
  have hy6 := counted_below hy5 hb6
  obtain ⟨⟨x0, x1, x2, x3⟩, _⟩ := hx6
  obtain ⟨⟨y0, y1, y2, y3⟩, _⟩ := hy6
  have gx0 := hG.cell x0
  have gx1 := hG.cell x1
  have gx2 := hG.cell x2
  have gx3 := hG.cell x3
  have gy0 := hG.cell y0
  have gy1 := hG.cell y1
  have gy2 := hG.cell y2
  have gy3 := hG.cell y3
  have cX := fun x => cIX.out (G x)
  have cY := fun x => cIY.out (G x)
  clear x0 x1 x2 x3 y0 y1 y2 y3 cIX cIY
  (refine anyG_step hG (i := 0) rfl (by kernel_rfl) (by kernel_rfl) (by kernel_rfl) (fun K hK => ?_); go_simp; refine hK _ ?_; clear hK K)
  (refine anyG_step hG (i := 1) rfl (by kernel_rfl) (by kernel_rfl) (by kernel_rfl) (fun K hK => ?_); go_simp; refine hK _ ?_; clear hK K)
  (refine anyG_step hG (i := 2) rfl (by kernel_rfl) (by kernel_rfl) (by kernel_rfl) (fun K hK => ?_); go_simp; refine hK _ ?_; clear hK K)
  (refine anyG_step hG (i := 3) rfl (by kernel_rfl) (by kernel_rfl) (by kernel_rfl) (fun K hK => ?_); go_simp; refine hK _ ?_; clear hK K)
  (refine anyG_step hG (i := 4) rfl (by kernel_rfl) (by kernel_rfl) (by kernel_rfl) (fun K hK => ?_); go_simp; apply Exists.intro; refine ⟨fun _ => ?_, hK _ ?_⟩; exact cX _; clear hK K)
  (refine anyG_step hG (i := 5) rfl (by kernel_rfl) (by kernel_rfl) (by kernel_rfl) (fun K hK => ?_); go_simp; refine hK _ ?_; clear hK K)
  (refine anyG_step hG (i := 6) rfl (by kernel_rfl) (by kernel_rfl) (by kernel_rfl) (fun K hK => ?_); go_simp; refine hK _ ?_; clear hK K)
  (refine anyG_step hG (i := 7) rfl (by kernel_rfl) (by kernel_rfl) (by kernel_rfl) (fun K hK => ?_); go_simp; apply Exists.intro; refine ⟨fun _ => ?_, hK _ ?_⟩; exact cY _; clear hK K)
  (refine anyG_step hG (i := 8) rfl (by kernel_rfl) (by kernel_rfl) (by kernel_rfl) (fun K hK => ?_); go_simp; refine hK _ ?_; clear hK K)
  (refine anyG_step hG (i := 9) rfl (by kernel_rfl) (by kernel_rfl) (by kernel_rfl) (fun K hK => ?_); go_simp; refine hK _ ?_; clear hK K)
  clear gx0 gx1 gx2 gx3 gy0 gy1 gy2 gy3 cX cY hG
  refine anyG_late (i := 10) rfl (by kernel_rfl) (by kernel_rfl) ?_
  intro w7 hb7 K hK
  have hb67 := hb6.trans (hb7.mono hb6.size)
  have hs7 := spotW_below hs5 hb67
  have HS7 : Hid _ := hs7
  have HB7 : Hid (Below w.heap.size w w7) := hb5.trans (hb67.mono hb5.size)
  obtain ⟨⟨k0, k1⟩, k2, k3⟩ := hs7
  clear hb6 hb7 hb67 hs5 hx5 hy5 hb5
  go_simp
  refine hK _ _ ?_
  clear hK K
  refine anyG_late (i := 11) rfl (by kernel_rfl) (by kernel_rfl) ?_
  intro w8 hb8 K hK
  go_simp
  refine hK _ _ ?_
  clear hK K
  refine anyG_end (by kernel_rfl) ?_
  intro w9 hb9
  have hb79 := hb8.trans (hb9.mono hb8.size)
  have hset := spotW_below (spotW_set (m := C4 X) (n := nx - ny) HS7.out) hb79
  have hB7 := below_set2 HB7.out (Nat.le_refl _) (.int .i64 (C4 X)) (.int .i64 (nx - ny))
  have hB9 := hB7.trans (hb79.mono hB7.size)
  clear hb8 hb9 hb79 hB7 k0 k1 k2 k3
  go_wp2
  obtain ⟨⟨s0, s1⟩, _⟩ := hset
  refine bodyPost_ret (v := .tuple #[.agg #[.int .i64 (C4 X), .int .i64 (nx - ny)], .nilIface]) (by simp [results, Tryd.results40, go_sem, s0, s1]) rfl ⟨rfl, hB9⟩
end Go.Proofs.YtgmgkbbnciglhaaDoor

namespace Go.Proofs.YtgmgkbbnciglhaaDoor
open Go.RowKit
set_option linter.unusedVariables false
attribute [local go_sem] Oper.semAt_some yieldsUpon okUpon field0 field3

set_option maxRecDepth 100000 in
set_option maxHeartbeats 8000000 in
theorem refSplice_bad (s put : ByteArray) (k d j n : Nat) (at_ drop c1 c2 c3 c4 PL : Int) (hs : s.size < 100000000) (hp : put.size < 100000000)  (w : World)
    (cC : Hid (∀ wx, Calls Tryd.prog 16 #[.string put] wx fun e w' => e = .returned (.tuple #[.agg #[.int .i64 c1, .int .i64 c2, .int .i64 c3, .int .i64 c4], .agg #[.int .i64 3, .int .i64 PL]]) ∧ Below wx.heap.size wx w')) :
    Calls Tryd.prog 31 #[.string s, .int .i64 at_, .int .i64 drop, .string put] w fun e w' => e = .returned (.tuple #[.string s, .agg #[.int .i64 3, .int .i64 PL]]) ∧ Below w.heap.size w w' := by
  have cBr : Hid (∀ wx, Calls Tryd.prog 62 #[.int .i64 3] wx fun e w' => e = .returned (.agg #[.int .i64 3, .int .i64 (-1)]) ∧ Below wx.heap.size wx w') := fun wx => Bare_any 3 wx
  have HB0 : Hid (Below w.heap.size w (w.alloc (.cells #[.int .i64 0, .int .i64 0] 25))) := (Below.refl _ w).alloc (Nat.le_refl _) _
  have HS0 : Hid (spotW (w.alloc (.cells #[.int .i64 0, .int .i64 0] 25)) w.heap.size 0 0) := spotW_new w _ _ _
  go_enter Tryd.func31, Tryd.ntmps31
  go_wp2_with (first
    | (go_at_call 16; refine (cC.out _).mono ?_; rintro e w1 ⟨rfl, hb1⟩; have hby : Below w1.heap.size w1 ((w1.alloc (.cells #[.int .i64 c1, .int .i64 c2, .int .i64 c3, .int .i64 c4] 36)).alloc (.cells #[.int .i64 3, .int .i64 PL] 25)) := ((Below.refl _ _).alloc (Nat.le_refl _) _).alloc (by simp) _; have HB1 : Hid (Below w.heap.size w w1) := HB0.out.trans (hb1.mono HB0.out.size); have HB2 : Hid (Below w.heap.size w ((w1.alloc (.cells #[.int .i64 c1, .int .i64 c2, .int .i64 c3, .int .i64 c4] 36)).alloc (.cells #[.int .i64 3, .int .i64 PL] 25))) := HB1.out.trans (hby.mono HB1.out.size); have HS1 : Hid (spotW w1 w.heap.size 0 0) := spotW_below HS0.out hb1; have HS2 : Hid (spotW ((w1.alloc (.cells #[.int .i64 c1, .int .i64 c2, .int .i64 c3, .int .i64 c4] 36)).alloc (.cells #[.int .i64 3, .int .i64 PL] 25)) w.heap.size 0 0) := spotW_below HS1.out hby; have HF2 : Hid (spotW ((w1.alloc (.cells #[.int .i64 c1, .int .i64 c2, .int .i64 c3, .int .i64 c4] 36)).alloc (.cells #[.int .i64 3, .int .i64 PL] 25)) (w1.heap.size + 1) 3 PL) := (by have := spotW_new (w1.alloc (.cells #[.int .i64 c1, .int .i64 c2, .int .i64 c3, .int .i64 c4] 36)) 3 PL 25; rw [World.size_alloc] at this; exact this); have hl1 : w.heap.size < w1.heap.size := World.block_lt_of_cell? w1 _ HS1.out.1.1; have hn1 : w.heap.size ≠ w1.heap.size := Nat.ne_of_lt hl1; clear hb1 hby)
    | fail)
  have hb2 := HB2.out
  have hs2 := HS2.out
  have hf2 := HF2.out
  generalize ((w1.alloc (.cells #[.int .i64 c1, .int .i64 c2, .int .i64 c3, .int .i64 c4] 36)).alloc (.cells #[.int .i64 3, .int .i64 PL] 25)) = WW at *
  generalize w1.heap.size = BF at *
  clear HB0 HS0 HB1 HS1 HB2 HS2 HF2 hl1 hn1 cC
  refine wp_region_rel 3 4 (by kernel_rfl) rfl ?_
  intro w6 hb6
  obtain ⟨G, hG⟩ := exists_growth w6
  obtain ⟨⟨x0, x1⟩, _⟩ := spotW_below hf2 hb6
  have gx0 := hG.cell x0
  have gx1 := hG.cell x1
  clear x0 x1
  (refine anyG_step hG (i := 0) rfl (by kernel_rfl) (by kernel_rfl) (by kernel_rfl) (fun K hK => ?_); go_simp; refine hK _ ?_; clear hK K)
  (refine anyG_step hG (i := 1) rfl (by kernel_rfl) (by kernel_rfl) (by kernel_rfl) (fun K hK => ?_); go_simp; refine hK _ ?_; clear hK K)
  (refine anyG_step hG (i := 2) rfl (by kernel_rfl) (by kernel_rfl) (by kernel_rfl) (fun K hK => ?_); go_simp; refine hK _ ?_; clear hK K)
  clear gx0 gx1 hG
  refine anyG_late (i := 3) rfl (by kernel_rfl) (by kernel_rfl) ?_
  intro w7 hb7 K hK
  have hb67 := hb6.trans (hb7.mono hb6.size)
  have hs7 := spotW_below hs2 hb67
  have HS7 : Hid _ := hs7
  have HB7 : Hid (Below w.heap.size w w7) := hb2.trans (hb67.mono hb2.size)
  obtain ⟨⟨k0, k1⟩, k2, k3⟩ := hs7
  clear hb6 hb7 hb67 hs2 hf2 hb2
  go_simp
  refine hK _ _ ?_
  clear hK K
  refine anyG_end (by kernel_rfl) ?_
  intro w9 hb9
  obtain ⟨⟨s0, s1⟩, _⟩ := spotW_below (spotW_set (m := 3) (n := PL) HS7.out) hb9
  have hB7 := below_set2 HB7.out (Nat.le_refl _) (.int .i64 3) (.int .i64 PL)
  have hB9 := hB7.trans (hb9.mono hB7.size)
  clear hb9 hB7 k0 k1 k2 k3
  go_wp2
  refine bodyPost_ret (v := .tuple #[.string s, .agg #[.int .i64 3, .int .i64 PL]]) (by simp [results, Tryd.results31, go_sem, s0, s1]) rfl ⟨rfl, hB9⟩

set_option maxRecDepth 100000 in
set_option maxHeartbeats 8000000 in
theorem refSplice_rng1 (s put : ByteArray) (k d j n : Nat) (at_ drop c1 c2 c3 c4 PL : Int) (hs : s.size < 100000000) (hp : put.size < 100000000)  (w : World)
    (cC : Hid (∀ wx, Calls Tryd.prog 16 #[.string put] wx fun e w' => e = .returned (.tuple #[.agg #[.int .i64 c1, .int .i64 c2, .int .i64 c3, .int .i64 c4], .agg #[.int .i64 0, .int .i64 (-1)]]) ∧ Below wx.heap.size wx w'))
    (cI1 : Hid (∀ wx, Calls Tryd.prog 78 #[.int .i64 at_, .int .i64 0, .int .i64 (s.size : Int)] wx fun e w' => e = .returned (.bool false) ∧ w' = wx)) :
    Calls Tryd.prog 31 #[.string s, .int .i64 at_, .int .i64 drop, .string put] w fun e w' => e = .returned (.tuple #[.string s, .agg #[.int .i64 2, .int .i64 (-1)]]) ∧ Below w.heap.size w w' := by
  have cBr : Hid (∀ wx, Calls Tryd.prog 62 #[.int .i64 2] wx fun e w' => e = .returned (.agg #[.int .i64 2, .int .i64 (-1)]) ∧ Below wx.heap.size wx w') := fun wx => Bare_any 2 wx
  have HB0 : Hid (Below w.heap.size w (w.alloc (.cells #[.int .i64 0, .int .i64 0] 25))) := (Below.refl _ w).alloc (Nat.le_refl _) _
  have HS0 : Hid (spotW (w.alloc (.cells #[.int .i64 0, .int .i64 0] 25)) w.heap.size 0 0) := spotW_new w _ _ _
  go_enter Tryd.func31, Tryd.ntmps31
  go_wp2_with (first
    | (go_at_call 16; refine (cC.out _).mono ?_; rintro e w1 ⟨rfl, hb1⟩; have hby : Below w1.heap.size w1 ((w1.alloc (.cells #[.int .i64 c1, .int .i64 c2, .int .i64 c3, .int .i64 c4] 36)).alloc (.cells #[.int .i64 0, .int .i64 (-1)] 25)) := ((Below.refl _ _).alloc (Nat.le_refl _) _).alloc (by simp) _; have HB1 : Hid (Below w.heap.size w w1) := HB0.out.trans (hb1.mono HB0.out.size); have HB2 : Hid (Below w.heap.size w ((w1.alloc (.cells #[.int .i64 c1, .int .i64 c2, .int .i64 c3, .int .i64 c4] 36)).alloc (.cells #[.int .i64 0, .int .i64 (-1)] 25))) := HB1.out.trans (hby.mono HB1.out.size); have HS1 : Hid (spotW w1 w.heap.size 0 0) := spotW_below HS0.out hb1; have HS2 : Hid (spotW ((w1.alloc (.cells #[.int .i64 c1, .int .i64 c2, .int .i64 c3, .int .i64 c4] 36)).alloc (.cells #[.int .i64 0, .int .i64 (-1)] 25)) w.heap.size 0 0) := spotW_below HS1.out hby; have HF2 : Hid (spotW ((w1.alloc (.cells #[.int .i64 c1, .int .i64 c2, .int .i64 c3, .int .i64 c4] 36)).alloc (.cells #[.int .i64 0, .int .i64 (-1)] 25)) (w1.heap.size + 1) 0 (-1)) := (by have := spotW_new (w1.alloc (.cells #[.int .i64 c1, .int .i64 c2, .int .i64 c3, .int .i64 c4] 36)) 0 (-1) 25; rw [World.size_alloc] at this; exact this); have hl1 : w.heap.size < w1.heap.size := World.block_lt_of_cell? w1 _ HS1.out.1.1; have hn1 : w.heap.size ≠ w1.heap.size := Nat.ne_of_lt hl1; clear hb1 hby)
    | (go_at_call 78; refine (cI1.out _).mono ?_; rintro e wz ⟨rfl, hwz⟩; obtain rfl := hwz.symm)
    | (go_at_call 62; refine (cBr.out _).mono ?_; rintro e w5 ⟨rfl, hb5⟩; have HB5 : Hid (Below w.heap.size w w5) := HB2.out.trans (hb5.mono HB2.out.size); have HS5 : Hid (spotW w5 w.heap.size 0 0) := spotW_below HS2.out hb5; have ⟨⟨m0, m1⟩, m2, m3⟩ := HS5.out; clear hb5)
    | fail)
  obtain ⟨⟨s0, s1⟩, _⟩ := spotW_set (m := 2) (n := -1) HS5.out
  have hB := below_set2 HB5.out (Nat.le_refl _) (.int .i64 2) (.int .i64 (-1))
  refine bodyPost_ret (v := .tuple #[.string s, .agg #[.int .i64 2, .int .i64 (-1)]]) (by simp [results, Tryd.results31, go_sem, s0, s1]) rfl ⟨rfl, hB⟩

set_option maxRecDepth 100000 in
set_option maxHeartbeats 8000000 in
theorem refSplice_rng2 (s put : ByteArray) (k d j n : Nat) (at_ drop c1 c2 c3 c4 PL : Int) (hs : s.size < 100000000) (hp : put.size < 100000000) (h0 : 0 ≤ at_ ∧ at_ ≤ s.size) (w : World)
    (cC : Hid (∀ wx, Calls Tryd.prog 16 #[.string put] wx fun e w' => e = .returned (.tuple #[.agg #[.int .i64 c1, .int .i64 c2, .int .i64 c3, .int .i64 c4], .agg #[.int .i64 0, .int .i64 (-1)]]) ∧ Below wx.heap.size wx w'))
    (cI1 : Hid (∀ wx, Calls Tryd.prog 78 #[.int .i64 at_, .int .i64 0, .int .i64 (s.size : Int)] wx fun e w' => e = .returned (.bool true) ∧ w' = wx))
    (cI2 : Hid (∀ wx, Calls Tryd.prog 78 #[.int .i64 drop, .int .i64 0, .int .i64 ((s.size : Int) - at_)] wx fun e w' => e = .returned (.bool false) ∧ w' = wx)) :
    Calls Tryd.prog 31 #[.string s, .int .i64 at_, .int .i64 drop, .string put] w fun e w' => e = .returned (.tuple #[.string s, .agg #[.int .i64 2, .int .i64 (-1)]]) ∧ Below w.heap.size w w' := by
  obtain ⟨h01, h02⟩ := h0
  have cBr : Hid (∀ wx, Calls Tryd.prog 62 #[.int .i64 2] wx fun e w' => e = .returned (.agg #[.int .i64 2, .int .i64 (-1)]) ∧ Below wx.heap.size wx w') := fun wx => Bare_any 2 wx
  have HB0 : Hid (Below w.heap.size w (w.alloc (.cells #[.int .i64 0, .int .i64 0] 25))) := (Below.refl _ w).alloc (Nat.le_refl _) _
  have HS0 : Hid (spotW (w.alloc (.cells #[.int .i64 0, .int .i64 0] 25)) w.heap.size 0 0) := spotW_new w _ _ _
  go_enter Tryd.func31, Tryd.ntmps31
  go_wp2_with (first
    | (go_at_call 16; refine (cC.out _).mono ?_; rintro e w1 ⟨rfl, hb1⟩; have hby : Below w1.heap.size w1 ((w1.alloc (.cells #[.int .i64 c1, .int .i64 c2, .int .i64 c3, .int .i64 c4] 36)).alloc (.cells #[.int .i64 0, .int .i64 (-1)] 25)) := ((Below.refl _ _).alloc (Nat.le_refl _) _).alloc (by simp) _; have HB1 : Hid (Below w.heap.size w w1) := HB0.out.trans (hb1.mono HB0.out.size); have HB2 : Hid (Below w.heap.size w ((w1.alloc (.cells #[.int .i64 c1, .int .i64 c2, .int .i64 c3, .int .i64 c4] 36)).alloc (.cells #[.int .i64 0, .int .i64 (-1)] 25))) := HB1.out.trans (hby.mono HB1.out.size); have HS1 : Hid (spotW w1 w.heap.size 0 0) := spotW_below HS0.out hb1; have HS2 : Hid (spotW ((w1.alloc (.cells #[.int .i64 c1, .int .i64 c2, .int .i64 c3, .int .i64 c4] 36)).alloc (.cells #[.int .i64 0, .int .i64 (-1)] 25)) w.heap.size 0 0) := spotW_below HS1.out hby; have HF2 : Hid (spotW ((w1.alloc (.cells #[.int .i64 c1, .int .i64 c2, .int .i64 c3, .int .i64 c4] 36)).alloc (.cells #[.int .i64 0, .int .i64 (-1)] 25)) (w1.heap.size + 1) 0 (-1)) := (by have := spotW_new (w1.alloc (.cells #[.int .i64 c1, .int .i64 c2, .int .i64 c3, .int .i64 c4] 36)) 0 (-1) 25; rw [World.size_alloc] at this; exact this); have hl1 : w.heap.size < w1.heap.size := World.block_lt_of_cell? w1 _ HS1.out.1.1; have hn1 : w.heap.size ≠ w1.heap.size := Nat.ne_of_lt hl1; clear hb1 hby)
    | (have _ := HI1; go_at_call 78; refine (cI2.out _).mono ?_; rintro e wz ⟨rfl, hwz⟩; obtain rfl := hwz.symm)
    | (go_at_call 78; have HI1 := True.intro; refine (cI1.out _).mono ?_; rintro e wz ⟨rfl, hwz⟩; obtain rfl := hwz.symm)
    | (go_at_call 62; refine (cBr.out _).mono ?_; rintro e w5 ⟨rfl, hb5⟩; have HB5 : Hid (Below w.heap.size w w5) := HB2.out.trans (hb5.mono HB2.out.size); have HS5 : Hid (spotW w5 w.heap.size 0 0) := spotW_below HS2.out hb5; have ⟨⟨m0, m1⟩, m2, m3⟩ := HS5.out; clear hb5)
    | fail)
  obtain ⟨⟨s0, s1⟩, _⟩ := spotW_set (m := 2) (n := -1) HS5.out
  have hB := below_set2 HB5.out (Nat.le_refl _) (.int .i64 2) (.int .i64 (-1))
  refine bodyPost_ret (v := .tuple #[.string s, .agg #[.int .i64 2, .int .i64 (-1)]]) (by simp [results, Tryd.results31, go_sem, s0, s1]) rfl ⟨rfl, hB⟩

set_option maxRecDepth 100000 in
set_option maxHeartbeats 8000000 in
theorem refSplice_arg1 (s put : ByteArray) (k d j n : Nat) (at_ drop c1 c2 c3 c4 PL : Int) (hs : s.size < 100000000) (hp : put.size < 100000000) (hk : at_ = (k : Int)) (hd : drop = (d : Int)) (hj : k + d = j) (hjs : j ≤ s.size) (w : World)
    (cC : Hid (∀ wx, Calls Tryd.prog 16 #[.string put] wx fun e w' => e = .returned (.tuple #[.agg #[.int .i64 c1, .int .i64 c2, .int .i64 c3, .int .i64 c4], .agg #[.int .i64 0, .int .i64 (-1)]]) ∧ Below wx.heap.size wx w'))
    (cI1 : Hid (∀ wx, Calls Tryd.prog 78 #[.int .i64 at_, .int .i64 0, .int .i64 (s.size : Int)] wx fun e w' => e = .returned (.bool true) ∧ w' = wx))
    (cI2 : Hid (∀ wx, Calls Tryd.prog 78 #[.int .i64 drop, .int .i64 0, .int .i64 ((s.size : Int) - at_)] wx fun e w' => e = .returned (.bool true) ∧ w' = wx))
    (cE1 : Hid (∀ wx, Calls Tryd.prog 81 #[.string s, .int .i64 at_] wx fun e w' => e = .returned (.bool false) ∧ w' = wx)) :
    Calls Tryd.prog 31 #[.string s, .int .i64 at_, .int .i64 drop, .string put] w fun e w' => e = .returned (.tuple #[.string s, .agg #[.int .i64 1, .int .i64 (-1)]]) ∧ Below w.heap.size w w' := by
  subst hk hd
  have hjj : (k : Int) + (d : Int) = (j : Int) := by omega
  have hks : k ≤ s.size := by omega
  have cBr : Hid (∀ wx, Calls Tryd.prog 62 #[.int .i64 1] wx fun e w' => e = .returned (.agg #[.int .i64 1, .int .i64 (-1)]) ∧ Below wx.heap.size wx w') := fun wx => Bare_any 1 wx
  have HB0 : Hid (Below w.heap.size w (w.alloc (.cells #[.int .i64 0, .int .i64 0] 25))) := (Below.refl _ w).alloc (Nat.le_refl _) _
  have HS0 : Hid (spotW (w.alloc (.cells #[.int .i64 0, .int .i64 0] 25)) w.heap.size 0 0) := spotW_new w _ _ _
  go_enter Tryd.func31, Tryd.ntmps31
  go_wp2_with (first
    | (go_at_call 16; refine (cC.out _).mono ?_; rintro e w1 ⟨rfl, hb1⟩; have hby : Below w1.heap.size w1 ((w1.alloc (.cells #[.int .i64 c1, .int .i64 c2, .int .i64 c3, .int .i64 c4] 36)).alloc (.cells #[.int .i64 0, .int .i64 (-1)] 25)) := ((Below.refl _ _).alloc (Nat.le_refl _) _).alloc (by simp) _; have HB1 : Hid (Below w.heap.size w w1) := HB0.out.trans (hb1.mono HB0.out.size); have HB2 : Hid (Below w.heap.size w ((w1.alloc (.cells #[.int .i64 c1, .int .i64 c2, .int .i64 c3, .int .i64 c4] 36)).alloc (.cells #[.int .i64 0, .int .i64 (-1)] 25))) := HB1.out.trans (hby.mono HB1.out.size); have HS1 : Hid (spotW w1 w.heap.size 0 0) := spotW_below HS0.out hb1; have HS2 : Hid (spotW ((w1.alloc (.cells #[.int .i64 c1, .int .i64 c2, .int .i64 c3, .int .i64 c4] 36)).alloc (.cells #[.int .i64 0, .int .i64 (-1)] 25)) w.heap.size 0 0) := spotW_below HS1.out hby; have HF2 : Hid (spotW ((w1.alloc (.cells #[.int .i64 c1, .int .i64 c2, .int .i64 c3, .int .i64 c4] 36)).alloc (.cells #[.int .i64 0, .int .i64 (-1)] 25)) (w1.heap.size + 1) 0 (-1)) := (by have := spotW_new (w1.alloc (.cells #[.int .i64 c1, .int .i64 c2, .int .i64 c3, .int .i64 c4] 36)) 0 (-1) 25; rw [World.size_alloc] at this; exact this); have hl1 : w.heap.size < w1.heap.size := World.block_lt_of_cell? w1 _ HS1.out.1.1; have hn1 : w.heap.size ≠ w1.heap.size := Nat.ne_of_lt hl1; clear hb1 hby)
    | (have _ := HI1; go_at_call 78; refine (cI2.out _).mono ?_; rintro e wz ⟨rfl, hwz⟩; obtain rfl := hwz.symm)
    | (go_at_call 78; have HI1 := True.intro; refine (cI1.out _).mono ?_; rintro e wz ⟨rfl, hwz⟩; obtain rfl := hwz.symm)
    | (go_at_call 81; have HE1 := True.intro; refine (cE1.out _).mono ?_; rintro e wz ⟨rfl, hwz⟩; obtain rfl := hwz.symm)
    | (go_at_call 62; refine (cBr.out _).mono ?_; rintro e w5 ⟨rfl, hb5⟩; have HB5 : Hid (Below w.heap.size w w5) := HB2.out.trans (hb5.mono HB2.out.size); have HS5 : Hid (spotW w5 w.heap.size 0 0) := spotW_below HS2.out hb5; have ⟨⟨m0, m1⟩, m2, m3⟩ := HS5.out; clear hb5)
    | fail)
  obtain ⟨⟨s0, s1⟩, _⟩ := spotW_set (m := 1) (n := -1) HS5.out
  have hB := below_set2 HB5.out (Nat.le_refl _) (.int .i64 1) (.int .i64 (-1))
  refine bodyPost_ret (v := .tuple #[.string s, .agg #[.int .i64 1, .int .i64 (-1)]]) (by simp [results, Tryd.results31, go_sem, s0, s1]) rfl ⟨rfl, hB⟩

set_option maxRecDepth 100000 in
set_option maxHeartbeats 8000000 in
theorem refSplice_arg2 (s put : ByteArray) (k d j n : Nat) (at_ drop c1 c2 c3 c4 PL : Int) (hs : s.size < 100000000) (hp : put.size < 100000000) (hk : at_ = (k : Int)) (hd : drop = (d : Int)) (hj : k + d = j) (hjs : j ≤ s.size) (w : World)
    (cC : Hid (∀ wx, Calls Tryd.prog 16 #[.string put] wx fun e w' => e = .returned (.tuple #[.agg #[.int .i64 c1, .int .i64 c2, .int .i64 c3, .int .i64 c4], .agg #[.int .i64 0, .int .i64 (-1)]]) ∧ Below wx.heap.size wx w'))
    (cI1 : Hid (∀ wx, Calls Tryd.prog 78 #[.int .i64 at_, .int .i64 0, .int .i64 (s.size : Int)] wx fun e w' => e = .returned (.bool true) ∧ w' = wx))
    (cI2 : Hid (∀ wx, Calls Tryd.prog 78 #[.int .i64 drop, .int .i64 0, .int .i64 ((s.size : Int) - at_)] wx fun e w' => e = .returned (.bool true) ∧ w' = wx))
    (cE1 : Hid (∀ wx, Calls Tryd.prog 81 #[.string s, .int .i64 at_] wx fun e w' => e = .returned (.bool true) ∧ w' = wx))
    (cE2 : Hid (∀ wx, Calls Tryd.prog 81 #[.string s, .int .i64 (j : Int)] wx fun e w' => e = .returned (.bool false) ∧ w' = wx)) :
    Calls Tryd.prog 31 #[.string s, .int .i64 at_, .int .i64 drop, .string put] w fun e w' => e = .returned (.tuple #[.string s, .agg #[.int .i64 1, .int .i64 (-1)]]) ∧ Below w.heap.size w w' := by
  subst hk hd
  have hjj : (k : Int) + (d : Int) = (j : Int) := by omega
  have hks : k ≤ s.size := by omega
  have cBr : Hid (∀ wx, Calls Tryd.prog 62 #[.int .i64 1] wx fun e w' => e = .returned (.agg #[.int .i64 1, .int .i64 (-1)]) ∧ Below wx.heap.size wx w') := fun wx => Bare_any 1 wx
  have HB0 : Hid (Below w.heap.size w (w.alloc (.cells #[.int .i64 0, .int .i64 0] 25))) := (Below.refl _ w).alloc (Nat.le_refl _) _
  have HS0 : Hid (spotW (w.alloc (.cells #[.int .i64 0, .int .i64 0] 25)) w.heap.size 0 0) := spotW_new w _ _ _
  go_enter Tryd.func31, Tryd.ntmps31
  go_wp2_with (first
    | (go_at_call 16; refine (cC.out _).mono ?_; rintro e w1 ⟨rfl, hb1⟩; have hby : Below w1.heap.size w1 ((w1.alloc (.cells #[.int .i64 c1, .int .i64 c2, .int .i64 c3, .int .i64 c4] 36)).alloc (.cells #[.int .i64 0, .int .i64 (-1)] 25)) := ((Below.refl _ _).alloc (Nat.le_refl _) _).alloc (by simp) _; have HB1 : Hid (Below w.heap.size w w1) := HB0.out.trans (hb1.mono HB0.out.size); have HB2 : Hid (Below w.heap.size w ((w1.alloc (.cells #[.int .i64 c1, .int .i64 c2, .int .i64 c3, .int .i64 c4] 36)).alloc (.cells #[.int .i64 0, .int .i64 (-1)] 25))) := HB1.out.trans (hby.mono HB1.out.size); have HS1 : Hid (spotW w1 w.heap.size 0 0) := spotW_below HS0.out hb1; have HS2 : Hid (spotW ((w1.alloc (.cells #[.int .i64 c1, .int .i64 c2, .int .i64 c3, .int .i64 c4] 36)).alloc (.cells #[.int .i64 0, .int .i64 (-1)] 25)) w.heap.size 0 0) := spotW_below HS1.out hby; have HF2 : Hid (spotW ((w1.alloc (.cells #[.int .i64 c1, .int .i64 c2, .int .i64 c3, .int .i64 c4] 36)).alloc (.cells #[.int .i64 0, .int .i64 (-1)] 25)) (w1.heap.size + 1) 0 (-1)) := (by have := spotW_new (w1.alloc (.cells #[.int .i64 c1, .int .i64 c2, .int .i64 c3, .int .i64 c4] 36)) 0 (-1) 25; rw [World.size_alloc] at this; exact this); have hl1 : w.heap.size < w1.heap.size := World.block_lt_of_cell? w1 _ HS1.out.1.1; have hn1 : w.heap.size ≠ w1.heap.size := Nat.ne_of_lt hl1; clear hb1 hby)
    | (have _ := HI1; go_at_call 78; refine (cI2.out _).mono ?_; rintro e wz ⟨rfl, hwz⟩; obtain rfl := hwz.symm)
    | (go_at_call 78; have HI1 := True.intro; refine (cI1.out _).mono ?_; rintro e wz ⟨rfl, hwz⟩; obtain rfl := hwz.symm)
    | (have _ := HE1; go_at_call 81; refine (cE2.out _).mono ?_; rintro e wz ⟨rfl, hwz⟩; obtain rfl := hwz.symm)
    | (go_at_call 81; have HE1 := True.intro; refine (cE1.out _).mono ?_; rintro e wz ⟨rfl, hwz⟩; obtain rfl := hwz.symm)
    | (go_at_call 62; refine (cBr.out _).mono ?_; rintro e w5 ⟨rfl, hb5⟩; have HB5 : Hid (Below w.heap.size w w5) := HB2.out.trans (hb5.mono HB2.out.size); have HS5 : Hid (spotW w5 w.heap.size 0 0) := spotW_below HS2.out hb5; have ⟨⟨m0, m1⟩, m2, m3⟩ := HS5.out; clear hb5)
    | fail)
  obtain ⟨⟨s0, s1⟩, _⟩ := spotW_set (m := 1) (n := -1) HS5.out
  have hB := below_set2 HB5.out (Nat.le_refl _) (.int .i64 1) (.int .i64 (-1))
  refine bodyPost_ret (v := .tuple #[.string s, .agg #[.int .i64 1, .int .i64 (-1)]]) (by simp [results, Tryd.results31, go_sem, s0, s1]) rfl ⟨rfl, hB⟩

set_option maxRecDepth 100000 in
set_option maxHeartbeats 8000000 in
theorem refSplice_full (s put : ByteArray) (k d j n : Nat) (at_ drop c1 c2 c3 c4 PL : Int) (hs : s.size < 100000000) (hp : put.size < 100000000) (hk : at_ = (k : Int)) (hd : drop = (d : Int)) (hj : k + d = j) (hjs : j ≤ s.size) (h5 : (8000 : Int) < (s.size : Int) - drop + put.size) (w : World)
    (cC : Hid (∀ wx, Calls Tryd.prog 16 #[.string put] wx fun e w' => e = .returned (.tuple #[.agg #[.int .i64 c1, .int .i64 c2, .int .i64 c3, .int .i64 c4], .agg #[.int .i64 0, .int .i64 (-1)]]) ∧ Below wx.heap.size wx w'))
    (cI1 : Hid (∀ wx, Calls Tryd.prog 78 #[.int .i64 at_, .int .i64 0, .int .i64 (s.size : Int)] wx fun e w' => e = .returned (.bool true) ∧ w' = wx))
    (cI2 : Hid (∀ wx, Calls Tryd.prog 78 #[.int .i64 drop, .int .i64 0, .int .i64 ((s.size : Int) - at_)] wx fun e w' => e = .returned (.bool true) ∧ w' = wx))
    (cE1 : Hid (∀ wx, Calls Tryd.prog 81 #[.string s, .int .i64 at_] wx fun e w' => e = .returned (.bool true) ∧ w' = wx))
    (cE2 : Hid (∀ wx, Calls Tryd.prog 81 #[.string s, .int .i64 (j : Int)] wx fun e w' => e = .returned (.bool true) ∧ w' = wx)) :
    Calls Tryd.prog 31 #[.string s, .int .i64 at_, .int .i64 drop, .string put] w fun e w' => e = .returned (.tuple #[.string s, .agg #[.int .i64 12, .int .i64 (-1)]]) ∧ Below w.heap.size w w' := by
  subst hk hd
  have hjj : (k : Int) + (d : Int) = (j : Int) := by omega
  have hks : k ≤ s.size := by omega
  have cBr : Hid (∀ wx, Calls Tryd.prog 62 #[.int .i64 12] wx fun e w' => e = .returned (.agg #[.int .i64 12, .int .i64 (-1)]) ∧ Below wx.heap.size wx w') := fun wx => Bare_any 12 wx
  have HB0 : Hid (Below w.heap.size w (w.alloc (.cells #[.int .i64 0, .int .i64 0] 25))) := (Below.refl _ w).alloc (Nat.le_refl _) _
  have HS0 : Hid (spotW (w.alloc (.cells #[.int .i64 0, .int .i64 0] 25)) w.heap.size 0 0) := spotW_new w _ _ _
  go_enter Tryd.func31, Tryd.ntmps31
  go_wp2_with (first
    | (go_at_call 16; refine (cC.out _).mono ?_; rintro e w1 ⟨rfl, hb1⟩; have hby : Below w1.heap.size w1 ((w1.alloc (.cells #[.int .i64 c1, .int .i64 c2, .int .i64 c3, .int .i64 c4] 36)).alloc (.cells #[.int .i64 0, .int .i64 (-1)] 25)) := ((Below.refl _ _).alloc (Nat.le_refl _) _).alloc (by simp) _; have HB1 : Hid (Below w.heap.size w w1) := HB0.out.trans (hb1.mono HB0.out.size); have HB2 : Hid (Below w.heap.size w ((w1.alloc (.cells #[.int .i64 c1, .int .i64 c2, .int .i64 c3, .int .i64 c4] 36)).alloc (.cells #[.int .i64 0, .int .i64 (-1)] 25))) := HB1.out.trans (hby.mono HB1.out.size); have HS1 : Hid (spotW w1 w.heap.size 0 0) := spotW_below HS0.out hb1; have HS2 : Hid (spotW ((w1.alloc (.cells #[.int .i64 c1, .int .i64 c2, .int .i64 c3, .int .i64 c4] 36)).alloc (.cells #[.int .i64 0, .int .i64 (-1)] 25)) w.heap.size 0 0) := spotW_below HS1.out hby; have HF2 : Hid (spotW ((w1.alloc (.cells #[.int .i64 c1, .int .i64 c2, .int .i64 c3, .int .i64 c4] 36)).alloc (.cells #[.int .i64 0, .int .i64 (-1)] 25)) (w1.heap.size + 1) 0 (-1)) := (by have := spotW_new (w1.alloc (.cells #[.int .i64 c1, .int .i64 c2, .int .i64 c3, .int .i64 c4] 36)) 0 (-1) 25; rw [World.size_alloc] at this; exact this); have hl1 : w.heap.size < w1.heap.size := World.block_lt_of_cell? w1 _ HS1.out.1.1; have hn1 : w.heap.size ≠ w1.heap.size := Nat.ne_of_lt hl1; clear hb1 hby)
    | (have _ := HI1; go_at_call 78; refine (cI2.out _).mono ?_; rintro e wz ⟨rfl, hwz⟩; obtain rfl := hwz.symm)
    | (go_at_call 78; have HI1 := True.intro; refine (cI1.out _).mono ?_; rintro e wz ⟨rfl, hwz⟩; obtain rfl := hwz.symm)
    | (have _ := HE1; go_at_call 81; refine (cE2.out _).mono ?_; rintro e wz ⟨rfl, hwz⟩; obtain rfl := hwz.symm)
    | (go_at_call 81; have HE1 := True.intro; refine (cE1.out _).mono ?_; rintro e wz ⟨rfl, hwz⟩; obtain rfl := hwz.symm)
    | (go_at_call 62; refine (cBr.out _).mono ?_; rintro e w5 ⟨rfl, hb5⟩; have HB5 : Hid (Below w.heap.size w w5) := HB2.out.trans (hb5.mono HB2.out.size); have HS5 : Hid (spotW w5 w.heap.size 0 0) := spotW_below HS2.out hb5; have ⟨⟨m0, m1⟩, m2, m3⟩ := HS5.out; clear hb5)
    | fail)
  obtain ⟨⟨s0, s1⟩, _⟩ := spotW_set (m := 12) (n := -1) HS5.out
  have hB := below_set2 HB5.out (Nat.le_refl _) (.int .i64 12) (.int .i64 (-1))
  refine bodyPost_ret (v := .tuple #[.string s, .agg #[.int .i64 12, .int .i64 (-1)]]) (by simp [results, Tryd.results31, go_sem, s0, s1]) rfl ⟨rfl, hB⟩

set_option maxRecDepth 100000 in
set_option maxHeartbeats 8000000 in
theorem refSplice_good (s put : ByteArray) (k d j n : Nat) (at_ drop c1 c2 c3 c4 PL : Int) (hs : s.size < 100000000) (hp : put.size < 100000000) (hk : at_ = (k : Int)) (hd : drop = (d : Int)) (hj : k + d = j) (hjs : j ≤ s.size) (h5 : ¬ (8000 : Int) < (s.size : Int) - drop + put.size) (w : World)
    (cC : Hid (∀ wx, Calls Tryd.prog 16 #[.string put] wx fun e w' => e = .returned (.tuple #[.agg #[.int .i64 c1, .int .i64 c2, .int .i64 c3, .int .i64 c4], .agg #[.int .i64 0, .int .i64 (-1)]]) ∧ Below wx.heap.size wx w'))
    (cI1 : Hid (∀ wx, Calls Tryd.prog 78 #[.int .i64 at_, .int .i64 0, .int .i64 (s.size : Int)] wx fun e w' => e = .returned (.bool true) ∧ w' = wx))
    (cI2 : Hid (∀ wx, Calls Tryd.prog 78 #[.int .i64 drop, .int .i64 0, .int .i64 ((s.size : Int) - at_)] wx fun e w' => e = .returned (.bool true) ∧ w' = wx))
    (cE1 : Hid (∀ wx, Calls Tryd.prog 81 #[.string s, .int .i64 at_] wx fun e w' => e = .returned (.bool true) ∧ w' = wx))
    (cE2 : Hid (∀ wx, Calls Tryd.prog 81 #[.string s, .int .i64 (j : Int)] wx fun e w' => e = .returned (.bool true) ∧ w' = wx)) :
    Calls Tryd.prog 31 #[.string s, .int .i64 at_, .int .i64 drop, .string put] w fun e w' => e = .returned (.tuple #[.string (s.extract 0 k ++ put ++ s.extract j s.size), .agg #[.int .i64 0, .int .i64 (-1)]]) ∧ Below w.heap.size w w' := by
  subst hk hd
  have hjj : (k : Int) + (d : Int) = (j : Int) := by omega
  have hks : k ≤ s.size := by omega
  have z1 : (s.extract 0 k).size = k := by rw [ByteArray.size_extract]; omega
  have z2 : (s.extract j s.size).size = s.size - j := by rw [ByteArray.size_extract]; omega
  have y1 : (s.extract 0 k).size + put.size ≤ 400000000 := by omega
  have y2 : (s.extract 0 k ++ put).size + (s.extract j s.size).size ≤ 400000000 := by rw [ByteArray.size_append]; omega
  have q1 : ¬ 9223372036854775807 < k + put.size := by omega
  have q2 : ¬ 9223372036854775807 < k + put.size + (s.size - j) := by omega
  clear z1 z2
  have cBr : Hid (∀ wx, Calls Tryd.prog 62 #[.int .i64 0] wx fun e w' => e = .returned (.agg #[.int .i64 0, .int .i64 (-1)]) ∧ Below wx.heap.size wx w') := fun wx => Bare_any 0 wx
  have HB0 : Hid (Below w.heap.size w (w.alloc (.cells #[.int .i64 0, .int .i64 0] 25))) := (Below.refl _ w).alloc (Nat.le_refl _) _
  have HS0 : Hid (spotW (w.alloc (.cells #[.int .i64 0, .int .i64 0] 25)) w.heap.size 0 0) := spotW_new w _ _ _
  go_enter Tryd.func31, Tryd.ntmps31
  go_wp2_with (first
    | (go_at_call 16; refine (cC.out _).mono ?_; rintro e w1 ⟨rfl, hb1⟩; have hby : Below w1.heap.size w1 ((w1.alloc (.cells #[.int .i64 c1, .int .i64 c2, .int .i64 c3, .int .i64 c4] 36)).alloc (.cells #[.int .i64 0, .int .i64 (-1)] 25)) := ((Below.refl _ _).alloc (Nat.le_refl _) _).alloc (by simp) _; have HB1 : Hid (Below w.heap.size w w1) := HB0.out.trans (hb1.mono HB0.out.size); have HB2 : Hid (Below w.heap.size w ((w1.alloc (.cells #[.int .i64 c1, .int .i64 c2, .int .i64 c3, .int .i64 c4] 36)).alloc (.cells #[.int .i64 0, .int .i64 (-1)] 25))) := HB1.out.trans (hby.mono HB1.out.size); have HS1 : Hid (spotW w1 w.heap.size 0 0) := spotW_below HS0.out hb1; have HS2 : Hid (spotW ((w1.alloc (.cells #[.int .i64 c1, .int .i64 c2, .int .i64 c3, .int .i64 c4] 36)).alloc (.cells #[.int .i64 0, .int .i64 (-1)] 25)) w.heap.size 0 0) := spotW_below HS1.out hby; have HF2 : Hid (spotW ((w1.alloc (.cells #[.int .i64 c1, .int .i64 c2, .int .i64 c3, .int .i64 c4] 36)).alloc (.cells #[.int .i64 0, .int .i64 (-1)] 25)) (w1.heap.size + 1) 0 (-1)) := (by have := spotW_new (w1.alloc (.cells #[.int .i64 c1, .int .i64 c2, .int .i64 c3, .int .i64 c4] 36)) 0 (-1) 25; rw [World.size_alloc] at this; exact this); have hl1 : w.heap.size < w1.heap.size := World.block_lt_of_cell? w1 _ HS1.out.1.1; have hn1 : w.heap.size ≠ w1.heap.size := Nat.ne_of_lt hl1; clear hb1 hby)
    | (have _ := HI1; go_at_call 78; refine (cI2.out _).mono ?_; rintro e wz ⟨rfl, hwz⟩; obtain rfl := hwz.symm)
    | (go_at_call 78; have HI1 := True.intro; refine (cI1.out _).mono ?_; rintro e wz ⟨rfl, hwz⟩; obtain rfl := hwz.symm)
    | (have _ := HE1; go_at_call 81; refine (cE2.out _).mono ?_; rintro e wz ⟨rfl, hwz⟩; obtain rfl := hwz.symm)
    | (go_at_call 81; have HE1 := True.intro; refine (cE1.out _).mono ?_; rintro e wz ⟨rfl, hwz⟩; obtain rfl := hwz.symm)
    | fail)
  have hb2 := HB2.out
  have hs2 := HS2.out
  have hf2 := HF2.out
  generalize ((w1.alloc (.cells #[.int .i64 c1, .int .i64 c2, .int .i64 c3, .int .i64 c4] 36)).alloc (.cells #[.int .i64 0, .int .i64 (-1)] 25)) = WW at *
  generalize w1.heap.size = BF at *
  clear HB0 HS0 HB1 HS1 HB2 HS2 HF2 hl1 hn1 cC
  refine wp_region_rel 13 14 (by kernel_rfl) rfl ?_
  intro w6 hb6
  obtain ⟨G, hG⟩ := exists_growth w6
  have cZ := fun x => cBr.out (G x)
  have wj : IntKind.i64.wrap (j : Int) = (j : Int) := by rw [IntKind.wrap_i64]; omega
  (refine anyG_step hG (i := 0) rfl (by kernel_rfl) (by kernel_rfl) (by kernel_rfl) (fun K hK => ?_); go_simp; refine hK _ ?_; clear hK K)
  (refine anyG_step hG (i := 1) rfl (by kernel_rfl) (by kernel_rfl) (by kernel_rfl) (fun K hK => ?_); go_simp; refine hK _ ?_; clear hK K)
  (refine anyG_step hG (i := 2) rfl (by kernel_rfl) (by kernel_rfl) (by kernel_rfl) (fun K hK => ?_); go_simp; refine hK _ ?_; clear hK K)
  (refine anyG_step hG (i := 3) rfl (by kernel_rfl) (by kernel_rfl) (by kernel_rfl) (fun K hK => ?_); go_simp; refine hK _ ?_; clear hK K)
  (refine anyG_step hG (i := 4) rfl (by kernel_rfl) (by kernel_rfl) (by kernel_rfl) (fun K hK => ?_); go_simp; refine hK _ ?_; clear hK K)
  (refine anyG_step hG (i := 5) rfl (by kernel_rfl) (by kernel_rfl) (by kernel_rfl) (fun K hK => ?_); go_simp; refine hK _ ?_; clear hK K)
  (refine anyG_step hG (i := 6) rfl (by kernel_rfl) (by kernel_rfl) (by kernel_rfl) (fun K hK => ?_); go_simp; refine hK _ ?_; clear hK K)
  (refine anyG_step hG (i := 7) rfl (by kernel_rfl) (by kernel_rfl) (by kernel_rfl) (fun K hK => ?_); go_simp; refine hK _ ?_; clear hK K)
  (refine anyG_step hG (i := 8) rfl (by kernel_rfl) (by kernel_rfl) (by kernel_rfl) (fun K hK => ?_); go_simp; refine hK _ ?_; clear hK K)
  (refine anyG_step hG (i := 9) rfl (by kernel_rfl) (by kernel_rfl) (by kernel_rfl) (fun K hK => ?_); go_simp; refine hK _ ?_; clear hK K)
  (refine anyG_step hG (i := 10) rfl (by kernel_rfl) (by kernel_rfl) (by kernel_rfl) (fun K hK => ?_); go_simp; refine hK _ ?_; clear hK K)
  (refine anyG_step hG (i := 11) rfl (by kernel_rfl) (by kernel_rfl) (by kernel_rfl) (fun K hK => ?_); go_simp; apply Exists.intro; refine ⟨fun _ => ?_, hK _ ?_⟩; exact cZ _; clear hK K)
  (refine anyG_step hG (i := 12) rfl (by kernel_rfl) (by kernel_rfl) (by kernel_rfl) (fun K hK => ?_); go_simp; refine hK _ ?_; clear hK K)
  clear cZ hG
  refine anyG_late (i := 13) rfl (by kernel_rfl) (by kernel_rfl) ?_
  intro w7 hb7 K hK
  have hb67 := hb6.trans (hb7.mono hb6.size)
  have hs7 := spotW_below hs2 hb67
  have HS7 : Hid _ := hs7
  have HB7 : Hid (Below w.heap.size w w7) := hb2.trans (hb67.mono hb2.size)
  obtain ⟨⟨k0, k1⟩, k2, k3⟩ := hs7
  clear hb6 hb7 hb67 hs2 hf2 hb2
  go_simp
  refine hK _ _ ?_
  clear hK K
  refine anyG_end (by kernel_rfl) ?_
  intro w9 hb9
  obtain ⟨⟨s0, s1⟩, _⟩ := spotW_below (spotW_set (m := 0) (n := (-1)) HS7.out) hb9
  have hB7 := below_set2 HB7.out (Nat.le_refl _) (.int .i64 0) (.int .i64 (-1))
  have hB9 := hB7.trans (hb9.mono hB7.size)
  clear hb9 hB7 k0 k1 k2 k3
  go_wp2
  refine bodyPost_ret (v := .tuple #[.string (s.extract 0 k ++ put ++ s.extract j s.size), .agg #[.int .i64 0, .int .i64 (-1)]]) (by simp [results, Tryd.results31, go_sem, s0, s1]) rfl ⟨rfl, hB9⟩
end Go.Proofs.YtgmgkbbnciglhaaDoor
