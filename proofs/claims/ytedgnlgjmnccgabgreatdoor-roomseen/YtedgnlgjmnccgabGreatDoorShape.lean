/-
  A Shape: its unit, its length, its text, what is done to it.
-/
import Derived.Test.YtedgnlgjmnccgabGreatDoorShapePl1
import Derived.Test.YtedgnlgjmnccgabGreatDoorShapePl2
import Derived.Test.YtedgnlgjmnccgabGreatDoorShapePl3
namespace Go.Proofs.YtedgnlgjmnccgabGreatDoor
open Go.RowKit
set_option linter.unusedVariables false
attribute [local go_sem] Oper.semAt_some

def kindU (u : Nat) : IntKind := if u = 1 then .u8 else if u = 2 then .u16 else .i32
def isShape (w : World) (b u : Nat) (rs : List Nat) : Prop :=
  w.cell? ⟨b, 0, none⟩ = some (.int .i64 (u : Int)) ∧ w.frozen? ⟨b, u, none⟩ = false ∧ ∃ p n c, w.cell? ⟨b, u, none⟩ = some (.slice p n c) ∧ sl w (kindU u) p n c (rowZ (u : Int) rs) ∧ ∀ a, p = some a → a.block ≠ b
def unitN (u : Nat) : Prop := u = 1 ∨ u = 2 ∨ u = 3
theorem isShape_lt {w : World} {b u : Nat} {rs : List Nat} (h : isShape w b u rs) : b < w.heap.size := World.block_lt_of_cell? w _ h.1
theorem isShape_below {w w' : World} {b u : Nat} {rs : List Nat} (h : isShape w b u rs) (hb : Below w.heap.size w w') : isShape w' b u rs := by
  have hl := isShape_lt h
  obtain ⟨h1, h2, p, n, c, h3, h4, h5⟩ := h
  exact ⟨(hb.cell (p := ⟨b, 0, none⟩) hl).trans h1, (hb.frozen (p := ⟨b, u, none⟩) hl).trans h2, p, n, c, (hb.cell (p := ⟨b, u, none⟩) hl).trans h3, sl_grown h4 hb, h5⟩
theorem shunit_any (b u : Nat) (rs : List Nat) (w : World) (h : isShape w b u rs) : Calls Tryz.prog 35 #[.pointer (some ⟨b, 0, none⟩)] w fun e w' => e = .returned (.int .i64 (u : Int)) ∧ w' = w := by
  obtain ⟨h1, _⟩ := h
  go_enter Tryz.func35, Tryz.ntmps35
  go_wp2
  go_ret
  exact ⟨rfl, rfl⟩
def shE (u : Int) (R : List Nat) (qs : List Pt) : Int := if chkE qs (by_ u R) = 0 then plE u R qs else chkE qs (by_ u R)
def shR (u : Int) (R : List Nat) (qs : List Pt) : List Nat := if shE u R qs = 0 then comesZ u R qs else R

theorem isShape_set {W : World} {b u : Nat} {rs : List Nat} {p p0 : Option Addr} {n c n0 c0 : Nat} (h0 : W.cell? ⟨b, 0, none⟩ = some (.int .i64 (u : Int))) (h1 : W.cell? ⟨b, u, none⟩ = some (.slice p0 n0 c0)) (hf : W.frozen? ⟨b, u, none⟩ = false) (hs : sl W (kindU u) p n c (rowZ (u : Int) rs)) (hne : ∀ a, p = some a → a.block ≠ b) : isShape (W.setCell ⟨b, u, none⟩ (.slice p n c)) b u rs := by
  have hu0 : u ≠ 0 := fun e => by subst e; rw [h0] at h1; cases h1
  refine ⟨?_, ?_, p, n, c, ?_, ?_, hne⟩
  · rw [World.cell?_setCell_other _ _ _ _ (fun e => hu0 (congrArg Addr.off e))]; exact h0
  · rw [World.frozen?_setCell]; exact hf
  · exact World.cell?_setCell_same _ _ _ h1
  · obtain ⟨s1, s2⟩ := hs
    refine ⟨s1, ?_⟩
    rcases s2 with s2 | ⟨b', o, rfl, s3, s4, s5, s6⟩
    · exact .inl s2
    · refine .inr ⟨b', o, rfl, s3, s4, by rw [World.size_setCell]; exact s5, fun i z hi => ?_⟩
      have hb : b' ≠ b := hne _ rfl
      rw [World.cell?_of_block (w := W) (a := ⟨b', o + i, none⟩) (Below.heap_setCell W ⟨b, u, none⟩ _ b' hb)]
      exact s6 i z hi

theorem shlen1_any (b : Nat) (rs : List Nat) (w : World) (h : isShape w b 1 rs) : Calls Tryz.prog 33 #[.pointer (some ⟨b, 0, none⟩)] w fun e w' => e = .returned (.int .i64 (by_ 1 rs)) ∧ w' = w := by
  have hu := shunit_any b 1 rs w h
  obtain ⟨_, _, p, n, c, h3, h4, _⟩ := h
  have hn : (n : Int) = by_ 1 rs := by rw [h4.1]; exact rowZ_len (by unfold unitOk; omega) rs
  rw [← hn]
  have hu : Calls Tryz.prog 35 #[.pointer (some ⟨b, 0, none⟩)] w fun e w' => e = .returned (.int .i64 1) ∧ w' = w := hu
  have HU : Hid _ := hu
  clear h4 hn hu
  go_enter Tryz.func33, Tryz.ntmps33
  go_wp2_with (first
    | (go_at_call 35; refine Calls.mono HU.out ?_; rintro e w1 ⟨rfl, hw1⟩; obtain rfl := hw1.symm)
    | fail)
  go_ret
  exact ⟨rfl, rfl⟩
set_option maxHeartbeats 1000000 in
theorem shapply1_any (b : Nat) (rs : List Nat) (qs : List Pt) (v : Value) (w : World) (h : isShape w b 1 rs) (hR : ∀ r ∈ rs, isRune r) (hz : C1 rs ≤ 100000) (hT : Lib.Utf8Tabs 2 3 w) (hr : opAt w v qs) (hwf : ∀ q ∈ qs, wfP q) (hl : qs.length ≤ 1000) (hpl : ∀ q ∈ qs, q.put.length ≤ 1000000) :
    Calls Tryz.prog 26 #[.pointer (some ⟨b, 0, none⟩), v] w fun e w' => e = .returned (errV (shE 1 rs qs)) ∧ isShape w' b 1 (shR 1 rs qs) ∧ Below b w w' := by
  have hlt := isShape_lt h
  have hL := shlen1_any b rs w h
  have hu : Calls Tryz.prog 35 #[.pointer (some ⟨b, 0, none⟩)] w fun e w' => e = .returned (.int .i64 1) ∧ w' = w := shunit_any b 1 rs w h
  have hby := by_le3 (u := 1) (by unfold unitOk; omega) rs
  have hby0 := by_pos 1 rs
  have hC := Check_any v qs (by_ 1 rs) w hT hr hwf (by omega) (by omega)
  have HL : Hid _ := hL
  have HSH : Hid (isShape w b 1 rs) := h
  have hb0 : ∀ {w'}, Below w.heap.size w w' → Below b w w' := fun h => h.mono (by omega)
  have hvs : ∃ p c, v = .slice p qs.length c := by obtain ⟨p, c, e, _⟩ := hr; exact ⟨p, c, e⟩
  obtain ⟨pv, cv, rfl⟩ := hvs
  unfold shR shE
  by_cases hc : chkE qs (by_ 1 rs) = 0
  case neg =>
    rw [if_neg hc, if_neg hc]
    have hV : errV (chkE qs (by_ 1 rs)) = .iface 26 (.int .i64 (chkE qs (by_ 1 rs))) := by unfold errV; rw [if_neg hc]
    rw [hV] at hC ⊢
    have HC : Hid _ := hC
    generalize chkE qs (by_ 1 rs) = E at *
    generalize by_ 1 rs = BY at *
    clear hT hr hwf hl hpl hC hL hu hV hR hz h hby hby0
    go_enter Tryz.func26, Tryz.ntmps26
    go_wp2_with (first
      | (go_at_call 33; refine Calls.mono HL.out ?_; rintro e w1 ⟨rfl, hw1⟩; obtain rfl := hw1.symm)
      | (go_at_call 92; refine Calls.mono HC.out ?_; rintro e w2 ⟨rfl, hb2⟩)
      | fail)
    go_ret
    exact ⟨rfl, isShape_below HSH.out hb2, hb0 hb2⟩
  case pos =>
    rw [if_pos hc]
    rw [hc, errV_0] at hC
    have HC : Hid _ := hC
    have HU : Hid (∀ w1, Below w.heap.size w w1 → Calls Tryz.prog 35 #[.pointer (some ⟨b, 0, none⟩)] w1 fun e w' => e = .returned (.int .i64 1) ∧ w' = w1) := fun w1 hb => shunit_any b 1 rs w1 (isShape_below HSH.out hb)
    by_cases hp : plE 1 rs qs = 0
    case neg =>
      rw [if_neg hp]
      have HP : Hid (∀ w1, Below w.heap.size w w1 → Calls Tryz.prog 93 #[.pointer (some ⟨b, 1, none⟩), .slice pv qs.length cv, .func (.func 94) #[] #[], .func (.func 95) #[] #[]] w1 fun e w' => e = .returned (errV (plE 1 rs qs)) ∧ Below w1.heap.size w1 w') := fun w1 hb => by
        obtain ⟨_, _, p, n, c, h3, h4, _⟩ := isShape_below HSH.out hb
        exact play1_err b p n c rs qs _ w1 (Go.Proofs.Utf8Tabs_below hT hb) hR h3 h4 (opAt_below hr hb (Nat.le_refl _)) hc hl (by omega) hpl hp
      generalize errV (plE 1 rs qs) = EV at *
      generalize by_ 1 rs = BY at *
      clear hT hr hwf hl hpl hC hL hu hR hz h hby hby0 hc hp
      go_enter Tryz.func26, Tryz.ntmps26
      go_wp2_with (first
        | (go_at_call 33; refine Calls.mono HL.out ?_; rintro e w1 ⟨rfl, hw1⟩; obtain rfl := hw1.symm)
        | (go_at_call 92; refine Calls.mono HC.out ?_; rintro e w2 ⟨rfl, hb2⟩; have HB2 : Hid (Below w.heap.size w w2) := hb2; clear hb2)
        | (go_at_call 35; refine (HU.out _ HB2.out).mono ?_; rintro e w3 ⟨rfl, hw3⟩; obtain rfl := hw3.symm)
        | (go_at_call 93; refine (HP.out _ HB2.out).mono ?_; rintro e w3 ⟨rfl, hb3⟩; have HB3 : Hid (Below w.heap.size w w3) := HB2.out.trans (hb3.mono HB2.out.size); clear hb3)
        | fail)
      go_ret
      exact ⟨rfl, isShape_below HSH.out HB3.out, hb0 HB3.out⟩
    case pos =>
      rw [hp, if_pos rfl, errV_0]
      have hok : okZ 1 rs qs = true ∧ C1 (comesZ 1 rs qs) ≤ 8000 := by
        unfold plE at hp
        split at hp
        · split at hp
          · exact ⟨‹_›, ‹_›⟩
          · cases hp
        · cases hp
      have HP : Hid (∀ w1, Below w.heap.size w w1 → Calls Tryz.prog 93 #[.pointer (some ⟨b, 1, none⟩), .slice pv qs.length cv, .func (.func 94) #[] #[], .func (.func 95) #[] #[]] w1 fun e w' => e = .returned .nilIface ∧ isShape w' b 1 (comesZ 1 rs qs) ∧ Below b w1 w') := fun w1 hb => by
        have hsh := isShape_below HSH.out hb
        obtain ⟨h1, h2, p, n, c, h3, h4, _⟩ := hsh
        refine (play1_good b p n c rs qs _ w1 (Go.Proofs.Utf8Tabs_below hT hb) hR h3 h2 h4 (opAt_below hr hb (Nat.le_refl _)) hc hl (by omega) hpl hok.1 hok.2).mono ?_
        rintro e w' ⟨rfl, W, p', n', c', hB, rfl, hs, hne⟩
        have hlt1 : b < w1.heap.size := by have := hb.size; omega
        have hltW : b < W.heap.size := by have := hB.size; omega
        have c0 : W.cell? ⟨b, 0, none⟩ = some (.int .i64 ((1 : Nat) : Int)) := (hB.cell (p := ⟨b, 0, none⟩) hlt1).trans h1
        have c1 : W.cell? ⟨b, 1, none⟩ = some (.slice p n c) := (hB.cell (p := ⟨b, 1, none⟩) hlt1).trans h3
        have f1 : W.frozen? ⟨b, 1, none⟩ = false := (hB.frozen (p := ⟨b, 1, none⟩) hlt1).trans h2
        exact ⟨rfl, isShape_set c0 c1 f1 hs (fun a ha => by have := hne a ha; have := hlt1; omega), (hB.mono (Nat.le_of_lt hlt1)).setCell (p := ⟨b, 1, none⟩) (Nat.le_refl _) _⟩
      generalize by_ 1 rs = BY at *
      clear hT hr hwf hl hpl hC hL hu hR hz h hby hby0 hc hp hok
      go_enter Tryz.func26, Tryz.ntmps26
      go_wp2_with (first
        | (go_at_call 33; refine Calls.mono HL.out ?_; rintro e w1 ⟨rfl, hw1⟩; obtain rfl := hw1.symm)
        | (go_at_call 92; refine Calls.mono HC.out ?_; rintro e w2 ⟨rfl, hb2⟩; have HB2 : Hid (Below w.heap.size w w2) := hb2; clear hb2)
        | (go_at_call 35; refine (HU.out _ HB2.out).mono ?_; rintro e w3 ⟨rfl, hw3⟩; obtain rfl := hw3.symm)
        | (go_at_call 93; refine (HP.out _ HB2.out).mono ?_; rintro e w3 ⟨rfl, hs3, hb3⟩; have HS3 : Hid _ := hs3; have HB3 : Hid (Below b w w3) := (hb0 HB2.out).trans hb3; clear hb3 hs3)
        | fail)
      go_ret
      exact ⟨rfl, HS3.out, HB3.out⟩

theorem shlen2_any (b : Nat) (rs : List Nat) (w : World) (h : isShape w b 2 rs) : Calls Tryz.prog 33 #[.pointer (some ⟨b, 0, none⟩)] w fun e w' => e = .returned (.int .i64 (by_ 2 rs)) ∧ w' = w := by
  have hu := shunit_any b 2 rs w h
  obtain ⟨_, _, p, n, c, h3, h4, _⟩ := h
  have hn : (n : Int) = by_ 2 rs := by rw [h4.1]; exact rowZ_len (by unfold unitOk; omega) rs
  rw [← hn]
  have hu : Calls Tryz.prog 35 #[.pointer (some ⟨b, 0, none⟩)] w fun e w' => e = .returned (.int .i64 2) ∧ w' = w := hu
  have HU : Hid _ := hu
  clear h4 hn hu
  go_enter Tryz.func33, Tryz.ntmps33
  go_wp2_with (first
    | (go_at_call 35; refine Calls.mono HU.out ?_; rintro e w1 ⟨rfl, hw1⟩; obtain rfl := hw1.symm)
    | fail)
  go_ret
  exact ⟨rfl, rfl⟩
set_option maxHeartbeats 1000000 in
theorem shapply2_any (b : Nat) (rs : List Nat) (qs : List Pt) (v : Value) (w : World) (h : isShape w b 2 rs) (hR : ∀ r ∈ rs, isRune r) (hz : C1 rs ≤ 100000) (hT : Lib.Utf8Tabs 2 3 w) (hr : opAt w v qs) (hwf : ∀ q ∈ qs, wfP q) (hl : qs.length ≤ 1000) (hpl : ∀ q ∈ qs, q.put.length ≤ 1000000) :
    Calls Tryz.prog 26 #[.pointer (some ⟨b, 0, none⟩), v] w fun e w' => e = .returned (errV (shE 2 rs qs)) ∧ isShape w' b 2 (shR 2 rs qs) ∧ Below b w w' := by
  have hlt := isShape_lt h
  have hL := shlen2_any b rs w h
  have hu : Calls Tryz.prog 35 #[.pointer (some ⟨b, 0, none⟩)] w fun e w' => e = .returned (.int .i64 2) ∧ w' = w := shunit_any b 2 rs w h
  have hby := by_le3 (u := 2) (by unfold unitOk; omega) rs
  have hby0 := by_pos 2 rs
  have hC := Check_any v qs (by_ 2 rs) w hT hr hwf (by omega) (by omega)
  have HL : Hid _ := hL
  have HSH : Hid (isShape w b 2 rs) := h
  have hb0 : ∀ {w'}, Below w.heap.size w w' → Below b w w' := fun h => h.mono (by omega)
  have hvs : ∃ p c, v = .slice p qs.length c := by obtain ⟨p, c, e, _⟩ := hr; exact ⟨p, c, e⟩
  obtain ⟨pv, cv, rfl⟩ := hvs
  unfold shR shE
  by_cases hc : chkE qs (by_ 2 rs) = 0
  case neg =>
    rw [if_neg hc, if_neg hc]
    have hV : errV (chkE qs (by_ 2 rs)) = .iface 26 (.int .i64 (chkE qs (by_ 2 rs))) := by unfold errV; rw [if_neg hc]
    rw [hV] at hC ⊢
    have HC : Hid _ := hC
    generalize chkE qs (by_ 2 rs) = E at *
    generalize by_ 2 rs = BY at *
    clear hT hr hwf hl hpl hC hL hu hV hR hz h hby hby0
    go_enter Tryz.func26, Tryz.ntmps26
    go_wp2_with (first
      | (go_at_call 33; refine Calls.mono HL.out ?_; rintro e w1 ⟨rfl, hw1⟩; obtain rfl := hw1.symm)
      | (go_at_call 92; refine Calls.mono HC.out ?_; rintro e w2 ⟨rfl, hb2⟩)
      | fail)
    go_ret
    exact ⟨rfl, isShape_below HSH.out hb2, hb0 hb2⟩
  case pos =>
    rw [if_pos hc]
    rw [hc, errV_0] at hC
    have HC : Hid _ := hC
    have HU : Hid (∀ w1, Below w.heap.size w w1 → Calls Tryz.prog 35 #[.pointer (some ⟨b, 0, none⟩)] w1 fun e w' => e = .returned (.int .i64 2) ∧ w' = w1) := fun w1 hb => shunit_any b 2 rs w1 (isShape_below HSH.out hb)
    by_cases hp : plE 2 rs qs = 0
    case neg =>
      rw [if_neg hp]
      have HP : Hid (∀ w1, Below w.heap.size w w1 → Calls Tryz.prog 96 #[.pointer (some ⟨b, 2, none⟩), .slice pv qs.length cv, .func (.func 97) #[] #[], .func (.func 98) #[] #[]] w1 fun e w' => e = .returned (errV (plE 2 rs qs)) ∧ Below w1.heap.size w1 w') := fun w1 hb => by
        obtain ⟨_, _, p, n, c, h3, h4, _⟩ := isShape_below HSH.out hb
        exact play2_err b p n c rs qs _ w1 (Go.Proofs.Utf8Tabs_below hT hb) hR h3 h4 (opAt_below hr hb (Nat.le_refl _)) hc hl (by omega) hpl hp
      generalize errV (plE 2 rs qs) = EV at *
      generalize by_ 2 rs = BY at *
      clear hT hr hwf hl hpl hC hL hu hR hz h hby hby0 hc hp
      go_enter Tryz.func26, Tryz.ntmps26
      go_wp2_with (first
        | (go_at_call 33; refine Calls.mono HL.out ?_; rintro e w1 ⟨rfl, hw1⟩; obtain rfl := hw1.symm)
        | (go_at_call 92; refine Calls.mono HC.out ?_; rintro e w2 ⟨rfl, hb2⟩; have HB2 : Hid (Below w.heap.size w w2) := hb2; clear hb2)
        | (go_at_call 35; refine (HU.out _ HB2.out).mono ?_; rintro e w3 ⟨rfl, hw3⟩; obtain rfl := hw3.symm)
        | (go_at_call 96; refine (HP.out _ HB2.out).mono ?_; rintro e w3 ⟨rfl, hb3⟩; have HB3 : Hid (Below w.heap.size w w3) := HB2.out.trans (hb3.mono HB2.out.size); clear hb3)
        | fail)
      go_ret
      exact ⟨rfl, isShape_below HSH.out HB3.out, hb0 HB3.out⟩
    case pos =>
      rw [hp, if_pos rfl, errV_0]
      have hok : okZ 2 rs qs = true ∧ C1 (comesZ 2 rs qs) ≤ 8000 := by
        unfold plE at hp
        split at hp
        · split at hp
          · exact ⟨‹_›, ‹_›⟩
          · cases hp
        · cases hp
      have HP : Hid (∀ w1, Below w.heap.size w w1 → Calls Tryz.prog 96 #[.pointer (some ⟨b, 2, none⟩), .slice pv qs.length cv, .func (.func 97) #[] #[], .func (.func 98) #[] #[]] w1 fun e w' => e = .returned .nilIface ∧ isShape w' b 2 (comesZ 2 rs qs) ∧ Below b w1 w') := fun w1 hb => by
        have hsh := isShape_below HSH.out hb
        obtain ⟨h1, h2, p, n, c, h3, h4, _⟩ := hsh
        refine (play2_good b p n c rs qs _ w1 (Go.Proofs.Utf8Tabs_below hT hb) hR h3 h2 h4 (opAt_below hr hb (Nat.le_refl _)) hc hl (by omega) hpl hok.1 hok.2).mono ?_
        rintro e w' ⟨rfl, W, p', n', c', hB, rfl, hs, hne⟩
        have hlt1 : b < w1.heap.size := by have := hb.size; omega
        have hltW : b < W.heap.size := by have := hB.size; omega
        have c0 : W.cell? ⟨b, 0, none⟩ = some (.int .i64 ((2 : Nat) : Int)) := (hB.cell (p := ⟨b, 0, none⟩) hlt1).trans h1
        have c1 : W.cell? ⟨b, 2, none⟩ = some (.slice p n c) := (hB.cell (p := ⟨b, 2, none⟩) hlt1).trans h3
        have f1 : W.frozen? ⟨b, 2, none⟩ = false := (hB.frozen (p := ⟨b, 2, none⟩) hlt1).trans h2
        exact ⟨rfl, isShape_set c0 c1 f1 hs (fun a ha => by have := hne a ha; have := hlt1; omega), (hB.mono (Nat.le_of_lt hlt1)).setCell (p := ⟨b, 2, none⟩) (Nat.le_refl _) _⟩
      generalize by_ 2 rs = BY at *
      clear hT hr hwf hl hpl hC hL hu hR hz h hby hby0 hc hp hok
      go_enter Tryz.func26, Tryz.ntmps26
      go_wp2_with (first
        | (go_at_call 33; refine Calls.mono HL.out ?_; rintro e w1 ⟨rfl, hw1⟩; obtain rfl := hw1.symm)
        | (go_at_call 92; refine Calls.mono HC.out ?_; rintro e w2 ⟨rfl, hb2⟩; have HB2 : Hid (Below w.heap.size w w2) := hb2; clear hb2)
        | (go_at_call 35; refine (HU.out _ HB2.out).mono ?_; rintro e w3 ⟨rfl, hw3⟩; obtain rfl := hw3.symm)
        | (go_at_call 96; refine (HP.out _ HB2.out).mono ?_; rintro e w3 ⟨rfl, hs3, hb3⟩; have HS3 : Hid _ := hs3; have HB3 : Hid (Below b w w3) := (hb0 HB2.out).trans hb3; clear hb3 hs3)
        | fail)
      go_ret
      exact ⟨rfl, HS3.out, HB3.out⟩

theorem shlen3_any (b : Nat) (rs : List Nat) (w : World) (h : isShape w b 3 rs) : Calls Tryz.prog 33 #[.pointer (some ⟨b, 0, none⟩)] w fun e w' => e = .returned (.int .i64 (by_ 3 rs)) ∧ w' = w := by
  have hu := shunit_any b 3 rs w h
  obtain ⟨_, _, p, n, c, h3, h4, _⟩ := h
  have hn : (n : Int) = by_ 3 rs := by rw [h4.1]; exact rowZ_len (by unfold unitOk; omega) rs
  rw [← hn]
  have hu : Calls Tryz.prog 35 #[.pointer (some ⟨b, 0, none⟩)] w fun e w' => e = .returned (.int .i64 3) ∧ w' = w := hu
  have HU : Hid _ := hu
  clear h4 hn hu
  go_enter Tryz.func33, Tryz.ntmps33
  go_wp2_with (first
    | (go_at_call 35; refine Calls.mono HU.out ?_; rintro e w1 ⟨rfl, hw1⟩; obtain rfl := hw1.symm)
    | fail)
  go_ret
  exact ⟨rfl, rfl⟩
set_option maxHeartbeats 1000000 in
theorem shapply3_any (b : Nat) (rs : List Nat) (qs : List Pt) (v : Value) (w : World) (h : isShape w b 3 rs) (hR : ∀ r ∈ rs, isRune r) (hz : C1 rs ≤ 100000) (hT : Lib.Utf8Tabs 2 3 w) (hr : opAt w v qs) (hwf : ∀ q ∈ qs, wfP q) (hl : qs.length ≤ 1000) (hpl : ∀ q ∈ qs, q.put.length ≤ 1000000) :
    Calls Tryz.prog 26 #[.pointer (some ⟨b, 0, none⟩), v] w fun e w' => e = .returned (errV (shE 3 rs qs)) ∧ isShape w' b 3 (shR 3 rs qs) ∧ Below b w w' := by
  have hlt := isShape_lt h
  have hL := shlen3_any b rs w h
  have hu : Calls Tryz.prog 35 #[.pointer (some ⟨b, 0, none⟩)] w fun e w' => e = .returned (.int .i64 3) ∧ w' = w := shunit_any b 3 rs w h
  have hby := by_le3 (u := 3) (by unfold unitOk; omega) rs
  have hby0 := by_pos 3 rs
  have hC := Check_any v qs (by_ 3 rs) w hT hr hwf (by omega) (by omega)
  have HL : Hid _ := hL
  have HSH : Hid (isShape w b 3 rs) := h
  have hb0 : ∀ {w'}, Below w.heap.size w w' → Below b w w' := fun h => h.mono (by omega)
  have hvs : ∃ p c, v = .slice p qs.length c := by obtain ⟨p, c, e, _⟩ := hr; exact ⟨p, c, e⟩
  obtain ⟨pv, cv, rfl⟩ := hvs
  unfold shR shE
  by_cases hc : chkE qs (by_ 3 rs) = 0
  case neg =>
    rw [if_neg hc, if_neg hc]
    have hV : errV (chkE qs (by_ 3 rs)) = .iface 26 (.int .i64 (chkE qs (by_ 3 rs))) := by unfold errV; rw [if_neg hc]
    rw [hV] at hC ⊢
    have HC : Hid _ := hC
    generalize chkE qs (by_ 3 rs) = E at *
    generalize by_ 3 rs = BY at *
    clear hT hr hwf hl hpl hC hL hu hV hR hz h hby hby0
    go_enter Tryz.func26, Tryz.ntmps26
    go_wp2_with (first
      | (go_at_call 33; refine Calls.mono HL.out ?_; rintro e w1 ⟨rfl, hw1⟩; obtain rfl := hw1.symm)
      | (go_at_call 92; refine Calls.mono HC.out ?_; rintro e w2 ⟨rfl, hb2⟩)
      | fail)
    go_ret
    exact ⟨rfl, isShape_below HSH.out hb2, hb0 hb2⟩
  case pos =>
    rw [if_pos hc]
    rw [hc, errV_0] at hC
    have HC : Hid _ := hC
    have HU : Hid (∀ w1, Below w.heap.size w w1 → Calls Tryz.prog 35 #[.pointer (some ⟨b, 0, none⟩)] w1 fun e w' => e = .returned (.int .i64 3) ∧ w' = w1) := fun w1 hb => shunit_any b 3 rs w1 (isShape_below HSH.out hb)
    by_cases hp : plE 3 rs qs = 0
    case neg =>
      rw [if_neg hp]
      have HP : Hid (∀ w1, Below w.heap.size w w1 → Calls Tryz.prog 100 #[.pointer (some ⟨b, 3, none⟩), .slice pv qs.length cv, .func (.func 101) #[] #[], .func (.func 102) #[] #[]] w1 fun e w' => e = .returned (errV (plE 3 rs qs)) ∧ Below w1.heap.size w1 w') := fun w1 hb => by
        obtain ⟨_, _, p, n, c, h3, h4, _⟩ := isShape_below HSH.out hb
        exact play3_err b p n c rs qs _ w1 (Go.Proofs.Utf8Tabs_below hT hb) hR h3 h4 (opAt_below hr hb (Nat.le_refl _)) hc hl (by omega) hpl hp
      generalize errV (plE 3 rs qs) = EV at *
      generalize by_ 3 rs = BY at *
      clear hT hr hwf hl hpl hC hL hu hR hz h hby hby0 hc hp
      go_enter Tryz.func26, Tryz.ntmps26
      go_wp2_with (first
        | (go_at_call 33; refine Calls.mono HL.out ?_; rintro e w1 ⟨rfl, hw1⟩; obtain rfl := hw1.symm)
        | (go_at_call 92; refine Calls.mono HC.out ?_; rintro e w2 ⟨rfl, hb2⟩; have HB2 : Hid (Below w.heap.size w w2) := hb2; clear hb2)
        | (go_at_call 35; refine (HU.out _ HB2.out).mono ?_; rintro e w3 ⟨rfl, hw3⟩; obtain rfl := hw3.symm)
        | (go_at_call 100; refine (HP.out _ HB2.out).mono ?_; rintro e w3 ⟨rfl, hb3⟩; have HB3 : Hid (Below w.heap.size w w3) := HB2.out.trans (hb3.mono HB2.out.size); clear hb3)
        | fail)
      go_ret
      exact ⟨rfl, isShape_below HSH.out HB3.out, hb0 HB3.out⟩
    case pos =>
      rw [hp, if_pos rfl, errV_0]
      have hok : okZ 3 rs qs = true ∧ C1 (comesZ 3 rs qs) ≤ 8000 := by
        unfold plE at hp
        split at hp
        · split at hp
          · exact ⟨‹_›, ‹_›⟩
          · cases hp
        · cases hp
      have HP : Hid (∀ w1, Below w.heap.size w w1 → Calls Tryz.prog 100 #[.pointer (some ⟨b, 3, none⟩), .slice pv qs.length cv, .func (.func 101) #[] #[], .func (.func 102) #[] #[]] w1 fun e w' => e = .returned .nilIface ∧ isShape w' b 3 (comesZ 3 rs qs) ∧ Below b w1 w') := fun w1 hb => by
        have hsh := isShape_below HSH.out hb
        obtain ⟨h1, h2, p, n, c, h3, h4, _⟩ := hsh
        refine (play3_good b p n c rs qs _ w1 (Go.Proofs.Utf8Tabs_below hT hb) hR h3 h2 h4 (opAt_below hr hb (Nat.le_refl _)) hc hl (by omega) hpl hok.1 hok.2).mono ?_
        rintro e w' ⟨rfl, W, p', n', c', hB, rfl, hs, hne⟩
        have hlt1 : b < w1.heap.size := by have := hb.size; omega
        have hltW : b < W.heap.size := by have := hB.size; omega
        have c0 : W.cell? ⟨b, 0, none⟩ = some (.int .i64 ((3 : Nat) : Int)) := (hB.cell (p := ⟨b, 0, none⟩) hlt1).trans h1
        have c1 : W.cell? ⟨b, 3, none⟩ = some (.slice p n c) := (hB.cell (p := ⟨b, 3, none⟩) hlt1).trans h3
        have f1 : W.frozen? ⟨b, 3, none⟩ = false := (hB.frozen (p := ⟨b, 3, none⟩) hlt1).trans h2
        exact ⟨rfl, isShape_set c0 c1 f1 hs (fun a ha => by have := hne a ha; have := hlt1; omega), (hB.mono (Nat.le_of_lt hlt1)).setCell (p := ⟨b, 3, none⟩) (Nat.le_refl _) _⟩
      generalize by_ 3 rs = BY at *
      clear hT hr hwf hl hpl hC hL hu hR hz h hby hby0 hc hp hok
      go_enter Tryz.func26, Tryz.ntmps26
      go_wp2_with (first
        | (go_at_call 33; refine Calls.mono HL.out ?_; rintro e w1 ⟨rfl, hw1⟩; obtain rfl := hw1.symm)
        | (go_at_call 92; refine Calls.mono HC.out ?_; rintro e w2 ⟨rfl, hb2⟩; have HB2 : Hid (Below w.heap.size w w2) := hb2; clear hb2)
        | (go_at_call 35; refine (HU.out _ HB2.out).mono ?_; rintro e w3 ⟨rfl, hw3⟩; obtain rfl := hw3.symm)
        | (go_at_call 100; refine (HP.out _ HB2.out).mono ?_; rintro e w3 ⟨rfl, hs3, hb3⟩; have HS3 : Hid _ := hs3; have HB3 : Hid (Below b w w3) := (hb0 HB2.out).trans hb3; clear hb3 hs3)
        | fail)
      go_ret
      exact ⟨rfl, HS3.out, HB3.out⟩
end Go.Proofs.YtedgnlgjmnccgabGreatDoor
