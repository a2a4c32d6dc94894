/-
  A Shape: its unit, its length, its text, what is done to it.
  ops.Transform and ops.Compose: what is wrong.
  rosettakeep's done: a fact.
  shape.New.
-/
import Derived.Test.YtldhbjmillfjgabGreatDoorPartK
import Derived.Test.YtldhbjmillfjgabGreatDoorPartJ
import Derived.Test.YtldhbjmillfjgabGreatDoorPartE
import Derived.Test.YtldhbjmillfjgabGreatDoorPartF
namespace Go.Proofs.YtldhbjmillfjgabGreatDoor
open Go.RowKit
set_option linter.unusedVariables false
attribute [local go_sem] Oper.semAt_some

def kindU (u : Nat) : IntKind := if u = 1 then .u8 else if u = 2 then .u16 else .i32
def isShape (w : World) (b u : Nat) (rs : List Nat) : Prop :=
  w.cell? ⟨b, 0, none⟩ = some (.int .i64 (u : Int)) ∧ w.frozen? ⟨b, u, none⟩ = false ∧ ∃ p n c, w.cell? ⟨b, u, none⟩ = some (.slice p n c) ∧ sl w (kindU u) p n c (rowZ (u : Int) rs) ∧ ∀ a, p = some a → a.block ≠ b
def unitN (u : Nat) : Prop := u = 1 ∨ u = 2 ∨ u = 3
theorem unitN_ok {u : Nat} (h : unitN u) : unitOk (u : Int) := by unfold unitN at h; unfold unitOk; omega
theorem isShape_lt {w : World} {b u : Nat} {rs : List Nat} (h : isShape w b u rs) : b < w.heap.size := World.block_lt_of_cell? w _ h.1
theorem isShape_below {w w' : World} {b u : Nat} {rs : List Nat} (h : isShape w b u rs) (hb : Below w.heap.size w w') : isShape w' b u rs := by
  have hl := isShape_lt h
  obtain ⟨h1, h2, p, n, c, h3, h4, h5⟩ := h
  exact ⟨(hb.cell (p := ⟨b, 0, none⟩) hl).trans h1, (hb.frozen (p := ⟨b, u, none⟩) hl).trans h2, p, n, c, (hb.cell (p := ⟨b, u, none⟩) hl).trans h3, sl_grown h4 hb, h5⟩
theorem shunit_any (b u : Nat) (rs : List Nat) (w : World) (h : isShape w b u rs) : Calls Tryz.prog 31 #[.pointer (some ⟨b, 0, none⟩)] w fun e w' => e = .returned (.int .i64 (u : Int)) ∧ w' = w := by
  obtain ⟨h1, _⟩ := h
  go_enter Tryz.func31, Tryz.ntmps31
  go_wp2
  go_ret
  exact ⟨rfl, rfl⟩
def shE (u : Int) (R : List Nat) (qs : List Pt) : Int := if chkE qs (by_ u R) = 0 then plE u R qs else chkE qs (by_ u R)
def shR (u : Int) (R : List Nat) (qs : List Pt) : List Nat := if shE u R qs = 0 then comesZ u R qs else R

theorem isShape_set {W : World} {b u : Nat} {rs : List Nat} {p p0 : Option Addr} {n c n0 c0 : Nat} (h0 : W.cell? ⟨b, 0, none⟩ = some (.int .i64 (u : Int))) (h1 : W.cell? ⟨b, u, none⟩ = some (.slice p0 n0 c0)) (hf : W.frozen? ⟨b, u, none⟩ = false) (hs : sl W (kindU u) p n c (rowZ (u : Int) rs)) (hne : ∀ a, p = some a → a.block ≠ b) : isShape (W.setCell ⟨b, u, none⟩ (.slice p n c)) b u rs := by
  have hu0 : u ≠ 0 := fun e => by subst e; rw [h0] at h1; cases h1
  refine ⟨?_, ?_, p, n, c, ?_, ?_, hne⟩
  · rw [World.cell?_setCell_other _ _ _ _ (fun e => hu0 (congrArg Addr.off e))]; exact h0
  · rw [World.frozen?_setCell]; exact hf
  · exact World.cell?_setCell_same _ _ _ h1
  · obtain ⟨s1, s2⟩ := hs
    refine ⟨s1, ?_⟩
    rcases s2 with s2 | ⟨b', o, rfl, s3, s4, s5, s6⟩
    · exact .inl s2
    · refine .inr ⟨b', o, rfl, s3, s4, by rw [World.size_setCell]; exact s5, fun i z hi => ?_⟩
      have hb : b' ≠ b := hne _ rfl
      rw [World.cell?_of_block (w := W) (a := ⟨b', o + i, none⟩) (Below.heap_setCell W ⟨b, u, none⟩ _ b' hb)]
      exact s6 i z hi

theorem shlen1_any (b : Nat) (rs : List Nat) (w : World) (h : isShape w b 1 rs) : Calls Tryz.prog 29 #[.pointer (some ⟨b, 0, none⟩)] w fun e w' => e = .returned (.int .i64 (by_ 1 rs)) ∧ w' = w := by
  have hu := shunit_any b 1 rs w h
  obtain ⟨_, _, p, n, c, h3, h4, _⟩ := h
  have hn : (n : Int) = by_ 1 rs := by rw [h4.1]; exact rowZ_len (by unfold unitOk; omega) rs
  rw [← hn]
  have hu : Calls Tryz.prog 31 #[.pointer (some ⟨b, 0, none⟩)] w fun e w' => e = .returned (.int .i64 1) ∧ w' = w := hu
  have HU : Hid _ := hu
  clear h4 hn hu
  go_enter Tryz.func29, Tryz.ntmps29
  go_wp2_with (first
    | (go_at_call 31; refine Calls.mono HU.out ?_; rintro e w1 ⟨rfl, hw1⟩; obtain rfl := hw1.symm)
    | fail)
  go_ret
  exact ⟨rfl, rfl⟩
theorem shtext1_any (b : Nat) (rs : List Nat) (w : World) (h : isShape w b 1 rs) (hR : ∀ r ∈ rs, isRune r) (hz : C1 rs ≤ 1000000) (hT : Lib.Utf8Tabs 2 3 w) : Calls Tryz.prog 24 #[.pointer (some ⟨b, 0, none⟩)] w fun e w' => e = .returned (.string (bytesOf rs)) ∧ Below w.heap.size w w' := by
  have hu : Calls Tryz.prog 31 #[.pointer (some ⟨b, 0, none⟩)] w fun e w' => e = .returned (.int .i64 1) ∧ w' = w := shunit_any b 1 rs w h
  obtain ⟨_, _, p, n, c, h3, h4, _⟩ := h
  have HT : Hid _ := text1_good rs hR hz p n c w hT h4
  have HU : Hid _ := hu
  generalize bytesOf rs = S at *
  clear h4 hu hT hR hz
  go_enter Tryz.func24, Tryz.ntmps24
  go_wp2_with (first
    | (go_at_call 31; refine Calls.mono HU.out ?_; rintro e w1 ⟨rfl, hw1⟩; obtain rfl := hw1.symm)
    | (go_at_call 70; refine Calls.mono HT.out ?_; rintro e w2 ⟨rfl, hb2⟩)
    | fail)
  go_ret
  exact ⟨rfl, hb2⟩
set_option maxHeartbeats 1000000 in
theorem shapply1_any (b : Nat) (rs : List Nat) (qs : List Pt) (v : Value) (w : World) (h : isShape w b 1 rs) (hR : ∀ r ∈ rs, isRune r) (hz : C1 rs ≤ 100000) (hT : Lib.Utf8Tabs 2 3 w) (hr : opAt w v qs) (hwf : ∀ q ∈ qs, wfP q) (hl : qs.length ≤ 1000) (hpl : ∀ q ∈ qs, q.put.length ≤ 1000000) :
    Calls Tryz.prog 22 #[.pointer (some ⟨b, 0, none⟩), v] w fun e w' => e = .returned (errV (shE 1 rs qs)) ∧ isShape w' b 1 (shR 1 rs qs) ∧ Below b w w' := by
  have hlt := isShape_lt h
  have hL := shlen1_any b rs w h
  have hu : Calls Tryz.prog 31 #[.pointer (some ⟨b, 0, none⟩)] w fun e w' => e = .returned (.int .i64 1) ∧ w' = w := shunit_any b 1 rs w h
  have hby := by_le3 (u := 1) (by unfold unitOk; omega) rs
  have hby0 := by_pos 1 rs
  have hC := Check_any v qs (by_ 1 rs) w hT hr hwf (by omega) (by omega)
  have HL : Hid _ := hL
  have HSH : Hid (isShape w b 1 rs) := h
  have hb0 : ∀ {w'}, Below w.heap.size w w' → Below b w w' := fun h => h.mono (by omega)
  have hvs : ∃ p c, v = .slice p qs.length c := by obtain ⟨p, c, e, _⟩ := hr; exact ⟨p, c, e⟩
  obtain ⟨pv, cv, rfl⟩ := hvs
  unfold shR shE
  by_cases hc : chkE qs (by_ 1 rs) = 0
  case neg =>
    rw [if_neg hc, if_neg hc]
    have hV : errV (chkE qs (by_ 1 rs)) = .iface 26 (.int .i64 (chkE qs (by_ 1 rs))) := by unfold errV; rw [if_neg hc]
    rw [hV] at hC ⊢
    have HC : Hid _ := hC
    generalize chkE qs (by_ 1 rs) = E at *
    generalize by_ 1 rs = BY at *
    clear hT hr hwf hl hpl hC hL hu hV hR hz h hby hby0
    go_enter Tryz.func22, Tryz.ntmps22
    go_wp2_with (first
      | (go_at_call 29; refine Calls.mono HL.out ?_; rintro e w1 ⟨rfl, hw1⟩; obtain rfl := hw1.symm)
      | (go_at_call 68; refine Calls.mono HC.out ?_; rintro e w2 ⟨rfl, hb2⟩)
      | fail)
    go_ret
    exact ⟨rfl, isShape_below HSH.out hb2, hb0 hb2⟩
  case pos =>
    rw [if_pos hc]
    rw [hc, errV_0] at hC
    have HC : Hid _ := hC
    have HU : Hid (∀ w1, Below w.heap.size w w1 → Calls Tryz.prog 31 #[.pointer (some ⟨b, 0, none⟩)] w1 fun e w' => e = .returned (.int .i64 1) ∧ w' = w1) := fun w1 hb => shunit_any b 1 rs w1 (isShape_below HSH.out hb)
    by_cases hp : plE 1 rs qs = 0
    case neg =>
      rw [if_neg hp]
      have HP : Hid (∀ w1, Below w.heap.size w w1 → Calls Tryz.prog 69 #[.pointer (some ⟨b, 1, none⟩), .slice pv qs.length cv, .func (.func 70) #[] #[], .func (.func 71) #[] #[]] w1 fun e w' => e = .returned (errV (plE 1 rs qs)) ∧ Below w1.heap.size w1 w') := fun w1 hb => by
        obtain ⟨_, _, p, n, c, h3, h4, _⟩ := isShape_below HSH.out hb
        exact play1_err b p n c rs qs _ w1 (Go.Proofs.Utf8Tabs_below hT hb) hR h3 h4 (opAt_below hr hb (Nat.le_refl _)) hc hl (by omega) hpl hp
      generalize errV (plE 1 rs qs) = EV at *
      generalize by_ 1 rs = BY at *
      clear hT hr hwf hl hpl hC hL hu hR hz h hby hby0 hc hp
      go_enter Tryz.func22, Tryz.ntmps22
      go_wp2_with (first
        | (go_at_call 29; refine Calls.mono HL.out ?_; rintro e w1 ⟨rfl, hw1⟩; obtain rfl := hw1.symm)
        | (go_at_call 68; refine Calls.mono HC.out ?_; rintro e w2 ⟨rfl, hb2⟩; have HB2 : Hid (Below w.heap.size w w2) := hb2; clear hb2)
        | (go_at_call 31; refine (HU.out _ HB2.out).mono ?_; rintro e w3 ⟨rfl, hw3⟩; obtain rfl := hw3.symm)
        | (go_at_call 69; refine (HP.out _ HB2.out).mono ?_; rintro e w3 ⟨rfl, hb3⟩; have HB3 : Hid (Below w.heap.size w w3) := HB2.out.trans (hb3.mono HB2.out.size); clear hb3)
        | fail)
      go_ret
      exact ⟨rfl, isShape_below HSH.out HB3.out, hb0 HB3.out⟩
    case pos =>
      rw [hp, if_pos rfl, errV_0]
      have hok : okZ 1 rs qs = true ∧ C1 (comesZ 1 rs qs) ≤ 8000 := by
        unfold plE at hp
        split at hp
        · split at hp
          · exact ⟨‹_›, ‹_›⟩
          · cases hp
        · cases hp
      have HP : Hid (∀ w1, Below w.heap.size w w1 → Calls Tryz.prog 69 #[.pointer (some ⟨b, 1, none⟩), .slice pv qs.length cv, .func (.func 70) #[] #[], .func (.func 71) #[] #[]] w1 fun e w' => e = .returned .nilIface ∧ isShape w' b 1 (comesZ 1 rs qs) ∧ Below b w1 w') := fun w1 hb => by
        have hsh := isShape_below HSH.out hb
        obtain ⟨h1, h2, p, n, c, h3, h4, _⟩ := hsh
        refine (play1_good b p n c rs qs _ w1 (Go.Proofs.Utf8Tabs_below hT hb) hR h3 h2 h4 (opAt_below hr hb (Nat.le_refl _)) hc hl (by omega) hpl hok.1 hok.2).mono ?_
        rintro e w' ⟨rfl, W, p', n', c', hB, rfl, hs, hne⟩
        have hlt1 : b < w1.heap.size := by have := hb.size; omega
        have hltW : b < W.heap.size := by have := hB.size; omega
        have c0 : W.cell? ⟨b, 0, none⟩ = some (.int .i64 ((1 : Nat) : Int)) := (hB.cell (p := ⟨b, 0, none⟩) hlt1).trans h1
        have c1 : W.cell? ⟨b, 1, none⟩ = some (.slice p n c) := (hB.cell (p := ⟨b, 1, none⟩) hlt1).trans h3
        have f1 : W.frozen? ⟨b, 1, none⟩ = false := (hB.frozen (p := ⟨b, 1, none⟩) hlt1).trans h2
        exact ⟨rfl, isShape_set c0 c1 f1 hs (fun a ha => by have := hne a ha; have := hlt1; omega), (hB.mono (Nat.le_of_lt hlt1)).setCell (p := ⟨b, 1, none⟩) (Nat.le_refl _) _⟩
      generalize by_ 1 rs = BY at *
      clear hT hr hwf hl hpl hC hL hu hR hz h hby hby0 hc hp hok
      go_enter Tryz.func22, Tryz.ntmps22
      go_wp2_with (first
        | (go_at_call 29; refine Calls.mono HL.out ?_; rintro e w1 ⟨rfl, hw1⟩; obtain rfl := hw1.symm)
        | (go_at_call 68; refine Calls.mono HC.out ?_; rintro e w2 ⟨rfl, hb2⟩; have HB2 : Hid (Below w.heap.size w w2) := hb2; clear hb2)
        | (go_at_call 31; refine (HU.out _ HB2.out).mono ?_; rintro e w3 ⟨rfl, hw3⟩; obtain rfl := hw3.symm)
        | (go_at_call 69; refine (HP.out _ HB2.out).mono ?_; rintro e w3 ⟨rfl, hs3, hb3⟩; have HS3 : Hid _ := hs3; have HB3 : Hid (Below b w w3) := (hb0 HB2.out).trans hb3; clear hb3 hs3)
        | fail)
      go_ret
      exact ⟨rfl, HS3.out, HB3.out⟩

theorem shlen2_any (b : Nat) (rs : List Nat) (w : World) (h : isShape w b 2 rs) : Calls Tryz.prog 29 #[.pointer (some ⟨b, 0, none⟩)] w fun e w' => e = .returned (.int .i64 (by_ 2 rs)) ∧ w' = w := by
  have hu := shunit_any b 2 rs w h
  obtain ⟨_, _, p, n, c, h3, h4, _⟩ := h
  have hn : (n : Int) = by_ 2 rs := by rw [h4.1]; exact rowZ_len (by unfold unitOk; omega) rs
  rw [← hn]
  have hu : Calls Tryz.prog 31 #[.pointer (some ⟨b, 0, none⟩)] w fun e w' => e = .returned (.int .i64 2) ∧ w' = w := hu
  have HU : Hid _ := hu
  clear h4 hn hu
  go_enter Tryz.func29, Tryz.ntmps29
  go_wp2_with (first
    | (go_at_call 31; refine Calls.mono HU.out ?_; rintro e w1 ⟨rfl, hw1⟩; obtain rfl := hw1.symm)
    | fail)
  go_ret
  exact ⟨rfl, rfl⟩
theorem shtext2_any (b : Nat) (rs : List Nat) (w : World) (h : isShape w b 2 rs) (hR : ∀ r ∈ rs, isRune r) (hz : C1 rs ≤ 1000000) (hT : Lib.Utf8Tabs 2 3 w) : Calls Tryz.prog 24 #[.pointer (some ⟨b, 0, none⟩)] w fun e w' => e = .returned (.string (bytesOf rs)) ∧ Below w.heap.size w w' := by
  have hu : Calls Tryz.prog 31 #[.pointer (some ⟨b, 0, none⟩)] w fun e w' => e = .returned (.int .i64 2) ∧ w' = w := shunit_any b 2 rs w h
  obtain ⟨_, _, p, n, c, h3, h4, _⟩ := h
  have HT : Hid _ := text2_good rs hR hz p n c w hT h4
  have HU : Hid _ := hu
  generalize bytesOf rs = S at *
  clear h4 hu hT hR hz
  go_enter Tryz.func24, Tryz.ntmps24
  go_wp2_with (first
    | (go_at_call 31; refine Calls.mono HU.out ?_; rintro e w1 ⟨rfl, hw1⟩; obtain rfl := hw1.symm)
    | (go_at_call 73; refine Calls.mono HT.out ?_; rintro e w2 ⟨rfl, hb2⟩)
    | fail)
  go_ret
  exact ⟨rfl, hb2⟩
set_option maxHeartbeats 1000000 in
theorem shapply2_any (b : Nat) (rs : List Nat) (qs : List Pt) (v : Value) (w : World) (h : isShape w b 2 rs) (hR : ∀ r ∈ rs, isRune r) (hz : C1 rs ≤ 100000) (hT : Lib.Utf8Tabs 2 3 w) (hr : opAt w v qs) (hwf : ∀ q ∈ qs, wfP q) (hl : qs.length ≤ 1000) (hpl : ∀ q ∈ qs, q.put.length ≤ 1000000) :
    Calls Tryz.prog 22 #[.pointer (some ⟨b, 0, none⟩), v] w fun e w' => e = .returned (errV (shE 2 rs qs)) ∧ isShape w' b 2 (shR 2 rs qs) ∧ Below b w w' := by
  have hlt := isShape_lt h
  have hL := shlen2_any b rs w h
  have hu : Calls Tryz.prog 31 #[.pointer (some ⟨b, 0, none⟩)] w fun e w' => e = .returned (.int .i64 2) ∧ w' = w := shunit_any b 2 rs w h
  have hby := by_le3 (u := 2) (by unfold unitOk; omega) rs
  have hby0 := by_pos 2 rs
  have hC := Check_any v qs (by_ 2 rs) w hT hr hwf (by omega) (by omega)
  have HL : Hid _ := hL
  have HSH : Hid (isShape w b 2 rs) := h
  have hb0 : ∀ {w'}, Below w.heap.size w w' → Below b w w' := fun h => h.mono (by omega)
  have hvs : ∃ p c, v = .slice p qs.length c := by obtain ⟨p, c, e, _⟩ := hr; exact ⟨p, c, e⟩
  obtain ⟨pv, cv, rfl⟩ := hvs
  unfold shR shE
  by_cases hc : chkE qs (by_ 2 rs) = 0
  case neg =>
    rw [if_neg hc, if_neg hc]
    have hV : errV (chkE qs (by_ 2 rs)) = .iface 26 (.int .i64 (chkE qs (by_ 2 rs))) := by unfold errV; rw [if_neg hc]
    rw [hV] at hC ⊢
    have HC : Hid _ := hC
    generalize chkE qs (by_ 2 rs) = E at *
    generalize by_ 2 rs = BY at *
    clear hT hr hwf hl hpl hC hL hu hV hR hz h hby hby0
    go_enter Tryz.func22, Tryz.ntmps22
    go_wp2_with (first
      | (go_at_call 29; refine Calls.mono HL.out ?_; rintro e w1 ⟨rfl, hw1⟩; obtain rfl := hw1.symm)
      | (go_at_call 68; refine Calls.mono HC.out ?_; rintro e w2 ⟨rfl, hb2⟩)
      | fail)
    go_ret
    exact ⟨rfl, isShape_below HSH.out hb2, hb0 hb2⟩
  case pos =>
    rw [if_pos hc]
    rw [hc, errV_0] at hC
    have HC : Hid _ := hC
    have HU : Hid (∀ w1, Below w.heap.size w w1 → Calls Tryz.prog 31 #[.pointer (some ⟨b, 0, none⟩)] w1 fun e w' => e = .returned (.int .i64 2) ∧ w' = w1) := fun w1 hb => shunit_any b 2 rs w1 (isShape_below HSH.out hb)
    by_cases hp : plE 2 rs qs = 0
    case neg =>
      rw [if_neg hp]
      have HP : Hid (∀ w1, Below w.heap.size w w1 → Calls Tryz.prog 72 #[.pointer (some ⟨b, 2, none⟩), .slice pv qs.length cv, .func (.func 73) #[] #[], .func (.func 74) #[] #[]] w1 fun e w' => e = .returned (errV (plE 2 rs qs)) ∧ Below w1.heap.size w1 w') := fun w1 hb => by
        obtain ⟨_, _, p, n, c, h3, h4, _⟩ := isShape_below HSH.out hb
        exact play2_err b p n c rs qs _ w1 (Go.Proofs.Utf8Tabs_below hT hb) hR h3 h4 (opAt_below hr hb (Nat.le_refl _)) hc hl (by omega) hpl hp
      generalize errV (plE 2 rs qs) = EV at *
      generalize by_ 2 rs = BY at *
      clear hT hr hwf hl hpl hC hL hu hR hz h hby hby0 hc hp
      go_enter Tryz.func22, Tryz.ntmps22
      go_wp2_with (first
        | (go_at_call 29; refine Calls.mono HL.out ?_; rintro e w1 ⟨rfl, hw1⟩; obtain rfl := hw1.symm)
        | (go_at_call 68; refine Calls.mono HC.out ?_; rintro e w2 ⟨rfl, hb2⟩; have HB2 : Hid (Below w.heap.size w w2) := hb2; clear hb2)
        | (go_at_call 31; refine (HU.out _ HB2.out).mono ?_; rintro e w3 ⟨rfl, hw3⟩; obtain rfl := hw3.symm)
        | (go_at_call 72; refine (HP.out _ HB2.out).mono ?_; rintro e w3 ⟨rfl, hb3⟩; have HB3 : Hid (Below w.heap.size w w3) := HB2.out.trans (hb3.mono HB2.out.size); clear hb3)
        | fail)
      go_ret
      exact ⟨rfl, isShape_below HSH.out HB3.out, hb0 HB3.out⟩
    case pos =>
      rw [hp, if_pos rfl, errV_0]
      have hok : okZ 2 rs qs = true ∧ C1 (comesZ 2 rs qs) ≤ 8000 := by
        unfold plE at hp
        split at hp
        · split at hp
          · exact ⟨‹_›, ‹_›⟩
          · cases hp
        · cases hp
      have HP : Hid (∀ w1, Below w.heap.size w w1 → Calls Tryz.prog 72 #[.pointer (some ⟨b, 2, none⟩), .slice pv qs.length cv, .func (.func 73) #[] #[], .func (.func 74) #[] #[]] w1 fun e w' => e = .returned .nilIface ∧ isShape w' b 2 (comesZ 2 rs qs) ∧ Below b w1 w') := fun w1 hb => by
        have hsh := isShape_below HSH.out hb
        obtain ⟨h1, h2, p, n, c, h3, h4, _⟩ := hsh
        refine (play2_good b p n c rs qs _ w1 (Go.Proofs.Utf8Tabs_below hT hb) hR h3 h2 h4 (opAt_below hr hb (Nat.le_refl _)) hc hl (by omega) hpl hok.1 hok.2).mono ?_
        rintro e w' ⟨rfl, W, p', n', c', hB, rfl, hs, hne⟩
        have hlt1 : b < w1.heap.size := by have := hb.size; omega
        have hltW : b < W.heap.size := by have := hB.size; omega
        have c0 : W.cell? ⟨b, 0, none⟩ = some (.int .i64 ((2 : Nat) : Int)) := (hB.cell (p := ⟨b, 0, none⟩) hlt1).trans h1
        have c1 : W.cell? ⟨b, 2, none⟩ = some (.slice p n c) := (hB.cell (p := ⟨b, 2, none⟩) hlt1).trans h3
        have f1 : W.frozen? ⟨b, 2, none⟩ = false := (hB.frozen (p := ⟨b, 2, none⟩) hlt1).trans h2
        exact ⟨rfl, isShape_set c0 c1 f1 hs (fun a ha => by have := hne a ha; have := hlt1; omega), (hB.mono (Nat.le_of_lt hlt1)).setCell (p := ⟨b, 2, none⟩) (Nat.le_refl _) _⟩
      generalize by_ 2 rs = BY at *
      clear hT hr hwf hl hpl hC hL hu hR hz h hby hby0 hc hp hok
      go_enter Tryz.func22, Tryz.ntmps22
      go_wp2_with (first
        | (go_at_call 29; refine Calls.mono HL.out ?_; rintro e w1 ⟨rfl, hw1⟩; obtain rfl := hw1.symm)
        | (go_at_call 68; refine Calls.mono HC.out ?_; rintro e w2 ⟨rfl, hb2⟩; have HB2 : Hid (Below w.heap.size w w2) := hb2; clear hb2)
        | (go_at_call 31; refine (HU.out _ HB2.out).mono ?_; rintro e w3 ⟨rfl, hw3⟩; obtain rfl := hw3.symm)
        | (go_at_call 72; refine (HP.out _ HB2.out).mono ?_; rintro e w3 ⟨rfl, hs3, hb3⟩; have HS3 : Hid _ := hs3; have HB3 : Hid (Below b w w3) := (hb0 HB2.out).trans hb3; clear hb3 hs3)
        | fail)
      go_ret
      exact ⟨rfl, HS3.out, HB3.out⟩

theorem shlen3_any (b : Nat) (rs : List Nat) (w : World) (h : isShape w b 3 rs) : Calls Tryz.prog 29 #[.pointer (some ⟨b, 0, none⟩)] w fun e w' => e = .returned (.int .i64 (by_ 3 rs)) ∧ w' = w := by
  have hu := shunit_any b 3 rs w h
  obtain ⟨_, _, p, n, c, h3, h4, _⟩ := h
  have hn : (n : Int) = by_ 3 rs := by rw [h4.1]; exact rowZ_len (by unfold unitOk; omega) rs
  rw [← hn]
  have hu : Calls Tryz.prog 31 #[.pointer (some ⟨b, 0, none⟩)] w fun e w' => e = .returned (.int .i64 3) ∧ w' = w := hu
  have HU : Hid _ := hu
  clear h4 hn hu
  go_enter Tryz.func29, Tryz.ntmps29
  go_wp2_with (first
    | (go_at_call 31; refine Calls.mono HU.out ?_; rintro e w1 ⟨rfl, hw1⟩; obtain rfl := hw1.symm)
    | fail)
  go_ret
  exact ⟨rfl, rfl⟩
theorem shtext3_any (b : Nat) (rs : List Nat) (w : World) (h : isShape w b 3 rs) (hR : ∀ r ∈ rs, isRune r) (hz : C1 rs ≤ 1000000) (hT : Lib.Utf8Tabs 2 3 w) : Calls Tryz.prog 24 #[.pointer (some ⟨b, 0, none⟩)] w fun e w' => e = .returned (.string (bytesOf rs)) ∧ Below w.heap.size w w' := by
  have hu : Calls Tryz.prog 31 #[.pointer (some ⟨b, 0, none⟩)] w fun e w' => e = .returned (.int .i64 3) ∧ w' = w := shunit_any b 3 rs w h
  obtain ⟨_, _, p, n, c, h3, h4, _⟩ := h
  have HT : Hid _ := text3_good rs hR hz p n c w hT h4
  have HU : Hid _ := hu
  generalize bytesOf rs = S at *
  clear h4 hu hT hR hz
  go_enter Tryz.func24, Tryz.ntmps24
  go_wp2_with (first
    | (go_at_call 31; refine Calls.mono HU.out ?_; rintro e w1 ⟨rfl, hw1⟩; obtain rfl := hw1.symm)
    | (go_at_call 77; refine Calls.mono HT.out ?_; rintro e w2 ⟨rfl, hb2⟩)
    | fail)
  go_ret
  exact ⟨rfl, hb2⟩
set_option maxHeartbeats 1000000 in
theorem shapply3_any (b : Nat) (rs : List Nat) (qs : List Pt) (v : Value) (w : World) (h : isShape w b 3 rs) (hR : ∀ r ∈ rs, isRune r) (hz : C1 rs ≤ 100000) (hT : Lib.Utf8Tabs 2 3 w) (hr : opAt w v qs) (hwf : ∀ q ∈ qs, wfP q) (hl : qs.length ≤ 1000) (hpl : ∀ q ∈ qs, q.put.length ≤ 1000000) :
    Calls Tryz.prog 22 #[.pointer (some ⟨b, 0, none⟩), v] w fun e w' => e = .returned (errV (shE 3 rs qs)) ∧ isShape w' b 3 (shR 3 rs qs) ∧ Below b w w' := by
  have hlt := isShape_lt h
  have hL := shlen3_any b rs w h
  have hu : Calls Tryz.prog 31 #[.pointer (some ⟨b, 0, none⟩)] w fun e w' => e = .returned (.int .i64 3) ∧ w' = w := shunit_any b 3 rs w h
  have hby := by_le3 (u := 3) (by unfold unitOk; omega) rs
  have hby0 := by_pos 3 rs
  have hC := Check_any v qs (by_ 3 rs) w hT hr hwf (by omega) (by omega)
  have HL : Hid _ := hL
  have HSH : Hid (isShape w b 3 rs) := h
  have hb0 : ∀ {w'}, Below w.heap.size w w' → Below b w w' := fun h => h.mono (by omega)
  have hvs : ∃ p c, v = .slice p qs.length c := by obtain ⟨p, c, e, _⟩ := hr; exact ⟨p, c, e⟩
  obtain ⟨pv, cv, rfl⟩ := hvs
  unfold shR shE
  by_cases hc : chkE qs (by_ 3 rs) = 0
  case neg =>
    rw [if_neg hc, if_neg hc]
    have hV : errV (chkE qs (by_ 3 rs)) = .iface 26 (.int .i64 (chkE qs (by_ 3 rs))) := by unfold errV; rw [if_neg hc]
    rw [hV] at hC ⊢
    have HC : Hid _ := hC
    generalize chkE qs (by_ 3 rs) = E at *
    generalize by_ 3 rs = BY at *
    clear hT hr hwf hl hpl hC hL hu hV hR hz h hby hby0
    go_enter Tryz.func22, Tryz.ntmps22
    go_wp2_with (first
      | (go_at_call 29; refine Calls.mono HL.out ?_; rintro e w1 ⟨rfl, hw1⟩; obtain rfl := hw1.symm)
      | (go_at_call 68; refine Calls.mono HC.out ?_; rintro e w2 ⟨rfl, hb2⟩)
      | fail)
    go_ret
    exact ⟨rfl, isShape_below HSH.out hb2, hb0 hb2⟩
  case pos =>
    rw [if_pos hc]
    rw [hc, errV_0] at hC
    have HC : Hid _ := hC
    have HU : Hid (∀ w1, Below w.heap.size w w1 → Calls Tryz.prog 31 #[.pointer (some ⟨b, 0, none⟩)] w1 fun e w' => e = .returned (.int .i64 3) ∧ w' = w1) := fun w1 hb => shunit_any b 3 rs w1 (isShape_below HSH.out hb)
    by_cases hp : plE 3 rs qs = 0
    case neg =>
      rw [if_neg hp]
      have HP : Hid (∀ w1, Below w.heap.size w w1 → Calls Tryz.prog 76 #[.pointer (some ⟨b, 3, none⟩), .slice pv qs.length cv, .func (.func 77) #[] #[], .func (.func 78) #[] #[]] w1 fun e w' => e = .returned (errV (plE 3 rs qs)) ∧ Below w1.heap.size w1 w') := fun w1 hb => by
        obtain ⟨_, _, p, n, c, h3, h4, _⟩ := isShape_below HSH.out hb
        exact play3_err b p n c rs qs _ w1 (Go.Proofs.Utf8Tabs_below hT hb) hR h3 h4 (opAt_below hr hb (Nat.le_refl _)) hc hl (by omega) hpl hp
      generalize errV (plE 3 rs qs) = EV at *
      generalize by_ 3 rs = BY at *
      clear hT hr hwf hl hpl hC hL hu hR hz h hby hby0 hc hp
      go_enter Tryz.func22, Tryz.ntmps22
      go_wp2_with (first
        | (go_at_call 29; refine Calls.mono HL.out ?_; rintro e w1 ⟨rfl, hw1⟩; obtain rfl := hw1.symm)
        | (go_at_call 68; refine Calls.mono HC.out ?_; rintro e w2 ⟨rfl, hb2⟩; have HB2 : Hid (Below w.heap.size w w2) := hb2; clear hb2)
        | (go_at_call 31; refine (HU.out _ HB2.out).mono ?_; rintro e w3 ⟨rfl, hw3⟩; obtain rfl := hw3.symm)
        | (go_at_call 76; refine (HP.out _ HB2.out).mono ?_; rintro e w3 ⟨rfl, hb3⟩; have HB3 : Hid (Below w.heap.size w w3) := HB2.out.trans (hb3.mono HB2.out.size); clear hb3)
        | fail)
      go_ret
      exact ⟨rfl, isShape_below HSH.out HB3.out, hb0 HB3.out⟩
    case pos =>
      rw [hp, if_pos rfl, errV_0]
      have hok : okZ 3 rs qs = true ∧ C1 (comesZ 3 rs qs) ≤ 8000 := by
        unfold plE at hp
        split at hp
        · split at hp
          · exact ⟨‹_›, ‹_›⟩
          · cases hp
        · cases hp
      have HP : Hid (∀ w1, Below w.heap.size w w1 → Calls Tryz.prog 76 #[.pointer (some ⟨b, 3, none⟩), .slice pv qs.length cv, .func (.func 77) #[] #[], .func (.func 78) #[] #[]] w1 fun e w' => e = .returned .nilIface ∧ isShape w' b 3 (comesZ 3 rs qs) ∧ Below b w1 w') := fun w1 hb => by
        have hsh := isShape_below HSH.out hb
        obtain ⟨h1, h2, p, n, c, h3, h4, _⟩ := hsh
        refine (play3_good b p n c rs qs _ w1 (Go.Proofs.Utf8Tabs_below hT hb) hR h3 h2 h4 (opAt_below hr hb (Nat.le_refl _)) hc hl (by omega) hpl hok.1 hok.2).mono ?_
        rintro e w' ⟨rfl, W, p', n', c', hB, rfl, hs, hne⟩
        have hlt1 : b < w1.heap.size := by have := hb.size; omega
        have hltW : b < W.heap.size := by have := hB.size; omega
        have c0 : W.cell? ⟨b, 0, none⟩ = some (.int .i64 ((3 : Nat) : Int)) := (hB.cell (p := ⟨b, 0, none⟩) hlt1).trans h1
        have c1 : W.cell? ⟨b, 3, none⟩ = some (.slice p n c) := (hB.cell (p := ⟨b, 3, none⟩) hlt1).trans h3
        have f1 : W.frozen? ⟨b, 3, none⟩ = false := (hB.frozen (p := ⟨b, 3, none⟩) hlt1).trans h2
        exact ⟨rfl, isShape_set c0 c1 f1 hs (fun a ha => by have := hne a ha; have := hlt1; omega), (hB.mono (Nat.le_of_lt hlt1)).setCell (p := ⟨b, 3, none⟩) (Nat.le_refl _) _⟩
      generalize by_ 3 rs = BY at *
      clear hT hr hwf hl hpl hC hL hu hR hz h hby hby0 hc hp hok
      go_enter Tryz.func22, Tryz.ntmps22
      go_wp2_with (first
        | (go_at_call 29; refine Calls.mono HL.out ?_; rintro e w1 ⟨rfl, hw1⟩; obtain rfl := hw1.symm)
        | (go_at_call 68; refine Calls.mono HC.out ?_; rintro e w2 ⟨rfl, hb2⟩; have HB2 : Hid (Below w.heap.size w w2) := hb2; clear hb2)
        | (go_at_call 31; refine (HU.out _ HB2.out).mono ?_; rintro e w3 ⟨rfl, hw3⟩; obtain rfl := hw3.symm)
        | (go_at_call 76; refine (HP.out _ HB2.out).mono ?_; rintro e w3 ⟨rfl, hs3, hb3⟩; have HS3 : Hid _ := hs3; have HB3 : Hid (Below b w w3) := (hb0 HB2.out).trans hb3; clear hb3 hs3)
        | fail)
      go_ret
      exact ⟨rfl, HS3.out, HB3.out⟩
end Go.Proofs.YtldhbjmillfjgabGreatDoor

namespace Go.Proofs.YtldhbjmillfjgabGreatDoor
open Go.RowKit
set_option linter.unusedVariables false
attribute [local go_sem] Oper.semAt_some

set_option maxRecDepth 100000 in
set_option maxHeartbeats 2000000 in
theorem trans_err (v1 v2 : Value) (first : Bool) (a b : List Pt) (w : World) (hT : Lib.Utf8Tabs 2 3 w) (h1 : opAt w v1 a) (h2 : opAt w v2 b) (w1 : ∀ p ∈ a, wfP p) (w2 : ∀ p ∈ b, wfP p) (l1 : a.length < 10000000) (l2 : b.length < 10000000) (he : bothE a b ≠ 0) :
    Calls Tryz.prog 151 #[v1, v2, .bool first] w fun e w' => e = .returned (.tuple #[.slice none 0 0, errV (bothE a b)]) ∧ Below w.heap.size w w' := by
  have cB : Hid _ := checkBoth_any v1 v2 a b w hT h1 h2 w1 w2 l1 l2
  have hV : errV (bothE a b) = .iface 26 (.int .i64 (bothE a b)) := by unfold errV; rw [if_neg he]
  rw [hV] at cB ⊢
  generalize bothE a b = E at *
  obtain ⟨p1, c1, rfl, _⟩ := h1
  obtain ⟨p2, c2, rfl, _⟩ := h2
  clear hT w1 w2 hV
  go_enter Tryz.func151, Tryz.ntmps151
  go_wp2_with (first
    | (go_at_call 175; refine Calls.mono cB.out ?_; rintro e w1 ⟨rfl, hb1⟩)
    | fail)
  go_ret2
  exact ⟨rfl, hb1⟩
set_option maxRecDepth 100000 in
set_option maxHeartbeats 2000000 in
theorem trans_len (v1 v2 : Value) (first : Bool) (a b : List Pt) (w : World) (hT : Lib.Utf8Tabs 2 3 w) (h1 : opAt w v1 a) (h2 : opAt w v2 b) (w1 : ∀ p ∈ a, wfP p) (w2 : ∀ p ∈ b, wfP p) (l1 : a.length < 10000000) (l2 : b.length < 10000000) (he : bothE a b = 0) (hl : (lensW b).1 ≠ (lensW a).1) :
    Calls Tryz.prog 151 #[v1, v2, .bool first] w fun e w' => e = .returned (.tuple #[.slice none 0 0, errV (2)]) ∧ Below w.heap.size w w' := by
  have cB : Hid _ := checkBoth_any v1 v2 a b w hT h1 h2 w1 w2 l1 l2
  have hV : errV (bothE a b) = .nilIface := by unfold errV; rw [if_pos he]
  have hV2 : errV 2 = .iface 26 (.int .i64 2) := rfl
  rw [hV] at cB
  rw [hV2]
  have cL1 : Hid (∀ wx, Below w.heap.size w wx → Calls Tryz.prog 96 #[v1] wx fun e w' => e = .returned (.tuple #[.int .i64 (lensW a).1, .int .i64 (lensW a).2]) ∧ Below wx.heap.size wx w') := fun wx hb => Lens_any v1 a wx (opAt_grown h1 hb) l1
  have cL2 : Hid (∀ wx, Below w.heap.size w wx → Calls Tryz.prog 96 #[v2] wx fun e w' => e = .returned (.tuple #[.int .i64 (lensW b).1, .int .i64 (lensW b).2]) ∧ Below wx.heap.size wx w') := fun wx hb => Lens_any v2 b wx (opAt_grown h2 hb) l2
  generalize (lensW a).1 = A1 at *
  generalize (lensW a).2 = A2 at *
  generalize (lensW b).1 = B1 at *
  generalize (lensW b).2 = B2 at *
  obtain ⟨p1, c1, rfl, _⟩ := h1
  obtain ⟨p2, c2, rfl, _⟩ := h2
  clear hT w1 w2 hV hV2
  go_enter Tryz.func151, Tryz.ntmps151
  go_wp2_with (first
    | (have _ := HB2; go_at_call 96; refine (cL2.out _ HB2.out).mono ?_; rintro e w3 ⟨rfl, hb3⟩; have HB3 : Hid (Below w.heap.size w w3) := HB2.out.trans (hb3.mono HB2.out.size); clear hb3)
    | (go_at_call 96; refine (cL1.out _ HB1.out).mono ?_; rintro e w2 ⟨rfl, hb2⟩; have HB2 : Hid (Below w.heap.size w w2) := HB1.out.trans (hb2.mono HB1.out.size); clear hb2)
    | (go_at_call 175; refine Calls.mono cB.out ?_; rintro e w1 ⟨rfl, hb1⟩; have HB1 : Hid (Below w.heap.size w w1) := hb1; clear hb1)
    | fail)
  go_ret2
  exact ⟨rfl, HB3.out⟩
theorem trans_allN (v1 v2 : Value) (first : Bool) (a b : List Pt) (w : World) (hT : Lib.Utf8Tabs 2 3 w) (h1 : opAt w v1 a) (h2 : opAt w v2 b) (w1 : ∀ p ∈ a, wfP p) (w2 : ∀ p ∈ b, wfP p) (l1 : a.length < 10000000) (l2 : b.length < 10000000) (hf : bothE a b = 0 → fineP a ∧ fineP b) :
    Calls Tryz.prog 151 #[v1, v2, .bool first] w fun e w' => ∃ v', e = .returned (.tuple #[v', errV (turnE a b)]) ∧ opN w.heap.size w' v' (if turnE a b = 0 then tellP (transS first a b) else []) ∧ Below w.heap.size w w' := by
  have none : ∀ w', opN w.heap.size w' (.slice none 0 0) [] := opN_none _
  unfold turnE
  by_cases he : bothE a b = 0
  · obtain ⟨f1, f2⟩ := hf he
    rw [if_pos he]
    by_cases hl : (lensW b).1 = (lensW a).1
    · rw [if_pos hl, if_pos rfl]
      show Calls _ _ _ _ fun e w' => ∃ v', e = .returned (.tuple #[v', .nilIface]) ∧ _
      cases first with
      | true => exact (t1_fineN v1 v2 a b w hT h1 h2 w1 w2 f1 f2 he hl)
      | false => exact (t2_fineN v1 v2 a b w hT h1 h2 w1 w2 f1 f2 he hl)
    · rw [if_neg hl, if_neg (by decide)]
      exact (trans_len v1 v2 first a b w hT h1 h2 w1 w2 l1 l2 he hl).mono fun e w' h => ⟨_, h.1, none w', h.2⟩
  · rw [if_neg he, if_neg he]
    exact (trans_err v1 v2 first a b w hT h1 h2 w1 w2 l1 l2 he).mono fun e w' h => ⟨_, h.1, none w', h.2⟩
theorem trans_all (v1 v2 : Value) (first : Bool) (a b : List Pt) (w : World) (hT : Lib.Utf8Tabs 2 3 w) (h1 : opAt w v1 a) (h2 : opAt w v2 b) (w1 : ∀ p ∈ a, wfP p) (w2 : ∀ p ∈ b, wfP p) (l1 : a.length < 10000000) (l2 : b.length < 10000000) (hf : bothE a b = 0 → fineP a ∧ fineP b) :
    Calls Tryz.prog 151 #[v1, v2, .bool first] w fun e w' => ∃ v', e = .returned (.tuple #[v', errV (turnE a b)]) ∧ opAt w' v' (if turnE a b = 0 then tellP (transS first a b) else []) ∧ Below w.heap.size w w' :=
  (trans_allN v1 v2 first a b w hT h1 h2 w1 w2 l1 l2 hf).mono fun e w' ⟨v', q1, q2, q3⟩ => ⟨v', q1, q2.1, q3⟩

set_option maxRecDepth 100000 in
set_option maxHeartbeats 2000000 in
theorem comp_err (v1 v2 : Value) (a b : List Pt) (w : World) (hT : Lib.Utf8Tabs 2 3 w) (h1 : opAt w v1 a) (h2 : opAt w v2 b) (w1 : ∀ p ∈ a, wfP p) (w2 : ∀ p ∈ b, wfP p) (l1 : a.length < 10000000) (l2 : b.length < 10000000) (he : bothE a b ≠ 0) :
    Calls Tryz.prog 146 #[v1, v2] w fun e w' => e = .returned (.tuple #[.slice none 0 0, errV (bothE a b)]) ∧ Below w.heap.size w w' := by
  have cB : Hid _ := checkBoth_any v1 v2 a b w hT h1 h2 w1 w2 l1 l2
  have hV : errV (bothE a b) = .iface 26 (.int .i64 (bothE a b)) := by unfold errV; rw [if_neg he]
  rw [hV] at cB ⊢
  generalize bothE a b = E at *
  obtain ⟨p1, c1, rfl, _⟩ := h1
  obtain ⟨p2, c2, rfl, _⟩ := h2
  clear hT w1 w2 hV
  go_enter Tryz.func146, Tryz.ntmps146
  go_wp2_with (first
    | (go_at_call 175; refine Calls.mono cB.out ?_; rintro e w1 ⟨rfl, hb1⟩)
    | fail)
  go_ret2
  exact ⟨rfl, hb1⟩
set_option maxRecDepth 100000 in
set_option maxHeartbeats 2000000 in
theorem comp_len (v1 v2 : Value) (a b : List Pt) (w : World) (hT : Lib.Utf8Tabs 2 3 w) (h1 : opAt w v1 a) (h2 : opAt w v2 b) (w1 : ∀ p ∈ a, wfP p) (w2 : ∀ p ∈ b, wfP p) (l1 : a.length < 10000000) (l2 : b.length < 10000000) (he : bothE a b = 0) (hl : (lensW b).1 ≠ (lensW a).2) :
    Calls Tryz.prog 146 #[v1, v2] w fun e w' => e = .returned (.tuple #[.slice none 0 0, errV (2)]) ∧ Below w.heap.size w w' := by
  have cB : Hid _ := checkBoth_any v1 v2 a b w hT h1 h2 w1 w2 l1 l2
  have hV : errV (bothE a b) = .nilIface := by unfold errV; rw [if_pos he]
  have hV2 : errV 2 = .iface 26 (.int .i64 2) := rfl
  rw [hV] at cB
  rw [hV2]
  have cL1 : Hid (∀ wx, Below w.heap.size w wx → Calls Tryz.prog 96 #[v1] wx fun e w' => e = .returned (.tuple #[.int .i64 (lensW a).1, .int .i64 (lensW a).2]) ∧ Below wx.heap.size wx w') := fun wx hb => Lens_any v1 a wx (opAt_grown h1 hb) l1
  have cL2 : Hid (∀ wx, Below w.heap.size w wx → Calls Tryz.prog 96 #[v2] wx fun e w' => e = .returned (.tuple #[.int .i64 (lensW b).1, .int .i64 (lensW b).2]) ∧ Below wx.heap.size wx w') := fun wx hb => Lens_any v2 b wx (opAt_grown h2 hb) l2
  generalize (lensW a).1 = A1 at *
  generalize (lensW a).2 = A2 at *
  generalize (lensW b).1 = B1 at *
  generalize (lensW b).2 = B2 at *
  obtain ⟨p1, c1, rfl, _⟩ := h1
  obtain ⟨p2, c2, rfl, _⟩ := h2
  clear hT w1 w2 hV hV2
  go_enter Tryz.func146, Tryz.ntmps146
  go_wp2_with (first
    | (have _ := HB2; go_at_call 96; refine (cL2.out _ HB2.out).mono ?_; rintro e w3 ⟨rfl, hb3⟩; have HB3 : Hid (Below w.heap.size w w3) := HB2.out.trans (hb3.mono HB2.out.size); clear hb3)
    | (go_at_call 96; refine (cL1.out _ HB1.out).mono ?_; rintro e w2 ⟨rfl, hb2⟩; have HB2 : Hid (Below w.heap.size w w2) := HB1.out.trans (hb2.mono HB1.out.size); clear hb2)
    | (go_at_call 175; refine Calls.mono cB.out ?_; rintro e w1 ⟨rfl, hb1⟩; have HB1 : Hid (Below w.heap.size w w1) := hb1; clear hb1)
    | fail)
  go_ret2
  exact ⟨rfl, HB3.out⟩
theorem comp_allN (v1 v2 : Value) (a b : List Pt) (w : World) (hT : Lib.Utf8Tabs 2 3 w) (h1 : opAt w v1 a) (h2 : opAt w v2 b) (w1 : ∀ p ∈ a, wfP p) (w2 : ∀ p ∈ b, wfP p) (l1 : a.length < 10000000) (l2 : b.length < 10000000) (hf : bothE a b = 0 → fineP a ∧ fineP b) :
    Calls Tryz.prog 146 #[v1, v2] w fun e w' => ∃ v', e = .returned (.tuple #[v', errV (compE a b)]) ∧ opN w.heap.size w' v' (if compE a b = 0 then tellP (compS a b) else []) ∧ Below w.heap.size w w' := by
  have none : ∀ w', opN w.heap.size w' (.slice none 0 0) [] := opN_none _
  unfold compE
  by_cases he : bothE a b = 0
  · obtain ⟨f1, f2⟩ := hf he
    rw [if_pos he]
    by_cases hl : (lensW b).1 = (lensW a).2
    · rw [if_pos hl, if_pos rfl]
      show Calls _ _ _ _ fun e w' => ∃ v', e = .returned (.tuple #[v', .nilIface]) ∧ _
      exact (comp_fineN v1 v2 a b w hT h1 h2 w1 w2 f1 f2 he hl)
    · rw [if_neg hl, if_neg (by decide)]
      exact (comp_len v1 v2 a b w hT h1 h2 w1 w2 l1 l2 he hl).mono fun e w' h => ⟨_, h.1, none w', h.2⟩
  · rw [if_neg he, if_neg he]
    exact (comp_err v1 v2 a b w hT h1 h2 w1 w2 l1 l2 he).mono fun e w' h => ⟨_, h.1, none w', h.2⟩
theorem comp_all (v1 v2 : Value) (a b : List Pt) (w : World) (hT : Lib.Utf8Tabs 2 3 w) (h1 : opAt w v1 a) (h2 : opAt w v2 b) (w1 : ∀ p ∈ a, wfP p) (w2 : ∀ p ∈ b, wfP p) (l1 : a.length < 10000000) (l2 : b.length < 10000000) (hf : bothE a b = 0 → fineP a ∧ fineP b) :
    Calls Tryz.prog 146 #[v1, v2] w fun e w' => ∃ v', e = .returned (.tuple #[v', errV (compE a b)]) ∧ opAt w' v' (if compE a b = 0 then tellP (compS a b) else []) ∧ Below w.heap.size w w' :=
  (comp_allN v1 v2 a b w hT h1 h2 w1 w2 l1 l2 hf).mono fun e w' ⟨v', q1, q2, q3⟩ => ⟨v', q1, q2.1, q3⟩

end Go.Proofs.YtldhbjmillfjgabGreatDoor

namespace Go.Proofs.YtldhbjmillfjgabGreatDoor
open Go.RowKit
set_option linter.unusedVariables false
attribute [local go_sem] Oper.semAt_some

/-- A row that is written out reads as its parts. -/
theorem opAt_lit {W : World} {g : Nat} {ps : List Pt} {t : TypeId} {fz : Nat × Nat} (h : W.heap[g]? = some (.cells (cellsP ps).toArray t fz)) (hl : ps.length ≤ maxLen) : opAt W (.slice (some ⟨g, 0, none⟩) ps.length ps.length) ps := by
  refine ⟨_, _, rfl, Nat.le_refl _, hl, fun _ => ⟨g, 0, rfl, heap_lt h, fun i q hi => ?_⟩⟩
  have hc := cellsP_get ps i q hi
  have key : ∀ j, j < 3 → W.cell? ⟨g, 0 + i * 3 + j, none⟩ = (partCells q)[j]? := fun j hj => by
    have := Lib.cell_of_heap h (0 + i * 3 + j)
    rw [this, Nat.zero_add, ← hc j hj]
    simp
  exact ⟨key 0 (by omega), key 1 (by omega), key 2 (by omega)⟩
def dA : List Pt := [⟨0, 0, [120]⟩, ⟨1, 0, []⟩]
def dB : List Pt := [⟨0, 0, [121, 122]⟩, ⟨1, 0, []⟩]
def d1 : List Pt := [⟨0, 0, [120]⟩, ⟨3, 0, []⟩]
def d2 : List Pt := [⟨2, 0, []⟩, ⟨0, 0, [120]⟩, ⟨1, 0, []⟩]
theorem d_true : turnE dA dB = 0 ∧ tellP (transS true dA dB) = d1 := by constructor <;> decide +kernel
theorem d_false : tellP (transS false dA dB) = d2 := by decide +kernel
theorem d_fine : fineP dA ∧ fineP dB := by
  constructor
  · refine ⟨?_, by decide, by decide⟩
    intro p hp
    simp only [dA, List.mem_cons, List.not_mem_nil, or_false] at hp
    rcases hp with rfl | rfl
    · exact .inr (.inr ⟨rfl, rfl, by simp⟩)
    · exact .inl ⟨by decide, rfl, rfl⟩
  · refine ⟨?_, by decide, by decide⟩
    intro p hp
    simp only [dB, List.mem_cons, List.not_mem_nil, or_false] at hp
    rcases hp with rfl | rfl
    · exact .inr (.inr ⟨rfl, rfl, by simp⟩)
    · exact .inl ⟨by decide, rfl, rfl⟩
theorem d_wf : (∀ p ∈ dA, wfP p) ∧ ∀ p ∈ dB, wfP p := by
  constructor <;> intro p hp <;> simp only [dA, dB, List.mem_cons, List.not_mem_nil, or_false] at hp <;> rcases hp with rfl | rfl <;> exact ⟨by decide, by decide, by decide, by decide, by decide⟩
theorem dtrans (F : Bool) (W : World) (hT : Lib.Utf8Tabs 2 3 W) (g1 g2 : Nat) (t : TypeId) (fz : Nat × Nat) (h1 : W.heap[g1]? = some (.cells #[.int .i64 0, .int .i64 0, .string ⟨#[120]⟩, .int .i64 1, .int .i64 0, .string ⟨#[]⟩] t fz)) (h2 : W.heap[g2]? = some (.cells #[.int .i64 0, .int .i64 0, .string ⟨#[121, 122]⟩, .int .i64 1, .int .i64 0, .string ⟨#[]⟩] t fz)) :
    Calls Tryz.prog 151 #[.slice (some ⟨g1, 0, none⟩) 2 2, .slice (some ⟨g2, 0, none⟩) 2 2, .bool F] W fun e w' => ∃ v', e = .returned (.tuple #[v', .nilIface]) ∧ opAt w' v' (if F then d1 else d2) ∧ Below W.heap.size W w' := by
  have o1 : opAt W (.slice (some ⟨g1, 0, none⟩) 2 2) dA := opAt_lit (ps := dA) h1 (by decide)
  have o2 : opAt W (.slice (some ⟨g2, 0, none⟩) 2 2) dB := opAt_lit (ps := dB) h2 (by decide)
  refine (trans_all _ _ F dA dB W hT o1 o2 d_wf.1 d_wf.2 (by decide) (by decide) fun _ => d_fine).mono fun e w' h => ?_
  obtain ⟨v', rfl, h1, h2⟩ := h
  rw [d_true.1, if_pos rfl] at h1
  refine ⟨v', by rw [d_true.1]; rfl, ?_, h2⟩
  cases F with
  | true => rw [d_true.2] at h1; exact h1
  | false => rw [d_false] at h1; exact h1

theorem two_rows (w : World) (A B : Obj) : ((w.alloc A).alloc B).heap[w.heap.size]? = some A ∧ ((w.alloc A).alloc B).heap[w.heap.size + 1]? = some B := by
  refine ⟨?_, ?_⟩
  · exact (heap_alloc_old _ _ (by simp)).trans (heap_alloc_new _ _)
  · have := heap_alloc_new (w.alloc A) B
    rwa [World.size_alloc] at this
theorem below_rows (w : World) (A B : Obj) : Below w.heap.size w ((w.alloc A).alloc B) := ((Below.refl _ w).alloc (Nat.le_refl _) A).alloc (by simp) B
end Go.Proofs.YtldhbjmillfjgabGreatDoor

namespace Go.Proofs.YtldhbjmillfjgabGreatDoor
open Go.RowKit
set_option linter.unusedVariables false
attribute [local go_sem] Oper.semAt_some

theorem shnew_unit (u : Int) (hu : ¬ unitOk u) (s : ByteArray) (w : World) : Calls Tryz.prog 21 #[.int .i64 u, .string s] w fun e w' => e = .returned (.tuple #[.pointer none, errV 1]) ∧ Below w.heap.size w w' := by
  have hV : errV 1 = .iface 26 (.int .i64 1) := rfl
  rw [hV]
  unfold unitOk at hu
  have h1 : (u != 1) = true := by simpa using fun e => hu (.inl e)
  have h2 : (u != 2) = true := by simpa using fun e => hu (.inr (.inl e))
  have h3 : (u != 3) = true := by simpa using fun e => hu (.inr (.inr e))
  clear hu hV
  go_enter Tryz.func21, Tryz.ntmps21
  go_wp2
  go_ret2
  exact ⟨rfl, Below.refl _ _⟩

theorem shnew_op (u : Int) (hu : unitOk u) {rs : List Nat} (hR : ∀ r ∈ rs, isRune r) (hz : C1 rs ≤ 8000) (hne : encs rs ≠ []) : shE u [] [⟨0, 0, encs rs⟩] = 0 ∧ shR u [] [⟨0, 0, encs rs⟩] = rs := by
  have hsc : (scan (encs rs)).2 = true := by rw [scan_encs rs hR]
  have hro : runesOf (encs rs) = rs := by
    unfold runesOf
    rw [scan_encs rs hR]
    simp [wide, Function.comp_def]
  have hone : oneB ⟨0, 0, encs rs⟩ = true := by simp [oneB, hne]
  have hl : lenP ⟨0, 0, encs rs⟩ = 0 := rfl
  have hup : upTo [] u 0 = [] := upTo_zero [] u
  have hed : onEdge [] u 0 = true := by unfold onEdge; rw [hup, by_nil]; rfl
  have hc : chkE [⟨0, 0, encs rs⟩] (by_ u []) = 0 := by
    rw [by_nil]
    simp [chkE, chk1, chk2, hone, hsc]
  have hok : okZ u [] [⟨0, 0, encs rs⟩] = true := by
    unfold okZ
    rw [hl, hed]; rfl
  have hco : comesZ u [] [⟨0, 0, encs rs⟩] = rs := by
    unfold comesZ
    rw [if_neg (by simp), hro]
    simp [comesZ]
  have hE : shE u [] [⟨0, 0, encs rs⟩] = 0 := by
    unfold shE plE
    rw [if_pos hc, if_pos hok, hco, if_pos hz]
  exact ⟨hE, by unfold shR; rw [if_pos hE, hco]⟩

set_option maxHeartbeats 1000000 in
theorem shnew1_text (s : List UInt8) (hs : s.length ≤ 1000000) (hsc : (scan s).2 = false) (w : World) (hT : Lib.Utf8Tabs 2 3 w) : Calls Tryz.prog 21 #[.int .i64 1, .string ⟨s.toArray⟩] w fun e w' => ∃ x w1, e = .returned (.tuple #[.pointer none, x]) ∧ isAt w w1 x (place s) ∧ Below w1.heap.size w1 w' ∧ Below w.heap.size w w' := by
  have cC : Hid (Calls Tryz.prog 59 #[.string ⟨s.toArray⟩] w fun e w' => ∃ b, e = .returned (.tuple #[cnt 0 0 0 0, .iface 233 (.pointer (some ⟨b, 0, none⟩))]) ∧ isAt w w' (.iface 233 (.pointer (some ⟨b, 0, none⟩))) (place s) ∧ Below w.heap.size w w') :=
    (Count_any ⟨s.toArray⟩ (by simp [ByteArray.size]; omega) w hT).mono fun e w' ⟨v, x, h1, h2, h3⟩ => by
      have e0 : (ByteArray.mk s.toArray).data.toList = s := rfl
      rw [e0] at h3
      rcases h3 with ⟨h4, _⟩ | ⟨_, rfl, h5⟩
      · rw [hsc] at h4; cases h4
      · have h6 := h5
        obtain ⟨b, rfl, _⟩ := h6
        exact ⟨b, h1, h5, h2⟩
  unfold cnt at cC
  clear hT hs hsc
  generalize ByteArray.mk s.toArray = S at *
  go_enter Tryz.func21, Tryz.ntmps21
  go_wp2_with (first
    | (go_at_call 59; refine Calls.mono cC.out ?_; rintro e w1 ⟨b, rfl, hi, hb1⟩; have HI : Hid _ := hi; have HB1 : Hid (Below w.heap.size w w1) := hb1; clear hi hb1)
    | fail)
  go_ret2
  exact ⟨_, w1, rfl, HI.out, (Below.refl _ _).alloc (Nat.le_refl _) _, HB1.out.alloc HB1.out.size _⟩
set_option maxHeartbeats 2000000 in
theorem shnew1_good (rs : List Nat) (hR : ∀ r ∈ rs, isRune r) (hz : C1 rs ≤ 8000) (w : World) (hT : Lib.Utf8Tabs 2 3 w) : Calls Tryz.prog 21 #[.int .i64 1, .string (bytesOf rs)] w fun e w' => ∃ b, e = .returned (.tuple #[.pointer (some ⟨b, 0, none⟩), .nilIface]) ∧ isShape w' b 1 rs ∧ w.heap.size ≤ b ∧ Below w.heap.size w w' := by
  have hl := C1_len rs
  have hb : (bytesOf rs) = ⟨(encs rs).toArray⟩ := rfl
  have hsc : (scan (encs rs)).2 = true := by rw [scan_encs rs hR]
  have cC : Hid (Calls Tryz.prog 59 #[.string (bytesOf rs)] w fun e w' => ∃ n1 n2 n3 n4, e = .returned (.tuple #[.agg #[.int .i64 n1, .int .i64 n2, .int .i64 n3, .int .i64 n4], .nilIface]) ∧ Below w.heap.size w w') :=
    (Count_any (bytesOf rs) (by rw [hb]; simp [ByteArray.size]; omega) w hT).mono fun e w' ⟨v, x, h1, h2, h3⟩ => by
      have e0 : (bytesOf rs).data.toList = encs rs := rfl
      rw [e0] at h3
      rcases h3 with ⟨_, rfl, rfl⟩ | ⟨h4, _⟩
      · exact ⟨_, _, _, _, h1, h2⟩
      · rw [hsc] at h4; cases h4
  by_cases hne : rs = []
  · subst hne
    have hbe : bytesOf [] = ⟨#[]⟩ := rfl
    rw [hbe] at cC ⊢
    clear hT hR hz hl hb hsc hbe
    go_enter Tryz.func21, Tryz.ntmps21
    go_wp2_with (first
      | (go_at_call 59; refine Calls.mono cC.out ?_; rintro e w1 ⟨n1, n2, n3, n4, rfl, hb1⟩; have HB1 : Hid (Below w.heap.size w w1) := hb1; clear hb1)
      | fail)
    go_ret2
    refine ⟨_, rfl, ?_, ?_, (HB1.out.alloc HB1.out.size _).alloc (Nat.le_trans HB1.out.size (by simp)) _⟩
    · refine ⟨by simp [go_sem], by simp [go_sem], none, 0, 0, by simp [go_sem], ?_, fun a ha => by cases ha⟩
      rw [rowZ_nil]; exact ⟨rfl, .inl ⟨rfl, rfl, rfl⟩⟩
    · have := HB1.out.size; simp; omega
  · have hne2 : encs rs ≠ [] := fun e => by
      have := encs_len rs; rw [e] at this; exact hne (List.eq_nil_of_length_eq_zero (by simpa using this))
    obtain ⟨q1, q2⟩ := shnew_op 1 (by unfold unitOk; omega) hR hz hne2
    have hbne : (bytesOf rs).toList.isEmpty = false := by
      rw [ByteArray.toList_eq, hb]
      show (encs rs).isEmpty = false
      cases h : encs rs with
      | nil => exact absurd h hne2
      | cons a t => rfl
    have HTT : Hid _ := hT
    have cA : Hid (∀ W b v, Below w.heap.size w W → isShape W b 1 [] → opAt W v [⟨0, 0, encs rs⟩] → Calls Tryz.prog 22 #[.pointer (some ⟨b, 0, none⟩), v] W fun e w' => e = .returned .nilIface ∧ isShape w' b 1 rs ∧ Below b W w') := fun W b v hB hs ho => by
      have := shapply1_any b [] [⟨0, 0, encs rs⟩] v W hs (fun r hr => by cases hr) (by decide) (Go.Proofs.Utf8Tabs_below HTT.out hB) ho (fun q hq => by
        obtain rfl := List.mem_singleton.1 hq
        refine ⟨?_, ?_, ?_, ?_, ?_⟩ <;> simp only <;> omega) (by simp) (fun q hq => by
        obtain rfl := List.mem_singleton.1 hq
        simp only; omega)
      rw [q1, q2, errV_0] at this
      exact this
    have HBE : Hid (bytesOf rs = ⟨(encs rs).toArray⟩) := hb
    generalize bytesOf rs = S at *
    clear hT hR hz hl hb hsc q1 q2 hne hne2
    go_enter Tryz.func21, Tryz.ntmps21
    go_wp2_with (first
      | (go_at_call 59; refine Calls.mono cC.out ?_; rintro e w1 ⟨n1, n2, n3, n4, rfl, hb1⟩; have HB1 : Hid (Below w.heap.size w w1) := hb1; clear hb1)
      | (go_at_call 9999)
      | fail)
    refine (cA.out _ (w1.heap.size + 1) _ ?hB ?hS ?hO).mono ?_
    case hB => exact ((HB1.out.alloc HB1.out.size _).alloc (Nat.le_trans HB1.out.size (by simp)) _).alloc (by have := HB1.out.size; simp; omega) _
    case hS =>
      refine ⟨by simp [go_sem], by simp [go_sem], none, 0, 0, by simp [go_sem], ?_, fun a ha => by cases ha⟩
      rw [rowZ_nil]; exact ⟨rfl, .inl ⟨rfl, rfl, rfl⟩⟩
    case hO =>
      refine opAt_lit (t := 50) (ps := [⟨0, 0, encs rs⟩]) (fz := (0, 0)) ?_ (by simp [maxLen])
      rw [HBE.out]
      have h := heap_alloc_new ((w1.alloc (.cells #[.int .i64 n1, .int .i64 n2, .int .i64 n3, .int .i64 n4] 25)).alloc (.cells #[.int .i64 1, .slice none 0 0, .slice none 0 0, .slice none 0 0] 132)) (.cells #[.int .i64 0, .int .i64 0, .string ⟨(encs rs).toArray⟩] 50)
      rw [World.size_alloc, World.size_alloc] at h
      exact h
    rintro e w2 ⟨rfl, hs2, hb2⟩
    have HS2 : Hid _ := hs2
    have HB2 : Hid _ := hb2
    clear hs2 hb2
    go_wp2
    go_ret2
    have hsz := HB1.out.size
    refine ⟨_, rfl, HS2.out, by omega, ?_⟩
    exact (((HB1.out.alloc HB1.out.size _).alloc (Nat.le_trans HB1.out.size (by simp)) _).alloc (by have := HB1.out.size; simp; omega) _).trans (HB2.out.mono (by omega))

set_option maxHeartbeats 1000000 in
theorem shnew2_text (s : List UInt8) (hs : s.length ≤ 1000000) (hsc : (scan s).2 = false) (w : World) (hT : Lib.Utf8Tabs 2 3 w) : Calls Tryz.prog 21 #[.int .i64 2, .string ⟨s.toArray⟩] w fun e w' => ∃ x w1, e = .returned (.tuple #[.pointer none, x]) ∧ isAt w w1 x (place s) ∧ Below w1.heap.size w1 w' ∧ Below w.heap.size w w' := by
  have cC : Hid (Calls Tryz.prog 59 #[.string ⟨s.toArray⟩] w fun e w' => ∃ b, e = .returned (.tuple #[cnt 0 0 0 0, .iface 233 (.pointer (some ⟨b, 0, none⟩))]) ∧ isAt w w' (.iface 233 (.pointer (some ⟨b, 0, none⟩))) (place s) ∧ Below w.heap.size w w') :=
    (Count_any ⟨s.toArray⟩ (by simp [ByteArray.size]; omega) w hT).mono fun e w' ⟨v, x, h1, h2, h3⟩ => by
      have e0 : (ByteArray.mk s.toArray).data.toList = s := rfl
      rw [e0] at h3
      rcases h3 with ⟨h4, _⟩ | ⟨_, rfl, h5⟩
      · rw [hsc] at h4; cases h4
      · have h6 := h5
        obtain ⟨b, rfl, _⟩ := h6
        exact ⟨b, h1, h5, h2⟩
  unfold cnt at cC
  clear hT hs hsc
  generalize ByteArray.mk s.toArray = S at *
  go_enter Tryz.func21, Tryz.ntmps21
  go_wp2_with (first
    | (go_at_call 59; refine Calls.mono cC.out ?_; rintro e w1 ⟨b, rfl, hi, hb1⟩; have HI : Hid _ := hi; have HB1 : Hid (Below w.heap.size w w1) := hb1; clear hi hb1)
    | fail)
  go_ret2
  exact ⟨_, w1, rfl, HI.out, (Below.refl _ _).alloc (Nat.le_refl _) _, HB1.out.alloc HB1.out.size _⟩
set_option maxHeartbeats 2000000 in
theorem shnew2_good (rs : List Nat) (hR : ∀ r ∈ rs, isRune r) (hz : C1 rs ≤ 8000) (w : World) (hT : Lib.Utf8Tabs 2 3 w) : Calls Tryz.prog 21 #[.int .i64 2, .string (bytesOf rs)] w fun e w' => ∃ b, e = .returned (.tuple #[.pointer (some ⟨b, 0, none⟩), .nilIface]) ∧ isShape w' b 2 rs ∧ w.heap.size ≤ b ∧ Below w.heap.size w w' := by
  have hl := C1_len rs
  have hb : (bytesOf rs) = ⟨(encs rs).toArray⟩ := rfl
  have hsc : (scan (encs rs)).2 = true := by rw [scan_encs rs hR]
  have cC : Hid (Calls Tryz.prog 59 #[.string (bytesOf rs)] w fun e w' => ∃ n1 n2 n3 n4, e = .returned (.tuple #[.agg #[.int .i64 n1, .int .i64 n2, .int .i64 n3, .int .i64 n4], .nilIface]) ∧ Below w.heap.size w w') :=
    (Count_any (bytesOf rs) (by rw [hb]; simp [ByteArray.size]; omega) w hT).mono fun e w' ⟨v, x, h1, h2, h3⟩ => by
      have e0 : (bytesOf rs).data.toList = encs rs := rfl
      rw [e0] at h3
      rcases h3 with ⟨_, rfl, rfl⟩ | ⟨h4, _⟩
      · exact ⟨_, _, _, _, h1, h2⟩
      · rw [hsc] at h4; cases h4
  by_cases hne : rs = []
  · subst hne
    have hbe : bytesOf [] = ⟨#[]⟩ := rfl
    rw [hbe] at cC ⊢
    clear hT hR hz hl hb hsc hbe
    go_enter Tryz.func21, Tryz.ntmps21
    go_wp2_with (first
      | (go_at_call 59; refine Calls.mono cC.out ?_; rintro e w1 ⟨n1, n2, n3, n4, rfl, hb1⟩; have HB1 : Hid (Below w.heap.size w w1) := hb1; clear hb1)
      | fail)
    go_ret2
    refine ⟨_, rfl, ?_, ?_, (HB1.out.alloc HB1.out.size _).alloc (Nat.le_trans HB1.out.size (by simp)) _⟩
    · refine ⟨by simp [go_sem], by simp [go_sem], none, 0, 0, by simp [go_sem], ?_, fun a ha => by cases ha⟩
      rw [rowZ_nil]; exact ⟨rfl, .inl ⟨rfl, rfl, rfl⟩⟩
    · have := HB1.out.size; simp; omega
  · have hne2 : encs rs ≠ [] := fun e => by
      have := encs_len rs; rw [e] at this; exact hne (List.eq_nil_of_length_eq_zero (by simpa using this))
    obtain ⟨q1, q2⟩ := shnew_op 2 (by unfold unitOk; omega) hR hz hne2
    have hbne : (bytesOf rs).toList.isEmpty = false := by
      rw [ByteArray.toList_eq, hb]
      show (encs rs).isEmpty = false
      cases h : encs rs with
      | nil => exact absurd h hne2
      | cons a t => rfl
    have HTT : Hid _ := hT
    have cA : Hid (∀ W b v, Below w.heap.size w W → isShape W b 2 [] → opAt W v [⟨0, 0, encs rs⟩] → Calls Tryz.prog 22 #[.pointer (some ⟨b, 0, none⟩), v] W fun e w' => e = .returned .nilIface ∧ isShape w' b 2 rs ∧ Below b W w') := fun W b v hB hs ho => by
      have := shapply2_any b [] [⟨0, 0, encs rs⟩] v W hs (fun r hr => by cases hr) (by decide) (Go.Proofs.Utf8Tabs_below HTT.out hB) ho (fun q hq => by
        obtain rfl := List.mem_singleton.1 hq
        refine ⟨?_, ?_, ?_, ?_, ?_⟩ <;> simp only <;> omega) (by simp) (fun q hq => by
        obtain rfl := List.mem_singleton.1 hq
        simp only; omega)
      rw [q1, q2, errV_0] at this
      exact this
    have HBE : Hid (bytesOf rs = ⟨(encs rs).toArray⟩) := hb
    generalize bytesOf rs = S at *
    clear hT hR hz hl hb hsc q1 q2 hne hne2
    go_enter Tryz.func21, Tryz.ntmps21
    go_wp2_with (first
      | (go_at_call 59; refine Calls.mono cC.out ?_; rintro e w1 ⟨n1, n2, n3, n4, rfl, hb1⟩; have HB1 : Hid (Below w.heap.size w w1) := hb1; clear hb1)
      | (go_at_call 9999)
      | fail)
    refine (cA.out _ (w1.heap.size + 1) _ ?hB ?hS ?hO).mono ?_
    case hB => exact ((HB1.out.alloc HB1.out.size _).alloc (Nat.le_trans HB1.out.size (by simp)) _).alloc (by have := HB1.out.size; simp; omega) _
    case hS =>
      refine ⟨by simp [go_sem], by simp [go_sem], none, 0, 0, by simp [go_sem], ?_, fun a ha => by cases ha⟩
      rw [rowZ_nil]; exact ⟨rfl, .inl ⟨rfl, rfl, rfl⟩⟩
    case hO =>
      refine opAt_lit (t := 50) (ps := [⟨0, 0, encs rs⟩]) (fz := (0, 0)) ?_ (by simp [maxLen])
      rw [HBE.out]
      have h := heap_alloc_new ((w1.alloc (.cells #[.int .i64 n1, .int .i64 n2, .int .i64 n3, .int .i64 n4] 25)).alloc (.cells #[.int .i64 2, .slice none 0 0, .slice none 0 0, .slice none 0 0] 132)) (.cells #[.int .i64 0, .int .i64 0, .string ⟨(encs rs).toArray⟩] 50)
      rw [World.size_alloc, World.size_alloc] at h
      exact h
    rintro e w2 ⟨rfl, hs2, hb2⟩
    have HS2 : Hid _ := hs2
    have HB2 : Hid _ := hb2
    clear hs2 hb2
    go_wp2
    go_ret2
    have hsz := HB1.out.size
    refine ⟨_, rfl, HS2.out, by omega, ?_⟩
    exact (((HB1.out.alloc HB1.out.size _).alloc (Nat.le_trans HB1.out.size (by simp)) _).alloc (by have := HB1.out.size; simp; omega) _).trans (HB2.out.mono (by omega))

set_option maxHeartbeats 1000000 in
theorem shnew3_text (s : List UInt8) (hs : s.length ≤ 1000000) (hsc : (scan s).2 = false) (w : World) (hT : Lib.Utf8Tabs 2 3 w) : Calls Tryz.prog 21 #[.int .i64 3, .string ⟨s.toArray⟩] w fun e w' => ∃ x w1, e = .returned (.tuple #[.pointer none, x]) ∧ isAt w w1 x (place s) ∧ Below w1.heap.size w1 w' ∧ Below w.heap.size w w' := by
  have cC : Hid (Calls Tryz.prog 59 #[.string ⟨s.toArray⟩] w fun e w' => ∃ b, e = .returned (.tuple #[cnt 0 0 0 0, .iface 233 (.pointer (some ⟨b, 0, none⟩))]) ∧ isAt w w' (.iface 233 (.pointer (some ⟨b, 0, none⟩))) (place s) ∧ Below w.heap.size w w') :=
    (Count_any ⟨s.toArray⟩ (by simp [ByteArray.size]; omega) w hT).mono fun e w' ⟨v, x, h1, h2, h3⟩ => by
      have e0 : (ByteArray.mk s.toArray).data.toList = s := rfl
      rw [e0] at h3
      rcases h3 with ⟨h4, _⟩ | ⟨_, rfl, h5⟩
      · rw [hsc] at h4; cases h4
      · have h6 := h5
        obtain ⟨b, rfl, _⟩ := h6
        exact ⟨b, h1, h5, h2⟩
  unfold cnt at cC
  clear hT hs hsc
  generalize ByteArray.mk s.toArray = S at *
  go_enter Tryz.func21, Tryz.ntmps21
  go_wp2_with (first
    | (go_at_call 59; refine Calls.mono cC.out ?_; rintro e w1 ⟨b, rfl, hi, hb1⟩; have HI : Hid _ := hi; have HB1 : Hid (Below w.heap.size w w1) := hb1; clear hi hb1)
    | fail)
  go_ret2
  exact ⟨_, w1, rfl, HI.out, (Below.refl _ _).alloc (Nat.le_refl _) _, HB1.out.alloc HB1.out.size _⟩
set_option maxHeartbeats 2000000 in
theorem shnew3_good (rs : List Nat) (hR : ∀ r ∈ rs, isRune r) (hz : C1 rs ≤ 8000) (w : World) (hT : Lib.Utf8Tabs 2 3 w) : Calls Tryz.prog 21 #[.int .i64 3, .string (bytesOf rs)] w fun e w' => ∃ b, e = .returned (.tuple #[.pointer (some ⟨b, 0, none⟩), .nilIface]) ∧ isShape w' b 3 rs ∧ w.heap.size ≤ b ∧ Below w.heap.size w w' := by
  have hl := C1_len rs
  have hb : (bytesOf rs) = ⟨(encs rs).toArray⟩ := rfl
  have hsc : (scan (encs rs)).2 = true := by rw [scan_encs rs hR]
  have cC : Hid (Calls Tryz.prog 59 #[.string (bytesOf rs)] w fun e w' => ∃ n1 n2 n3 n4, e = .returned (.tuple #[.agg #[.int .i64 n1, .int .i64 n2, .int .i64 n3, .int .i64 n4], .nilIface]) ∧ Below w.heap.size w w') :=
    (Count_any (bytesOf rs) (by rw [hb]; simp [ByteArray.size]; omega) w hT).mono fun e w' ⟨v, x, h1, h2, h3⟩ => by
      have e0 : (bytesOf rs).data.toList = encs rs := rfl
      rw [e0] at h3
      rcases h3 with ⟨_, rfl, rfl⟩ | ⟨h4, _⟩
      · exact ⟨_, _, _, _, h1, h2⟩
      · rw [hsc] at h4; cases h4
  by_cases hne : rs = []
  · subst hne
    have hbe : bytesOf [] = ⟨#[]⟩ := rfl
    rw [hbe] at cC ⊢
    clear hT hR hz hl hb hsc hbe
    go_enter Tryz.func21, Tryz.ntmps21
    go_wp2_with (first
      | (go_at_call 59; refine Calls.mono cC.out ?_; rintro e w1 ⟨n1, n2, n3, n4, rfl, hb1⟩; have HB1 : Hid (Below w.heap.size w w1) := hb1; clear hb1)
      | fail)
    go_ret2
    refine ⟨_, rfl, ?_, ?_, (HB1.out.alloc HB1.out.size _).alloc (Nat.le_trans HB1.out.size (by simp)) _⟩
    · refine ⟨by simp [go_sem], by simp [go_sem], none, 0, 0, by simp [go_sem], ?_, fun a ha => by cases ha⟩
      rw [rowZ_nil]; exact ⟨rfl, .inl ⟨rfl, rfl, rfl⟩⟩
    · have := HB1.out.size; simp; omega
  · have hne2 : encs rs ≠ [] := fun e => by
      have := encs_len rs; rw [e] at this; exact hne (List.eq_nil_of_length_eq_zero (by simpa using this))
    obtain ⟨q1, q2⟩ := shnew_op 3 (by unfold unitOk; omega) hR hz hne2
    have hbne : (bytesOf rs).toList.isEmpty = false := by
      rw [ByteArray.toList_eq, hb]
      show (encs rs).isEmpty = false
      cases h : encs rs with
      | nil => exact absurd h hne2
      | cons a t => rfl
    have HTT : Hid _ := hT
    have cA : Hid (∀ W b v, Below w.heap.size w W → isShape W b 3 [] → opAt W v [⟨0, 0, encs rs⟩] → Calls Tryz.prog 22 #[.pointer (some ⟨b, 0, none⟩), v] W fun e w' => e = .returned .nilIface ∧ isShape w' b 3 rs ∧ Below b W w') := fun W b v hB hs ho => by
      have := shapply3_any b [] [⟨0, 0, encs rs⟩] v W hs (fun r hr => by cases hr) (by decide) (Go.Proofs.Utf8Tabs_below HTT.out hB) ho (fun q hq => by
        obtain rfl := List.mem_singleton.1 hq
        refine ⟨?_, ?_, ?_, ?_, ?_⟩ <;> simp only <;> omega) (by simp) (fun q hq => by
        obtain rfl := List.mem_singleton.1 hq
        simp only; omega)
      rw [q1, q2, errV_0] at this
      exact this
    have HBE : Hid (bytesOf rs = ⟨(encs rs).toArray⟩) := hb
    generalize bytesOf rs = S at *
    clear hT hR hz hl hb hsc q1 q2 hne hne2
    go_enter Tryz.func21, Tryz.ntmps21
    go_wp2_with (first
      | (go_at_call 59; refine Calls.mono cC.out ?_; rintro e w1 ⟨n1, n2, n3, n4, rfl, hb1⟩; have HB1 : Hid (Below w.heap.size w w1) := hb1; clear hb1)
      | (go_at_call 9999)
      | fail)
    refine (cA.out _ (w1.heap.size + 1) _ ?hB ?hS ?hO).mono ?_
    case hB => exact ((HB1.out.alloc HB1.out.size _).alloc (Nat.le_trans HB1.out.size (by simp)) _).alloc (by have := HB1.out.size; simp; omega) _
    case hS =>
      refine ⟨by simp [go_sem], by simp [go_sem], none, 0, 0, by simp [go_sem], ?_, fun a ha => by cases ha⟩
      rw [rowZ_nil]; exact ⟨rfl, .inl ⟨rfl, rfl, rfl⟩⟩
    case hO =>
      refine opAt_lit (t := 50) (ps := [⟨0, 0, encs rs⟩]) (fz := (0, 0)) ?_ (by simp [maxLen])
      rw [HBE.out]
      have h := heap_alloc_new ((w1.alloc (.cells #[.int .i64 n1, .int .i64 n2, .int .i64 n3, .int .i64 n4] 25)).alloc (.cells #[.int .i64 3, .slice none 0 0, .slice none 0 0, .slice none 0 0] 132)) (.cells #[.int .i64 0, .int .i64 0, .string ⟨(encs rs).toArray⟩] 50)
      rw [World.size_alloc, World.size_alloc] at h
      exact h
    rintro e w2 ⟨rfl, hs2, hb2⟩
    have HS2 : Hid _ := hs2
    have HB2 : Hid _ := hb2
    clear hs2 hb2
    go_wp2
    go_ret2
    have hsz := HB1.out.size
    refine ⟨_, rfl, HS2.out, by omega, ?_⟩
    exact (((HB1.out.alloc HB1.out.size _).alloc (Nat.le_trans HB1.out.size (by simp)) _).alloc (by have := HB1.out.size; simp; omega) _).trans (HB2.out.mono (by omega))
end Go.Proofs.YtldhbjmillfjgabGreatDoor
