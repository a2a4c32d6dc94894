/-
  ops.sideBySide: the pairs of two operations, one behind the other, each taken (turn2).
-/
import Derived.Test.YtedgnlgjmnccgabGreatDoorOpsSideH
import Derived.Deep.LoopGhost
namespace Go.Proofs.YtedgnlgjmnccgabGreatDoor
open Go.RowKit
set_option linter.unusedVariables false
attribute [local go_sem] Oper.semAt_some

set_option maxRecDepth 100000 in
set_option maxHeartbeats 16000000 in
theorem side_turn2 (M a g1 g2 β : Nat) (bx : List (Nat × Obj)) (v1 v2 : Value) (A0 B0 : List Pt) (l0 : List (Pt × Pt)) (s0 : NSt) (w : World) {T0 : Int} {n0 : Nat} (hI0 : sideI M a g1 g2 bx w v1 v2 A0 B0 s0 w) (hS0 : Side isPutP isPutP A0 B0 l0) (hB0 : BdS (fun x => turnP (x.2, x.1)) l0 s0 T0 n0) (ho0 : boxesOk a g1 g2 bx) (h1 : a + 4 ≤ g1) (h2 : g1 < M) (h3 : a + 4 ≤ g2) (h4 : g2 < M) (hne0 : g1 ≠ g2)
    (cT0 : ∀ (s : NSt) (x : Pt × Pt) (T : Int) (n : Nat) (W : World), gath M W a s → boxesP bx W → Bd s T n → (∀ p ∈ (fun x => turnP (x.2, x.1)) x, soundP p) → T + wts ((fun x => turnP (x.2, x.1)) x) < 1000000000 → n < 10000000 → Calls Tryz.prog 229 #[partV x.1, partV x.2, .pointer (some ⟨β, 0, none⟩)] W (tookP M a s ((fun x => turnP (x.2, x.1)) x) W)) :
    Calls Tryz.prog 223 #[v1, v2, .func (.func 225) #[] #[], .func (.func 225) #[] #[], .func (.func 229) #[] #[.pointer (some ⟨β, 0, none⟩)]] w fun e w' => (∃ v, e = .returned v) ∧ gath M w' a (runS (fun x => turnP (x.2, x.1)) l0 s0) ∧ boxesP bx w' ∧ Below a w w' := by
  obtain ⟨S, hS⟩ : ∃ S, runS (fun x => turnP (x.2, x.1)) l0 s0 = S := ⟨_, rfl⟩
  rw [hS]
  obtain ⟨t, ht⟩ : ∃ t : Pt × Pt → List Pt, t = (fun x => turnP (x.2, x.1)) := ⟨_, rfl⟩
  rw [← ht] at hB0 hS cT0
  have cT : Hid (∀ (s : NSt) (x : Pt × Pt) (T : Int) (n : Nat) (l : List (Pt × Pt)) (W : World), gath M W a s → boxesP bx W → BdS t (x :: l) s T n → Calls Tryz.prog 229 #[partV x.1, partV x.2, .pointer (some ⟨β, 0, none⟩)] W (tookP M a s (t x) W)) := fun s x T n l W hg hb hB => cT0 s x T n W hg hb hB.bd hB.head.1 hB.head.2.1 hB.head.2.2
  have hst : sideR isPutP isPutP t M a g1 g2 bx w S l0.length v1 v2 w := ⟨A0, B0, l0, s0, T0, n0, rfl, hS0, hI0, hB0, hS⟩
  have HST : Hid (sideR isPutP isPutP t M a g1 g2 bx w S l0.length v1 v2 w) := hst
  have HO : Hid (boxesOk a g1 g2 bx) := ho0
  have HNE : Hid (g1 ≠ g2) := hne0
  clear ht cT0 hI0 hS0 hB0 ho0 hS hst hne0
  go_enter Tryz.func223, Tryz.ntmps223
  go_wp2
  go_loopg [0, 1] l0.length (fun k u1 u2 wr => sideR isPutP isPutP t M a g1 g2 bx w S k u1 u2 wr)
  case atStart => exact HST.out
  case round =>
    obtain ⟨A, B, l, s, T, n, hk, hSd, hI, hB, hR⟩ := hrel
    have hwz := hI.below.size
    have HK : Hid (l.length = gk) := hk
    have HI : Hid _ := hI
    have HB : Hid _ := hB
    have HR : Hid _ := hR
    clear HST
    clear hk hB hR
    cases hSd with
    | nil =>
      obtain ⟨p1, c1, rfl, _, _, _⟩ := hI.r1
      obtain ⟨p2, c2, rfl, _, _, _⟩ := hI.r2
      clear hI
      go_wp2
      go_end0
      have hx := HI.out
      exact ⟨⟨_, rfl⟩, by rw [← HR.out]; exact hx.g, hx.b, hx.below⟩
    | left =>
      rename_i p A l hl hS'
      obtain ⟨o, c, rfl, e1, e2, eg, e3, k0, k1, k2⟩ := winP_head hI.r1
      obtain ⟨p2, c2, rfl, _, _, _⟩ := hI.r2
      have cL : Hid (∀ wx, Calls Tryz.prog 225 #[partV p] wx fun e w' => e = .returned (.bool true) ∧ Below wx.heap.size wx w') := fun wx => by
        have := isPut_any p wx
        rw [show decide (p.put ≠ []) = true from hl] at this
        exact this
      have CT : Hid (∀ W', Below wr.heap.size wr W' → Calls Tryz.prog 229 #[partV (p, noP).1, partV (p, noP).2, .pointer (some ⟨β, 0, none⟩)] W' (tookP M a s (t (p, noP)) W')) := fun W' hb => cT.out s (p, noP) T n l W' (HI.out.grow hb).g (HI.out.grow hb).b HB.out
      have HS : Hid (Side isPutP isPutP _ _ l) := hS'
      have HT : Hid (∀ W', Below wr.heap.size wr W' → _ ∧ _) := fun W' hb => sideI.tail1 HI.out hb
      obtain ⟨K, D, U⟩ := p
      simp only at k0 k1 k2
      have HKC : Hid (wr.cell? ⟨g1, o, none⟩ = some (.int .i64 K) ∧ wr.cell? ⟨g1, o + 1, none⟩ = some (.int .i64 D) ∧ wr.cell? ⟨g1, o + 2, none⟩ = some (.string ⟨U.toArray⟩)) := ⟨k0, k1, k2⟩
      have HEG : Hid (g1 < wr.heap.size) := eg
      have hi0 : (0 : Int) < (A.length : Int) + 1 := by omega
      have hi1 : (1 : Int) ≤ (A.length : Int) + 1 := by omega
      unfold noP at CT
      unfold partV at cL CT
      clear hI hS' hl
      go_wp2_with (first
        | (go_at_call 225; refine (cL.out _).mono ?_; rintro e w1 ⟨rfl, hb1⟩; obtain ⟨b1, b2, b3⟩ := two_boxes hb1; have HR1 : Hid (w1.heap[wr.heap.size]? = some (.cells #[.int .i64 0, .int .i64 0, .string ⟨#[]⟩] 50 (0, 0))) := b1; have HP1 : Hid (w1.heap[wr.heap.size + 1]? = some (.cells #[.int .i64 0, .int .i64 0, .string ⟨#[]⟩] 50 (0, 0))) := b2; have HB1 : Hid (Below wr.heap.size wr w1) := b3; clear b1 b2 b3 hb1; have r0 : w1.cell? ⟨wr.heap.size, 0, none⟩ = some (.int .i64 0) := Lib.cell_of_heap HR1.out 0; have r1 : w1.cell? ⟨wr.heap.size, 1, none⟩ = some (.int .i64 0) := Lib.cell_of_heap HR1.out 1; have r2 : w1.cell? ⟨wr.heap.size, 2, none⟩ = some (.string ⟨#[]⟩) := Lib.cell_of_heap HR1.out 2; have rF0 : w1.frozen? ⟨wr.heap.size, 0, none⟩ = false := frozen_of_heap HR1.out 0; have rF1 : w1.frozen? ⟨wr.heap.size, 1, none⟩ = false := frozen_of_heap HR1.out 1; have rF2 : w1.frozen? ⟨wr.heap.size, 2, none⟩ = false := frozen_of_heap HR1.out 2; have q0 : w1.cell? ⟨wr.heap.size + 1, 0, none⟩ = some (.int .i64 0) := Lib.cell_of_heap HP1.out 0; have q1 : w1.cell? ⟨wr.heap.size + 1, 1, none⟩ = some (.int .i64 0) := Lib.cell_of_heap HP1.out 1; have q2 : w1.cell? ⟨wr.heap.size + 1, 2, none⟩ = some (.string ⟨#[]⟩) := Lib.cell_of_heap HP1.out 2; have qF0 : w1.frozen? ⟨wr.heap.size + 1, 0, none⟩ = false := frozen_of_heap HP1.out 0; have qF1 : w1.frozen? ⟨wr.heap.size + 1, 1, none⟩ = false := frozen_of_heap HP1.out 1; have qF2 : w1.frozen? ⟨wr.heap.size + 1, 2, none⟩ = false := frozen_of_heap HP1.out 2; have x0 : w1.cell? ⟨g1, o, none⟩ = some (.int .i64 K) := (HB1.out.cell HEG.out).trans HKC.out.1; have x1 : w1.cell? ⟨g1, o + 1, none⟩ = some (.int .i64 D) := (HB1.out.cell HEG.out).trans HKC.out.2.1; have x2 : w1.cell? ⟨g1, o + 2, none⟩ = some (.string ⟨U.toArray⟩) := (HB1.out.cell HEG.out).trans HKC.out.2.2)
        | fail)
      obtain ⟨s0, s1, s2, hsz, hoth⟩ := three_set r0 r1 r2 (.int .i64 K) (.int .i64 D) (.string ⟨U.toArray⟩)
      go_region
      all_goals (go_wp2_with (first
        | (go_at_call 229; have HBW : Hid (Below wr.heap.size wr _) := ((((HB1.out.setCell (p := ⟨wr.heap.size, 0, none⟩) (Nat.le_refl _) (.int .i64 K)).setCell (p := ⟨wr.heap.size, 1, none⟩) (Nat.le_refl _) (.int .i64 D)).setCell (p := ⟨wr.heap.size, 2, none⟩) (Nat.le_refl _) (.string ⟨U.toArray⟩)).drew); refine (CT.out _ HBW.out).mono ?_; rintro e w5 ⟨⟨v5, rfl⟩, hg5, hb5⟩)
        | fail))
      · have hc1 : c = 1 := by assumption
        subst hc1
        go_roundg l.length
        case measure => have := HK.out; simp only [List.length_cons] at this; omega
        case rel => exact sideR_next HS.out ((HT.out _ HBW.out).2 rfl) HB.out HR.out hg5 hb5 HO.out h1 h2 h3 h4
      · go_roundg l.length
        case measure => have := HK.out; simp only [List.length_cons] at this; omega
        case rel => exact sideR_next HS.out (HT.out _ HBW.out).1 HB.out HR.out hg5 hb5 HO.out h1 h2 h3 h4
    | last =>
      rename_i p B l hl hS'
      obtain ⟨p2, c2, rfl, _, _, _⟩ := hI.r1
      obtain ⟨o, c, rfl, e1, e2, eg, e3, k0, k1, k2⟩ := winP_head hI.r2
      have cL : Hid (∀ wx, Calls Tryz.prog 225 #[partV p] wx fun e w' => e = .returned (.bool true) ∧ Below wx.heap.size wx w') := fun wx => by
        have := isPut_any p wx
        rw [show decide (p.put ≠ []) = true from hl] at this
        exact this
      have CT : Hid (∀ W', Below wr.heap.size wr W' → Calls Tryz.prog 229 #[partV (noP, p).1, partV (noP, p).2, .pointer (some ⟨β, 0, none⟩)] W' (tookP M a s (t (noP, p)) W')) := fun W' hb => cT.out s (noP, p) T n l W' (HI.out.grow hb).g (HI.out.grow hb).b HB.out
      have HS : Hid (Side isPutP isPutP _ _ l) := hS'
      have HT : Hid (∀ W', Below wr.heap.size wr W' → _ ∧ _) := fun W' hb => sideI.tail2 HI.out hb
      obtain ⟨K, D, U⟩ := p
      simp only at k0 k1 k2
      have HKC : Hid (wr.cell? ⟨g2, o, none⟩ = some (.int .i64 K) ∧ wr.cell? ⟨g2, o + 1, none⟩ = some (.int .i64 D) ∧ wr.cell? ⟨g2, o + 2, none⟩ = some (.string ⟨U.toArray⟩)) := ⟨k0, k1, k2⟩
      have HEG : Hid (g2 < wr.heap.size) := eg
      have hi0 : (0 : Int) < (B.length : Int) + 1 := by omega
      have hi1 : (1 : Int) ≤ (B.length : Int) + 1 := by omega
      unfold noP at CT
      unfold partV at cL CT
      clear hI hS' hl
      go_wp2_with (first
        | (go_at_call 225; refine (cL.out _).mono ?_; rintro e w1 ⟨rfl, hb1⟩; obtain ⟨b1, b2, b3⟩ := two_boxes hb1; have HR1 : Hid (w1.heap[wr.heap.size]? = some (.cells #[.int .i64 0, .int .i64 0, .string ⟨#[]⟩] 50 (0, 0))) := b1; have HP1 : Hid (w1.heap[wr.heap.size + 1]? = some (.cells #[.int .i64 0, .int .i64 0, .string ⟨#[]⟩] 50 (0, 0))) := b2; have HB1 : Hid (Below wr.heap.size wr w1) := b3; clear b1 b2 b3 hb1; have r0 : w1.cell? ⟨wr.heap.size, 0, none⟩ = some (.int .i64 0) := Lib.cell_of_heap HR1.out 0; have r1 : w1.cell? ⟨wr.heap.size, 1, none⟩ = some (.int .i64 0) := Lib.cell_of_heap HR1.out 1; have r2 : w1.cell? ⟨wr.heap.size, 2, none⟩ = some (.string ⟨#[]⟩) := Lib.cell_of_heap HR1.out 2; have rF0 : w1.frozen? ⟨wr.heap.size, 0, none⟩ = false := frozen_of_heap HR1.out 0; have rF1 : w1.frozen? ⟨wr.heap.size, 1, none⟩ = false := frozen_of_heap HR1.out 1; have rF2 : w1.frozen? ⟨wr.heap.size, 2, none⟩ = false := frozen_of_heap HR1.out 2; have q0 : w1.cell? ⟨wr.heap.size + 1, 0, none⟩ = some (.int .i64 0) := Lib.cell_of_heap HP1.out 0; have q1 : w1.cell? ⟨wr.heap.size + 1, 1, none⟩ = some (.int .i64 0) := Lib.cell_of_heap HP1.out 1; have q2 : w1.cell? ⟨wr.heap.size + 1, 2, none⟩ = some (.string ⟨#[]⟩) := Lib.cell_of_heap HP1.out 2; have qF0 : w1.frozen? ⟨wr.heap.size + 1, 0, none⟩ = false := frozen_of_heap HP1.out 0; have qF1 : w1.frozen? ⟨wr.heap.size + 1, 1, none⟩ = false := frozen_of_heap HP1.out 1; have qF2 : w1.frozen? ⟨wr.heap.size + 1, 2, none⟩ = false := frozen_of_heap HP1.out 2; have x0 : w1.cell? ⟨g2, o, none⟩ = some (.int .i64 K) := (HB1.out.cell HEG.out).trans HKC.out.1; have x1 : w1.cell? ⟨g2, o + 1, none⟩ = some (.int .i64 D) := (HB1.out.cell HEG.out).trans HKC.out.2.1; have x2 : w1.cell? ⟨g2, o + 2, none⟩ = some (.string ⟨U.toArray⟩) := (HB1.out.cell HEG.out).trans HKC.out.2.2)
        | fail)
      obtain ⟨s0, s1, s2, hsz, hoth⟩ := three_set q0 q1 q2 (.int .i64 K) (.int .i64 D) (.string ⟨U.toArray⟩)
      go_region
      all_goals (go_wp2_with (first
        | (go_at_call 229; have HBW : Hid (Below wr.heap.size wr _) := ((((HB1.out.setCell (p := ⟨wr.heap.size + 1, 0, none⟩) (Nat.le_succ _) (.int .i64 K)).setCell (p := ⟨wr.heap.size + 1, 1, none⟩) (Nat.le_succ _) (.int .i64 D)).setCell (p := ⟨wr.heap.size + 1, 2, none⟩) (Nat.le_succ _) (.string ⟨U.toArray⟩)).drew); refine (CT.out _ HBW.out).mono ?_; rintro e w5 ⟨⟨v5, rfl⟩, hg5, hb5⟩)
        | fail))
      · have hc1 : c = 1 := by assumption
        subst hc1
        go_roundg l.length
        case measure => have := HK.out; simp only [List.length_cons] at this; omega
        case rel => exact sideR_next HS.out ((HT.out _ HBW.out).2 rfl) HB.out HR.out hg5 hb5 HO.out h1 h2 h3 h4
      · go_roundg l.length
        case measure => have := HK.out; simp only [List.length_cons] at this; omega
        case rel => exact sideR_next HS.out (HT.out _ HBW.out).1 HB.out HR.out hg5 hb5 HO.out h1 h2 h3 h4
    | right =>
      rename_i pa p A B l hla hl hS'
      obtain ⟨oa, ca, rfl, ea1, ea2, eag, ea3, ka0, ka1, ka2⟩ := winP_head hI.r1
      obtain ⟨o, c, rfl, e1, e2, eg, e3, k0, k1, k2⟩ := winP_head hI.r2
      have cLA : Hid (∀ wx, Calls Tryz.prog 225 #[partV pa] wx fun e w' => e = .returned (.bool false) ∧ Below wx.heap.size wx w') := fun wx => by
        have := isPut_any pa wx
        rw [show decide (pa.put ≠ []) = false from hla] at this
        exact this
      have cL : Hid (∀ wx, Calls Tryz.prog 225 #[partV p] wx fun e w' => e = .returned (.bool true) ∧ Below wx.heap.size wx w') := fun wx => by
        have := isPut_any p wx
        rw [show decide (p.put ≠ []) = true from hl] at this
        exact this
      have CT : Hid (∀ W', Below wr.heap.size wr W' → Calls Tryz.prog 229 #[partV (noP, p).1, partV (noP, p).2, .pointer (some ⟨β, 0, none⟩)] W' (tookP M a s (t (noP, p)) W')) := fun W' hb => cT.out s (noP, p) T n l W' (HI.out.grow hb).g (HI.out.grow hb).b HB.out
      have HS : Hid (Side isPutP isPutP _ _ l) := hS'
      have HT : Hid (∀ W', Below wr.heap.size wr W' → _ ∧ _) := fun W' hb => sideI.tail2 HI.out hb
      obtain ⟨KA, DA, UA⟩ := pa
      simp only at ka0 ka1 ka2
      have HKA : Hid (wr.cell? ⟨g1, oa, none⟩ = some (.int .i64 KA) ∧ wr.cell? ⟨g1, oa + 1, none⟩ = some (.int .i64 DA) ∧ wr.cell? ⟨g1, oa + 2, none⟩ = some (.string ⟨UA.toArray⟩)) := ⟨ka0, ka1, ka2⟩
      have hia : (0 : Int) < (A.length : Int) + 1 := by omega
      unfold partV at cLA
      obtain ⟨K, D, U⟩ := p
      simp only at k0 k1 k2
      have HKC : Hid (wr.cell? ⟨g2, o, none⟩ = some (.int .i64 K) ∧ wr.cell? ⟨g2, o + 1, none⟩ = some (.int .i64 D) ∧ wr.cell? ⟨g2, o + 2, none⟩ = some (.string ⟨U.toArray⟩)) := ⟨k0, k1, k2⟩
      have HEG : Hid (g2 < wr.heap.size) := eg
      have hi0 : (0 : Int) < (B.length : Int) + 1 := by omega
      have hi1 : (1 : Int) ≤ (B.length : Int) + 1 := by omega
      unfold noP at CT
      unfold partV at cL CT
      clear hI hS' hl hla
      go_wp2_with (first
        | (have _ := HB1; go_at_call 225; refine (cL.out _).mono ?_; rintro e w2 ⟨rfl, hb2⟩; have HR2 : Hid (w2.heap[wr.heap.size]? = some (.cells #[.int .i64 0, .int .i64 0, .string ⟨#[]⟩] 50 (0, 0))) := (hb2.block _ (heap_lt HR1.out)).trans HR1.out; have HP2 : Hid (w2.heap[wr.heap.size + 1]? = some (.cells #[.int .i64 0, .int .i64 0, .string ⟨#[]⟩] 50 (0, 0))) := (hb2.block _ (heap_lt HP1.out)).trans HP1.out; have HB2 : Hid (Below wr.heap.size wr w2) := HB1.out.trans (hb2.mono HB1.out.size); clear hb2; have r0 : w2.cell? ⟨wr.heap.size, 0, none⟩ = some (.int .i64 0) := Lib.cell_of_heap HR2.out 0; have r1 : w2.cell? ⟨wr.heap.size, 1, none⟩ = some (.int .i64 0) := Lib.cell_of_heap HR2.out 1; have r2 : w2.cell? ⟨wr.heap.size, 2, none⟩ = some (.string ⟨#[]⟩) := Lib.cell_of_heap HR2.out 2; have rF0 : w2.frozen? ⟨wr.heap.size, 0, none⟩ = false := frozen_of_heap HR2.out 0; have rF1 : w2.frozen? ⟨wr.heap.size, 1, none⟩ = false := frozen_of_heap HR2.out 1; have rF2 : w2.frozen? ⟨wr.heap.size, 2, none⟩ = false := frozen_of_heap HR2.out 2; have q0 : w2.cell? ⟨wr.heap.size + 1, 0, none⟩ = some (.int .i64 0) := Lib.cell_of_heap HP2.out 0; have q1 : w2.cell? ⟨wr.heap.size + 1, 1, none⟩ = some (.int .i64 0) := Lib.cell_of_heap HP2.out 1; have q2 : w2.cell? ⟨wr.heap.size + 1, 2, none⟩ = some (.string ⟨#[]⟩) := Lib.cell_of_heap HP2.out 2; have qF0 : w2.frozen? ⟨wr.heap.size + 1, 0, none⟩ = false := frozen_of_heap HP2.out 0; have qF1 : w2.frozen? ⟨wr.heap.size + 1, 1, none⟩ = false := frozen_of_heap HP2.out 1; have qF2 : w2.frozen? ⟨wr.heap.size + 1, 2, none⟩ = false := frozen_of_heap HP2.out 2; have x0 : w2.cell? ⟨g2, o, none⟩ = some (.int .i64 K) := (HB2.out.cell HEG.out).trans HKC.out.1; have x1 : w2.cell? ⟨g2, o + 1, none⟩ = some (.int .i64 D) := (HB2.out.cell HEG.out).trans HKC.out.2.1; have x2 : w2.cell? ⟨g2, o + 2, none⟩ = some (.string ⟨U.toArray⟩) := (HB2.out.cell HEG.out).trans HKC.out.2.2)
        | (go_at_call 225; refine (cLA.out _).mono ?_; rintro e w1 ⟨rfl, hb1⟩; obtain ⟨b1, b2, b3⟩ := two_boxes hb1; have HR1 : Hid (w1.heap[wr.heap.size]? = some (.cells #[.int .i64 0, .int .i64 0, .string ⟨#[]⟩] 50 (0, 0))) := b1; have HP1 : Hid (w1.heap[wr.heap.size + 1]? = some (.cells #[.int .i64 0, .int .i64 0, .string ⟨#[]⟩] 50 (0, 0))) := b2; have HB1 : Hid (Below wr.heap.size wr w1) := b3; clear b1 b2 b3 hb1; have x0 : w1.cell? ⟨g2, o, none⟩ = some (.int .i64 K) := (HB1.out.cell HEG.out).trans HKC.out.1; have x1 : w1.cell? ⟨g2, o + 1, none⟩ = some (.int .i64 D) := (HB1.out.cell HEG.out).trans HKC.out.2.1; have x2 : w1.cell? ⟨g2, o + 2, none⟩ = some (.string ⟨U.toArray⟩) := (HB1.out.cell HEG.out).trans HKC.out.2.2)
        | fail)
      obtain ⟨s0, s1, s2, hsz, hoth⟩ := three_set q0 q1 q2 (.int .i64 K) (.int .i64 D) (.string ⟨U.toArray⟩)
      go_region
      all_goals (go_wp2_with (first
        | (go_at_call 229; have HBW : Hid (Below wr.heap.size wr _) := ((((HB2.out.setCell (p := ⟨wr.heap.size + 1, 0, none⟩) (Nat.le_succ _) (.int .i64 K)).setCell (p := ⟨wr.heap.size + 1, 1, none⟩) (Nat.le_succ _) (.int .i64 D)).setCell (p := ⟨wr.heap.size + 1, 2, none⟩) (Nat.le_succ _) (.string ⟨U.toArray⟩)).drew); refine (CT.out _ HBW.out).mono ?_; rintro e w5 ⟨⟨v5, rfl⟩, hg5, hb5⟩)
        | fail))
      · have hc1 : c = 1 := by assumption
        subst hc1
        go_roundg l.length
        case measure => have := HK.out; simp only [List.length_cons] at this; omega
        case rel => exact sideR_next HS.out ((HT.out _ HBW.out).2 rfl) HB.out HR.out hg5 hb5 HO.out h1 h2 h3 h4
      · go_roundg l.length
        case measure => have := HK.out; simp only [List.length_cons] at this; omega
        case rel => exact sideR_next HS.out (HT.out _ HBW.out).1 HB.out HR.out hg5 hb5 HO.out h1 h2 h3 h4
    | both =>
      rename_i p q A B l m hla hlb o1 o2 m0 hm b1 b2 hS'
      obtain ⟨oa, ca, rfl, ea1, ea2, eag, ea3, ka0, ka1, ka2⟩ := winP_head hI.r1
      obtain ⟨ob, cb, rfl, eb1, eb2, ebg, eb3, kb0, kb1, kb2⟩ := winP_head hI.r2
      have hlp := length_pos o1
      have hlq := length_pos o2
      have cLA : Hid (∀ wx, Calls Tryz.prog 225 #[partV p] wx fun e w' => e = .returned (.bool false) ∧ Below wx.heap.size wx w') := fun wx => by
        have := isPut_any p wx
        rw [show decide (p.put ≠ []) = false from hla] at this
        exact this
      have cLB : Hid (∀ wx, Calls Tryz.prog 225 #[partV q] wx fun e w' => e = .returned (.bool false) ∧ Below wx.heap.size wx w') := fun wx => by
        have := isPut_any q wx
        rw [show decide (q.put ≠ []) = false from hlb] at this
        exact this
      have cNP : Hid (∀ wx, Calls Tryz.prog 267 #[partV p] wx fun e w' => e = .returned (.int .i64 (lengthP p)) ∧ Below wx.heap.size wx w') := fun wx => length_any p wx (by rcases o1 with ⟨h1, h2, h3⟩ | ⟨h1, h2, h3⟩ | ⟨h1, h2, h3⟩ <;> exact ⟨by omega, by omega⟩) (by unfold lengthP at b1; omega)
      have cNQ : Hid (∀ wx, Calls Tryz.prog 267 #[partV q] wx fun e w' => e = .returned (.int .i64 (lengthP q)) ∧ Below wx.heap.size wx w') := fun wx => length_any q wx (by rcases o2 with ⟨h1, h2, h3⟩ | ⟨h1, h2, h3⟩ | ⟨h1, h2, h3⟩ <;> exact ⟨by omega, by omega⟩) (by unfold lengthP at b2; omega)
      have CC1 : Hid (∀ W', winP W' g1 (.slice (some ⟨g1, oa, none⟩) (A.length + 1) ca) (p :: A) → Calls Tryz.prog 268 #[.slice (some ⟨g1, oa, none⟩) (A.length + 1) ca, .int .i64 m] W' fun e w' => ∃ v', e = .returned (.tuple #[partV (cutP p m).1, v']) ∧ winP w' g1 v' ((cutP p m).2 ++ A) ∧ ButO g1 W' w') := fun W' h => cut_any g1 _ p A m W' h o1 m0 (by omega) b1
      have CC2 : Hid (∀ W', winP W' g2 (.slice (some ⟨g2, ob, none⟩) (B.length + 1) cb) (q :: B) → Calls Tryz.prog 268 #[.slice (some ⟨g2, ob, none⟩) (B.length + 1) cb, .int .i64 m] W' fun e w' => ∃ v', e = .returned (.tuple #[partV (cutP q m).1, v']) ∧ winP w' g2 v' ((cutP q m).2 ++ B) ∧ ButO g2 W' w') := fun W' h => cut_any g2 _ q B m W' h o2 m0 (by omega) b2
      have CT : Hid (∀ W', gath M W' a s → boxesP bx W' → Calls Tryz.prog 229 #[partV (cutP p m).1, partV (cutP q m).1, .pointer (some ⟨β, 0, none⟩)] W' (tookP M a s (t ((cutP p m).1, (cutP q m).1)) W')) := fun W' hg hb => cT.out s ((cutP p m).1, (cutP q m).1) T n l W' hg hb HB.out
      have HS : Hid (Side isPutP isPutP ((cutP p m).2 ++ A) ((cutP q m).2 ++ B) l) := hS'
      have hm1 : (m : Int) < 1000000000 := by omega
      clear hS' hla hlb o1 o2 hlp hlq b1 b2
      generalize lengthP p = LP at *
      generalize lengthP q = LQ at *
      obtain ⟨R1, hR1⟩ : ∃ R, (cutP p m).2 ++ A = R := ⟨_, rfl⟩
      obtain ⟨R2, hR2⟩ : ∃ R, (cutP q m).2 ++ B = R := ⟨_, rfl⟩
      obtain ⟨x1, hx1⟩ : ∃ x, (cutP p m).1 = x := ⟨_, rfl⟩
      obtain ⟨x2, hx2⟩ : ∃ x, (cutP q m).1 = x := ⟨_, rfl⟩
      rw [hR1, hx1] at CC1
      rw [hR2, hx2] at CC2
      rw [hx1, hx2] at CT HB HR
      rw [hR1, hR2] at HS
      rw [hx1, hx2] at HK
      clear hR1 hR2 hx1 hx2
      obtain ⟨K1, D1, U1⟩ := x1
      obtain ⟨K2, D2, U2⟩ := x2
      have HW1 : Hid (winP wr g1 (.slice (some ⟨g1, oa, none⟩) (A.length + 1) ca) (p :: A)) := hI.r1
      have HW2 : Hid (winP wr g2 (.slice (some ⟨g2, ob, none⟩) (B.length + 1) cb) (q :: B)) := hI.r2
      have HEG1 : Hid (g1 < wr.heap.size) := eag
      have HEG2 : Hid (g2 < wr.heap.size) := ebg
      obtain ⟨KA, DA, UA⟩ := p
      obtain ⟨KB, DB, UB⟩ := q
      simp only at ka0 ka1 ka2 kb0 kb1 kb2
      have HKA : Hid (wr.cell? ⟨g1, oa, none⟩ = some (.int .i64 KA) ∧ wr.cell? ⟨g1, oa + 1, none⟩ = some (.int .i64 DA) ∧ wr.cell? ⟨g1, oa + 2, none⟩ = some (.string ⟨UA.toArray⟩)) := ⟨ka0, ka1, ka2⟩
      have HKB : Hid (wr.cell? ⟨g2, ob, none⟩ = some (.int .i64 KB) ∧ wr.cell? ⟨g2, ob + 1, none⟩ = some (.int .i64 DB) ∧ wr.cell? ⟨g2, ob + 2, none⟩ = some (.string ⟨UB.toArray⟩)) := ⟨kb0, kb1, kb2⟩
      have hia : (0 : Int) < (A.length : Int) + 1 := by omega
      have hib : (0 : Int) < (B.length : Int) + 1 := by omega
      unfold partV at cLA cLB cNP cNQ CC1 CC2 CT
      clear hI ea3 eb3
      go_wp2_with (first
        | (have _ := HB1; go_at_call 225; refine (cLB.out _).mono ?_; rintro e w2 ⟨rfl, hb2⟩; have HR2 : Hid (w2.heap[wr.heap.size]? = some (.cells #[.int .i64 0, .int .i64 0, .string ⟨#[]⟩] 50 (0, 0))) := (hb2.block _ (heap_lt HR1.out)).trans HR1.out; have HP2 : Hid (w2.heap[wr.heap.size + 1]? = some (.cells #[.int .i64 0, .int .i64 0, .string ⟨#[]⟩] 50 (0, 0))) := (hb2.block _ (heap_lt HP1.out)).trans HP1.out; have HB2 : Hid (Below wr.heap.size wr w2) := HB1.out.trans (hb2.mono HB1.out.size); clear hb2; have xa0 : w2.cell? ⟨g1, oa, none⟩ = some (.int .i64 KA) := (HB2.out.cell HEG1.out).trans HKA.out.1; have xa1 : w2.cell? ⟨g1, oa + 1, none⟩ = some (.int .i64 DA) := (HB2.out.cell HEG1.out).trans HKA.out.2.1; have xa2 : w2.cell? ⟨g1, oa + 2, none⟩ = some (.string ⟨UA.toArray⟩) := (HB2.out.cell HEG1.out).trans HKA.out.2.2; have xc0 : w2.cell? ⟨g2, ob, none⟩ = some (.int .i64 KB) := (HB2.out.cell HEG2.out).trans HKB.out.1; have xc1 : w2.cell? ⟨g2, ob + 1, none⟩ = some (.int .i64 DB) := (HB2.out.cell HEG2.out).trans HKB.out.2.1; have xc2 : w2.cell? ⟨g2, ob + 2, none⟩ = some (.string ⟨UB.toArray⟩) := (HB2.out.cell HEG2.out).trans HKB.out.2.2)
        | (go_at_call 225; refine (cLA.out _).mono ?_; rintro e w1 ⟨rfl, hb1⟩; obtain ⟨y1, y2, y3⟩ := two_boxes hb1; have HR1 : Hid (w1.heap[wr.heap.size]? = some (.cells #[.int .i64 0, .int .i64 0, .string ⟨#[]⟩] 50 (0, 0))) := y1; have HP1 : Hid (w1.heap[wr.heap.size + 1]? = some (.cells #[.int .i64 0, .int .i64 0, .string ⟨#[]⟩] 50 (0, 0))) := y2; have HB1 : Hid (Below wr.heap.size wr w1) := y3; clear y1 y2 y3 hb1; have xb0 : w1.cell? ⟨g2, ob, none⟩ = some (.int .i64 KB) := (HB1.out.cell HEG2.out).trans HKB.out.1; have xb1 : w1.cell? ⟨g2, ob + 1, none⟩ = some (.int .i64 DB) := (HB1.out.cell HEG2.out).trans HKB.out.2.1; have xb2 : w1.cell? ⟨g2, ob + 2, none⟩ = some (.string ⟨UB.toArray⟩) := (HB1.out.cell HEG2.out).trans HKB.out.2.2)
        | fail)
      go_region_with (first
        | (have _ := HB3; go_at_call 267; refine (cNQ.out _).mono ?_; rintro e w4 ⟨rfl, hb4⟩; have HR4 : Hid (w4.heap[wr.heap.size]? = some (.cells #[.int .i64 0, .int .i64 0, .string ⟨#[]⟩] 50 (0, 0))) := (hb4.block _ (heap_lt HR3.out)).trans HR3.out; have HP4 : Hid (w4.heap[wr.heap.size + 1]? = some (.cells #[.int .i64 0, .int .i64 0, .string ⟨#[]⟩] 50 (0, 0))) := (hb4.block _ (heap_lt HP3.out)).trans HP3.out; have HB4 : Hid (Below wr.heap.size wr w4) := HB3.out.trans (hb4.mono HB3.out.size); clear hb4)
        | (have _ := HB2; go_at_call 267; refine (cNP.out _).mono ?_; rintro e w3 ⟨rfl, hb3⟩; have HR3 : Hid (w3.heap[wr.heap.size]? = some (.cells #[.int .i64 0, .int .i64 0, .string ⟨#[]⟩] 50 (0, 0))) := (hb3.block _ (heap_lt HR2.out)).trans HR2.out; have HP3 : Hid (w3.heap[wr.heap.size + 1]? = some (.cells #[.int .i64 0, .int .i64 0, .string ⟨#[]⟩] 50 (0, 0))) := (hb3.block _ (heap_lt HP2.out)).trans HP2.out; have HB3 : Hid (Below wr.heap.size wr w3) := HB2.out.drew.trans (hb3.mono HB2.out.size); clear hb3; have xd0 : w3.cell? ⟨g2, ob, none⟩ = some (.int .i64 KB) := (HB3.out.cell HEG2.out).trans HKB.out.1; have xd1 : w3.cell? ⟨g2, ob + 1, none⟩ = some (.int .i64 DB) := (HB3.out.cell HEG2.out).trans HKB.out.2.1; have xd2 : w3.cell? ⟨g2, ob + 2, none⟩ = some (.string ⟨UB.toArray⟩) := (HB3.out.cell HEG2.out).trans HKB.out.2.2)
        | fail)
      all_goals (
        go_wp2_with (first
          | (have _ := HT7; go_at_call 229; have HI8 : Hid (sideI M a g1 g2 bx w _ _ R1 R2 s (((w7.setCell ⟨wr.heap.size + 1, 0, none⟩ (.int .i64 K2)).setCell ⟨wr.heap.size + 1, 1, none⟩ (.int .i64 D2)).setCell ⟨wr.heap.size + 1, 2, none⟩ (.string ⟨U2.toArray⟩))) := HI.out.both (HT7.out.above3 (Nat.le_succ _) _ _ _) HO.out h1 h2 h3 h4 (winP_kept HO7.out (by simp) fun _ => box_set_ne (by have := HEG1.out; omega)) (winP_kept HQ7.out (by simp) fun _ => box_set_ne (by have := HEG2.out; omega)); refine (CT.out _ HI8.out.g HI8.out.b).mono ?_; rintro e w9 ⟨⟨v9, rfl⟩, hg9, hb9⟩)
          | (have _ := HT5; go_at_call 268; have HT6 : Hid (ButO g1 wr (((w5.setCell ⟨wr.heap.size, 0, none⟩ (.int .i64 K1)).setCell ⟨wr.heap.size, 1, none⟩ (.int .i64 D1)).setCell ⟨wr.heap.size, 2, none⟩ (.string ⟨U1.toArray⟩))) := HT5.out.above3 (Nat.le_refl _) _ _ _; have HR6 : Hid ((((w5.setCell ⟨wr.heap.size, 0, none⟩ (.int .i64 K1)).setCell ⟨wr.heap.size, 1, none⟩ (.int .i64 D1)).setCell ⟨wr.heap.size, 2, none⟩ (.string ⟨U1.toArray⟩)).heap[wr.heap.size]? = some (.cells #[.int .i64 K1, .int .i64 D1, .string ⟨U1.toArray⟩] 50 (0, 0))) := box_set HR5.out _ _ _; have HP6 : Hid ((((w5.setCell ⟨wr.heap.size, 0, none⟩ (.int .i64 K1)).setCell ⟨wr.heap.size, 1, none⟩ (.int .i64 D1)).setCell ⟨wr.heap.size, 2, none⟩ (.string ⟨U1.toArray⟩)).heap[wr.heap.size + 1]? = some (.cells #[.int .i64 0, .int .i64 0, .string ⟨#[]⟩] 50 (0, 0))) := (box_set_ne (by omega)).trans HP5.out; have HQ6 : Hid (winP (((w5.setCell ⟨wr.heap.size, 0, none⟩ (.int .i64 K1)).setCell ⟨wr.heap.size, 1, none⟩ (.int .i64 D1)).setCell ⟨wr.heap.size, 2, none⟩ (.string ⟨U1.toArray⟩)) g1 _ R1) := winP_kept HQ5.out (by simp) fun _ => box_set_ne (by have := HEG1.out; omega); refine (CC2.out _ (winP_kept HW2.out HT6.out.size fun hg => HT6.out.block g2 hg (Ne.symm HNE.out))).mono ?_; rintro e w7 ⟨v7, rfl, hw7, hb7⟩; have HQ7 : Hid (winP w7 g2 v7 R2) := hw7; have hbz : ButO g2 (((w5.setCell ⟨wr.heap.size, 0, none⟩ (.int .i64 K1)).setCell ⟨wr.heap.size, 1, none⟩ (.int .i64 D1)).setCell ⟨wr.heap.size, 2, none⟩ (.string ⟨U1.toArray⟩)) w7 := ⟨hb7.os, hb7.tape, hb7.output, hb7.size, hb7.block⟩; obtain ⟨p7, c7, rfl, _⟩ := hw7; have HO7 : Hid (winP w7 g1 _ R1) := winP_but HQ6.out hbz HNE.out; have HR7 : Hid (w7.heap[wr.heap.size]? = some (.cells #[.int .i64 K1, .int .i64 D1, .string ⟨U1.toArray⟩] 50 (0, 0))) := (hbz.block _ (heap_lt HR6.out) (by have := HEG2.out; omega)).trans HR6.out; have HP7 : Hid (w7.heap[wr.heap.size + 1]? = some (.cells #[.int .i64 0, .int .i64 0, .string ⟨#[]⟩] 50 (0, 0))) := (hbz.block _ (heap_lt HP6.out) (by have := HEG2.out; omega)).trans HP6.out; have HT7 : Hid (But2 g1 g2 wr w7) := (But2.of1 HT6.out).cut2 hbz; clear hb7 hbz; have t0 : w7.cell? ⟨wr.heap.size, 0, none⟩ = some (.int .i64 K1) := Lib.cell_of_heap HR7.out 0; have t1 : w7.cell? ⟨wr.heap.size, 1, none⟩ = some (.int .i64 D1) := Lib.cell_of_heap HR7.out 1; have t2 : w7.cell? ⟨wr.heap.size, 2, none⟩ = some (.string ⟨U1.toArray⟩) := Lib.cell_of_heap HR7.out 2; have q0 : w7.cell? ⟨wr.heap.size + 1, 0, none⟩ = some (.int .i64 0) := Lib.cell_of_heap HP7.out 0; have q1 : w7.cell? ⟨wr.heap.size + 1, 1, none⟩ = some (.int .i64 0) := Lib.cell_of_heap HP7.out 1; have q2 : w7.cell? ⟨wr.heap.size + 1, 2, none⟩ = some (.string ⟨#[]⟩) := Lib.cell_of_heap HP7.out 2; have qF0 : w7.frozen? ⟨wr.heap.size + 1, 0, none⟩ = false := frozen_of_heap HP7.out 0; have qF1 : w7.frozen? ⟨wr.heap.size + 1, 1, none⟩ = false := frozen_of_heap HP7.out 1; have qF2 : w7.frozen? ⟨wr.heap.size + 1, 2, none⟩ = false := frozen_of_heap HP7.out 2)
          | (have _ := HB4; go_at_call 268; refine (CC1.out _ (winP_kept HW1.out HB4.out.size fun hg => HB4.out.block g1 hg)).mono ?_; rintro e w5 ⟨v5, rfl, hw5, hb5⟩; have HQ5 : Hid (winP w5 g1 v5 R1) := hw5; have hbz : ButO g1 w4 w5 := ⟨hb5.os, hb5.tape, hb5.output, hb5.size, hb5.block⟩; obtain ⟨p5, c5, rfl, _⟩ := hw5; have HR5 : Hid (w5.heap[wr.heap.size]? = some (.cells #[.int .i64 0, .int .i64 0, .string ⟨#[]⟩] 50 (0, 0))) := (hbz.block _ (heap_lt HR4.out) (by have := HEG1.out; omega)).trans HR4.out; have HP5 : Hid (w5.heap[wr.heap.size + 1]? = some (.cells #[.int .i64 0, .int .i64 0, .string ⟨#[]⟩] 50 (0, 0))) := (hbz.block _ (heap_lt HP4.out) (by have := HEG1.out; omega)).trans HP4.out; have HT5 : Hid (ButO g1 wr w5) := (ButO.of HB4.out).trans hbz; clear hb5 hbz; have r0 : w5.cell? ⟨wr.heap.size, 0, none⟩ = some (.int .i64 0) := Lib.cell_of_heap HR5.out 0; have r1 : w5.cell? ⟨wr.heap.size, 1, none⟩ = some (.int .i64 0) := Lib.cell_of_heap HR5.out 1; have r2 : w5.cell? ⟨wr.heap.size, 2, none⟩ = some (.string ⟨#[]⟩) := Lib.cell_of_heap HR5.out 2; have rF0 : w5.frozen? ⟨wr.heap.size, 0, none⟩ = false := frozen_of_heap HR5.out 0; have rF1 : w5.frozen? ⟨wr.heap.size, 1, none⟩ = false := frozen_of_heap HR5.out 1; have rF2 : w5.frozen? ⟨wr.heap.size, 2, none⟩ = false := frozen_of_heap HR5.out 2)
          | fail)
        go_roundg l.length
        case measure => have := HK.out; simp only [List.length_cons] at this; omega
        case rel => exact sideR_next HS.out HI8.out HB.out HR.out hg9 hb9 HO.out h1 h2 h3 h4)
end Go.Proofs.YtedgnlgjmnccgabGreatDoor
