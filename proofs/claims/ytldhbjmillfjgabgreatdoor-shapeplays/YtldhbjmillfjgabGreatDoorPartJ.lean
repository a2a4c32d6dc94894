/-
  ops.sideBySide: the pairs of two operations, one behind the other, each taken (turn2).
  ops.sideBySide: the pairs of two operations, one behind the other, each taken (comp).
  What Transform and Compose go through side by side: ready, and how heavy (pure, and worlds).
  ops.Transform and ops.Compose.
  Operations that never cut a rune (pure): what they make, and that a least form cuts none.
  Transform and Compose of operations that never cut a rune (pure): neither do what they tell; and what these make.
-/
import Derived.Test.YtldhbjmillfjgabGreatDoorPartI
import Derived.Deep.LoopGhost
import Derived.Test.YtldhbjmillfjgabGreatDoorPartH
import Derived.Test.YtldhbjmillfjgabGreatDoorPartC
namespace Go.Proofs.YtldhbjmillfjgabGreatDoor
open Go.RowKit
set_option linter.unusedVariables false
attribute [local go_sem] Oper.semAt_some

set_option maxRecDepth 100000 in
set_option maxHeartbeats 16000000 in
theorem side_turn2 (M a g1 g2 β : Nat) (bx : List (Nat × Obj)) (v1 v2 : Value) (A0 B0 : List Pt) (l0 : List (Pt × Pt)) (s0 : NSt) (w : World) {T0 : Int} {n0 : Nat} (hI0 : sideI M a g1 g2 bx w v1 v2 A0 B0 s0 w) (hS0 : Side isPutP isPutP A0 B0 l0) (hB0 : BdS (fun x => turnP (x.2, x.1)) l0 s0 T0 n0) (ho0 : boxesOk a g1 g2 bx) (h1 : a + 4 ≤ g1) (h2 : g1 < M) (h3 : a + 4 ≤ g2) (h4 : g2 < M) (hne0 : g1 ≠ g2)
    (cT0 : ∀ (s : NSt) (x : Pt × Pt) (T : Int) (n : Nat) (W : World), gath M W a s → boxesP bx W → Bd s T n → (∀ p ∈ (fun x => turnP (x.2, x.1)) x, soundP p) → T + wts ((fun x => turnP (x.2, x.1)) x) < 1000000000 → n < 10000000 → Calls Tryz.prog 183 #[partV x.1, partV x.2, .pointer (some ⟨β, 0, none⟩)] W (tookP M a s ((fun x => turnP (x.2, x.1)) x) W)) :
    Calls Tryz.prog 177 #[v1, v2, .func (.func 179) #[] #[], .func (.func 179) #[] #[], .func (.func 183) #[] #[.pointer (some ⟨β, 0, none⟩)]] w fun e w' => (∃ v, e = .returned v) ∧ gath M w' a (runS (fun x => turnP (x.2, x.1)) l0 s0) ∧ boxesP bx w' ∧ Below a w w' := by
  obtain ⟨S, hS⟩ : ∃ S, runS (fun x => turnP (x.2, x.1)) l0 s0 = S := ⟨_, rfl⟩
  rw [hS]
  obtain ⟨t, ht⟩ : ∃ t : Pt × Pt → List Pt, t = (fun x => turnP (x.2, x.1)) := ⟨_, rfl⟩
  rw [← ht] at hB0 hS cT0
  have cT : Hid (∀ (s : NSt) (x : Pt × Pt) (T : Int) (n : Nat) (l : List (Pt × Pt)) (W : World), gath M W a s → boxesP bx W → BdS t (x :: l) s T n → Calls Tryz.prog 183 #[partV x.1, partV x.2, .pointer (some ⟨β, 0, none⟩)] W (tookP M a s (t x) W)) := fun s x T n l W hg hb hB => cT0 s x T n W hg hb hB.bd hB.head.1 hB.head.2.1 hB.head.2.2
  have hst : sideR isPutP isPutP t M a g1 g2 bx w S l0.length v1 v2 w := ⟨A0, B0, l0, s0, T0, n0, rfl, hS0, hI0, hB0, hS⟩
  have HST : Hid (sideR isPutP isPutP t M a g1 g2 bx w S l0.length v1 v2 w) := hst
  have HO : Hid (boxesOk a g1 g2 bx) := ho0
  have HNE : Hid (g1 ≠ g2) := hne0
  clear ht cT0 hI0 hS0 hB0 ho0 hS hst hne0
  go_enter Tryz.func177, Tryz.ntmps177
  go_wp2
  go_loopg [0, 1] l0.length (fun k u1 u2 wr => sideR isPutP isPutP t M a g1 g2 bx w S k u1 u2 wr)
  case atStart => exact HST.out
  case round =>
    obtain ⟨A, B, l, s, T, n, hk, hSd, hI, hB, hR⟩ := hrel
    have hwz := hI.below.size
    have HK : Hid (l.length = gk) := hk
    have HI : Hid _ := hI
    have HB : Hid _ := hB
    have HR : Hid _ := hR
    clear HST
    clear hk hB hR
    cases hSd with
    | nil =>
      obtain ⟨p1, c1, rfl, _, _, _⟩ := hI.r1
      obtain ⟨p2, c2, rfl, _, _, _⟩ := hI.r2
      clear hI
      go_wp2
      go_end0
      have hx := HI.out
      exact ⟨⟨_, rfl⟩, by rw [← HR.out]; exact hx.g, hx.b, hx.below⟩
    | left =>
      rename_i p A l hl hS'
      obtain ⟨o, c, rfl, e1, e2, eg, e3, k0, k1, k2⟩ := winP_head hI.r1
      obtain ⟨p2, c2, rfl, _, _, _⟩ := hI.r2
      have cL : Hid (∀ wx, Calls Tryz.prog 179 #[partV p] wx fun e w' => e = .returned (.bool true) ∧ Below wx.heap.size wx w') := fun wx => by
        have := isPut_any p wx
        rw [show decide (p.put ≠ []) = true from hl] at this
        exact this
      have CT : Hid (∀ W', Below wr.heap.size wr W' → Calls Tryz.prog 183 #[partV (p, noP).1, partV (p, noP).2, .pointer (some ⟨β, 0, none⟩)] W' (tookP M a s (t (p, noP)) W')) := fun W' hb => cT.out s (p, noP) T n l W' (HI.out.grow hb).g (HI.out.grow hb).b HB.out
      have HS : Hid (Side isPutP isPutP _ _ l) := hS'
      have HT : Hid (∀ W', Below wr.heap.size wr W' → _ ∧ _) := fun W' hb => sideI.tail1 HI.out hb
      obtain ⟨K, D, U⟩ := p
      simp only at k0 k1 k2
      have HKC : Hid (wr.cell? ⟨g1, o, none⟩ = some (.int .i64 K) ∧ wr.cell? ⟨g1, o + 1, none⟩ = some (.int .i64 D) ∧ wr.cell? ⟨g1, o + 2, none⟩ = some (.string ⟨U.toArray⟩)) := ⟨k0, k1, k2⟩
      have HEG : Hid (g1 < wr.heap.size) := eg
      have hi0 : (0 : Int) < (A.length : Int) + 1 := by omega
      have hi1 : (1 : Int) ≤ (A.length : Int) + 1 := by omega
      unfold noP at CT
      unfold partV at cL CT
      clear hI hS' hl
      go_wp2_with (first
        | (go_at_call 179; refine (cL.out _).mono ?_; rintro e w1 ⟨rfl, hb1⟩; obtain ⟨b1, b2, b3⟩ := two_boxes hb1; have HR1 : Hid (w1.heap[wr.heap.size]? = some (.cells #[.int .i64 0, .int .i64 0, .string ⟨#[]⟩] 50 (0, 0))) := b1; have HP1 : Hid (w1.heap[wr.heap.size + 1]? = some (.cells #[.int .i64 0, .int .i64 0, .string ⟨#[]⟩] 50 (0, 0))) := b2; have HB1 : Hid (Below wr.heap.size wr w1) := b3; clear b1 b2 b3 hb1; have r0 : w1.cell? ⟨wr.heap.size, 0, none⟩ = some (.int .i64 0) := Lib.cell_of_heap HR1.out 0; have r1 : w1.cell? ⟨wr.heap.size, 1, none⟩ = some (.int .i64 0) := Lib.cell_of_heap HR1.out 1; have r2 : w1.cell? ⟨wr.heap.size, 2, none⟩ = some (.string ⟨#[]⟩) := Lib.cell_of_heap HR1.out 2; have rF0 : w1.frozen? ⟨wr.heap.size, 0, none⟩ = false := frozen_of_heap HR1.out 0; have rF1 : w1.frozen? ⟨wr.heap.size, 1, none⟩ = false := frozen_of_heap HR1.out 1; have rF2 : w1.frozen? ⟨wr.heap.size, 2, none⟩ = false := frozen_of_heap HR1.out 2; have q0 : w1.cell? ⟨wr.heap.size + 1, 0, none⟩ = some (.int .i64 0) := Lib.cell_of_heap HP1.out 0; have q1 : w1.cell? ⟨wr.heap.size + 1, 1, none⟩ = some (.int .i64 0) := Lib.cell_of_heap HP1.out 1; have q2 : w1.cell? ⟨wr.heap.size + 1, 2, none⟩ = some (.string ⟨#[]⟩) := Lib.cell_of_heap HP1.out 2; have qF0 : w1.frozen? ⟨wr.heap.size + 1, 0, none⟩ = false := frozen_of_heap HP1.out 0; have qF1 : w1.frozen? ⟨wr.heap.size + 1, 1, none⟩ = false := frozen_of_heap HP1.out 1; have qF2 : w1.frozen? ⟨wr.heap.size + 1, 2, none⟩ = false := frozen_of_heap HP1.out 2; have x0 : w1.cell? ⟨g1, o, none⟩ = some (.int .i64 K) := (HB1.out.cell HEG.out).trans HKC.out.1; have x1 : w1.cell? ⟨g1, o + 1, none⟩ = some (.int .i64 D) := (HB1.out.cell HEG.out).trans HKC.out.2.1; have x2 : w1.cell? ⟨g1, o + 2, none⟩ = some (.string ⟨U.toArray⟩) := (HB1.out.cell HEG.out).trans HKC.out.2.2)
        | fail)
      obtain ⟨s0, s1, s2, hsz, hoth⟩ := three_set r0 r1 r2 (.int .i64 K) (.int .i64 D) (.string ⟨U.toArray⟩)
      go_region
      all_goals (go_wp2_with (first
        | (go_at_call 183; have HBW : Hid (Below wr.heap.size wr _) := ((((HB1.out.setCell (p := ⟨wr.heap.size, 0, none⟩) (Nat.le_refl _) (.int .i64 K)).setCell (p := ⟨wr.heap.size, 1, none⟩) (Nat.le_refl _) (.int .i64 D)).setCell (p := ⟨wr.heap.size, 2, none⟩) (Nat.le_refl _) (.string ⟨U.toArray⟩)).drew); refine (CT.out _ HBW.out).mono ?_; rintro e w5 ⟨⟨v5, rfl⟩, hg5, hb5⟩)
        | fail))
      · have hc1 : c = 1 := by assumption
        subst hc1
        go_roundg l.length
        case measure => have := HK.out; simp only [List.length_cons] at this; omega
        case rel => exact sideR_next HS.out ((HT.out _ HBW.out).2 rfl) HB.out HR.out hg5 hb5 HO.out h1 h2 h3 h4
      · go_roundg l.length
        case measure => have := HK.out; simp only [List.length_cons] at this; omega
        case rel => exact sideR_next HS.out (HT.out _ HBW.out).1 HB.out HR.out hg5 hb5 HO.out h1 h2 h3 h4
    | last =>
      rename_i p B l hl hS'
      obtain ⟨p2, c2, rfl, _, _, _⟩ := hI.r1
      obtain ⟨o, c, rfl, e1, e2, eg, e3, k0, k1, k2⟩ := winP_head hI.r2
      have cL : Hid (∀ wx, Calls Tryz.prog 179 #[partV p] wx fun e w' => e = .returned (.bool true) ∧ Below wx.heap.size wx w') := fun wx => by
        have := isPut_any p wx
        rw [show decide (p.put ≠ []) = true from hl] at this
        exact this
      have CT : Hid (∀ W', Below wr.heap.size wr W' → Calls Tryz.prog 183 #[partV (noP, p).1, partV (noP, p).2, .pointer (some ⟨β, 0, none⟩)] W' (tookP M a s (t (noP, p)) W')) := fun W' hb => cT.out s (noP, p) T n l W' (HI.out.grow hb).g (HI.out.grow hb).b HB.out
      have HS : Hid (Side isPutP isPutP _ _ l) := hS'
      have HT : Hid (∀ W', Below wr.heap.size wr W' → _ ∧ _) := fun W' hb => sideI.tail2 HI.out hb
      obtain ⟨K, D, U⟩ := p
      simp only at k0 k1 k2
      have HKC : Hid (wr.cell? ⟨g2, o, none⟩ = some (.int .i64 K) ∧ wr.cell? ⟨g2, o + 1, none⟩ = some (.int .i64 D) ∧ wr.cell? ⟨g2, o + 2, none⟩ = some (.string ⟨U.toArray⟩)) := ⟨k0, k1, k2⟩
      have HEG : Hid (g2 < wr.heap.size) := eg
      have hi0 : (0 : Int) < (B.length : Int) + 1 := by omega
      have hi1 : (1 : Int) ≤ (B.length : Int) + 1 := by omega
      unfold noP at CT
      unfold partV at cL CT
      clear hI hS' hl
      go_wp2_with (first
        | (go_at_call 179; refine (cL.out _).mono ?_; rintro e w1 ⟨rfl, hb1⟩; obtain ⟨b1, b2, b3⟩ := two_boxes hb1; have HR1 : Hid (w1.heap[wr.heap.size]? = some (.cells #[.int .i64 0, .int .i64 0, .string ⟨#[]⟩] 50 (0, 0))) := b1; have HP1 : Hid (w1.heap[wr.heap.size + 1]? = some (.cells #[.int .i64 0, .int .i64 0, .string ⟨#[]⟩] 50 (0, 0))) := b2; have HB1 : Hid (Below wr.heap.size wr w1) := b3; clear b1 b2 b3 hb1; have r0 : w1.cell? ⟨wr.heap.size, 0, none⟩ = some (.int .i64 0) := Lib.cell_of_heap HR1.out 0; have r1 : w1.cell? ⟨wr.heap.size, 1, none⟩ = some (.int .i64 0) := Lib.cell_of_heap HR1.out 1; have r2 : w1.cell? ⟨wr.heap.size, 2, none⟩ = some (.string ⟨#[]⟩) := Lib.cell_of_heap HR1.out 2; have rF0 : w1.frozen? ⟨wr.heap.size, 0, none⟩ = false := frozen_of_heap HR1.out 0; have rF1 : w1.frozen? ⟨wr.heap.size, 1, none⟩ = false := frozen_of_heap HR1.out 1; have rF2 : w1.frozen? ⟨wr.heap.size, 2, none⟩ = false := frozen_of_heap HR1.out 2; have q0 : w1.cell? ⟨wr.heap.size + 1, 0, none⟩ = some (.int .i64 0) := Lib.cell_of_heap HP1.out 0; have q1 : w1.cell? ⟨wr.heap.size + 1, 1, none⟩ = some (.int .i64 0) := Lib.cell_of_heap HP1.out 1; have q2 : w1.cell? ⟨wr.heap.size + 1, 2, none⟩ = some (.string ⟨#[]⟩) := Lib.cell_of_heap HP1.out 2; have qF0 : w1.frozen? ⟨wr.heap.size + 1, 0, none⟩ = false := frozen_of_heap HP1.out 0; have qF1 : w1.frozen? ⟨wr.heap.size + 1, 1, none⟩ = false := frozen_of_heap HP1.out 1; have qF2 : w1.frozen? ⟨wr.heap.size + 1, 2, none⟩ = false := frozen_of_heap HP1.out 2; have x0 : w1.cell? ⟨g2, o, none⟩ = some (.int .i64 K) := (HB1.out.cell HEG.out).trans HKC.out.1; have x1 : w1.cell? ⟨g2, o + 1, none⟩ = some (.int .i64 D) := (HB1.out.cell HEG.out).trans HKC.out.2.1; have x2 : w1.cell? ⟨g2, o + 2, none⟩ = some (.string ⟨U.toArray⟩) := (HB1.out.cell HEG.out).trans HKC.out.2.2)
        | fail)
      obtain ⟨s0, s1, s2, hsz, hoth⟩ := three_set q0 q1 q2 (.int .i64 K) (.int .i64 D) (.string ⟨U.toArray⟩)
      go_region
      all_goals (go_wp2_with (first
        | (go_at_call 183; have HBW : Hid (Below wr.heap.size wr _) := ((((HB1.out.setCell (p := ⟨wr.heap.size + 1, 0, none⟩) (Nat.le_succ _) (.int .i64 K)).setCell (p := ⟨wr.heap.size + 1, 1, none⟩) (Nat.le_succ _) (.int .i64 D)).setCell (p := ⟨wr.heap.size + 1, 2, none⟩) (Nat.le_succ _) (.string ⟨U.toArray⟩)).drew); refine (CT.out _ HBW.out).mono ?_; rintro e w5 ⟨⟨v5, rfl⟩, hg5, hb5⟩)
        | fail))
      · have hc1 : c = 1 := by assumption
        subst hc1
        go_roundg l.length
        case measure => have := HK.out; simp only [List.length_cons] at this; omega
        case rel => exact sideR_next HS.out ((HT.out _ HBW.out).2 rfl) HB.out HR.out hg5 hb5 HO.out h1 h2 h3 h4
      · go_roundg l.length
        case measure => have := HK.out; simp only [List.length_cons] at this; omega
        case rel => exact sideR_next HS.out (HT.out _ HBW.out).1 HB.out HR.out hg5 hb5 HO.out h1 h2 h3 h4
    | right =>
      rename_i pa p A B l hla hl hS'
      obtain ⟨oa, ca, rfl, ea1, ea2, eag, ea3, ka0, ka1, ka2⟩ := winP_head hI.r1
      obtain ⟨o, c, rfl, e1, e2, eg, e3, k0, k1, k2⟩ := winP_head hI.r2
      have cLA : Hid (∀ wx, Calls Tryz.prog 179 #[partV pa] wx fun e w' => e = .returned (.bool false) ∧ Below wx.heap.size wx w') := fun wx => by
        have := isPut_any pa wx
        rw [show decide (pa.put ≠ []) = false from hla] at this
        exact this
      have cL : Hid (∀ wx, Calls Tryz.prog 179 #[partV p] wx fun e w' => e = .returned (.bool true) ∧ Below wx.heap.size wx w') := fun wx => by
        have := isPut_any p wx
        rw [show decide (p.put ≠ []) = true from hl] at this
        exact this
      have CT : Hid (∀ W', Below wr.heap.size wr W' → Calls Tryz.prog 183 #[partV (noP, p).1, partV (noP, p).2, .pointer (some ⟨β, 0, none⟩)] W' (tookP M a s (t (noP, p)) W')) := fun W' hb => cT.out s (noP, p) T n l W' (HI.out.grow hb).g (HI.out.grow hb).b HB.out
      have HS : Hid (Side isPutP isPutP _ _ l) := hS'
      have HT : Hid (∀ W', Below wr.heap.size wr W' → _ ∧ _) := fun W' hb => sideI.tail2 HI.out hb
      obtain ⟨KA, DA, UA⟩ := pa
      simp only at ka0 ka1 ka2
      have HKA : Hid (wr.cell? ⟨g1, oa, none⟩ = some (.int .i64 KA) ∧ wr.cell? ⟨g1, oa + 1, none⟩ = some (.int .i64 DA) ∧ wr.cell? ⟨g1, oa + 2, none⟩ = some (.string ⟨UA.toArray⟩)) := ⟨ka0, ka1, ka2⟩
      have hia : (0 : Int) < (A.length : Int) + 1 := by omega
      unfold partV at cLA
      obtain ⟨K, D, U⟩ := p
      simp only at k0 k1 k2
      have HKC : Hid (wr.cell? ⟨g2, o, none⟩ = some (.int .i64 K) ∧ wr.cell? ⟨g2, o + 1, none⟩ = some (.int .i64 D) ∧ wr.cell? ⟨g2, o + 2, none⟩ = some (.string ⟨U.toArray⟩)) := ⟨k0, k1, k2⟩
      have HEG : Hid (g2 < wr.heap.size) := eg
      have hi0 : (0 : Int) < (B.length : Int) + 1 := by omega
      have hi1 : (1 : Int) ≤ (B.length : Int) + 1 := by omega
      unfold noP at CT
      unfold partV at cL CT
      clear hI hS' hl hla
      go_wp2_with (first
        | (have _ := HB1; go_at_call 179; refine (cL.out _).mono ?_; rintro e w2 ⟨rfl, hb2⟩; have HR2 : Hid (w2.heap[wr.heap.size]? = some (.cells #[.int .i64 0, .int .i64 0, .string ⟨#[]⟩] 50 (0, 0))) := (hb2.block _ (heap_lt HR1.out)).trans HR1.out; have HP2 : Hid (w2.heap[wr.heap.size + 1]? = some (.cells #[.int .i64 0, .int .i64 0, .string ⟨#[]⟩] 50 (0, 0))) := (hb2.block _ (heap_lt HP1.out)).trans HP1.out; have HB2 : Hid (Below wr.heap.size wr w2) := HB1.out.trans (hb2.mono HB1.out.size); clear hb2; have r0 : w2.cell? ⟨wr.heap.size, 0, none⟩ = some (.int .i64 0) := Lib.cell_of_heap HR2.out 0; have r1 : w2.cell? ⟨wr.heap.size, 1, none⟩ = some (.int .i64 0) := Lib.cell_of_heap HR2.out 1; have r2 : w2.cell? ⟨wr.heap.size, 2, none⟩ = some (.string ⟨#[]⟩) := Lib.cell_of_heap HR2.out 2; have rF0 : w2.frozen? ⟨wr.heap.size, 0, none⟩ = false := frozen_of_heap HR2.out 0; have rF1 : w2.frozen? ⟨wr.heap.size, 1, none⟩ = false := frozen_of_heap HR2.out 1; have rF2 : w2.frozen? ⟨wr.heap.size, 2, none⟩ = false := frozen_of_heap HR2.out 2; have q0 : w2.cell? ⟨wr.heap.size + 1, 0, none⟩ = some (.int .i64 0) := Lib.cell_of_heap HP2.out 0; have q1 : w2.cell? ⟨wr.heap.size + 1, 1, none⟩ = some (.int .i64 0) := Lib.cell_of_heap HP2.out 1; have q2 : w2.cell? ⟨wr.heap.size + 1, 2, none⟩ = some (.string ⟨#[]⟩) := Lib.cell_of_heap HP2.out 2; have qF0 : w2.frozen? ⟨wr.heap.size + 1, 0, none⟩ = false := frozen_of_heap HP2.out 0; have qF1 : w2.frozen? ⟨wr.heap.size + 1, 1, none⟩ = false := frozen_of_heap HP2.out 1; have qF2 : w2.frozen? ⟨wr.heap.size + 1, 2, none⟩ = false := frozen_of_heap HP2.out 2; have x0 : w2.cell? ⟨g2, o, none⟩ = some (.int .i64 K) := (HB2.out.cell HEG.out).trans HKC.out.1; have x1 : w2.cell? ⟨g2, o + 1, none⟩ = some (.int .i64 D) := (HB2.out.cell HEG.out).trans HKC.out.2.1; have x2 : w2.cell? ⟨g2, o + 2, none⟩ = some (.string ⟨U.toArray⟩) := (HB2.out.cell HEG.out).trans HKC.out.2.2)
        | (go_at_call 179; refine (cLA.out _).mono ?_; rintro e w1 ⟨rfl, hb1⟩; obtain ⟨b1, b2, b3⟩ := two_boxes hb1; have HR1 : Hid (w1.heap[wr.heap.size]? = some (.cells #[.int .i64 0, .int .i64 0, .string ⟨#[]⟩] 50 (0, 0))) := b1; have HP1 : Hid (w1.heap[wr.heap.size + 1]? = some (.cells #[.int .i64 0, .int .i64 0, .string ⟨#[]⟩] 50 (0, 0))) := b2; have HB1 : Hid (Below wr.heap.size wr w1) := b3; clear b1 b2 b3 hb1; have x0 : w1.cell? ⟨g2, o, none⟩ = some (.int .i64 K) := (HB1.out.cell HEG.out).trans HKC.out.1; have x1 : w1.cell? ⟨g2, o + 1, none⟩ = some (.int .i64 D) := (HB1.out.cell HEG.out).trans HKC.out.2.1; have x2 : w1.cell? ⟨g2, o + 2, none⟩ = some (.string ⟨U.toArray⟩) := (HB1.out.cell HEG.out).trans HKC.out.2.2)
        | fail)
      obtain ⟨s0, s1, s2, hsz, hoth⟩ := three_set q0 q1 q2 (.int .i64 K) (.int .i64 D) (.string ⟨U.toArray⟩)
      go_region
      all_goals (go_wp2_with (first
        | (go_at_call 183; have HBW : Hid (Below wr.heap.size wr _) := ((((HB2.out.setCell (p := ⟨wr.heap.size + 1, 0, none⟩) (Nat.le_succ _) (.int .i64 K)).setCell (p := ⟨wr.heap.size + 1, 1, none⟩) (Nat.le_succ _) (.int .i64 D)).setCell (p := ⟨wr.heap.size + 1, 2, none⟩) (Nat.le_succ _) (.string ⟨U.toArray⟩)).drew); refine (CT.out _ HBW.out).mono ?_; rintro e w5 ⟨⟨v5, rfl⟩, hg5, hb5⟩)
        | fail))
      · have hc1 : c = 1 := by assumption
        subst hc1
        go_roundg l.length
        case measure => have := HK.out; simp only [List.length_cons] at this; omega
        case rel => exact sideR_next HS.out ((HT.out _ HBW.out).2 rfl) HB.out HR.out hg5 hb5 HO.out h1 h2 h3 h4
      · go_roundg l.length
        case measure => have := HK.out; simp only [List.length_cons] at this; omega
        case rel => exact sideR_next HS.out (HT.out _ HBW.out).1 HB.out HR.out hg5 hb5 HO.out h1 h2 h3 h4
    | both =>
      rename_i p q A B l m hla hlb o1 o2 m0 hm b1 b2 hS'
      obtain ⟨oa, ca, rfl, ea1, ea2, eag, ea3, ka0, ka1, ka2⟩ := winP_head hI.r1
      obtain ⟨ob, cb, rfl, eb1, eb2, ebg, eb3, kb0, kb1, kb2⟩ := winP_head hI.r2
      have hlp := length_pos o1
      have hlq := length_pos o2
      have cLA : Hid (∀ wx, Calls Tryz.prog 179 #[partV p] wx fun e w' => e = .returned (.bool false) ∧ Below wx.heap.size wx w') := fun wx => by
        have := isPut_any p wx
        rw [show decide (p.put ≠ []) = false from hla] at this
        exact this
      have cLB : Hid (∀ wx, Calls Tryz.prog 179 #[partV q] wx fun e w' => e = .returned (.bool false) ∧ Below wx.heap.size wx w') := fun wx => by
        have := isPut_any q wx
        rw [show decide (q.put ≠ []) = false from hlb] at this
        exact this
      have cNP : Hid (∀ wx, Calls Tryz.prog 200 #[partV p] wx fun e w' => e = .returned (.int .i64 (lengthP p)) ∧ Below wx.heap.size wx w') := fun wx => length_any p wx (by rcases o1 with ⟨h1, h2, h3⟩ | ⟨h1, h2, h3⟩ | ⟨h1, h2, h3⟩ <;> exact ⟨by omega, by omega⟩) (by unfold lengthP at b1; omega)
      have cNQ : Hid (∀ wx, Calls Tryz.prog 200 #[partV q] wx fun e w' => e = .returned (.int .i64 (lengthP q)) ∧ Below wx.heap.size wx w') := fun wx => length_any q wx (by rcases o2 with ⟨h1, h2, h3⟩ | ⟨h1, h2, h3⟩ | ⟨h1, h2, h3⟩ <;> exact ⟨by omega, by omega⟩) (by unfold lengthP at b2; omega)
      have CC1 : Hid (∀ W', winP W' g1 (.slice (some ⟨g1, oa, none⟩) (A.length + 1) ca) (p :: A) → Calls Tryz.prog 201 #[.slice (some ⟨g1, oa, none⟩) (A.length + 1) ca, .int .i64 m] W' fun e w' => ∃ v', e = .returned (.tuple #[partV (cutP p m).1, v']) ∧ winP w' g1 v' ((cutP p m).2 ++ A) ∧ ButO g1 W' w') := fun W' h => cut_any g1 _ p A m W' h o1 m0 (by omega) b1
      have CC2 : Hid (∀ W', winP W' g2 (.slice (some ⟨g2, ob, none⟩) (B.length + 1) cb) (q :: B) → Calls Tryz.prog 201 #[.slice (some ⟨g2, ob, none⟩) (B.length + 1) cb, .int .i64 m] W' fun e w' => ∃ v', e = .returned (.tuple #[partV (cutP q m).1, v']) ∧ winP w' g2 v' ((cutP q m).2 ++ B) ∧ ButO g2 W' w') := fun W' h => cut_any g2 _ q B m W' h o2 m0 (by omega) b2
      have CT : Hid (∀ W', gath M W' a s → boxesP bx W' → Calls Tryz.prog 183 #[partV (cutP p m).1, partV (cutP q m).1, .pointer (some ⟨β, 0, none⟩)] W' (tookP M a s (t ((cutP p m).1, (cutP q m).1)) W')) := fun W' hg hb => cT.out s ((cutP p m).1, (cutP q m).1) T n l W' hg hb HB.out
      have HS : Hid (Side isPutP isPutP ((cutP p m).2 ++ A) ((cutP q m).2 ++ B) l) := hS'
      have hm1 : (m : Int) < 1000000000 := by omega
      clear hS' hla hlb o1 o2 hlp hlq b1 b2
      generalize lengthP p = LP at *
      generalize lengthP q = LQ at *
      obtain ⟨R1, hR1⟩ : ∃ R, (cutP p m).2 ++ A = R := ⟨_, rfl⟩
      obtain ⟨R2, hR2⟩ : ∃ R, (cutP q m).2 ++ B = R := ⟨_, rfl⟩
      obtain ⟨x1, hx1⟩ : ∃ x, (cutP p m).1 = x := ⟨_, rfl⟩
      obtain ⟨x2, hx2⟩ : ∃ x, (cutP q m).1 = x := ⟨_, rfl⟩
      rw [hR1, hx1] at CC1
      rw [hR2, hx2] at CC2
      rw [hx1, hx2] at CT HB HR
      rw [hR1, hR2] at HS
      rw [hx1, hx2] at HK
      clear hR1 hR2 hx1 hx2
      obtain ⟨K1, D1, U1⟩ := x1
      obtain ⟨K2, D2, U2⟩ := x2
      have HW1 : Hid (winP wr g1 (.slice (some ⟨g1, oa, none⟩) (A.length + 1) ca) (p :: A)) := hI.r1
      have HW2 : Hid (winP wr g2 (.slice (some ⟨g2, ob, none⟩) (B.length + 1) cb) (q :: B)) := hI.r2
      have HEG1 : Hid (g1 < wr.heap.size) := eag
      have HEG2 : Hid (g2 < wr.heap.size) := ebg
      obtain ⟨KA, DA, UA⟩ := p
      obtain ⟨KB, DB, UB⟩ := q
      simp only at ka0 ka1 ka2 kb0 kb1 kb2
      have HKA : Hid (wr.cell? ⟨g1, oa, none⟩ = some (.int .i64 KA) ∧ wr.cell? ⟨g1, oa + 1, none⟩ = some (.int .i64 DA) ∧ wr.cell? ⟨g1, oa + 2, none⟩ = some (.string ⟨UA.toArray⟩)) := ⟨ka0, ka1, ka2⟩
      have HKB : Hid (wr.cell? ⟨g2, ob, none⟩ = some (.int .i64 KB) ∧ wr.cell? ⟨g2, ob + 1, none⟩ = some (.int .i64 DB) ∧ wr.cell? ⟨g2, ob + 2, none⟩ = some (.string ⟨UB.toArray⟩)) := ⟨kb0, kb1, kb2⟩
      have hia : (0 : Int) < (A.length : Int) + 1 := by omega
      have hib : (0 : Int) < (B.length : Int) + 1 := by omega
      unfold partV at cLA cLB cNP cNQ CC1 CC2 CT
      clear hI ea3 eb3
      go_wp2_with (first
        | (have _ := HB1; go_at_call 179; refine (cLB.out _).mono ?_; rintro e w2 ⟨rfl, hb2⟩; have HR2 : Hid (w2.heap[wr.heap.size]? = some (.cells #[.int .i64 0, .int .i64 0, .string ⟨#[]⟩] 50 (0, 0))) := (hb2.block _ (heap_lt HR1.out)).trans HR1.out; have HP2 : Hid (w2.heap[wr.heap.size + 1]? = some (.cells #[.int .i64 0, .int .i64 0, .string ⟨#[]⟩] 50 (0, 0))) := (hb2.block _ (heap_lt HP1.out)).trans HP1.out; have HB2 : Hid (Below wr.heap.size wr w2) := HB1.out.trans (hb2.mono HB1.out.size); clear hb2; have xa0 : w2.cell? ⟨g1, oa, none⟩ = some (.int .i64 KA) := (HB2.out.cell HEG1.out).trans HKA.out.1; have xa1 : w2.cell? ⟨g1, oa + 1, none⟩ = some (.int .i64 DA) := (HB2.out.cell HEG1.out).trans HKA.out.2.1; have xa2 : w2.cell? ⟨g1, oa + 2, none⟩ = some (.string ⟨UA.toArray⟩) := (HB2.out.cell HEG1.out).trans HKA.out.2.2; have xc0 : w2.cell? ⟨g2, ob, none⟩ = some (.int .i64 KB) := (HB2.out.cell HEG2.out).trans HKB.out.1; have xc1 : w2.cell? ⟨g2, ob + 1, none⟩ = some (.int .i64 DB) := (HB2.out.cell HEG2.out).trans HKB.out.2.1; have xc2 : w2.cell? ⟨g2, ob + 2, none⟩ = some (.string ⟨UB.toArray⟩) := (HB2.out.cell HEG2.out).trans HKB.out.2.2)
        | (go_at_call 179; refine (cLA.out _).mono ?_; rintro e w1 ⟨rfl, hb1⟩; obtain ⟨y1, y2, y3⟩ := two_boxes hb1; have HR1 : Hid (w1.heap[wr.heap.size]? = some (.cells #[.int .i64 0, .int .i64 0, .string ⟨#[]⟩] 50 (0, 0))) := y1; have HP1 : Hid (w1.heap[wr.heap.size + 1]? = some (.cells #[.int .i64 0, .int .i64 0, .string ⟨#[]⟩] 50 (0, 0))) := y2; have HB1 : Hid (Below wr.heap.size wr w1) := y3; clear y1 y2 y3 hb1; have xb0 : w1.cell? ⟨g2, ob, none⟩ = some (.int .i64 KB) := (HB1.out.cell HEG2.out).trans HKB.out.1; have xb1 : w1.cell? ⟨g2, ob + 1, none⟩ = some (.int .i64 DB) := (HB1.out.cell HEG2.out).trans HKB.out.2.1; have xb2 : w1.cell? ⟨g2, ob + 2, none⟩ = some (.string ⟨UB.toArray⟩) := (HB1.out.cell HEG2.out).trans HKB.out.2.2)
        | fail)
      go_region_with (first
        | (have _ := HB3; go_at_call 200; refine (cNQ.out _).mono ?_; rintro e w4 ⟨rfl, hb4⟩; have HR4 : Hid (w4.heap[wr.heap.size]? = some (.cells #[.int .i64 0, .int .i64 0, .string ⟨#[]⟩] 50 (0, 0))) := (hb4.block _ (heap_lt HR3.out)).trans HR3.out; have HP4 : Hid (w4.heap[wr.heap.size + 1]? = some (.cells #[.int .i64 0, .int .i64 0, .string ⟨#[]⟩] 50 (0, 0))) := (hb4.block _ (heap_lt HP3.out)).trans HP3.out; have HB4 : Hid (Below wr.heap.size wr w4) := HB3.out.trans (hb4.mono HB3.out.size); clear hb4)
        | (have _ := HB2; go_at_call 200; refine (cNP.out _).mono ?_; rintro e w3 ⟨rfl, hb3⟩; have HR3 : Hid (w3.heap[wr.heap.size]? = some (.cells #[.int .i64 0, .int .i64 0, .string ⟨#[]⟩] 50 (0, 0))) := (hb3.block _ (heap_lt HR2.out)).trans HR2.out; have HP3 : Hid (w3.heap[wr.heap.size + 1]? = some (.cells #[.int .i64 0, .int .i64 0, .string ⟨#[]⟩] 50 (0, 0))) := (hb3.block _ (heap_lt HP2.out)).trans HP2.out; have HB3 : Hid (Below wr.heap.size wr w3) := HB2.out.drew.trans (hb3.mono HB2.out.size); clear hb3; have xd0 : w3.cell? ⟨g2, ob, none⟩ = some (.int .i64 KB) := (HB3.out.cell HEG2.out).trans HKB.out.1; have xd1 : w3.cell? ⟨g2, ob + 1, none⟩ = some (.int .i64 DB) := (HB3.out.cell HEG2.out).trans HKB.out.2.1; have xd2 : w3.cell? ⟨g2, ob + 2, none⟩ = some (.string ⟨UB.toArray⟩) := (HB3.out.cell HEG2.out).trans HKB.out.2.2)
        | fail)
      all_goals (
        go_wp2_with (first
          | (have _ := HT7; go_at_call 183; have HI8 : Hid (sideI M a g1 g2 bx w _ _ R1 R2 s (((w7.setCell ⟨wr.heap.size + 1, 0, none⟩ (.int .i64 K2)).setCell ⟨wr.heap.size + 1, 1, none⟩ (.int .i64 D2)).setCell ⟨wr.heap.size + 1, 2, none⟩ (.string ⟨U2.toArray⟩))) := HI.out.both (HT7.out.above3 (Nat.le_succ _) _ _ _) HO.out h1 h2 h3 h4 (winP_kept HO7.out (by simp) fun _ => box_set_ne (by have := HEG1.out; omega)) (winP_kept HQ7.out (by simp) fun _ => box_set_ne (by have := HEG2.out; omega)); refine (CT.out _ HI8.out.g HI8.out.b).mono ?_; rintro e w9 ⟨⟨v9, rfl⟩, hg9, hb9⟩)
          | (have _ := HT5; go_at_call 201; have HT6 : Hid (ButO g1 wr (((w5.setCell ⟨wr.heap.size, 0, none⟩ (.int .i64 K1)).setCell ⟨wr.heap.size, 1, none⟩ (.int .i64 D1)).setCell ⟨wr.heap.size, 2, none⟩ (.string ⟨U1.toArray⟩))) := HT5.out.above3 (Nat.le_refl _) _ _ _; have HR6 : Hid ((((w5.setCell ⟨wr.heap.size, 0, none⟩ (.int .i64 K1)).setCell ⟨wr.heap.size, 1, none⟩ (.int .i64 D1)).setCell ⟨wr.heap.size, 2, none⟩ (.string ⟨U1.toArray⟩)).heap[wr.heap.size]? = some (.cells #[.int .i64 K1, .int .i64 D1, .string ⟨U1.toArray⟩] 50 (0, 0))) := box_set HR5.out _ _ _; have HP6 : Hid ((((w5.setCell ⟨wr.heap.size, 0, none⟩ (.int .i64 K1)).setCell ⟨wr.heap.size, 1, none⟩ (.int .i64 D1)).setCell ⟨wr.heap.size, 2, none⟩ (.string ⟨U1.toArray⟩)).heap[wr.heap.size + 1]? = some (.cells #[.int .i64 0, .int .i64 0, .string ⟨#[]⟩] 50 (0, 0))) := (box_set_ne (by omega)).trans HP5.out; have HQ6 : Hid (winP (((w5.setCell ⟨wr.heap.size, 0, none⟩ (.int .i64 K1)).setCell ⟨wr.heap.size, 1, none⟩ (.int .i64 D1)).setCell ⟨wr.heap.size, 2, none⟩ (.string ⟨U1.toArray⟩)) g1 _ R1) := winP_kept HQ5.out (by simp) fun _ => box_set_ne (by have := HEG1.out; omega); refine (CC2.out _ (winP_kept HW2.out HT6.out.size fun hg => HT6.out.block g2 hg (Ne.symm HNE.out))).mono ?_; rintro e w7 ⟨v7, rfl, hw7, hb7⟩; have HQ7 : Hid (winP w7 g2 v7 R2) := hw7; have hbz : ButO g2 (((w5.setCell ⟨wr.heap.size, 0, none⟩ (.int .i64 K1)).setCell ⟨wr.heap.size, 1, none⟩ (.int .i64 D1)).setCell ⟨wr.heap.size, 2, none⟩ (.string ⟨U1.toArray⟩)) w7 := ⟨hb7.os, hb7.tape, hb7.output, hb7.size, hb7.block⟩; obtain ⟨p7, c7, rfl, _⟩ := hw7; have HO7 : Hid (winP w7 g1 _ R1) := winP_but HQ6.out hbz HNE.out; have HR7 : Hid (w7.heap[wr.heap.size]? = some (.cells #[.int .i64 K1, .int .i64 D1, .string ⟨U1.toArray⟩] 50 (0, 0))) := (hbz.block _ (heap_lt HR6.out) (by have := HEG2.out; omega)).trans HR6.out; have HP7 : Hid (w7.heap[wr.heap.size + 1]? = some (.cells #[.int .i64 0, .int .i64 0, .string ⟨#[]⟩] 50 (0, 0))) := (hbz.block _ (heap_lt HP6.out) (by have := HEG2.out; omega)).trans HP6.out; have HT7 : Hid (But2 g1 g2 wr w7) := (But2.of1 HT6.out).cut2 hbz; clear hb7 hbz; have t0 : w7.cell? ⟨wr.heap.size, 0, none⟩ = some (.int .i64 K1) := Lib.cell_of_heap HR7.out 0; have t1 : w7.cell? ⟨wr.heap.size, 1, none⟩ = some (.int .i64 D1) := Lib.cell_of_heap HR7.out 1; have t2 : w7.cell? ⟨wr.heap.size, 2, none⟩ = some (.string ⟨U1.toArray⟩) := Lib.cell_of_heap HR7.out 2; have q0 : w7.cell? ⟨wr.heap.size + 1, 0, none⟩ = some (.int .i64 0) := Lib.cell_of_heap HP7.out 0; have q1 : w7.cell? ⟨wr.heap.size + 1, 1, none⟩ = some (.int .i64 0) := Lib.cell_of_heap HP7.out 1; have q2 : w7.cell? ⟨wr.heap.size + 1, 2, none⟩ = some (.string ⟨#[]⟩) := Lib.cell_of_heap HP7.out 2; have qF0 : w7.frozen? ⟨wr.heap.size + 1, 0, none⟩ = false := frozen_of_heap HP7.out 0; have qF1 : w7.frozen? ⟨wr.heap.size + 1, 1, none⟩ = false := frozen_of_heap HP7.out 1; have qF2 : w7.frozen? ⟨wr.heap.size + 1, 2, none⟩ = false := frozen_of_heap HP7.out 2)
          | (have _ := HB4; go_at_call 201; refine (CC1.out _ (winP_kept HW1.out HB4.out.size fun hg => HB4.out.block g1 hg)).mono ?_; rintro e w5 ⟨v5, rfl, hw5, hb5⟩; have HQ5 : Hid (winP w5 g1 v5 R1) := hw5; have hbz : ButO g1 w4 w5 := ⟨hb5.os, hb5.tape, hb5.output, hb5.size, hb5.block⟩; obtain ⟨p5, c5, rfl, _⟩ := hw5; have HR5 : Hid (w5.heap[wr.heap.size]? = some (.cells #[.int .i64 0, .int .i64 0, .string ⟨#[]⟩] 50 (0, 0))) := (hbz.block _ (heap_lt HR4.out) (by have := HEG1.out; omega)).trans HR4.out; have HP5 : Hid (w5.heap[wr.heap.size + 1]? = some (.cells #[.int .i64 0, .int .i64 0, .string ⟨#[]⟩] 50 (0, 0))) := (hbz.block _ (heap_lt HP4.out) (by have := HEG1.out; omega)).trans HP4.out; have HT5 : Hid (ButO g1 wr w5) := (ButO.of HB4.out).trans hbz; clear hb5 hbz; have r0 : w5.cell? ⟨wr.heap.size, 0, none⟩ = some (.int .i64 0) := Lib.cell_of_heap HR5.out 0; have r1 : w5.cell? ⟨wr.heap.size, 1, none⟩ = some (.int .i64 0) := Lib.cell_of_heap HR5.out 1; have r2 : w5.cell? ⟨wr.heap.size, 2, none⟩ = some (.string ⟨#[]⟩) := Lib.cell_of_heap HR5.out 2; have rF0 : w5.frozen? ⟨wr.heap.size, 0, none⟩ = false := frozen_of_heap HR5.out 0; have rF1 : w5.frozen? ⟨wr.heap.size, 1, none⟩ = false := frozen_of_heap HR5.out 1; have rF2 : w5.frozen? ⟨wr.heap.size, 2, none⟩ = false := frozen_of_heap HR5.out 2)
          | fail)
        go_roundg l.length
        case measure => have := HK.out; simp only [List.length_cons] at this; omega
        case rel => exact sideR_next HS.out HI8.out HB.out HR.out hg9 hb9 HO.out h1 h2 h3 h4)
end Go.Proofs.YtldhbjmillfjgabGreatDoor

namespace Go.Proofs.YtldhbjmillfjgabGreatDoor
open Go.RowKit
set_option linter.unusedVariables false
attribute [local go_sem] Oper.semAt_some

set_option maxRecDepth 100000 in
set_option maxHeartbeats 16000000 in
theorem side_comp (M a g1 g2 β : Nat) (bx : List (Nat × Obj)) (v1 v2 : Value) (A0 B0 : List Pt) (l0 : List (Pt × Pt)) (s0 : NSt) (w : World) {T0 : Int} {n0 : Nat} (hI0 : sideI M a g1 g2 bx w v1 v2 A0 B0 s0 w) (hS0 : Side isDropP isPutP A0 B0 l0) (hB0 : BdS compP l0 s0 T0 n0) (ho0 : boxesOk a g1 g2 bx) (h1 : a + 4 ≤ g1) (h2 : g1 < M) (h3 : a + 4 ≤ g2) (h4 : g2 < M) (hne0 : g1 ≠ g2)
    (cT0 : ∀ (s : NSt) (x : Pt × Pt) (T : Int) (n : Nat) (W : World), gath M W a s → boxesP bx W → Bd s T n → (∀ p ∈ compP x, soundP p) → T + wts (compP x) < 1000000000 → n < 10000000 → Calls Tryz.prog 180 #[partV x.1, partV x.2, .pointer (some ⟨β, 0, none⟩)] W (tookP M a s (compP x) W)) :
    Calls Tryz.prog 177 #[v1, v2, .func (.func 165) #[] #[], .func (.func 179) #[] #[], .func (.func 180) #[] #[.pointer (some ⟨β, 0, none⟩)]] w fun e w' => (∃ v, e = .returned v) ∧ gath M w' a (runS compP l0 s0) ∧ boxesP bx w' ∧ Below a w w' := by
  obtain ⟨S, hS⟩ : ∃ S, runS compP l0 s0 = S := ⟨_, rfl⟩
  rw [hS]
  obtain ⟨t, ht⟩ : ∃ t : Pt × Pt → List Pt, t = compP := ⟨_, rfl⟩
  rw [← ht] at hB0 hS cT0
  have cT : Hid (∀ (s : NSt) (x : Pt × Pt) (T : Int) (n : Nat) (l : List (Pt × Pt)) (W : World), gath M W a s → boxesP bx W → BdS t (x :: l) s T n → Calls Tryz.prog 180 #[partV x.1, partV x.2, .pointer (some ⟨β, 0, none⟩)] W (tookP M a s (t x) W)) := fun s x T n l W hg hb hB => cT0 s x T n W hg hb hB.bd hB.head.1 hB.head.2.1 hB.head.2.2
  have hst : sideR isDropP isPutP t M a g1 g2 bx w S l0.length v1 v2 w := ⟨A0, B0, l0, s0, T0, n0, rfl, hS0, hI0, hB0, hS⟩
  have HST : Hid (sideR isDropP isPutP t M a g1 g2 bx w S l0.length v1 v2 w) := hst
  have HO : Hid (boxesOk a g1 g2 bx) := ho0
  have HNE : Hid (g1 ≠ g2) := hne0
  clear ht cT0 hI0 hS0 hB0 ho0 hS hst hne0
  go_enter Tryz.func177, Tryz.ntmps177
  go_wp2
  go_loopg [0, 1] l0.length (fun k u1 u2 wr => sideR isDropP isPutP t M a g1 g2 bx w S k u1 u2 wr)
  case atStart => exact HST.out
  case round =>
    obtain ⟨A, B, l, s, T, n, hk, hSd, hI, hB, hR⟩ := hrel
    have hwz := hI.below.size
    have HK : Hid (l.length = gk) := hk
    have HI : Hid _ := hI
    have HB : Hid _ := hB
    have HR : Hid _ := hR
    clear HST
    clear hk hB hR
    cases hSd with
    | nil =>
      obtain ⟨p1, c1, rfl, _, _, _⟩ := hI.r1
      obtain ⟨p2, c2, rfl, _, _, _⟩ := hI.r2
      clear hI
      go_wp2
      go_end0
      have hx := HI.out
      exact ⟨⟨_, rfl⟩, by rw [← HR.out]; exact hx.g, hx.b, hx.below⟩
    | left =>
      rename_i p A l hl hS'
      obtain ⟨o, c, rfl, e1, e2, eg, e3, k0, k1, k2⟩ := winP_head hI.r1
      obtain ⟨p2, c2, rfl, _, _, _⟩ := hI.r2
      have cL : Hid (∀ wx, Calls Tryz.prog 165 #[partV p] wx fun e w' => e = .returned (.bool true) ∧ Below wx.heap.size wx w') := fun wx => by
        have := isDrop_any p wx
        rw [show decide (0 < p.drop) = true from hl] at this
        exact this
      have CT : Hid (∀ W', Below wr.heap.size wr W' → Calls Tryz.prog 180 #[partV (p, noP).1, partV (p, noP).2, .pointer (some ⟨β, 0, none⟩)] W' (tookP M a s (t (p, noP)) W')) := fun W' hb => cT.out s (p, noP) T n l W' (HI.out.grow hb).g (HI.out.grow hb).b HB.out
      have HS : Hid (Side isDropP isPutP _ _ l) := hS'
      have HT : Hid (∀ W', Below wr.heap.size wr W' → _ ∧ _) := fun W' hb => sideI.tail1 HI.out hb
      obtain ⟨K, D, U⟩ := p
      simp only at k0 k1 k2
      have HKC : Hid (wr.cell? ⟨g1, o, none⟩ = some (.int .i64 K) ∧ wr.cell? ⟨g1, o + 1, none⟩ = some (.int .i64 D) ∧ wr.cell? ⟨g1, o + 2, none⟩ = some (.string ⟨U.toArray⟩)) := ⟨k0, k1, k2⟩
      have HEG : Hid (g1 < wr.heap.size) := eg
      have hi0 : (0 : Int) < (A.length : Int) + 1 := by omega
      have hi1 : (1 : Int) ≤ (A.length : Int) + 1 := by omega
      unfold noP at CT
      unfold partV at cL CT
      clear hI hS' hl
      go_wp2_with (first
        | (go_at_call 165; refine (cL.out _).mono ?_; rintro e w1 ⟨rfl, hb1⟩; obtain ⟨b1, b2, b3⟩ := two_boxes hb1; have HR1 : Hid (w1.heap[wr.heap.size]? = some (.cells #[.int .i64 0, .int .i64 0, .string ⟨#[]⟩] 50 (0, 0))) := b1; have HP1 : Hid (w1.heap[wr.heap.size + 1]? = some (.cells #[.int .i64 0, .int .i64 0, .string ⟨#[]⟩] 50 (0, 0))) := b2; have HB1 : Hid (Below wr.heap.size wr w1) := b3; clear b1 b2 b3 hb1; have r0 : w1.cell? ⟨wr.heap.size, 0, none⟩ = some (.int .i64 0) := Lib.cell_of_heap HR1.out 0; have r1 : w1.cell? ⟨wr.heap.size, 1, none⟩ = some (.int .i64 0) := Lib.cell_of_heap HR1.out 1; have r2 : w1.cell? ⟨wr.heap.size, 2, none⟩ = some (.string ⟨#[]⟩) := Lib.cell_of_heap HR1.out 2; have rF0 : w1.frozen? ⟨wr.heap.size, 0, none⟩ = false := frozen_of_heap HR1.out 0; have rF1 : w1.frozen? ⟨wr.heap.size, 1, none⟩ = false := frozen_of_heap HR1.out 1; have rF2 : w1.frozen? ⟨wr.heap.size, 2, none⟩ = false := frozen_of_heap HR1.out 2; have q0 : w1.cell? ⟨wr.heap.size + 1, 0, none⟩ = some (.int .i64 0) := Lib.cell_of_heap HP1.out 0; have q1 : w1.cell? ⟨wr.heap.size + 1, 1, none⟩ = some (.int .i64 0) := Lib.cell_of_heap HP1.out 1; have q2 : w1.cell? ⟨wr.heap.size + 1, 2, none⟩ = some (.string ⟨#[]⟩) := Lib.cell_of_heap HP1.out 2; have qF0 : w1.frozen? ⟨wr.heap.size + 1, 0, none⟩ = false := frozen_of_heap HP1.out 0; have qF1 : w1.frozen? ⟨wr.heap.size + 1, 1, none⟩ = false := frozen_of_heap HP1.out 1; have qF2 : w1.frozen? ⟨wr.heap.size + 1, 2, none⟩ = false := frozen_of_heap HP1.out 2; have x0 : w1.cell? ⟨g1, o, none⟩ = some (.int .i64 K) := (HB1.out.cell HEG.out).trans HKC.out.1; have x1 : w1.cell? ⟨g1, o + 1, none⟩ = some (.int .i64 D) := (HB1.out.cell HEG.out).trans HKC.out.2.1; have x2 : w1.cell? ⟨g1, o + 2, none⟩ = some (.string ⟨U.toArray⟩) := (HB1.out.cell HEG.out).trans HKC.out.2.2)
        | fail)
      obtain ⟨s0, s1, s2, hsz, hoth⟩ := three_set r0 r1 r2 (.int .i64 K) (.int .i64 D) (.string ⟨U.toArray⟩)
      go_region
      all_goals (go_wp2_with (first
        | (go_at_call 180; have HBW : Hid (Below wr.heap.size wr _) := ((((HB1.out.setCell (p := ⟨wr.heap.size, 0, none⟩) (Nat.le_refl _) (.int .i64 K)).setCell (p := ⟨wr.heap.size, 1, none⟩) (Nat.le_refl _) (.int .i64 D)).setCell (p := ⟨wr.heap.size, 2, none⟩) (Nat.le_refl _) (.string ⟨U.toArray⟩)).drew); refine (CT.out _ HBW.out).mono ?_; rintro e w5 ⟨⟨v5, rfl⟩, hg5, hb5⟩)
        | fail))
      · have hc1 : c = 1 := by assumption
        subst hc1
        go_roundg l.length
        case measure => have := HK.out; simp only [List.length_cons] at this; omega
        case rel => exact sideR_next HS.out ((HT.out _ HBW.out).2 rfl) HB.out HR.out hg5 hb5 HO.out h1 h2 h3 h4
      · go_roundg l.length
        case measure => have := HK.out; simp only [List.length_cons] at this; omega
        case rel => exact sideR_next HS.out (HT.out _ HBW.out).1 HB.out HR.out hg5 hb5 HO.out h1 h2 h3 h4
    | last =>
      rename_i p B l hl hS'
      obtain ⟨p2, c2, rfl, _, _, _⟩ := hI.r1
      obtain ⟨o, c, rfl, e1, e2, eg, e3, k0, k1, k2⟩ := winP_head hI.r2
      have cL : Hid (∀ wx, Calls Tryz.prog 179 #[partV p] wx fun e w' => e = .returned (.bool true) ∧ Below wx.heap.size wx w') := fun wx => by
        have := isPut_any p wx
        rw [show decide (p.put ≠ []) = true from hl] at this
        exact this
      have CT : Hid (∀ W', Below wr.heap.size wr W' → Calls Tryz.prog 180 #[partV (noP, p).1, partV (noP, p).2, .pointer (some ⟨β, 0, none⟩)] W' (tookP M a s (t (noP, p)) W')) := fun W' hb => cT.out s (noP, p) T n l W' (HI.out.grow hb).g (HI.out.grow hb).b HB.out
      have HS : Hid (Side isDropP isPutP _ _ l) := hS'
      have HT : Hid (∀ W', Below wr.heap.size wr W' → _ ∧ _) := fun W' hb => sideI.tail2 HI.out hb
      obtain ⟨K, D, U⟩ := p
      simp only at k0 k1 k2
      have HKC : Hid (wr.cell? ⟨g2, o, none⟩ = some (.int .i64 K) ∧ wr.cell? ⟨g2, o + 1, none⟩ = some (.int .i64 D) ∧ wr.cell? ⟨g2, o + 2, none⟩ = some (.string ⟨U.toArray⟩)) := ⟨k0, k1, k2⟩
      have HEG : Hid (g2 < wr.heap.size) := eg
      have hi0 : (0 : Int) < (B.length : Int) + 1 := by omega
      have hi1 : (1 : Int) ≤ (B.length : Int) + 1 := by omega
      unfold noP at CT
      unfold partV at cL CT
      clear hI hS' hl
      go_wp2_with (first
        | (go_at_call 179; refine (cL.out _).mono ?_; rintro e w1 ⟨rfl, hb1⟩; obtain ⟨b1, b2, b3⟩ := two_boxes hb1; have HR1 : Hid (w1.heap[wr.heap.size]? = some (.cells #[.int .i64 0, .int .i64 0, .string ⟨#[]⟩] 50 (0, 0))) := b1; have HP1 : Hid (w1.heap[wr.heap.size + 1]? = some (.cells #[.int .i64 0, .int .i64 0, .string ⟨#[]⟩] 50 (0, 0))) := b2; have HB1 : Hid (Below wr.heap.size wr w1) := b3; clear b1 b2 b3 hb1; have r0 : w1.cell? ⟨wr.heap.size, 0, none⟩ = some (.int .i64 0) := Lib.cell_of_heap HR1.out 0; have r1 : w1.cell? ⟨wr.heap.size, 1, none⟩ = some (.int .i64 0) := Lib.cell_of_heap HR1.out 1; have r2 : w1.cell? ⟨wr.heap.size, 2, none⟩ = some (.string ⟨#[]⟩) := Lib.cell_of_heap HR1.out 2; have rF0 : w1.frozen? ⟨wr.heap.size, 0, none⟩ = false := frozen_of_heap HR1.out 0; have rF1 : w1.frozen? ⟨wr.heap.size, 1, none⟩ = false := frozen_of_heap HR1.out 1; have rF2 : w1.frozen? ⟨wr.heap.size, 2, none⟩ = false := frozen_of_heap HR1.out 2; have q0 : w1.cell? ⟨wr.heap.size + 1, 0, none⟩ = some (.int .i64 0) := Lib.cell_of_heap HP1.out 0; have q1 : w1.cell? ⟨wr.heap.size + 1, 1, none⟩ = some (.int .i64 0) := Lib.cell_of_heap HP1.out 1; have q2 : w1.cell? ⟨wr.heap.size + 1, 2, none⟩ = some (.string ⟨#[]⟩) := Lib.cell_of_heap HP1.out 2; have qF0 : w1.frozen? ⟨wr.heap.size + 1, 0, none⟩ = false := frozen_of_heap HP1.out 0; have qF1 : w1.frozen? ⟨wr.heap.size + 1, 1, none⟩ = false := frozen_of_heap HP1.out 1; have qF2 : w1.frozen? ⟨wr.heap.size + 1, 2, none⟩ = false := frozen_of_heap HP1.out 2; have x0 : w1.cell? ⟨g2, o, none⟩ = some (.int .i64 K) := (HB1.out.cell HEG.out).trans HKC.out.1; have x1 : w1.cell? ⟨g2, o + 1, none⟩ = some (.int .i64 D) := (HB1.out.cell HEG.out).trans HKC.out.2.1; have x2 : w1.cell? ⟨g2, o + 2, none⟩ = some (.string ⟨U.toArray⟩) := (HB1.out.cell HEG.out).trans HKC.out.2.2)
        | fail)
      obtain ⟨s0, s1, s2, hsz, hoth⟩ := three_set q0 q1 q2 (.int .i64 K) (.int .i64 D) (.string ⟨U.toArray⟩)
      go_region
      all_goals (go_wp2_with (first
        | (go_at_call 180; have HBW : Hid (Below wr.heap.size wr _) := ((((HB1.out.setCell (p := ⟨wr.heap.size + 1, 0, none⟩) (Nat.le_succ _) (.int .i64 K)).setCell (p := ⟨wr.heap.size + 1, 1, none⟩) (Nat.le_succ _) (.int .i64 D)).setCell (p := ⟨wr.heap.size + 1, 2, none⟩) (Nat.le_succ _) (.string ⟨U.toArray⟩)).drew); refine (CT.out _ HBW.out).mono ?_; rintro e w5 ⟨⟨v5, rfl⟩, hg5, hb5⟩)
        | fail))
      · have hc1 : c = 1 := by assumption
        subst hc1
        go_roundg l.length
        case measure => have := HK.out; simp only [List.length_cons] at this; omega
        case rel => exact sideR_next HS.out ((HT.out _ HBW.out).2 rfl) HB.out HR.out hg5 hb5 HO.out h1 h2 h3 h4
      · go_roundg l.length
        case measure => have := HK.out; simp only [List.length_cons] at this; omega
        case rel => exact sideR_next HS.out (HT.out _ HBW.out).1 HB.out HR.out hg5 hb5 HO.out h1 h2 h3 h4
    | right =>
      rename_i pa p A B l hla hl hS'
      obtain ⟨oa, ca, rfl, ea1, ea2, eag, ea3, ka0, ka1, ka2⟩ := winP_head hI.r1
      obtain ⟨o, c, rfl, e1, e2, eg, e3, k0, k1, k2⟩ := winP_head hI.r2
      have cLA : Hid (∀ wx, Calls Tryz.prog 165 #[partV pa] wx fun e w' => e = .returned (.bool false) ∧ Below wx.heap.size wx w') := fun wx => by
        have := isDrop_any pa wx
        rw [show decide (0 < pa.drop) = false from hla] at this
        exact this
      have cL : Hid (∀ wx, Calls Tryz.prog 179 #[partV p] wx fun e w' => e = .returned (.bool true) ∧ Below wx.heap.size wx w') := fun wx => by
        have := isPut_any p wx
        rw [show decide (p.put ≠ []) = true from hl] at this
        exact this
      have CT : Hid (∀ W', Below wr.heap.size wr W' → Calls Tryz.prog 180 #[partV (noP, p).1, partV (noP, p).2, .pointer (some ⟨β, 0, none⟩)] W' (tookP M a s (t (noP, p)) W')) := fun W' hb => cT.out s (noP, p) T n l W' (HI.out.grow hb).g (HI.out.grow hb).b HB.out
      have HS : Hid (Side isDropP isPutP _ _ l) := hS'
      have HT : Hid (∀ W', Below wr.heap.size wr W' → _ ∧ _) := fun W' hb => sideI.tail2 HI.out hb
      obtain ⟨KA, DA, UA⟩ := pa
      simp only at ka0 ka1 ka2
      have HKA : Hid (wr.cell? ⟨g1, oa, none⟩ = some (.int .i64 KA) ∧ wr.cell? ⟨g1, oa + 1, none⟩ = some (.int .i64 DA) ∧ wr.cell? ⟨g1, oa + 2, none⟩ = some (.string ⟨UA.toArray⟩)) := ⟨ka0, ka1, ka2⟩
      have hia : (0 : Int) < (A.length : Int) + 1 := by omega
      unfold partV at cLA
      obtain ⟨K, D, U⟩ := p
      simp only at k0 k1 k2
      have HKC : Hid (wr.cell? ⟨g2, o, none⟩ = some (.int .i64 K) ∧ wr.cell? ⟨g2, o + 1, none⟩ = some (.int .i64 D) ∧ wr.cell? ⟨g2, o + 2, none⟩ = some (.string ⟨U.toArray⟩)) := ⟨k0, k1, k2⟩
      have HEG : Hid (g2 < wr.heap.size) := eg
      have hi0 : (0 : Int) < (B.length : Int) + 1 := by omega
      have hi1 : (1 : Int) ≤ (B.length : Int) + 1 := by omega
      unfold noP at CT
      unfold partV at cL CT
      clear hI hS' hl hla
      go_wp2_with (first
        | (have _ := HB1; go_at_call 179; refine (cL.out _).mono ?_; rintro e w2 ⟨rfl, hb2⟩; have HR2 : Hid (w2.heap[wr.heap.size]? = some (.cells #[.int .i64 0, .int .i64 0, .string ⟨#[]⟩] 50 (0, 0))) := (hb2.block _ (heap_lt HR1.out)).trans HR1.out; have HP2 : Hid (w2.heap[wr.heap.size + 1]? = some (.cells #[.int .i64 0, .int .i64 0, .string ⟨#[]⟩] 50 (0, 0))) := (hb2.block _ (heap_lt HP1.out)).trans HP1.out; have HB2 : Hid (Below wr.heap.size wr w2) := HB1.out.trans (hb2.mono HB1.out.size); clear hb2; have r0 : w2.cell? ⟨wr.heap.size, 0, none⟩ = some (.int .i64 0) := Lib.cell_of_heap HR2.out 0; have r1 : w2.cell? ⟨wr.heap.size, 1, none⟩ = some (.int .i64 0) := Lib.cell_of_heap HR2.out 1; have r2 : w2.cell? ⟨wr.heap.size, 2, none⟩ = some (.string ⟨#[]⟩) := Lib.cell_of_heap HR2.out 2; have rF0 : w2.frozen? ⟨wr.heap.size, 0, none⟩ = false := frozen_of_heap HR2.out 0; have rF1 : w2.frozen? ⟨wr.heap.size, 1, none⟩ = false := frozen_of_heap HR2.out 1; have rF2 : w2.frozen? ⟨wr.heap.size, 2, none⟩ = false := frozen_of_heap HR2.out 2; have q0 : w2.cell? ⟨wr.heap.size + 1, 0, none⟩ = some (.int .i64 0) := Lib.cell_of_heap HP2.out 0; have q1 : w2.cell? ⟨wr.heap.size + 1, 1, none⟩ = some (.int .i64 0) := Lib.cell_of_heap HP2.out 1; have q2 : w2.cell? ⟨wr.heap.size + 1, 2, none⟩ = some (.string ⟨#[]⟩) := Lib.cell_of_heap HP2.out 2; have qF0 : w2.frozen? ⟨wr.heap.size + 1, 0, none⟩ = false := frozen_of_heap HP2.out 0; have qF1 : w2.frozen? ⟨wr.heap.size + 1, 1, none⟩ = false := frozen_of_heap HP2.out 1; have qF2 : w2.frozen? ⟨wr.heap.size + 1, 2, none⟩ = false := frozen_of_heap HP2.out 2; have x0 : w2.cell? ⟨g2, o, none⟩ = some (.int .i64 K) := (HB2.out.cell HEG.out).trans HKC.out.1; have x1 : w2.cell? ⟨g2, o + 1, none⟩ = some (.int .i64 D) := (HB2.out.cell HEG.out).trans HKC.out.2.1; have x2 : w2.cell? ⟨g2, o + 2, none⟩ = some (.string ⟨U.toArray⟩) := (HB2.out.cell HEG.out).trans HKC.out.2.2)
        | (go_at_call 165; refine (cLA.out _).mono ?_; rintro e w1 ⟨rfl, hb1⟩; obtain ⟨b1, b2, b3⟩ := two_boxes hb1; have HR1 : Hid (w1.heap[wr.heap.size]? = some (.cells #[.int .i64 0, .int .i64 0, .string ⟨#[]⟩] 50 (0, 0))) := b1; have HP1 : Hid (w1.heap[wr.heap.size + 1]? = some (.cells #[.int .i64 0, .int .i64 0, .string ⟨#[]⟩] 50 (0, 0))) := b2; have HB1 : Hid (Below wr.heap.size wr w1) := b3; clear b1 b2 b3 hb1; have x0 : w1.cell? ⟨g2, o, none⟩ = some (.int .i64 K) := (HB1.out.cell HEG.out).trans HKC.out.1; have x1 : w1.cell? ⟨g2, o + 1, none⟩ = some (.int .i64 D) := (HB1.out.cell HEG.out).trans HKC.out.2.1; have x2 : w1.cell? ⟨g2, o + 2, none⟩ = some (.string ⟨U.toArray⟩) := (HB1.out.cell HEG.out).trans HKC.out.2.2)
        | fail)
      obtain ⟨s0, s1, s2, hsz, hoth⟩ := three_set q0 q1 q2 (.int .i64 K) (.int .i64 D) (.string ⟨U.toArray⟩)
      go_region
      all_goals (go_wp2_with (first
        | (go_at_call 180; have HBW : Hid (Below wr.heap.size wr _) := ((((HB2.out.setCell (p := ⟨wr.heap.size + 1, 0, none⟩) (Nat.le_succ _) (.int .i64 K)).setCell (p := ⟨wr.heap.size + 1, 1, none⟩) (Nat.le_succ _) (.int .i64 D)).setCell (p := ⟨wr.heap.size + 1, 2, none⟩) (Nat.le_succ _) (.string ⟨U.toArray⟩)).drew); refine (CT.out _ HBW.out).mono ?_; rintro e w5 ⟨⟨v5, rfl⟩, hg5, hb5⟩)
        | fail))
      · have hc1 : c = 1 := by assumption
        subst hc1
        go_roundg l.length
        case measure => have := HK.out; simp only [List.length_cons] at this; omega
        case rel => exact sideR_next HS.out ((HT.out _ HBW.out).2 rfl) HB.out HR.out hg5 hb5 HO.out h1 h2 h3 h4
      · go_roundg l.length
        case measure => have := HK.out; simp only [List.length_cons] at this; omega
        case rel => exact sideR_next HS.out (HT.out _ HBW.out).1 HB.out HR.out hg5 hb5 HO.out h1 h2 h3 h4
    | both =>
      rename_i p q A B l m hla hlb o1 o2 m0 hm b1 b2 hS'
      obtain ⟨oa, ca, rfl, ea1, ea2, eag, ea3, ka0, ka1, ka2⟩ := winP_head hI.r1
      obtain ⟨ob, cb, rfl, eb1, eb2, ebg, eb3, kb0, kb1, kb2⟩ := winP_head hI.r2
      have hlp := length_pos o1
      have hlq := length_pos o2
      have cLA : Hid (∀ wx, Calls Tryz.prog 165 #[partV p] wx fun e w' => e = .returned (.bool false) ∧ Below wx.heap.size wx w') := fun wx => by
        have := isDrop_any p wx
        rw [show decide (0 < p.drop) = false from hla] at this
        exact this
      have cLB : Hid (∀ wx, Calls Tryz.prog 179 #[partV q] wx fun e w' => e = .returned (.bool false) ∧ Below wx.heap.size wx w') := fun wx => by
        have := isPut_any q wx
        rw [show decide (q.put ≠ []) = false from hlb] at this
        exact this
      have cNP : Hid (∀ wx, Calls Tryz.prog 200 #[partV p] wx fun e w' => e = .returned (.int .i64 (lengthP p)) ∧ Below wx.heap.size wx w') := fun wx => length_any p wx (by rcases o1 with ⟨h1, h2, h3⟩ | ⟨h1, h2, h3⟩ | ⟨h1, h2, h3⟩ <;> exact ⟨by omega, by omega⟩) (by unfold lengthP at b1; omega)
      have cNQ : Hid (∀ wx, Calls Tryz.prog 200 #[partV q] wx fun e w' => e = .returned (.int .i64 (lengthP q)) ∧ Below wx.heap.size wx w') := fun wx => length_any q wx (by rcases o2 with ⟨h1, h2, h3⟩ | ⟨h1, h2, h3⟩ | ⟨h1, h2, h3⟩ <;> exact ⟨by omega, by omega⟩) (by unfold lengthP at b2; omega)
      have CC1 : Hid (∀ W', winP W' g1 (.slice (some ⟨g1, oa, none⟩) (A.length + 1) ca) (p :: A) → Calls Tryz.prog 201 #[.slice (some ⟨g1, oa, none⟩) (A.length + 1) ca, .int .i64 m] W' fun e w' => ∃ v', e = .returned (.tuple #[partV (cutP p m).1, v']) ∧ winP w' g1 v' ((cutP p m).2 ++ A) ∧ ButO g1 W' w') := fun W' h => cut_any g1 _ p A m W' h o1 m0 (by omega) b1
      have CC2 : Hid (∀ W', winP W' g2 (.slice (some ⟨g2, ob, none⟩) (B.length + 1) cb) (q :: B) → Calls Tryz.prog 201 #[.slice (some ⟨g2, ob, none⟩) (B.length + 1) cb, .int .i64 m] W' fun e w' => ∃ v', e = .returned (.tuple #[partV (cutP q m).1, v']) ∧ winP w' g2 v' ((cutP q m).2 ++ B) ∧ ButO g2 W' w') := fun W' h => cut_any g2 _ q B m W' h o2 m0 (by omega) b2
      have CT : Hid (∀ W', gath M W' a s → boxesP bx W' → Calls Tryz.prog 180 #[partV (cutP p m).1, partV (cutP q m).1, .pointer (some ⟨β, 0, none⟩)] W' (tookP M a s (t ((cutP p m).1, (cutP q m).1)) W')) := fun W' hg hb => cT.out s ((cutP p m).1, (cutP q m).1) T n l W' hg hb HB.out
      have HS : Hid (Side isDropP isPutP ((cutP p m).2 ++ A) ((cutP q m).2 ++ B) l) := hS'
      have hm1 : (m : Int) < 1000000000 := by omega
      clear hS' hla hlb o1 o2 hlp hlq b1 b2
      generalize lengthP p = LP at *
      generalize lengthP q = LQ at *
      obtain ⟨R1, hR1⟩ : ∃ R, (cutP p m).2 ++ A = R := ⟨_, rfl⟩
      obtain ⟨R2, hR2⟩ : ∃ R, (cutP q m).2 ++ B = R := ⟨_, rfl⟩
      obtain ⟨x1, hx1⟩ : ∃ x, (cutP p m).1 = x := ⟨_, rfl⟩
      obtain ⟨x2, hx2⟩ : ∃ x, (cutP q m).1 = x := ⟨_, rfl⟩
      rw [hR1, hx1] at CC1
      rw [hR2, hx2] at CC2
      rw [hx1, hx2] at CT HB HR
      rw [hR1, hR2] at HS
      rw [hx1, hx2] at HK
      clear hR1 hR2 hx1 hx2
      obtain ⟨K1, D1, U1⟩ := x1
      obtain ⟨K2, D2, U2⟩ := x2
      have HW1 : Hid (winP wr g1 (.slice (some ⟨g1, oa, none⟩) (A.length + 1) ca) (p :: A)) := hI.r1
      have HW2 : Hid (winP wr g2 (.slice (some ⟨g2, ob, none⟩) (B.length + 1) cb) (q :: B)) := hI.r2
      have HEG1 : Hid (g1 < wr.heap.size) := eag
      have HEG2 : Hid (g2 < wr.heap.size) := ebg
      obtain ⟨KA, DA, UA⟩ := p
      obtain ⟨KB, DB, UB⟩ := q
      simp only at ka0 ka1 ka2 kb0 kb1 kb2
      have HKA : Hid (wr.cell? ⟨g1, oa, none⟩ = some (.int .i64 KA) ∧ wr.cell? ⟨g1, oa + 1, none⟩ = some (.int .i64 DA) ∧ wr.cell? ⟨g1, oa + 2, none⟩ = some (.string ⟨UA.toArray⟩)) := ⟨ka0, ka1, ka2⟩
      have HKB : Hid (wr.cell? ⟨g2, ob, none⟩ = some (.int .i64 KB) ∧ wr.cell? ⟨g2, ob + 1, none⟩ = some (.int .i64 DB) ∧ wr.cell? ⟨g2, ob + 2, none⟩ = some (.string ⟨UB.toArray⟩)) := ⟨kb0, kb1, kb2⟩
      have hia : (0 : Int) < (A.length : Int) + 1 := by omega
      have hib : (0 : Int) < (B.length : Int) + 1 := by omega
      unfold partV at cLA cLB cNP cNQ CC1 CC2 CT
      clear hI ea3 eb3
      go_wp2_with (first
        | (have _ := HB1; go_at_call 179; refine (cLB.out _).mono ?_; rintro e w2 ⟨rfl, hb2⟩; have HR2 : Hid (w2.heap[wr.heap.size]? = some (.cells #[.int .i64 0, .int .i64 0, .string ⟨#[]⟩] 50 (0, 0))) := (hb2.block _ (heap_lt HR1.out)).trans HR1.out; have HP2 : Hid (w2.heap[wr.heap.size + 1]? = some (.cells #[.int .i64 0, .int .i64 0, .string ⟨#[]⟩] 50 (0, 0))) := (hb2.block _ (heap_lt HP1.out)).trans HP1.out; have HB2 : Hid (Below wr.heap.size wr w2) := HB1.out.trans (hb2.mono HB1.out.size); clear hb2; have xa0 : w2.cell? ⟨g1, oa, none⟩ = some (.int .i64 KA) := (HB2.out.cell HEG1.out).trans HKA.out.1; have xa1 : w2.cell? ⟨g1, oa + 1, none⟩ = some (.int .i64 DA) := (HB2.out.cell HEG1.out).trans HKA.out.2.1; have xa2 : w2.cell? ⟨g1, oa + 2, none⟩ = some (.string ⟨UA.toArray⟩) := (HB2.out.cell HEG1.out).trans HKA.out.2.2; have xc0 : w2.cell? ⟨g2, ob, none⟩ = some (.int .i64 KB) := (HB2.out.cell HEG2.out).trans HKB.out.1; have xc1 : w2.cell? ⟨g2, ob + 1, none⟩ = some (.int .i64 DB) := (HB2.out.cell HEG2.out).trans HKB.out.2.1; have xc2 : w2.cell? ⟨g2, ob + 2, none⟩ = some (.string ⟨UB.toArray⟩) := (HB2.out.cell HEG2.out).trans HKB.out.2.2)
        | (go_at_call 165; refine (cLA.out _).mono ?_; rintro e w1 ⟨rfl, hb1⟩; obtain ⟨y1, y2, y3⟩ := two_boxes hb1; have HR1 : Hid (w1.heap[wr.heap.size]? = some (.cells #[.int .i64 0, .int .i64 0, .string ⟨#[]⟩] 50 (0, 0))) := y1; have HP1 : Hid (w1.heap[wr.heap.size + 1]? = some (.cells #[.int .i64 0, .int .i64 0, .string ⟨#[]⟩] 50 (0, 0))) := y2; have HB1 : Hid (Below wr.heap.size wr w1) := y3; clear y1 y2 y3 hb1; have xb0 : w1.cell? ⟨g2, ob, none⟩ = some (.int .i64 KB) := (HB1.out.cell HEG2.out).trans HKB.out.1; have xb1 : w1.cell? ⟨g2, ob + 1, none⟩ = some (.int .i64 DB) := (HB1.out.cell HEG2.out).trans HKB.out.2.1; have xb2 : w1.cell? ⟨g2, ob + 2, none⟩ = some (.string ⟨UB.toArray⟩) := (HB1.out.cell HEG2.out).trans HKB.out.2.2)
        | fail)
      go_region_with (first
        | (have _ := HB3; go_at_call 200; refine (cNQ.out _).mono ?_; rintro e w4 ⟨rfl, hb4⟩; have HR4 : Hid (w4.heap[wr.heap.size]? = some (.cells #[.int .i64 0, .int .i64 0, .string ⟨#[]⟩] 50 (0, 0))) := (hb4.block _ (heap_lt HR3.out)).trans HR3.out; have HP4 : Hid (w4.heap[wr.heap.size + 1]? = some (.cells #[.int .i64 0, .int .i64 0, .string ⟨#[]⟩] 50 (0, 0))) := (hb4.block _ (heap_lt HP3.out)).trans HP3.out; have HB4 : Hid (Below wr.heap.size wr w4) := HB3.out.trans (hb4.mono HB3.out.size); clear hb4)
        | (have _ := HB2; go_at_call 200; refine (cNP.out _).mono ?_; rintro e w3 ⟨rfl, hb3⟩; have HR3 : Hid (w3.heap[wr.heap.size]? = some (.cells #[.int .i64 0, .int .i64 0, .string ⟨#[]⟩] 50 (0, 0))) := (hb3.block _ (heap_lt HR2.out)).trans HR2.out; have HP3 : Hid (w3.heap[wr.heap.size + 1]? = some (.cells #[.int .i64 0, .int .i64 0, .string ⟨#[]⟩] 50 (0, 0))) := (hb3.block _ (heap_lt HP2.out)).trans HP2.out; have HB3 : Hid (Below wr.heap.size wr w3) := HB2.out.drew.trans (hb3.mono HB2.out.size); clear hb3; have xd0 : w3.cell? ⟨g2, ob, none⟩ = some (.int .i64 KB) := (HB3.out.cell HEG2.out).trans HKB.out.1; have xd1 : w3.cell? ⟨g2, ob + 1, none⟩ = some (.int .i64 DB) := (HB3.out.cell HEG2.out).trans HKB.out.2.1; have xd2 : w3.cell? ⟨g2, ob + 2, none⟩ = some (.string ⟨UB.toArray⟩) := (HB3.out.cell HEG2.out).trans HKB.out.2.2)
        | fail)
      all_goals (
        go_wp2_with (first
          | (have _ := HT7; go_at_call 180; have HI8 : Hid (sideI M a g1 g2 bx w _ _ R1 R2 s (((w7.setCell ⟨wr.heap.size + 1, 0, none⟩ (.int .i64 K2)).setCell ⟨wr.heap.size + 1, 1, none⟩ (.int .i64 D2)).setCell ⟨wr.heap.size + 1, 2, none⟩ (.string ⟨U2.toArray⟩))) := HI.out.both (HT7.out.above3 (Nat.le_succ _) _ _ _) HO.out h1 h2 h3 h4 (winP_kept HO7.out (by simp) fun _ => box_set_ne (by have := HEG1.out; omega)) (winP_kept HQ7.out (by simp) fun _ => box_set_ne (by have := HEG2.out; omega)); refine (CT.out _ HI8.out.g HI8.out.b).mono ?_; rintro e w9 ⟨⟨v9, rfl⟩, hg9, hb9⟩)
          | (have _ := HT5; go_at_call 201; have HT6 : Hid (ButO g1 wr (((w5.setCell ⟨wr.heap.size, 0, none⟩ (.int .i64 K1)).setCell ⟨wr.heap.size, 1, none⟩ (.int .i64 D1)).setCell ⟨wr.heap.size, 2, none⟩ (.string ⟨U1.toArray⟩))) := HT5.out.above3 (Nat.le_refl _) _ _ _; have HR6 : Hid ((((w5.setCell ⟨wr.heap.size, 0, none⟩ (.int .i64 K1)).setCell ⟨wr.heap.size, 1, none⟩ (.int .i64 D1)).setCell ⟨wr.heap.size, 2, none⟩ (.string ⟨U1.toArray⟩)).heap[wr.heap.size]? = some (.cells #[.int .i64 K1, .int .i64 D1, .string ⟨U1.toArray⟩] 50 (0, 0))) := box_set HR5.out _ _ _; have HP6 : Hid ((((w5.setCell ⟨wr.heap.size, 0, none⟩ (.int .i64 K1)).setCell ⟨wr.heap.size, 1, none⟩ (.int .i64 D1)).setCell ⟨wr.heap.size, 2, none⟩ (.string ⟨U1.toArray⟩)).heap[wr.heap.size + 1]? = some (.cells #[.int .i64 0, .int .i64 0, .string ⟨#[]⟩] 50 (0, 0))) := (box_set_ne (by omega)).trans HP5.out; have HQ6 : Hid (winP (((w5.setCell ⟨wr.heap.size, 0, none⟩ (.int .i64 K1)).setCell ⟨wr.heap.size, 1, none⟩ (.int .i64 D1)).setCell ⟨wr.heap.size, 2, none⟩ (.string ⟨U1.toArray⟩)) g1 _ R1) := winP_kept HQ5.out (by simp) fun _ => box_set_ne (by have := HEG1.out; omega); refine (CC2.out _ (winP_kept HW2.out HT6.out.size fun hg => HT6.out.block g2 hg (Ne.symm HNE.out))).mono ?_; rintro e w7 ⟨v7, rfl, hw7, hb7⟩; have HQ7 : Hid (winP w7 g2 v7 R2) := hw7; have hbz : ButO g2 (((w5.setCell ⟨wr.heap.size, 0, none⟩ (.int .i64 K1)).setCell ⟨wr.heap.size, 1, none⟩ (.int .i64 D1)).setCell ⟨wr.heap.size, 2, none⟩ (.string ⟨U1.toArray⟩)) w7 := ⟨hb7.os, hb7.tape, hb7.output, hb7.size, hb7.block⟩; obtain ⟨p7, c7, rfl, _⟩ := hw7; have HO7 : Hid (winP w7 g1 _ R1) := winP_but HQ6.out hbz HNE.out; have HR7 : Hid (w7.heap[wr.heap.size]? = some (.cells #[.int .i64 K1, .int .i64 D1, .string ⟨U1.toArray⟩] 50 (0, 0))) := (hbz.block _ (heap_lt HR6.out) (by have := HEG2.out; omega)).trans HR6.out; have HP7 : Hid (w7.heap[wr.heap.size + 1]? = some (.cells #[.int .i64 0, .int .i64 0, .string ⟨#[]⟩] 50 (0, 0))) := (hbz.block _ (heap_lt HP6.out) (by have := HEG2.out; omega)).trans HP6.out; have HT7 : Hid (But2 g1 g2 wr w7) := (But2.of1 HT6.out).cut2 hbz; clear hb7 hbz; have t0 : w7.cell? ⟨wr.heap.size, 0, none⟩ = some (.int .i64 K1) := Lib.cell_of_heap HR7.out 0; have t1 : w7.cell? ⟨wr.heap.size, 1, none⟩ = some (.int .i64 D1) := Lib.cell_of_heap HR7.out 1; have t2 : w7.cell? ⟨wr.heap.size, 2, none⟩ = some (.string ⟨U1.toArray⟩) := Lib.cell_of_heap HR7.out 2; have q0 : w7.cell? ⟨wr.heap.size + 1, 0, none⟩ = some (.int .i64 0) := Lib.cell_of_heap HP7.out 0; have q1 : w7.cell? ⟨wr.heap.size + 1, 1, none⟩ = some (.int .i64 0) := Lib.cell_of_heap HP7.out 1; have q2 : w7.cell? ⟨wr.heap.size + 1, 2, none⟩ = some (.string ⟨#[]⟩) := Lib.cell_of_heap HP7.out 2; have qF0 : w7.frozen? ⟨wr.heap.size + 1, 0, none⟩ = false := frozen_of_heap HP7.out 0; have qF1 : w7.frozen? ⟨wr.heap.size + 1, 1, none⟩ = false := frozen_of_heap HP7.out 1; have qF2 : w7.frozen? ⟨wr.heap.size + 1, 2, none⟩ = false := frozen_of_heap HP7.out 2)
          | (have _ := HB4; go_at_call 201; refine (CC1.out _ (winP_kept HW1.out HB4.out.size fun hg => HB4.out.block g1 hg)).mono ?_; rintro e w5 ⟨v5, rfl, hw5, hb5⟩; have HQ5 : Hid (winP w5 g1 v5 R1) := hw5; have hbz : ButO g1 w4 w5 := ⟨hb5.os, hb5.tape, hb5.output, hb5.size, hb5.block⟩; obtain ⟨p5, c5, rfl, _⟩ := hw5; have HR5 : Hid (w5.heap[wr.heap.size]? = some (.cells #[.int .i64 0, .int .i64 0, .string ⟨#[]⟩] 50 (0, 0))) := (hbz.block _ (heap_lt HR4.out) (by have := HEG1.out; omega)).trans HR4.out; have HP5 : Hid (w5.heap[wr.heap.size + 1]? = some (.cells #[.int .i64 0, .int .i64 0, .string ⟨#[]⟩] 50 (0, 0))) := (hbz.block _ (heap_lt HP4.out) (by have := HEG1.out; omega)).trans HP4.out; have HT5 : Hid (ButO g1 wr w5) := (ButO.of HB4.out).trans hbz; clear hb5 hbz; have r0 : w5.cell? ⟨wr.heap.size, 0, none⟩ = some (.int .i64 0) := Lib.cell_of_heap HR5.out 0; have r1 : w5.cell? ⟨wr.heap.size, 1, none⟩ = some (.int .i64 0) := Lib.cell_of_heap HR5.out 1; have r2 : w5.cell? ⟨wr.heap.size, 2, none⟩ = some (.string ⟨#[]⟩) := Lib.cell_of_heap HR5.out 2; have rF0 : w5.frozen? ⟨wr.heap.size, 0, none⟩ = false := frozen_of_heap HR5.out 0; have rF1 : w5.frozen? ⟨wr.heap.size, 1, none⟩ = false := frozen_of_heap HR5.out 1; have rF2 : w5.frozen? ⟨wr.heap.size, 2, none⟩ = false := frozen_of_heap HR5.out 2)
          | fail)
        go_roundg l.length
        case measure => have := HK.out; simp only [List.length_cons] at this; omega
        case rel => exact sideR_next HS.out HI8.out HB.out HR.out hg9 hb9 HO.out h1 h2 h3 h4)
end Go.Proofs.YtldhbjmillfjgabGreatDoor

namespace Go.Proofs.YtldhbjmillfjgabGreatDoor
open Go.RowKit
set_option linter.unusedVariables false

theorem side_ready {w4 X5 w5 w6 : World} {a : Nat} {v1 v2 : Value} {N1 N2 : List Pt} (bx : List (Nat × Obj)) (hG : ∀ M w2, Below w4.heap.size w4 w2 → a + 4 ≤ M → M ≤ w2.heap.size → gath M w2 a nst0) (hz : w4.heap.size = a + 4)
    (hb : boxesP bx X5) (hk : ∀ x ∈ bx, a + 4 ≤ x.1 ∧ (∀ c fz, x.2 ≠ .cells c 5 fz) ∧ ∀ c fz, x.2 ≠ .cells c 50 fz) (h45 : Below w4.heap.size w4 X5)
    (o1 : w5.ownsRow X5.heap.size 50 3 v1 N1.length (cellsP N1)) (b5 : Below X5.heap.size X5 w5) (s5 : X5.heap.size + 4 ≤ w5.heap.size)
    (o2 : w6.ownsRow w5.heap.size 50 3 v2 N2.length (cellsP N2)) (b6 : Below w5.heap.size w5 w6) (s6 : w5.heap.size + 4 ≤ w6.heap.size) :
    ∃ g1 g2, sideI w6.heap.size a g1 g2 bx w6 v1 v2 N1 N2 nst0 w6 ∧ boxesOk a g1 g2 bx ∧ a + 4 ≤ g1 ∧ g1 < w6.heap.size ∧ a + 4 ≤ g2 ∧ g2 < w6.heap.size ∧ g1 ≠ g2 := by
  have s4 := h45.size
  obtain ⟨g1, hg1, r1⟩ := winP_own o1
  obtain ⟨g2, hg2, r2⟩ := winP_own o2
  have b46 : Below w4.heap.size w4 w6 := (h45.trans (b5.mono s4)).trans (b6.mono (by omega))
  have b56 : Below X5.heap.size X5 w6 := b5.trans (b6.mono (by omega))
  refine ⟨g1, g2, ⟨.refl _ _, hG _ _ b46 (by omega) (Nat.le_refl _), winP_below r1 b6, r2, fun x hx => (b56.block _ (heap_lt (hb x hx))).trans (hb x hx)⟩, fun x hx => ?_, by omega, by omega, by omega, by omega, by omega⟩
  obtain ⟨k1, k2, k3⟩ := hk x hx
  have := heap_lt (hb x hx)
  exact ⟨k1, by omega, by omega, k2, k3⟩

theorem act_sum (f : Pt → Int) (l : List Pt) : ∀ x : Int, l.foldl (fun x p => x + f p) x = x + (l.map f).sum := by
  induction l with
  | nil => intro x; simp
  | cons p l ih => intro x; rw [List.foldl_cons, ih, List.map_cons, List.sum_cons]; omega
theorem norm_wts (ps : List Pt) (h : ∀ p ∈ ps, 0 ≤ p.keep ∧ 0 ≤ p.drop) : wts (normP ps) = wts ps := by
  have ok : ActP (fun (x : Int) p => x + wtP p) := by
    constructor
    · intro x; simp [wtP]
    · intro x u v; simp only [wtP, List.length_append]; push_cast; omega
    · intro x a b _ _; simp only [wtP, List.length_nil]; omega
    · intro x a b _ _; simp only [wtP, List.length_nil]; omega
    · intro x k d u; simp only [wtP, List.length_nil]; omega
    · intro x d u; simp only [wtP, List.length_nil]; omega
  have := act_norm ok ps h 0
  rw [act_sum, act_sum] at this
  simpa [wts] using this
theorem norm_isP (ps : List Pt) (h : ∀ p ∈ ps, 0 ≤ p.keep ∧ 0 ≤ p.drop) : ((normP ps).map isP).sum = (ps.map isP).sum := by
  have ok : ActP (fun (x : Int) p => x + isP p) := by
    constructor
    · intro x; simp [isP]
    · intro x u v; simp only [isP, List.length_append]; push_cast; omega
    · intro x a b _ _; simp only [isP, List.length_nil]; omega
    · intro x a b _ _; simp only [isP, List.length_nil]; omega
    · intro x k d u; simp only [isP, List.length_nil]; omega
    · intro x d u; simp only [isP, List.length_nil]; omega
  have := act_norm ok ps h 0
  rw [act_sum, act_sum] at this
  simpa using this
theorem weight_wts : ∀ (A : List Pt), (∀ p ∈ A, oneP p) → (weight A : Int) = wts A
  | [], _ => by simp [weight, wts]
  | p :: A, h => by
    have ih := weight_wts A fun q hq => h q (by simp [hq])
    have h1 := length_pos (h p (by simp))
    have e : wts (p :: A) = wtP p + wts A := by simp [wts]
    have e2 : wtP p = lengthP p := rfl
    rw [weight_cons, e, e2]
    omega
theorem meas_put : ∀ (A : List Pt), (∀ p ∈ A, oneP p) → measP isPutP A = longP A
  | [], _ => by simp [measP, longP]
  | p :: A, h => by
    have ih := meas_put A fun q hq => h q (by simp [hq])
    have e : longP (p :: A) = lenP p + longP A := by simp [longP]
    rw [meas_cons, ih, e]
    rcases h p (by simp) with ⟨h1, h2, h3⟩ | ⟨h1, h2, h3⟩ | ⟨h1, h2, h3⟩
    · simp [isPutP, h3, lengthP, lenP]
    · simp [isPutP, h3, lengthP, lenP]
    · simp [isPutP, h3, lenP, h1, h2]
theorem meas_drop : ∀ (A : List Pt), (∀ p ∈ A, oneP p) → measP isDropP A = (A.map isP).sum
  | [], _ => by simp [measP]
  | p :: A, h => by
    have ih := meas_drop A fun q hq => h q (by simp [hq])
    rw [meas_cons, ih, List.map_cons, List.sum_cons]
    rcases h p (by simp) with ⟨h1, h2, h3⟩ | ⟨h1, h2, h3⟩ | ⟨h1, h2, h3⟩
    · simp [isDropP, h2, h3, lengthP, isP]
    · simp [isDropP, h2, h3, isP, h1]
    · simp [isDropP, h2, lengthP, isP]
theorem run_flat (t : Pt × Pt → List Pt) (l : List (Pt × Pt)) : ∀ s, runS t l s = (l.flatMap t).foldl addP s := by
  induction l with
  | nil => intro s; rfl
  | cons x l ih => intro s; rw [List.flatMap_cons, List.foldl_append]; exact ih _
/-- What is gathered at the end is small. -/
theorem run_small {t : Pt × Pt → List Pt} {l : List (Pt × Pt)} (hB : BdS t l nst0 0 0) : (runS t l nst0).out.length < 1000000000 ∧ (runS t l nst0).put.length < 1000000000 := by
  rw [run_flat]
  have hb := bds (l.flatMap t) fun p hp => by
    obtain ⟨x, hx, hp⟩ := List.mem_flatMap.1 hp
    exact hB.sound x hx p hp
  have h1 : (l.flatMap t).length ≤ l.length := by
    have key : ∀ (l : List (Pt × Pt)), (∀ x ∈ l, (t x).length ≤ 1) → (l.flatMap t).length ≤ l.length := by
      intro l
      induction l with
      | nil => intro _; simp
      | cons x l ih =>
        intro h
        have h1 := h x (by simp)
        have h2 := ih fun y hy => h y (by simp [hy])
        rw [List.flatMap_cons, List.length_append, List.length_cons]
        omega
    exact key l hB.one
  have h2 := hb.len
  have h3 := hb.put
  have h4 := hB.w
  have h5 := hB.n
  exact ⟨by omega, by omega⟩
/-- An operation that may be, and is not too great. -/
structure fineP (ps : List Pt) : Prop where
  one : ∀ p ∈ ps, oneP p
  w : wts ps < 2000000
  len : ps.length < 10000000
theorem fine_norm {ps : List Pt} (h : fineP ps) : (∀ p ∈ normP ps, oneP p ∧ lengthP p < 1000000000) ∧ weight (normP ps) < 2000000 ∧ longP (normP ps) = longP ps ∧ ((normP ps).map isP).sum = (ps.map isP).sum := by
  have hs := ones_sound h.one
  have h1 := norm_one ps hs
  have h2 := weight_wts _ h1
  rw [norm_wts ps hs] at h2
  have h3 := h.w
  refine ⟨fun p hp => ⟨h1 p hp, ?_⟩, by omega, norm_long ps, norm_isP ps hs⟩
  obtain ⟨l1, l2, e⟩ := List.append_of_mem hp
  have h4 := weight_wts _ h1
  rw [e, weight_append, weight_cons] at h4
  rw [e] at h2
  have h5 := length_pos (h1 p hp)
  rw [weight_append, weight_cons] at h2
  omega
theorem fine_lens {ps : List Pt} (h : fineP ps) : (lensW ps).1 = longP ps ∧ (lensW ps).2 = (ps.map isP).sum := by
  have hs := ones_sound h.one
  obtain ⟨h1, h2, _, _⟩ := lens_plain ps (fun p hp => hs p hp) (by have := h.w; omega)
  refine ⟨?_, h2⟩
  rw [h1, spreads_eq]
  exact lensU_long ps hs
end Go.Proofs.YtldhbjmillfjgabGreatDoor

namespace Go.Proofs.YtldhbjmillfjgabGreatDoor
open Go.RowKit
set_option linter.unusedVariables false
attribute [local go_sem] Oper.semAt_some

/-- What Transform adds up to. -/
def transS (first : Bool) (a b : List Pt) : NSt := if first then runS turnP (sideP isPutP isPutP (weight (normP a) + weight (normP b)) (normP a) (normP b)) nst0 else runS (fun x => turnP (x.2, x.1)) (sideP isPutP isPutP (weight (normP b) + weight (normP a)) (normP b) (normP a)) nst0
/-- What Compose adds up to. -/
def compS (a b : List Pt) : NSt := runS compP (sideP isDropP isPutP (weight (normP a) + weight (normP b)) (normP a) (normP b)) nst0
def turnE (a b : List Pt) : Int := if bothE a b = 0 then (if (lensW b).1 = (lensW a).1 then 0 else 2) else bothE a b
def compE (a b : List Pt) : Int := if bothE a b = 0 then (if (lensW b).1 = (lensW a).2 then 0 else 2) else bothE a b

set_option maxRecDepth 100000 in
set_option maxHeartbeats 8000000 in
theorem t1_fineN (v1 v2 : Value) (a b : List Pt) (w : World) (hT : Lib.Utf8Tabs 2 3 w) (h1 : opAt w v1 a) (h2 : opAt w v2 b) (w1 : ∀ p ∈ a, wfP p) (w2 : ∀ p ∈ b, wfP p) (f1 : fineP a) (f2 : fineP b) (he : bothE a b = 0) (hl : (lensW b).1 = (lensW a).1) :
    Calls Tryz.prog 151 #[v1, v2, .bool true] w fun e w' => ∃ v', e = .returned (.tuple #[v', .nilIface]) ∧ opN w.heap.size w' v' (tellP (transS true a b)) ∧ Below w.heap.size w w' := by
  have cB : Hid _ := checkBoth_any v1 v2 a b w hT h1 h2 w1 w2 f1.len f2.len
  have hV : errV (bothE a b) = .nilIface := by unfold errV; rw [if_pos he]
  rw [hV] at cB
  have cL1 : Hid (∀ wx, Below w.heap.size w wx → Calls Tryz.prog 96 #[v1] wx fun e w' => e = .returned (.tuple #[.int .i64 (lensW a).1, .int .i64 (lensW a).2]) ∧ Below wx.heap.size wx w') := fun wx hb => Lens_any v1 a wx (opAt_grown h1 hb) f1.len
  have cL2 : Hid (∀ wx, Below w.heap.size w wx → Calls Tryz.prog 96 #[v2] wx fun e w' => e = .returned (.tuple #[.int .i64 (lensW b).1, .int .i64 (lensW b).2]) ∧ Below wx.heap.size wx w') := fun wx hb => Lens_any v2 b wx (opAt_grown h2 hb) f2.len
  have cN1 : Hid (∀ wx, Below w.heap.size w wx → Calls Tryz.prog 178 #[v1] wx fun e w' => ∃ v', e = .returned v' ∧ w'.ownsRow wx.heap.size 50 3 v' (normP a).length (cellsP (normP a)) ∧ Below wx.heap.size wx w' ∧ wx.heap.size + 4 ≤ w'.heap.size) := fun wx hb => Norm_any4 v1 a wx (opAt_grown h1 hb) (ones_sound f1.one) (by have := f1.w; omega) f1.len
  have cN2 : Hid (∀ wx, Below w.heap.size w wx → Calls Tryz.prog 178 #[v2] wx fun e w' => ∃ v', e = .returned v' ∧ w'.ownsRow wx.heap.size 50 3 v' (normP b).length (cellsP (normP b)) ∧ Below wx.heap.size wx w' ∧ wx.heap.size + 4 ≤ w'.heap.size) := fun wx hb => Norm_any4 v2 b wx (opAt_grown h2 hb) (ones_sound f2.one) (by have := f2.w; omega) f2.len
  obtain ⟨n1, n2, n3, n4⟩ := fine_norm f1
  obtain ⟨m1, m2, m3, m4⟩ := fine_norm f2
  have hmeas : measP isPutP (normP a) = measP isPutP (normP b) := by
    have e1 := (fine_lens f1).1
    have e2 := (fine_lens f1).2
    have e3 := (fine_lens f2).1
    rw [meas_put _ (fun p hp => (m1 p hp).1), meas_put _ (fun p hp => (n1 p hp).1)]
    omega
  obtain ⟨hSd, hok, hpw, hln⟩ := side_ok kind_put kind_put (weight (normP a) + weight (normP b)) (normP a) (normP b) n1 m1 hmeas (Nat.le_refl _)
  have hBd : BdS turnP (sideP isPutP isPutP (weight (normP a) + weight (normP b)) (normP a) (normP b)) nst0 0 0 := bdS_of take_turn hok (by rw [hpw]; omega) (by omega)
  have HSD : Hid (Side isPutP isPutP (normP a) (normP b) (sideP isPutP isPutP (weight (normP a) + weight (normP b)) (normP a) (normP b))) := hSd
  have HBD : Hid (BdS turnP (sideP isPutP isPutP (weight (normP a) + weight (normP b)) (normP a) (normP b)) nst0 0 0) := hBd
  have hS : runS turnP (sideP isPutP isPutP (weight (normP a) + weight (normP b)) (normP a) (normP b)) nst0 = transS true a b := rfl
  have HSM : Hid _ := run_small hBd
  rw [hS] at HSM
  obtain ⟨S, hSe⟩ : ∃ S, transS true a b = S := ⟨_, rfl⟩
  rw [hSe] at HSM ⊢
  have HS : Hid (runS turnP (sideP isPutP isPutP (weight (normP a) + weight (normP b)) (normP a) (normP b)) nst0 = S) := hSe
  rw [hl] at cL2
  generalize (lensW a).1 = A1 at *
  generalize (lensW a).2 = A2 at *
  generalize (lensW b).2 = B2 at *
  obtain ⟨p1, c1, rfl, _⟩ := h1
  obtain ⟨p2, c2, rfl, _⟩ := h2
  clear hT w1 w2 f1 f2 he hV hSd hBd hok hpw hln hmeas hS hSe n1 n2 n3 n4 m1 m2 m3 m4 hl
  go_enter Tryz.func151, Tryz.ntmps151
  go_wp2_with (first
    | (have _ := HG4; go_at_call 9999)
    | (have _ := HB2; go_at_call 96; refine (cL2.out _ HB2.out).mono ?_; rintro e w3 ⟨rfl, hb3⟩; have HB3 : Hid (Below w.heap.size w w3) := HB2.out.trans (hb3.mono HB2.out.size); clear hb3)
    | (go_at_call 96; refine (cL1.out _ HB1.out).mono ?_; rintro e w2 ⟨rfl, hb2⟩; have HB2 : Hid (Below w.heap.size w w2) := HB1.out.trans (hb2.mono HB1.out.size); clear hb2)
    | (go_at_call 175; refine Calls.mono cB.out ?_; rintro e w1 ⟨rfl, hb1⟩; have HB1 : Hid (Below w.heap.size w w1) := hb1; clear hb1)
    | (have _ := HB3; go_at_call 176; refine (gather_any w3).mono ?_; rintro e w4 ⟨rfl, hG4, hz4, hb4⟩; have HG4 : Hid (∀ M w2, Below w4.heap.size w4 w2 → w3.heap.size + 4 ≤ M → M ≤ w2.heap.size → gath M w2 w3.heap.size nst0) := hG4; have HZ4 : Hid (w4.heap.size = w3.heap.size + 4) := hz4; have HB4 : Hid (Below w.heap.size w w4) := HB3.out.trans (hb4.mono HB3.out.size); clear hG4 hz4 hb4)
    | fail)
  obtain ⟨X5, hX5⟩ : ∃ X, X = ((w4.alloc (.cells #[.func (.func 198) #[] #[.pointer (some ⟨w3.heap.size + 1, 0, none⟩), .pointer (some ⟨w3.heap.size + 2, 0, none⟩), .pointer (some ⟨w3.heap.size + 3, 0, none⟩), .pointer (some ⟨w3.heap.size, 0, none⟩)]] 285)).alloc (.cells #[.func (.func 182) #[] #[.pointer (some ⟨w4.heap.size, 0, none⟩)]] 290)) := ⟨_, rfl⟩
  rw [← hX5]
  have H45 : Hid (Below w4.heap.size w4 X5) := by rw [hX5]; exact ((Below.refl _ _).alloc (Nat.le_refl _) _).alloc (by simp) _
  have HX5 : Hid (Below w.heap.size w X5) := HB4.out.trans (H45.out.mono HB4.out.size)
  have HBX : Hid (boxesP [(w4.heap.size, .cells #[addV w3.heap.size] 285 (0, 0)), (w4.heap.size + 1, .cells #[.func (.func 182) #[] #[.pointer (some ⟨w4.heap.size, 0, none⟩)]] 290 (0, 0))] X5) := by
    intro x hx
    simp only [List.mem_cons, List.not_mem_nil, or_false] at hx
    rw [hX5]
    rcases hx with rfl | rfl
    · exact (heap_alloc_old _ _ (by simp)).trans (heap_alloc_new _ _)
    · have := heap_alloc_new (w4.alloc (.cells #[.func (.func 198) #[] #[.pointer (some ⟨w3.heap.size + 1, 0, none⟩), .pointer (some ⟨w3.heap.size + 2, 0, none⟩), .pointer (some ⟨w3.heap.size + 3, 0, none⟩), .pointer (some ⟨w3.heap.size, 0, none⟩)]] 285)) (.cells #[.func (.func 182) #[] #[.pointer (some ⟨w4.heap.size, 0, none⟩)]] 290)
      rwa [World.size_alloc] at this
  have HKX : Hid (∀ x ∈ ([(w4.heap.size, .cells #[addV w3.heap.size] 285 (0, 0)), (w4.heap.size + 1, .cells #[.func (.func 182) #[] #[.pointer (some ⟨w4.heap.size, 0, none⟩)]] 290 (0, 0))] : List (Nat × Obj)), w3.heap.size + 4 ≤ x.1 ∧ (∀ c fz, x.2 ≠ .cells c 5 fz) ∧ ∀ c fz, x.2 ≠ .cells c 50 fz) := by
    intro x hx
    simp only [List.mem_cons, List.not_mem_nil, or_false] at hx; rcases hx with rfl | rfl <;> exact ⟨by have := HZ4.out; simp only; omega, fun c fz e => (by cases e), fun c fz e => (by cases e)⟩
  clear hX5
  have yX : X5.cell? ⟨w4.heap.size + 1, 0, none⟩ = some (.func (.func 182) #[] #[.pointer (some ⟨w4.heap.size, 0, none⟩)]) := Lib.cell_of_heap (HBX.out (w4.heap.size + 1, .cells #[.func (.func 182) #[] #[.pointer (some ⟨w4.heap.size, 0, none⟩)]] 290 (0, 0)) (by simp)) 0
  go_region_with (first
    | (have _ := HO6; go_at_call 177; obtain ⟨g1, g2, hI, ho, i1, i2, i3, i4, i5⟩ := side_ready [(w4.heap.size, .cells #[addV w3.heap.size] 285 (0, 0)), (w4.heap.size + 1, .cells #[.func (.func 182) #[] #[.pointer (some ⟨w4.heap.size, 0, none⟩)]] 290 (0, 0))] HG4.out HZ4.out HBX.out HKX.out H45.out HO5.out HB5.out HS5.out HO6.out HB6.out HS6.out; refine (side_turn _ _ g1 g2 w4.heap.size [(w4.heap.size, .cells #[addV w3.heap.size] 285 (0, 0)), (w4.heap.size + 1, .cells #[.func (.func 182) #[] #[.pointer (some ⟨w4.heap.size, 0, none⟩)]] 290 (0, 0))] _ _ _ _ _ nst0 w6 hI HSD.out HBD.out ho i1 i2 i3 i4 i5 (fun s x T n W hg hbx hB hS hT hn => turnO_any _ _ _ s x.1 x.2 W hg (hbx (w4.heap.size, .cells #[addV w3.heap.size] 285 (0, 0)) (by simp)) hB hS hT hn)).mono ?_; rintro e w7 ⟨⟨v7, rfl⟩, hg7, hx7, hb7⟩; rw [HS.out] at hg7; have HG7 : Hid (gath w6.heap.size w7 w3.heap.size S) := hg7; have HB7 : Hid (Below w3.heap.size w6 w7) := hb7; clear hI ho i1 i2 i3 i4 i5 hg7 hx7 hb7)
    | (have _ := HO5; go_at_call 178; refine (cN2.out _ HW5.out).mono ?_; rintro e w6 ⟨v6, rfl, o6, b6, s6⟩; have HO6 : Hid (w6.ownsRow w5.heap.size 50 3 v6 (normP b).length (cellsP (normP b))) := o6; have HB6 : Hid (Below w5.heap.size w5 w6) := b6; have HS6 : Hid (w5.heap.size + 4 ≤ w6.heap.size) := s6; have HW6 : Hid (Below w.heap.size w w6) := HW5.out.trans (HB6.out.mono HW5.out.size); have HB56 : Hid (Below X5.heap.size X5 w6) := HB5.out.trans (HB6.out.mono HB5.out.size); obtain ⟨pp6, cc6, rfl⟩ := own_slice o6; clear o6 b6 s6; have yw6 : w6.cell? ⟨w4.heap.size + 1, 0, none⟩ = some (.func (.func 182) #[] #[.pointer (some ⟨w4.heap.size, 0, none⟩)]) := Lib.cell_of_heap ((HB56.out.block _ (heap_lt (HBX.out (w4.heap.size + 1, .cells #[.func (.func 182) #[] #[.pointer (some ⟨w4.heap.size, 0, none⟩)]] 290 (0, 0)) (by simp)))).trans (HBX.out (w4.heap.size + 1, .cells #[.func (.func 182) #[] #[.pointer (some ⟨w4.heap.size, 0, none⟩)]] 290 (0, 0)) (by simp))) 0)
    | (go_at_call 178; refine (cN1.out _ (by first | exact HX5.out.drew | exact HX5.out)).mono ?_; rintro e w5 ⟨v5, rfl, o5, b5, s5⟩; have HO5 : Hid (w5.ownsRow X5.heap.size 50 3 v5 (normP a).length (cellsP (normP a))) := o5; have HB5 : Hid (Below X5.heap.size X5 w5) := (by first | exact b5 | exact (Below.refl _ X5).drew.trans b5); have HS5 : Hid (X5.heap.size + 4 ≤ w5.heap.size) := s5; have HW5 : Hid (Below w.heap.size w w5) := HX5.out.trans (HB5.out.mono HX5.out.size); have HR5 : Hid _ := HO5.out; obtain ⟨pp5, cc5, rfl⟩ := own_slice o5; clear o5 b5 s5; have yw5 : w5.cell? ⟨w4.heap.size + 1, 0, none⟩ = some (.func (.func 182) #[] #[.pointer (some ⟨w4.heap.size, 0, none⟩)]) := Lib.cell_of_heap ((HB5.out.block _ (heap_lt (HBX.out (w4.heap.size + 1, .cells #[.func (.func 182) #[] #[.pointer (some ⟨w4.heap.size, 0, none⟩)]] 290 (0, 0)) (by simp)))).trans (HBX.out (w4.heap.size + 1, .cells #[.func (.func 182) #[] #[.pointer (some ⟨w4.heap.size, 0, none⟩)]] 290 (0, 0)) (by simp))) 0)
    | fail)
  all_goals (
    go_wp2_with (first
      | (have _ := HG7; go_at_call 199; refine (done_anyG w3.heap.size S w7 HG7.out HSM.out.1 HSM.out.2).mono ?_; rintro e w8 ⟨v8, rfl, o8, b8⟩)
      | fail)
    obtain ⟨p8, c8, rfl⟩ := own_slice o8
    go_ret2
    exact ⟨_, rfl, opN_own HW6.out.size o8, (HW6.out.trans (HB7.out.mono HB3.out.size)).trans (b8.below.mono HB3.out.size)⟩)

set_option maxRecDepth 100000 in
set_option maxHeartbeats 8000000 in
theorem t2_fineN (v1 v2 : Value) (a b : List Pt) (w : World) (hT : Lib.Utf8Tabs 2 3 w) (h1 : opAt w v1 a) (h2 : opAt w v2 b) (w1 : ∀ p ∈ a, wfP p) (w2 : ∀ p ∈ b, wfP p) (f1 : fineP a) (f2 : fineP b) (he : bothE a b = 0) (hl : (lensW b).1 = (lensW a).1) :
    Calls Tryz.prog 151 #[v1, v2, .bool false] w fun e w' => ∃ v', e = .returned (.tuple #[v', .nilIface]) ∧ opN w.heap.size w' v' (tellP (transS false a b)) ∧ Below w.heap.size w w' := by
  have cB : Hid _ := checkBoth_any v1 v2 a b w hT h1 h2 w1 w2 f1.len f2.len
  have hV : errV (bothE a b) = .nilIface := by unfold errV; rw [if_pos he]
  rw [hV] at cB
  have cL1 : Hid (∀ wx, Below w.heap.size w wx → Calls Tryz.prog 96 #[v1] wx fun e w' => e = .returned (.tuple #[.int .i64 (lensW a).1, .int .i64 (lensW a).2]) ∧ Below wx.heap.size wx w') := fun wx hb => Lens_any v1 a wx (opAt_grown h1 hb) f1.len
  have cL2 : Hid (∀ wx, Below w.heap.size w wx → Calls Tryz.prog 96 #[v2] wx fun e w' => e = .returned (.tuple #[.int .i64 (lensW b).1, .int .i64 (lensW b).2]) ∧ Below wx.heap.size wx w') := fun wx hb => Lens_any v2 b wx (opAt_grown h2 hb) f2.len
  have cN1 : Hid (∀ wx, Below w.heap.size w wx → Calls Tryz.prog 178 #[v2] wx fun e w' => ∃ v', e = .returned v' ∧ w'.ownsRow wx.heap.size 50 3 v' (normP b).length (cellsP (normP b)) ∧ Below wx.heap.size wx w' ∧ wx.heap.size + 4 ≤ w'.heap.size) := fun wx hb => Norm_any4 v2 b wx (opAt_grown h2 hb) (ones_sound f2.one) (by have := f2.w; omega) f2.len
  have cN2 : Hid (∀ wx, Below w.heap.size w wx → Calls Tryz.prog 178 #[v1] wx fun e w' => ∃ v', e = .returned v' ∧ w'.ownsRow wx.heap.size 50 3 v' (normP a).length (cellsP (normP a)) ∧ Below wx.heap.size wx w' ∧ wx.heap.size + 4 ≤ w'.heap.size) := fun wx hb => Norm_any4 v1 a wx (opAt_grown h1 hb) (ones_sound f1.one) (by have := f1.w; omega) f1.len
  obtain ⟨n1, n2, n3, n4⟩ := fine_norm f1
  obtain ⟨m1, m2, m3, m4⟩ := fine_norm f2
  have hmeas : measP isPutP (normP b) = measP isPutP (normP a) := by
    have e1 := (fine_lens f1).1
    have e2 := (fine_lens f1).2
    have e3 := (fine_lens f2).1
    rw [meas_put _ (fun p hp => (n1 p hp).1), meas_put _ (fun p hp => (m1 p hp).1)]
    omega
  obtain ⟨hSd, hok, hpw, hln⟩ := side_ok kind_put kind_put (weight (normP b) + weight (normP a)) (normP b) (normP a) m1 n1 hmeas (Nat.le_refl _)
  have hBd : BdS (fun x => turnP (x.2, x.1)) (sideP isPutP isPutP (weight (normP b) + weight (normP a)) (normP b) (normP a)) nst0 0 0 := bdS_of take_turn2 hok (by rw [hpw]; omega) (by omega)
  have HSD : Hid (Side isPutP isPutP (normP b) (normP a) (sideP isPutP isPutP (weight (normP b) + weight (normP a)) (normP b) (normP a))) := hSd
  have HBD : Hid (BdS (fun x => turnP (x.2, x.1)) (sideP isPutP isPutP (weight (normP b) + weight (normP a)) (normP b) (normP a)) nst0 0 0) := hBd
  have hS : runS (fun x => turnP (x.2, x.1)) (sideP isPutP isPutP (weight (normP b) + weight (normP a)) (normP b) (normP a)) nst0 = transS false a b := rfl
  have HSM : Hid _ := run_small hBd
  rw [hS] at HSM
  obtain ⟨S, hSe⟩ : ∃ S, transS false a b = S := ⟨_, rfl⟩
  rw [hSe] at HSM ⊢
  have HS : Hid (runS (fun x => turnP (x.2, x.1)) (sideP isPutP isPutP (weight (normP b) + weight (normP a)) (normP b) (normP a)) nst0 = S) := hSe
  rw [hl] at cL2
  generalize (lensW a).1 = A1 at *
  generalize (lensW a).2 = A2 at *
  generalize (lensW b).2 = B2 at *
  obtain ⟨p1, c1, rfl, _⟩ := h1
  obtain ⟨p2, c2, rfl, _⟩ := h2
  clear hT w1 w2 f1 f2 he hV hSd hBd hok hpw hln hmeas hS hSe n1 n2 n3 n4 m1 m2 m3 m4 hl
  go_enter Tryz.func151, Tryz.ntmps151
  go_wp2_with (first
    | (have _ := HG4; go_at_call 9999)
    | (have _ := HB2; go_at_call 96; refine (cL2.out _ HB2.out).mono ?_; rintro e w3 ⟨rfl, hb3⟩; have HB3 : Hid (Below w.heap.size w w3) := HB2.out.trans (hb3.mono HB2.out.size); clear hb3)
    | (go_at_call 96; refine (cL1.out _ HB1.out).mono ?_; rintro e w2 ⟨rfl, hb2⟩; have HB2 : Hid (Below w.heap.size w w2) := HB1.out.trans (hb2.mono HB1.out.size); clear hb2)
    | (go_at_call 175; refine Calls.mono cB.out ?_; rintro e w1 ⟨rfl, hb1⟩; have HB1 : Hid (Below w.heap.size w w1) := hb1; clear hb1)
    | (have _ := HB3; go_at_call 176; refine (gather_any w3).mono ?_; rintro e w4 ⟨rfl, hG4, hz4, hb4⟩; have HG4 : Hid (∀ M w2, Below w4.heap.size w4 w2 → w3.heap.size + 4 ≤ M → M ≤ w2.heap.size → gath M w2 w3.heap.size nst0) := hG4; have HZ4 : Hid (w4.heap.size = w3.heap.size + 4) := hz4; have HB4 : Hid (Below w.heap.size w w4) := HB3.out.trans (hb4.mono HB3.out.size); clear hG4 hz4 hb4)
    | fail)
  obtain ⟨X5, hX5⟩ : ∃ X, X = ((w4.alloc (.cells #[.func (.func 198) #[] #[.pointer (some ⟨w3.heap.size + 1, 0, none⟩), .pointer (some ⟨w3.heap.size + 2, 0, none⟩), .pointer (some ⟨w3.heap.size + 3, 0, none⟩), .pointer (some ⟨w3.heap.size, 0, none⟩)]] 285)).alloc (.cells #[.func (.func 182) #[] #[.pointer (some ⟨w4.heap.size, 0, none⟩)]] 290)) := ⟨_, rfl⟩
  rw [← hX5]
  have H45 : Hid (Below w4.heap.size w4 X5) := by rw [hX5]; exact ((Below.refl _ _).alloc (Nat.le_refl _) _).alloc (by simp) _
  have HX5 : Hid (Below w.heap.size w X5) := HB4.out.trans (H45.out.mono HB4.out.size)
  have HBX : Hid (boxesP [(w4.heap.size, .cells #[addV w3.heap.size] 285 (0, 0)), (w4.heap.size + 1, .cells #[.func (.func 182) #[] #[.pointer (some ⟨w4.heap.size, 0, none⟩)]] 290 (0, 0))] X5) := by
    intro x hx
    simp only [List.mem_cons, List.not_mem_nil, or_false] at hx
    rw [hX5]
    rcases hx with rfl | rfl
    · exact (heap_alloc_old _ _ (by simp)).trans (heap_alloc_new _ _)
    · have := heap_alloc_new (w4.alloc (.cells #[.func (.func 198) #[] #[.pointer (some ⟨w3.heap.size + 1, 0, none⟩), .pointer (some ⟨w3.heap.size + 2, 0, none⟩), .pointer (some ⟨w3.heap.size + 3, 0, none⟩), .pointer (some ⟨w3.heap.size, 0, none⟩)]] 285)) (.cells #[.func (.func 182) #[] #[.pointer (some ⟨w4.heap.size, 0, none⟩)]] 290)
      rwa [World.size_alloc] at this
  have HKX : Hid (∀ x ∈ ([(w4.heap.size, .cells #[addV w3.heap.size] 285 (0, 0)), (w4.heap.size + 1, .cells #[.func (.func 182) #[] #[.pointer (some ⟨w4.heap.size, 0, none⟩)]] 290 (0, 0))] : List (Nat × Obj)), w3.heap.size + 4 ≤ x.1 ∧ (∀ c fz, x.2 ≠ .cells c 5 fz) ∧ ∀ c fz, x.2 ≠ .cells c 50 fz) := by
    intro x hx
    simp only [List.mem_cons, List.not_mem_nil, or_false] at hx; rcases hx with rfl | rfl <;> exact ⟨by have := HZ4.out; simp only; omega, fun c fz e => (by cases e), fun c fz e => (by cases e)⟩
  clear hX5
  refine (cN1.out _ HX5.out).mono ?_
  rintro e w5 ⟨v5, rfl, o5, b5, s5⟩
  have HO5 : Hid (w5.ownsRow X5.heap.size 50 3 v5 (normP b).length (cellsP (normP b))) := o5
  have HB5 : Hid (Below X5.heap.size X5 w5) := (by first | exact b5 | exact (Below.refl _ X5).drew.trans b5)
  have HS5 : Hid (X5.heap.size + 4 ≤ w5.heap.size) := s5
  have HW5 : Hid (Below w.heap.size w w5) := HX5.out.trans (HB5.out.mono HX5.out.size)
  have HR5 : Hid _ := HO5.out
  obtain ⟨pp5, cc5, rfl⟩ := own_slice o5
  clear o5 b5 s5
  go_wp2_with (first
    | (have _ := HG7; go_at_call 199; refine (done_anyG w3.heap.size S w7 HG7.out HSM.out.1 HSM.out.2).mono ?_; rintro e w8 ⟨v8, rfl, o8, b8⟩)
    | (have _ := HO6; go_at_call 177; obtain ⟨g1, g2, hI, ho, i1, i2, i3, i4, i5⟩ := side_ready [(w4.heap.size, .cells #[addV w3.heap.size] 285 (0, 0)), (w4.heap.size + 1, .cells #[.func (.func 182) #[] #[.pointer (some ⟨w4.heap.size, 0, none⟩)]] 290 (0, 0))] HG4.out HZ4.out HBX.out HKX.out H45.out HO5.out HB5.out HS5.out HO6.out HB6.out HS6.out; refine (side_turn2 _ _ g1 g2 (w4.heap.size + 1) [(w4.heap.size, .cells #[addV w3.heap.size] 285 (0, 0)), (w4.heap.size + 1, .cells #[.func (.func 182) #[] #[.pointer (some ⟨w4.heap.size, 0, none⟩)]] 290 (0, 0))] _ _ _ _ _ nst0 w6 hI HSD.out HBD.out ho i1 i2 i3 i4 i5 (fun s x T n W hg hbx hB hS hT hn => turn2_any _ _ w4.heap.size _ s x.1 x.2 W hg (hbx (w4.heap.size, .cells #[addV w3.heap.size] 285 (0, 0)) (by simp)) (hbx (w4.heap.size + 1, .cells #[.func (.func 182) #[] #[.pointer (some ⟨w4.heap.size, 0, none⟩)]] 290 (0, 0)) (by simp)) hB hS hT hn)).mono ?_; rintro e w7 ⟨⟨v7, rfl⟩, hg7, hx7, hb7⟩; rw [HS.out] at hg7; have HG7 : Hid (gath w6.heap.size w7 w3.heap.size S) := hg7; have HB7 : Hid (Below w3.heap.size w6 w7) := hb7; clear hI ho i1 i2 i3 i4 i5 hg7 hx7 hb7)
    | (have _ := HO5; go_at_call 178; refine (cN2.out _ HW5.out).mono ?_; rintro e w6 ⟨v6, rfl, o6, b6, s6⟩; have HO6 : Hid (w6.ownsRow w5.heap.size 50 3 v6 (normP a).length (cellsP (normP a))) := o6; have HB6 : Hid (Below w5.heap.size w5 w6) := b6; have HS6 : Hid (w5.heap.size + 4 ≤ w6.heap.size) := s6; have HW6 : Hid (Below w.heap.size w w6) := HW5.out.trans (HB6.out.mono HW5.out.size); have HB56 : Hid (Below X5.heap.size X5 w6) := HB5.out.trans (HB6.out.mono HB5.out.size); obtain ⟨pp6, cc6, rfl⟩ := own_slice o6; clear o6 b6 s6)
    | fail)
  obtain ⟨p8, c8, rfl⟩ := own_slice o8
  go_ret2
  exact ⟨_, rfl, opN_own HW6.out.size o8, (HW6.out.trans (HB7.out.mono HB3.out.size)).trans (b8.below.mono HB3.out.size)⟩

set_option maxRecDepth 100000 in
set_option maxHeartbeats 8000000 in
theorem comp_fineN (v1 v2 : Value) (a b : List Pt) (w : World) (hT : Lib.Utf8Tabs 2 3 w) (h1 : opAt w v1 a) (h2 : opAt w v2 b) (w1 : ∀ p ∈ a, wfP p) (w2 : ∀ p ∈ b, wfP p) (f1 : fineP a) (f2 : fineP b) (he : bothE a b = 0) (hl : (lensW b).1 = (lensW a).2) :
    Calls Tryz.prog 146 #[v1, v2] w fun e w' => ∃ v', e = .returned (.tuple #[v', .nilIface]) ∧ opN w.heap.size w' v' (tellP (compS a b)) ∧ Below w.heap.size w w' := by
  have cB : Hid _ := checkBoth_any v1 v2 a b w hT h1 h2 w1 w2 f1.len f2.len
  have hV : errV (bothE a b) = .nilIface := by unfold errV; rw [if_pos he]
  rw [hV] at cB
  have cL1 : Hid (∀ wx, Below w.heap.size w wx → Calls Tryz.prog 96 #[v1] wx fun e w' => e = .returned (.tuple #[.int .i64 (lensW a).1, .int .i64 (lensW a).2]) ∧ Below wx.heap.size wx w') := fun wx hb => Lens_any v1 a wx (opAt_grown h1 hb) f1.len
  have cL2 : Hid (∀ wx, Below w.heap.size w wx → Calls Tryz.prog 96 #[v2] wx fun e w' => e = .returned (.tuple #[.int .i64 (lensW b).1, .int .i64 (lensW b).2]) ∧ Below wx.heap.size wx w') := fun wx hb => Lens_any v2 b wx (opAt_grown h2 hb) f2.len
  have cN1 : Hid (∀ wx, Below w.heap.size w wx → Calls Tryz.prog 178 #[v1] wx fun e w' => ∃ v', e = .returned v' ∧ w'.ownsRow wx.heap.size 50 3 v' (normP a).length (cellsP (normP a)) ∧ Below wx.heap.size wx w' ∧ wx.heap.size + 4 ≤ w'.heap.size) := fun wx hb => Norm_any4 v1 a wx (opAt_grown h1 hb) (ones_sound f1.one) (by have := f1.w; omega) f1.len
  have cN2 : Hid (∀ wx, Below w.heap.size w wx → Calls Tryz.prog 178 #[v2] wx fun e w' => ∃ v', e = .returned v' ∧ w'.ownsRow wx.heap.size 50 3 v' (normP b).length (cellsP (normP b)) ∧ Below wx.heap.size wx w' ∧ wx.heap.size + 4 ≤ w'.heap.size) := fun wx hb => Norm_any4 v2 b wx (opAt_grown h2 hb) (ones_sound f2.one) (by have := f2.w; omega) f2.len
  obtain ⟨n1, n2, n3, n4⟩ := fine_norm f1
  obtain ⟨m1, m2, m3, m4⟩ := fine_norm f2
  have hmeas : measP isDropP (normP a) = measP isPutP (normP b) := by
    have e1 := (fine_lens f1).1
    have e2 := (fine_lens f1).2
    have e3 := (fine_lens f2).1
    rw [meas_put _ (fun p hp => (m1 p hp).1), meas_drop _ (fun p hp => (n1 p hp).1)]
    omega
  obtain ⟨hSd, hok, hpw, hln⟩ := side_ok kind_drop kind_put (weight (normP a) + weight (normP b)) (normP a) (normP b) n1 m1 hmeas (Nat.le_refl _)
  have hBd : BdS compP (sideP isDropP isPutP (weight (normP a) + weight (normP b)) (normP a) (normP b)) nst0 0 0 := bdS_of take_comp hok (by rw [hpw]; omega) (by omega)
  have HSD : Hid (Side isDropP isPutP (normP a) (normP b) (sideP isDropP isPutP (weight (normP a) + weight (normP b)) (normP a) (normP b))) := hSd
  have HBD : Hid (BdS compP (sideP isDropP isPutP (weight (normP a) + weight (normP b)) (normP a) (normP b)) nst0 0 0) := hBd
  have hS : runS compP (sideP isDropP isPutP (weight (normP a) + weight (normP b)) (normP a) (normP b)) nst0 = compS a b := rfl
  have HSM : Hid _ := run_small hBd
  rw [hS] at HSM
  obtain ⟨S, hSe⟩ : ∃ S, compS a b = S := ⟨_, rfl⟩
  rw [hSe] at HSM ⊢
  have HS : Hid (runS compP (sideP isDropP isPutP (weight (normP a) + weight (normP b)) (normP a) (normP b)) nst0 = S) := hSe
  rw [hl] at cL2
  generalize (lensW a).1 = A1 at *
  generalize (lensW a).2 = A2 at *
  generalize (lensW b).2 = B2 at *
  obtain ⟨p1, c1, rfl, _⟩ := h1
  obtain ⟨p2, c2, rfl, _⟩ := h2
  clear hT w1 w2 f1 f2 he hV hSd hBd hok hpw hln hmeas hS hSe n1 n2 n3 n4 m1 m2 m3 m4 hl
  go_enter Tryz.func146, Tryz.ntmps146
  go_wp2_with (first
    | (have _ := HG4; go_at_call 9999)
    | (have _ := HB2; go_at_call 96; refine (cL2.out _ HB2.out).mono ?_; rintro e w3 ⟨rfl, hb3⟩; have HB3 : Hid (Below w.heap.size w w3) := HB2.out.trans (hb3.mono HB2.out.size); clear hb3)
    | (go_at_call 96; refine (cL1.out _ HB1.out).mono ?_; rintro e w2 ⟨rfl, hb2⟩; have HB2 : Hid (Below w.heap.size w w2) := HB1.out.trans (hb2.mono HB1.out.size); clear hb2)
    | (go_at_call 175; refine Calls.mono cB.out ?_; rintro e w1 ⟨rfl, hb1⟩; have HB1 : Hid (Below w.heap.size w w1) := hb1; clear hb1)
    | (have _ := HB3; go_at_call 176; refine (gather_any w3).mono ?_; rintro e w4 ⟨rfl, hG4, hz4, hb4⟩; have HG4 : Hid (∀ M w2, Below w4.heap.size w4 w2 → w3.heap.size + 4 ≤ M → M ≤ w2.heap.size → gath M w2 w3.heap.size nst0) := hG4; have HZ4 : Hid (w4.heap.size = w3.heap.size + 4) := hz4; have HB4 : Hid (Below w.heap.size w w4) := HB3.out.trans (hb4.mono HB3.out.size); clear hG4 hz4 hb4)
    | fail)
  obtain ⟨X5, hX5⟩ : ∃ X, X = (w4.alloc (.cells #[.func (.func 198) #[] #[.pointer (some ⟨w3.heap.size + 1, 0, none⟩), .pointer (some ⟨w3.heap.size + 2, 0, none⟩), .pointer (some ⟨w3.heap.size + 3, 0, none⟩), .pointer (some ⟨w3.heap.size, 0, none⟩)]] 285)) := ⟨_, rfl⟩
  rw [← hX5]
  have H45 : Hid (Below w4.heap.size w4 X5) := by rw [hX5]; exact (Below.refl _ _).alloc (Nat.le_refl _) _
  have HX5 : Hid (Below w.heap.size w X5) := HB4.out.trans (H45.out.mono HB4.out.size)
  have HBX : Hid (boxesP [(w4.heap.size, .cells #[addV w3.heap.size] 285 (0, 0))] X5) := by
    intro x hx
    simp only [List.mem_singleton] at hx
    subst hx
    rw [hX5]
    exact heap_alloc_new _ _
  have HKX : Hid (∀ x ∈ ([(w4.heap.size, .cells #[addV w3.heap.size] 285 (0, 0))] : List (Nat × Obj)), w3.heap.size + 4 ≤ x.1 ∧ (∀ c fz, x.2 ≠ .cells c 5 fz) ∧ ∀ c fz, x.2 ≠ .cells c 50 fz) := by
    intro x hx
    simp only [List.mem_singleton] at hx; subst hx; exact ⟨by have := HZ4.out; omega, fun c fz e => (by cases e), fun c fz e => (by cases e)⟩
  clear hX5
  refine (cN1.out _ HX5.out).mono ?_
  rintro e w5 ⟨v5, rfl, o5, b5, s5⟩
  have HO5 : Hid (w5.ownsRow X5.heap.size 50 3 v5 (normP a).length (cellsP (normP a))) := o5
  have HB5 : Hid (Below X5.heap.size X5 w5) := (by first | exact b5 | exact (Below.refl _ X5).drew.trans b5)
  have HS5 : Hid (X5.heap.size + 4 ≤ w5.heap.size) := s5
  have HW5 : Hid (Below w.heap.size w w5) := HX5.out.trans (HB5.out.mono HX5.out.size)
  have HR5 : Hid _ := HO5.out
  obtain ⟨pp5, cc5, rfl⟩ := own_slice o5
  clear o5 b5 s5
  go_wp2_with (first
    | (have _ := HG7; go_at_call 199; refine (done_anyG w3.heap.size S w7 HG7.out HSM.out.1 HSM.out.2).mono ?_; rintro e w8 ⟨v8, rfl, o8, b8⟩)
    | (have _ := HO6; go_at_call 177; obtain ⟨g1, g2, hI, ho, i1, i2, i3, i4, i5⟩ := side_ready [(w4.heap.size, .cells #[addV w3.heap.size] 285 (0, 0))] HG4.out HZ4.out HBX.out HKX.out H45.out HO5.out HB5.out HS5.out HO6.out HB6.out HS6.out; refine (side_comp _ _ g1 g2 w4.heap.size [(w4.heap.size, .cells #[addV w3.heap.size] 285 (0, 0))] _ _ _ _ _ nst0 w6 hI HSD.out HBD.out ho i1 i2 i3 i4 i5 (fun s x T n W hg hbx hB hS hT hn => comp_any _ _ _ s x.1 x.2 W hg (hbx (w4.heap.size, .cells #[addV w3.heap.size] 285 (0, 0)) (by simp)) hB hS hT hn)).mono ?_; rintro e w7 ⟨⟨v7, rfl⟩, hg7, hx7, hb7⟩; rw [HS.out] at hg7; have HG7 : Hid (gath w6.heap.size w7 w3.heap.size S) := hg7; have HB7 : Hid (Below w3.heap.size w6 w7) := hb7; clear hI ho i1 i2 i3 i4 i5 hg7 hx7 hb7)
    | (have _ := HO5; go_at_call 178; refine (cN2.out _ HW5.out).mono ?_; rintro e w6 ⟨v6, rfl, o6, b6, s6⟩; have HO6 : Hid (w6.ownsRow w5.heap.size 50 3 v6 (normP b).length (cellsP (normP b))) := o6; have HB6 : Hid (Below w5.heap.size w5 w6) := b6; have HS6 : Hid (w5.heap.size + 4 ≤ w6.heap.size) := s6; have HW6 : Hid (Below w.heap.size w w6) := HW5.out.trans (HB6.out.mono HW5.out.size); have HB56 : Hid (Below X5.heap.size X5 w6) := HB5.out.trans (HB6.out.mono HB5.out.size); obtain ⟨pp6, cc6, rfl⟩ := own_slice o6; clear o6 b6 s6)
    | fail)
  obtain ⟨p8, c8, rfl⟩ := own_slice o8
  go_ret2
  exact ⟨_, rfl, opN_own HW6.out.size o8, (HW6.out.trans (HB7.out.mono HB3.out.size)).trans (b8.below.mono HB3.out.size)⟩

theorem t1_fine (v1 v2 : Value) (a b : List Pt) (w : World) (hT : Lib.Utf8Tabs 2 3 w) (h1 : opAt w v1 a) (h2 : opAt w v2 b) (w1 : ∀ p ∈ a, wfP p) (w2 : ∀ p ∈ b, wfP p) (f1 : fineP a) (f2 : fineP b) (he : bothE a b = 0) (hl : (lensW b).1 = (lensW a).1) :
    Calls Tryz.prog 151 #[v1, v2, .bool true] w fun e w' => ∃ v', e = .returned (.tuple #[v', .nilIface]) ∧ opAt w' v' (tellP (transS true a b)) ∧ Below w.heap.size w w' :=
  (t1_fineN v1 v2 a b w hT h1 h2 w1 w2 f1 f2 he hl).mono fun e w' ⟨v', q1, q2, q3⟩ => ⟨v', q1, q2.1, q3⟩
theorem t2_fine (v1 v2 : Value) (a b : List Pt) (w : World) (hT : Lib.Utf8Tabs 2 3 w) (h1 : opAt w v1 a) (h2 : opAt w v2 b) (w1 : ∀ p ∈ a, wfP p) (w2 : ∀ p ∈ b, wfP p) (f1 : fineP a) (f2 : fineP b) (he : bothE a b = 0) (hl : (lensW b).1 = (lensW a).1) :
    Calls Tryz.prog 151 #[v1, v2, .bool false] w fun e w' => ∃ v', e = .returned (.tuple #[v', .nilIface]) ∧ opAt w' v' (tellP (transS false a b)) ∧ Below w.heap.size w w' :=
  (t2_fineN v1 v2 a b w hT h1 h2 w1 w2 f1 f2 he hl).mono fun e w' ⟨v', q1, q2, q3⟩ => ⟨v', q1, q2.1, q3⟩
theorem comp_fine (v1 v2 : Value) (a b : List Pt) (w : World) (hT : Lib.Utf8Tabs 2 3 w) (h1 : opAt w v1 a) (h2 : opAt w v2 b) (w1 : ∀ p ∈ a, wfP p) (w2 : ∀ p ∈ b, wfP p) (f1 : fineP a) (f2 : fineP b) (he : bothE a b = 0) (hl : (lensW b).1 = (lensW a).2) :
    Calls Tryz.prog 146 #[v1, v2] w fun e w' => ∃ v', e = .returned (.tuple #[v', .nilIface]) ∧ opAt w' v' (tellP (compS a b)) ∧ Below w.heap.size w w' :=
  (comp_fineN v1 v2 a b w hT h1 h2 w1 w2 f1 f2 he hl).mono fun e w' ⟨v', q1, q2, q3⟩ => ⟨v', q1, q2.1, q3⟩
end Go.Proofs.YtldhbjmillfjgabGreatDoor

namespace Go.Proofs.YtldhbjmillfjgabGreatDoor
set_option linter.unusedVariables false

/-- Bytes of whole runes. -/
def V (l : List UInt8) : Prop := ∃ rs : List Nat, (∀ r ∈ rs, isRune r) ∧ l = encs rs
theorem V_nil : V [] := ⟨[], by simp, rfl⟩
theorem V_append {a b : List UInt8} (ha : V a) (hb : V b) : V (a ++ b) := by
  obtain ⟨x, hx, rfl⟩ := ha
  obtain ⟨y, hy, rfl⟩ := hb
  exact ⟨x ++ y, fun r hr => (List.mem_append.1 hr).elim (hx r) (hy r), (encs_append x y).symm⟩
theorem V_scan {l : List UInt8} (h : V l) : (scan l).2 = true := by
  obtain ⟨x, hx, rfl⟩ := h
  rw [scan_encs x hx]
theorem V_of_scan {l : List UInt8} (h : (scan l).2 = true) : V l := ⟨runesOf l, fun r hr => runesOf_rune hr, (encs_runesOf h).symm⟩
theorem V_rest {a b : List UInt8} (ha : V a) (hab : V (a ++ b)) : V b := by
  obtain ⟨rs, hr, rfl⟩ := ha
  induction rs generalizing b with
  | nil => exact hab
  | cons r rs ih =>
    obtain ⟨qs, hq, e⟩ := hab
    rw [encs_cons, List.append_assoc] at e
    have h1 := dec_enc (hr r (by simp)) (encs rs ++ b)
    cases qs with
    | nil =>
      have := congrArg List.length e
      have h2 := List.length_pos_iff.2 (enc_ne r)
      have h3 : (encs []).length = 0 := rfl
      rw [List.length_append] at this
      omega
    | cons q qs =>
      rw [encs_cons] at e
      have h2 := dec_enc (hq q (by simp)) (encs qs)
      rw [← e, h1.1] at h2
      obtain ⟨h2, _⟩ := h2
      obtain rfl : r = q := congrArg Prod.fst h2
      exact ih (fun x hx => hr x (by simp [hx])) ⟨qs, fun x hx => hq x (by simp [hx]), List.append_cancel_left e⟩
theorem V_start {b : UInt8} {l : List UInt8} (h : V (b :: l)) : startO b = true := by
  obtain ⟨rs, hr, e⟩ := h
  cases rs with
  | nil => simp [encs] at e
  | cons r rs =>
    obtain ⟨b0, t, e2, h1, _⟩ := enc_starts (hr r (by simp))
    rw [encs_cons, e2, List.cons_append] at e
    have : b = b0 := (List.cons.inj e).1
    rw [this]; exact h1
theorem V_take {l : List UInt8} {n : Nat} (hl : V l) (hn : V (l.take n)) : V (l.drop n) := V_rest hn (by rw [List.take_append_drop]; exact hl)

/-- Puts whole runes, and ends nowhere within one. -/
def al : List Pt → List UInt8 → Prop
  | [], _ => True
  | p :: ps, t => V p.put ∧ V (t.take (lenP p).toNat) ∧ al ps (t.drop (lenP p).toNat)
structure good (ps : List Pt) (t : List UInt8) : Prop where
  one : ∀ p ∈ ps, oneP p
  long : longP ps = t.length
  al : al ps t

theorem long_cons (p : Pt) (ps : List Pt) : longP (p :: ps) = lenP p + longP ps := by simp [longP]
theorem one_len {p : Pt} (h : oneP p) : 0 ≤ lenP p := by
  rcases h with ⟨h1, h2, h3⟩ | ⟨h1, h2, h3⟩ | ⟨h1, h2, h3⟩ <;> simp only [lenP] <;> omega
theorem long_pos {ps : List Pt} (h : ∀ p ∈ ps, oneP p) : 0 ≤ longP ps := by
  induction ps with
  | nil => simp [longP]
  | cons p ps ih =>
    have h1 := ih fun q hq => h q (by simp [hq])
    have h2 := one_len (h p (by simp))
    rw [long_cons]; omega
theorem oneB_of {p : Pt} (h : oneP p) : oneB p = true := by
  unfold oneB
  obtain ⟨K, D, U⟩ := p
  rcases h with ⟨h1, h2, h3⟩ | ⟨h1, h2, h3⟩ | ⟨h1, h2, h3⟩
  · obtain rfl : D = 0 := h2
    obtain rfl : U = [] := h3
    simp; exact h1
  · obtain rfl : K = 0 := h1
    obtain rfl : U = [] := h3
    have h2 : 0 < D := h2
    have : D ≠ 0 := by omega
    simp [this]; exact h2
  · obtain rfl : K = 0 := h1
    obtain rfl : D = 0 := h2
    have h3 : U ≠ [] := h3
    simp [h3]
theorem chk_of {ps : List Pt} {n : Int} (h1 : ∀ p ∈ ps, oneP p) (h2 : ∀ p ∈ ps, V p.put) (h3 : longP ps = n) : chkE ps n = 0 := by
  have e1 : chk1 ps = 0 := by
    clear h3
    induction ps with
    | nil => rfl
    | cons p ps ih =>
      rw [chk1, if_pos (oneB_of (h1 p (by simp))), if_pos (V_scan (h2 p (by simp)))]
      exact ih (fun q hq => h1 q (by simp [hq])) fun q hq => h2 q (by simp [hq])
  unfold chkE
  rw [if_pos e1]
  clear e1 h2
  induction ps generalizing n with
  | nil => simp [longP] at h3; simp [chk2, ← h3]
  | cons p ps ih =>
    rw [long_cons] at h3
    have h4 := long_pos fun q hq => h1 q (List.mem_cons_of_mem _ hq)
    have h5 : p.keep + p.drop = lenP p := rfl
    rw [chk2, if_neg (by omega)]
    exact ih (fun q hq => h1 q (by simp [hq])) (by omega)
theorem al_puts : ∀ {ps : List Pt} {t : List UInt8}, al ps t → ∀ p ∈ ps, V p.put
  | [], _, _, p, hp => by cases hp
  | q :: ps, t, h, p, hp => by
    rcases List.mem_cons.1 hp with rfl | hp
    · exact h.1
    · exact al_puts h.2.2 p hp
theorem bad_of : ∀ {ps : List Pt} {t : List UInt8}, al ps t → badO ps t = false
  | [], _, _ => rfl
  | p :: ps, t, h => by
    rw [badO, bad_of h.2.2, Bool.or_false]
    have := h.2.1
    generalize t.take (lenP p).toNat = l at this
    cases l with
    | nil => rfl
    | cons b l => simp [badPiece, V_start this]
theorem good.chk {ps : List Pt} {t : List UInt8} (h : good ps t) : chkE ps (t.length : Int) = 0 := chk_of h.one (al_puts h.al) h.long
theorem good.ord {ps : List Pt} {t : List UInt8} (h : good ps t) : ordE ps t = 0 := by
  unfold ordE
  rw [if_pos h.chk, bad_of h.al]; rfl

theorem apply_cons (p : Pt) (ps : List Pt) (t : List UInt8) : applyP (p :: ps) t = madeP (p, t.take (lenP p).toNat) ++ applyP ps (t.drop (lenP p).toNat) := rfl
theorem apply_V : ∀ {ps : List Pt} {t : List UInt8}, al ps t → V (applyP ps t)
  | [], _, _ => V_nil
  | p :: ps, t, h => by
    rw [apply_cons]
    refine V_append ?_ (apply_V h.2.2)
    unfold madeP
    refine V_append ?_ h.1
    split
    · exact h.2.1
    · exact V_nil
theorem apply_put (u : List UInt8) (ps : List Pt) (t : List UInt8) : applyP (⟨0, 0, u⟩ :: ps) t = u ++ applyP ps t := by
  simp [apply_cons, madeP, lenP]
theorem apply_keep (n : Int) (hn : 0 < n) (ps : List Pt) (t : List UInt8) : applyP (⟨n, 0, []⟩ :: ps) t = t.take n.toNat ++ applyP ps (t.drop n.toNat) := by
  simp [apply_cons, madeP, lenP, hn]
theorem apply_drop (n : Int) (ps : List Pt) (t : List UInt8) : applyP (⟨0, n, []⟩ :: ps) t = applyP ps (t.drop n.toNat) := by
  simp [apply_cons, madeP, lenP]

/-- What is made, and what is left. -/
def actA (x : List UInt8 × List UInt8) (p : Pt) : List UInt8 × List UInt8 := (x.1 ++ (p.put ++ (x.2.drop p.drop.toNat).take p.keep.toNat), (x.2.drop p.drop.toNat).drop p.keep.toNat)
theorem actA_ok : ActP actA := by
  constructor
  · intro x; simp [actA]
  · intro x u v; simp [actA]
  · intro x a b ha hb
    simp only [actA, Int.toNat_zero, List.take_zero, List.append_nil, List.drop_drop, Nat.add_zero]
    rw [show a.toNat + b.toNat = (a + b).toNat by omega]
  · intro x a b ha hb
    simp only [actA, List.nil_append, Int.toNat_zero, List.drop_zero, List.drop_drop, List.append_assoc]
    rw [show (a + b).toNat = a.toNat + b.toNat by omega, List.take_add]
    simp only [Nat.add_zero]
  · intro x k d u; simp [actA]
  · intro x d u; simp [actA]
theorem actA_apply : ∀ (ps : List Pt), (∀ p ∈ ps, oneP p) → ∀ (o t : List UInt8), ps.foldl actA (o, t) = (o ++ applyP ps t, t.drop (longP ps).toNat)
  | [], _, o, t => by simp [applyP, pcs, longP]
  | p :: ps, h, o, t => by
    have h0 := long_pos fun q hq => h q (List.mem_cons_of_mem _ hq)
    rw [List.foldl_cons, actA, actA_apply ps fun q hq => h q (by simp [hq])]
    rw [long_cons]
    rcases one_three (h p (by simp)) with ⟨u, hu, rfl⟩ | ⟨m, rfl⟩ | ⟨m, rfl⟩
    · rw [apply_put]; simp [lenP]
    · rw [apply_keep _ (by omega)]
      simp only [lenP, Int.toNat_zero, List.drop_zero, List.nil_append, List.append_assoc, List.drop_drop]
      rw [show ((m : Int) + 1 + 0 + longP ps).toNat = ((m : Int) + 1).toNat + (longP ps).toNat by omega]
    · rw [apply_drop]
      simp only [lenP, Int.toNat_zero, List.append_nil, List.take_zero, List.drop_drop, Nat.add_zero]
      rw [show (0 + ((m : Int) + 1) + longP ps).toNat = ((m : Int) + 1).toNat + (longP ps).toNat by omega]

/-- Each part begins, and ends, where one may. -/
def Cut (E : Int → Prop) : Int → List Pt → Prop
  | i, [] => E i
  | i, p :: ps => E i ∧ Cut E (i + lenP p) ps
theorem Cut_head {E : Int → Prop} {i : Int} {ps : List Pt} (h : Cut E i ps) : E i := by
  cases ps with
  | nil => exact h
  | cons p ps => exact h.1
theorem Cut_append (E : Int → Prop) : ∀ (a b : List Pt) (i : Int), Cut E i (a ++ b) ↔ Cut E i a ∧ Cut E (i + longP a) b
  | [], b, i => by
    simp only [List.nil_append, longP, List.map_nil, List.sum_nil, Int.add_zero]
    exact ⟨fun h => ⟨Cut_head h, h⟩, fun h => h.2⟩
  | p :: a, b, i => by
    rw [List.cons_append, long_cons, ← Int.add_assoc]
    show (E i ∧ Cut E (i + lenP p) (a ++ b)) ↔ (E i ∧ Cut E (i + lenP p) a) ∧ _
    rw [Cut_append E a b, and_assoc]
theorem Cut_end {E : Int → Prop} {i : Int} {ps : List Pt} (h : Cut E i ps) : E (i + longP ps) := by
  have := (Cut_append E ps [] i).1 (by rw [List.append_nil]; exact h)
  exact this.2
structure CutS (E : Int → Prop) (s : NSt) : Prop where
  out : Cut E 0 s.out
  here : E (longS s)
  puts : ∀ p ∈ s.out, V p.put
  put : V s.put
  one : OneS s
theorem cut_tell {E : Int → Prop} {s : NSt} (h : CutS E s) : Cut E 0 (tellP s) ∧ ∀ p ∈ tellP s, V p.put := by
  have h1 := Cut_end h.out
  rw [Int.zero_add] at h1
  have h2 := h.here
  unfold longS at h2
  unfold tellP
  refine ⟨(Cut_append ..).2 ⟨h.out, ?_⟩, ?_⟩
  · rw [Int.zero_add]
    have key : Cut E (longP s.out) (if s.drop = 0 then [] else [⟨0, s.drop, []⟩]) := by
      split
      · exact h1
      · refine ⟨h1, ?_⟩
        show E (longP s.out + (0 + s.drop))
        rw [Int.zero_add]; exact h2
    split
    · exact key
    · refine ⟨h1, ?_⟩
      show Cut E (longP s.out + (0 + 0)) _
      rw [Int.zero_add, Int.add_zero]; exact key
  · intro p hp
    rcases List.mem_append.1 hp with hp | hp
    · exact h.puts p hp
    · rcases List.mem_append.1 hp with hp | hp
      · split at hp
        · cases hp
        · rw [List.mem_singleton.1 hp]; exact h.put
      · split at hp
        · cases hp
        · rw [List.mem_singleton.1 hp]; exact V_nil
theorem cut_push {E : Int → Prop} {l : List Pt} {k : Int} (h : Cut E 0 l) (hk : E (longP l + k)) : Cut E 0 (pushKeep l k) := by
  have hnew : Cut E 0 (l ++ [⟨k, 0, []⟩]) := by
    refine (Cut_append ..).2 ⟨h, Cut_end h, ?_⟩
    show E (0 + longP l + (k + 0))
    rw [Int.zero_add, Int.add_zero]; exact hk
  unfold pushKeep
  cases hq : l.getLast? with
  | none => exact hnew
  | some q =>
    simp only
    split
    · obtain ⟨m, rfl⟩ := List.getLast?_eq_some_iff.1 hq
      obtain ⟨h1, h2⟩ := (Cut_append ..).1 h
      rw [List.dropLast_concat]
      refine (Cut_append ..).2 ⟨h1, h2.1, ?_⟩
      have e : longP (m ++ [q]) = longP m + lenP q := by simp [longP]
      rw [e] at hk
      show E (0 + longP m + (q.keep + k + q.drop))
      have : 0 + longP m + (q.keep + k + q.drop) = longP m + lenP q + k := by unfold lenP; omega
      rw [this]; exact hk
    · exact hnew
theorem push_puts {l : List Pt} {k : Int} (h : ∀ p ∈ l, V p.put) : ∀ p ∈ pushKeep l k, V p.put := by
  intro p hp
  unfold pushKeep at hp
  cases hq : l.getLast? with
  | none =>
    rw [hq] at hp
    simp only [List.mem_append, List.mem_singleton] at hp
    rcases hp with hp | rfl
    · exact h p hp
    · exact V_nil
  | some q =>
    rw [hq] at hp
    simp only at hp
    split at hp
    · simp only [List.mem_append, List.mem_singleton] at hp
      rcases hp with hp | rfl
      · exact h p (List.dropLast_subset l hp)
      · exact h q (List.mem_of_getLast? hq)
    · simp only [List.mem_append, List.mem_singleton] at hp
      rcases hp with hp | rfl
      · exact h p hp
      · exact V_nil
theorem cut_add {E : Int → Prop} {s : NSt} (h : CutS E s) (p : Pt) (hk : 0 ≤ p.keep) (hd : 0 ≤ p.drop) (h1 : p.keep = 0 ∨ (p.drop = 0 ∧ p.put = [])) (hv : V p.put) (he : E (longS s + lenP p)) : CutS E (addP s p) := by
  have hone := add_one h.one p hk hd
  have hlong := add_long s p
  refine ⟨?_, by rw [hlong]; exact he, ?_, ?_, hone⟩
  · unfold addP
    split
    · exact h.out
    · rename_i h0
      obtain ⟨e1, e2⟩ := h1.resolve_left h0
      rw [e1, e2, List.append_nil, Int.add_zero]
      have hk : E (longP (tellP s) + p.keep) := by
        rw [tell_long]
        unfold lenP at he
        rw [e1, Int.add_zero] at he
        exact he
      exact cut_push (cut_tell h).1 hk
  · unfold addP
    split
    · exact h.puts
    · rename_i h0
      obtain ⟨e1, e2⟩ := h1.resolve_left h0
      rw [e1, e2, List.append_nil, Int.add_zero]
      exact push_puts (cut_tell h).2
  · unfold addP
    split
    · exact V_append h.put hv
    · exact V_nil
theorem one_kind {p : Pt} (h : oneP p) : 0 ≤ p.keep ∧ 0 ≤ p.drop ∧ (p.keep = 0 ∨ (p.drop = 0 ∧ p.put = [])) := by
  rcases h with ⟨h1, h2, h3⟩ | ⟨h1, h2, h3⟩ | ⟨h1, h2, h3⟩
  · exact ⟨by omega, by omega, .inr ⟨h2, h3⟩⟩
  · exact ⟨by omega, by omega, .inl h1⟩
  · exact ⟨by omega, by omega, .inl h1⟩
theorem cut_fold {E : Int → Prop} : ∀ (ps : List Pt) (s : NSt), (∀ p ∈ ps, oneP p) → (∀ p ∈ ps, V p.put) → CutS E s → Cut E (longS s) ps → CutS E (ps.foldl addP s)
  | [], s, _, _, h, _ => h
  | p :: ps, s, h1, h2, h, hc => by
    obtain ⟨k1, k2, k3⟩ := one_kind (h1 p (by simp))
    have hl := add_long s p
    refine cut_fold ps (addP s p) (fun q hq => h1 q (by simp [hq])) (fun q hq => h2 q (by simp [hq])) (cut_add h p k1 k2 k3 (h2 p (by simp)) (Cut_head hc.2)) ?_
    rw [hl]; exact hc.2

/-- A place of a text between two runes. -/
def edgeV (T : List UInt8) (j : Int) : Prop := V (T.take j.toNat)
theorem al_cut {T : List UInt8} : ∀ {ps : List Pt} {i : Int}, 0 ≤ i → (∀ p ∈ ps, oneP p) → V (T.take i.toNat) → al ps (T.drop i.toNat) → Cut (edgeV T) i ps
  | [], i, _, _, h, _ => h
  | p :: ps, i, h0, h1, h, ha => by
    have hl := one_len (h1 p (by simp))
    have e : (i + lenP p).toNat = i.toNat + (lenP p).toNat := by omega
    refine ⟨h, al_cut (by omega) (fun q hq => h1 q (by simp [hq])) ?_ ?_⟩
    · rw [e, List.take_add]; exact V_append h ha.2.1
    · rw [e, ← List.drop_drop]; exact ha.2.2
theorem cut_al {T : List UInt8} : ∀ {ps : List Pt} {i : Int}, 0 ≤ i → (∀ p ∈ ps, oneP p) → (∀ p ∈ ps, V p.put) → Cut (edgeV T) i ps → al ps (T.drop i.toNat)
  | [], i, _, _, _, _ => trivial
  | p :: ps, i, h0, h1, h2, hc => by
    have hl := one_len (h1 p (by simp))
    have e : (i + lenP p).toNat = i.toNat + (lenP p).toNat := by omega
    have h3 : V (T.take i.toNat) := hc.1
    have h4 : V (T.take (i + lenP p).toNat) := Cut_head hc.2
    rw [e, List.take_add] at h4
    refine ⟨h2 p (by simp), V_rest h3 h4, ?_⟩
    have := cut_al (by omega) (fun q hq => h1 q (by simp [hq])) (fun q hq => h2 q (by simp [hq])) hc.2
    rw [e, ← List.drop_drop] at this
    exact this
theorem cut0 (T : List UInt8) : CutS (edgeV T) nst0 := ⟨V_nil, V_nil, by simp [nst0], V_nil, ⟨by simp [nst0], by simp [nst0]⟩⟩
theorem good_of_cut {T : List UInt8} {s : NSt} (h : CutS (edgeV T) s) (hl : longS s = T.length) : good (tellP s) T := by
  refine ⟨tell_one h.one, by rw [tell_long]; exact hl, ?_⟩
  have := cut_al (i := 0) (by omega) (tell_one h.one) (cut_tell h).2 (cut_tell h).1
  exact this
theorem good.norm {ps : List Pt} {t : List UInt8} (h : good ps t) : good (normP ps) t := by
  have hc : CutS (edgeV t) (ps.foldl addP nst0) := cut_fold ps nst0 h.one (al_puts h.al) (cut0 t) (al_cut (i := 0) (by omega) h.one V_nil h.al)
  refine good_of_cut hc ?_
  rw [fold_long]
  show longP [] + 0 + longP ps = _
  rw [h.long]; simp [longP]
theorem apply_norm {ps : List Pt} (h : ∀ p ∈ ps, oneP p) (t : List UInt8) : applyP (normP ps) t = applyP ps t := by
  have e := act_norm actA_ok ps (ones_sound h) ([], t)
  rw [actA_apply ps h, actA_apply _ (norm_one ps (ones_sound h))] at e
  simpa using congrArg Prod.fst e
end Go.Proofs.YtldhbjmillfjgabGreatDoor

namespace Go.Proofs.YtldhbjmillfjgabGreatDoor
set_option linter.unusedVariables false

/-- What was added so far: D of the text T is behind, R is ahead, o was made. -/
structure St (T D R o : List UInt8) (s : NSt) : Prop where
  cut : CutS (edgeV T) s
  eq : T = D ++ R
  here : V D
  long : longS s = D.length
  act : (tellP s).foldl actA ([], T) = (o, R)
theorem St0 (T : List UInt8) : St T [] T [] nst0 := ⟨cut0 T, rfl, V_nil, by simp [longS, nst0, longP], rfl⟩
theorem St.none {T D R o : List UInt8} {s : NSt} (h : St T D R o s) : St T D R (o ++ []) s := by rw [List.append_nil]; exact h
theorem St.put {T D R o : List UInt8} {s : NSt} (h : St T D R o s) {u : List UInt8} (hu : V u) : St T D R (o ++ u) (addP s ⟨0, 0, u⟩) := by
  have hl := add_long s ⟨0, 0, u⟩
  have e0 : lenP ⟨0, 0, u⟩ = 0 := rfl
  rw [e0, Int.add_zero] at hl
  refine ⟨cut_add h.cut _ (Int.le_refl _) (Int.le_refl _) (.inl rfl) hu ?_, h.eq, h.here, by rw [hl]; exact h.long, ?_⟩
  · rw [e0, Int.add_zero]; exact h.cut.here
  · rw [act_add actA_ok s _ h.cut.one.drop (Int.le_refl _) (Int.le_refl _), h.act]
    simp [actA]
theorem St.keep {T D R o x : List UInt8} {s : NSt} (h : St T D (x ++ R) o s) (hx : V x) : St T (D ++ x) R (o ++ x) (addP s ⟨x.length, 0, []⟩) := by
  have hl := add_long s ⟨x.length, 0, []⟩
  have e0 : lenP ⟨x.length, 0, []⟩ = x.length := by simp [lenP]
  rw [e0] at hl
  have h0 : (0 : Int) ≤ x.length := by omega
  refine ⟨cut_add h.cut _ h0 (Int.le_refl _) (.inr ⟨rfl, rfl⟩) V_nil ?_, by rw [List.append_assoc]; exact h.eq, V_append h.here hx, by rw [hl, h.long, List.length_append]; push_cast; rfl, ?_⟩
  · rw [e0, h.long]
    unfold edgeV
    rw [show ((D.length : Int) + x.length).toNat = (D ++ x).length by rw [List.length_append]; omega, h.eq, ← List.append_assoc, List.take_left']
    · exact V_append h.here hx
    · rfl
  · rw [act_add actA_ok s _ h.cut.one.drop h0 (Int.le_refl _), h.act]
    simp [actA]
theorem St.drop {T D R o x : List UInt8} {s : NSt} (h : St T D (x ++ R) o s) (hx : V x) : St T (D ++ x) R o (addP s ⟨0, x.length, []⟩) := by
  have hl := add_long s ⟨0, x.length, []⟩
  have e0 : lenP ⟨0, x.length, []⟩ = x.length := by simp [lenP]
  rw [e0] at hl
  have h0 : (0 : Int) ≤ x.length := by omega
  refine ⟨cut_add h.cut _ (Int.le_refl _) h0 (.inl rfl) V_nil ?_, by rw [List.append_assoc]; exact h.eq, V_append h.here hx, by rw [hl, h.long, List.length_append]; push_cast; rfl, ?_⟩
  · rw [e0, h.long]
    unfold edgeV
    rw [show ((D.length : Int) + x.length).toNat = (D ++ x).length by rw [List.length_append]; omega, h.eq, ← List.append_assoc, List.take_left']
    · exact V_append h.here hx
    · rfl
  · rw [act_add actA_ok s _ h.cut.one.drop (Int.le_refl _) h0, h.act]
    simp [actA]
theorem St.full {T D o : List UInt8} {s : NSt} (h : St T D [] o s) : St T T [] o s := by
  have e := h.eq
  rw [List.append_nil] at e
  subst e; exact h
theorem St.good {T o : List UInt8} {s : NSt} (h : St T T [] o s) : good (tellP s) T ∧ applyP (tellP s) T = o := by
  have hg := good_of_cut h.cut h.long
  refine ⟨hg, ?_⟩
  have e := h.act
  rw [actA_apply _ hg.one] at e
  simpa using congrArg Prod.fst e

theorem lenP_unit (d : Bool) (n : Nat) : lenP (unitK d n) = (n : Int) := by cases d <;> simp [lenP, unitK]
theorem put_unit (d : Bool) (n : Nat) : (unitK d n).put = [] := by cases d <;> rfl
theorem one_unit (d : Bool) (n : Nat) : oneP (unitK d (n + 1)) := by
  cases d with
  | true => exact .inr (.inl ⟨rfl, by show (0 : Int) < ((n + 1 : Nat) : Int); omega, rfl⟩)
  | false => exact .inl ⟨by show (0 : Int) < ((n + 1 : Nat) : Int); omega, rfl, rfl⟩
theorem made_unit (d : Bool) (n : Nat) (x : List UInt8) : madeP (unitK d (n + 1), x) = if d then [] else x := by
  cases d <;> simp [madeP, unitK]
theorem apply_unit (d : Bool) (n : Nat) (ps : List Pt) (r : List UInt8) : applyP (unitK d (n + 1) :: ps) r = (if d then [] else r.take (n + 1)) ++ applyP ps (r.drop (n + 1)) := by
  rw [apply_cons, made_unit, lenP_unit]; rfl
theorem cut2_unit (d : Bool) (m j : Nat) (hj : j ≤ m) : (m = j ∧ (cutP (unitK d (m + 1)) ((j : Int) + 1)).2 = []) ∨ ∃ i, m = j + i + 1 ∧ (cutP (unitK d (m + 1)) ((j : Int) + 1)).2 = [unitK d (i + 1)] := by
  have hl : lengthP (unitK d (m + 1)) = (m : Int) + 1 := by rw [len_unit]; push_cast; rfl
  by_cases e : m = j
  · exact .inl ⟨e, by unfold cutP; rw [if_pos (by rw [hl, e])]⟩
  · right
    refine ⟨m - j - 1, by omega, ?_⟩
    unfold cutP
    rw [if_neg (by rw [hl]; omega)]
    have e1 : ((m + 1 : Nat) : Int) - ((j : Int) + 1) = ((m - j - 1 + 1 : Nat) : Int) := by omega
    cases d with
    | true =>
      rw [if_neg (show ¬ 0 < (unitK true (m + 1)).keep from Int.lt_irrefl 0), if_pos (show 0 < (unitK true (m + 1)).drop by show (0 : Int) < ((m + 1 : Nat) : Int); omega)]
      show [(⟨0, ((m + 1 : Nat) : Int) - ((j : Int) + 1), []⟩ : Pt)] = [⟨0, ((m - j - 1 + 1 : Nat) : Int), []⟩]
      rw [e1]
    | false =>
      rw [if_pos (show 0 < (unitK false (m + 1)).keep by show (0 : Int) < ((m + 1 : Nat) : Int); omega)]
      show [(⟨((m + 1 : Nat) : Int) - ((j : Int) + 1), 0, []⟩ : Pt)] = [⟨((m - j - 1 + 1 : Nat) : Int), 0, []⟩]
      rw [e1]

/-- What is left behind a cut. -/
structure Left (X : List Pt) (r : List UInt8) : Prop where
  one : ∀ p ∈ X, oneP p
  long : longP X = r.length
  al : al X r
theorem Left.good {X : List Pt} {r : List UInt8} (h : Left X r) : good X r := ⟨h.one, h.long, h.al⟩
theorem unit_cut (d : Bool) (m j : Nat) (hj : j ≤ m) (ps : List Pt) (r : List UInt8) (h : Left (unitK d (m + 1) :: ps) r) (hv : V (r.take (j + 1))) :
    Left ((cutP (unitK d (m + 1)) ((j : Int) + 1)).2 ++ ps) (r.drop (j + 1)) ∧ applyP (unitK d (m + 1) :: ps) r = (if d then [] else r.take (j + 1)) ++ applyP ((cutP (unitK d (m + 1)) ((j : Int) + 1)).2 ++ ps) (r.drop (j + 1)) ∧ j + 1 ≤ r.length := by
  have hl := h.long
  rw [long_cons, lenP_unit] at hl
  have h0 := long_pos fun q hq => h.one q (List.mem_cons_of_mem _ hq)
  have ha := h.al.2.2
  have hq := h.al.2.1
  rw [lenP_unit] at ha hq
  have ht : ((m + 1 : Nat) : Int).toNat = m + 1 := by omega
  rw [ht] at ha hq
  have hlen : j + 1 ≤ r.length := by omega
  rcases cut2_unit d m j hj with ⟨rfl, e⟩ | ⟨i, rfl, e⟩
  · rw [e, List.nil_append]
    refine ⟨⟨fun p hp => h.one p (by simp [hp]), by rw [List.length_drop]; omega, ha⟩, apply_unit d m ps r, hlen⟩
  · rw [e]
    have e1 : r.take (j + i + 1 + 1) = r.take (j + 1) ++ (r.drop (j + 1)).take (i + 1) := by rw [← List.take_add]; congr 1; omega
    have e2 : r.drop (j + i + 1 + 1) = (r.drop (j + 1)).drop (i + 1) := by rw [List.drop_drop]; congr 1; omega
    rw [e1] at hq
    rw [e2] at ha
    refine ⟨⟨?_, ?_, ?_, ?_, ?_⟩, ?_, hlen⟩
    · intro p hp
      rcases List.mem_cons.1 hp with rfl | hp
      · exact one_unit d i
      · exact h.one p (by simp at hp; simp [hp])
    · show longP (unitK d (i + 1) :: ps) = _
      rw [long_cons, lenP_unit, List.length_drop]; omega
    · rw [put_unit]; exact V_nil
    · rw [lenP_unit]; exact V_rest hv hq
    · rw [lenP_unit]; exact ha
    · show _ = _ ++ applyP (unitK d (i + 1) :: ps) _
      rw [apply_unit, apply_unit, e1, e2]
      cases d <;> simp

/-- What is made of a text by two that are side by side. -/
def outL : List (Pt × Pt) → List UInt8 → List UInt8
  | [], _ => []
  | (p, q) :: l, r => p.put ++ (q.put ++ ((if 0 < p.keep ∧ 0 < q.keep then r.take p.keep.toNat else []) ++ outL l (r.drop (lenP p).toNat)))
def tF (F : Bool) (x : Pt × Pt) : List Pt := if F then turnP x else turnP (x.2, x.1)
theorem runS_cons (t : Pt × Pt → List Pt) (x : Pt × Pt) (l : List (Pt × Pt)) (s : NSt) : runS t (x :: l) s = runS t l ((t x).foldl addP s) := rfl
theorem outL_puts (u : List UInt8) (l : List (Pt × Pt)) (r : List UInt8) : outL ((⟨0, 0, u⟩, noP) :: l) r = u ++ outL l r ∧ outL ((noP, ⟨0, 0, u⟩) :: l) r = u ++ outL l r := by
  simp [outL, noP, lenP]
theorem outL_units (d e : Bool) (j : Nat) (l : List (Pt × Pt)) (r : List UInt8) : outL ((unitK d (j + 1), unitK e (j + 1)) :: l) r = (if d || e then [] else r.take (j + 1)) ++ outL l (r.drop (j + 1)) := by
  have h0 : (0 : Int) < ((j : Int) + 1) := by omega
  have h1 : ((j : Int) + 1).toNat = j + 1 := by omega
  cases d <;> cases e <;> simp [outL, unitK, lenP, h0, h1]
theorem tF_own (F : Bool) (u : List UInt8) (hu : u ≠ []) : tF F (if F then (⟨0, 0, u⟩, noP) else (noP, ⟨0, 0, u⟩)) = [⟨0, 0, u⟩] := by
  cases F <;> simp [tF, turnP, isPutP, noP, hu]
theorem tF_other (F : Bool) (u : List UInt8) (hu : u ≠ []) : tF F (if F then (noP, ⟨0, 0, u⟩) else (⟨0, 0, u⟩, noP)) = [⟨u.length, 0, []⟩] := by
  cases F <;> simp [tF, turnP, isPutP, noP, hu]
theorem tF_units (F d e : Bool) (j : Nat) : tF F (unitK d (j + 1), unitK e (j + 1)) = if (if F then e else d) then [] else [unitK (if F then d else e) (j + 1)] := by
  have h1 := unit_isPut d (j + 1)
  have h2 := unit_isPut e (j + 1)
  have h3 : ∀ b, isKeepP (unitK b (j + 1)) = !b := by
    intro b
    have h0 : (0 : Int) < ((j : Int) + 1) := by omega
    cases b <;> simp [isKeepP, unitK, h0]
  cases F <;> cases d <;> cases e <;> simp [tF, turnP, h1, h2, h3]
theorem St.unit {T D R o x : List UInt8} {s : NSt} (h : St T D (x ++ R) o s) (hx : V x) (d : Bool) (n : Nat) (hn : x.length = n) : St T (D ++ x) R (o ++ if d then [] else x) (addP s (unitK d n)) := by
  subst hn
  cases d with
  | true => rw [if_pos rfl, List.append_nil]; exact h.drop hx
  | false => rw [if_neg (by decide)]; exact h.keep hx

theorem left_cons {p : Pt} {ps : List Pt} {r : List UInt8} (h : Left (p :: ps) r) : Left ps (r.drop (lenP p).toNat) ∧ V p.put ∧ V (r.take (lenP p).toNat) ∧ (lenP p).toNat ≤ r.length := by
  have hl := h.long
  rw [long_cons] at hl
  have h0 := long_pos fun q hq => h.one q (List.mem_cons_of_mem _ hq)
  have h1 := one_len (h.one p (by simp))
  exact ⟨⟨fun q hq => h.one q (by simp [hq]), by rw [List.length_drop]; omega, h.al.2.2⟩, h.al.1, h.al.2.1, by omega⟩
theorem left_nil {r : List UInt8} (h : Left [] r) : r = [] := by
  have := h.long
  simp [longP] at this
  exact List.eq_nil_of_length_eq_zero (by omega)
theorem left_put {u : List UInt8} {ps : List Pt} {r : List UInt8} (h : Left (⟨0, 0, u⟩ :: ps) r) : Left ps r ∧ V u := by
  obtain ⟨h1, h2, _⟩ := left_cons h
  exact ⟨by simpa [lenP] using h1, h2⟩
theorem left_unit_ne {d : Bool} {n : Nat} {ps : List Pt} (h : Left (unitK d (n + 1) :: ps) []) : False := by
  have := (left_cons h).2.2.2
  rw [lenP_unit] at this
  simp at this
theorem one_weight {p : Pt} (h : oneP p) (ps : List Pt) : weight ps + 1 ≤ weight (p :: ps) := by
  have := length_pos h
  rw [weight_cons]; omega

theorem trans_st (F : Bool) : ∀ (f : Nat) (A B : List Pt) (r T D o : List UInt8) (s : NSt), Left A r → Left B r → weight A + weight B ≤ f → St T D (applyP (if F then B else A) r) o s →
    St T T [] (o ++ outL (sideP isPutP isPutP f A B) r) (runS (tF F) (sideP isPutP isPutP f A B) s) := by
  have base : ∀ (T D o : List UInt8) (s : NSt) (g : Nat), St T D (applyP (if F then [] else []) []) o s → St T T [] (o ++ outL (sideP isPutP isPutP g [] []) []) (runS (tF F) (sideP isPutP isPutP g [] []) s) := by
    intro T D o s g h
    have e : sideP isPutP isPutP g [] [] = [] := by cases g <;> rfl
    rw [e]
    have h2 : St T D [] o s := by cases F <;> exact h
    exact h2.full.none
  have nil_of : ∀ {l : List Pt} {r : List UInt8}, Left l r → weight l = 0 → l = [] := by
    intro l r h hw
    cases l with
    | nil => rfl
    | cons p l => have := one_weight (h.one p (by simp)) l; omega
  intro f
  induction f with
  | zero =>
    intro A B r T D o s hA hB hw h
    obtain rfl := nil_of hA (by omega)
    obtain rfl := nil_of hB (by omega)
    obtain rfl := left_nil hA
    exact base T D o s 0 h
  | succ f ih =>
    intro A B r T D o s hA hB hw h
    have stepB : ∀ (v : List UInt8) (B' : List Pt), v ≠ [] → B = ⟨0, 0, v⟩ :: B' → sideP isPutP isPutP (f + 1) A B = (noP, ⟨0, 0, v⟩) :: sideP isPutP isPutP f A B' → St T T [] (o ++ outL (sideP isPutP isPutP (f + 1) A B) r) (runS (tF F) (sideP isPutP isPutP (f + 1) A B) s) := by
      intro v B' hv e es
      subst e
      obtain ⟨hB', hV⟩ := left_put hB
      have hw' := one_weight (hB.one ⟨0, 0, v⟩ (by simp)) B'
      rw [es, (outL_puts v _ r).2, runS_cons, ← List.append_assoc]
      refine ih A B' r T (if F then D ++ v else D) (o ++ v) _ hA hB' (by omega) ?_
      cases F with
      | true =>
        have e := tF_other true v hv
        rw [if_pos rfl] at e
        rw [e]
        rw [if_pos rfl, apply_put] at h
        exact h.keep hV
      | false =>
        have e := tF_own false v hv
        rw [if_neg (by decide)] at e
        rw [e]
        rw [if_neg (by decide)] at h
        exact h.put hV
    cases A with
    | nil =>
      obtain rfl := left_nil hA
      cases B with
      | nil => exact base T D o s (f + 1) h
      | cons q B' =>
        rcases one_cases (hB.one q (by simp)) with ⟨v, hv, rfl⟩ | ⟨e, k, rfl⟩
        · exact stepB v B' hv rfl (by rw [sideP, if_pos (put_isPut hv)])
        · exact absurd hB left_unit_ne
    | cons p A' =>
      rcases one_cases (hA.one p (by simp)) with ⟨u, hu, rfl⟩ | ⟨d, m, rfl⟩
      · obtain ⟨hA', hV⟩ := left_put hA
        have hw' := one_weight (hA.one ⟨0, 0, u⟩ (by simp)) A'
        have es : sideP isPutP isPutP (f + 1) (⟨0, 0, u⟩ :: A') B = (⟨0, 0, u⟩, noP) :: sideP isPutP isPutP f A' B := by
          have h1 := put_isPut hu
          cases B <;> simp only [sideP, h1, if_true]
        rw [es, (outL_puts u _ r).1, runS_cons, ← List.append_assoc]
        refine ih A' B r T (if F then D else D ++ u) (o ++ u) _ hA' hB (by omega) ?_
        cases F with
        | true =>
          have e := tF_own true u hu
          rw [if_pos rfl] at e
          rw [e]
          rw [if_pos rfl] at h
          exact h.put hV
        | false =>
          have e := tF_other false u hu
          rw [if_neg (by decide)] at e
          rw [e]
          rw [if_neg (by decide), apply_put] at h
          exact h.keep hV
      · cases B with
        | nil =>
          obtain rfl := left_nil hB
          exact absurd hA left_unit_ne
        | cons q B' =>
          rcases one_cases (hB.one q (by simp)) with ⟨v, hv, rfl⟩ | ⟨e, k, rfl⟩
          · exact stepB v B' hv rfl (by
              have h1 := unit_isPut d (m + 1)
              have h2 := put_isPut hv
              simp only [sideP, h1, h2, Bool.false_eq_true, if_false, if_true])
          · have hmin : min (lengthP (unitK d (m + 1))) (lengthP (unitK e (k + 1))) = ((min m k : Nat) : Int) + 1 := by rw [len_unit, len_unit]; omega
            obtain ⟨j, hj⟩ : ∃ j, min m k = j := ⟨_, rfl⟩
            rw [hj] at hmin
            have hj1 : j ≤ m := by omega
            have hj2 : j ≤ k := by omega
            have es : sideP isPutP isPutP (f + 1) (unitK d (m + 1) :: A') (unitK e (k + 1) :: B') = (unitK d (j + 1), unitK e (j + 1)) :: sideP isPutP isPutP f ((cutP (unitK d (m + 1)) ((j : Int) + 1)).2 ++ A') ((cutP (unitK e (k + 1)) ((j : Int) + 1)).2 ++ B') := by
              rw [sideP, if_neg (by rw [unit_isPut]; decide), if_neg (by rw [unit_isPut]; decide), hmin, (cut_unit d m j hj1).1, (cut_unit e k j hj2).1]
            have hv : V (r.take (j + 1)) := by
              have v1 := (left_cons hA).2.2.1
              have v2 := (left_cons hB).2.2.1
              rw [lenP_unit] at v1 v2
              by_cases hc : m ≤ k
              · obtain rfl : m = j := by omega
                exact v1
              · obtain rfl : k = j := by omega
                exact v2
            obtain ⟨lA, aA, hlen⟩ := unit_cut d m j hj1 A' r hA hv
            obtain ⟨lB, aB, _⟩ := unit_cut e k j hj2 B' r hB hv
            have wA := cut_weight d m j hj1
            have wB := cut_weight e k j hj2
            have hx : (r.take (j + 1)).length = j + 1 := by rw [List.length_take]; omega
            have hw2 : weight ((cutP (unitK d (m + 1)) ((j : Int) + 1)).2 ++ A') + weight ((cutP (unitK e (k + 1)) ((j : Int) + 1)).2 ++ B') ≤ f := by
              rw [weight_append, weight_append, wA, wB]
              rw [weight_cons, weight_cons, len_unit, len_unit] at hw
              omega
            rw [es, outL_units, runS_cons, tF_units, ← List.append_assoc]
            refine ih _ _ (r.drop (j + 1)) T (if (if F then e else d) then D else D ++ r.take (j + 1)) _ _ lA lB hw2 ?_
            cases F with
            | true =>
              rw [if_pos rfl, aB] at h
              simp only [if_true]
              cases e with
              | true =>
                simp only [Bool.or_true, if_true, List.append_nil, List.foldl_nil]
                exact h
              | false =>
                simp only [Bool.or_false, Bool.false_eq_true, if_false, List.foldl_cons, List.foldl_nil] at h ⊢
                exact h.unit hv d (j + 1) hx
            | false =>
              rw [if_neg (by decide), aA] at h
              simp only [Bool.false_eq_true, if_false]
              cases d with
              | true =>
                simp only [Bool.true_or, if_true, List.append_nil, List.foldl_nil]
                exact h
              | false =>
                simp only [Bool.false_or, Bool.false_eq_true, if_false, List.foldl_cons, List.foldl_nil] at h ⊢
                exact h.unit hv e (j + 1) hx

/-- What Transform tells, and what it makes. -/
theorem good_trans (F : Bool) {a b : List Pt} {t : List UInt8} (ha : good a t) (hb : good b t) :
    good (tellP (transS F a b)) (applyP b t) ∧ applyP (tellP (transS F a b)) (applyP b t) = outL (if F then sideP isPutP isPutP (weight (normP a) + weight (normP b)) (normP a) (normP b) else sideP isPutP isPutP (weight (normP b) + weight (normP a)) (normP b) (normP a)) t := by
  have na := ha.norm
  have nb := hb.norm
  have la : Left (normP a) t := ⟨na.one, na.long, na.al⟩
  have lb : Left (normP b) t := ⟨nb.one, nb.long, nb.al⟩
  have eb := apply_norm hb.one t
  unfold transS
  cases F with
  | true =>
    have := trans_st true _ (normP a) (normP b) t (applyP b t) [] [] nst0 la lb (Nat.le_refl _) (by rw [if_pos rfl, eb]; exact St0 _)
    exact this.good
  | false =>
    have := trans_st false _ (normP b) (normP a) t (applyP b t) [] [] nst0 lb la (Nat.le_refl _) (by rw [if_neg (by decide), eb]; exact St0 _)
    exact this.good
/-- Who comes first is not seen. -/
theorem trans_meets (F : Bool) {a b : List Pt} {t : List UInt8} (ha : good a t) (hb : good b t) :
    applyP (tellP (transS (!F) b a)) (applyP a t) = applyP (tellP (transS F a b)) (applyP b t) := by
  rw [(good_trans F ha hb).2, (good_trans (!F) hb ha).2]
  cases F <;> simp
end Go.Proofs.YtldhbjmillfjgabGreatDoor
