/-
  Side by side: what a round of ops.sideBySide hands on.
  ops.sideBySide: the pairs of two operations, one behind the other, each taken (turn).
  ops.sideBySide: the pairs of two operations, one behind the other, each taken (turn2).
  What Transform and Compose go through side by side: ready, and how heavy (pure, and worlds).
  ops.Transform and ops.Compose.
  The document's own Halves: what it returns of any runes.
  The library's contracts that these texts use, laid at this program by the shelf's own command, its plain mode.
  The document's own Count: what it returns of any text.
  The rope's tree, as memory holds it; what its nodes' counts, height and size tell.
  The same, where one block of the call's own is written meanwhile: operations that yield one value in every world that has grown but for that block are taken first.
  Plain mathematics: where runes begin among bytes; a text cut into pieces.
  Operations that never cut a rune (pure): what they make, and that a least form cuts none.
  Transform and Compose of operations that never cut a rune (pure): neither do what they tell; and what these make.
  Three operations (pure): composed alike in whichever order; and a third one sees no difference.
  The document's Transform: what comes so far, and the closures that add to it.
-/
import Derived.Test.YtfedgjnhanlmeabGreatDoorPartE
import Derived.Deep.LoopGhost
import Derived.Test.YtfedgjnhanlmeabGreatDoorPartC
import Derived.Shelf.Strings.Builder1
import Derived.Shelf.Small.Utf8
import Derived.Shelf.Strings.BuilderF
import Derived.Shelf.Strings.BuilderK
import Derived.Shelf.Utf8.AppendRune
import Derived.Shelf.Utf8.AppendRunePlain
import Derived.Shelf.Utf8.RuneCount
import Derived.Shelf.LaysM
import Derived.Shelf.Strconv.Clone
import Derived.Shelf.Strings.Search1
import Derived.Shelf.Strings.Search2
import Derived.Shelf.Strings.Search3
import Derived.Shelf.Strings.Count
import Derived.Shelf.Strings.Shaped
import Derived.Shelf.Strings.Split
import Derived.Shelf.Unicode.Decode
import Derived.Shelf.Strings.RuneCount
import Derived.Shelf.Unicode.DecodeSlow
import Derived.Shelf.Unicode.DecodeAny
import Derived.Shelf.Strings.BuilderCap
import Derived.Test.YtfedgjnhanlmeabGreatDoorProg
import Derived.Test.YtfedgjnhanlmeabGreatDoorPartA
import Derived.Shelf.Pu.Clone
namespace Go.Proofs.YtfedgjnhanlmeabGreatDoor
open Go.RowKit
set_option linter.unusedVariables false
attribute [local go_sem] Oper.semAt_some

theorem sideI.tail1 {M a g1 g2 o c : Nat} {bx : List (Nat × Obj)} {w : World} {v2 : Value} {p : Pt} {A B : List Pt} {s : NSt} {W W' : World} (h : sideI M a g1 g2 bx w (.slice (some ⟨g1, o, none⟩) (A.length + 1) c) v2 (p :: A) B s W) (hb : Below W.heap.size W W') :
    sideI M a g1 g2 bx w (.slice (some ⟨g1, o + 3, none⟩) A.length (c - 1)) v2 A B s W' ∧ (c = 1 → sideI M a g1 g2 bx w (.slice (some ⟨g1, o, none⟩) A.length 0) v2 A B s W') := by
  obtain ⟨h1, h2⟩ := cut_rest h.r1 hb
  have hg := h.grow hb
  exact ⟨⟨hg.below, hg.g, h1, hg.r2, hg.b⟩, fun hc => ⟨hg.below, hg.g, h2 hc, hg.r2, hg.b⟩⟩
theorem sideI.tail2 {M a g1 g2 o c : Nat} {bx : List (Nat × Obj)} {w : World} {v1 : Value} {p : Pt} {A B : List Pt} {s : NSt} {W W' : World} (h : sideI M a g1 g2 bx w v1 (.slice (some ⟨g2, o, none⟩) (B.length + 1) c) A (p :: B) s W) (hb : Below W.heap.size W W') :
    sideI M a g1 g2 bx w v1 (.slice (some ⟨g2, o + 3, none⟩) B.length (c - 1)) A B s W' ∧ (c = 1 → sideI M a g1 g2 bx w v1 (.slice (some ⟨g2, o, none⟩) B.length 0) A B s W') := by
  obtain ⟨h1, h2⟩ := cut_rest h.r2 hb
  have hg := h.grow hb
  exact ⟨⟨hg.below, hg.g, hg.r1, h1, hg.b⟩, fun hc => ⟨hg.below, hg.g, hg.r1, h2 hc, hg.b⟩⟩
/-- What a round hands on. -/
def sideR (la lb : Pt → Bool) (t : Pt × Pt → List Pt) (M a g1 g2 : Nat) (bx : List (Nat × Obj)) (w : World) (S : NSt) (k : Nat) (u1 u2 : Value) (W : World) : Prop :=
  ∃ A B l s T n, l.length = k ∧ Side la lb A B l ∧ sideI M a g1 g2 bx w u1 u2 A B s W ∧ BdS t l s T n ∧ runS t l s = S
theorem sideR_next {la lb : Pt → Bool} {t : Pt × Pt → List Pt} {M a g1 g2 : Nat} {bx : List (Nat × Obj)} {w : World} {S : NSt} {u1 u2 : Value} {W W' : World} {A B : List Pt} {x : Pt × Pt} {l : List (Pt × Pt)} {s : NSt} {T : Int} {n : Nat}
    (hS : Side la lb A B l) (hI : sideI M a g1 g2 bx w u1 u2 A B s W) (hB : BdS t (x :: l) s T n) (hR : runS t (x :: l) s = S) (hg : gath M W' a ((t x).foldl addP s)) (hb : BelowG M a W W') (ho : boxesOk a g1 g2 bx) (h1 : a + 4 ≤ g1) (h2 : g1 < M) (h3 : a + 4 ≤ g2) (h4 : g2 < M) :
    sideR la lb t M a g1 g2 bx w S l.length u1 u2 W' :=
  ⟨A, B, l, _, _, _, rfl, hS, hI.took hb hg ho h1 h2 h3 h4, hB.tail, hR⟩

theorem box_set {w : World} {b : Nat} {y0 y1 y2 : Value} {T : TypeId} (h : w.heap[b]? = some (.cells #[y0, y1, y2] T (0, 0))) (x0 x1 x2 : Value) :
    (((w.setCell ⟨b, 0, none⟩ x0).setCell ⟨b, 1, none⟩ x1).setCell ⟨b, 2, none⟩ x2).heap[b]? = some (.cells #[x0, x1, x2] T (0, 0)) := by
  simp [World.setCell, Array.getElem?_modify, h]
theorem box_set_ne {w : World} {b k : Nat} {x0 x1 x2 : Value} (h : k ≠ b) : (((w.setCell ⟨b, 0, none⟩ x0).setCell ⟨b, 1, none⟩ x1).setCell ⟨b, 2, none⟩ x2).heap[k]? = w.heap[k]? := by
  rw [Below.heap_setCell _ _ _ _ (by show k ≠ b; exact h), Below.heap_setCell _ _ _ _ (by show k ≠ b; exact h), Below.heap_setCell _ _ _ _ (by show k ≠ b; exact h)]
theorem ButO.above3 {g b : Nat} {w W : World} (h : ButO g w W) (hb : w.heap.size ≤ b) (x0 x1 x2 : Value) : ButO g w (((W.setCell ⟨b, 0, none⟩ x0).setCell ⟨b, 1, none⟩ x1).setCell ⟨b, 2, none⟩ x2) :=
  h.trans' (by simp) (fun k hk => box_set_ne (by omega)) ⟨rfl, rfl, rfl⟩
/-- Every block but g1 and g2 that was there stands. -/
structure But2 (g1 g2 : Nat) (w w' : World) : Prop where
  os : w'.os = w.os
  tape : w'.tape = w.tape
  output : w'.output = w.output
  size : w.heap.size ≤ w'.heap.size
  block : ∀ k, k < w.heap.size → k ≠ g1 → k ≠ g2 → w'.heap[k]? = w.heap[k]?
theorem But2.of1 {g1 g2 : Nat} {w w' : World} (h : ButO g1 w w') : But2 g1 g2 w w' := ⟨h.os, h.tape, h.output, h.size, fun k hk hg _ => h.block k hk hg⟩
theorem But2.cut2 {g1 g2 : Nat} {a b c : World} (h : But2 g1 g2 a b) (k : ButO g2 b c) : But2 g1 g2 a c :=
  ⟨k.os.trans h.os, k.tape.trans h.tape, k.output.trans h.output, Nat.le_trans h.size k.size, fun i hi hg1 hg2 => (k.block i (Nat.lt_of_lt_of_le hi h.size) hg2).trans (h.block i hi hg1 hg2)⟩
theorem But2.above3 {g1 g2 b : Nat} {w W : World} (h : But2 g1 g2 w W) (hb : w.heap.size ≤ b) (x0 x1 x2 : Value) : But2 g1 g2 w (((W.setCell ⟨b, 0, none⟩ x0).setCell ⟨b, 1, none⟩ x1).setCell ⟨b, 2, none⟩ x2) :=
  ⟨h.os, h.tape, h.output, by simpa using h.size, fun k hk e1 e2 => (box_set_ne (by omega)).trans (h.block k hk e1 e2)⟩
theorem sideI.both {M a g1 g2 : Nat} {bx : List (Nat × Obj)} {w : World} {v1 v2 v1' v2' : Value} {A B A' B' : List Pt} {s : NSt} {W W' : World} (h : sideI M a g1 g2 bx w v1 v2 A B s W) (hb : But2 g1 g2 W W') (ho : boxesOk a g1 g2 bx) (h1 : a + 4 ≤ g1) (h2 : g1 < M) (h3 : a + 4 ≤ g2) (h4 : g2 < M) (r1 : winP W' g1 v1' A') (r2 : winP W' g2 v2' B') :
    sideI M a g1 g2 bx w v1' v2' A' B' s W' := by
  have hM := h.g.le
  have hT := h.g.top
  have hlt := gath_lt h.g
  have hbl : Below (a + 4) W W' := ⟨hb.os, hb.tape, hb.output, hb.size, fun k hk => hb.block k (by omega) (by omega) (by omega)⟩
  have own : ∀ {e size n : Nat} {v : Value} {xs : List Value}, W.ownsRow M e size v n xs → W'.ownsRow M e size v n xs := by
    intro e size n v xs h
    obtain ⟨h0, hrow⟩ := h
    refine ⟨h0, ?_⟩
    rcases hrow with hx | ⟨g', cap, cur, rfl, hg, hgg, rest⟩
    · exact .inl hx
    · exact .inr ⟨g', cap, cur, rfl, hg, (hb.block g' (heap_lt hgg) (by omega) (by omega)).trans hgg, rest⟩
  refine ⟨h.below.trans (hbl.mono (by omega)), ?_, r1, r2, fun x hx => (hb.block _ (heap_lt (h.b x hx)) (ho x hx).2.1 (ho x hx).2.2.1).trans (h.b x hx)⟩
  obtain ⟨⟨p, c, h1, h2⟩, h3, ⟨p', c', h4, h5⟩, h6, h7, h8, h9⟩ := h.g
  exact ⟨⟨p, c, (hbl.cell (p := ⟨a, 0, none⟩) (by show a < a + 4; omega)).trans h1, own h2⟩, (hbl.frozen (p := ⟨a, 0, none⟩) (by show a < a + 4; omega)).trans h3,
    ⟨p', c', (hbl.cell (p := ⟨a + 1, 0, none⟩) (by show a + 1 < a + 4; omega)).trans h4, own h5⟩, (hbl.frozen (p := ⟨a + 1, 0, none⟩) (by show a + 1 < a + 4; omega)).trans h6,
    (hbl.cell (p := ⟨a + 2, 0, none⟩) (by show a + 2 < a + 4; omega)).trans h7, (hbl.frozen (p := ⟨a + 2, 0, none⟩) (by show a + 2 < a + 4; omega)).trans h8, (hbl.cell (p := ⟨a + 3, 0, none⟩) (by show a + 3 < a + 4; omega)).trans h9, hM, Nat.le_trans hT hb.size⟩

end Go.Proofs.YtfedgjnhanlmeabGreatDoor

namespace Go.Proofs.YtfedgjnhanlmeabGreatDoor
open Go.RowKit
set_option linter.unusedVariables false
attribute [local go_sem] Oper.semAt_some

set_option maxRecDepth 100000 in
set_option maxHeartbeats 16000000 in
theorem side_turn (M a g1 g2 β : Nat) (bx : List (Nat × Obj)) (v1 v2 : Value) (A0 B0 : List Pt) (l0 : List (Pt × Pt)) (s0 : NSt) (w : World) {T0 : Int} {n0 : Nat} (hI0 : sideI M a g1 g2 bx w v1 v2 A0 B0 s0 w) (hS0 : Side isPutP isPutP A0 B0 l0) (hB0 : BdS turnP l0 s0 T0 n0) (ho0 : boxesOk a g1 g2 bx) (h1 : a + 4 ≤ g1) (h2 : g1 < M) (h3 : a + 4 ≤ g2) (h4 : g2 < M) (hne0 : g1 ≠ g2)
    (cT0 : ∀ (s : NSt) (x : Pt × Pt) (T : Int) (n : Nat) (W : World), gath M W a s → boxesP bx W → Bd s T n → (∀ p ∈ turnP x, soundP p) → T + wts (turnP x) < 1000000000 → n < 10000000 → Calls Tryz.prog 213 #[partV x.1, partV x.2, .pointer (some ⟨β, 0, none⟩)] W (tookP M a s (turnP x) W)) :
    Calls Tryz.prog 208 #[v1, v2, .func (.func 210) #[] #[], .func (.func 210) #[] #[], .func (.func 213) #[] #[.pointer (some ⟨β, 0, none⟩)]] w fun e w' => (∃ v, e = .returned v) ∧ gath M w' a (runS turnP l0 s0) ∧ boxesP bx w' ∧ Below a w w' := by
  obtain ⟨S, hS⟩ : ∃ S, runS turnP l0 s0 = S := ⟨_, rfl⟩
  rw [hS]
  obtain ⟨t, ht⟩ : ∃ t : Pt × Pt → List Pt, t = turnP := ⟨_, rfl⟩
  rw [← ht] at hB0 hS cT0
  have cT : Hid (∀ (s : NSt) (x : Pt × Pt) (T : Int) (n : Nat) (l : List (Pt × Pt)) (W : World), gath M W a s → boxesP bx W → BdS t (x :: l) s T n → Calls Tryz.prog 213 #[partV x.1, partV x.2, .pointer (some ⟨β, 0, none⟩)] W (tookP M a s (t x) W)) := fun s x T n l W hg hb hB => cT0 s x T n W hg hb hB.bd hB.head.1 hB.head.2.1 hB.head.2.2
  have hst : sideR isPutP isPutP t M a g1 g2 bx w S l0.length v1 v2 w := ⟨A0, B0, l0, s0, T0, n0, rfl, hS0, hI0, hB0, hS⟩
  have HST : Hid (sideR isPutP isPutP t M a g1 g2 bx w S l0.length v1 v2 w) := hst
  have HO : Hid (boxesOk a g1 g2 bx) := ho0
  have HNE : Hid (g1 ≠ g2) := hne0
  clear ht cT0 hI0 hS0 hB0 ho0 hS hst hne0
  go_enter Tryz.func208, Tryz.ntmps208
  go_wp2
  go_loopg [0, 1] l0.length (fun k u1 u2 wr => sideR isPutP isPutP t M a g1 g2 bx w S k u1 u2 wr)
  case atStart => exact HST.out
  case round =>
    obtain ⟨A, B, l, s, T, n, hk, hSd, hI, hB, hR⟩ := hrel
    have hwz := hI.below.size
    have HK : Hid (l.length = gk) := hk
    have HI : Hid _ := hI
    have HB : Hid _ := hB
    have HR : Hid _ := hR
    clear HST
    clear hk hB hR
    cases hSd with
    | nil =>
      obtain ⟨p1, c1, rfl, _, _, _⟩ := hI.r1
      obtain ⟨p2, c2, rfl, _, _, _⟩ := hI.r2
      clear hI
      go_wp2
      go_end0
      have hx := HI.out
      exact ⟨⟨_, rfl⟩, by rw [← HR.out]; exact hx.g, hx.b, hx.below⟩
    | left =>
      rename_i p A l hl hS'
      obtain ⟨o, c, rfl, e1, e2, eg, e3, k0, k1, k2⟩ := winP_head hI.r1
      obtain ⟨p2, c2, rfl, _, _, _⟩ := hI.r2
      have cL : Hid (∀ wx, Calls Tryz.prog 210 #[partV p] wx fun e w' => e = .returned (.bool true) ∧ Below wx.heap.size wx w') := fun wx => by
        have := isPut_any p wx
        rw [show decide (p.put ≠ []) = true from hl] at this
        exact this
      have CT : Hid (∀ W', Below wr.heap.size wr W' → Calls Tryz.prog 213 #[partV (p, noP).1, partV (p, noP).2, .pointer (some ⟨β, 0, none⟩)] W' (tookP M a s (t (p, noP)) W')) := fun W' hb => cT.out s (p, noP) T n l W' (HI.out.grow hb).g (HI.out.grow hb).b HB.out
      have HS : Hid (Side isPutP isPutP _ _ l) := hS'
      have HT : Hid (∀ W', Below wr.heap.size wr W' → _ ∧ _) := fun W' hb => sideI.tail1 HI.out hb
      obtain ⟨K, D, U⟩ := p
      simp only at k0 k1 k2
      have HKC : Hid (wr.cell? ⟨g1, o, none⟩ = some (.int .i64 K) ∧ wr.cell? ⟨g1, o + 1, none⟩ = some (.int .i64 D) ∧ wr.cell? ⟨g1, o + 2, none⟩ = some (.string ⟨U.toArray⟩)) := ⟨k0, k1, k2⟩
      have HEG : Hid (g1 < wr.heap.size) := eg
      have hi0 : (0 : Int) < (A.length : Int) + 1 := by omega
      have hi1 : (1 : Int) ≤ (A.length : Int) + 1 := by omega
      unfold noP at CT
      unfold partV at cL CT
      clear hI hS' hl
      go_wp2_with (first
        | (go_at_call 210; refine (cL.out _).mono ?_; rintro e w1 ⟨rfl, hb1⟩; obtain ⟨b1, b2, b3⟩ := two_boxes hb1; have HR1 : Hid (w1.heap[wr.heap.size]? = some (.cells #[.int .i64 0, .int .i64 0, .string ⟨#[]⟩] 50 (0, 0))) := b1; have HP1 : Hid (w1.heap[wr.heap.size + 1]? = some (.cells #[.int .i64 0, .int .i64 0, .string ⟨#[]⟩] 50 (0, 0))) := b2; have HB1 : Hid (Below wr.heap.size wr w1) := b3; clear b1 b2 b3 hb1; have r0 : w1.cell? ⟨wr.heap.size, 0, none⟩ = some (.int .i64 0) := Lib.cell_of_heap HR1.out 0; have r1 : w1.cell? ⟨wr.heap.size, 1, none⟩ = some (.int .i64 0) := Lib.cell_of_heap HR1.out 1; have r2 : w1.cell? ⟨wr.heap.size, 2, none⟩ = some (.string ⟨#[]⟩) := Lib.cell_of_heap HR1.out 2; have rF0 : w1.frozen? ⟨wr.heap.size, 0, none⟩ = false := frozen_of_heap HR1.out 0; have rF1 : w1.frozen? ⟨wr.heap.size, 1, none⟩ = false := frozen_of_heap HR1.out 1; have rF2 : w1.frozen? ⟨wr.heap.size, 2, none⟩ = false := frozen_of_heap HR1.out 2; have q0 : w1.cell? ⟨wr.heap.size + 1, 0, none⟩ = some (.int .i64 0) := Lib.cell_of_heap HP1.out 0; have q1 : w1.cell? ⟨wr.heap.size + 1, 1, none⟩ = some (.int .i64 0) := Lib.cell_of_heap HP1.out 1; have q2 : w1.cell? ⟨wr.heap.size + 1, 2, none⟩ = some (.string ⟨#[]⟩) := Lib.cell_of_heap HP1.out 2; have qF0 : w1.frozen? ⟨wr.heap.size + 1, 0, none⟩ = false := frozen_of_heap HP1.out 0; have qF1 : w1.frozen? ⟨wr.heap.size + 1, 1, none⟩ = false := frozen_of_heap HP1.out 1; have qF2 : w1.frozen? ⟨wr.heap.size + 1, 2, none⟩ = false := frozen_of_heap HP1.out 2; have x0 : w1.cell? ⟨g1, o, none⟩ = some (.int .i64 K) := (HB1.out.cell HEG.out).trans HKC.out.1; have x1 : w1.cell? ⟨g1, o + 1, none⟩ = some (.int .i64 D) := (HB1.out.cell HEG.out).trans HKC.out.2.1; have x2 : w1.cell? ⟨g1, o + 2, none⟩ = some (.string ⟨U.toArray⟩) := (HB1.out.cell HEG.out).trans HKC.out.2.2)
        | fail)
      obtain ⟨s0, s1, s2, hsz, hoth⟩ := three_set r0 r1 r2 (.int .i64 K) (.int .i64 D) (.string ⟨U.toArray⟩)
      go_region
      all_goals (go_wp2_with (first
        | (go_at_call 213; have HBW : Hid (Below wr.heap.size wr _) := ((((HB1.out.setCell (p := ⟨wr.heap.size, 0, none⟩) (Nat.le_refl _) (.int .i64 K)).setCell (p := ⟨wr.heap.size, 1, none⟩) (Nat.le_refl _) (.int .i64 D)).setCell (p := ⟨wr.heap.size, 2, none⟩) (Nat.le_refl _) (.string ⟨U.toArray⟩)).drew); refine (CT.out _ HBW.out).mono ?_; rintro e w5 ⟨⟨v5, rfl⟩, hg5, hb5⟩)
        | fail))
      · have hc1 : c = 1 := by assumption
        subst hc1
        go_roundg l.length
        case measure => have := HK.out; simp only [List.length_cons] at this; omega
        case rel => exact sideR_next HS.out ((HT.out _ HBW.out).2 rfl) HB.out HR.out hg5 hb5 HO.out h1 h2 h3 h4
      · go_roundg l.length
        case measure => have := HK.out; simp only [List.length_cons] at this; omega
        case rel => exact sideR_next HS.out (HT.out _ HBW.out).1 HB.out HR.out hg5 hb5 HO.out h1 h2 h3 h4
    | last =>
      rename_i p B l hl hS'
      obtain ⟨p2, c2, rfl, _, _, _⟩ := hI.r1
      obtain ⟨o, c, rfl, e1, e2, eg, e3, k0, k1, k2⟩ := winP_head hI.r2
      have cL : Hid (∀ wx, Calls Tryz.prog 210 #[partV p] wx fun e w' => e = .returned (.bool true) ∧ Below wx.heap.size wx w') := fun wx => by
        have := isPut_any p wx
        rw [show decide (p.put ≠ []) = true from hl] at this
        exact this
      have CT : Hid (∀ W', Below wr.heap.size wr W' → Calls Tryz.prog 213 #[partV (noP, p).1, partV (noP, p).2, .pointer (some ⟨β, 0, none⟩)] W' (tookP M a s (t (noP, p)) W')) := fun W' hb => cT.out s (noP, p) T n l W' (HI.out.grow hb).g (HI.out.grow hb).b HB.out
      have HS : Hid (Side isPutP isPutP _ _ l) := hS'
      have HT : Hid (∀ W', Below wr.heap.size wr W' → _ ∧ _) := fun W' hb => sideI.tail2 HI.out hb
      obtain ⟨K, D, U⟩ := p
      simp only at k0 k1 k2
      have HKC : Hid (wr.cell? ⟨g2, o, none⟩ = some (.int .i64 K) ∧ wr.cell? ⟨g2, o + 1, none⟩ = some (.int .i64 D) ∧ wr.cell? ⟨g2, o + 2, none⟩ = some (.string ⟨U.toArray⟩)) := ⟨k0, k1, k2⟩
      have HEG : Hid (g2 < wr.heap.size) := eg
      have hi0 : (0 : Int) < (B.length : Int) + 1 := by omega
      have hi1 : (1 : Int) ≤ (B.length : Int) + 1 := by omega
      unfold noP at CT
      unfold partV at cL CT
      clear hI hS' hl
      go_wp2_with (first
        | (go_at_call 210; refine (cL.out _).mono ?_; rintro e w1 ⟨rfl, hb1⟩; obtain ⟨b1, b2, b3⟩ := two_boxes hb1; have HR1 : Hid (w1.heap[wr.heap.size]? = some (.cells #[.int .i64 0, .int .i64 0, .string ⟨#[]⟩] 50 (0, 0))) := b1; have HP1 : Hid (w1.heap[wr.heap.size + 1]? = some (.cells #[.int .i64 0, .int .i64 0, .string ⟨#[]⟩] 50 (0, 0))) := b2; have HB1 : Hid (Below wr.heap.size wr w1) := b3; clear b1 b2 b3 hb1; have r0 : w1.cell? ⟨wr.heap.size, 0, none⟩ = some (.int .i64 0) := Lib.cell_of_heap HR1.out 0; have r1 : w1.cell? ⟨wr.heap.size, 1, none⟩ = some (.int .i64 0) := Lib.cell_of_heap HR1.out 1; have r2 : w1.cell? ⟨wr.heap.size, 2, none⟩ = some (.string ⟨#[]⟩) := Lib.cell_of_heap HR1.out 2; have rF0 : w1.frozen? ⟨wr.heap.size, 0, none⟩ = false := frozen_of_heap HR1.out 0; have rF1 : w1.frozen? ⟨wr.heap.size, 1, none⟩ = false := frozen_of_heap HR1.out 1; have rF2 : w1.frozen? ⟨wr.heap.size, 2, none⟩ = false := frozen_of_heap HR1.out 2; have q0 : w1.cell? ⟨wr.heap.size + 1, 0, none⟩ = some (.int .i64 0) := Lib.cell_of_heap HP1.out 0; have q1 : w1.cell? ⟨wr.heap.size + 1, 1, none⟩ = some (.int .i64 0) := Lib.cell_of_heap HP1.out 1; have q2 : w1.cell? ⟨wr.heap.size + 1, 2, none⟩ = some (.string ⟨#[]⟩) := Lib.cell_of_heap HP1.out 2; have qF0 : w1.frozen? ⟨wr.heap.size + 1, 0, none⟩ = false := frozen_of_heap HP1.out 0; have qF1 : w1.frozen? ⟨wr.heap.size + 1, 1, none⟩ = false := frozen_of_heap HP1.out 1; have qF2 : w1.frozen? ⟨wr.heap.size + 1, 2, none⟩ = false := frozen_of_heap HP1.out 2; have x0 : w1.cell? ⟨g2, o, none⟩ = some (.int .i64 K) := (HB1.out.cell HEG.out).trans HKC.out.1; have x1 : w1.cell? ⟨g2, o + 1, none⟩ = some (.int .i64 D) := (HB1.out.cell HEG.out).trans HKC.out.2.1; have x2 : w1.cell? ⟨g2, o + 2, none⟩ = some (.string ⟨U.toArray⟩) := (HB1.out.cell HEG.out).trans HKC.out.2.2)
        | fail)
      obtain ⟨s0, s1, s2, hsz, hoth⟩ := three_set q0 q1 q2 (.int .i64 K) (.int .i64 D) (.string ⟨U.toArray⟩)
      go_region
      all_goals (go_wp2_with (first
        | (go_at_call 213; have HBW : Hid (Below wr.heap.size wr _) := ((((HB1.out.setCell (p := ⟨wr.heap.size + 1, 0, none⟩) (Nat.le_succ _) (.int .i64 K)).setCell (p := ⟨wr.heap.size + 1, 1, none⟩) (Nat.le_succ _) (.int .i64 D)).setCell (p := ⟨wr.heap.size + 1, 2, none⟩) (Nat.le_succ _) (.string ⟨U.toArray⟩)).drew); refine (CT.out _ HBW.out).mono ?_; rintro e w5 ⟨⟨v5, rfl⟩, hg5, hb5⟩)
        | fail))
      · have hc1 : c = 1 := by assumption
        subst hc1
        go_roundg l.length
        case measure => have := HK.out; simp only [List.length_cons] at this; omega
        case rel => exact sideR_next HS.out ((HT.out _ HBW.out).2 rfl) HB.out HR.out hg5 hb5 HO.out h1 h2 h3 h4
      · go_roundg l.length
        case measure => have := HK.out; simp only [List.length_cons] at this; omega
        case rel => exact sideR_next HS.out (HT.out _ HBW.out).1 HB.out HR.out hg5 hb5 HO.out h1 h2 h3 h4
    | right =>
      rename_i pa p A B l hla hl hS'
      obtain ⟨oa, ca, rfl, ea1, ea2, eag, ea3, ka0, ka1, ka2⟩ := winP_head hI.r1
      obtain ⟨o, c, rfl, e1, e2, eg, e3, k0, k1, k2⟩ := winP_head hI.r2
      have cLA : Hid (∀ wx, Calls Tryz.prog 210 #[partV pa] wx fun e w' => e = .returned (.bool false) ∧ Below wx.heap.size wx w') := fun wx => by
        have := isPut_any pa wx
        rw [show decide (pa.put ≠ []) = false from hla] at this
        exact this
      have cL : Hid (∀ wx, Calls Tryz.prog 210 #[partV p] wx fun e w' => e = .returned (.bool true) ∧ Below wx.heap.size wx w') := fun wx => by
        have := isPut_any p wx
        rw [show decide (p.put ≠ []) = true from hl] at this
        exact this
      have CT : Hid (∀ W', Below wr.heap.size wr W' → Calls Tryz.prog 213 #[partV (noP, p).1, partV (noP, p).2, .pointer (some ⟨β, 0, none⟩)] W' (tookP M a s (t (noP, p)) W')) := fun W' hb => cT.out s (noP, p) T n l W' (HI.out.grow hb).g (HI.out.grow hb).b HB.out
      have HS : Hid (Side isPutP isPutP _ _ l) := hS'
      have HT : Hid (∀ W', Below wr.heap.size wr W' → _ ∧ _) := fun W' hb => sideI.tail2 HI.out hb
      obtain ⟨KA, DA, UA⟩ := pa
      simp only at ka0 ka1 ka2
      have HKA : Hid (wr.cell? ⟨g1, oa, none⟩ = some (.int .i64 KA) ∧ wr.cell? ⟨g1, oa + 1, none⟩ = some (.int .i64 DA) ∧ wr.cell? ⟨g1, oa + 2, none⟩ = some (.string ⟨UA.toArray⟩)) := ⟨ka0, ka1, ka2⟩
      have hia : (0 : Int) < (A.length : Int) + 1 := by omega
      unfold partV at cLA
      obtain ⟨K, D, U⟩ := p
      simp only at k0 k1 k2
      have HKC : Hid (wr.cell? ⟨g2, o, none⟩ = some (.int .i64 K) ∧ wr.cell? ⟨g2, o + 1, none⟩ = some (.int .i64 D) ∧ wr.cell? ⟨g2, o + 2, none⟩ = some (.string ⟨U.toArray⟩)) := ⟨k0, k1, k2⟩
      have HEG : Hid (g2 < wr.heap.size) := eg
      have hi0 : (0 : Int) < (B.length : Int) + 1 := by omega
      have hi1 : (1 : Int) ≤ (B.length : Int) + 1 := by omega
      unfold noP at CT
      unfold partV at cL CT
      clear hI hS' hl hla
      go_wp2_with (first
        | (have _ := HB1; go_at_call 210; refine (cL.out _).mono ?_; rintro e w2 ⟨rfl, hb2⟩; have HR2 : Hid (w2.heap[wr.heap.size]? = some (.cells #[.int .i64 0, .int .i64 0, .string ⟨#[]⟩] 50 (0, 0))) := (hb2.block _ (heap_lt HR1.out)).trans HR1.out; have HP2 : Hid (w2.heap[wr.heap.size + 1]? = some (.cells #[.int .i64 0, .int .i64 0, .string ⟨#[]⟩] 50 (0, 0))) := (hb2.block _ (heap_lt HP1.out)).trans HP1.out; have HB2 : Hid (Below wr.heap.size wr w2) := HB1.out.trans (hb2.mono HB1.out.size); clear hb2; have r0 : w2.cell? ⟨wr.heap.size, 0, none⟩ = some (.int .i64 0) := Lib.cell_of_heap HR2.out 0; have r1 : w2.cell? ⟨wr.heap.size, 1, none⟩ = some (.int .i64 0) := Lib.cell_of_heap HR2.out 1; have r2 : w2.cell? ⟨wr.heap.size, 2, none⟩ = some (.string ⟨#[]⟩) := Lib.cell_of_heap HR2.out 2; have rF0 : w2.frozen? ⟨wr.heap.size, 0, none⟩ = false := frozen_of_heap HR2.out 0; have rF1 : w2.frozen? ⟨wr.heap.size, 1, none⟩ = false := frozen_of_heap HR2.out 1; have rF2 : w2.frozen? ⟨wr.heap.size, 2, none⟩ = false := frozen_of_heap HR2.out 2; have q0 : w2.cell? ⟨wr.heap.size + 1, 0, none⟩ = some (.int .i64 0) := Lib.cell_of_heap HP2.out 0; have q1 : w2.cell? ⟨wr.heap.size + 1, 1, none⟩ = some (.int .i64 0) := Lib.cell_of_heap HP2.out 1; have q2 : w2.cell? ⟨wr.heap.size + 1, 2, none⟩ = some (.string ⟨#[]⟩) := Lib.cell_of_heap HP2.out 2; have qF0 : w2.frozen? ⟨wr.heap.size + 1, 0, none⟩ = false := frozen_of_heap HP2.out 0; have qF1 : w2.frozen? ⟨wr.heap.size + 1, 1, none⟩ = false := frozen_of_heap HP2.out 1; have qF2 : w2.frozen? ⟨wr.heap.size + 1, 2, none⟩ = false := frozen_of_heap HP2.out 2; have x0 : w2.cell? ⟨g2, o, none⟩ = some (.int .i64 K) := (HB2.out.cell HEG.out).trans HKC.out.1; have x1 : w2.cell? ⟨g2, o + 1, none⟩ = some (.int .i64 D) := (HB2.out.cell HEG.out).trans HKC.out.2.1; have x2 : w2.cell? ⟨g2, o + 2, none⟩ = some (.string ⟨U.toArray⟩) := (HB2.out.cell HEG.out).trans HKC.out.2.2)
        | (go_at_call 210; refine (cLA.out _).mono ?_; rintro e w1 ⟨rfl, hb1⟩; obtain ⟨b1, b2, b3⟩ := two_boxes hb1; have HR1 : Hid (w1.heap[wr.heap.size]? = some (.cells #[.int .i64 0, .int .i64 0, .string ⟨#[]⟩] 50 (0, 0))) := b1; have HP1 : Hid (w1.heap[wr.heap.size + 1]? = some (.cells #[.int .i64 0, .int .i64 0, .string ⟨#[]⟩] 50 (0, 0))) := b2; have HB1 : Hid (Below wr.heap.size wr w1) := b3; clear b1 b2 b3 hb1; have x0 : w1.cell? ⟨g2, o, none⟩ = some (.int .i64 K) := (HB1.out.cell HEG.out).trans HKC.out.1; have x1 : w1.cell? ⟨g2, o + 1, none⟩ = some (.int .i64 D) := (HB1.out.cell HEG.out).trans HKC.out.2.1; have x2 : w1.cell? ⟨g2, o + 2, none⟩ = some (.string ⟨U.toArray⟩) := (HB1.out.cell HEG.out).trans HKC.out.2.2)
        | fail)
      obtain ⟨s0, s1, s2, hsz, hoth⟩ := three_set q0 q1 q2 (.int .i64 K) (.int .i64 D) (.string ⟨U.toArray⟩)
      go_region
      all_goals (go_wp2_with (first
        | (go_at_call 213; have HBW : Hid (Below wr.heap.size wr _) := ((((HB2.out.setCell (p := ⟨wr.heap.size + 1, 0, none⟩) (Nat.le_succ _) (.int .i64 K)).setCell (p := ⟨wr.heap.size + 1, 1, none⟩) (Nat.le_succ _) (.int .i64 D)).setCell (p := ⟨wr.heap.size + 1, 2, none⟩) (Nat.le_succ _) (.string ⟨U.toArray⟩)).drew); refine (CT.out _ HBW.out).mono ?_; rintro e w5 ⟨⟨v5, rfl⟩, hg5, hb5⟩)
        | fail))
      · have hc1 : c = 1 := by assumption
        subst hc1
        go_roundg l.length
        case measure => have := HK.out; simp only [List.length_cons] at this; omega
        case rel => exact sideR_next HS.out ((HT.out _ HBW.out).2 rfl) HB.out HR.out hg5 hb5 HO.out h1 h2 h3 h4
      · go_roundg l.length
        case measure => have := HK.out; simp only [List.length_cons] at this; omega
        case rel => exact sideR_next HS.out (HT.out _ HBW.out).1 HB.out HR.out hg5 hb5 HO.out h1 h2 h3 h4
    | both =>
      rename_i p q A B l m hla hlb o1 o2 m0 hm b1 b2 hS'
      obtain ⟨oa, ca, rfl, ea1, ea2, eag, ea3, ka0, ka1, ka2⟩ := winP_head hI.r1
      obtain ⟨ob, cb, rfl, eb1, eb2, ebg, eb3, kb0, kb1, kb2⟩ := winP_head hI.r2
      have hlp := length_pos o1
      have hlq := length_pos o2
      have cLA : Hid (∀ wx, Calls Tryz.prog 210 #[partV p] wx fun e w' => e = .returned (.bool false) ∧ Below wx.heap.size wx w') := fun wx => by
        have := isPut_any p wx
        rw [show decide (p.put ≠ []) = false from hla] at this
        exact this
      have cLB : Hid (∀ wx, Calls Tryz.prog 210 #[partV q] wx fun e w' => e = .returned (.bool false) ∧ Below wx.heap.size wx w') := fun wx => by
        have := isPut_any q wx
        rw [show decide (q.put ≠ []) = false from hlb] at this
        exact this
      have cNP : Hid (∀ wx, Calls Tryz.prog 231 #[partV p] wx fun e w' => e = .returned (.int .i64 (lengthP p)) ∧ Below wx.heap.size wx w') := fun wx => length_any p wx (by rcases o1 with ⟨h1, h2, h3⟩ | ⟨h1, h2, h3⟩ | ⟨h1, h2, h3⟩ <;> exact ⟨by omega, by omega⟩) (by unfold lengthP at b1; omega)
      have cNQ : Hid (∀ wx, Calls Tryz.prog 231 #[partV q] wx fun e w' => e = .returned (.int .i64 (lengthP q)) ∧ Below wx.heap.size wx w') := fun wx => length_any q wx (by rcases o2 with ⟨h1, h2, h3⟩ | ⟨h1, h2, h3⟩ | ⟨h1, h2, h3⟩ <;> exact ⟨by omega, by omega⟩) (by unfold lengthP at b2; omega)
      have CC1 : Hid (∀ W', winP W' g1 (.slice (some ⟨g1, oa, none⟩) (A.length + 1) ca) (p :: A) → Calls Tryz.prog 232 #[.slice (some ⟨g1, oa, none⟩) (A.length + 1) ca, .int .i64 m] W' fun e w' => ∃ v', e = .returned (.tuple #[partV (cutP p m).1, v']) ∧ winP w' g1 v' ((cutP p m).2 ++ A) ∧ ButO g1 W' w') := fun W' h => cut_any g1 _ p A m W' h o1 m0 (by omega) b1
      have CC2 : Hid (∀ W', winP W' g2 (.slice (some ⟨g2, ob, none⟩) (B.length + 1) cb) (q :: B) → Calls Tryz.prog 232 #[.slice (some ⟨g2, ob, none⟩) (B.length + 1) cb, .int .i64 m] W' fun e w' => ∃ v', e = .returned (.tuple #[partV (cutP q m).1, v']) ∧ winP w' g2 v' ((cutP q m).2 ++ B) ∧ ButO g2 W' w') := fun W' h => cut_any g2 _ q B m W' h o2 m0 (by omega) b2
      have CT : Hid (∀ W', gath M W' a s → boxesP bx W' → Calls Tryz.prog 213 #[partV (cutP p m).1, partV (cutP q m).1, .pointer (some ⟨β, 0, none⟩)] W' (tookP M a s (t ((cutP p m).1, (cutP q m).1)) W')) := fun W' hg hb => cT.out s ((cutP p m).1, (cutP q m).1) T n l W' hg hb HB.out
      have HS : Hid (Side isPutP isPutP ((cutP p m).2 ++ A) ((cutP q m).2 ++ B) l) := hS'
      have hm1 : (m : Int) < 1000000000 := by omega
      clear hS' hla hlb o1 o2 hlp hlq b1 b2
      generalize lengthP p = LP at *
      generalize lengthP q = LQ at *
      obtain ⟨R1, hR1⟩ : ∃ R, (cutP p m).2 ++ A = R := ⟨_, rfl⟩
      obtain ⟨R2, hR2⟩ : ∃ R, (cutP q m).2 ++ B = R := ⟨_, rfl⟩
      obtain ⟨x1, hx1⟩ : ∃ x, (cutP p m).1 = x := ⟨_, rfl⟩
      obtain ⟨x2, hx2⟩ : ∃ x, (cutP q m).1 = x := ⟨_, rfl⟩
      rw [hR1, hx1] at CC1
      rw [hR2, hx2] at CC2
      rw [hx1, hx2] at CT HB HR
      rw [hR1, hR2] at HS
      rw [hx1, hx2] at HK
      clear hR1 hR2 hx1 hx2
      obtain ⟨K1, D1, U1⟩ := x1
      obtain ⟨K2, D2, U2⟩ := x2
      have HW1 : Hid (winP wr g1 (.slice (some ⟨g1, oa, none⟩) (A.length + 1) ca) (p :: A)) := hI.r1
      have HW2 : Hid (winP wr g2 (.slice (some ⟨g2, ob, none⟩) (B.length + 1) cb) (q :: B)) := hI.r2
      have HEG1 : Hid (g1 < wr.heap.size) := eag
      have HEG2 : Hid (g2 < wr.heap.size) := ebg
      obtain ⟨KA, DA, UA⟩ := p
      obtain ⟨KB, DB, UB⟩ := q
      simp only at ka0 ka1 ka2 kb0 kb1 kb2
      have HKA : Hid (wr.cell? ⟨g1, oa, none⟩ = some (.int .i64 KA) ∧ wr.cell? ⟨g1, oa + 1, none⟩ = some (.int .i64 DA) ∧ wr.cell? ⟨g1, oa + 2, none⟩ = some (.string ⟨UA.toArray⟩)) := ⟨ka0, ka1, ka2⟩
      have HKB : Hid (wr.cell? ⟨g2, ob, none⟩ = some (.int .i64 KB) ∧ wr.cell? ⟨g2, ob + 1, none⟩ = some (.int .i64 DB) ∧ wr.cell? ⟨g2, ob + 2, none⟩ = some (.string ⟨UB.toArray⟩)) := ⟨kb0, kb1, kb2⟩
      have hia : (0 : Int) < (A.length : Int) + 1 := by omega
      have hib : (0 : Int) < (B.length : Int) + 1 := by omega
      unfold partV at cLA cLB cNP cNQ CC1 CC2 CT
      clear hI ea3 eb3
      go_wp2_with (first
        | (have _ := HB1; go_at_call 210; refine (cLB.out _).mono ?_; rintro e w2 ⟨rfl, hb2⟩; have HR2 : Hid (w2.heap[wr.heap.size]? = some (.cells #[.int .i64 0, .int .i64 0, .string ⟨#[]⟩] 50 (0, 0))) := (hb2.block _ (heap_lt HR1.out)).trans HR1.out; have HP2 : Hid (w2.heap[wr.heap.size + 1]? = some (.cells #[.int .i64 0, .int .i64 0, .string ⟨#[]⟩] 50 (0, 0))) := (hb2.block _ (heap_lt HP1.out)).trans HP1.out; have HB2 : Hid (Below wr.heap.size wr w2) := HB1.out.trans (hb2.mono HB1.out.size); clear hb2; have xa0 : w2.cell? ⟨g1, oa, none⟩ = some (.int .i64 KA) := (HB2.out.cell HEG1.out).trans HKA.out.1; have xa1 : w2.cell? ⟨g1, oa + 1, none⟩ = some (.int .i64 DA) := (HB2.out.cell HEG1.out).trans HKA.out.2.1; have xa2 : w2.cell? ⟨g1, oa + 2, none⟩ = some (.string ⟨UA.toArray⟩) := (HB2.out.cell HEG1.out).trans HKA.out.2.2; have xc0 : w2.cell? ⟨g2, ob, none⟩ = some (.int .i64 KB) := (HB2.out.cell HEG2.out).trans HKB.out.1; have xc1 : w2.cell? ⟨g2, ob + 1, none⟩ = some (.int .i64 DB) := (HB2.out.cell HEG2.out).trans HKB.out.2.1; have xc2 : w2.cell? ⟨g2, ob + 2, none⟩ = some (.string ⟨UB.toArray⟩) := (HB2.out.cell HEG2.out).trans HKB.out.2.2)
        | (go_at_call 210; refine (cLA.out _).mono ?_; rintro e w1 ⟨rfl, hb1⟩; obtain ⟨y1, y2, y3⟩ := two_boxes hb1; have HR1 : Hid (w1.heap[wr.heap.size]? = some (.cells #[.int .i64 0, .int .i64 0, .string ⟨#[]⟩] 50 (0, 0))) := y1; have HP1 : Hid (w1.heap[wr.heap.size + 1]? = some (.cells #[.int .i64 0, .int .i64 0, .string ⟨#[]⟩] 50 (0, 0))) := y2; have HB1 : Hid (Below wr.heap.size wr w1) := y3; clear y1 y2 y3 hb1; have xb0 : w1.cell? ⟨g2, ob, none⟩ = some (.int .i64 KB) := (HB1.out.cell HEG2.out).trans HKB.out.1; have xb1 : w1.cell? ⟨g2, ob + 1, none⟩ = some (.int .i64 DB) := (HB1.out.cell HEG2.out).trans HKB.out.2.1; have xb2 : w1.cell? ⟨g2, ob + 2, none⟩ = some (.string ⟨UB.toArray⟩) := (HB1.out.cell HEG2.out).trans HKB.out.2.2)
        | fail)
      go_region_with (first
        | (have _ := HB3; go_at_call 231; refine (cNQ.out _).mono ?_; rintro e w4 ⟨rfl, hb4⟩; have HR4 : Hid (w4.heap[wr.heap.size]? = some (.cells #[.int .i64 0, .int .i64 0, .string ⟨#[]⟩] 50 (0, 0))) := (hb4.block _ (heap_lt HR3.out)).trans HR3.out; have HP4 : Hid (w4.heap[wr.heap.size + 1]? = some (.cells #[.int .i64 0, .int .i64 0, .string ⟨#[]⟩] 50 (0, 0))) := (hb4.block _ (heap_lt HP3.out)).trans HP3.out; have HB4 : Hid (Below wr.heap.size wr w4) := HB3.out.trans (hb4.mono HB3.out.size); clear hb4)
        | (have _ := HB2; go_at_call 231; refine (cNP.out _).mono ?_; rintro e w3 ⟨rfl, hb3⟩; have HR3 : Hid (w3.heap[wr.heap.size]? = some (.cells #[.int .i64 0, .int .i64 0, .string ⟨#[]⟩] 50 (0, 0))) := (hb3.block _ (heap_lt HR2.out)).trans HR2.out; have HP3 : Hid (w3.heap[wr.heap.size + 1]? = some (.cells #[.int .i64 0, .int .i64 0, .string ⟨#[]⟩] 50 (0, 0))) := (hb3.block _ (heap_lt HP2.out)).trans HP2.out; have HB3 : Hid (Below wr.heap.size wr w3) := HB2.out.drew.trans (hb3.mono HB2.out.size); clear hb3; have xd0 : w3.cell? ⟨g2, ob, none⟩ = some (.int .i64 KB) := (HB3.out.cell HEG2.out).trans HKB.out.1; have xd1 : w3.cell? ⟨g2, ob + 1, none⟩ = some (.int .i64 DB) := (HB3.out.cell HEG2.out).trans HKB.out.2.1; have xd2 : w3.cell? ⟨g2, ob + 2, none⟩ = some (.string ⟨UB.toArray⟩) := (HB3.out.cell HEG2.out).trans HKB.out.2.2)
        | fail)
      all_goals (
        go_wp2_with (first
          | (have _ := HT7; go_at_call 213; have HI8 : Hid (sideI M a g1 g2 bx w _ _ R1 R2 s (((w7.setCell ⟨wr.heap.size + 1, 0, none⟩ (.int .i64 K2)).setCell ⟨wr.heap.size + 1, 1, none⟩ (.int .i64 D2)).setCell ⟨wr.heap.size + 1, 2, none⟩ (.string ⟨U2.toArray⟩))) := HI.out.both (HT7.out.above3 (Nat.le_succ _) _ _ _) HO.out h1 h2 h3 h4 (winP_kept HO7.out (by simp) fun _ => box_set_ne (by have := HEG1.out; omega)) (winP_kept HQ7.out (by simp) fun _ => box_set_ne (by have := HEG2.out; omega)); refine (CT.out _ HI8.out.g HI8.out.b).mono ?_; rintro e w9 ⟨⟨v9, rfl⟩, hg9, hb9⟩)
          | (have _ := HT5; go_at_call 232; have HT6 : Hid (ButO g1 wr (((w5.setCell ⟨wr.heap.size, 0, none⟩ (.int .i64 K1)).setCell ⟨wr.heap.size, 1, none⟩ (.int .i64 D1)).setCell ⟨wr.heap.size, 2, none⟩ (.string ⟨U1.toArray⟩))) := HT5.out.above3 (Nat.le_refl _) _ _ _; have HR6 : Hid ((((w5.setCell ⟨wr.heap.size, 0, none⟩ (.int .i64 K1)).setCell ⟨wr.heap.size, 1, none⟩ (.int .i64 D1)).setCell ⟨wr.heap.size, 2, none⟩ (.string ⟨U1.toArray⟩)).heap[wr.heap.size]? = some (.cells #[.int .i64 K1, .int .i64 D1, .string ⟨U1.toArray⟩] 50 (0, 0))) := box_set HR5.out _ _ _; have HP6 : Hid ((((w5.setCell ⟨wr.heap.size, 0, none⟩ (.int .i64 K1)).setCell ⟨wr.heap.size, 1, none⟩ (.int .i64 D1)).setCell ⟨wr.heap.size, 2, none⟩ (.string ⟨U1.toArray⟩)).heap[wr.heap.size + 1]? = some (.cells #[.int .i64 0, .int .i64 0, .string ⟨#[]⟩] 50 (0, 0))) := (box_set_ne (by omega)).trans HP5.out; have HQ6 : Hid (winP (((w5.setCell ⟨wr.heap.size, 0, none⟩ (.int .i64 K1)).setCell ⟨wr.heap.size, 1, none⟩ (.int .i64 D1)).setCell ⟨wr.heap.size, 2, none⟩ (.string ⟨U1.toArray⟩)) g1 _ R1) := winP_kept HQ5.out (by simp) fun _ => box_set_ne (by have := HEG1.out; omega); refine (CC2.out _ (winP_kept HW2.out HT6.out.size fun hg => HT6.out.block g2 hg (Ne.symm HNE.out))).mono ?_; rintro e w7 ⟨v7, rfl, hw7, hb7⟩; have HQ7 : Hid (winP w7 g2 v7 R2) := hw7; have hbz : ButO g2 (((w5.setCell ⟨wr.heap.size, 0, none⟩ (.int .i64 K1)).setCell ⟨wr.heap.size, 1, none⟩ (.int .i64 D1)).setCell ⟨wr.heap.size, 2, none⟩ (.string ⟨U1.toArray⟩)) w7 := ⟨hb7.os, hb7.tape, hb7.output, hb7.size, hb7.block⟩; obtain ⟨p7, c7, rfl, _⟩ := hw7; have HO7 : Hid (winP w7 g1 _ R1) := winP_but HQ6.out hbz HNE.out; have HR7 : Hid (w7.heap[wr.heap.size]? = some (.cells #[.int .i64 K1, .int .i64 D1, .string ⟨U1.toArray⟩] 50 (0, 0))) := (hbz.block _ (heap_lt HR6.out) (by have := HEG2.out; omega)).trans HR6.out; have HP7 : Hid (w7.heap[wr.heap.size + 1]? = some (.cells #[.int .i64 0, .int .i64 0, .string ⟨#[]⟩] 50 (0, 0))) := (hbz.block _ (heap_lt HP6.out) (by have := HEG2.out; omega)).trans HP6.out; have HT7 : Hid (But2 g1 g2 wr w7) := (But2.of1 HT6.out).cut2 hbz; clear hb7 hbz; have t0 : w7.cell? ⟨wr.heap.size, 0, none⟩ = some (.int .i64 K1) := Lib.cell_of_heap HR7.out 0; have t1 : w7.cell? ⟨wr.heap.size, 1, none⟩ = some (.int .i64 D1) := Lib.cell_of_heap HR7.out 1; have t2 : w7.cell? ⟨wr.heap.size, 2, none⟩ = some (.string ⟨U1.toArray⟩) := Lib.cell_of_heap HR7.out 2; have q0 : w7.cell? ⟨wr.heap.size + 1, 0, none⟩ = some (.int .i64 0) := Lib.cell_of_heap HP7.out 0; have q1 : w7.cell? ⟨wr.heap.size + 1, 1, none⟩ = some (.int .i64 0) := Lib.cell_of_heap HP7.out 1; have q2 : w7.cell? ⟨wr.heap.size + 1, 2, none⟩ = some (.string ⟨#[]⟩) := Lib.cell_of_heap HP7.out 2; have qF0 : w7.frozen? ⟨wr.heap.size + 1, 0, none⟩ = false := frozen_of_heap HP7.out 0; have qF1 : w7.frozen? ⟨wr.heap.size + 1, 1, none⟩ = false := frozen_of_heap HP7.out 1; have qF2 : w7.frozen? ⟨wr.heap.size + 1, 2, none⟩ = false := frozen_of_heap HP7.out 2)
          | (have _ := HB4; go_at_call 232; refine (CC1.out _ (winP_kept HW1.out HB4.out.size fun hg => HB4.out.block g1 hg)).mono ?_; rintro e w5 ⟨v5, rfl, hw5, hb5⟩; have HQ5 : Hid (winP w5 g1 v5 R1) := hw5; have hbz : ButO g1 w4 w5 := ⟨hb5.os, hb5.tape, hb5.output, hb5.size, hb5.block⟩; obtain ⟨p5, c5, rfl, _⟩ := hw5; have HR5 : Hid (w5.heap[wr.heap.size]? = some (.cells #[.int .i64 0, .int .i64 0, .string ⟨#[]⟩] 50 (0, 0))) := (hbz.block _ (heap_lt HR4.out) (by have := HEG1.out; omega)).trans HR4.out; have HP5 : Hid (w5.heap[wr.heap.size + 1]? = some (.cells #[.int .i64 0, .int .i64 0, .string ⟨#[]⟩] 50 (0, 0))) := (hbz.block _ (heap_lt HP4.out) (by have := HEG1.out; omega)).trans HP4.out; have HT5 : Hid (ButO g1 wr w5) := (ButO.of HB4.out).trans hbz; clear hb5 hbz; have r0 : w5.cell? ⟨wr.heap.size, 0, none⟩ = some (.int .i64 0) := Lib.cell_of_heap HR5.out 0; have r1 : w5.cell? ⟨wr.heap.size, 1, none⟩ = some (.int .i64 0) := Lib.cell_of_heap HR5.out 1; have r2 : w5.cell? ⟨wr.heap.size, 2, none⟩ = some (.string ⟨#[]⟩) := Lib.cell_of_heap HR5.out 2; have rF0 : w5.frozen? ⟨wr.heap.size, 0, none⟩ = false := frozen_of_heap HR5.out 0; have rF1 : w5.frozen? ⟨wr.heap.size, 1, none⟩ = false := frozen_of_heap HR5.out 1; have rF2 : w5.frozen? ⟨wr.heap.size, 2, none⟩ = false := frozen_of_heap HR5.out 2)
          | fail)
        go_roundg l.length
        case measure => have := HK.out; simp only [List.length_cons] at this; omega
        case rel => exact sideR_next HS.out HI8.out HB.out HR.out hg9 hb9 HO.out h1 h2 h3 h4)
end Go.Proofs.YtfedgjnhanlmeabGreatDoor

namespace Go.Proofs.YtfedgjnhanlmeabGreatDoor
open Go.RowKit
set_option linter.unusedVariables false
attribute [local go_sem] Oper.semAt_some

set_option maxRecDepth 100000 in
set_option maxHeartbeats 16000000 in
theorem side_turn2 (M a g1 g2 β : Nat) (bx : List (Nat × Obj)) (v1 v2 : Value) (A0 B0 : List Pt) (l0 : List (Pt × Pt)) (s0 : NSt) (w : World) {T0 : Int} {n0 : Nat} (hI0 : sideI M a g1 g2 bx w v1 v2 A0 B0 s0 w) (hS0 : Side isPutP isPutP A0 B0 l0) (hB0 : BdS (fun x => turnP (x.2, x.1)) l0 s0 T0 n0) (ho0 : boxesOk a g1 g2 bx) (h1 : a + 4 ≤ g1) (h2 : g1 < M) (h3 : a + 4 ≤ g2) (h4 : g2 < M) (hne0 : g1 ≠ g2)
    (cT0 : ∀ (s : NSt) (x : Pt × Pt) (T : Int) (n : Nat) (W : World), gath M W a s → boxesP bx W → Bd s T n → (∀ p ∈ (fun x => turnP (x.2, x.1)) x, soundP p) → T + wts ((fun x => turnP (x.2, x.1)) x) < 1000000000 → n < 10000000 → Calls Tryz.prog 214 #[partV x.1, partV x.2, .pointer (some ⟨β, 0, none⟩)] W (tookP M a s ((fun x => turnP (x.2, x.1)) x) W)) :
    Calls Tryz.prog 208 #[v1, v2, .func (.func 210) #[] #[], .func (.func 210) #[] #[], .func (.func 214) #[] #[.pointer (some ⟨β, 0, none⟩)]] w fun e w' => (∃ v, e = .returned v) ∧ gath M w' a (runS (fun x => turnP (x.2, x.1)) l0 s0) ∧ boxesP bx w' ∧ Below a w w' := by
  obtain ⟨S, hS⟩ : ∃ S, runS (fun x => turnP (x.2, x.1)) l0 s0 = S := ⟨_, rfl⟩
  rw [hS]
  obtain ⟨t, ht⟩ : ∃ t : Pt × Pt → List Pt, t = (fun x => turnP (x.2, x.1)) := ⟨_, rfl⟩
  rw [← ht] at hB0 hS cT0
  have cT : Hid (∀ (s : NSt) (x : Pt × Pt) (T : Int) (n : Nat) (l : List (Pt × Pt)) (W : World), gath M W a s → boxesP bx W → BdS t (x :: l) s T n → Calls Tryz.prog 214 #[partV x.1, partV x.2, .pointer (some ⟨β, 0, none⟩)] W (tookP M a s (t x) W)) := fun s x T n l W hg hb hB => cT0 s x T n W hg hb hB.bd hB.head.1 hB.head.2.1 hB.head.2.2
  have hst : sideR isPutP isPutP t M a g1 g2 bx w S l0.length v1 v2 w := ⟨A0, B0, l0, s0, T0, n0, rfl, hS0, hI0, hB0, hS⟩
  have HST : Hid (sideR isPutP isPutP t M a g1 g2 bx w S l0.length v1 v2 w) := hst
  have HO : Hid (boxesOk a g1 g2 bx) := ho0
  have HNE : Hid (g1 ≠ g2) := hne0
  clear ht cT0 hI0 hS0 hB0 ho0 hS hst hne0
  go_enter Tryz.func208, Tryz.ntmps208
  go_wp2
  go_loopg [0, 1] l0.length (fun k u1 u2 wr => sideR isPutP isPutP t M a g1 g2 bx w S k u1 u2 wr)
  case atStart => exact HST.out
  case round =>
    obtain ⟨A, B, l, s, T, n, hk, hSd, hI, hB, hR⟩ := hrel
    have hwz := hI.below.size
    have HK : Hid (l.length = gk) := hk
    have HI : Hid _ := hI
    have HB : Hid _ := hB
    have HR : Hid _ := hR
    clear HST
    clear hk hB hR
    cases hSd with
    | nil =>
      obtain ⟨p1, c1, rfl, _, _, _⟩ := hI.r1
      obtain ⟨p2, c2, rfl, _, _, _⟩ := hI.r2
      clear hI
      go_wp2
      go_end0
      have hx := HI.out
      exact ⟨⟨_, rfl⟩, by rw [← HR.out]; exact hx.g, hx.b, hx.below⟩
    | left =>
      rename_i p A l hl hS'
      obtain ⟨o, c, rfl, e1, e2, eg, e3, k0, k1, k2⟩ := winP_head hI.r1
      obtain ⟨p2, c2, rfl, _, _, _⟩ := hI.r2
      have cL : Hid (∀ wx, Calls Tryz.prog 210 #[partV p] wx fun e w' => e = .returned (.bool true) ∧ Below wx.heap.size wx w') := fun wx => by
        have := isPut_any p wx
        rw [show decide (p.put ≠ []) = true from hl] at this
        exact this
      have CT : Hid (∀ W', Below wr.heap.size wr W' → Calls Tryz.prog 214 #[partV (p, noP).1, partV (p, noP).2, .pointer (some ⟨β, 0, none⟩)] W' (tookP M a s (t (p, noP)) W')) := fun W' hb => cT.out s (p, noP) T n l W' (HI.out.grow hb).g (HI.out.grow hb).b HB.out
      have HS : Hid (Side isPutP isPutP _ _ l) := hS'
      have HT : Hid (∀ W', Below wr.heap.size wr W' → _ ∧ _) := fun W' hb => sideI.tail1 HI.out hb
      obtain ⟨K, D, U⟩ := p
      simp only at k0 k1 k2
      have HKC : Hid (wr.cell? ⟨g1, o, none⟩ = some (.int .i64 K) ∧ wr.cell? ⟨g1, o + 1, none⟩ = some (.int .i64 D) ∧ wr.cell? ⟨g1, o + 2, none⟩ = some (.string ⟨U.toArray⟩)) := ⟨k0, k1, k2⟩
      have HEG : Hid (g1 < wr.heap.size) := eg
      have hi0 : (0 : Int) < (A.length : Int) + 1 := by omega
      have hi1 : (1 : Int) ≤ (A.length : Int) + 1 := by omega
      unfold noP at CT
      unfold partV at cL CT
      clear hI hS' hl
      go_wp2_with (first
        | (go_at_call 210; refine (cL.out _).mono ?_; rintro e w1 ⟨rfl, hb1⟩; obtain ⟨b1, b2, b3⟩ := two_boxes hb1; have HR1 : Hid (w1.heap[wr.heap.size]? = some (.cells #[.int .i64 0, .int .i64 0, .string ⟨#[]⟩] 50 (0, 0))) := b1; have HP1 : Hid (w1.heap[wr.heap.size + 1]? = some (.cells #[.int .i64 0, .int .i64 0, .string ⟨#[]⟩] 50 (0, 0))) := b2; have HB1 : Hid (Below wr.heap.size wr w1) := b3; clear b1 b2 b3 hb1; have r0 : w1.cell? ⟨wr.heap.size, 0, none⟩ = some (.int .i64 0) := Lib.cell_of_heap HR1.out 0; have r1 : w1.cell? ⟨wr.heap.size, 1, none⟩ = some (.int .i64 0) := Lib.cell_of_heap HR1.out 1; have r2 : w1.cell? ⟨wr.heap.size, 2, none⟩ = some (.string ⟨#[]⟩) := Lib.cell_of_heap HR1.out 2; have rF0 : w1.frozen? ⟨wr.heap.size, 0, none⟩ = false := frozen_of_heap HR1.out 0; have rF1 : w1.frozen? ⟨wr.heap.size, 1, none⟩ = false := frozen_of_heap HR1.out 1; have rF2 : w1.frozen? ⟨wr.heap.size, 2, none⟩ = false := frozen_of_heap HR1.out 2; have q0 : w1.cell? ⟨wr.heap.size + 1, 0, none⟩ = some (.int .i64 0) := Lib.cell_of_heap HP1.out 0; have q1 : w1.cell? ⟨wr.heap.size + 1, 1, none⟩ = some (.int .i64 0) := Lib.cell_of_heap HP1.out 1; have q2 : w1.cell? ⟨wr.heap.size + 1, 2, none⟩ = some (.string ⟨#[]⟩) := Lib.cell_of_heap HP1.out 2; have qF0 : w1.frozen? ⟨wr.heap.size + 1, 0, none⟩ = false := frozen_of_heap HP1.out 0; have qF1 : w1.frozen? ⟨wr.heap.size + 1, 1, none⟩ = false := frozen_of_heap HP1.out 1; have qF2 : w1.frozen? ⟨wr.heap.size + 1, 2, none⟩ = false := frozen_of_heap HP1.out 2; have x0 : w1.cell? ⟨g1, o, none⟩ = some (.int .i64 K) := (HB1.out.cell HEG.out).trans HKC.out.1; have x1 : w1.cell? ⟨g1, o + 1, none⟩ = some (.int .i64 D) := (HB1.out.cell HEG.out).trans HKC.out.2.1; have x2 : w1.cell? ⟨g1, o + 2, none⟩ = some (.string ⟨U.toArray⟩) := (HB1.out.cell HEG.out).trans HKC.out.2.2)
        | fail)
      obtain ⟨s0, s1, s2, hsz, hoth⟩ := three_set r0 r1 r2 (.int .i64 K) (.int .i64 D) (.string ⟨U.toArray⟩)
      go_region
      all_goals (go_wp2_with (first
        | (go_at_call 214; have HBW : Hid (Below wr.heap.size wr _) := ((((HB1.out.setCell (p := ⟨wr.heap.size, 0, none⟩) (Nat.le_refl _) (.int .i64 K)).setCell (p := ⟨wr.heap.size, 1, none⟩) (Nat.le_refl _) (.int .i64 D)).setCell (p := ⟨wr.heap.size, 2, none⟩) (Nat.le_refl _) (.string ⟨U.toArray⟩)).drew); refine (CT.out _ HBW.out).mono ?_; rintro e w5 ⟨⟨v5, rfl⟩, hg5, hb5⟩)
        | fail))
      · have hc1 : c = 1 := by assumption
        subst hc1
        go_roundg l.length
        case measure => have := HK.out; simp only [List.length_cons] at this; omega
        case rel => exact sideR_next HS.out ((HT.out _ HBW.out).2 rfl) HB.out HR.out hg5 hb5 HO.out h1 h2 h3 h4
      · go_roundg l.length
        case measure => have := HK.out; simp only [List.length_cons] at this; omega
        case rel => exact sideR_next HS.out (HT.out _ HBW.out).1 HB.out HR.out hg5 hb5 HO.out h1 h2 h3 h4
    | last =>
      rename_i p B l hl hS'
      obtain ⟨p2, c2, rfl, _, _, _⟩ := hI.r1
      obtain ⟨o, c, rfl, e1, e2, eg, e3, k0, k1, k2⟩ := winP_head hI.r2
      have cL : Hid (∀ wx, Calls Tryz.prog 210 #[partV p] wx fun e w' => e = .returned (.bool true) ∧ Below wx.heap.size wx w') := fun wx => by
        have := isPut_any p wx
        rw [show decide (p.put ≠ []) = true from hl] at this
        exact this
      have CT : Hid (∀ W', Below wr.heap.size wr W' → Calls Tryz.prog 214 #[partV (noP, p).1, partV (noP, p).2, .pointer (some ⟨β, 0, none⟩)] W' (tookP M a s (t (noP, p)) W')) := fun W' hb => cT.out s (noP, p) T n l W' (HI.out.grow hb).g (HI.out.grow hb).b HB.out
      have HS : Hid (Side isPutP isPutP _ _ l) := hS'
      have HT : Hid (∀ W', Below wr.heap.size wr W' → _ ∧ _) := fun W' hb => sideI.tail2 HI.out hb
      obtain ⟨K, D, U⟩ := p
      simp only at k0 k1 k2
      have HKC : Hid (wr.cell? ⟨g2, o, none⟩ = some (.int .i64 K) ∧ wr.cell? ⟨g2, o + 1, none⟩ = some (.int .i64 D) ∧ wr.cell? ⟨g2, o + 2, none⟩ = some (.string ⟨U.toArray⟩)) := ⟨k0, k1, k2⟩
      have HEG : Hid (g2 < wr.heap.size) := eg
      have hi0 : (0 : Int) < (B.length : Int) + 1 := by omega
      have hi1 : (1 : Int) ≤ (B.length : Int) + 1 := by omega
      unfold noP at CT
      unfold partV at cL CT
      clear hI hS' hl
      go_wp2_with (first
        | (go_at_call 210; refine (cL.out _).mono ?_; rintro e w1 ⟨rfl, hb1⟩; obtain ⟨b1, b2, b3⟩ := two_boxes hb1; have HR1 : Hid (w1.heap[wr.heap.size]? = some (.cells #[.int .i64 0, .int .i64 0, .string ⟨#[]⟩] 50 (0, 0))) := b1; have HP1 : Hid (w1.heap[wr.heap.size + 1]? = some (.cells #[.int .i64 0, .int .i64 0, .string ⟨#[]⟩] 50 (0, 0))) := b2; have HB1 : Hid (Below wr.heap.size wr w1) := b3; clear b1 b2 b3 hb1; have r0 : w1.cell? ⟨wr.heap.size, 0, none⟩ = some (.int .i64 0) := Lib.cell_of_heap HR1.out 0; have r1 : w1.cell? ⟨wr.heap.size, 1, none⟩ = some (.int .i64 0) := Lib.cell_of_heap HR1.out 1; have r2 : w1.cell? ⟨wr.heap.size, 2, none⟩ = some (.string ⟨#[]⟩) := Lib.cell_of_heap HR1.out 2; have rF0 : w1.frozen? ⟨wr.heap.size, 0, none⟩ = false := frozen_of_heap HR1.out 0; have rF1 : w1.frozen? ⟨wr.heap.size, 1, none⟩ = false := frozen_of_heap HR1.out 1; have rF2 : w1.frozen? ⟨wr.heap.size, 2, none⟩ = false := frozen_of_heap HR1.out 2; have q0 : w1.cell? ⟨wr.heap.size + 1, 0, none⟩ = some (.int .i64 0) := Lib.cell_of_heap HP1.out 0; have q1 : w1.cell? ⟨wr.heap.size + 1, 1, none⟩ = some (.int .i64 0) := Lib.cell_of_heap HP1.out 1; have q2 : w1.cell? ⟨wr.heap.size + 1, 2, none⟩ = some (.string ⟨#[]⟩) := Lib.cell_of_heap HP1.out 2; have qF0 : w1.frozen? ⟨wr.heap.size + 1, 0, none⟩ = false := frozen_of_heap HP1.out 0; have qF1 : w1.frozen? ⟨wr.heap.size + 1, 1, none⟩ = false := frozen_of_heap HP1.out 1; have qF2 : w1.frozen? ⟨wr.heap.size + 1, 2, none⟩ = false := frozen_of_heap HP1.out 2; have x0 : w1.cell? ⟨g2, o, none⟩ = some (.int .i64 K) := (HB1.out.cell HEG.out).trans HKC.out.1; have x1 : w1.cell? ⟨g2, o + 1, none⟩ = some (.int .i64 D) := (HB1.out.cell HEG.out).trans HKC.out.2.1; have x2 : w1.cell? ⟨g2, o + 2, none⟩ = some (.string ⟨U.toArray⟩) := (HB1.out.cell HEG.out).trans HKC.out.2.2)
        | fail)
      obtain ⟨s0, s1, s2, hsz, hoth⟩ := three_set q0 q1 q2 (.int .i64 K) (.int .i64 D) (.string ⟨U.toArray⟩)
      go_region
      all_goals (go_wp2_with (first
        | (go_at_call 214; have HBW : Hid (Below wr.heap.size wr _) := ((((HB1.out.setCell (p := ⟨wr.heap.size + 1, 0, none⟩) (Nat.le_succ _) (.int .i64 K)).setCell (p := ⟨wr.heap.size + 1, 1, none⟩) (Nat.le_succ _) (.int .i64 D)).setCell (p := ⟨wr.heap.size + 1, 2, none⟩) (Nat.le_succ _) (.string ⟨U.toArray⟩)).drew); refine (CT.out _ HBW.out).mono ?_; rintro e w5 ⟨⟨v5, rfl⟩, hg5, hb5⟩)
        | fail))
      · have hc1 : c = 1 := by assumption
        subst hc1
        go_roundg l.length
        case measure => have := HK.out; simp only [List.length_cons] at this; omega
        case rel => exact sideR_next HS.out ((HT.out _ HBW.out).2 rfl) HB.out HR.out hg5 hb5 HO.out h1 h2 h3 h4
      · go_roundg l.length
        case measure => have := HK.out; simp only [List.length_cons] at this; omega
        case rel => exact sideR_next HS.out (HT.out _ HBW.out).1 HB.out HR.out hg5 hb5 HO.out h1 h2 h3 h4
    | right =>
      rename_i pa p A B l hla hl hS'
      obtain ⟨oa, ca, rfl, ea1, ea2, eag, ea3, ka0, ka1, ka2⟩ := winP_head hI.r1
      obtain ⟨o, c, rfl, e1, e2, eg, e3, k0, k1, k2⟩ := winP_head hI.r2
      have cLA : Hid (∀ wx, Calls Tryz.prog 210 #[partV pa] wx fun e w' => e = .returned (.bool false) ∧ Below wx.heap.size wx w') := fun wx => by
        have := isPut_any pa wx
        rw [show decide (pa.put ≠ []) = false from hla] at this
        exact this
      have cL : Hid (∀ wx, Calls Tryz.prog 210 #[partV p] wx fun e w' => e = .returned (.bool true) ∧ Below wx.heap.size wx w') := fun wx => by
        have := isPut_any p wx
        rw [show decide (p.put ≠ []) = true from hl] at this
        exact this
      have CT : Hid (∀ W', Below wr.heap.size wr W' → Calls Tryz.prog 214 #[partV (noP, p).1, partV (noP, p).2, .pointer (some ⟨β, 0, none⟩)] W' (tookP M a s (t (noP, p)) W')) := fun W' hb => cT.out s (noP, p) T n l W' (HI.out.grow hb).g (HI.out.grow hb).b HB.out
      have HS : Hid (Side isPutP isPutP _ _ l) := hS'
      have HT : Hid (∀ W', Below wr.heap.size wr W' → _ ∧ _) := fun W' hb => sideI.tail2 HI.out hb
      obtain ⟨KA, DA, UA⟩ := pa
      simp only at ka0 ka1 ka2
      have HKA : Hid (wr.cell? ⟨g1, oa, none⟩ = some (.int .i64 KA) ∧ wr.cell? ⟨g1, oa + 1, none⟩ = some (.int .i64 DA) ∧ wr.cell? ⟨g1, oa + 2, none⟩ = some (.string ⟨UA.toArray⟩)) := ⟨ka0, ka1, ka2⟩
      have hia : (0 : Int) < (A.length : Int) + 1 := by omega
      unfold partV at cLA
      obtain ⟨K, D, U⟩ := p
      simp only at k0 k1 k2
      have HKC : Hid (wr.cell? ⟨g2, o, none⟩ = some (.int .i64 K) ∧ wr.cell? ⟨g2, o + 1, none⟩ = some (.int .i64 D) ∧ wr.cell? ⟨g2, o + 2, none⟩ = some (.string ⟨U.toArray⟩)) := ⟨k0, k1, k2⟩
      have HEG : Hid (g2 < wr.heap.size) := eg
      have hi0 : (0 : Int) < (B.length : Int) + 1 := by omega
      have hi1 : (1 : Int) ≤ (B.length : Int) + 1 := by omega
      unfold noP at CT
      unfold partV at cL CT
      clear hI hS' hl hla
      go_wp2_with (first
        | (have _ := HB1; go_at_call 210; refine (cL.out _).mono ?_; rintro e w2 ⟨rfl, hb2⟩; have HR2 : Hid (w2.heap[wr.heap.size]? = some (.cells #[.int .i64 0, .int .i64 0, .string ⟨#[]⟩] 50 (0, 0))) := (hb2.block _ (heap_lt HR1.out)).trans HR1.out; have HP2 : Hid (w2.heap[wr.heap.size + 1]? = some (.cells #[.int .i64 0, .int .i64 0, .string ⟨#[]⟩] 50 (0, 0))) := (hb2.block _ (heap_lt HP1.out)).trans HP1.out; have HB2 : Hid (Below wr.heap.size wr w2) := HB1.out.trans (hb2.mono HB1.out.size); clear hb2; have r0 : w2.cell? ⟨wr.heap.size, 0, none⟩ = some (.int .i64 0) := Lib.cell_of_heap HR2.out 0; have r1 : w2.cell? ⟨wr.heap.size, 1, none⟩ = some (.int .i64 0) := Lib.cell_of_heap HR2.out 1; have r2 : w2.cell? ⟨wr.heap.size, 2, none⟩ = some (.string ⟨#[]⟩) := Lib.cell_of_heap HR2.out 2; have rF0 : w2.frozen? ⟨wr.heap.size, 0, none⟩ = false := frozen_of_heap HR2.out 0; have rF1 : w2.frozen? ⟨wr.heap.size, 1, none⟩ = false := frozen_of_heap HR2.out 1; have rF2 : w2.frozen? ⟨wr.heap.size, 2, none⟩ = false := frozen_of_heap HR2.out 2; have q0 : w2.cell? ⟨wr.heap.size + 1, 0, none⟩ = some (.int .i64 0) := Lib.cell_of_heap HP2.out 0; have q1 : w2.cell? ⟨wr.heap.size + 1, 1, none⟩ = some (.int .i64 0) := Lib.cell_of_heap HP2.out 1; have q2 : w2.cell? ⟨wr.heap.size + 1, 2, none⟩ = some (.string ⟨#[]⟩) := Lib.cell_of_heap HP2.out 2; have qF0 : w2.frozen? ⟨wr.heap.size + 1, 0, none⟩ = false := frozen_of_heap HP2.out 0; have qF1 : w2.frozen? ⟨wr.heap.size + 1, 1, none⟩ = false := frozen_of_heap HP2.out 1; have qF2 : w2.frozen? ⟨wr.heap.size + 1, 2, none⟩ = false := frozen_of_heap HP2.out 2; have x0 : w2.cell? ⟨g2, o, none⟩ = some (.int .i64 K) := (HB2.out.cell HEG.out).trans HKC.out.1; have x1 : w2.cell? ⟨g2, o + 1, none⟩ = some (.int .i64 D) := (HB2.out.cell HEG.out).trans HKC.out.2.1; have x2 : w2.cell? ⟨g2, o + 2, none⟩ = some (.string ⟨U.toArray⟩) := (HB2.out.cell HEG.out).trans HKC.out.2.2)
        | (go_at_call 210; refine (cLA.out _).mono ?_; rintro e w1 ⟨rfl, hb1⟩; obtain ⟨b1, b2, b3⟩ := two_boxes hb1; have HR1 : Hid (w1.heap[wr.heap.size]? = some (.cells #[.int .i64 0, .int .i64 0, .string ⟨#[]⟩] 50 (0, 0))) := b1; have HP1 : Hid (w1.heap[wr.heap.size + 1]? = some (.cells #[.int .i64 0, .int .i64 0, .string ⟨#[]⟩] 50 (0, 0))) := b2; have HB1 : Hid (Below wr.heap.size wr w1) := b3; clear b1 b2 b3 hb1; have x0 : w1.cell? ⟨g2, o, none⟩ = some (.int .i64 K) := (HB1.out.cell HEG.out).trans HKC.out.1; have x1 : w1.cell? ⟨g2, o + 1, none⟩ = some (.int .i64 D) := (HB1.out.cell HEG.out).trans HKC.out.2.1; have x2 : w1.cell? ⟨g2, o + 2, none⟩ = some (.string ⟨U.toArray⟩) := (HB1.out.cell HEG.out).trans HKC.out.2.2)
        | fail)
      obtain ⟨s0, s1, s2, hsz, hoth⟩ := three_set q0 q1 q2 (.int .i64 K) (.int .i64 D) (.string ⟨U.toArray⟩)
      go_region
      all_goals (go_wp2_with (first
        | (go_at_call 214; have HBW : Hid (Below wr.heap.size wr _) := ((((HB2.out.setCell (p := ⟨wr.heap.size + 1, 0, none⟩) (Nat.le_succ _) (.int .i64 K)).setCell (p := ⟨wr.heap.size + 1, 1, none⟩) (Nat.le_succ _) (.int .i64 D)).setCell (p := ⟨wr.heap.size + 1, 2, none⟩) (Nat.le_succ _) (.string ⟨U.toArray⟩)).drew); refine (CT.out _ HBW.out).mono ?_; rintro e w5 ⟨⟨v5, rfl⟩, hg5, hb5⟩)
        | fail))
      · have hc1 : c = 1 := by assumption
        subst hc1
        go_roundg l.length
        case measure => have := HK.out; simp only [List.length_cons] at this; omega
        case rel => exact sideR_next HS.out ((HT.out _ HBW.out).2 rfl) HB.out HR.out hg5 hb5 HO.out h1 h2 h3 h4
      · go_roundg l.length
        case measure => have := HK.out; simp only [List.length_cons] at this; omega
        case rel => exact sideR_next HS.out (HT.out _ HBW.out).1 HB.out HR.out hg5 hb5 HO.out h1 h2 h3 h4
    | both =>
      rename_i p q A B l m hla hlb o1 o2 m0 hm b1 b2 hS'
      obtain ⟨oa, ca, rfl, ea1, ea2, eag, ea3, ka0, ka1, ka2⟩ := winP_head hI.r1
      obtain ⟨ob, cb, rfl, eb1, eb2, ebg, eb3, kb0, kb1, kb2⟩ := winP_head hI.r2
      have hlp := length_pos o1
      have hlq := length_pos o2
      have cLA : Hid (∀ wx, Calls Tryz.prog 210 #[partV p] wx fun e w' => e = .returned (.bool false) ∧ Below wx.heap.size wx w') := fun wx => by
        have := isPut_any p wx
        rw [show decide (p.put ≠ []) = false from hla] at this
        exact this
      have cLB : Hid (∀ wx, Calls Tryz.prog 210 #[partV q] wx fun e w' => e = .returned (.bool false) ∧ Below wx.heap.size wx w') := fun wx => by
        have := isPut_any q wx
        rw [show decide (q.put ≠ []) = false from hlb] at this
        exact this
      have cNP : Hid (∀ wx, Calls Tryz.prog 231 #[partV p] wx fun e w' => e = .returned (.int .i64 (lengthP p)) ∧ Below wx.heap.size wx w') := fun wx => length_any p wx (by rcases o1 with ⟨h1, h2, h3⟩ | ⟨h1, h2, h3⟩ | ⟨h1, h2, h3⟩ <;> exact ⟨by omega, by omega⟩) (by unfold lengthP at b1; omega)
      have cNQ : Hid (∀ wx, Calls Tryz.prog 231 #[partV q] wx fun e w' => e = .returned (.int .i64 (lengthP q)) ∧ Below wx.heap.size wx w') := fun wx => length_any q wx (by rcases o2 with ⟨h1, h2, h3⟩ | ⟨h1, h2, h3⟩ | ⟨h1, h2, h3⟩ <;> exact ⟨by omega, by omega⟩) (by unfold lengthP at b2; omega)
      have CC1 : Hid (∀ W', winP W' g1 (.slice (some ⟨g1, oa, none⟩) (A.length + 1) ca) (p :: A) → Calls Tryz.prog 232 #[.slice (some ⟨g1, oa, none⟩) (A.length + 1) ca, .int .i64 m] W' fun e w' => ∃ v', e = .returned (.tuple #[partV (cutP p m).1, v']) ∧ winP w' g1 v' ((cutP p m).2 ++ A) ∧ ButO g1 W' w') := fun W' h => cut_any g1 _ p A m W' h o1 m0 (by omega) b1
      have CC2 : Hid (∀ W', winP W' g2 (.slice (some ⟨g2, ob, none⟩) (B.length + 1) cb) (q :: B) → Calls Tryz.prog 232 #[.slice (some ⟨g2, ob, none⟩) (B.length + 1) cb, .int .i64 m] W' fun e w' => ∃ v', e = .returned (.tuple #[partV (cutP q m).1, v']) ∧ winP w' g2 v' ((cutP q m).2 ++ B) ∧ ButO g2 W' w') := fun W' h => cut_any g2 _ q B m W' h o2 m0 (by omega) b2
      have CT : Hid (∀ W', gath M W' a s → boxesP bx W' → Calls Tryz.prog 214 #[partV (cutP p m).1, partV (cutP q m).1, .pointer (some ⟨β, 0, none⟩)] W' (tookP M a s (t ((cutP p m).1, (cutP q m).1)) W')) := fun W' hg hb => cT.out s ((cutP p m).1, (cutP q m).1) T n l W' hg hb HB.out
      have HS : Hid (Side isPutP isPutP ((cutP p m).2 ++ A) ((cutP q m).2 ++ B) l) := hS'
      have hm1 : (m : Int) < 1000000000 := by omega
      clear hS' hla hlb o1 o2 hlp hlq b1 b2
      generalize lengthP p = LP at *
      generalize lengthP q = LQ at *
      obtain ⟨R1, hR1⟩ : ∃ R, (cutP p m).2 ++ A = R := ⟨_, rfl⟩
      obtain ⟨R2, hR2⟩ : ∃ R, (cutP q m).2 ++ B = R := ⟨_, rfl⟩
      obtain ⟨x1, hx1⟩ : ∃ x, (cutP p m).1 = x := ⟨_, rfl⟩
      obtain ⟨x2, hx2⟩ : ∃ x, (cutP q m).1 = x := ⟨_, rfl⟩
      rw [hR1, hx1] at CC1
      rw [hR2, hx2] at CC2
      rw [hx1, hx2] at CT HB HR
      rw [hR1, hR2] at HS
      rw [hx1, hx2] at HK
      clear hR1 hR2 hx1 hx2
      obtain ⟨K1, D1, U1⟩ := x1
      obtain ⟨K2, D2, U2⟩ := x2
      have HW1 : Hid (winP wr g1 (.slice (some ⟨g1, oa, none⟩) (A.length + 1) ca) (p :: A)) := hI.r1
      have HW2 : Hid (winP wr g2 (.slice (some ⟨g2, ob, none⟩) (B.length + 1) cb) (q :: B)) := hI.r2
      have HEG1 : Hid (g1 < wr.heap.size) := eag
      have HEG2 : Hid (g2 < wr.heap.size) := ebg
      obtain ⟨KA, DA, UA⟩ := p
      obtain ⟨KB, DB, UB⟩ := q
      simp only at ka0 ka1 ka2 kb0 kb1 kb2
      have HKA : Hid (wr.cell? ⟨g1, oa, none⟩ = some (.int .i64 KA) ∧ wr.cell? ⟨g1, oa + 1, none⟩ = some (.int .i64 DA) ∧ wr.cell? ⟨g1, oa + 2, none⟩ = some (.string ⟨UA.toArray⟩)) := ⟨ka0, ka1, ka2⟩
      have HKB : Hid (wr.cell? ⟨g2, ob, none⟩ = some (.int .i64 KB) ∧ wr.cell? ⟨g2, ob + 1, none⟩ = some (.int .i64 DB) ∧ wr.cell? ⟨g2, ob + 2, none⟩ = some (.string ⟨UB.toArray⟩)) := ⟨kb0, kb1, kb2⟩
      have hia : (0 : Int) < (A.length : Int) + 1 := by omega
      have hib : (0 : Int) < (B.length : Int) + 1 := by omega
      unfold partV at cLA cLB cNP cNQ CC1 CC2 CT
      clear hI ea3 eb3
      go_wp2_with (first
        | (have _ := HB1; go_at_call 210; refine (cLB.out _).mono ?_; rintro e w2 ⟨rfl, hb2⟩; have HR2 : Hid (w2.heap[wr.heap.size]? = some (.cells #[.int .i64 0, .int .i64 0, .string ⟨#[]⟩] 50 (0, 0))) := (hb2.block _ (heap_lt HR1.out)).trans HR1.out; have HP2 : Hid (w2.heap[wr.heap.size + 1]? = some (.cells #[.int .i64 0, .int .i64 0, .string ⟨#[]⟩] 50 (0, 0))) := (hb2.block _ (heap_lt HP1.out)).trans HP1.out; have HB2 : Hid (Below wr.heap.size wr w2) := HB1.out.trans (hb2.mono HB1.out.size); clear hb2; have xa0 : w2.cell? ⟨g1, oa, none⟩ = some (.int .i64 KA) := (HB2.out.cell HEG1.out).trans HKA.out.1; have xa1 : w2.cell? ⟨g1, oa + 1, none⟩ = some (.int .i64 DA) := (HB2.out.cell HEG1.out).trans HKA.out.2.1; have xa2 : w2.cell? ⟨g1, oa + 2, none⟩ = some (.string ⟨UA.toArray⟩) := (HB2.out.cell HEG1.out).trans HKA.out.2.2; have xc0 : w2.cell? ⟨g2, ob, none⟩ = some (.int .i64 KB) := (HB2.out.cell HEG2.out).trans HKB.out.1; have xc1 : w2.cell? ⟨g2, ob + 1, none⟩ = some (.int .i64 DB) := (HB2.out.cell HEG2.out).trans HKB.out.2.1; have xc2 : w2.cell? ⟨g2, ob + 2, none⟩ = some (.string ⟨UB.toArray⟩) := (HB2.out.cell HEG2.out).trans HKB.out.2.2)
        | (go_at_call 210; refine (cLA.out _).mono ?_; rintro e w1 ⟨rfl, hb1⟩; obtain ⟨y1, y2, y3⟩ := two_boxes hb1; have HR1 : Hid (w1.heap[wr.heap.size]? = some (.cells #[.int .i64 0, .int .i64 0, .string ⟨#[]⟩] 50 (0, 0))) := y1; have HP1 : Hid (w1.heap[wr.heap.size + 1]? = some (.cells #[.int .i64 0, .int .i64 0, .string ⟨#[]⟩] 50 (0, 0))) := y2; have HB1 : Hid (Below wr.heap.size wr w1) := y3; clear y1 y2 y3 hb1; have xb0 : w1.cell? ⟨g2, ob, none⟩ = some (.int .i64 KB) := (HB1.out.cell HEG2.out).trans HKB.out.1; have xb1 : w1.cell? ⟨g2, ob + 1, none⟩ = some (.int .i64 DB) := (HB1.out.cell HEG2.out).trans HKB.out.2.1; have xb2 : w1.cell? ⟨g2, ob + 2, none⟩ = some (.string ⟨UB.toArray⟩) := (HB1.out.cell HEG2.out).trans HKB.out.2.2)
        | fail)
      go_region_with (first
        | (have _ := HB3; go_at_call 231; refine (cNQ.out _).mono ?_; rintro e w4 ⟨rfl, hb4⟩; have HR4 : Hid (w4.heap[wr.heap.size]? = some (.cells #[.int .i64 0, .int .i64 0, .string ⟨#[]⟩] 50 (0, 0))) := (hb4.block _ (heap_lt HR3.out)).trans HR3.out; have HP4 : Hid (w4.heap[wr.heap.size + 1]? = some (.cells #[.int .i64 0, .int .i64 0, .string ⟨#[]⟩] 50 (0, 0))) := (hb4.block _ (heap_lt HP3.out)).trans HP3.out; have HB4 : Hid (Below wr.heap.size wr w4) := HB3.out.trans (hb4.mono HB3.out.size); clear hb4)
        | (have _ := HB2; go_at_call 231; refine (cNP.out _).mono ?_; rintro e w3 ⟨rfl, hb3⟩; have HR3 : Hid (w3.heap[wr.heap.size]? = some (.cells #[.int .i64 0, .int .i64 0, .string ⟨#[]⟩] 50 (0, 0))) := (hb3.block _ (heap_lt HR2.out)).trans HR2.out; have HP3 : Hid (w3.heap[wr.heap.size + 1]? = some (.cells #[.int .i64 0, .int .i64 0, .string ⟨#[]⟩] 50 (0, 0))) := (hb3.block _ (heap_lt HP2.out)).trans HP2.out; have HB3 : Hid (Below wr.heap.size wr w3) := HB2.out.drew.trans (hb3.mono HB2.out.size); clear hb3; have xd0 : w3.cell? ⟨g2, ob, none⟩ = some (.int .i64 KB) := (HB3.out.cell HEG2.out).trans HKB.out.1; have xd1 : w3.cell? ⟨g2, ob + 1, none⟩ = some (.int .i64 DB) := (HB3.out.cell HEG2.out).trans HKB.out.2.1; have xd2 : w3.cell? ⟨g2, ob + 2, none⟩ = some (.string ⟨UB.toArray⟩) := (HB3.out.cell HEG2.out).trans HKB.out.2.2)
        | fail)
      all_goals (
        go_wp2_with (first
          | (have _ := HT7; go_at_call 214; have HI8 : Hid (sideI M a g1 g2 bx w _ _ R1 R2 s (((w7.setCell ⟨wr.heap.size + 1, 0, none⟩ (.int .i64 K2)).setCell ⟨wr.heap.size + 1, 1, none⟩ (.int .i64 D2)).setCell ⟨wr.heap.size + 1, 2, none⟩ (.string ⟨U2.toArray⟩))) := HI.out.both (HT7.out.above3 (Nat.le_succ _) _ _ _) HO.out h1 h2 h3 h4 (winP_kept HO7.out (by simp) fun _ => box_set_ne (by have := HEG1.out; omega)) (winP_kept HQ7.out (by simp) fun _ => box_set_ne (by have := HEG2.out; omega)); refine (CT.out _ HI8.out.g HI8.out.b).mono ?_; rintro e w9 ⟨⟨v9, rfl⟩, hg9, hb9⟩)
          | (have _ := HT5; go_at_call 232; have HT6 : Hid (ButO g1 wr (((w5.setCell ⟨wr.heap.size, 0, none⟩ (.int .i64 K1)).setCell ⟨wr.heap.size, 1, none⟩ (.int .i64 D1)).setCell ⟨wr.heap.size, 2, none⟩ (.string ⟨U1.toArray⟩))) := HT5.out.above3 (Nat.le_refl _) _ _ _; have HR6 : Hid ((((w5.setCell ⟨wr.heap.size, 0, none⟩ (.int .i64 K1)).setCell ⟨wr.heap.size, 1, none⟩ (.int .i64 D1)).setCell ⟨wr.heap.size, 2, none⟩ (.string ⟨U1.toArray⟩)).heap[wr.heap.size]? = some (.cells #[.int .i64 K1, .int .i64 D1, .string ⟨U1.toArray⟩] 50 (0, 0))) := box_set HR5.out _ _ _; have HP6 : Hid ((((w5.setCell ⟨wr.heap.size, 0, none⟩ (.int .i64 K1)).setCell ⟨wr.heap.size, 1, none⟩ (.int .i64 D1)).setCell ⟨wr.heap.size, 2, none⟩ (.string ⟨U1.toArray⟩)).heap[wr.heap.size + 1]? = some (.cells #[.int .i64 0, .int .i64 0, .string ⟨#[]⟩] 50 (0, 0))) := (box_set_ne (by omega)).trans HP5.out; have HQ6 : Hid (winP (((w5.setCell ⟨wr.heap.size, 0, none⟩ (.int .i64 K1)).setCell ⟨wr.heap.size, 1, none⟩ (.int .i64 D1)).setCell ⟨wr.heap.size, 2, none⟩ (.string ⟨U1.toArray⟩)) g1 _ R1) := winP_kept HQ5.out (by simp) fun _ => box_set_ne (by have := HEG1.out; omega); refine (CC2.out _ (winP_kept HW2.out HT6.out.size fun hg => HT6.out.block g2 hg (Ne.symm HNE.out))).mono ?_; rintro e w7 ⟨v7, rfl, hw7, hb7⟩; have HQ7 : Hid (winP w7 g2 v7 R2) := hw7; have hbz : ButO g2 (((w5.setCell ⟨wr.heap.size, 0, none⟩ (.int .i64 K1)).setCell ⟨wr.heap.size, 1, none⟩ (.int .i64 D1)).setCell ⟨wr.heap.size, 2, none⟩ (.string ⟨U1.toArray⟩)) w7 := ⟨hb7.os, hb7.tape, hb7.output, hb7.size, hb7.block⟩; obtain ⟨p7, c7, rfl, _⟩ := hw7; have HO7 : Hid (winP w7 g1 _ R1) := winP_but HQ6.out hbz HNE.out; have HR7 : Hid (w7.heap[wr.heap.size]? = some (.cells #[.int .i64 K1, .int .i64 D1, .string ⟨U1.toArray⟩] 50 (0, 0))) := (hbz.block _ (heap_lt HR6.out) (by have := HEG2.out; omega)).trans HR6.out; have HP7 : Hid (w7.heap[wr.heap.size + 1]? = some (.cells #[.int .i64 0, .int .i64 0, .string ⟨#[]⟩] 50 (0, 0))) := (hbz.block _ (heap_lt HP6.out) (by have := HEG2.out; omega)).trans HP6.out; have HT7 : Hid (But2 g1 g2 wr w7) := (But2.of1 HT6.out).cut2 hbz; clear hb7 hbz; have t0 : w7.cell? ⟨wr.heap.size, 0, none⟩ = some (.int .i64 K1) := Lib.cell_of_heap HR7.out 0; have t1 : w7.cell? ⟨wr.heap.size, 1, none⟩ = some (.int .i64 D1) := Lib.cell_of_heap HR7.out 1; have t2 : w7.cell? ⟨wr.heap.size, 2, none⟩ = some (.string ⟨U1.toArray⟩) := Lib.cell_of_heap HR7.out 2; have q0 : w7.cell? ⟨wr.heap.size + 1, 0, none⟩ = some (.int .i64 0) := Lib.cell_of_heap HP7.out 0; have q1 : w7.cell? ⟨wr.heap.size + 1, 1, none⟩ = some (.int .i64 0) := Lib.cell_of_heap HP7.out 1; have q2 : w7.cell? ⟨wr.heap.size + 1, 2, none⟩ = some (.string ⟨#[]⟩) := Lib.cell_of_heap HP7.out 2; have qF0 : w7.frozen? ⟨wr.heap.size + 1, 0, none⟩ = false := frozen_of_heap HP7.out 0; have qF1 : w7.frozen? ⟨wr.heap.size + 1, 1, none⟩ = false := frozen_of_heap HP7.out 1; have qF2 : w7.frozen? ⟨wr.heap.size + 1, 2, none⟩ = false := frozen_of_heap HP7.out 2)
          | (have _ := HB4; go_at_call 232; refine (CC1.out _ (winP_kept HW1.out HB4.out.size fun hg => HB4.out.block g1 hg)).mono ?_; rintro e w5 ⟨v5, rfl, hw5, hb5⟩; have HQ5 : Hid (winP w5 g1 v5 R1) := hw5; have hbz : ButO g1 w4 w5 := ⟨hb5.os, hb5.tape, hb5.output, hb5.size, hb5.block⟩; obtain ⟨p5, c5, rfl, _⟩ := hw5; have HR5 : Hid (w5.heap[wr.heap.size]? = some (.cells #[.int .i64 0, .int .i64 0, .string ⟨#[]⟩] 50 (0, 0))) := (hbz.block _ (heap_lt HR4.out) (by have := HEG1.out; omega)).trans HR4.out; have HP5 : Hid (w5.heap[wr.heap.size + 1]? = some (.cells #[.int .i64 0, .int .i64 0, .string ⟨#[]⟩] 50 (0, 0))) := (hbz.block _ (heap_lt HP4.out) (by have := HEG1.out; omega)).trans HP4.out; have HT5 : Hid (ButO g1 wr w5) := (ButO.of HB4.out).trans hbz; clear hb5 hbz; have r0 : w5.cell? ⟨wr.heap.size, 0, none⟩ = some (.int .i64 0) := Lib.cell_of_heap HR5.out 0; have r1 : w5.cell? ⟨wr.heap.size, 1, none⟩ = some (.int .i64 0) := Lib.cell_of_heap HR5.out 1; have r2 : w5.cell? ⟨wr.heap.size, 2, none⟩ = some (.string ⟨#[]⟩) := Lib.cell_of_heap HR5.out 2; have rF0 : w5.frozen? ⟨wr.heap.size, 0, none⟩ = false := frozen_of_heap HR5.out 0; have rF1 : w5.frozen? ⟨wr.heap.size, 1, none⟩ = false := frozen_of_heap HR5.out 1; have rF2 : w5.frozen? ⟨wr.heap.size, 2, none⟩ = false := frozen_of_heap HR5.out 2)
          | fail)
        go_roundg l.length
        case measure => have := HK.out; simp only [List.length_cons] at this; omega
        case rel => exact sideR_next HS.out HI8.out HB.out HR.out hg9 hb9 HO.out h1 h2 h3 h4)
end Go.Proofs.YtfedgjnhanlmeabGreatDoor

namespace Go.Proofs.YtfedgjnhanlmeabGreatDoor
open Go.RowKit
set_option linter.unusedVariables false

theorem side_ready {w4 X5 w5 w6 : World} {a : Nat} {v1 v2 : Value} {N1 N2 : List Pt} (bx : List (Nat × Obj)) (hG : ∀ M w2, Below w4.heap.size w4 w2 → a + 4 ≤ M → M ≤ w2.heap.size → gath M w2 a nst0) (hz : w4.heap.size = a + 4)
    (hb : boxesP bx X5) (hk : ∀ x ∈ bx, a + 4 ≤ x.1 ∧ (∀ c fz, x.2 ≠ .cells c 5 fz) ∧ ∀ c fz, x.2 ≠ .cells c 50 fz) (h45 : Below w4.heap.size w4 X5)
    (o1 : w5.ownsRow X5.heap.size 50 3 v1 N1.length (cellsP N1)) (b5 : Below X5.heap.size X5 w5) (s5 : X5.heap.size + 4 ≤ w5.heap.size)
    (o2 : w6.ownsRow w5.heap.size 50 3 v2 N2.length (cellsP N2)) (b6 : Below w5.heap.size w5 w6) (s6 : w5.heap.size + 4 ≤ w6.heap.size) :
    ∃ g1 g2, sideI w6.heap.size a g1 g2 bx w6 v1 v2 N1 N2 nst0 w6 ∧ boxesOk a g1 g2 bx ∧ a + 4 ≤ g1 ∧ g1 < w6.heap.size ∧ a + 4 ≤ g2 ∧ g2 < w6.heap.size ∧ g1 ≠ g2 := by
  have s4 := h45.size
  obtain ⟨g1, hg1, r1⟩ := winP_own o1
  obtain ⟨g2, hg2, r2⟩ := winP_own o2
  have b46 : Below w4.heap.size w4 w6 := (h45.trans (b5.mono s4)).trans (b6.mono (by omega))
  have b56 : Below X5.heap.size X5 w6 := b5.trans (b6.mono (by omega))
  refine ⟨g1, g2, ⟨.refl _ _, hG _ _ b46 (by omega) (Nat.le_refl _), winP_below r1 b6, r2, fun x hx => (b56.block _ (heap_lt (hb x hx))).trans (hb x hx)⟩, fun x hx => ?_, by omega, by omega, by omega, by omega, by omega⟩
  obtain ⟨k1, k2, k3⟩ := hk x hx
  have := heap_lt (hb x hx)
  exact ⟨k1, by omega, by omega, k2, k3⟩

theorem act_sum (f : Pt → Int) (l : List Pt) : ∀ x : Int, l.foldl (fun x p => x + f p) x = x + (l.map f).sum := by
  induction l with
  | nil => intro x; simp
  | cons p l ih => intro x; rw [List.foldl_cons, ih, List.map_cons, List.sum_cons]; omega
theorem norm_wts (ps : List Pt) (h : ∀ p ∈ ps, 0 ≤ p.keep ∧ 0 ≤ p.drop) : wts (normP ps) = wts ps := by
  have ok : ActP (fun (x : Int) p => x + wtP p) := by
    constructor
    · intro x; simp [wtP]
    · intro x u v; simp only [wtP, List.length_append]; push_cast; omega
    · intro x a b _ _; simp only [wtP, List.length_nil]; omega
    · intro x a b _ _; simp only [wtP, List.length_nil]; omega
    · intro x k d u; simp only [wtP, List.length_nil]; omega
    · intro x d u; simp only [wtP, List.length_nil]; omega
  have := act_norm ok ps h 0
  rw [act_sum, act_sum] at this
  simpa [wts] using this
theorem norm_isP (ps : List Pt) (h : ∀ p ∈ ps, 0 ≤ p.keep ∧ 0 ≤ p.drop) : ((normP ps).map isP).sum = (ps.map isP).sum := by
  have ok : ActP (fun (x : Int) p => x + isP p) := by
    constructor
    · intro x; simp [isP]
    · intro x u v; simp only [isP, List.length_append]; push_cast; omega
    · intro x a b _ _; simp only [isP, List.length_nil]; omega
    · intro x a b _ _; simp only [isP, List.length_nil]; omega
    · intro x k d u; simp only [isP, List.length_nil]; omega
    · intro x d u; simp only [isP, List.length_nil]; omega
  have := act_norm ok ps h 0
  rw [act_sum, act_sum] at this
  simpa using this
theorem weight_wts : ∀ (A : List Pt), (∀ p ∈ A, oneP p) → (weight A : Int) = wts A
  | [], _ => by simp [weight, wts]
  | p :: A, h => by
    have ih := weight_wts A fun q hq => h q (by simp [hq])
    have h1 := length_pos (h p (by simp))
    have e : wts (p :: A) = wtP p + wts A := by simp [wts]
    have e2 : wtP p = lengthP p := rfl
    rw [weight_cons, e, e2]
    omega
theorem meas_put : ∀ (A : List Pt), (∀ p ∈ A, oneP p) → measP isPutP A = longP A
  | [], _ => by simp [measP, longP]
  | p :: A, h => by
    have ih := meas_put A fun q hq => h q (by simp [hq])
    have e : longP (p :: A) = lenP p + longP A := by simp [longP]
    rw [meas_cons, ih, e]
    rcases h p (by simp) with ⟨h1, h2, h3⟩ | ⟨h1, h2, h3⟩ | ⟨h1, h2, h3⟩
    · simp [isPutP, h3, lengthP, lenP]
    · simp [isPutP, h3, lengthP, lenP]
    · simp [isPutP, h3, lenP, h1, h2]
theorem run_flat (t : Pt × Pt → List Pt) (l : List (Pt × Pt)) : ∀ s, runS t l s = (l.flatMap t).foldl addP s := by
  induction l with
  | nil => intro s; rfl
  | cons x l ih => intro s; rw [List.flatMap_cons, List.foldl_append]; exact ih _
/-- What is gathered at the end is small. -/
theorem run_small {t : Pt × Pt → List Pt} {l : List (Pt × Pt)} (hB : BdS t l nst0 0 0) : (runS t l nst0).out.length < 1000000000 ∧ (runS t l nst0).put.length < 1000000000 := by
  rw [run_flat]
  have hb := bds (l.flatMap t) fun p hp => by
    obtain ⟨x, hx, hp⟩ := List.mem_flatMap.1 hp
    exact hB.sound x hx p hp
  have h1 : (l.flatMap t).length ≤ l.length := by
    have key : ∀ (l : List (Pt × Pt)), (∀ x ∈ l, (t x).length ≤ 1) → (l.flatMap t).length ≤ l.length := by
      intro l
      induction l with
      | nil => intro _; simp
      | cons x l ih =>
        intro h
        have h1 := h x (by simp)
        have h2 := ih fun y hy => h y (by simp [hy])
        rw [List.flatMap_cons, List.length_append, List.length_cons]
        omega
    exact key l hB.one
  have h2 := hb.len
  have h3 := hb.put
  have h4 := hB.w
  have h5 := hB.n
  exact ⟨by omega, by omega⟩
/-- An operation that may be, and is not too great. -/
structure fineP (ps : List Pt) : Prop where
  one : ∀ p ∈ ps, oneP p
  w : wts ps < 2000000
  len : ps.length < 10000000
theorem fine_norm {ps : List Pt} (h : fineP ps) : (∀ p ∈ normP ps, oneP p ∧ lengthP p < 1000000000) ∧ weight (normP ps) < 2000000 ∧ longP (normP ps) = longP ps ∧ ((normP ps).map isP).sum = (ps.map isP).sum := by
  have hs := ones_sound h.one
  have h1 := norm_one ps hs
  have h2 := weight_wts _ h1
  rw [norm_wts ps hs] at h2
  have h3 := h.w
  refine ⟨fun p hp => ⟨h1 p hp, ?_⟩, by omega, norm_long ps, norm_isP ps hs⟩
  obtain ⟨l1, l2, e⟩ := List.append_of_mem hp
  have h4 := weight_wts _ h1
  rw [e, weight_append, weight_cons] at h4
  rw [e] at h2
  have h5 := length_pos (h1 p hp)
  rw [weight_append, weight_cons] at h2
  omega
theorem fine_lens {ps : List Pt} (h : fineP ps) : (lensW ps).1 = longP ps ∧ (lensW ps).2 = (ps.map isP).sum := by
  have hs := ones_sound h.one
  obtain ⟨h1, h2, _, _⟩ := lens_plain ps (fun p hp => hs p hp) (by have := h.w; omega)
  refine ⟨?_, h2⟩
  rw [h1, spreads_eq]
  exact lensU_long ps hs
end Go.Proofs.YtfedgjnhanlmeabGreatDoor

namespace Go.Proofs.YtfedgjnhanlmeabGreatDoor
open Go.RowKit
set_option linter.unusedVariables false
attribute [local go_sem] Oper.semAt_some

/-- What Transform adds up to. -/
def transS (first : Bool) (a b : List Pt) : NSt := if first then runS turnP (sideP isPutP isPutP (weight (normP a) + weight (normP b)) (normP a) (normP b)) nst0 else runS (fun x => turnP (x.2, x.1)) (sideP isPutP isPutP (weight (normP b) + weight (normP a)) (normP b) (normP a)) nst0
def turnE (a b : List Pt) : Int := if bothE a b = 0 then (if (lensW b).1 = (lensW a).1 then 0 else 2) else bothE a b
set_option maxRecDepth 100000 in
set_option maxHeartbeats 8000000 in
theorem t1_fineN (v1 v2 : Value) (a b : List Pt) (w : World) (hT : Lib.Utf8Tabs 2 3 w) (h1 : opAt w v1 a) (h2 : opAt w v2 b) (w1 : ∀ p ∈ a, wfP p) (w2 : ∀ p ∈ b, wfP p) (f1 : fineP a) (f2 : fineP b) (he : bothE a b = 0) (hl : (lensW b).1 = (lensW a).1) :
    Calls Tryz.prog 180 #[v1, v2, .bool true] w fun e w' => ∃ v', e = .returned (.tuple #[v', .nilIface]) ∧ opN w.heap.size w' v' (tellP (transS true a b)) ∧ Below w.heap.size w w' := by
  have cB : Hid _ := checkBoth_any v1 v2 a b w hT h1 h2 w1 w2 f1.len f2.len
  have hV : errV (bothE a b) = .nilIface := by unfold errV; rw [if_pos he]
  rw [hV] at cB
  have cL1 : Hid (∀ wx, Below w.heap.size w wx → Calls Tryz.prog 118 #[v1] wx fun e w' => e = .returned (.tuple #[.int .i64 (lensW a).1, .int .i64 (lensW a).2]) ∧ Below wx.heap.size wx w') := fun wx hb => Lens_any v1 a wx (opAt_grown h1 hb) f1.len
  have cL2 : Hid (∀ wx, Below w.heap.size w wx → Calls Tryz.prog 118 #[v2] wx fun e w' => e = .returned (.tuple #[.int .i64 (lensW b).1, .int .i64 (lensW b).2]) ∧ Below wx.heap.size wx w') := fun wx hb => Lens_any v2 b wx (opAt_grown h2 hb) f2.len
  have cN1 : Hid (∀ wx, Below w.heap.size w wx → Calls Tryz.prog 209 #[v1] wx fun e w' => ∃ v', e = .returned v' ∧ w'.ownsRow wx.heap.size 50 3 v' (normP a).length (cellsP (normP a)) ∧ Below wx.heap.size wx w' ∧ wx.heap.size + 4 ≤ w'.heap.size) := fun wx hb => Norm_any4 v1 a wx (opAt_grown h1 hb) (ones_sound f1.one) (by have := f1.w; omega) f1.len
  have cN2 : Hid (∀ wx, Below w.heap.size w wx → Calls Tryz.prog 209 #[v2] wx fun e w' => ∃ v', e = .returned v' ∧ w'.ownsRow wx.heap.size 50 3 v' (normP b).length (cellsP (normP b)) ∧ Below wx.heap.size wx w' ∧ wx.heap.size + 4 ≤ w'.heap.size) := fun wx hb => Norm_any4 v2 b wx (opAt_grown h2 hb) (ones_sound f2.one) (by have := f2.w; omega) f2.len
  obtain ⟨n1, n2, n3, n4⟩ := fine_norm f1
  obtain ⟨m1, m2, m3, m4⟩ := fine_norm f2
  have hmeas : measP isPutP (normP a) = measP isPutP (normP b) := by
    have e1 := (fine_lens f1).1
    have e2 := (fine_lens f1).2
    have e3 := (fine_lens f2).1
    rw [meas_put _ (fun p hp => (m1 p hp).1), meas_put _ (fun p hp => (n1 p hp).1)]
    omega
  obtain ⟨hSd, hok, hpw, hln⟩ := side_ok kind_put kind_put (weight (normP a) + weight (normP b)) (normP a) (normP b) n1 m1 hmeas (Nat.le_refl _)
  have hBd : BdS turnP (sideP isPutP isPutP (weight (normP a) + weight (normP b)) (normP a) (normP b)) nst0 0 0 := bdS_of take_turn hok (by rw [hpw]; omega) (by omega)
  have HSD : Hid (Side isPutP isPutP (normP a) (normP b) (sideP isPutP isPutP (weight (normP a) + weight (normP b)) (normP a) (normP b))) := hSd
  have HBD : Hid (BdS turnP (sideP isPutP isPutP (weight (normP a) + weight (normP b)) (normP a) (normP b)) nst0 0 0) := hBd
  have hS : runS turnP (sideP isPutP isPutP (weight (normP a) + weight (normP b)) (normP a) (normP b)) nst0 = transS true a b := rfl
  have HSM : Hid _ := run_small hBd
  rw [hS] at HSM
  obtain ⟨S, hSe⟩ : ∃ S, transS true a b = S := ⟨_, rfl⟩
  rw [hSe] at HSM ⊢
  have HS : Hid (runS turnP (sideP isPutP isPutP (weight (normP a) + weight (normP b)) (normP a) (normP b)) nst0 = S) := hSe
  rw [hl] at cL2
  generalize (lensW a).1 = A1 at *
  generalize (lensW a).2 = A2 at *
  generalize (lensW b).2 = B2 at *
  obtain ⟨p1, c1, rfl, _⟩ := h1
  obtain ⟨p2, c2, rfl, _⟩ := h2
  clear hT w1 w2 f1 f2 he hV hSd hBd hok hpw hln hmeas hS hSe n1 n2 n3 n4 m1 m2 m3 m4 hl
  go_enter Tryz.func180, Tryz.ntmps180
  go_wp2_with (first
    | (have _ := HG4; go_at_call 9999)
    | (have _ := HB2; go_at_call 118; refine (cL2.out _ HB2.out).mono ?_; rintro e w3 ⟨rfl, hb3⟩; have HB3 : Hid (Below w.heap.size w w3) := HB2.out.trans (hb3.mono HB2.out.size); clear hb3)
    | (go_at_call 118; refine (cL1.out _ HB1.out).mono ?_; rintro e w2 ⟨rfl, hb2⟩; have HB2 : Hid (Below w.heap.size w w2) := HB1.out.trans (hb2.mono HB1.out.size); clear hb2)
    | (go_at_call 206; refine Calls.mono cB.out ?_; rintro e w1 ⟨rfl, hb1⟩; have HB1 : Hid (Below w.heap.size w w1) := hb1; clear hb1)
    | (have _ := HB3; go_at_call 207; refine (gather_any w3).mono ?_; rintro e w4 ⟨rfl, hG4, hz4, hb4⟩; have HG4 : Hid (∀ M w2, Below w4.heap.size w4 w2 → w3.heap.size + 4 ≤ M → M ≤ w2.heap.size → gath M w2 w3.heap.size nst0) := hG4; have HZ4 : Hid (w4.heap.size = w3.heap.size + 4) := hz4; have HB4 : Hid (Below w.heap.size w w4) := HB3.out.trans (hb4.mono HB3.out.size); clear hG4 hz4 hb4)
    | fail)
  obtain ⟨X5, hX5⟩ : ∃ X, X = ((w4.alloc (.cells #[.func (.func 229) #[] #[.pointer (some ⟨w3.heap.size + 1, 0, none⟩), .pointer (some ⟨w3.heap.size + 2, 0, none⟩), .pointer (some ⟨w3.heap.size + 3, 0, none⟩), .pointer (some ⟨w3.heap.size, 0, none⟩)]] 322)).alloc (.cells #[.func (.func 213) #[] #[.pointer (some ⟨w4.heap.size, 0, none⟩)]] 327)) := ⟨_, rfl⟩
  rw [← hX5]
  have H45 : Hid (Below w4.heap.size w4 X5) := by rw [hX5]; exact ((Below.refl _ _).alloc (Nat.le_refl _) _).alloc (by simp) _
  have HX5 : Hid (Below w.heap.size w X5) := HB4.out.trans (H45.out.mono HB4.out.size)
  have HBX : Hid (boxesP [(w4.heap.size, .cells #[addV w3.heap.size] 322 (0, 0)), (w4.heap.size + 1, .cells #[.func (.func 213) #[] #[.pointer (some ⟨w4.heap.size, 0, none⟩)]] 327 (0, 0))] X5) := by
    intro x hx
    simp only [List.mem_cons, List.not_mem_nil, or_false] at hx
    rw [hX5]
    rcases hx with rfl | rfl
    · exact (heap_alloc_old _ _ (by simp)).trans (heap_alloc_new _ _)
    · have := heap_alloc_new (w4.alloc (.cells #[.func (.func 229) #[] #[.pointer (some ⟨w3.heap.size + 1, 0, none⟩), .pointer (some ⟨w3.heap.size + 2, 0, none⟩), .pointer (some ⟨w3.heap.size + 3, 0, none⟩), .pointer (some ⟨w3.heap.size, 0, none⟩)]] 322)) (.cells #[.func (.func 213) #[] #[.pointer (some ⟨w4.heap.size, 0, none⟩)]] 327)
      rwa [World.size_alloc] at this
  have HKX : Hid (∀ x ∈ ([(w4.heap.size, .cells #[addV w3.heap.size] 322 (0, 0)), (w4.heap.size + 1, .cells #[.func (.func 213) #[] #[.pointer (some ⟨w4.heap.size, 0, none⟩)]] 327 (0, 0))] : List (Nat × Obj)), w3.heap.size + 4 ≤ x.1 ∧ (∀ c fz, x.2 ≠ .cells c 5 fz) ∧ ∀ c fz, x.2 ≠ .cells c 50 fz) := by
    intro x hx
    simp only [List.mem_cons, List.not_mem_nil, or_false] at hx; rcases hx with rfl | rfl <;> exact ⟨by have := HZ4.out; simp only; omega, fun c fz e => (by cases e), fun c fz e => (by cases e)⟩
  clear hX5
  have yX : X5.cell? ⟨w4.heap.size + 1, 0, none⟩ = some (.func (.func 213) #[] #[.pointer (some ⟨w4.heap.size, 0, none⟩)]) := Lib.cell_of_heap (HBX.out (w4.heap.size + 1, .cells #[.func (.func 213) #[] #[.pointer (some ⟨w4.heap.size, 0, none⟩)]] 327 (0, 0)) (by simp)) 0
  go_region_with (first
    | (have _ := HO6; go_at_call 208; obtain ⟨g1, g2, hI, ho, i1, i2, i3, i4, i5⟩ := side_ready [(w4.heap.size, .cells #[addV w3.heap.size] 322 (0, 0)), (w4.heap.size + 1, .cells #[.func (.func 213) #[] #[.pointer (some ⟨w4.heap.size, 0, none⟩)]] 327 (0, 0))] HG4.out HZ4.out HBX.out HKX.out H45.out HO5.out HB5.out HS5.out HO6.out HB6.out HS6.out; refine (side_turn _ _ g1 g2 w4.heap.size [(w4.heap.size, .cells #[addV w3.heap.size] 322 (0, 0)), (w4.heap.size + 1, .cells #[.func (.func 213) #[] #[.pointer (some ⟨w4.heap.size, 0, none⟩)]] 327 (0, 0))] _ _ _ _ _ nst0 w6 hI HSD.out HBD.out ho i1 i2 i3 i4 i5 (fun s x T n W hg hbx hB hS hT hn => turnO_any _ _ _ s x.1 x.2 W hg (hbx (w4.heap.size, .cells #[addV w3.heap.size] 322 (0, 0)) (by simp)) hB hS hT hn)).mono ?_; rintro e w7 ⟨⟨v7, rfl⟩, hg7, hx7, hb7⟩; rw [HS.out] at hg7; have HG7 : Hid (gath w6.heap.size w7 w3.heap.size S) := hg7; have HB7 : Hid (Below w3.heap.size w6 w7) := hb7; clear hI ho i1 i2 i3 i4 i5 hg7 hx7 hb7)
    | (have _ := HO5; go_at_call 209; refine (cN2.out _ HW5.out).mono ?_; rintro e w6 ⟨v6, rfl, o6, b6, s6⟩; have HO6 : Hid (w6.ownsRow w5.heap.size 50 3 v6 (normP b).length (cellsP (normP b))) := o6; have HB6 : Hid (Below w5.heap.size w5 w6) := b6; have HS6 : Hid (w5.heap.size + 4 ≤ w6.heap.size) := s6; have HW6 : Hid (Below w.heap.size w w6) := HW5.out.trans (HB6.out.mono HW5.out.size); have HB56 : Hid (Below X5.heap.size X5 w6) := HB5.out.trans (HB6.out.mono HB5.out.size); obtain ⟨pp6, cc6, rfl⟩ := own_slice o6; clear o6 b6 s6; have yw6 : w6.cell? ⟨w4.heap.size + 1, 0, none⟩ = some (.func (.func 213) #[] #[.pointer (some ⟨w4.heap.size, 0, none⟩)]) := Lib.cell_of_heap ((HB56.out.block _ (heap_lt (HBX.out (w4.heap.size + 1, .cells #[.func (.func 213) #[] #[.pointer (some ⟨w4.heap.size, 0, none⟩)]] 327 (0, 0)) (by simp)))).trans (HBX.out (w4.heap.size + 1, .cells #[.func (.func 213) #[] #[.pointer (some ⟨w4.heap.size, 0, none⟩)]] 327 (0, 0)) (by simp))) 0)
    | (go_at_call 209; refine (cN1.out _ (by first | exact HX5.out.drew | exact HX5.out)).mono ?_; rintro e w5 ⟨v5, rfl, o5, b5, s5⟩; have HO5 : Hid (w5.ownsRow X5.heap.size 50 3 v5 (normP a).length (cellsP (normP a))) := o5; have HB5 : Hid (Below X5.heap.size X5 w5) := (by first | exact b5 | exact (Below.refl _ X5).drew.trans b5); have HS5 : Hid (X5.heap.size + 4 ≤ w5.heap.size) := s5; have HW5 : Hid (Below w.heap.size w w5) := HX5.out.trans (HB5.out.mono HX5.out.size); have HR5 : Hid _ := HO5.out; obtain ⟨pp5, cc5, rfl⟩ := own_slice o5; clear o5 b5 s5; have yw5 : w5.cell? ⟨w4.heap.size + 1, 0, none⟩ = some (.func (.func 213) #[] #[.pointer (some ⟨w4.heap.size, 0, none⟩)]) := Lib.cell_of_heap ((HB5.out.block _ (heap_lt (HBX.out (w4.heap.size + 1, .cells #[.func (.func 213) #[] #[.pointer (some ⟨w4.heap.size, 0, none⟩)]] 327 (0, 0)) (by simp)))).trans (HBX.out (w4.heap.size + 1, .cells #[.func (.func 213) #[] #[.pointer (some ⟨w4.heap.size, 0, none⟩)]] 327 (0, 0)) (by simp))) 0)
    | fail)
  all_goals (
    go_wp2_with (first
      | (have _ := HG7; go_at_call 230; refine (done_anyG w3.heap.size S w7 HG7.out HSM.out.1 HSM.out.2).mono ?_; rintro e w8 ⟨v8, rfl, o8, b8⟩)
      | fail)
    obtain ⟨p8, c8, rfl⟩ := own_slice o8
    go_ret2
    exact ⟨_, rfl, opN_own HW6.out.size o8, (HW6.out.trans (HB7.out.mono HB3.out.size)).trans (b8.below.mono HB3.out.size)⟩)

set_option maxRecDepth 100000 in
set_option maxHeartbeats 8000000 in
theorem t2_fineN (v1 v2 : Value) (a b : List Pt) (w : World) (hT : Lib.Utf8Tabs 2 3 w) (h1 : opAt w v1 a) (h2 : opAt w v2 b) (w1 : ∀ p ∈ a, wfP p) (w2 : ∀ p ∈ b, wfP p) (f1 : fineP a) (f2 : fineP b) (he : bothE a b = 0) (hl : (lensW b).1 = (lensW a).1) :
    Calls Tryz.prog 180 #[v1, v2, .bool false] w fun e w' => ∃ v', e = .returned (.tuple #[v', .nilIface]) ∧ opN w.heap.size w' v' (tellP (transS false a b)) ∧ Below w.heap.size w w' := by
  have cB : Hid _ := checkBoth_any v1 v2 a b w hT h1 h2 w1 w2 f1.len f2.len
  have hV : errV (bothE a b) = .nilIface := by unfold errV; rw [if_pos he]
  rw [hV] at cB
  have cL1 : Hid (∀ wx, Below w.heap.size w wx → Calls Tryz.prog 118 #[v1] wx fun e w' => e = .returned (.tuple #[.int .i64 (lensW a).1, .int .i64 (lensW a).2]) ∧ Below wx.heap.size wx w') := fun wx hb => Lens_any v1 a wx (opAt_grown h1 hb) f1.len
  have cL2 : Hid (∀ wx, Below w.heap.size w wx → Calls Tryz.prog 118 #[v2] wx fun e w' => e = .returned (.tuple #[.int .i64 (lensW b).1, .int .i64 (lensW b).2]) ∧ Below wx.heap.size wx w') := fun wx hb => Lens_any v2 b wx (opAt_grown h2 hb) f2.len
  have cN1 : Hid (∀ wx, Below w.heap.size w wx → Calls Tryz.prog 209 #[v2] wx fun e w' => ∃ v', e = .returned v' ∧ w'.ownsRow wx.heap.size 50 3 v' (normP b).length (cellsP (normP b)) ∧ Below wx.heap.size wx w' ∧ wx.heap.size + 4 ≤ w'.heap.size) := fun wx hb => Norm_any4 v2 b wx (opAt_grown h2 hb) (ones_sound f2.one) (by have := f2.w; omega) f2.len
  have cN2 : Hid (∀ wx, Below w.heap.size w wx → Calls Tryz.prog 209 #[v1] wx fun e w' => ∃ v', e = .returned v' ∧ w'.ownsRow wx.heap.size 50 3 v' (normP a).length (cellsP (normP a)) ∧ Below wx.heap.size wx w' ∧ wx.heap.size + 4 ≤ w'.heap.size) := fun wx hb => Norm_any4 v1 a wx (opAt_grown h1 hb) (ones_sound f1.one) (by have := f1.w; omega) f1.len
  obtain ⟨n1, n2, n3, n4⟩ := fine_norm f1
  obtain ⟨m1, m2, m3, m4⟩ := fine_norm f2
  have hmeas : measP isPutP (normP b) = measP isPutP (normP a) := by
    have e1 := (fine_lens f1).1
    have e2 := (fine_lens f1).2
    have e3 := (fine_lens f2).1
    rw [meas_put _ (fun p hp => (n1 p hp).1), meas_put _ (fun p hp => (m1 p hp).1)]
    omega
  obtain ⟨hSd, hok, hpw, hln⟩ := side_ok kind_put kind_put (weight (normP b) + weight (normP a)) (normP b) (normP a) m1 n1 hmeas (Nat.le_refl _)
  have hBd : BdS (fun x => turnP (x.2, x.1)) (sideP isPutP isPutP (weight (normP b) + weight (normP a)) (normP b) (normP a)) nst0 0 0 := bdS_of take_turn2 hok (by rw [hpw]; omega) (by omega)
  have HSD : Hid (Side isPutP isPutP (normP b) (normP a) (sideP isPutP isPutP (weight (normP b) + weight (normP a)) (normP b) (normP a))) := hSd
  have HBD : Hid (BdS (fun x => turnP (x.2, x.1)) (sideP isPutP isPutP (weight (normP b) + weight (normP a)) (normP b) (normP a)) nst0 0 0) := hBd
  have hS : runS (fun x => turnP (x.2, x.1)) (sideP isPutP isPutP (weight (normP b) + weight (normP a)) (normP b) (normP a)) nst0 = transS false a b := rfl
  have HSM : Hid _ := run_small hBd
  rw [hS] at HSM
  obtain ⟨S, hSe⟩ : ∃ S, transS false a b = S := ⟨_, rfl⟩
  rw [hSe] at HSM ⊢
  have HS : Hid (runS (fun x => turnP (x.2, x.1)) (sideP isPutP isPutP (weight (normP b) + weight (normP a)) (normP b) (normP a)) nst0 = S) := hSe
  rw [hl] at cL2
  generalize (lensW a).1 = A1 at *
  generalize (lensW a).2 = A2 at *
  generalize (lensW b).2 = B2 at *
  obtain ⟨p1, c1, rfl, _⟩ := h1
  obtain ⟨p2, c2, rfl, _⟩ := h2
  clear hT w1 w2 f1 f2 he hV hSd hBd hok hpw hln hmeas hS hSe n1 n2 n3 n4 m1 m2 m3 m4 hl
  go_enter Tryz.func180, Tryz.ntmps180
  go_wp2_with (first
    | (have _ := HG4; go_at_call 9999)
    | (have _ := HB2; go_at_call 118; refine (cL2.out _ HB2.out).mono ?_; rintro e w3 ⟨rfl, hb3⟩; have HB3 : Hid (Below w.heap.size w w3) := HB2.out.trans (hb3.mono HB2.out.size); clear hb3)
    | (go_at_call 118; refine (cL1.out _ HB1.out).mono ?_; rintro e w2 ⟨rfl, hb2⟩; have HB2 : Hid (Below w.heap.size w w2) := HB1.out.trans (hb2.mono HB1.out.size); clear hb2)
    | (go_at_call 206; refine Calls.mono cB.out ?_; rintro e w1 ⟨rfl, hb1⟩; have HB1 : Hid (Below w.heap.size w w1) := hb1; clear hb1)
    | (have _ := HB3; go_at_call 207; refine (gather_any w3).mono ?_; rintro e w4 ⟨rfl, hG4, hz4, hb4⟩; have HG4 : Hid (∀ M w2, Below w4.heap.size w4 w2 → w3.heap.size + 4 ≤ M → M ≤ w2.heap.size → gath M w2 w3.heap.size nst0) := hG4; have HZ4 : Hid (w4.heap.size = w3.heap.size + 4) := hz4; have HB4 : Hid (Below w.heap.size w w4) := HB3.out.trans (hb4.mono HB3.out.size); clear hG4 hz4 hb4)
    | fail)
  obtain ⟨X5, hX5⟩ : ∃ X, X = ((w4.alloc (.cells #[.func (.func 229) #[] #[.pointer (some ⟨w3.heap.size + 1, 0, none⟩), .pointer (some ⟨w3.heap.size + 2, 0, none⟩), .pointer (some ⟨w3.heap.size + 3, 0, none⟩), .pointer (some ⟨w3.heap.size, 0, none⟩)]] 322)).alloc (.cells #[.func (.func 213) #[] #[.pointer (some ⟨w4.heap.size, 0, none⟩)]] 327)) := ⟨_, rfl⟩
  rw [← hX5]
  have H45 : Hid (Below w4.heap.size w4 X5) := by rw [hX5]; exact ((Below.refl _ _).alloc (Nat.le_refl _) _).alloc (by simp) _
  have HX5 : Hid (Below w.heap.size w X5) := HB4.out.trans (H45.out.mono HB4.out.size)
  have HBX : Hid (boxesP [(w4.heap.size, .cells #[addV w3.heap.size] 322 (0, 0)), (w4.heap.size + 1, .cells #[.func (.func 213) #[] #[.pointer (some ⟨w4.heap.size, 0, none⟩)]] 327 (0, 0))] X5) := by
    intro x hx
    simp only [List.mem_cons, List.not_mem_nil, or_false] at hx
    rw [hX5]
    rcases hx with rfl | rfl
    · exact (heap_alloc_old _ _ (by simp)).trans (heap_alloc_new _ _)
    · have := heap_alloc_new (w4.alloc (.cells #[.func (.func 229) #[] #[.pointer (some ⟨w3.heap.size + 1, 0, none⟩), .pointer (some ⟨w3.heap.size + 2, 0, none⟩), .pointer (some ⟨w3.heap.size + 3, 0, none⟩), .pointer (some ⟨w3.heap.size, 0, none⟩)]] 322)) (.cells #[.func (.func 213) #[] #[.pointer (some ⟨w4.heap.size, 0, none⟩)]] 327)
      rwa [World.size_alloc] at this
  have HKX : Hid (∀ x ∈ ([(w4.heap.size, .cells #[addV w3.heap.size] 322 (0, 0)), (w4.heap.size + 1, .cells #[.func (.func 213) #[] #[.pointer (some ⟨w4.heap.size, 0, none⟩)]] 327 (0, 0))] : List (Nat × Obj)), w3.heap.size + 4 ≤ x.1 ∧ (∀ c fz, x.2 ≠ .cells c 5 fz) ∧ ∀ c fz, x.2 ≠ .cells c 50 fz) := by
    intro x hx
    simp only [List.mem_cons, List.not_mem_nil, or_false] at hx; rcases hx with rfl | rfl <;> exact ⟨by have := HZ4.out; simp only; omega, fun c fz e => (by cases e), fun c fz e => (by cases e)⟩
  clear hX5
  refine (cN1.out _ HX5.out).mono ?_
  rintro e w5 ⟨v5, rfl, o5, b5, s5⟩
  have HO5 : Hid (w5.ownsRow X5.heap.size 50 3 v5 (normP b).length (cellsP (normP b))) := o5
  have HB5 : Hid (Below X5.heap.size X5 w5) := (by first | exact b5 | exact (Below.refl _ X5).drew.trans b5)
  have HS5 : Hid (X5.heap.size + 4 ≤ w5.heap.size) := s5
  have HW5 : Hid (Below w.heap.size w w5) := HX5.out.trans (HB5.out.mono HX5.out.size)
  have HR5 : Hid _ := HO5.out
  obtain ⟨pp5, cc5, rfl⟩ := own_slice o5
  clear o5 b5 s5
  go_wp2_with (first
    | (have _ := HG7; go_at_call 230; refine (done_anyG w3.heap.size S w7 HG7.out HSM.out.1 HSM.out.2).mono ?_; rintro e w8 ⟨v8, rfl, o8, b8⟩)
    | (have _ := HO6; go_at_call 208; obtain ⟨g1, g2, hI, ho, i1, i2, i3, i4, i5⟩ := side_ready [(w4.heap.size, .cells #[addV w3.heap.size] 322 (0, 0)), (w4.heap.size + 1, .cells #[.func (.func 213) #[] #[.pointer (some ⟨w4.heap.size, 0, none⟩)]] 327 (0, 0))] HG4.out HZ4.out HBX.out HKX.out H45.out HO5.out HB5.out HS5.out HO6.out HB6.out HS6.out; refine (side_turn2 _ _ g1 g2 (w4.heap.size + 1) [(w4.heap.size, .cells #[addV w3.heap.size] 322 (0, 0)), (w4.heap.size + 1, .cells #[.func (.func 213) #[] #[.pointer (some ⟨w4.heap.size, 0, none⟩)]] 327 (0, 0))] _ _ _ _ _ nst0 w6 hI HSD.out HBD.out ho i1 i2 i3 i4 i5 (fun s x T n W hg hbx hB hS hT hn => turn2_any _ _ w4.heap.size _ s x.1 x.2 W hg (hbx (w4.heap.size, .cells #[addV w3.heap.size] 322 (0, 0)) (by simp)) (hbx (w4.heap.size + 1, .cells #[.func (.func 213) #[] #[.pointer (some ⟨w4.heap.size, 0, none⟩)]] 327 (0, 0)) (by simp)) hB hS hT hn)).mono ?_; rintro e w7 ⟨⟨v7, rfl⟩, hg7, hx7, hb7⟩; rw [HS.out] at hg7; have HG7 : Hid (gath w6.heap.size w7 w3.heap.size S) := hg7; have HB7 : Hid (Below w3.heap.size w6 w7) := hb7; clear hI ho i1 i2 i3 i4 i5 hg7 hx7 hb7)
    | (have _ := HO5; go_at_call 209; refine (cN2.out _ HW5.out).mono ?_; rintro e w6 ⟨v6, rfl, o6, b6, s6⟩; have HO6 : Hid (w6.ownsRow w5.heap.size 50 3 v6 (normP a).length (cellsP (normP a))) := o6; have HB6 : Hid (Below w5.heap.size w5 w6) := b6; have HS6 : Hid (w5.heap.size + 4 ≤ w6.heap.size) := s6; have HW6 : Hid (Below w.heap.size w w6) := HW5.out.trans (HB6.out.mono HW5.out.size); have HB56 : Hid (Below X5.heap.size X5 w6) := HB5.out.trans (HB6.out.mono HB5.out.size); obtain ⟨pp6, cc6, rfl⟩ := own_slice o6; clear o6 b6 s6)
    | fail)
  obtain ⟨p8, c8, rfl⟩ := own_slice o8
  go_ret2
  exact ⟨_, rfl, opN_own HW6.out.size o8, (HW6.out.trans (HB7.out.mono HB3.out.size)).trans (b8.below.mono HB3.out.size)⟩

end Go.Proofs.YtfedgjnhanlmeabGreatDoor

namespace Go.Proofs.YtfedgjnhanlmeabGreatDoor
open Go.RowKit
set_option linter.unusedVariables false

/-- The halves of runes, as cells. -/
def halRow (rs : List Nat) : List Value := rs.flatMap halCells
theorem halRow_snoc (rs : List Nat) (r : Nat) : halRow (rs ++ [r]) = halRow rs ++ halCells r := by simp [halRow]
theorem halRow_len (rs : List Nat) : (halRow rs).length ≤ 2 * rs.length := by
  induction rs with
  | nil => simp [halRow]
  | cons r rs ih =>
    have h : (halCells r).length ≤ 2 := by unfold halCells hal; split <;> simp
    have e : halRow (r :: rs) = halCells r ++ halRow rs := by simp [halRow]
    rw [e, List.length_append, List.length_cons]
    omega
set_option maxRecDepth 100000 in
set_option maxHeartbeats 4000000 in
theorem refHalves_any (v : Value) (rs : List Nat) (w : World) (hz : ∀ r ∈ rs, isRune r) (hr : reads w .i32 v (toI rs)) (hl : rs.length < 100000000) :
    Calls Tryz.prog 80 #[v] w fun e w' => ∃ v, e = .returned v ∧ isRow w w' 165 v (halRow rs) ∧ Below w.heap.size w w' := by
  obtain ⟨p, c, rfl, r1, r2, r3⟩ := hr
  obtain ⟨n, hn⟩ : ∃ n, n = (toI rs).length := ⟨_, rfl⟩
  rw [← hn] at r1 r3 ⊢
  have HN : Hid (n = rs.length) := by show _ = _; rw [hn]; simp [toI]
  have HT : Hid (toI rs ≠ [] ↔ rs ≠ []) := by show _ ↔ _; simp [toI]
  have hln : n < 100000000 := by rw [HN.out]; exact hl
  clear hn hl
  have R3 : Hid (toI rs ≠ [] → ∃ b o, p = some ⟨b, o, none⟩ ∧ b < w.heap.size ∧ ∀ i, i < n → w.cell? ⟨b, o + i, none⟩ = some (.int .i32 ((toI rs).getD i 0))) := r3
  have HZ : Hid (∀ r ∈ rs, isRune r) := hz
  clear r3 hz
  obtain ⟨i0, hi, hz0, hz1, hz2⟩ := info_parts info59
  go_enter Tryz.func80, Tryz.ntmps80
  go_wp2
  go_loopw [3, 9] (fun b i wr => ∃ (k : Nat), k ≤ n ∧ i = .int .i64 k ∧ wr.ownsRow w.heap.size 165 1 b (halRow (rs.take k)).length (halRow (rs.take k)) ∧ Below w.heap.size w wr) (fun _ i _ => n - (intOf i).toNat)
  case atStart => exact ⟨0, Nat.zero_le _, rfl, World.ownsRow_nil _ _ _ _, Below.refl _ _⟩
  case round =>
    obtain ⟨k, hk, rfl, hown, hwr⟩ := hrel
    have hlen := halRow_len (rs.take k)
    rw [List.length_take] at hlen
    by_cases hlt : k < n
    · have hkr : k < rs.length := by rw [← HN.out]; exact hlt
      have hne : rs ≠ [] := by intro e; rw [e] at hkr; exact absurd hkr (Nat.not_lt_zero _)
      obtain ⟨b, o, rfl, hbw, hcell⟩ := R3.out (HT.out.2 hne)
      have hc := (hwr.cell (p := ⟨b, o + k, none⟩) hbw).trans (hcell k hlt)
      have hze : (toI rs).getD k 0 = (rs[k] : Int) := by
        rw [List.getD_eq_getElem?_getD, toI, List.getElem?_map, List.getElem?_eq_getElem hkr]; rfl
      rw [hze] at hc
      have hru := HZ.out rs[k] (List.getElem_mem _)
      have hts : rs.take (k + 1) = rs.take k ++ [rs[k]] := List.take_succ_eq_append_getElem hkr
      have hsn := halRow_snoc (rs.take k) rs[k]
      rw [← hts] at hsn
      generalize rs[k] = r at hc hru hsn
      unfold isRune at hru
      have hm : (halRow (rs.take k)).length < 300000000 := by omega
      by_cases hbig : r < 65536
      · have hh : halCells r = [.int .u16 r] := by simp [halCells, hal, hbig]
        rw [hh] at hsn
        have NX : Hid (∀ w1 v' o, w1.ownsRow w.heap.size 165 1 v' ((halRow (rs.take k)).length + 1) (halRow (rs.take k) ++ [.int .u16 r]) → (wr.alloc o).grownBy w1 (u3).ownBlock →
            w1.ownsRow w.heap.size 165 1 v' (halRow (rs.take (k + 1))).length (halRow (rs.take (k + 1))) ∧ Below w.heap.size w w1) := by
          intro w1 v' o h1 hg
          have hB : Below w.heap.size wr w1 := ((Below.refl _ wr).alloc hwr.size o).grown hg (by rw [World.size_alloc]; have := hwr.size; omega) fun k hk => (hown.lt k hk).1
          refine ⟨?_, hwr.trans hB⟩
          rw [hsn, List.length_append]
          exact h1
        obtain ⟨pb, cb, rfl⟩ := own_slice hown
        have q0 : (0 : Int) ≤ (r : Int) := by omega
        have q1 : (r : Int) < 65536 := by omega
        have hws := hwr.size
        clear hsn hts hze hh hcell hlen hru hbig
        generalize (r : Int) = z at hc q0 q1 NX
        generalize halRow (rs.take k) = xs at hown hm NX
        go_wp2_with (first | (at_builtin; refine wpList_append_own _ rfl (.tmp 30) (.tmp 33) 142 rfl w.heap.size 165 i0 (.int .u16 0) 1 2 Tryz.underlying142 hi hz0 hz1 hz2 rfl (by decide) _ _ _ rfl (hown.alloc _) ⟨wr.heap.size, 0, none⟩ 1 1 [.int .u16 z] rfl rfl (cell_one_new _ _ _) (ints_oneCell .u16 [z]) (by unfold maxLen; omega) (by omega) (by first | omega | (simp; omega)) ?_; intro v' w1 hown1 hg _) | fail)
        have hnx := NX.out w1 v' _ hown1 hg
        obtain ⟨n0, n1⟩ := hnx
        clear hown1 hg hown
        go_wp2
        go_roundw
        case rel => exact ⟨k + 1, by omega, by go_num, n0, n1⟩
        case measure => simp [intOf]; omega
      · have hh : halCells r = [.int .u16 (55296 + ((r : Int) - 65536) / 1024), .int .u16 (56320 + ((r : Int) - 65536) % 1024)] := by
          simp only [halCells, hal, hbig, if_false, List.map_cons, List.map_nil]
          rw [show ((55296 + (r - 65536) / 1024 : Nat) : Int) = 55296 + ((r : Int) - 65536) / 1024 by omega, show ((56320 + (r - 65536) % 1024 : Nat) : Int) = 56320 + ((r : Int) - 65536) % 1024 by omega]
        rw [hh] at hsn
        have NX : Hid (∀ w1 v' o, w1.ownsRow w.heap.size 165 1 v' ((halRow (rs.take k)).length + 2) (halRow (rs.take k) ++ [.int .u16 (55296 + ((r : Int) - 65536) / 1024), .int .u16 (56320 + ((r : Int) - 65536) % 1024)]) → (wr.alloc o).grownBy w1 (u3).ownBlock →
            w1.ownsRow w.heap.size 165 1 v' (halRow (rs.take (k + 1))).length (halRow (rs.take (k + 1))) ∧ Below w.heap.size w w1) := by
          intro w1 v' o h1 hg
          have hB : Below w.heap.size wr w1 := ((Below.refl _ wr).alloc hwr.size o).grown hg (by rw [World.size_alloc]; have := hwr.size; omega) fun k hk => (hown.lt k hk).1
          refine ⟨?_, hwr.trans hB⟩
          rw [hsn, List.length_append]
          exact h1
        obtain ⟨pb, cb, rfl⟩ := own_slice hown
        have q0 : ¬ (r : Int) < 65536 := by omega
        have q1 : (r : Int) ≤ 1114111 := by omega
        have q2 : (65536 : Int) ≤ (r : Int) := by omega
        have hws := hwr.size
        clear hsn hts hze hh hcell hlen hru hbig
        generalize (r : Int) = z at hc q0 q1 q2 NX
        generalize halRow (rs.take k) = xs at hown hm NX
        go_wp2_with (first | (at_builtin; refine wpList_append_own _ rfl (.tmp 17) (.tmp 28) 142 rfl w.heap.size 165 i0 (.int .u16 0) 1 2 Tryz.underlying142 hi hz0 hz1 hz2 rfl (by decide) _ _ _ rfl (hown.alloc _) ⟨wr.heap.size, 0, none⟩ 2 2 [.int .u16 (55296 + (z - 65536) / 1024), .int .u16 (56320 + (z - 65536) % 1024)] rfl rfl (cell_two_new _ _ _ _) (ints_oneCell .u16 [55296 + (z - 65536) / 1024, 56320 + (z - 65536) % 1024]) (by unfold maxLen; omega) (by omega) (by first | omega | (simp; omega)) ?_; intro v' w1 hown1 hg _) | fail)
        have hnx := NX.out w1 v' _ hown1 hg
        obtain ⟨n0, n1⟩ := hnx
        clear hown1 hg hown
        go_wp2
        go_roundw
        case rel => exact ⟨k + 1, by omega, by go_num, n0, n1⟩
        case measure => simp [intOf]; omega
    · have e : rs.take k = rs := List.take_of_length_le (by rw [← HN.out]; omega)
      rw [e] at hown
      obtain ⟨pb, cb, rfl⟩ := own_slice hown
      have HO : Hid (isRow w wr 165 (.slice pb (halRow rs).length cb) (halRow rs)) := ⟨pb, cb, rfl, hown⟩
      clear e hown R3 HZ hlen
      go_wp2
      go_ret
      exact ⟨_, rfl, HO.out, hwr⟩
end Go.Proofs.YtfedgjnhanlmeabGreatDoor

namespace Go.Proofs
open Go.Shelf
def Tryz.lays138_ren : Go.Shelf.Ren := ⟨fun | 138 => 81 | 195 => 138 | 218 => 139 | 143 => 140 | 219 => 189 | 217 => 216 | 225 => 217 | 224 => 218 | 267 => 219 | 266 => 233 | 314 => 234 | n => n, fun | 9 => 9 | 3 => 3 | 4 => 4 | 5 => 5 | 0 => 0 | 46 => 86 | 146 => 336 | 51 => 305 | n => n, fun | 1 => 1 | n => n⟩
theorem Tryz.lays138 : Go.Proofs.Lays.n138 Tryz.prog Tryz.lays138_ren := {
  mixed := by kernel_rfl
  f138 := Tryz.func81.trans (congrArg some (by kernel_rfl))
  f143 := Tryz.func140.trans (congrArg some (by kernel_rfl))
  f195 := Tryz.func138.trans (congrArg some (by kernel_rfl))
  f217 := Tryz.func216.trans (congrArg some (by kernel_rfl))
  f218 := Tryz.func139.trans (congrArg some (by kernel_rfl))
  f219 := Tryz.func189.trans (congrArg some (by kernel_rfl))
  f224 := Tryz.func218.trans (congrArg some (by kernel_rfl))
  f225 := Tryz.func217.trans (congrArg some (by kernel_rfl))
  f266 := Tryz.func233.trans (congrArg some (by kernel_rfl))
  f267 := Tryz.func219.trans (congrArg some (by kernel_rfl))
  f314 := Tryz.func234.trans (congrArg some (by kernel_rfl))
  t0 := Tryz.underlying0
  a0 := Tryz.isAgg0
  z0 := Tryz.sizeOf0
  v0 := Tryz.zeroValue0
  t3 := Tryz.underlying3
  a3 := Tryz.isAgg3
  z3 := Tryz.sizeOf3
  v3 := Tryz.zeroValue3
  t4 := Tryz.underlying4
  a4 := Tryz.isAgg4
  z4 := Tryz.sizeOf4
  v4 := Tryz.zeroValue4
  t5 := Tryz.underlying5
  a5 := Tryz.isAgg5
  z5 := Tryz.sizeOf5
  v5 := Tryz.zeroValue5
  t9 := Tryz.underlying9
  a9 := Tryz.isAgg9
  z9 := Tryz.sizeOf9
  v9 := Tryz.zeroValue9
  t46 := Tryz.underlying86
  a46 := Tryz.isAgg86
  z46 := Tryz.sizeOf86
  v46 := Tryz.zeroValue86
  t51 := Tryz.underlying305
  a51 := Tryz.isAgg305
  z51 := Tryz.sizeOf305
  v51 := Tryz.zeroValue305
  t146 := Tryz.underlying336
  a146 := Tryz.isAgg336
  z146 := Tryz.sizeOf336
  v146 := Tryz.zeroValue336
  g1 := by kernel_rfl }
open Go.RowKit Go.Lib in
theorem Tryz.strings_Count_one (s : ByteArray) (c : UInt8) (w : World) :
    Calls Tryz.prog 81 #[.string s, .string ⟨#[c]⟩] w fun e w' => e = .returned (.int .i64 (Lib.countByte s.data.toList c)) ∧ w' = w := Any.strings_Count_one Tryz.lays138 s c w
end Go.Proofs

namespace Go.Proofs.YtfedgjnhanlmeabGreatDoor
open Go.RowKit
set_option linter.unusedVariables false

/-- The two results' blocks hold noughts, and may be written. -/
def zeros (W : World) (B : Nat) : Prop :=
  (W.cell? ⟨B, 0, none⟩ = some (.int .i64 0) ∧ W.cell? ⟨B, 1, none⟩ = some (.int .i64 0) ∧ W.cell? ⟨B, 2, none⟩ = some (.int .i64 0) ∧ W.cell? ⟨B, 3, none⟩ = some (.int .i64 0)) ∧
  (W.frozen? ⟨B, 0, none⟩ = false ∧ W.frozen? ⟨B, 1, none⟩ = false ∧ W.frozen? ⟨B, 2, none⟩ = false ∧ W.frozen? ⟨B, 3, none⟩ = false) ∧
  (W.cell? ⟨B + 1, 0, none⟩ = some (.int .i64 0) ∧ W.cell? ⟨B + 1, 1, none⟩ = some (.int .i64 0)) ∧
  (W.frozen? ⟨B + 1, 0, none⟩ = false ∧ W.frozen? ⟨B + 1, 1, none⟩ = false)
theorem zeros_below {W W' : World} {B : Nat} (h : zeros W B) (hb : Below W.heap.size W W') : zeros W' B := by
  obtain ⟨⟨c0, c1, c2, c3⟩, ⟨d0, d1, d2, d3⟩, ⟨f0, f1⟩, ⟨g0, g1⟩⟩ := h
  have l0 : B < W.heap.size := World.block_lt_of_cell? W _ c0
  have l1 : B + 1 < W.heap.size := World.block_lt_of_cell? W _ f0
  have kc : ∀ i v, W.cell? ⟨B, i, none⟩ = some v → W'.cell? ⟨B, i, none⟩ = some v := fun i v h => (hb.cell (p := ⟨B, i, none⟩) l0).trans h
  have kd : ∀ i, W.frozen? ⟨B, i, none⟩ = false → W'.frozen? ⟨B, i, none⟩ = false := fun i h => (hb.frozen (p := ⟨B, i, none⟩) l0).trans h
  have kf : ∀ i v, W.cell? ⟨B + 1, i, none⟩ = some v → W'.cell? ⟨B + 1, i, none⟩ = some v := fun i v h => (hb.cell (p := ⟨B + 1, i, none⟩) l1).trans h
  have kg : ∀ i, W.frozen? ⟨B + 1, i, none⟩ = false → W'.frozen? ⟨B + 1, i, none⟩ = false := fun i h => (hb.frozen (p := ⟨B + 1, i, none⟩) l1).trans h
  exact ⟨⟨kc _ _ c0, kc _ _ c1, kc _ _ c2, kc _ _ c3⟩, ⟨kd _ d0, kd _ d1, kd _ d2, kd _ d3⟩, ⟨kf _ _ f0, kf _ _ f1⟩, ⟨kg _ g0, kg _ g1⟩⟩
theorem zeros_new (w : World) : zeros ((w.alloc (.cells #[.int .i64 0, .int .i64 0, .int .i64 0, .int .i64 0] 25)).alloc (.cells #[.int .i64 0, .int .i64 0] 28)) w.heap.size := by
  refine ⟨⟨?_, ?_, ?_, ?_⟩, ⟨?_, ?_, ?_, ?_⟩, ⟨?_, ?_⟩, ⟨?_, ?_⟩⟩ <;> simp [go_sem]
theorem below_two {w w1 : World} {o1 o2 : Obj} (hb : Below ((w.alloc o1).alloc o2).heap.size ((w.alloc o1).alloc o2) w1) : Below w.heap.size w w1 :=
  (((Below.refl _ w).alloc (Nat.le_refl _) _).alloc (by rw [World.size_alloc]; exact Nat.le_succ _) _).trans (hb.mono (by rw [World.size_alloc, World.size_alloc]; omega))
theorem size_two {w w1 : World} {o1 o2 : Obj} (hb : Below ((w.alloc o1).alloc o2).heap.size ((w.alloc o1).alloc o2) w1) : w.heap.size + 1 < w1.heap.size := by
  have := hb.size
  rw [World.size_alloc, World.size_alloc] at this
  omega
theorem below_six {w W : World} {v0 v1 v2 v3 v4 v5 : Value} (h : Below w.heap.size w W) :
    Below w.heap.size w ((((((W.setCell ⟨w.heap.size, 0, none⟩ v0).setCell ⟨w.heap.size, 1, none⟩ v1).setCell ⟨w.heap.size, 2, none⟩ v2).setCell ⟨w.heap.size, 3, none⟩ v3).setCell ⟨w.heap.size + 1, 0, none⟩ v4).setCell ⟨w.heap.size + 1, 1, none⟩ v5) :=
  (((((h.setCell (p := ⟨w.heap.size, 0, none⟩) (Nat.le_refl _) _).setCell (p := ⟨w.heap.size, 1, none⟩) (Nat.le_refl _) _).setCell (p := ⟨w.heap.size, 2, none⟩) (Nat.le_refl _) _).setCell (p := ⟨w.heap.size, 3, none⟩) (Nat.le_refl _) _).setCell (p := ⟨w.heap.size + 1, 0, none⟩) (Nat.le_succ _) _).setCell (p := ⟨w.heap.size + 1, 1, none⟩) (Nat.le_succ _) _

set_option maxRecDepth 100000 in
set_option maxHeartbeats 4000000 in
theorem refCount_bad (s : ByteArray) (hs : s.size < 100000000) (w : World) (hok : (scan s.data.toList).2 = false) :
    Calls Tryz.prog 11 #[.string s] w fun e w' => Below w.heap.size w w' ∧ e = .returned (.tuple #[cnt 0 0 0 0, fault 3 (place s.data.toList)]) := by
  have cR : ∀ w, Calls Tryz.prog 79 #[.string s] w fun e w' => e = .returned (.tuple #[.slice none 0 0, .agg #[.int .i64 3, .int .i64 (place s.data.toList)]]) ∧ Below w.heap.size w w' := fun w => by
    refine (refRunes_any s hs w).mono ?_
    rintro e w' ⟨hb, ⟨h, _⟩ | ⟨_, rfl⟩⟩
    · rw [hok] at h; cases h
    · exact ⟨rfl, hb⟩
  clear hok hs
  generalize ((place s.data.toList : Nat) : Int) = P at cR ⊢
  unfold cnt fault
  go_enter Tryz.func11, Tryz.ntmps11
  go_wp2_with (first | (go_at_call 79; refine (cR _).mono ?_; rintro e w1 ⟨rfl, hb1⟩; have k0 := zeros_below (zeros_below (zeros_new w) hb1) ((Below.refl _ w1).alloc (Nat.le_refl _) (.cells #[.int .i64 3, .int .i64 P] 28)); obtain ⟨⟨c0, c1, c2, c3⟩, ⟨d0, d1, d2, d3⟩, ⟨f0, f1⟩, ⟨g0, g1⟩⟩ := k0; have hlt := size_two hb1; have hn1 : ¬ w1.heap.size = w.heap.size := (by omega); have hn2 : ¬ w.heap.size = w1.heap.size := (by omega); have hn3 : ¬ w1.heap.size = w.heap.size + 1 := (by omega); have hn4 : ¬ w.heap.size + 1 = w1.heap.size := (by omega)) | fail)
  go_region
  all_goals go_wp2
  all_goals
    refine bodyPost_ret (v := .tuple #[.agg #[.int .i64 0, .int .i64 0, .int .i64 0, .int .i64 0], .agg #[.int .i64 3, .int .i64 P]]) (by simp [results, Tryz.results11, go_sem, c0, c1, c2, c3, f0, f1]) rfl ?_
    exact ⟨(below_six ((below_two hb1).alloc (Nat.le_of_lt (Nat.lt_trans (Nat.lt_succ_self _) hlt)) _)).drew, rfl⟩

theorem cells21_toI (rs : List Nat) : cellsOf21 (wide rs) = (toI rs).map (Value.int .i32) := by
  simp [cellsOf21, wide, toI, List.map_map, Function.comp_def]

set_option maxRecDepth 100000 in
set_option maxHeartbeats 4000000 in
theorem refCount_good (s : ByteArray) (hs : s.size < 100000000) (w : World) (hok : (scan s.data.toList).2 = true) :
    Calls Tryz.prog 11 #[.string s] w fun e w' => Below w.heap.size w w' ∧
      e = .returned (.tuple #[cnt s.size (halRow (runesOf s.data.toList)).length (runesOf s.data.toList).length (Lib.countByte s.data.toList 10), fault 0 (-1)]) := by
  have hru : ∀ r ∈ runesOf s.data.toList, isRune r := fun r h => runesOf_rune h
  have hrl : (runesOf s.data.toList).length < 100000000 := by
    have := scan_len s.data.toList
    rw [← Lib.size_eq] at this
    unfold runesOf
    rw [List.length_map]
    omega
  have cR : ∀ w, Calls Tryz.prog 79 #[.string s] w fun e w' => Below w.heap.size w w' ∧ ∃ p c, e = .returned (.tuple #[.slice p (runesOf s.data.toList).length c, .agg #[.int .i64 0, .int .i64 (-1)]]) ∧ reads w' .i32 (.slice p (runesOf s.data.toList).length c) (toI (runesOf s.data.toList)) := fun w => by
    refine (refRunes_any s hs w).mono ?_
    rintro e w' ⟨hb, ⟨_, v, rfl, p, c, rfl, hown⟩ | ⟨h, _⟩⟩
    · have e1 : cellsOf21 (scan s.data.toList).1 = (toI (runesOf s.data.toList)).map (Value.int .i32) := by rw [scan_wide, cells21_toI]
      have e2 : (cellsOf21 (scan s.data.toList).1).length = (toI (runesOf s.data.toList)).length := by rw [e1, List.length_map]
      have e3 : (toI (runesOf s.data.toList)).length = (runesOf s.data.toList).length := by simp [toI]
      rw [e2] at hown
      rw [e2, ← e3]
      exact ⟨hb, p, c, rfl, reads_own e1 hown⟩
    · rw [hok] at h; cases h
  have cC := fun w => Tryz.strings_Count_one s 10 w
  have hcb : Lib.countByte s.data.toList 10 < 100000000 := by
    have : Lib.countByte s.data.toList 10 ≤ s.data.toList.length := List.count_le_length
    rw [← Lib.size_eq] at this
    omega
  clear hok hs
  generalize Lib.countByte s.data.toList 10 = CB at cC hcb ⊢
  generalize runesOf s.data.toList = rs at *
  have HRU : Hid (∀ r ∈ rs, isRune r) := hru
  obtain ⟨n, hn⟩ : ∃ n, n = rs.length := ⟨_, rfl⟩
  have HRL : Hid (rs.length < 100000000) := hrl
  rw [← hn] at cR hrl ⊢
  have HN : Hid (n = rs.length) := hn
  clear hru hn
  unfold cnt fault
  go_enter Tryz.func11, Tryz.ntmps11
  go_wp2_with (first | (go_at_call 79; refine (cR _).mono ?_; rintro e w1 ⟨hb1, p, c, rfl, hrd⟩; have HRD : Hid (reads w1 .i32 (.slice p n c) (toI rs)) := hrd; clear hrd; have hBF : Below w1.heap.size w1 (w1.alloc (.cells #[.int .i64 0, .int .i64 (-1)] 28)) := (Below.refl _ w1).alloc (Nat.le_refl _) _; have k0 := zeros_below (zeros_below (zeros_new w) hb1) hBF; have KZ : Hid (zeros (w1.alloc (.cells #[.int .i64 0, .int .i64 (-1)] 28)) w.heap.size) := k0; obtain ⟨⟨c0, c1, c2, c3⟩, ⟨d0, d1, d2, d3⟩, ⟨f0, f1⟩, ⟨g0, g1⟩⟩ := k0; have hlt := size_two hb1; have hn1 : ¬ w1.heap.size = w.heap.size := (by omega); have hn2 : ¬ w.heap.size = w1.heap.size := (by omega); have hn3 : ¬ w1.heap.size = w.heap.size + 1 := (by omega); have hn4 : ¬ w.heap.size + 1 = w1.heap.size := (by omega)) | fail)
  go_region_with (first | (go_at_call 80; refine (refHalves_any _ rs _ HRU.out (reads_below HRD.out hBF.drew (Nat.le_refl _)) HRL.out).mono ?_; rintro e w2 ⟨v2, rfl, ⟨p2, c2', rfl, hig⟩, hb2⟩; clear hig; have k2 := zeros_below (W := (w1.alloc (.cells #[.int .i64 0, .int .i64 (-1)] 28)).drew) (zeros_below KZ.out (Below.refl _ _).drew) hb2; obtain ⟨⟨C0, C1, C2, C3⟩, ⟨D0, D1, D2, D3⟩, ⟨F0, F1⟩, ⟨G0, G1⟩⟩ := k2; have e0 : w2.cell? ⟨w1.heap.size, 0, none⟩ = some (.int .i64 0) := (hb2.cell (p := ⟨w1.heap.size, 0, none⟩) (by simp)).trans (by simp [go_sem]); have e1 : w2.cell? ⟨w1.heap.size, 1, none⟩ = some (.int .i64 (-1)) := (hb2.cell (p := ⟨w1.heap.size, 1, none⟩) (by simp)).trans (by simp [go_sem])) | (go_at_call 81; refine (cC _).mono ?_; rintro e wx ⟨rfl, hwx⟩; obtain rfl := hwx.symm))
  all_goals
    go_wp2
    refine bodyPost_ret (v := .tuple #[.agg #[.int .i64 s.size, .int .i64 (halRow rs).length, .int .i64 n, .int .i64 CB], .agg #[.int .i64 0, .int .i64 (-1)]]) (by simp [results, Tryz.results11, go_sem, C0, C1, C2, C3, F0, F1]) rfl ?_
    have hle : w.heap.size ≤ w1.heap.size := by omega
    have hBw : Below w.heap.size w w2 := ((below_two hb1).alloc hle _).drew.trans (hb2.mono (by simp; omega))
    exact ⟨below_six hBw, rfl⟩
end Go.Proofs.YtfedgjnhanlmeabGreatDoor

namespace Go.Proofs.YtfedgjnhanlmeabGreatDoor
open Go.RowKit
set_option linter.unusedVariables false

/-! ### What runes count -/
def C1 (rs : List Nat) : Int := sum1 (wide rs)
def C2 (rs : List Nat) : Int := sum2 (wide rs)
def C3 (rs : List Nat) : Int := rs.length
/-- The chunks' tree. -/
inductive T where
  | nil
  | node (l : T) (rs : List Nat) (r : T)
def T.size : T → Nat
  | .nil => 0
  | .node l _ r => 1 + l.size + r.size

end Go.Proofs.YtfedgjnhanlmeabGreatDoor

namespace Go.Proofs.YtfedgjnhanlmeabGreatDoor
open Go.RowKit
set_option linter.unusedVariables false

/-- All blocks but B lie as they lay; new ones may have come. -/
structure But (B : Nat) (A A' : World) : Prop where
  os : A'.os = A.os
  tape : A'.tape = A.tape
  output : A'.output = A.output
  size : A.heap.size ≤ A'.heap.size
  block : ∀ k, k < A.heap.size → k ≠ B → A'.heap[k]? = A.heap[k]?
theorem But.refl (B : Nat) (A : World) : But B A A := ⟨rfl, rfl, rfl, Nat.le_refl _, fun _ _ _ => rfl⟩
theorem But.trans {B : Nat} {a b c : World} (h : But B a b) (k : But B b c) : But B a c :=
  ⟨k.os.trans h.os, k.tape.trans h.tape, k.output.trans h.output, Nat.le_trans h.size k.size, fun i h1 h2 => (k.block i (Nat.lt_of_lt_of_le h1 h.size) h2).trans (h.block i h1 h2)⟩
theorem But.of_below {B : Nat} {A A' : World} (h : Below A.heap.size A A') : But B A A' := ⟨h.os, h.tape, h.output, h.size, fun k h1 _ => h.block k h1⟩
theorem But.setCell {B : Nat} {A W : World} (h : But B A W) {p : Addr} (hp : p.block = B) (v : Value) : But B A (W.setCell p v) :=
  h.trans ⟨rfl, rfl, rfl, by simp [World.setCell], fun k _ h2 => Below.heap_setCell W p v k (by rw [hp]; exact h2)⟩
theorem But.below {B : Nat} {A A' : World} (h : But B A A') (hB : B ≤ A.heap.size) : Below B A A' := ⟨h.os, h.tape, h.output, h.size, fun k hk => h.block k (by omega) (by omega)⟩
theorem But.cell {B : Nat} {A A' : World} (h : But B A A') {b o : Nat} {v : Value} (hb : b ≠ B) (hc : A.cell? ⟨b, o, none⟩ = some v) : A'.cell? ⟨b, o, none⟩ = some v :=
  (World.cell?_of_block (w := A) (a := ⟨b, o, none⟩) (h.block b (World.block_lt_of_cell? A _ hc) hb)).trans hc
/-- G gives just the worlds that are W but for B, and what is new. -/
structure GrowB (B : Nat) (W : World) (G : World → World) : Prop where
  but : ∀ x, But B W (G x)
  onto : ∀ w, But B W w → G w = w
theorem GrowB.cell {B : Nat} {W : World} {G : World → World} (hG : GrowB B W G) {b o : Nat} {v : Value} (hb : b ≠ B) (h : W.cell? ⟨b, o, none⟩ = some v) : ∀ x, (G x).cell? ⟨b, o, none⟩ = some v :=
  fun x => (hG.but x).cell hb h

section
variable {P : Program} {ops : Array Oper} {md : Region.Mode} {m B : Nat} {W0 : World} {Q : Exit → Act → World → Prop}

end
end Go.Proofs.YtfedgjnhanlmeabGreatDoor

namespace Go.Proofs.YtfedgjnhanlmeabGreatDoor

/-- A byte with which a rune may begin. -/
def startB (b : UInt8) : Bool := Lib.runeStart (b.toNat : Int)
theorem startB_lead {n : Nat} (h : n < 256) (h2 : n / 64 ≠ 2) : startB n.toUInt8 = true := by
  unfold startB Lib.runeStart
  rw [toU8 h, bne_iff_ne]
  omega
theorem startB_tail {n : Nat} (h : n < 64) : startB (128 + n).toUInt8 = false := by
  unfold startB Lib.runeStart
  rw [toU8 (by omega), bne_eq_false_iff_eq]
  omega
theorem enc_starts {r : Nat} (hr : isRune r) : ∃ b t, enc r = b :: t ∧ startB b = true ∧ (∀ x ∈ t, startB x = false) ∧ t.length ≤ 3 := by
  unfold isRune at hr
  by_cases h1 : r ≤ 127
  · rw [enc1 h1]; exact ⟨_, [], rfl, startB_lead (by omega) (by omega), by simp, by simp⟩
  by_cases h2 : r ≤ 2047
  · rw [enc2 (by omega) h2]
    exact ⟨_, _, rfl, startB_lead (by omega) (by omega), fun x hx => by simp only [List.mem_cons, List.not_mem_nil, or_false] at hx; subst hx; exact startB_tail (by omega), by simp⟩
  by_cases h3 : r ≤ 65535
  · rw [enc3 (by omega)]
    exact ⟨_, _, rfl, startB_lead (by omega) (by omega), fun x hx => by simp only [List.mem_cons, List.not_mem_nil, or_false] at hx; rcases hx with rfl | rfl <;> exact startB_tail (by omega), by simp⟩
  · rw [enc4 (by omega) (by omega)]
    exact ⟨_, _, rfl, startB_lead (by omega) (by omega), fun x hx => by simp only [List.mem_cons, List.not_mem_nil, or_false] at hx; rcases hx with rfl | rfl | rfl <;> exact startB_tail (by omega), by simp⟩

/-- A place between two runes, or at an end. -/
def edgeAt (rs : List Nat) (j : Nat) : Prop := ∃ k, k ≤ rs.length ∧ j = (encs (rs.take k)).length
theorem edgeAt_zero (rs : List Nat) : edgeAt rs 0 := ⟨0, Nat.zero_le _, by simp [encs]⟩
theorem edgeAt_of_start : ∀ {rs : List Nat}, (∀ r ∈ rs, isRune r) → ∀ {j : Nat} {b : UInt8}, (encs rs)[j]? = some b → startB b = true → edgeAt rs j
  | [], _, j, b, h, _ => by simp [encs] at h
  | r :: rs, hr, j, b, h, hb => by
    obtain ⟨b0, t, e, h1, h2, _⟩ := enc_starts (hr r (by simp))
    rw [encs_cons] at h
    by_cases hj : j < (enc r).length
    · rw [List.getElem?_append_left hj, e] at h
      cases j with
      | zero => exact edgeAt_zero _
      | succ j =>
        rw [List.getElem?_cons_succ] at h
        have := h2 b (List.mem_of_getElem? h)
        rw [this] at hb
        cases hb
    · rw [List.getElem?_append_right (by omega)] at h
      obtain ⟨k, hk, e2⟩ := edgeAt_of_start (fun x hx => hr x (by simp [hx])) h hb
      refine ⟨k + 1, by simp; omega, ?_⟩
      rw [List.take_succ_cons, encs_cons, List.length_append, ← e2]
      omega
end Go.Proofs.YtfedgjnhanlmeabGreatDoor

namespace Go.Proofs.YtfedgjnhanlmeabGreatDoor
set_option linter.unusedVariables false

/-- Bytes of whole runes. -/
def V (l : List UInt8) : Prop := ∃ rs : List Nat, (∀ r ∈ rs, isRune r) ∧ l = encs rs
theorem V_nil : V [] := ⟨[], by simp, rfl⟩
theorem V_append {a b : List UInt8} (ha : V a) (hb : V b) : V (a ++ b) := by
  obtain ⟨x, hx, rfl⟩ := ha
  obtain ⟨y, hy, rfl⟩ := hb
  exact ⟨x ++ y, fun r hr => (List.mem_append.1 hr).elim (hx r) (hy r), (encs_append x y).symm⟩
theorem V_scan {l : List UInt8} (h : V l) : (scan l).2 = true := by
  obtain ⟨x, hx, rfl⟩ := h
  rw [scan_encs x hx]
theorem V_of_scan {l : List UInt8} (h : (scan l).2 = true) : V l := ⟨runesOf l, fun r hr => runesOf_rune hr, (encs_runesOf h).symm⟩
theorem V_rest {a b : List UInt8} (ha : V a) (hab : V (a ++ b)) : V b := by
  obtain ⟨rs, hr, rfl⟩ := ha
  induction rs generalizing b with
  | nil => exact hab
  | cons r rs ih =>
    obtain ⟨qs, hq, e⟩ := hab
    rw [encs_cons, List.append_assoc] at e
    have h1 := dec_enc (hr r (by simp)) (encs rs ++ b)
    cases qs with
    | nil =>
      have := congrArg List.length e
      have h2 := List.length_pos_iff.2 (enc_ne r)
      have h3 : (encs []).length = 0 := rfl
      rw [List.length_append] at this
      omega
    | cons q qs =>
      rw [encs_cons] at e
      have h2 := dec_enc (hq q (by simp)) (encs qs)
      rw [← e, h1.1] at h2
      obtain ⟨h2, _⟩ := h2
      obtain rfl : r = q := congrArg Prod.fst h2
      exact ih (fun x hx => hr x (by simp [hx])) ⟨qs, fun x hx => hq x (by simp [hx]), List.append_cancel_left e⟩
theorem V_take {l : List UInt8} {n : Nat} (hl : V l) (hn : V (l.take n)) : V (l.drop n) := V_rest hn (by rw [List.take_append_drop]; exact hl)

/-- Puts whole runes, and ends nowhere within one. -/
def al : List Pt → List UInt8 → Prop
  | [], _ => True
  | p :: ps, t => V p.put ∧ V (t.take (lenP p).toNat) ∧ al ps (t.drop (lenP p).toNat)
structure good (ps : List Pt) (t : List UInt8) : Prop where
  one : ∀ p ∈ ps, oneP p
  long : longP ps = t.length
  al : al ps t

theorem long_cons (p : Pt) (ps : List Pt) : longP (p :: ps) = lenP p + longP ps := by simp [longP]
theorem one_len {p : Pt} (h : oneP p) : 0 ≤ lenP p := by
  rcases h with ⟨h1, h2, h3⟩ | ⟨h1, h2, h3⟩ | ⟨h1, h2, h3⟩ <;> simp only [lenP] <;> omega
theorem long_pos {ps : List Pt} (h : ∀ p ∈ ps, oneP p) : 0 ≤ longP ps := by
  induction ps with
  | nil => simp [longP]
  | cons p ps ih =>
    have h1 := ih fun q hq => h q (by simp [hq])
    have h2 := one_len (h p (by simp))
    rw [long_cons]; omega
theorem oneB_of {p : Pt} (h : oneP p) : oneB p = true := by
  unfold oneB
  obtain ⟨K, D, U⟩ := p
  rcases h with ⟨h1, h2, h3⟩ | ⟨h1, h2, h3⟩ | ⟨h1, h2, h3⟩
  · obtain rfl : D = 0 := h2
    obtain rfl : U = [] := h3
    simp; exact h1
  · obtain rfl : K = 0 := h1
    obtain rfl : U = [] := h3
    have h2 : 0 < D := h2
    have : D ≠ 0 := by omega
    simp [this]; exact h2
  · obtain rfl : K = 0 := h1
    obtain rfl : D = 0 := h2
    have h3 : U ≠ [] := h3
    simp [h3]
theorem chk_of {ps : List Pt} {n : Int} (h1 : ∀ p ∈ ps, oneP p) (h2 : ∀ p ∈ ps, V p.put) (h3 : longP ps = n) : chkE ps n = 0 := by
  have e1 : chk1 ps = 0 := by
    clear h3
    induction ps with
    | nil => rfl
    | cons p ps ih =>
      rw [chk1, if_pos (oneB_of (h1 p (by simp))), if_pos (V_scan (h2 p (by simp)))]
      exact ih (fun q hq => h1 q (by simp [hq])) fun q hq => h2 q (by simp [hq])
  unfold chkE
  rw [if_pos e1]
  clear e1 h2
  induction ps generalizing n with
  | nil => simp [longP] at h3; simp [chk2, ← h3]
  | cons p ps ih =>
    rw [long_cons] at h3
    have h4 := long_pos fun q hq => h1 q (List.mem_cons_of_mem _ hq)
    have h5 : p.keep + p.drop = lenP p := rfl
    rw [chk2, if_neg (by omega)]
    exact ih (fun q hq => h1 q (by simp [hq])) (by omega)
theorem al_puts : ∀ {ps : List Pt} {t : List UInt8}, al ps t → ∀ p ∈ ps, V p.put
  | [], _, _, p, hp => by cases hp
  | q :: ps, t, h, p, hp => by
    rcases List.mem_cons.1 hp with rfl | hp
    · exact h.1
    · exact al_puts h.2.2 p hp
theorem good.chk {ps : List Pt} {t : List UInt8} (h : good ps t) : chkE ps (t.length : Int) = 0 := chk_of h.one (al_puts h.al) h.long
theorem apply_cons (p : Pt) (ps : List Pt) (t : List UInt8) : applyP (p :: ps) t = madeP (p, t.take (lenP p).toNat) ++ applyP ps (t.drop (lenP p).toNat) := rfl
theorem apply_V : ∀ {ps : List Pt} {t : List UInt8}, al ps t → V (applyP ps t)
  | [], _, _ => V_nil
  | p :: ps, t, h => by
    rw [apply_cons]
    refine V_append ?_ (apply_V h.2.2)
    unfold madeP
    refine V_append ?_ h.1
    split
    · exact h.2.1
    · exact V_nil
theorem apply_put (u : List UInt8) (ps : List Pt) (t : List UInt8) : applyP (⟨0, 0, u⟩ :: ps) t = u ++ applyP ps t := by
  simp [apply_cons, madeP, lenP]
theorem apply_keep (n : Int) (hn : 0 < n) (ps : List Pt) (t : List UInt8) : applyP (⟨n, 0, []⟩ :: ps) t = t.take n.toNat ++ applyP ps (t.drop n.toNat) := by
  simp [apply_cons, madeP, lenP, hn]
theorem apply_drop (n : Int) (ps : List Pt) (t : List UInt8) : applyP (⟨0, n, []⟩ :: ps) t = applyP ps (t.drop n.toNat) := by
  simp [apply_cons, madeP, lenP]

/-- What is made, and what is left. -/
def actA (x : List UInt8 × List UInt8) (p : Pt) : List UInt8 × List UInt8 := (x.1 ++ (p.put ++ (x.2.drop p.drop.toNat).take p.keep.toNat), (x.2.drop p.drop.toNat).drop p.keep.toNat)
theorem actA_ok : ActP actA := by
  constructor
  · intro x; simp [actA]
  · intro x u v; simp [actA]
  · intro x a b ha hb
    simp only [actA, Int.toNat_zero, List.take_zero, List.append_nil, List.drop_drop, Nat.add_zero]
    rw [show a.toNat + b.toNat = (a + b).toNat by omega]
  · intro x a b ha hb
    simp only [actA, List.nil_append, Int.toNat_zero, List.drop_zero, List.drop_drop, List.append_assoc]
    rw [show (a + b).toNat = a.toNat + b.toNat by omega, List.take_add]
    simp only [Nat.add_zero]
  · intro x k d u; simp [actA]
  · intro x d u; simp [actA]
theorem actA_apply : ∀ (ps : List Pt), (∀ p ∈ ps, oneP p) → ∀ (o t : List UInt8), ps.foldl actA (o, t) = (o ++ applyP ps t, t.drop (longP ps).toNat)
  | [], _, o, t => by simp [applyP, pcs, longP]
  | p :: ps, h, o, t => by
    have h0 := long_pos fun q hq => h q (List.mem_cons_of_mem _ hq)
    rw [List.foldl_cons, actA, actA_apply ps fun q hq => h q (by simp [hq])]
    rw [long_cons]
    rcases one_three (h p (by simp)) with ⟨u, hu, rfl⟩ | ⟨m, rfl⟩ | ⟨m, rfl⟩
    · rw [apply_put]; simp [lenP]
    · rw [apply_keep _ (by omega)]
      simp only [lenP, Int.toNat_zero, List.drop_zero, List.nil_append, List.append_assoc, List.drop_drop]
      rw [show ((m : Int) + 1 + 0 + longP ps).toNat = ((m : Int) + 1).toNat + (longP ps).toNat by omega]
    · rw [apply_drop]
      simp only [lenP, Int.toNat_zero, List.append_nil, List.take_zero, List.drop_drop, Nat.add_zero]
      rw [show (0 + ((m : Int) + 1) + longP ps).toNat = ((m : Int) + 1).toNat + (longP ps).toNat by omega]

/-- Each part begins, and ends, where one may. -/
def Cut (E : Int → Prop) : Int → List Pt → Prop
  | i, [] => E i
  | i, p :: ps => E i ∧ Cut E (i + lenP p) ps
theorem Cut_head {E : Int → Prop} {i : Int} {ps : List Pt} (h : Cut E i ps) : E i := by
  cases ps with
  | nil => exact h
  | cons p ps => exact h.1
theorem Cut_append (E : Int → Prop) : ∀ (a b : List Pt) (i : Int), Cut E i (a ++ b) ↔ Cut E i a ∧ Cut E (i + longP a) b
  | [], b, i => by
    simp only [List.nil_append, longP, List.map_nil, List.sum_nil, Int.add_zero]
    exact ⟨fun h => ⟨Cut_head h, h⟩, fun h => h.2⟩
  | p :: a, b, i => by
    rw [List.cons_append, long_cons, ← Int.add_assoc]
    show (E i ∧ Cut E (i + lenP p) (a ++ b)) ↔ (E i ∧ Cut E (i + lenP p) a) ∧ _
    rw [Cut_append E a b, and_assoc]
theorem Cut_end {E : Int → Prop} {i : Int} {ps : List Pt} (h : Cut E i ps) : E (i + longP ps) := by
  have := (Cut_append E ps [] i).1 (by rw [List.append_nil]; exact h)
  exact this.2
structure CutS (E : Int → Prop) (s : NSt) : Prop where
  out : Cut E 0 s.out
  here : E (longS s)
  puts : ∀ p ∈ s.out, V p.put
  put : V s.put
  one : OneS s
theorem cut_tell {E : Int → Prop} {s : NSt} (h : CutS E s) : Cut E 0 (tellP s) ∧ ∀ p ∈ tellP s, V p.put := by
  have h1 := Cut_end h.out
  rw [Int.zero_add] at h1
  have h2 := h.here
  unfold longS at h2
  unfold tellP
  refine ⟨(Cut_append ..).2 ⟨h.out, ?_⟩, ?_⟩
  · rw [Int.zero_add]
    have key : Cut E (longP s.out) (if s.drop = 0 then [] else [⟨0, s.drop, []⟩]) := by
      split
      · exact h1
      · refine ⟨h1, ?_⟩
        show E (longP s.out + (0 + s.drop))
        rw [Int.zero_add]; exact h2
    split
    · exact key
    · refine ⟨h1, ?_⟩
      show Cut E (longP s.out + (0 + 0)) _
      rw [Int.zero_add, Int.add_zero]; exact key
  · intro p hp
    rcases List.mem_append.1 hp with hp | hp
    · exact h.puts p hp
    · rcases List.mem_append.1 hp with hp | hp
      · split at hp
        · cases hp
        · rw [List.mem_singleton.1 hp]; exact h.put
      · split at hp
        · cases hp
        · rw [List.mem_singleton.1 hp]; exact V_nil
theorem cut_push {E : Int → Prop} {l : List Pt} {k : Int} (h : Cut E 0 l) (hk : E (longP l + k)) : Cut E 0 (pushKeep l k) := by
  have hnew : Cut E 0 (l ++ [⟨k, 0, []⟩]) := by
    refine (Cut_append ..).2 ⟨h, Cut_end h, ?_⟩
    show E (0 + longP l + (k + 0))
    rw [Int.zero_add, Int.add_zero]; exact hk
  unfold pushKeep
  cases hq : l.getLast? with
  | none => exact hnew
  | some q =>
    simp only
    split
    · obtain ⟨m, rfl⟩ := List.getLast?_eq_some_iff.1 hq
      obtain ⟨h1, h2⟩ := (Cut_append ..).1 h
      rw [List.dropLast_concat]
      refine (Cut_append ..).2 ⟨h1, h2.1, ?_⟩
      have e : longP (m ++ [q]) = longP m + lenP q := by simp [longP]
      rw [e] at hk
      show E (0 + longP m + (q.keep + k + q.drop))
      have : 0 + longP m + (q.keep + k + q.drop) = longP m + lenP q + k := by unfold lenP; omega
      rw [this]; exact hk
    · exact hnew
theorem push_puts {l : List Pt} {k : Int} (h : ∀ p ∈ l, V p.put) : ∀ p ∈ pushKeep l k, V p.put := by
  intro p hp
  unfold pushKeep at hp
  cases hq : l.getLast? with
  | none =>
    rw [hq] at hp
    simp only [List.mem_append, List.mem_singleton] at hp
    rcases hp with hp | rfl
    · exact h p hp
    · exact V_nil
  | some q =>
    rw [hq] at hp
    simp only at hp
    split at hp
    · simp only [List.mem_append, List.mem_singleton] at hp
      rcases hp with hp | rfl
      · exact h p (List.dropLast_subset l hp)
      · exact h q (List.mem_of_getLast? hq)
    · simp only [List.mem_append, List.mem_singleton] at hp
      rcases hp with hp | rfl
      · exact h p hp
      · exact V_nil
theorem cut_add {E : Int → Prop} {s : NSt} (h : CutS E s) (p : Pt) (hk : 0 ≤ p.keep) (hd : 0 ≤ p.drop) (h1 : p.keep = 0 ∨ (p.drop = 0 ∧ p.put = [])) (hv : V p.put) (he : E (longS s + lenP p)) : CutS E (addP s p) := by
  have hone := add_one h.one p hk hd
  have hlong := add_long s p
  refine ⟨?_, by rw [hlong]; exact he, ?_, ?_, hone⟩
  · unfold addP
    split
    · exact h.out
    · rename_i h0
      obtain ⟨e1, e2⟩ := h1.resolve_left h0
      rw [e1, e2, List.append_nil, Int.add_zero]
      have hk : E (longP (tellP s) + p.keep) := by
        rw [tell_long]
        unfold lenP at he
        rw [e1, Int.add_zero] at he
        exact he
      exact cut_push (cut_tell h).1 hk
  · unfold addP
    split
    · exact h.puts
    · rename_i h0
      obtain ⟨e1, e2⟩ := h1.resolve_left h0
      rw [e1, e2, List.append_nil, Int.add_zero]
      exact push_puts (cut_tell h).2
  · unfold addP
    split
    · exact V_append h.put hv
    · exact V_nil
theorem one_kind {p : Pt} (h : oneP p) : 0 ≤ p.keep ∧ 0 ≤ p.drop ∧ (p.keep = 0 ∨ (p.drop = 0 ∧ p.put = [])) := by
  rcases h with ⟨h1, h2, h3⟩ | ⟨h1, h2, h3⟩ | ⟨h1, h2, h3⟩
  · exact ⟨by omega, by omega, .inr ⟨h2, h3⟩⟩
  · exact ⟨by omega, by omega, .inl h1⟩
  · exact ⟨by omega, by omega, .inl h1⟩
/-- A place of a text between two runes. -/
def edgeV (T : List UInt8) (j : Int) : Prop := V (T.take j.toNat)
theorem cut_al {T : List UInt8} : ∀ {ps : List Pt} {i : Int}, 0 ≤ i → (∀ p ∈ ps, oneP p) → (∀ p ∈ ps, V p.put) → Cut (edgeV T) i ps → al ps (T.drop i.toNat)
  | [], i, _, _, _, _ => trivial
  | p :: ps, i, h0, h1, h2, hc => by
    have hl := one_len (h1 p (by simp))
    have e : (i + lenP p).toNat = i.toNat + (lenP p).toNat := by omega
    have h3 : V (T.take i.toNat) := hc.1
    have h4 : V (T.take (i + lenP p).toNat) := Cut_head hc.2
    rw [e, List.take_add] at h4
    refine ⟨h2 p (by simp), V_rest h3 h4, ?_⟩
    have := cut_al (by omega) (fun q hq => h1 q (by simp [hq])) (fun q hq => h2 q (by simp [hq])) hc.2
    rw [e, ← List.drop_drop] at this
    exact this
theorem good_of_cut {T : List UInt8} {s : NSt} (h : CutS (edgeV T) s) (hl : longS s = T.length) : good (tellP s) T := by
  refine ⟨tell_one h.one, by rw [tell_long]; exact hl, ?_⟩
  have := cut_al (i := 0) (by omega) (tell_one h.one) (cut_tell h).2 (cut_tell h).1
  exact this
end Go.Proofs.YtfedgjnhanlmeabGreatDoor

namespace Go.Proofs.YtfedgjnhanlmeabGreatDoor
set_option linter.unusedVariables false

/-- What was added so far: D of the text T is behind, R is ahead, o was made. -/
structure St (T D R o : List UInt8) (s : NSt) : Prop where
  cut : CutS (edgeV T) s
  eq : T = D ++ R
  here : V D
  long : longS s = D.length
  act : (tellP s).foldl actA ([], T) = (o, R)
theorem St.none {T D R o : List UInt8} {s : NSt} (h : St T D R o s) : St T D R (o ++ []) s := by rw [List.append_nil]; exact h
theorem St.put {T D R o : List UInt8} {s : NSt} (h : St T D R o s) {u : List UInt8} (hu : V u) : St T D R (o ++ u) (addP s ⟨0, 0, u⟩) := by
  have hl := add_long s ⟨0, 0, u⟩
  have e0 : lenP ⟨0, 0, u⟩ = 0 := rfl
  rw [e0, Int.add_zero] at hl
  refine ⟨cut_add h.cut _ (Int.le_refl _) (Int.le_refl _) (.inl rfl) hu ?_, h.eq, h.here, by rw [hl]; exact h.long, ?_⟩
  · rw [e0, Int.add_zero]; exact h.cut.here
  · rw [act_add actA_ok s _ h.cut.one.drop (Int.le_refl _) (Int.le_refl _), h.act]
    simp [actA]
theorem St.keep {T D R o x : List UInt8} {s : NSt} (h : St T D (x ++ R) o s) (hx : V x) : St T (D ++ x) R (o ++ x) (addP s ⟨x.length, 0, []⟩) := by
  have hl := add_long s ⟨x.length, 0, []⟩
  have e0 : lenP ⟨x.length, 0, []⟩ = x.length := by simp [lenP]
  rw [e0] at hl
  have h0 : (0 : Int) ≤ x.length := by omega
  refine ⟨cut_add h.cut _ h0 (Int.le_refl _) (.inr ⟨rfl, rfl⟩) V_nil ?_, by rw [List.append_assoc]; exact h.eq, V_append h.here hx, by rw [hl, h.long, List.length_append]; push_cast; rfl, ?_⟩
  · rw [e0, h.long]
    unfold edgeV
    rw [show ((D.length : Int) + x.length).toNat = (D ++ x).length by rw [List.length_append]; omega, h.eq, ← List.append_assoc, List.take_left']
    · exact V_append h.here hx
    · rfl
  · rw [act_add actA_ok s _ h.cut.one.drop h0 (Int.le_refl _), h.act]
    simp [actA]
theorem St.drop {T D R o x : List UInt8} {s : NSt} (h : St T D (x ++ R) o s) (hx : V x) : St T (D ++ x) R o (addP s ⟨0, x.length, []⟩) := by
  have hl := add_long s ⟨0, x.length, []⟩
  have e0 : lenP ⟨0, x.length, []⟩ = x.length := by simp [lenP]
  rw [e0] at hl
  have h0 : (0 : Int) ≤ x.length := by omega
  refine ⟨cut_add h.cut _ (Int.le_refl _) h0 (.inl rfl) V_nil ?_, by rw [List.append_assoc]; exact h.eq, V_append h.here hx, by rw [hl, h.long, List.length_append]; push_cast; rfl, ?_⟩
  · rw [e0, h.long]
    unfold edgeV
    rw [show ((D.length : Int) + x.length).toNat = (D ++ x).length by rw [List.length_append]; omega, h.eq, ← List.append_assoc, List.take_left']
    · exact V_append h.here hx
    · rfl
  · rw [act_add actA_ok s _ h.cut.one.drop (Int.le_refl _) h0, h.act]
    simp [actA]
theorem St.good {T o : List UInt8} {s : NSt} (h : St T T [] o s) : good (tellP s) T ∧ applyP (tellP s) T = o := by
  have hg := good_of_cut h.cut h.long
  refine ⟨hg, ?_⟩
  have e := h.act
  rw [actA_apply _ hg.one] at e
  simpa using congrArg Prod.fst e

theorem lenP_unit (d : Bool) (n : Nat) : lenP (unitK d n) = (n : Int) := by cases d <;> simp [lenP, unitK]
theorem made_unit (d : Bool) (n : Nat) (x : List UInt8) : madeP (unitK d (n + 1), x) = if d then [] else x := by
  cases d <;> simp [madeP, unitK]
theorem apply_unit (d : Bool) (n : Nat) (ps : List Pt) (r : List UInt8) : applyP (unitK d (n + 1) :: ps) r = (if d then [] else r.take (n + 1)) ++ applyP ps (r.drop (n + 1)) := by
  rw [apply_cons, made_unit, lenP_unit]; rfl
/-- What is left behind a cut. -/
structure Left (X : List Pt) (r : List UInt8) : Prop where
  one : ∀ p ∈ X, oneP p
  long : longP X = r.length
  al : al X r
theorem Left.good {X : List Pt} {r : List UInt8} (h : Left X r) : good X r := ⟨h.one, h.long, h.al⟩
theorem left_cons {p : Pt} {ps : List Pt} {r : List UInt8} (h : Left (p :: ps) r) : Left ps (r.drop (lenP p).toNat) ∧ V p.put ∧ V (r.take (lenP p).toNat) ∧ (lenP p).toNat ≤ r.length := by
  have hl := h.long
  rw [long_cons] at hl
  have h0 := long_pos fun q hq => h.one q (List.mem_cons_of_mem _ hq)
  have h1 := one_len (h.one p (by simp))
  exact ⟨⟨fun q hq => h.one q (by simp [hq]), by rw [List.length_drop]; omega, h.al.2.2⟩, h.al.1, h.al.2.1, by omega⟩
end Go.Proofs.YtfedgjnhanlmeabGreatDoor

namespace Go.Proofs.YtfedgjnhanlmeabGreatDoor
set_option linter.unusedVariables false

theorem apply_len : ∀ (ps : List Pt) (t : List UInt8), Left ps t → ((applyP ps t).length : Int) = (ps.map isP).sum
  | [], t, _ => rfl
  | p :: ps, t, h => by
    obtain ⟨hl, _, _, hlen⟩ := left_cons h
    have ih := apply_len ps _ hl
    rw [List.map_cons, List.sum_cons, ← ih]
    rcases one_cases (h.one p (by simp)) with ⟨u, hu, rfl⟩ | ⟨d, m, rfl⟩
    · rw [apply_put, List.length_append]; simp [isP, lenP]
    · rw [lenP_unit] at hlen ⊢
      have e2 : ((m + 1 : Nat) : Int).toNat = m + 1 := by omega
      rw [e2] at hlen ⊢
      rw [apply_unit, List.length_append]
      cases d with
      | true => simp [isP, unitK]
      | false =>
        rw [if_neg (by decide), List.length_take]
        simp only [isP, unitK, List.length_nil, Bool.false_eq_true, if_false]
        omega
theorem good.left {ps : List Pt} {t : List UInt8} (h : good ps t) : Left ps t := ⟨h.one, h.long, h.al⟩

theorem puts_norm {ps : List Pt} (h : ∀ p ∈ ps, 0 ≤ p.keep ∧ 0 ≤ p.drop) : putsP (normP ps) = putsP ps := by
  have ok : ActP (fun (x : Nat) (p : Pt) => x + p.put.length) := by
    constructor
    · intro x; simp
    · intro x u v; simp; omega
    · intro x a b _ _; simp
    · intro x a b _ _; simp
    · intro x k d u; simp
    · intro x d u; simp
  have key : ∀ (l : List Pt) (x : Nat), l.foldl (fun x p => x + p.put.length) x = x + putsP l := by
    intro l
    induction l with
    | nil => intro x; simp [putsP]
    | cons p l ih => intro x; rw [List.foldl_cons, ih]; simp [putsP]; omega
  have e := act_norm ok ps h 0
  rw [key, key] at e
  omega
theorem puts_append (a b : List Pt) : putsP (a ++ b) = putsP a + putsP b := by simp [putsP]
end Go.Proofs.YtfedgjnhanlmeabGreatDoor

namespace Go.Proofs.YtfedgjnhanlmeabGreatDoor
open Go.RowKit
set_option linter.unusedVariables false
attribute [local go_sem] Oper.semAt_some

/-- An operation held in box a, its row behind it. -/
structure outAt (w : World) (a : Nat) (l : List Pt) : Prop where
  out : ∃ p c, w.cell? ⟨a, 0, none⟩ = some (.slice p l.length c) ∧ w.ownsRow (a + 1) 50 3 (.slice p l.length c) l.length (cellsP l)
  outF : w.frozen? ⟨a, 0, none⟩ = false
theorem outAt_lt {w : World} {a : Nat} {l : List Pt} (h : outAt w a l) : a < w.heap.size := by obtain ⟨⟨p, c, h1, _⟩, _⟩ := h; exact World.block_lt_of_cell? w _ h1
theorem outAt_push {w w1 : World} {a : Nat} {l : List Pt} {p : Option Addr} {c : Nat} {o : Obj} {v' : Value} {q : Pt} (h : outAt w a l) (hc : w.cell? ⟨a, 0, none⟩ = some (.slice p l.length c))
    (hown1 : w1.ownsRow (a + 1) 50 3 v' (l.length + 1) (cellsP l ++ partCells q)) (hg : (w.alloc o).grownBy w1 (Value.slice p l.length c).ownBlock) :
    outAt (w1.setCell ⟨a, 0, none⟩ v') a (l ++ [q]) ∧ Below a w (w1.setCell ⟨a, 0, none⟩ v') ∧ w1.cell? ⟨a, 0, none⟩ = some (.slice p l.length c) ∧ w1.frozen? ⟨a, 0, none⟩ = false := by
  have hlt := outAt_lt h
  obtain ⟨⟨p1, c1, h1, h2⟩, h3⟩ := h
  rw [hc] at h1
  simp only [Option.some.injEq, Value.slice.injEq, true_and] at h1
  obtain ⟨rfl, rfl⟩ := h1
  have hrow : ∀ k, (Value.slice p l.length c).ownBlock = some k → a + 1 ≤ k := fun k hk => (h2.lt k hk).1
  have hb1 : Below (a + 1) w w1 := ((Below.refl (a + 1) w).alloc (by omega) o).grown hg (by rw [World.size_alloc]; omega) hrow
  have hc1 : w1.cell? ⟨a, 0, none⟩ = some (.slice p l.length c) := by rw [hb1.cell (p := ⟨a, 0, none⟩) (by show a < _; omega)]; exact hc
  have hf1 : w1.frozen? ⟨a, 0, none⟩ = false := by rw [hb1.frozen (p := ⟨a, 0, none⟩) (by show a < _; omega)]; exact h3
  obtain ⟨pv, cv, rfl⟩ := own_slice hown1
  refine ⟨⟨⟨pv, cv, ?_, ?_⟩, ?_⟩, (hb1.mono (show a ≤ a + 1 by omega)).setCell (Nat.le_refl _) _, hc1, hf1⟩
  · show _ = some (Value.slice pv (l ++ [q]).length cv)
    rw [List.length_append]; exact World.cell?_setCell_same _ _ _ hc1
  · show World.ownsRow _ _ _ _ (.slice pv (l ++ [q]).length cv) (l ++ [q]).length (cellsP (l ++ [q]))
    rw [List.length_append, cellsP_snoc]; exact own_set hown1 (by omega) _
  · rw [World.frozen?_setCell]; exact hf1

def keepO (k : Int) : List Pt := if 0 < k then [⟨k, 0, []⟩] else []
def putO (u : List UInt8) : List Pt := if u ≠ [] then [⟨0, 0, u⟩] else []

set_option maxRecDepth 100000 in
set_option maxHeartbeats 1000000 in
theorem tKeep_any (a : Nat) (l : List Pt) (k : Int) (w : World) (h : outAt w a l) (hlen : l.length < 1000000000) :
    Calls Tryz.prog 182 #[.int .i64 k, .pointer (some ⟨a, 0, none⟩)] w fun e w' => (∃ v, e = .returned v) ∧ outAt w' a (l ++ keepO k) ∧ Below a w w' := by
  obtain ⟨i0, hi, hz0, hz1, hz2⟩ := info_parts info_part
  have hlt := outAt_lt h
  have H0 : Hid (outAt w a l) := h
  obtain ⟨⟨p, c, h1, h2⟩, h3⟩ := h
  have HO : Hid (w.ownsRow (a + 1) 50 3 (.slice p l.length c) l.length (cellsP l)) := h2
  have HC : Hid (w.cell? ⟨a, 0, none⟩ = some (.slice p l.length c)) := h1
  clear h2
  by_cases hk : 0 < k
  · have hkO : keepO k = [⟨k, 0, []⟩] := if_pos hk
    rw [hkO]
    clear hkO
    go_enter Tryz.func182, Tryz.ntmps182
    go_wp2_with (first | (at_builtin; refine wpList_append_own _ rfl _ _ 23 rfl (a + 1) 50 i0 (.agg #[.int .i64 0, .int .i64 0, .string ⟨#[]⟩]) 3 32 Tryz.underlying23 hi hz0 hz1 hz2 rfl (by decide) _ _ _ rfl (HO.out.alloc _) ⟨w.heap.size, 0, none⟩ 1 1 (partCells ⟨k, 0, []⟩) rfl rfl (cells_new _ _ _) (partCells_one _) (by unfold maxLen; omega) (by omega) (by first | omega | (simp; omega)) ?_) | fail)
    intro v1 w1 hown1 hg1 _
    have P1 := outAt_push (q := ⟨k, 0, []⟩) H0.out HC.out hown1 hg1
    obtain ⟨p1, q1, hv1⟩ := own_slice hown1
    rw [hv1] at P1 hown1 ⊢
    obtain ⟨G1, B1, r1, r2⟩ := P1
    have HG1 : Hid (outAt (w1.setCell ⟨a, 0, none⟩ (.slice p1 (l.length + 1) q1)) a (l ++ [⟨k, 0, []⟩])) := G1
    have HB1 : Hid (Below a w (w1.setCell ⟨a, 0, none⟩ (.slice p1 (l.length + 1) q1))) := B1
    clear h1 h3 G1 B1 hown1 hg1 hv1
    go_wp2
    go_end0
    exact ⟨⟨_, rfl⟩, HG1.out, HB1.out⟩
  · have hkO : keepO k = [] := if_neg hk
    rw [hkO, List.append_nil]
    clear hkO
    go_enter Tryz.func182, Tryz.ntmps182
    go_wp2
    go_end0
    exact ⟨⟨_, rfl⟩, H0.out, .refl _ _⟩
set_option maxRecDepth 100000 in
set_option maxHeartbeats 1000000 in
theorem tPut_any (a : Nat) (l : List Pt) (u : List UInt8) (w : World) (h : outAt w a l) (hlen : l.length < 1000000000) :
    Calls Tryz.prog 183 #[.string ⟨u.toArray⟩, .pointer (some ⟨a, 0, none⟩)] w fun e w' => (∃ v, e = .returned v) ∧ outAt w' a (l ++ putO u) ∧ Below a w w' := by
  obtain ⟨i0, hi, hz0, hz1, hz2⟩ := info_parts info_part
  have hlt := outAt_lt h
  have H0 : Hid (outAt w a l) := h
  obtain ⟨⟨p, c, h1, h2⟩, h3⟩ := h
  have HO : Hid (w.ownsRow (a + 1) 50 3 (.slice p l.length c) l.length (cellsP l)) := h2
  have HC : Hid (w.cell? ⟨a, 0, none⟩ = some (.slice p l.length c)) := h1
  clear h2
  by_cases hk : u ≠ []
  · have hkO : putO u = [⟨0, 0, u⟩] := if_pos hk
    have hpe : u.isEmpty = false := by simpa using hk
    rw [hkO]
    clear hkO
    go_enter Tryz.func183, Tryz.ntmps183
    go_wp2_with (first | (at_builtin; refine wpList_append_own _ rfl _ _ 23 rfl (a + 1) 50 i0 (.agg #[.int .i64 0, .int .i64 0, .string ⟨#[]⟩]) 3 32 Tryz.underlying23 hi hz0 hz1 hz2 rfl (by decide) _ _ _ rfl (HO.out.alloc _) ⟨w.heap.size, 0, none⟩ 1 1 (partCells ⟨0, 0, u⟩) rfl rfl (cells_new _ _ _) (partCells_one _) (by unfold maxLen; omega) (by omega) (by first | omega | (simp; omega)) ?_) | fail)
    intro v1 w1 hown1 hg1 _
    have P1 := outAt_push (q := ⟨0, 0, u⟩) H0.out HC.out hown1 hg1
    obtain ⟨p1, q1, hv1⟩ := own_slice hown1
    rw [hv1] at P1 hown1 ⊢
    obtain ⟨G1, B1, r1, r2⟩ := P1
    have HG1 : Hid (outAt (w1.setCell ⟨a, 0, none⟩ (.slice p1 (l.length + 1) q1)) a (l ++ [⟨0, 0, u⟩])) := G1
    have HB1 : Hid (Below a w (w1.setCell ⟨a, 0, none⟩ (.slice p1 (l.length + 1) q1))) := B1
    clear h1 h3 G1 B1 hown1 hg1 hv1
    go_wp2
    go_end0
    exact ⟨⟨_, rfl⟩, HG1.out, HB1.out⟩
  · have hkO : putO u = [] := if_neg hk
    have hu : u = [] := Classical.not_not.1 hk
    subst hu
    rw [hkO, List.append_nil]
    clear hkO hk
    go_enter Tryz.func183, Tryz.ntmps183
    go_wp2
    go_end0
    exact ⟨⟨_, rfl⟩, H0.out, .refl _ _⟩
end Go.Proofs.YtfedgjnhanlmeabGreatDoor
