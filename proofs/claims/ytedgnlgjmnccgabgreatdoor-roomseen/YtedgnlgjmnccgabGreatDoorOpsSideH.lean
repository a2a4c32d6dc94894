/-
  Side by side: what a round of ops.sideBySide hands on.
-/
import Derived.Test.YtedgnlgjmnccgabGreatDoorOpsSideW
import Derived.Deep.LoopGhost
namespace Go.Proofs.YtedgnlgjmnccgabGreatDoor
open Go.RowKit
set_option linter.unusedVariables false
attribute [local go_sem] Oper.semAt_some

theorem sideI.tail1 {M a g1 g2 o c : Nat} {bx : List (Nat × Obj)} {w : World} {v2 : Value} {p : Pt} {A B : List Pt} {s : NSt} {W W' : World} (h : sideI M a g1 g2 bx w (.slice (some ⟨g1, o, none⟩) (A.length + 1) c) v2 (p :: A) B s W) (hb : Below W.heap.size W W') :
    sideI M a g1 g2 bx w (.slice (some ⟨g1, o + 3, none⟩) A.length (c - 1)) v2 A B s W' ∧ (c = 1 → sideI M a g1 g2 bx w (.slice (some ⟨g1, o, none⟩) A.length 0) v2 A B s W') := by
  obtain ⟨h1, h2⟩ := cut_rest h.r1 hb
  have hg := h.grow hb
  exact ⟨⟨hg.below, hg.g, h1, hg.r2, hg.b⟩, fun hc => ⟨hg.below, hg.g, h2 hc, hg.r2, hg.b⟩⟩
theorem sideI.tail2 {M a g1 g2 o c : Nat} {bx : List (Nat × Obj)} {w : World} {v1 : Value} {p : Pt} {A B : List Pt} {s : NSt} {W W' : World} (h : sideI M a g1 g2 bx w v1 (.slice (some ⟨g2, o, none⟩) (B.length + 1) c) A (p :: B) s W) (hb : Below W.heap.size W W') :
    sideI M a g1 g2 bx w v1 (.slice (some ⟨g2, o + 3, none⟩) B.length (c - 1)) A B s W' ∧ (c = 1 → sideI M a g1 g2 bx w v1 (.slice (some ⟨g2, o, none⟩) B.length 0) A B s W') := by
  obtain ⟨h1, h2⟩ := cut_rest h.r2 hb
  have hg := h.grow hb
  exact ⟨⟨hg.below, hg.g, hg.r1, h1, hg.b⟩, fun hc => ⟨hg.below, hg.g, hg.r1, h2 hc, hg.b⟩⟩
/-- What a round hands on. -/
def sideR (la lb : Pt → Bool) (t : Pt × Pt → List Pt) (M a g1 g2 : Nat) (bx : List (Nat × Obj)) (w : World) (S : NSt) (k : Nat) (u1 u2 : Value) (W : World) : Prop :=
  ∃ A B l s T n, l.length = k ∧ Side la lb A B l ∧ sideI M a g1 g2 bx w u1 u2 A B s W ∧ BdS t l s T n ∧ runS t l s = S
theorem sideR_next {la lb : Pt → Bool} {t : Pt × Pt → List Pt} {M a g1 g2 : Nat} {bx : List (Nat × Obj)} {w : World} {S : NSt} {u1 u2 : Value} {W W' : World} {A B : List Pt} {x : Pt × Pt} {l : List (Pt × Pt)} {s : NSt} {T : Int} {n : Nat}
    (hS : Side la lb A B l) (hI : sideI M a g1 g2 bx w u1 u2 A B s W) (hB : BdS t (x :: l) s T n) (hR : runS t (x :: l) s = S) (hg : gath M W' a ((t x).foldl addP s)) (hb : BelowG M a W W') (ho : boxesOk a g1 g2 bx) (h1 : a + 4 ≤ g1) (h2 : g1 < M) (h3 : a + 4 ≤ g2) (h4 : g2 < M) :
    sideR la lb t M a g1 g2 bx w S l.length u1 u2 W' :=
  ⟨A, B, l, _, _, _, rfl, hS, hI.took hb hg ho h1 h2 h3 h4, hB.tail, hR⟩

theorem box_set {w : World} {b : Nat} {y0 y1 y2 : Value} {T : TypeId} (h : w.heap[b]? = some (.cells #[y0, y1, y2] T (0, 0))) (x0 x1 x2 : Value) :
    (((w.setCell ⟨b, 0, none⟩ x0).setCell ⟨b, 1, none⟩ x1).setCell ⟨b, 2, none⟩ x2).heap[b]? = some (.cells #[x0, x1, x2] T (0, 0)) := by
  simp [World.setCell, Array.getElem?_modify, h]
theorem box_set_ne {w : World} {b k : Nat} {x0 x1 x2 : Value} (h : k ≠ b) : (((w.setCell ⟨b, 0, none⟩ x0).setCell ⟨b, 1, none⟩ x1).setCell ⟨b, 2, none⟩ x2).heap[k]? = w.heap[k]? := by
  rw [Below.heap_setCell _ _ _ _ (by show k ≠ b; exact h), Below.heap_setCell _ _ _ _ (by show k ≠ b; exact h), Below.heap_setCell _ _ _ _ (by show k ≠ b; exact h)]
theorem ButO.above3 {g b : Nat} {w W : World} (h : ButO g w W) (hb : w.heap.size ≤ b) (x0 x1 x2 : Value) : ButO g w (((W.setCell ⟨b, 0, none⟩ x0).setCell ⟨b, 1, none⟩ x1).setCell ⟨b, 2, none⟩ x2) :=
  h.trans' (by simp) (fun k hk => box_set_ne (by omega)) ⟨rfl, rfl, rfl⟩
/-- Every block but g1 and g2 that was there stands. -/
structure But2 (g1 g2 : Nat) (w w' : World) : Prop where
  os : w'.os = w.os
  tape : w'.tape = w.tape
  output : w'.output = w.output
  size : w.heap.size ≤ w'.heap.size
  block : ∀ k, k < w.heap.size → k ≠ g1 → k ≠ g2 → w'.heap[k]? = w.heap[k]?
theorem But2.of1 {g1 g2 : Nat} {w w' : World} (h : ButO g1 w w') : But2 g1 g2 w w' := ⟨h.os, h.tape, h.output, h.size, fun k hk hg _ => h.block k hk hg⟩
theorem But2.cut2 {g1 g2 : Nat} {a b c : World} (h : But2 g1 g2 a b) (k : ButO g2 b c) : But2 g1 g2 a c :=
  ⟨k.os.trans h.os, k.tape.trans h.tape, k.output.trans h.output, Nat.le_trans h.size k.size, fun i hi hg1 hg2 => (k.block i (Nat.lt_of_lt_of_le hi h.size) hg2).trans (h.block i hi hg1 hg2)⟩
theorem But2.above3 {g1 g2 b : Nat} {w W : World} (h : But2 g1 g2 w W) (hb : w.heap.size ≤ b) (x0 x1 x2 : Value) : But2 g1 g2 w (((W.setCell ⟨b, 0, none⟩ x0).setCell ⟨b, 1, none⟩ x1).setCell ⟨b, 2, none⟩ x2) :=
  ⟨h.os, h.tape, h.output, by simpa using h.size, fun k hk e1 e2 => (box_set_ne (by omega)).trans (h.block k hk e1 e2)⟩
theorem sideI.both {M a g1 g2 : Nat} {bx : List (Nat × Obj)} {w : World} {v1 v2 v1' v2' : Value} {A B A' B' : List Pt} {s : NSt} {W W' : World} (h : sideI M a g1 g2 bx w v1 v2 A B s W) (hb : But2 g1 g2 W W') (ho : boxesOk a g1 g2 bx) (h1 : a + 4 ≤ g1) (h2 : g1 < M) (h3 : a + 4 ≤ g2) (h4 : g2 < M) (r1 : winP W' g1 v1' A') (r2 : winP W' g2 v2' B') :
    sideI M a g1 g2 bx w v1' v2' A' B' s W' := by
  have hM := h.g.le
  have hT := h.g.top
  have hlt := gath_lt h.g
  have hbl : Below (a + 4) W W' := ⟨hb.os, hb.tape, hb.output, hb.size, fun k hk => hb.block k (by omega) (by omega) (by omega)⟩
  have own : ∀ {e size n : Nat} {v : Value} {xs : List Value}, W.ownsRow M e size v n xs → W'.ownsRow M e size v n xs := by
    intro e size n v xs h
    obtain ⟨h0, hrow⟩ := h
    refine ⟨h0, ?_⟩
    rcases hrow with hx | ⟨g', cap, cur, rfl, hg, hgg, rest⟩
    · exact .inl hx
    · exact .inr ⟨g', cap, cur, rfl, hg, (hb.block g' (heap_lt hgg) (by omega) (by omega)).trans hgg, rest⟩
  refine ⟨h.below.trans (hbl.mono (by omega)), ?_, r1, r2, fun x hx => (hb.block _ (heap_lt (h.b x hx)) (ho x hx).2.1 (ho x hx).2.2.1).trans (h.b x hx)⟩
  obtain ⟨⟨p, c, h1, h2⟩, h3, ⟨p', c', h4, h5⟩, h6, h7, h8, h9⟩ := h.g
  exact ⟨⟨p, c, (hbl.cell (p := ⟨a, 0, none⟩) (by show a < a + 4; omega)).trans h1, own h2⟩, (hbl.frozen (p := ⟨a, 0, none⟩) (by show a < a + 4; omega)).trans h3,
    ⟨p', c', (hbl.cell (p := ⟨a + 1, 0, none⟩) (by show a + 1 < a + 4; omega)).trans h4, own h5⟩, (hbl.frozen (p := ⟨a + 1, 0, none⟩) (by show a + 1 < a + 4; omega)).trans h6,
    (hbl.cell (p := ⟨a + 2, 0, none⟩) (by show a + 2 < a + 4; omega)).trans h7, (hbl.frozen (p := ⟨a + 2, 0, none⟩) (by show a + 2 < a + 4; omega)).trans h8, (hbl.cell (p := ⟨a + 3, 0, none⟩) (by show a + 3 < a + 4; omega)).trans h9, hM, Nat.le_trans hT hb.size⟩

end Go.Proofs.YtedgnlgjmnccgabGreatDoor
