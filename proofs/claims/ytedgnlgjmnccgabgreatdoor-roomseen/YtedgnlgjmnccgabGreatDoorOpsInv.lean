/-
  ops.Invert: what takes back what an operation made of a text.
-/
import Derived.Test.YtedgnlgjmnccgabGreatDoorOpsApp
namespace Go.Proofs.YtedgnlgjmnccgabGreatDoor
open Go.RowKit
set_option linter.unusedVariables false
attribute [local go_sem] Oper.semAt_some

theorem add_bd {M : Nat} (a : Nat) (s : NSt) (p : Pt) (w : World) (h : gath M w a s) {T : Int} {n : Nat} (hB : Bd s T n) (hp : soundP p) (hT : T + wtP p < 1000000000) (hn : n < 10000000) :
    Calls Tryz.prog 265 #[partV p, .pointer (some ⟨a + 1, 0, none⟩), .pointer (some ⟨a + 2, 0, none⟩), .pointer (some ⟨a + 3, 0, none⟩), .pointer (some ⟨a, 0, none⟩)] w fun e w' => (∃ v, e = .returned v) ∧ gath M w' a (addP s p) ∧ BelowG M a w w' := by
  have h1 := hB.put
  have h2 := hB.d0
  have h3 := hB.dT
  have h4 := hB.len
  obtain ⟨p1, p2⟩ := hp
  unfold wtP at hT
  exact add_anyG a s p w h (by omega) h2 (by omega) p2 p1 (by omega) (fun q hq => by have := hB.keep q hq; omega) (by omega)

theorem gath_put {A B : World} {a n : Nat} {s : NSt} {r : Loop} (h : gath (a + 4) A a s) (hn : A.heap[n]? = some (.loop r)) (ha : a + 3 < n) (hp : Put1 n A B) : gath (a + 4) B a s := by
  have hM := h.le
  have hT := h.top
  obtain ⟨⟨p, c, h1, h2⟩, h3, ⟨p', c', h4, h5⟩, h6, h7, h8, h9⟩ := h
  exact ⟨⟨p, c, (hp.cell (by omega)).trans h1, own_put h2 hn hp⟩, (hp.frozen (by omega)).trans h3, ⟨p', c', (hp.cell (by omega)).trans h4, own_put h5 hn hp⟩, (hp.frozen (by omega)).trans h6, (hp.cell (by omega)).trans h7, (hp.frozen (by omega)).trans h8, (hp.cell (by omega)).trans h9, hM, by rw [hp.size]; exact hT⟩

/-- What a round of Invert's loop keeps. -/
structure ivI (w : World) (a β : Nat) (fv v1 v2 : Value) (r : Loop) (st : NSt) (A : World) : Prop where
  below : Below w.heap.size w A
  size : β + 5 ≤ A.heap.size
  g : gath (a + 4) A a st
  h0 : A.heap[β]? = some (.cells #[fv] 342 (0, 0))
  h1 : A.heap[β + 1]? = some (.cells #[v1] 23 (0, 0))
  h2 : A.heap[β + 2]? = some (.cells #[v2] 9 (0, 0))
  h3 : A.heap[β + 3]? = some (.deferred (some []))
  h4 : A.heap[β + 4]? = some (.loop r)
theorem ivI.grow {w : World} {a β : Nat} {fv v1 v2 : Value} {r : Loop} {st : NSt} {A B : World} (h : ivI w a β fv v1 v2 r st A) (hb : Below A.heap.size A B) : ivI w a β fv v1 v2 r st B := by
  have hs := h.size
  exact ⟨h.below.trans (hb.mono h.below.size), Nat.le_trans hs hb.size, gath_below h.g hb, (hb.block β (by omega)).trans h.h0, (hb.block (β + 1) (by omega)).trans h.h1, (hb.block (β + 2) (by omega)).trans h.h2, (hb.block (β + 3) (by omega)).trans h.h3, (hb.block (β + 4) (by omega)).trans h.h4⟩
theorem ivI.put {w : World} {a β : Nat} {fv v1 v2 : Value} {r r' : Loop} {st : NSt} {A B : World} (h : ivI w a β fv v1 v2 r st A) (hw : w.heap.size ≤ β) (ha : a + 4 ≤ β) (hp : Put1 (β + 4) A B) (hl : B.heap[β + 4]? = some (.loop r')) : ivI w a β fv v1 v2 r' st B :=
  ⟨h.below.trans (hp.below (by omega)), by rw [hp.size]; exact h.size, gath_put h.g h.h4 (by omega) hp, (hp.block β (by omega)).trans h.h0, (hp.block (β + 1) (by omega)).trans h.h1, (hp.block (β + 2) (by omega)).trans h.h2, (hp.block (β + 3) (by omega)).trans h.h3, hl⟩
theorem ivI.kept {w : World} {a β : Nat} {fv v1 v2 : Value} {r : Loop} {st st' : NSt} {A B : World} (h : ivI w a β fv v1 v2 r st A) (h' : ivI w a β fv v1 v2 r st' B) (hs : A.heap.size ≤ B.heap.size) :
    Same2 (β + 3) A B ∧ A.heap.size ≤ B.heap.size ∧ ∀ (x : Nat), x = β + 1 ∨ x = β + 1 + 1 ∨ x < w.heap.size → B.heap[x]? = A.heap[x]? := by
  refine ⟨⟨h'.h3.trans h.h3.symm, h'.h4.trans h.h4.symm⟩, hs, ?_⟩
  rintro x (rfl | rfl | hx)
  · exact h'.h1.trans h.h1.symm
  · exact h'.h2.trans h.h2.symm
  · exact (h'.below.block x hx).trans (h.below.block x hx).symm

end Go.Proofs.YtedgnlgjmnccgabGreatDoor
