/-
  The same, where one block of the call's own is written meanwhile: operations that yield one value in every world that has grown but for that block are taken first.
-/
import Derived.Test.YtedgnlgjmnccgabGreatDoorClone
namespace Go.Proofs.YtedgnlgjmnccgabGreatDoor
open Go.RowKit
set_option linter.unusedVariables false

/-- All blocks but B lie as they lay; new ones may have come. -/
structure But (B : Nat) (A A' : World) : Prop where
  os : A'.os = A.os
  tape : A'.tape = A.tape
  output : A'.output = A.output
  size : A.heap.size ≤ A'.heap.size
  block : ∀ k, k < A.heap.size → k ≠ B → A'.heap[k]? = A.heap[k]?
theorem But.refl (B : Nat) (A : World) : But B A A := ⟨rfl, rfl, rfl, Nat.le_refl _, fun _ _ _ => rfl⟩
theorem But.trans {B : Nat} {a b c : World} (h : But B a b) (k : But B b c) : But B a c :=
  ⟨k.os.trans h.os, k.tape.trans h.tape, k.output.trans h.output, Nat.le_trans h.size k.size, fun i h1 h2 => (k.block i (Nat.lt_of_lt_of_le h1 h.size) h2).trans (h.block i h1 h2)⟩
theorem But.of_below {B : Nat} {A A' : World} (h : Below A.heap.size A A') : But B A A' := ⟨h.os, h.tape, h.output, h.size, fun k h1 _ => h.block k h1⟩
theorem But.setCell {B : Nat} {A W : World} (h : But B A W) {p : Addr} (hp : p.block = B) (v : Value) : But B A (W.setCell p v) :=
  h.trans ⟨rfl, rfl, rfl, by simp [World.setCell], fun k _ h2 => Below.heap_setCell W p v k (by rw [hp]; exact h2)⟩
theorem But.below {B : Nat} {A A' : World} (h : But B A A') (hB : B ≤ A.heap.size) : Below B A A' := ⟨h.os, h.tape, h.output, h.size, fun k hk => h.block k (by omega) (by omega)⟩
theorem But.cell {B : Nat} {A A' : World} (h : But B A A') {b o : Nat} {v : Value} (hb : b ≠ B) (hc : A.cell? ⟨b, o, none⟩ = some v) : A'.cell? ⟨b, o, none⟩ = some v :=
  (World.cell?_of_block (w := A) (a := ⟨b, o, none⟩) (h.block b (World.block_lt_of_cell? A _ hc) hb)).trans hc
/-- G gives just the worlds that are W but for B, and what is new. -/
structure GrowB (B : Nat) (W : World) (G : World → World) : Prop where
  but : ∀ x, But B W (G x)
  onto : ∀ w, But B W w → G w = w
theorem GrowB.cell {B : Nat} {W : World} {G : World → World} (hG : GrowB B W G) {b o : Nat} {v : Value} (hb : b ≠ B) (h : W.cell? ⟨b, o, none⟩ = some v) : ∀ x, (G x).cell? ⟨b, o, none⟩ = some v :=
  fun x => (hG.but x).cell hb h

section
variable {P : Program} {ops : Array Oper} {md : Region.Mode} {m B : Nat} {W0 : World} {Q : Exit → Act → World → Prop}

end
end Go.Proofs.YtedgnlgjmnccgabGreatDoor
