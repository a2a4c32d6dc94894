/-
  A range over an iterator that keeps state in cells of its own: the statement's law, over what the iterator may turn between two rounds and what a round keeps, both the user's choice.
-/
import Derived.RangeFuncNested
import Derived.RangeFuncBound
import Derived.RangeFuncCalls
import Derived.RangeFuncLeaves
import Derived.WalkKit
namespace Go.Proofs.YtldhbjmillfjgabGreatDoor
open Go.RowKit

/-- The loop's two blocks of book-keeping lie as they lay. -/
structure Same2 (n : Nat) (W W' : World) : Prop where
  a : W'.heap[n]? = W.heap[n]?
  b : W'.heap[n + 1]? = W.heap[n + 1]?
theorem Same2.refl (n : Nat) (W : World) : Same2 n W W := ⟨rfl, rfl⟩
theorem Same2.trans {n : Nat} {A B C : World} (h : Same2 n A B) (k : Same2 n B C) : Same2 n A C := ⟨k.a.trans h.a, k.b.trans h.b⟩
theorem Same2.setCell {n : Nat} {A W : World} (h : Same2 n A W) {p : Addr} (h1 : p.block ≠ n) (h2 : p.block ≠ n + 1) (v : Value) : Same2 n A (W.setCell p v) :=
  ⟨(Below.heap_setCell W p v n (fun e => h1 e.symm)).trans h.a, (Below.heap_setCell W p v (n + 1) (fun e => h2 e.symm)).trans h.b⟩
theorem Same2.alloc {n : Nat} {A W : World} (h : Same2 n A W) (hn : n + 2 ≤ W.heap.size) (o : Obj) : Same2 n A (W.alloc o) :=
  ⟨(Below.heap_alloc W o n (by omega)).trans h.a, (Below.heap_alloc W o (n + 1) (by omega)).trans h.b⟩
theorem Same2.drew {n : Nat} {A W : World} (h : Same2 n A W) : Same2 n A W.drew := ⟨h.a, h.b⟩

/-- All blocks but one lie as they lay. -/
structure Put1 (n : Nat) (A B : World) : Prop where
  os : B.os = A.os
  tape : B.tape = A.tape
  output : B.output = A.output
  size : B.heap.size = A.heap.size
  block : ∀ k, k ≠ n → B.heap[k]? = A.heap[k]?
theorem Put1.below {n B : Nat} {A A' : World} (h : Put1 n A A') (hB : B ≤ n) : Below B A A' := ⟨h.os, h.tape, h.output, Nat.le_of_eq h.size.symm, fun k hk => h.block k (by omega)⟩
theorem Put1.cell {n : Nat} {A A' : World} (h : Put1 n A A') {b o : Nat} (hb : b ≠ n) : A'.cell? ⟨b, o, none⟩ = A.cell? ⟨b, o, none⟩ := World.cell?_of_block (w := A) (a := ⟨b, o, none⟩) (h.block b hb)
theorem Put1.frozen {n : Nat} {A A' : World} (h : Put1 n A A') {b o : Nat} (hb : b ≠ n) : A'.frozen? ⟨b, o, none⟩ = A.frozen? ⟨b, o, none⟩ := World.frozen?_of_block (w := A) (a := ⟨b, o, none⟩) (h.block b hb)

end Go.Proofs.YtldhbjmillfjgabGreatDoor
