/-
  utf.Walk: what its iterator does with the rounds of a loop.
-/
import Derived.Test.YtldhbjmillfjgabGreatDoorLoopOwn
import Derived.Test.YtldhbjmillfjgabGreatDoorForms
import Derived.Test.YtldhbjmillfjgabGreatDoorUtf
import Derived.OwnWalkIn
import Derived.TacticsInMore
import Derived.LoopNIn
import Derived.LoopIn
namespace Go.Proofs.YtldhbjmillfjgabGreatDoor
open Go.RowKit

/-- A round keeps all blocks from lo on that there were. -/
structure KeepUp (lo : Nat) (A B : World) : Prop where
  size : A.heap.size ≤ B.heap.size
  same : ∀ k, lo ≤ k → k < A.heap.size → B.heap[k]? = A.heap[k]?
theorem KeepUp.refl (lo : Nat) (A : World) : KeepUp lo A A := ⟨Nat.le_refl _, fun _ _ _ => rfl⟩
theorem KeepUp.trans {lo : Nat} {A B C : World} (h : KeepUp lo A B) (k : KeepUp lo B C) : KeepUp lo A C :=
  ⟨Nat.le_trans h.size k.size, fun i h1 h2 => (k.same i h1 (Nat.lt_of_lt_of_le h2 h.size)).trans (h.same i h1 h2)⟩
theorem KeepUp.setCell {lo : Nat} {A W : World} (h : KeepUp lo A W) {p : Addr} (hp : p.block < lo) (v : Value) : KeepUp lo A (W.setCell p v) :=
  h.trans ⟨by simp [World.setCell], fun k h1 _ => Below.heap_setCell W p v k (by omega)⟩
theorem KeepUp.alloc {lo : Nat} {A W : World} (h : KeepUp lo A W) (o : Obj) : KeepUp lo A (W.alloc o) :=
  h.trans ⟨by simp, fun k _ h2 => Below.heap_alloc W o k h2⟩
theorem KeepUp.drew {lo : Nat} {A W : World} (h : KeepUp lo A W) : KeepUp lo A W.drew := h.trans ⟨Nat.le_refl _, fun _ _ _ => rfl⟩
theorem KeepUp.counted {lo : Nat} {A B : World} (h : KeepUp lo A B) {a : Nat} {n1 n2 n3 n4 : Int} (ha : lo ≤ a) (hc : counted A a n1 n2 n3 n4) : counted B a n1 n2 n3 n4 := by
  have hb := h.same a ha (counted_lt hc)
  have e1 : ∀ i, B.cell? ⟨a, i, none⟩ = A.cell? ⟨a, i, none⟩ := fun i => World.cell?_of_block (w := A) (a := ⟨a, i, none⟩) hb
  have e2 : ∀ i, B.frozen? ⟨a, i, none⟩ = A.frozen? ⟨a, i, none⟩ := fun i => World.frozen?_of_block (w := A) (a := ⟨a, i, none⟩) hb
  unfold Go.Proofs.YtldhbjmillfjgabGreatDoor.counted
  rw [e1, e1, e1, e1, e2, e2, e2, e2]
  exact hc
theorem KeepUp.cell {lo : Nat} {A B : World} (h : KeepUp lo A B) {a i : Nat} {v : Value} (ha : lo ≤ a) (hc : A.cell? ⟨a, i, none⟩ = some v) : B.cell? ⟨a, i, none⟩ = some v := by
  have hb := h.same a ha (World.block_lt_of_cell? A _ hc)
  exact (World.cell?_of_block (w := A) (a := ⟨a, i, none⟩) hb).trans hc

attribute [local go_sem] Oper.semAt_some

end Go.Proofs.YtldhbjmillfjgabGreatDoor
