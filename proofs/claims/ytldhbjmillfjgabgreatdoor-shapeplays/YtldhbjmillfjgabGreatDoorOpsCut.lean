/-
  ops.cut: so much off an operation's first part; the operation's own row is written.
-/
import Derived.Test.YtldhbjmillfjgabGreatDoorOpsRefChk
import Derived.Test.YtldhbjmillfjgabGreatDoorOpsLens
import Derived.Test.YtldhbjmillfjgabGreatDoorOpsRefGather
import Derived.Test.YtldhbjmillfjgabGreatDoorOpsInv
import Derived.Test.YtldhbjmillfjgabGreatDoorOpsSide
namespace Go.Proofs.YtldhbjmillfjgabGreatDoor
open Go.RowKit
set_option linter.unusedVariables false
attribute [local go_sem] Oper.semAt_some

/-- Every block but g that was there stands. -/
structure ButO (g : Nat) (w w' : World) : Prop where
  os : w'.os = w.os
  tape : w'.tape = w.tape
  output : w'.output = w.output
  size : w.heap.size ≤ w'.heap.size
  block : ∀ k, k < w.heap.size → k ≠ g → w'.heap[k]? = w.heap[k]?
theorem ButO.of {g : Nat} {w w' : World} (h : Below w.heap.size w w') : ButO g w w' := ⟨h.os, h.tape, h.output, h.size, fun k hk _ => h.block k hk⟩
theorem ButO.refl (g : Nat) (w : World) : ButO g w w := .of (.refl _ _)
theorem ButO.trans {g : Nat} {a b c : World} (h : ButO g a b) (k : ButO g b c) : ButO g a c :=
  ⟨k.os.trans h.os, k.tape.trans h.tape, k.output.trans h.output, Nat.le_trans h.size k.size, fun i hi hg => (k.block i (Nat.lt_of_lt_of_le hi h.size) hg).trans (h.block i hi hg)⟩
theorem ButO.below {g B : Nat} {w w' : World} (h : ButO g w w') (hg : B ≤ g) (hB : B ≤ w.heap.size) : Below B w w' := ⟨h.os, h.tape, h.output, h.size, fun k hk => h.block k (by omega) (by omega)⟩
theorem ButO.set {g : Nat} {a w : World} (h : ButO g a w) (o : Nat) (u : Value) : ButO g a (w.setCell ⟨g, o, none⟩ u) :=
  h.trans ⟨rfl, rfl, rfl, by simp [World.setCell], fun k _ hk => Below.heap_setCell _ _ _ _ (by show k ≠ g; exact hk)⟩
theorem ButO.drew {g : Nat} {a w : World} (h : ButO g a w) : ButO g a w.drew := h.trans ⟨rfl, rfl, rfl, Nat.le_refl _, fun _ _ _ => rfl⟩

end Go.Proofs.YtldhbjmillfjgabGreatDoor
