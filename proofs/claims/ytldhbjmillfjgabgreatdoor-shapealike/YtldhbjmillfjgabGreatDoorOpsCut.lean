/-
  ops.cut: so much off an operation's first part; the operation's own row is written.
-/
import Derived.Test.YtldhbjmillfjgabGreatDoorOpsCheckLaw
import Derived.Test.YtldhbjmillfjgabGreatDoorOpsInv
import Derived.Test.YtldhbjmillfjgabGreatDoorOpsSide
namespace Go.Proofs.YtldhbjmillfjgabGreatDoor
open Go.RowKit
set_option linter.unusedVariables false
attribute [local go_sem] Oper.semAt_some

/-- Every block but g that was there stands. -/
structure ButO (g : Nat) (w w' : World) : Prop where
  os : w'.os = w.os
  tape : w'.tape = w.tape
  output : w'.output = w.output
  size : w.heap.size ≤ w'.heap.size
  block : ∀ k, k < w.heap.size → k ≠ g → w'.heap[k]? = w.heap[k]?
theorem ButO.of {g : Nat} {w w' : World} (h : Below w.heap.size w w') : ButO g w w' := ⟨h.os, h.tape, h.output, h.size, fun k hk _ => h.block k hk⟩
theorem ButO.refl (g : Nat) (w : World) : ButO g w w := .of (.refl _ _)
theorem ButO.trans {g : Nat} {a b c : World} (h : ButO g a b) (k : ButO g b c) : ButO g a c :=
  ⟨k.os.trans h.os, k.tape.trans h.tape, k.output.trans h.output, Nat.le_trans h.size k.size, fun i hi hg => (k.block i (Nat.lt_of_lt_of_le hi h.size) hg).trans (h.block i hi hg)⟩
theorem ButO.below {g B : Nat} {w w' : World} (h : ButO g w w') (hg : B ≤ g) (hB : B ≤ w.heap.size) : Below B w w' := ⟨h.os, h.tape, h.output, h.size, fun k hk => h.block k (by omega) (by omega)⟩
theorem ButO.set {g : Nat} {a w : World} (h : ButO g a w) (o : Nat) (u : Value) : ButO g a (w.setCell ⟨g, o, none⟩ u) :=
  h.trans ⟨rfl, rfl, rfl, by simp [World.setCell], fun k _ hk => Below.heap_setCell _ _ _ _ (by show k ≠ g; exact hk)⟩
theorem ButO.drew {g : Nat} {a w : World} (h : ButO g a w) : ButO g a w.drew := h.trans ⟨rfl, rfl, rfl, Nat.le_refl _, fun _ _ _ => rfl⟩

/-- A window into block g that may be written: these parts, first to last. -/
def winP (w : World) (g : Nat) (v : Value) (ps : List Pt) : Prop :=
  ∃ p c, v = .slice p ps.length c ∧ ps.length ≤ c ∧ c ≤ maxLen ∧ (ps ≠ [] → ∃ o, p = some ⟨g, o, none⟩ ∧ g < w.heap.size ∧ (∀ j, w.frozen? ⟨g, j, none⟩ = false) ∧ ∀ i q, ps[i]? = some q →
    w.cell? ⟨g, o + i * 3, none⟩ = some (.int .i64 q.keep) ∧ w.cell? ⟨g, o + i * 3 + 1, none⟩ = some (.int .i64 q.drop) ∧ w.cell? ⟨g, o + i * 3 + 2, none⟩ = some (.string ⟨q.put.toArray⟩))
theorem winP_kept {w w' : World} {g : Nat} {v : Value} {ps : List Pt} (h : winP w g v ps) (hs : w.heap.size ≤ w'.heap.size) (hb : g < w.heap.size → w'.heap[g]? = w.heap[g]?) : winP w' g v ps := by
  obtain ⟨p, c, rfl, h1, h2, h3⟩ := h
  refine ⟨p, c, rfl, h1, h2, fun hne => ?_⟩
  obtain ⟨o, e1, e2, e4, e3⟩ := h3 hne
  have hg := hb e2
  refine ⟨o, e1, by omega, fun j => (World.frozen?_of_block (w := w) (a := ⟨g, j, none⟩) hg).trans (e4 j), fun i q hi => ?_⟩
  obtain ⟨f1, f2, f3⟩ := e3 i q hi
  exact ⟨(World.cell?_of_block (w := w) (a := ⟨g, o + i * 3, none⟩) hg).trans f1, (World.cell?_of_block (w := w) (a := ⟨g, o + i * 3 + 1, none⟩) hg).trans f2, (World.cell?_of_block (w := w) (a := ⟨g, o + i * 3 + 2, none⟩) hg).trans f3⟩
theorem winP_below {w w' : World} {g : Nat} {v : Value} {ps : List Pt} (h : winP w g v ps) (hb : Below w.heap.size w w') : winP w' g v ps := winP_kept h hb.size fun hg => hb.block g hg
theorem frozen_of_heap {w : World} {b : Nat} {xs : Array Value} {t : TypeId} (h : w.heap[b]? = some (.cells xs t (0, 0))) (j : Nat) : w.frozen? ⟨b, j, none⟩ = false := by
  simp [World.frozen?, h]
end Go.Proofs.YtldhbjmillfjgabGreatDoor
