/-
  Side by side: what the walk keeps.
-/
import Derived.Test.YtldhbjmillfjgabGreatDoorOpsCut
import Derived.Test.YtldhbjmillfjgabGreatDoorOpsTurnP
namespace Go.Proofs.YtldhbjmillfjgabGreatDoor
open Go.RowKit
set_option linter.unusedVariables false
attribute [local go_sem] Oper.semAt_some

/-- What stands beside the walk: boxes. -/
def boxesP (L : List (Nat × Obj)) (w : World) : Prop := ∀ x ∈ L, w.heap[x.1]? = some x.2
/-- What the rounds keep. -/
structure sideI (M a g1 g2 : Nat) (bx : List (Nat × Obj)) (w : World) (v1 v2 : Value) (A B : List Pt) (s : NSt) (W : World) : Prop where
  below : Below a w W
  g : gath M W a s
  r1 : winP W g1 v1 A
  r2 : winP W g2 v2 B
  b : boxesP bx W
theorem sideI.grow {M a g1 g2 : Nat} {bx : List (Nat × Obj)} {w : World} {v1 v2 : Value} {A B : List Pt} {s : NSt} {W W' : World} (h : sideI M a g1 g2 bx w v1 v2 A B s W) (hb : Below W.heap.size W W') : sideI M a g1 g2 bx w v1 v2 A B s W' :=
  ⟨h.below.trans (hb.mono (by have := gath_lt h.g; omega)), gath_below h.g hb, winP_below h.r1 hb, winP_below h.r2 hb, fun x hx => (hb.block _ (heap_lt (h.b x hx))).trans (h.b x hx)⟩
/-- The bounds of what is yet to come. -/
structure BdS (t : Pt × Pt → List Pt) (l : List (Pt × Pt)) (s : NSt) (T : Int) (n : Nat) : Prop where
  bd : Bd s T n
  w : T + wts (l.flatMap t) < 1000000000
  n : n + l.length < 10000000
  sound : ∀ x ∈ l, ∀ p ∈ t x, soundP p
  one : ∀ x ∈ l, (t x).length ≤ 1
theorem Bd.more {s : NSt} {T : Int} {n : Nat} (h : Bd s T n) : Bd s T (n + 1) := ⟨h.put, h.d0, h.dT, h.keep, by have := h.len; omega⟩
theorem BdS.head {t : Pt × Pt → List Pt} {x : Pt × Pt} {l : List (Pt × Pt)} {s : NSt} {T : Int} {n : Nat} (h : BdS t (x :: l) s T n) : (∀ p ∈ t x, soundP p) ∧ T + wts (t x) < 1000000000 ∧ n < 10000000 := by
  refine ⟨h.sound x (by simp), ?_, by have := h.n; simp at this; omega⟩
  have h1 := h.w
  have h2 : 0 ≤ wts (l.flatMap t) := wts_nonneg fun p hp => by
    obtain ⟨y, hy, hp⟩ := List.mem_flatMap.1 hp
    exact h.sound y (by simp [hy]) p hp
  rw [List.flatMap_cons] at h1
  unfold wts at h1 h2 ⊢
  rw [List.map_append, List.sum_append] at h1
  omega
theorem BdS.tail {t : Pt × Pt → List Pt} {x : Pt × Pt} {l : List (Pt × Pt)} {s : NSt} {T : Int} {n : Nat} (h : BdS t (x :: l) s T n) : BdS t l ((t x).foldl addP s) (T + wts (t x)) (n + 1) := by
  refine ⟨?_, ?_, by have := h.n; simp at this; omega, fun y hy => h.sound y (by simp [hy]), fun y hy => h.one y (by simp [hy])⟩
  · have h1 := h.one x (by simp)
    have h2 := h.sound x (by simp)
    generalize t x = L at *
    match L, h1 with
    | [], _ => simpa [wts] using h.bd.more
    | [p], _ =>
      have := h.bd.add p (h2 p (by simp))
      simpa [wts] using this
  · have h1 := h.w
    rw [List.flatMap_cons] at h1
    unfold wts at h1 ⊢
    rw [List.map_append, List.sum_append] at h1
    omega
end Go.Proofs.YtldhbjmillfjgabGreatDoor
