/-
  A region that draws its order, whose operations only read and whose callees only make new memory: one walk of the text's order serves every order; outside a loop's round, and within one.
  The class of worlds: all that have grown out of W and left everything in it as it was: what a function G gives.
-/
import Derived.WalkKit
import Derived.BigQuiet
import Derived.OrdersIn
import Derived.CallsIn
import Derived.TacticsIn
import Derived.RangeFuncCalls
namespace Go.Proofs.YtedgnlgjmnccgabGreatDoor
open Go.RowKit

/-- G gives just the worlds that have grown out of W. -/
structure Growth (W : World) (G : World → World) : Prop where
  below : ∀ x, Below W.heap.size W (G x)
  onto : ∀ w, Below W.heap.size W w → G w = w

open Classical in
theorem exists_growth (W : World) : ∃ G, Growth W G :=
  ⟨fun x => if Below W.heap.size W x then x else W, fun x => by
    show Below W.heap.size W (if Below W.heap.size W x then x else W)
    split
    · assumption
    · exact Below.refl _ _, fun w h => if_pos h⟩

theorem Growth.cell {W : World} {G : World → World} (hG : Growth W G) {b o : Nat} {v : Value} (h : W.cell? ⟨b, o, none⟩ = some v) : ∀ x, (G x).cell? ⟨b, o, none⟩ = some v :=
  fun x => ((hG.below x).cell (p := ⟨b, o, none⟩) (World.block_lt_of_cell? W _ h)).trans h

section
variable {P : Program} {ops : Array Oper} {md : Region.Mode} {C : World → Prop} {l0 n : Nat}

/-- No operation defers a call. -/
def noDefer : List Oper → Bool
  | [] => true
  | o :: l => (match o.op with | .defer _ => false | _ => true) && noDefer l
theorem noDefer_at : ∀ {l : List Oper}, noDefer l = true → ∀ (i : Nat) (o : Oper), l[i]? = some o → ∀ c, o.op ≠ .defer c
  | [], _, i, o, hi => by simp at hi
  | o' :: l, h, i, o, hi => by
    rw [noDefer, Bool.and_eq_true] at h
    cases i with
    | zero =>
      simp at hi
      subst hi
      intro c e
      rw [e] at h
      exact absurd h.1 (by simp)
    | succ i => exact noDefer_at h.2 i o (by simpa using hi)

end

end Go.Proofs.YtedgnlgjmnccgabGreatDoor
