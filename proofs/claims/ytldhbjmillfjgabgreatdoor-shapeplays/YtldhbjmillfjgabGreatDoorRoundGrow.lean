/-
  A region that draws its order, whose operations only read and whose callees only make new memory: one walk of the text's order serves every order; outside a loop's round, and within one.
  The class of worlds: all that have grown out of W and left everything in it as it was: what a function G gives.
-/
import Derived.WalkKit
import Derived.BigQuiet
import Derived.OrdersIn
import Derived.CallsIn
import Derived.TacticsIn
import Derived.RangeFuncCalls
namespace Go.Proofs.YtldhbjmillfjgabGreatDoor
open Go.RowKit

/-- G gives just the worlds that have grown out of W. -/
structure Growth (W : World) (G : World → World) : Prop where
  below : ∀ x, Below W.heap.size W (G x)
  onto : ∀ w, Below W.heap.size W w → G w = w

theorem Growth.cell {W : World} {G : World → World} (hG : Growth W G) {b o : Nat} {v : Value} (h : W.cell? ⟨b, o, none⟩ = some v) : ∀ x, (G x).cell? ⟨b, o, none⟩ = some v :=
  fun x => ((hG.below x).cell (p := ⟨b, o, none⟩) (World.block_lt_of_cell? W _ h)).trans h

section
variable {P : Program} {ops : Array Oper} {md : Region.Mode} {C : World → Prop} {l0 n : Nat}

end

end Go.Proofs.YtldhbjmillfjgabGreatDoor
