/-
  A region that draws its order, whose operations only read and whose callees only make new memory: one walk of the text's order serves every order.
  The class of worlds: all that have grown out of W and left everything in it as it was: what a function G gives.
-/
import Derived.WalkKit
import Derived.BigQuiet
namespace Go.Proofs.Ytiokdpjoinbcaaa
open Go.RowKit

/-- G gives just the worlds that have grown out of W. -/
structure Growth (W : World) (G : World → World) : Prop where
  below : ∀ x, Below W.heap.size W (G x)
  onto : ∀ w, Below W.heap.size W w → G w = w

open Classical in
theorem exists_growth (W : World) : ∃ G, Growth W G :=
  ⟨fun x => if Below W.heap.size W x then x else W, fun x => by
    show Below W.heap.size W (if Below W.heap.size W x then x else W)
    split
    · assumption
    · exact Below.refl _ _, fun w h => if_pos h⟩

theorem wp_region_grow {P : Program} {id : Nat} {Q : Exit → Act → World → Prop} {a : Act} {w : World} {l : List Oper} {G : World → World} (hG : Growth w G) (hm : P.follows .mixedOrders = true) (hB : Region.lexB .any l.toArray = true)
    (h : wpQuiet P l.toArray (fun w' => ∃ x, w' = G x) (fun a' => ∀ w', (∃ x, w' = G x) → Q .normal a' w') l a) : (Code.region id l.toArray true).wp P Q a w :=
  wp_region_quiet (C := fun w' => ∃ x, w' = G x) hm hB ⟨w.drew, (hG.onto _ ((Below.refl _ _).drew)).symm⟩ (by simpa using h)

theorem grow_of {P : Program} {f : FuncId} {args : Array Value} {W x : World} {G : World → World} (hG : Growth W G) {v : Value}
    (h : Calls P f args (G x) fun e w' => e = .returned v ∧ Below (G x).heap.size (G x) w') : Calls P f args (G x) fun e w'' => e = .returned v ∧ ∃ y, w'' = G y :=
  h.mono fun _ w' ⟨he, hb⟩ => ⟨he, w', (hG.onto _ ((hG.below x).trans (hb.mono (hG.below x).size))).symm⟩

end Go.Proofs.Ytiokdpjoinbcaaa
