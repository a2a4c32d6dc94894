/-
  A region that draws its order, whose operations only read and whose callees only make new memory: one walk of the text's order serves every order.
  The class of worlds: all that have grown out of W and left everything in it as it was.
-/
import Derived.WalkKit
import Derived.BigQuiet
namespace Go.Proofs.Ytiokdpjoinbcaaa
open Go.RowKit Classical

/-- A world that has grown out of W: x where x has, else W itself. -/
noncomputable def beyond (W x : World) : World := if Below W.heap.size W x then x else W

theorem beyond_below (W x : World) : Below W.heap.size W (beyond W x) := by
  unfold beyond; split
  · assumption
  · exact Below.refl _ _

theorem beyond_of {W w : World} (h : Below W.heap.size W w) : beyond W w = w := by
  unfold beyond; rw [if_pos h]

theorem beyond_cell {W : World} (x : World) {b : Nat} (o : Nat) (h : b < W.heap.size) : (beyond W x).cell? ⟨b, o, none⟩ = W.cell? ⟨b, o, none⟩ :=
  (beyond_below W x).cell (p := ⟨b, o, none⟩) h

theorem wp_region_grow {P : Program} {id : Nat} {Q : Exit → Act → World → Prop} {a : Act} {w : World} {l : List Oper} (hm : P.follows .mixedOrders = true) (hB : Region.lexB .any l.toArray = true)
    (h : wpQuiet P l.toArray (fun w' => ∃ x, w' = beyond w x) (fun a' => ∀ w', (∃ x, w' = beyond w x) → Q .normal a' w') l a) : (Code.region id l.toArray true).wp P Q a w :=
  wp_region_quiet (C := fun w' => ∃ x, w' = beyond w x) hm hB ⟨w.drew, (beyond_of ((Below.refl _ _).drew)).symm⟩ (by simpa using h)

theorem grow_of {P : Program} {f : FuncId} {args : Array Value} {W x : World} {v : Value}
    (h : Calls P f args (beyond W x) fun e w' => e = .returned v ∧ Below (beyond W x).heap.size (beyond W x) w') : Calls P f args (beyond W x) fun e w'' => e = .returned v ∧ ∃ y, w'' = beyond W y :=
  h.mono fun _ w' ⟨he, hb⟩ => ⟨he, w', (beyond_of ((beyond_below W x).trans (hb.mono (beyond_below W x).size))).symm⟩

end Go.Proofs.Ytiokdpjoinbcaaa
