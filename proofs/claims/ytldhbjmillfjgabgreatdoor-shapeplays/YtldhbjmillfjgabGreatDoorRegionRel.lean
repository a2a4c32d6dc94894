/-
  A region that draws its order, whose operations read, and make new memory, and whose last ones store: operations that yield one value in every world that has grown are taken first; the others in every order in which they may come up.
-/
import Derived.Test.YtldhbjmillfjgabGreatDoorRoundGrow
import Derived.RegionTactic
namespace Go.Proofs.YtldhbjmillfjgabGreatDoor
open Go.RowKit

section
variable {P : Program} {ops : Array Oper} {md : Region.Mode} {m : Nat} {Q : Exit → Act → World → Prop}

/-- What is asked of what an operation yields: a value, or a call that returns. -/
def okUpon (P : Program) (o : Oper) (a : Act) (K : Act → World → Prop) : Result Next → Prop
  | .ok (.value v) w' => K (a.put o.dst v) w'
  | .ok .skip w' => K (a.put o.dst undef) w'
  | .ok (.enter f args) w' => Calls P f args w' fun e w'' => ∃ v, e = .returned v ∧ K (a.put o.dst v) w''
  | _ => False
/-- What an operation yields in one world: one value, and no more than growth. -/
def yieldsUpon (P : Program) (w : World) (v : Value) : Result Next → Prop
  | .ok (.value u) w' => w' = w ∧ u = v
  | .ok .skip w' => w' = w ∧ v = undef
  | .ok (.enter f args) w' => w' = w ∧ Calls P f args w (fun e w'' => e = .returned v ∧ Below w.heap.size w w'')
  | _ => False

end
end Go.Proofs.YtldhbjmillfjgabGreatDoor
