/-
  An append within a region that draws its order.
-/
import Derived.Test.YtedgnlgjmnccgabGreatDoorRegionSet
import Derived.Laws.OwnMore
namespace Go.Proofs.YtedgnlgjmnccgabGreatDoor
open Go.RowKit
set_option linter.unusedVariables false

theorem ask_append {P : Program} {o : Oper} {a : Act} {w w' : World} {K : Act → World → Prop} {s x : Operand} {t : TypeId} {v vx v' : Value} {y : Nat → Option Bool} (hgd : o.guard = none) (ho : o.op = .call { callee := .builtin .append, args := #[s, x], argTypes := #[t, t] })
    (hs : a.eval s = v) (hx : a.eval x = vx) (hr : (Builtin.append_ #[t, t] o.type #[v, vx]).run P w = .ok v' w') (h : K (a.put o.dst v') w') : if Region.wanted o y then okUpon P o a K ((execOp a.eval o).run P w) else K (a.put o.dst undef) w := by
  have hw : Region.wanted o y = true := by unfold Region.wanted; rw [hgd]
  rw [if_pos hw]
  unfold execOp
  simp only [ho, resolve, invoke, builtin, Sem.run_bind, Sem.run_pure, Result.andThen_ok, List.map_toArray, List.map_cons, List.map_nil, hs, hx, hr, okUpon]
  exact h
end Go.Proofs.YtedgnlgjmnccgabGreatDoor
