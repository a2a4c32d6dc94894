/-
  bridge.steps, and what it tells, by runes.
-/
import Derived.Test.YtedgnlgjmnccgabGreatDoorConv
import Derived.Test.YtedgnlgjmnccgabGreatDoorOpsSpread
namespace Go.Proofs.YtedgnlgjmnccgabGreatDoor
open Go.RowKit
set_option linter.unusedVariables false
attribute [local go_sem] Oper.semAt_some

/-- The boxes of steps: where it is, and how much is ahead. -/
structure stp (W : World) (s b : Nat) (u v a h : Int) : Prop where
  r : W.cell? ⟨s, 0, none⟩ = some (.pointer (some ⟨b, 0, none⟩))
  u : W.cell? ⟨s + 1, 0, none⟩ = some (.int .i64 u)
  v : W.cell? ⟨s + 2, 0, none⟩ = some (.int .i64 v)
  a : W.cell? ⟨s + 3, 0, none⟩ = some (.int .i64 a)
  af : W.frozen? ⟨s + 3, 0, none⟩ = false
  h : W.cell? ⟨s + 4, 0, none⟩ = some (.int .i64 h)
  hf : W.frozen? ⟨s + 4, 0, none⟩ = false
theorem stp.below {W W' : World} {s b : Nat} {u v a h : Int} (k : stp W s b u v a h) (hb : Below W.heap.size W W') : stp W' s b u v a h := by
  have l0 := World.block_lt_of_cell? W _ k.r
  have l1 := World.block_lt_of_cell? W _ k.u
  have l2 := World.block_lt_of_cell? W _ k.v
  have l3 := World.block_lt_of_cell? W _ k.a
  have l4 := World.block_lt_of_cell? W _ k.h
  exact ⟨(hb.cell l0).trans k.r, (hb.cell l1).trans k.u, (hb.cell l2).trans k.v, (hb.cell l3).trans k.a, (hb.frozen l3).trans k.af, (hb.cell l4).trans k.h, (hb.frozen l4).trans k.hf⟩
end Go.Proofs.YtedgnlgjmnccgabGreatDoor
