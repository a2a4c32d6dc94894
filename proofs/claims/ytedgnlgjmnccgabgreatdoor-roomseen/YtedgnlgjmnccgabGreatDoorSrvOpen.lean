/-
  A slice of what servers are told, or of clients' moves, that is handed in: three numbers and an operation each.
-/
import Derived.Test.YtedgnlgjmnccgabGreatDoorOpsList
import Derived.Lib.SmallJoins
namespace Go.Proofs.YtedgnlgjmnccgabGreatDoor
open Go.RowKit Go.Deep Go.ChangeShapes Go.WideShapes Go.Joins
set_option linter.unusedVariables false

structure Sa where
  a : Int
  b : Int
  c : Int
  op : List Pt
def isNum (c : Int) : Prop := -9223372036854775808 ≤ c ∧ c < 9223372036854775808
def sayWf (q : Sa) : Prop := (isNum q.a ∧ isNum q.b ∧ isNum q.c) ∧ smallWf q.op
def sayIn (w : World) (b o : Nat) (q : Sa) : Prop := w.cell? ⟨b, o, none⟩ = some (.int .i64 q.a) ∧ w.cell? ⟨b, o + 1, none⟩ = some (.int .i64 q.b) ∧ w.cell? ⟨b, o + 2, none⟩ = some (.int .i64 q.c) ∧ ∃ v', w.cell? ⟨b, o + 3, none⟩ = some v' ∧ opAt w v' q.op
def saysAt (w : World) (v : Value) (l : List Sa) : Prop := ∃ p c, v = .slice p l.length c ∧ l.length ≤ c ∧ c ≤ maxLen ∧ (l ≠ [] → ∃ b o, p = some ⟨b, o, none⟩ ∧ b < w.heap.size ∧ ∀ i q, l[i]? = some q → sayIn w b (o + i * 4) q)
theorem cellsOf_intS : Tryz.prog.cellsOf 3 = 1 := by kernel_rfl
end Go.Proofs.YtedgnlgjmnccgabGreatDoor
