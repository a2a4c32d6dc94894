/-
  rosettakeep's document and over: an operation in bytes that never cuts a rune of its text, or none.
-/
import Derived.Test.YtedgnlgjmnccgabGreatDoorBridge
import Derived.Test.YtedgnlgjmnccgabGreatDoorRope
import Derived.Test.YtedgnlgjmnccgabGreatDoorOpsGoodT
import Derived.Test.YtedgnlgjmnccgabGreatDoorBackPure
namespace Go.Proofs.YtedgnlgjmnccgabGreatDoor
open Go.RowKit
set_option linter.unusedVariables false
attribute [local go_sem] Oper.semAt_some

/-- A document of a text, or none. -/
def isDoc (s : List UInt8) : Prop := (scan s).2 = true ∧ s.length ≤ 1500
theorem field2c (a b c d : Int) (w : World) : (Instr.field 25 (.agg #[.int .i64 a, .int .i64 b, .int .i64 c, .int .i64 d]) 2).run Tryz.prog w = .ok (.int .i64 c) w := by kernel_rfl
attribute [local go_sem] field2c
/-- What over tells: an operation that is over all of a text, and small. -/
structure told (x : List Pt) (s : List UInt8) : Prop where
  good : good x s
  doc : isDoc s
  len : x.length ≤ 61
  puts : putsP x ≤ 9150

end Go.Proofs.YtedgnlgjmnccgabGreatDoor
