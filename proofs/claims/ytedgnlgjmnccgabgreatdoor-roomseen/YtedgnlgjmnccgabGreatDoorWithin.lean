/-
  rope.within: as few of a chunk's runes as are enough.
-/
import Derived.Test.YtedgnlgjmnccgabGreatDoorRope
import Derived.Test.YtedgnlgjmnccgabGreatDoorChain
import Derived.Test.YtedgnlgjmnccgabGreatDoorWalkIter
import Derived.Test.YtedgnlgjmnccgabGreatDoorReadsFacts
import Derived.RangeFuncRecord
import Derived.Test.YtedgnlgjmnccgabGreatDoorRoundGrow
namespace Go.Proofs.YtedgnlgjmnccgabGreatDoor
open Go.RowKit
set_option linter.unusedVariables false
attribute [local go_sem] Oper.semAt_some yieldsUpon okUpon

theorem Walk_one (s : ByteArray) (w : World) : Calls Tryz.prog 220 #[.string s] w fun e w' => e = .returned (.func (.func 262) #[] #[.pointer (some ⟨w.heap.size, 0, none⟩)]) ∧ w' = w.alloc (.cells #[.string s] 9) := by
  go_enter Tryz.func220, Tryz.ntmps220
  go_wp2
  go_ret
  exact ⟨rfl, rfl⟩

/-- What some runes count, as a value. -/
def cntV (rs : List Nat) : Value := .agg #[.int .i64 (C1 rs), .int .i64 (C2 rs), .int .i64 (C3 rs), .int .i64 (C4 rs)]

/-- The least beginning, with one rune at least behind pre, that is enough. -/
def seek (f : List Nat → Bool) : List Nat → List Nat → Option (List Nat)
  | _, [] => none
  | pre, r :: rs => if f (pre ++ [r]) then some (pre ++ [r]) else seek f (pre ++ [r]) rs
theorem plus_cnt (a b : List Nat) (hz : C1 (a ++ b) ≤ 200000000) (w : World) : Calls Tryz.prog 137 #[cntV a, cntV b] w fun e w' => e = .returned (cntV (a ++ b)) ∧ Below w.heap.size w w' := by
  have h := plus_any (C1 a) (C2 a) (C3 a) (C4 a) (C1 b) (C2 b) (C3 b) (C4 b) w
  rw [C1_append] at hz
  have a2 := C2_le a
  have a3 := C3_le a
  have a4 := C4_le a
  have b2 := C2_le b
  have b3 := C3_le b
  have b4 := C4_le b
  rw [wrap64_small (by omega) (by omega), wrap64_small (by omega) (by omega), wrap64_small (by omega) (by omega), wrap64_small (by omega) (by omega), ← C1_append, ← C2_append, ← C3_append, ← C4_append] at h
  exact h
theorem walkArgs_cut (c1 : List Nat) (r : Nat) : walkArgs (wide c1) (r, (enc r).length) = #[cntV c1, cntV [r]] := by
  simp [walkArgs, cnt, cntV, C1, C2, C3, C4, wide, sum1, sum2, sum4]

end Go.Proofs.YtedgnlgjmnccgabGreatDoor
