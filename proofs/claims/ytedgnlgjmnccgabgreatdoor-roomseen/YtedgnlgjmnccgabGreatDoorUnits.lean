/-
  utf.In, rope's isUnit, and the closures of Ahead and Line.
-/
import Derived.Test.YtedgnlgjmnccgabGreatDoorUntil
namespace Go.Proofs.YtedgnlgjmnccgabGreatDoor
open Go.RowKit
set_option linter.unusedVariables false
attribute [local go_sem] Oper.semAt_some yieldsUpon okUpon field0 field3

/-- How many of a unit. -/
def by_ (u : Int) (rs : List Nat) : Int := if u = 1 then C1 rs else if u = 2 then C2 rs else if u = 3 then C3 rs else 0
theorem by_append (u : Int) (a b : List Nat) : by_ u (a ++ b) = by_ u a + by_ u b := by
  unfold by_
  split
  · exact C1_append a b
  · split
    · exact C2_append a b
    · split
      · exact C3_append a b
      · rfl
theorem by_pos (u : Int) (a : List Nat) : 0 ≤ by_ u a := by
  unfold by_
  split
  · exact C1_pos a
  · split
    · exact (C2_le a).1
    · split
      · exact (C3_le a).1
      · omega

set_option maxRecDepth 100000 in
set_option maxHeartbeats 2000000 in
theorem In_any (u : Int) (rs : List Nat) (w : World) : Calls Tryz.prog 23 #[cntV rs, .int .i64 u] w fun e w' => e = .returned (.int .i64 (by_ u rs)) ∧ Below w.heap.size w w' := by
  have hbw : Below w.heap.size w (w.alloc (.cells #[.int .i64 (C1 rs), .int .i64 (C2 rs), .int .i64 (C3 rs), .int .i64 (C4 rs)] 25)) := (Below.refl _ _).alloc (Nat.le_refl _) _
  unfold cntV by_
  by_cases h1 : u = 1
  · subst h1
    go_enter Tryz.func23, Tryz.ntmps23
    go_wp2
    go_ret
    exact ⟨rfl, hbw⟩
  · have k1 : (u == 1) = false := beq_eq_false_iff_ne.2 h1
    rw [if_neg h1]
    by_cases h2 : u = 2
    · subst h2
      go_enter Tryz.func23, Tryz.ntmps23
      go_wp2
      go_ret
      exact ⟨rfl, hbw⟩
    · have k2 : (u == 2) = false := beq_eq_false_iff_ne.2 h2
      rw [if_neg h2]
      by_cases h3 : u = 3
      · subst h3
        go_enter Tryz.func23, Tryz.ntmps23
        go_wp2
        go_ret
        exact ⟨rfl, hbw⟩
      · have k3 : (u == 3) = false := beq_eq_false_iff_ne.2 h3
        rw [if_neg h3]
        clear h1 h2 h3
        go_enter Tryz.func23, Tryz.ntmps23
        go_wp2
        go_ret
        exact ⟨rfl, hbw⟩

def reachesBy (u at_ : Int) (rs : List Nat) : Bool := decide (at_ ≤ by_ u rs)
end Go.Proofs.YtedgnlgjmnccgabGreatDoor
