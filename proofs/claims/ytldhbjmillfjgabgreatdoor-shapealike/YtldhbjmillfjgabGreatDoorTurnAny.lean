/-
  rope.turn: what it makes of two trees with a chunk between.
-/
import Derived.Test.YtldhbjmillfjgabGreatDoorTurnA
import Derived.Test.YtldhbjmillfjgabGreatDoorTurnB
import Derived.Test.YtldhbjmillfjgabGreatDoorTurnC
import Derived.Test.YtldhbjmillfjgabGreatDoorTurnD
namespace Go.Proofs.YtldhbjmillfjgabGreatDoor
open Go.RowKit
set_option linter.unusedVariables false

theorem turn_any (pl pr : Option Addr) (l r : T) (c : List Nat) (w : World) (hl : isTree w pl l) (hr : isTree w pr r) (hz : big (.node l c r)) :
    Calls Tryz.prog 190 #[.pointer pl, chunkV c, .pointer pr] w fun e w' => ∃ p, e = .returned (.pointer p) ∧ isTree w' p (turnT l c r) ∧ Below w.heap.size w w' := by
  have hb : big (turnT l c r) := big_same hz (by rw [turnT_chunks]; rfl)
  by_cases h1 : l.height = r.height + 2
  · unfold turnT at hb ⊢
    rw [if_pos h1] at hb ⊢
    match l, hl, hb, h1 with
    | .nil, _, _, h1 => simp [T.height] at h1
    | .node ll lc .nil, hl, hb, h1 => exact turn_B pl pr ll .nil r c lc w hl hr hb h1 (by simp [T.height])
    | .node ll lc (.node a b d), hl, hb, h1 =>
      by_cases hc : ll.height < (T.node a b d).height
      · simp only [hc, if_true] at hb ⊢
        exact turn_A pl pr ll a d r c lc b w hl hr hb h1 hc
      · simp only [hc, if_false] at hb ⊢
        exact turn_B pl pr ll (.node a b d) r c lc w hl hr hb h1 hc
  · by_cases h2 : r.height = l.height + 2
    · unfold turnT at hb ⊢
      rw [if_neg h1, if_pos h2] at hb ⊢
      match r, hr, hb, h2 with
      | .nil, _, _, h2 => simp [T.height] at h2
      | .node .nil rc rr, hr, hb, h2 => exact turn_D pl pr l .nil rr c rc w hl hr hb h2 (by simp [T.height])
      | .node (.node a b d) rc rr, hr, hb, h2 =>
        by_cases hc : rr.height < (T.node a b d).height
        · simp only [hc, if_true] at hb ⊢
          exact turn_C pl pr l a d rr c b rc w hl hr hb h2 hc
        · simp only [hc, if_false] at hb ⊢
          exact turn_D pl pr l (.node a b d) rr c rc w hl hr hb h2 hc
    · unfold turnT
      rw [if_neg h1, if_neg h2]
      exact turn_E pl pr l r c w hl hr hz h1 h2
end Go.Proofs.YtldhbjmillfjgabGreatDoor
