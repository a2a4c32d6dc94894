/-
  Plain mathematics: the rope's trees: chunks in order, heights, balance.
-/
import Derived.Test.YtedgnlgjmnccgabGreatDoorTree
namespace Go.Proofs.YtedgnlgjmnccgabGreatDoor

theorem C1_pos (rs : List Nat) : 0 ≤ C1 rs := by rw [C1_len]; omega
end Go.Proofs.YtedgnlgjmnccgabGreatDoor
