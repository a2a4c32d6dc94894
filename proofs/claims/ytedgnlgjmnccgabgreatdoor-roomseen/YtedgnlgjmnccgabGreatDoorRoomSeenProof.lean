/-
  Proved: at every text s, every list of units and every list of acts, rosettakeep.RoomSeen returns true and leaves its arguments as they were.
  Conditions: the library's two tables of UTF-8 and its variable errors.errorType hold what the program's text lays in them; the card ties that to the text (over the pruned copy of the project that the seat's pages name).
-/
import Derived.Test.YtedgnlgjmnccgabGreatDoorRoomSeenProofH
import Derived.Test.YtedgnlgjmnccgabGreatDoorTie
import Derived.Test.YtedgnlgjmnccgabGreatDoorCards
import Derived.ProofKit
import Derived.OpenShut
import Derived.ShutString
import Derived.ChangeOld
import Derived.PinnedBridge
import Derived.Lib.LaidU8
import Derived.Lay
import Derived.LaidMore
import Derived.LaidHandle
import Derived.Stop.Joined
import Derived.SevenTiedAt
import Derived.Deep.DeepHandedRow
import Derived.Lib.SmallJoins
namespace Go.Proofs.YtedgnlgjmnccgabGreatDoor
open Go.ChangeShapes Go.WideShapes Go.ChangeAt Go.RowKit Go.Joins

/-- The tied card. -/
theorem roomSeen_card : Rows.RoomSeenCardSaid :=
  Claim7.holds_tied_plain_at .later [] [.data, .handle, .pinned] true _ true
    roomSeen_holds (fun _ h => by cases h) (by as_aux_lemma => kernel_rfl) (fun _ h => by cases h) roomSeen_row_tie rfl ⟨rfl, rfl⟩ (by as_aux_lemma => kernel_rfl) rfl
    (fun f fn hf hfn => by
      obtain rfl : f = 9 := Option.some.inj ((show Tryz.prog.funcNamed Rows.roomSeenRow.func = some 9 by as_aux_lemma => kernel_rfl).symm.trans hf) |>.symm
      obtain rfl : fn = Tryz.f9 := (Option.some.inj (Tryz.func9.symm.trans hfn)).symm
      exact ⟨by as_aux_lemma => kernel_rfl, fun j t ht => by
        rw [Tryz.params9] at ht
        have hm : t ∈ [9, 111, 132] := by simpa using Array.mem_of_getElem? ht
        have hall : ([9, 111, 132].all fun u => !Tryz.prog.wantsStandIn u) = true := by as_aux_lemma => kernel_rfl
        exact (show Tryz.prog.wantsStandIn t = false by simpa using List.all_eq_true.1 hall t hm)⟩)
    (by as_aux_lemma => kernel_rfl)
#print axioms roomSeen_card
end Go.Proofs.YtedgnlgjmnccgabGreatDoor
