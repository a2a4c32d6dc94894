/-
  errors.As, api.Tell, plain.Place and the law's 'is': at no error, and at an error at a place.
-/
import Derived.Test.YtedgnlgjmnccgabGreatDoorErrAs
import Derived.Test.YtedgnlgjmnccgabGreatDoorEach
namespace Go.Proofs.YtedgnlgjmnccgabGreatDoor
open Go.RowKit Go.Extern.Stop Go.Stop Go.Extern

set_option maxHeartbeats 400000 in
theorem Tell_nil (w : World) : Calls Tryz.prog 27 #[.nilIface] w fun e w' => e = .returned (.int .i64 0) ∧ w' = w := by
  go_enter Tryz.func27, Tryz.ntmps27
  go_wp2
  go_ret
  exact ⟨rfl, rfl⟩

theorem asLaid_below {w w' : World} (h : asLaid w) (hb : Below w.heap.size w w') : asLaid w' := by
  unfold asLaid
  rw [hb.cell (p := ⟨0, 0, none⟩) (World.block_lt_of_cell? w _ h)]
  exact h
end Go.Proofs.YtedgnlgjmnccgabGreatDoor
