/-
  rope.turn: a chunk above two trees that differ by two in height at most.
-/
import Derived.Test.YtldhbjmillfjgabGreatDoorTreePure
namespace Go.Proofs.YtldhbjmillfjgabGreatDoor
open Go.RowKit
set_option linter.unusedVariables false
attribute [local go_sem] yieldsUpon okUpon

theorem link_fits {pl pr : Option Addr} {l r : T} {c : List Nat} {w : World} (h : big (.node l c r)) (hl : isTree w pl l) (hr : isTree w pr r) :
    Calls Tryz.prog 161 #[.pointer pl, chunkV c, .pointer pr] w fun e w' => ∃ p, e = .returned (.pointer p) ∧ isTree w' p (.node l c r) ∧ Below w.heap.size w w' :=
  link_any pl pr l r c w hl hr (big_node h).2.2.1 (big_node h).2.2.2

set_option maxRecDepth 100000 in
set_option maxHeartbeats 2000000 in
theorem turn_E (pl pr : Option Addr) (l r : T) (c : List Nat) (w : World) (hl : isTree w pl l) (hr : isTree w pr r) (hz : big (.node l c r)) (h1 : ¬ l.height = r.height + 2) (h2 : ¬ r.height = l.height + 2) :
    Calls Tryz.prog 190 #[.pointer pl, chunkV c, .pointer pr] w fun e w' => ∃ p, e = .returned (.pointer p) ∧ isTree w' p (.node l c r) ∧ Below w.heap.size w w' := by
  have hb0 : ∀ o, Below w.heap.size w (w.alloc o) := fun o => (Below.refl _ w).alloc (Nat.le_refl _) o
  have cl := fun o => nheight_any pl l (w.alloc o) (isTree_below (hb0 o) hl)
  have cr := fun o => nheight_any pr r (w.alloc o) (isTree_below (hb0 o) hr)
  have ck := fun o => link_fits hz (isTree_below (hb0 o) hl) (isTree_below (hb0 o) hr)
  obtain ⟨_, _, _, _, _, s3, s4⟩ := big_node hz
  have k1 : (((l.height : Int) - r.height) == 2) = false := by rw [beq_eq_false_iff_ne]; omega
  have k2 : (((l.height : Int) - r.height) == -2) = false := by rw [beq_eq_false_iff_ne]; omega
  have k3 : 0 ≤ (l.height : Int) ∧ (l.height : Int) < 1000000000 := by omega
  have k4 : 0 ≤ (r.height : Int) ∧ (r.height : Int) < 1000000000 := by omega
  clear h1 h2 s3 s4 hz
  have HLR : Hid (isTree w pl l ∧ isTree w pr r) := ⟨hl, hr⟩
  clear hl hr
  generalize (l.height : Int) = x1 at *
  generalize (r.height : Int) = x2 at *
  unfold chunkV at *
  go_enter Tryz.func190, Tryz.ntmps190
  go_wp2_with (first | (go_at_call_of 189 pl; refine (cl _).mono ?_; rintro e w1 ⟨rfl, rfl⟩) | (go_at_call_of 189 pr; refine (cr _).mono ?_; rintro e w1 ⟨rfl, rfl⟩) | (go_at_call 161; refine (ck _).mono ?_; rintro e w2 ⟨p, rfl, ht, hb⟩; have HT : Hid _ := ht; clear ht) | fail)
  go_ret
  exact ⟨p, rfl, HT.out, (hb0 _).trans (hb.mono (hb0 _).size)⟩

end Go.Proofs.YtldhbjmillfjgabGreatDoor
