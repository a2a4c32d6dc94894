/-
  room.Lose, Twice.
-/
import Derived.Test.YtedgnlgjmnccgabGreatDoorRoomDrop
namespace Go.Proofs.YtedgnlgjmnccgabGreatDoor
open Go.RowKit Go.Maps
set_option linter.unusedVariables false
attribute [local go_sem] Oper.semAt_some yieldsUpon okUpon

theorem touchM_after {lo : Nat} {w w1 w2 : World} {bmx : Nat} (h : sameBut w w1 (touchM lo w bmx)) (hb : Below w1.heap.size w1 w2) : sameBut w w2 (touchM lo w bmx) := h.comp (sameBut_below hb (fun _ => False)) fun _ _ h => h.elim
set_option maxRecDepth 100000 in
set_option maxHeartbeats 1000000 in
theorem rmLose_ok {lo : Nat} {w : World} {r bx bmx : Nat} {bs : List Nat} {R : Rm} (h : isRoom lo w r bx bmx bs R) {i : Nat} (hi : i < R.fl.length) (hfl : R.fl.length ≤ 400) :
    Calls Tryz.prog 68 #[.pointer (some ⟨r, 0, none⟩), .int .i64 (i : Int)] w fun e w' => e = .returned .nilIface ∧ isRoom lo w' r bx bmx bs (outR R i) ∧ sameBut w w' (touchM lo w bmx) := by
  have hp : R.fl[i]? = some R.fl[i] := List.getElem?_eq_getElem hi
  have CP : Hid _ := rmPacket_ok h i hp hfl
  have CD : Hid (∀ wx, Below w.heap.size w wx → Calls Tryz.prog 132 #[.pointer (some ⟨r, 0, none⟩), .int .i64 (i : Int)] wx fun e w' => e = .returned (.tuple #[]) ∧ isRoom lo w' r bx bmx bs (outR R i) ∧ sameBut wx w' (touchM lo wx bmx)) := fun wx hb => (rmDrop_any (isRoom_below h hb) hi hfl).mono fun e w' ⟨a, b, c⟩ => ⟨a, b, touchF_M (c.touch (isRoom_below h hb))⟩
  unfold pkV at CP
  generalize R.fl[i] = p at *
  clear h hp
  go_enter Tryz.func68, Tryz.ntmps68
  go_wp2_with (first
    | (go_at_call 131; refine Calls.mono CP.out ?_; rintro e w1 ⟨v, rfl, ho, hb1⟩; obtain ⟨pv, cv, rfl⟩ := opX_shape ho; have HB1 : Hid (Below w.heap.size w w1) := hb1; have HB1A : Hid (∀ o, Below w.heap.size w (w1.alloc o)) := fun o => hb1.alloc hb1.size o; clear ho hb1)
    | (go_at_call 132; refine (CD.out _ (HB1A.out _)).mono ?_; rintro e w2 ⟨rfl, h2, hs2⟩; have H2 : Hid _ := h2; have HS2 : Hid _ := touchM_below (HB1A.out _) hs2; clear h2 hs2)
    | fail)
  go_ret
  exact ⟨rfl, H2.out, HS2.out⟩
set_option maxRecDepth 100000 in
set_option maxHeartbeats 1000000 in
theorem rmLose_bad {lo : Nat} {w : World} {r bx bmx : Nat} {bs : List Nat} {R : Rm} (h : isRoom lo w r bx bmx bs R) (k : Int) (hk : k < 0 ∨ (R.fl.length : Int) ≤ k) :
    Calls Tryz.prog 68 #[.pointer (some ⟨r, 0, none⟩), .int .i64 k] w fun e w' => e = .returned (.iface 26 (.int .i64 2)) ∧ Below w.heap.size w w' := by
  have CP : Hid _ := rmPacket_bad h k hk
  clear h hk
  go_enter Tryz.func68, Tryz.ntmps68
  go_wp2_with (first
    | (go_at_call 131; refine Calls.mono CP.out ?_; rintro e w1 ⟨rfl, hb1⟩; have HB1 : Hid (Below w.heap.size w w1) := hb1; have HB1A : Hid (∀ o, Below w.heap.size w (w1.alloc o)) := fun o => hb1.alloc hb1.size o; clear hb1)
    | fail)
  go_ret
  exact ⟨rfl, HB1A.out _⟩
set_option maxRecDepth 100000 in
set_option maxHeartbeats 1000000 in
theorem rmTwice_ok {lo : Nat} {w : World} {r bx bmx : Nat} {bs : List Nat} {R : Rm} (h : isRoom lo w r bx bmx bs R) {i : Nat} {p : Pk} (hp : R.fl[i]? = some p) (hlost : R.lost ≤ 1000000000000) (hfl : R.fl.length ≤ 400) :
    Calls Tryz.prog 70 #[.pointer (some ⟨r, 0, none⟩), .int .i64 (i : Int)] w fun e w' => e = .returned .nilIface ∧ isRoom lo w' r bx bmx bs (sendR R p) ∧ sameBut w w' (touchM lo w bmx) := by
  have CP : Hid _ := rmPacket_ok h i hp hfl
  have CD : Hid (∀ wx v, Below w.heap.size w wx → opX lo wx v p.x.op → Calls Tryz.prog 130 #[.pointer (some ⟨r, 0, none⟩), pkV p v] wx fun e w' => e = .returned (.tuple #[]) ∧ isRoom lo w' r bx bmx bs (sendR R p) ∧ sameBut wx w' (touchM lo wx bmx)) := fun wx v hb ho => (rmSend_any (isRoom_below h hb) p v ho hlost hfl).mono fun e w' ⟨a, b, c⟩ => ⟨a, b, touchF_M (c.touch (isRoom_below h hb))⟩
  unfold pkV at CP CD
  clear h hp hlost
  go_enter Tryz.func70, Tryz.ntmps70
  go_wp2_with (first
    | (go_at_call 131; refine Calls.mono CP.out ?_; rintro e w1 ⟨v, rfl, ho, hb1⟩; obtain ⟨pv, cv, rfl⟩ := opX_shape ho; have HO : Hid _ := ho; have HB1 : Hid (Below w.heap.size w w1) := hb1; have HB1A : Hid (∀ o, Below w.heap.size w (w1.alloc o) ∧ opX lo (w1.alloc o) (.slice pv p.x.op.length cv) p.x.op) := fun o => ⟨hb1.alloc hb1.size o, opX_grown ho ((Below.refl _ _).alloc (Nat.le_refl _) _)⟩; clear ho hb1)
    | (go_at_call 130; refine (CD.out _ _ (HB1A.out _).1 (HB1A.out _).2).mono ?_; rintro e w2 ⟨rfl, h2, hs2⟩; have H2 : Hid _ := h2; have HS2 : Hid _ := touchM_below (HB1A.out _).1 hs2; clear h2 hs2)
    | fail)
  go_ret
  exact ⟨rfl, H2.out, HS2.out⟩
set_option maxRecDepth 100000 in
set_option maxHeartbeats 1000000 in
theorem rmTwice_bad {lo : Nat} {w : World} {r bx bmx : Nat} {bs : List Nat} {R : Rm} (h : isRoom lo w r bx bmx bs R) (k : Int) (hk : k < 0 ∨ (R.fl.length : Int) ≤ k) :
    Calls Tryz.prog 70 #[.pointer (some ⟨r, 0, none⟩), .int .i64 k] w fun e w' => e = .returned (.iface 26 (.int .i64 2)) ∧ Below w.heap.size w w' := by
  have CP : Hid _ := rmPacket_bad h k hk
  clear h hk
  go_enter Tryz.func70, Tryz.ntmps70
  go_wp2_with (first
    | (go_at_call 131; refine Calls.mono CP.out ?_; rintro e w1 ⟨rfl, hb1⟩; have HB1 : Hid (Below w.heap.size w w1) := hb1; have HB1A : Hid (∀ o, Below w.heap.size w (w1.alloc o)) := fun o => hb1.alloc hb1.size o; clear hb1)
    | fail)
  go_ret
  exact ⟨rfl, HB1A.out _⟩
end Go.Proofs.YtedgnlgjmnccgabGreatDoor
