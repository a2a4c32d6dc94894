/-
  rope.turn, where the left one is the higher by two: twice.
  rope.turn, where the left one is the higher by two: once.
  rope.turn, where the right one is the higher by two: twice.
  rope.turn, where the right one is the higher by two: once.
  rope.turn: what it makes of two trees with a chunk between.
  rope.join: a chunk above two trees of any heights.
  strings.Clone: the same bytes: the library's contract for its one callee, met at this program; rope.chunkOf.
  rope.chunkOf.
  The same, where one block of the call's own is written meanwhile: operations that yield one value in every world that has grown but for that block are taken first.
  rope.last: the last chunk of a tree, and the tree of the others.
  rope.add: a chunk behind all of a tree's.
  Plain mathematics: where runes begin among bytes; a text cut into pieces.
  A range over an iterator that keeps state in cells of its own: the statement's law, over what the iterator may turn between two rounds and what a round keeps, both the user's choice.
  The library's contracts that these texts use, laid at this program by the shelf's own command, its plain mode.
  rope.pieces: what its iterator does with the rounds of a loop.
  RegionRel's walk within a loop's round.
-/
import Derived.Test.YtldhbjmillfjgabGreatDoorPartA
import Derived.Shelf.Pu.Clone
import Derived.RangeFuncNested
import Derived.RangeFuncBound
import Derived.RangeFuncCalls
import Derived.RangeFuncLeaves
import Derived.WalkKit
import Derived.Shelf.Strings.Builder1
import Derived.Shelf.Small.Utf8
import Derived.Shelf.Strings.BuilderF
import Derived.Shelf.Strings.BuilderK
import Derived.Shelf.Utf8.AppendRune
import Derived.Shelf.Utf8.AppendRunePlain
import Derived.Shelf.Utf8.RuneCount
import Derived.Shelf.LaysM
import Derived.Shelf.Strconv.Clone
import Derived.Shelf.Strings.Search1
import Derived.Shelf.Strings.Search2
import Derived.Shelf.Strings.Search3
import Derived.Shelf.Strings.Count
import Derived.Shelf.Strings.Shaped
import Derived.Shelf.Strings.Split
import Derived.Shelf.Unicode.Decode
import Derived.Shelf.Strings.RuneCount
import Derived.Shelf.Unicode.DecodeSlow
import Derived.Shelf.Unicode.DecodeAny
import Derived.Shelf.Strings.BuilderCap
import Derived.Test.YtldhbjmillfjgabGreatDoorProg
import Derived.OwnWalkIn
import Derived.TacticsInMore
import Derived.LoopNIn
import Derived.LoopIn
namespace Go.Proofs.YtldhbjmillfjgabGreatDoor
open Go.RowKit
set_option linter.unusedVariables false
attribute [local go_sem] yieldsUpon okUpon

set_option maxRecDepth 100000 in
set_option maxHeartbeats 2000000 in
theorem turn_A (pl pr : Option Addr) (ll a d r : T) (c lc b : List Nat) (w : World) (hl : isTree w pl (.node ll lc (.node a b d))) (hr : isTree w pr r) (hz : big (.node (.node ll lc a) b (.node d c r))) (hd : (T.node ll lc (.node a b d)).height = r.height + 2) (hc : ll.height < (T.node a b d).height) :
    Calls Tryz.prog 190 #[.pointer pl, chunkV c, .pointer pr] w fun e w' => ∃ p, e = .returned (.pointer p) ∧ isTree w' p (.node (.node ll lc a) b (.node d c r)) ∧ Below w.heap.size w w' := by
  have hb0 : ∀ o, Below w.heap.size w (w.alloc o) := fun o => (Below.refl _ w).alloc (Nat.le_refl _) o
  have HL : Hid (isTree w pl (.node ll lc (.node a b d))) := hl
  have HR : Hid (isTree w pr r) := hr
  have cl := fun o => nheight_any pl (.node ll lc (.node a b d)) (w.alloc o) (isTree_below (hb0 o) hl)
  have cr := fun o => nheight_any pr r (w.alloc o) (isTree_below (hb0 o) hr)
  have hzT := hz
  obtain ⟨z1, z2, _, _⟩ := big_node hz
  obtain ⟨b1, pll, plr, rfl, ⟨uc0, uc1, uc2, uc3, uc4⟩, ⟨uc5, uc6⟩, _, _, hlu, hru⟩ := hl
  have hruT := hru
  obtain ⟨b2, pa, pd, rfl, ⟨vc0, vc1, vc2, vc3, vc4⟩, ⟨vc5, vc6⟩, _, _, hlv, hrv⟩ := hruT
  have hq : ((T.node ll lc (.node a b d)).height : Int) < 1000000000 ∧ (r.height : Int) < 1000000000 ∧ ((T.node a b d).height : Int) < 1000000000 ∧ (ll.height : Int) < 1000000000 := by
    have e1 := (big_node hz).2.2.2
    have e2 := height_size (T.node (.node ll lc a) b (.node d c r))
    have e3 := hz.2
    simp only [T.height, T.size] at *
    omega
  have hp : 0 ≤ ((T.node ll lc (.node a b d)).height : Int) ∧ 0 ≤ (r.height : Int) := by omega
  have k0 : ((T.node ll lc (.node a b d)).height : Int) = (r.height : Int) + 2 := by rw [hd]; push_cast; rfl
  have k1 : (((T.node ll lc (.node a b d)).height : Int) - r.height == 2) = true := by rw [beq_iff_eq]; omega
  have k2 : (((T.node ll lc (.node a b d)).height : Int) - r.height == -2) = false := by rw [beq_eq_false_iff_ne]; omega
  have k3 : ((ll.height : Int) < ((T.node a b d).height : Int)) := by omega
  have ck := fun wx (hb : Below w.heap.size w wx) => (nheight_any (some ⟨b2, 0, none⟩) (.node a b d) wx (isTree_below hb hru)).mono (R' := fun e w' => e = .returned (.int .i64 (T.node a b d).height) ∧ Below wx.heap.size wx w') (by rintro e w' ⟨rfl, rfl⟩; exact ⟨rfl, Below.refl _ _⟩)
  have co := fun wx (hb : Below w.heap.size w wx) => (nheight_any pll ll wx (isTree_below hb hlu)).mono (R' := fun e w' => e = .returned (.int .i64 ll.height) ∧ Below wx.heap.size wx w') (by rintro e w' ⟨rfl, rfl⟩; exact ⟨rfl, Below.refl _ _⟩)
  have HLU : Hid _ := hlu
  have HRU : Hid _ := hru
  have HLV : Hid _ := hlv
  have HRV : Hid _ := hrv
  clear k0 hd hc hzT
  generalize ((T.node ll lc (.node a b d)).height : Int) = x1 at *
  generalize (r.height : Int) = x2 at *
  generalize ((T.node a b d).height : Int) = x3 at *
  generalize (ll.height : Int) = x4 at *
  have HZ : Hid _ := hz
  have Hz1 : Hid _ := z1
  have Hz2 : Hid _ := z2
  clear hz z1 z2 hlu hru hlv hrv
  have d6 := fun o => cell_on (hb0 o) uc6
  unfold chunkV
  go_enter Tryz.func190, Tryz.ntmps190
  go_wp2_with (first | (go_at_call_of 189 b1; refine (cl _).mono ?_; rintro e w1 ⟨rfl, rfl⟩) | (go_at_call_of 189 pr; refine (cr _).mono ?_; rintro e w1 ⟨rfl, rfl⟩) | fail)
  obtain ⟨W1, hW1⟩ : ∃ W1, w.alloc (.cells #[.string (bytesOf c), .int .i64 (C1 c), .int .i64 (C2 c), .int .i64 (C3 c), .int .i64 (C4 c)] 194) = W1 := ⟨_, rfl⟩
  have hbW1 : Below w.heap.size w W1 := by rw [← hW1]; exact hb0 _
  have x0 : W1.cell? ⟨w.heap.size, 0, none⟩ = some (.string (bytesOf c)) := by rw [← hW1]; simp [go_sem]
  have y1 : W1.cell? ⟨w.heap.size, 1, none⟩ = some (.int .i64 (C1 c)) := by rw [← hW1]; simp [go_sem]
  have y2 : W1.cell? ⟨w.heap.size, 2, none⟩ = some (.int .i64 (C2 c)) := by rw [← hW1]; simp [go_sem]
  have y3 : W1.cell? ⟨w.heap.size, 3, none⟩ = some (.int .i64 (C3 c)) := by rw [← hW1]; simp [go_sem]
  have y4 : W1.cell? ⟨w.heap.size, 4, none⟩ = some (.int .i64 (C4 c)) := by rw [← hW1]; simp [go_sem]
  rw [hW1]
  clear hW1 cl cr
  obtain ⟨G0, hG0⟩ := exists_growth W1
  have hb0w : ∀ x, Below w.heap.size w (G0 x) := fun x => hbW1.trans ((hG0.below x).mono hbW1.size)
  have q5 := hG0.cell (cell_on hbW1 uc5)
  have HG0 : Hid (Growth W1 G0) := hG0
  refine wp_region_grow hG0 (by kernel_rfl) (by kernel_rfl) ?_
  clear hG0 d6
  repeat (first
    | go_big_quiet_skip
    | (go_big_quiet_want; go_big_quiet_op; first | go_big_quiet_on | (apply Exists.intro; refine ⟨fun _ => ?_, ?_⟩; (first | (go_at_call_of 189 b2; exact grow_of HG0.out (ck _ (hb0w _))) | (go_at_call_of 189 pll; exact grow_of HG0.out (co _ (hb0w _)))); go_big_quiet_on)))
  refine wpQuiet_nil ?_
  rintro w0 ⟨xx, rfl⟩
  go_wp2
  have hbx := hb0w xx
  have hbx1 : Below W1.heap.size W1 (G0 xx) := HG0.out.below xx
  obtain ⟨w0, hw0⟩ : ∃ w0, G0 xx = w0 := ⟨_, rfl⟩
  rw [hw0] at hbx hbx1 ⊢
  clear hw0 q5 HG0 hb0w ck co
  refine wp_region_rel 26 26 (by kernel_rfl) rfl ?_
  intro w1 hb1
  have hbw : Below w.heap.size w w1 := hbx.trans (hb1.mono hbx.size)
  have hbb : Below W1.heap.size W1 w1 := hbx1.trans (hb1.mono hbx1.size)
  obtain ⟨G, hG⟩ := exists_growth w1
  have g0 := hG.cell (cell_on hbb x0)
  have g1 := hG.cell (cell_on hbb y1)
  have g2 := hG.cell (cell_on hbb y2)
  have g3 := hG.cell (cell_on hbb y3)
  have g4 := hG.cell (cell_on hbb y4)
  have ug0 := hG.cell (cell_on hbw uc0)
  have ug1 := hG.cell (cell_on hbw uc1)
  have ug2 := hG.cell (cell_on hbw uc2)
  have ug3 := hG.cell (cell_on hbw uc3)
  have ug4 := hG.cell (cell_on hbw uc4)
  have ug5 := hG.cell (cell_on hbw uc5)
  have ug6 := hG.cell (cell_on hbw uc6)
  have vg0 := hG.cell (cell_on hbw vc0)
  have vg1 := hG.cell (cell_on hbw vc1)
  have vg2 := hG.cell (cell_on hbw vc2)
  have vg3 := hG.cell (cell_on hbw vc3)
  have vg4 := hG.cell (cell_on hbw vc4)
  have vg5 := hG.cell (cell_on hbw vc5)
  have vg6 := hG.cell (cell_on hbw vc6)
  clear uc0 uc1 uc2 uc3 uc4 uc5 uc6 vc0 vc1 vc2 vc3 vc4 vc5 vc6 x0 y1 y2 y3 y4 hbb hbx hbx1 hb1
  (refine anyG_step hG (i := 0) rfl (by kernel_rfl) (by kernel_rfl) (by kernel_rfl) (fun K hK => ?_); go_simp; refine hK _ ?_; clear hK K)
  (refine anyG_step hG (i := 1) rfl (by kernel_rfl) (by kernel_rfl) (by kernel_rfl) (fun K hK => ?_); go_simp; refine hK _ ?_; clear hK K)
  (refine anyG_step hG (i := 2) rfl (by kernel_rfl) (by kernel_rfl) (by kernel_rfl) (fun K hK => ?_); go_simp; refine hK _ ?_; clear hK K)
  (refine anyG_step hG (i := 3) rfl (by kernel_rfl) (by kernel_rfl) (by kernel_rfl) (fun K hK => ?_); go_simp; refine hK _ ?_; clear hK K)
  (refine anyG_step hG (i := 4) rfl (by kernel_rfl) (by kernel_rfl) (by kernel_rfl) (fun K hK => ?_); go_simp; refine hK _ ?_; clear hK K)
  (refine anyG_step hG (i := 5) rfl (by kernel_rfl) (by kernel_rfl) (by kernel_rfl) (fun K hK => ?_); go_simp; refine hK _ ?_; clear hK K)
  (refine anyG_step hG (i := 6) rfl (by kernel_rfl) (by kernel_rfl) (by kernel_rfl) (fun K hK => ?_); go_simp; refine hK _ ?_; clear hK K)
  (refine anyG_step hG (i := 7) rfl (by kernel_rfl) (by kernel_rfl) (by kernel_rfl) (fun K hK => ?_); go_simp; refine hK _ ?_; clear hK K)
  (refine anyG_step hG (i := 8) rfl (by kernel_rfl) (by kernel_rfl) (by kernel_rfl) (fun K hK => ?_); go_simp; refine hK _ ?_; clear hK K)
  (refine anyG_step hG (i := 9) rfl (by kernel_rfl) (by kernel_rfl) (by kernel_rfl) (fun K hK => ?_); go_simp; refine hK _ ?_; clear hK K)
  (refine anyG_step hG (i := 10) rfl (by kernel_rfl) (by kernel_rfl) (by kernel_rfl) (fun K hK => ?_); go_simp; refine hK _ ?_; clear hK K)
  (refine anyG_step hG (i := 11) rfl (by kernel_rfl) (by kernel_rfl) (by kernel_rfl) (fun K hK => ?_); go_simp; refine hK _ ?_; clear hK K)
  (refine anyG_step hG (i := 13) rfl (by kernel_rfl) (by kernel_rfl) (by kernel_rfl) (fun K hK => ?_); go_simp; refine hK _ ?_; clear hK K)
  (refine anyG_step hG (i := 14) rfl (by kernel_rfl) (by kernel_rfl) (by kernel_rfl) (fun K hK => ?_); go_simp; refine hK _ ?_; clear hK K)
  (refine anyG_step hG (i := 15) rfl (by kernel_rfl) (by kernel_rfl) (by kernel_rfl) (fun K hK => ?_); go_simp; refine hK _ ?_; clear hK K)
  (refine anyG_step hG (i := 16) rfl (by kernel_rfl) (by kernel_rfl) (by kernel_rfl) (fun K hK => ?_); go_simp; refine hK _ ?_; clear hK K)
  (refine anyG_step hG (i := 17) rfl (by kernel_rfl) (by kernel_rfl) (by kernel_rfl) (fun K hK => ?_); go_simp; refine hK _ ?_; clear hK K)
  (refine anyG_step hG (i := 18) rfl (by kernel_rfl) (by kernel_rfl) (by kernel_rfl) (fun K hK => ?_); go_simp; refine hK _ ?_; clear hK K)
  (refine anyG_step hG (i := 19) rfl (by kernel_rfl) (by kernel_rfl) (by kernel_rfl) (fun K hK => ?_); go_simp; refine hK _ ?_; clear hK K)
  (refine anyG_step hG (i := 20) rfl (by kernel_rfl) (by kernel_rfl) (by kernel_rfl) (fun K hK => ?_); go_simp; refine hK _ ?_; clear hK K)
  (refine anyG_step hG (i := 21) rfl (by kernel_rfl) (by kernel_rfl) (by kernel_rfl) (fun K hK => ?_); go_simp; refine hK _ ?_; clear hK K)
  (refine anyG_step hG (i := 22) rfl (by kernel_rfl) (by kernel_rfl) (by kernel_rfl) (fun K hK => ?_); go_simp; refine hK _ ?_; clear hK K)
  clear g0 g1 g2 g3 g4 ug0 ug1 ug2 ug3 ug4 ug5 ug6 vg0 vg1 vg2 vg3 vg4 vg5 vg6 hG
  refine anyG_one (i := 12) rfl (by kernel_rfl) ?_
  intro w2 hbw2 K hK
  have hww2 : Below w.heap.size w w2 := hbw.trans (hbw2.mono hbw.size)
  have ck := link_fits Hz1.out (isTree_below hww2 HLU.out) (isTree_below hww2 HLV.out)
  unfold chunkV at ck
  go_simp
  refine ck.mono ?_
  rintro e w3 ⟨p1, rfl, ht1, hb3⟩
  have hww3 : Below w.heap.size w w3 := hww2.trans (hb3.mono hww2.size)
  refine ⟨_, rfl, hK _ _ hb3 ?_⟩
  clear hK K ck
  refine anyG_one (i := 23) rfl (by kernel_rfl) ?_
  intro w4 hbw4 K hK
  have hww4 : Below w.heap.size w w4 := hww3.trans (hbw4.mono hww3.size)
  have ck := link_fits Hz2.out (isTree_below hww4 HRV.out) (isTree_below hww4 HR.out)
  unfold chunkV at ck
  go_simp
  refine ck.mono ?_
  rintro e w5 ⟨p2, rfl, ht2, hb5⟩
  have hww5 : Below w.heap.size w w5 := hww4.trans (hb5.mono hww4.size)
  refine ⟨_, rfl, hK _ _ hb5 ?_⟩
  clear hK K ck
  have ht1' := isTree_below (hbw4.trans (hb5.mono hbw4.size)) ht1
  refine anyG_one (i := 24) rfl (by kernel_rfl) ?_
  intro w6 hbw6 K hK
  have hww6 : Below w.heap.size w w6 := hww5.trans (hbw6.mono hww5.size)
  have ck := link_fits HZ.out (isTree_below hbw6 ht1') (isTree_below hbw6 ht2)
  unfold chunkV at ck
  go_simp
  refine ck.mono ?_
  rintro e w7 ⟨p3, rfl, ht3, hb7⟩
  have hww7 : Below w.heap.size w w7 := hww6.trans (hb7.mono hww6.size)
  refine ⟨_, rfl, hK _ _ hb7 ?_⟩
  clear hK K ck
  clear ht1 ht2 ht1'
  refine anyG_one (i := 25) rfl (by kernel_rfl) ?_
  intro w90 hb90 K hK
  go_simp
  refine hK _ _ (Below.refl _ w90) ?_
  clear hK K
  refine anyG_end (by kernel_rfl) ?_
  intro w91 hb91
  have hb92 := hb90.trans (hb91.mono hb90.size)
  have hw92 : Below w.heap.size w w91 := hww7.trans (hb92.mono hww7.size)
  have HT : Hid _ := isTree_below hb92 ht3
  clear hb90 hb91 hb92 ht3
  go_wp2
  go_ret
  exact ⟨_, rfl, HT.out, hw92⟩

end Go.Proofs.YtldhbjmillfjgabGreatDoor

namespace Go.Proofs.YtldhbjmillfjgabGreatDoor
open Go.RowKit
set_option linter.unusedVariables false
attribute [local go_sem] yieldsUpon okUpon

set_option maxRecDepth 100000 in
set_option maxHeartbeats 2000000 in
theorem turn_B (pl pr : Option Addr) (ll lr r : T) (c lc : List Nat) (w : World) (hl : isTree w pl (.node ll lc lr)) (hr : isTree w pr r) (hz : big (.node ll lc (.node lr c r))) (hd : (T.node ll lc lr).height = r.height + 2) (hc : ¬ ll.height < lr.height) :
    Calls Tryz.prog 190 #[.pointer pl, chunkV c, .pointer pr] w fun e w' => ∃ p, e = .returned (.pointer p) ∧ isTree w' p (.node ll lc (.node lr c r)) ∧ Below w.heap.size w w' := by
  have hb0 : ∀ o, Below w.heap.size w (w.alloc o) := fun o => (Below.refl _ w).alloc (Nat.le_refl _) o
  have HL : Hid (isTree w pl (.node ll lc lr)) := hl
  have HR : Hid (isTree w pr r) := hr
  have cl := fun o => nheight_any pl (.node ll lc lr) (w.alloc o) (isTree_below (hb0 o) hl)
  have cr := fun o => nheight_any pr r (w.alloc o) (isTree_below (hb0 o) hr)
  have hzT := hz
  obtain ⟨_, z2, _, _⟩ := big_node hz
  obtain ⟨b1, pll, plr, rfl, ⟨uc0, uc1, uc2, uc3, uc4⟩, ⟨uc5, uc6⟩, _, _, hlu, hru⟩ := hl
  have hq : ((T.node ll lc lr).height : Int) < 1000000000 ∧ (r.height : Int) < 1000000000 ∧ (lr.height : Int) < 1000000000 ∧ (ll.height : Int) < 1000000000 := by
    have e1 := (big_node hz).2.2.2
    have e2 := height_size (T.node ll lc (.node lr c r))
    have e3 := hz.2
    simp only [T.height, T.size] at *
    omega
  have hp : 0 ≤ ((T.node ll lc lr).height : Int) ∧ 0 ≤ (r.height : Int) := by omega
  have k0 : ((T.node ll lc lr).height : Int) = (r.height : Int) + 2 := by rw [hd]; push_cast; rfl
  have k1 : (((T.node ll lc lr).height : Int) - r.height == 2) = true := by rw [beq_iff_eq]; omega
  have k2 : (((T.node ll lc lr).height : Int) - r.height == -2) = false := by rw [beq_eq_false_iff_ne]; omega
  have k3 : ¬ ((ll.height : Int) < (lr.height : Int)) := by omega
  have ck := fun wx (hb : Below w.heap.size w wx) => (nheight_any plr lr wx (isTree_below hb hru)).mono (R' := fun e w' => e = .returned (.int .i64 lr.height) ∧ Below wx.heap.size wx w') (by rintro e w' ⟨rfl, rfl⟩; exact ⟨rfl, Below.refl _ _⟩)
  have co := fun wx (hb : Below w.heap.size w wx) => (nheight_any pll ll wx (isTree_below hb hlu)).mono (R' := fun e w' => e = .returned (.int .i64 ll.height) ∧ Below wx.heap.size wx w') (by rintro e w' ⟨rfl, rfl⟩; exact ⟨rfl, Below.refl _ _⟩)
  have HLU : Hid _ := hlu
  have HRU : Hid _ := hru
  clear k0 hd hc hzT
  generalize ((T.node ll lc lr).height : Int) = x1 at *
  generalize (r.height : Int) = x2 at *
  generalize (lr.height : Int) = x3 at *
  generalize (ll.height : Int) = x4 at *
  have HZ : Hid _ := hz
  have Hz2 : Hid _ := z2
  clear hz z2 hlu hru
  have d6 := fun o => cell_on (hb0 o) uc6
  unfold chunkV
  go_enter Tryz.func190, Tryz.ntmps190
  go_wp2_with (first | (go_at_call_of 189 b1; refine (cl _).mono ?_; rintro e w1 ⟨rfl, rfl⟩) | (go_at_call_of 189 pr; refine (cr _).mono ?_; rintro e w1 ⟨rfl, rfl⟩) | fail)
  obtain ⟨W1, hW1⟩ : ∃ W1, w.alloc (.cells #[.string (bytesOf c), .int .i64 (C1 c), .int .i64 (C2 c), .int .i64 (C3 c), .int .i64 (C4 c)] 194) = W1 := ⟨_, rfl⟩
  have hbW1 : Below w.heap.size w W1 := by rw [← hW1]; exact hb0 _
  have x0 : W1.cell? ⟨w.heap.size, 0, none⟩ = some (.string (bytesOf c)) := by rw [← hW1]; simp [go_sem]
  have y1 : W1.cell? ⟨w.heap.size, 1, none⟩ = some (.int .i64 (C1 c)) := by rw [← hW1]; simp [go_sem]
  have y2 : W1.cell? ⟨w.heap.size, 2, none⟩ = some (.int .i64 (C2 c)) := by rw [← hW1]; simp [go_sem]
  have y3 : W1.cell? ⟨w.heap.size, 3, none⟩ = some (.int .i64 (C3 c)) := by rw [← hW1]; simp [go_sem]
  have y4 : W1.cell? ⟨w.heap.size, 4, none⟩ = some (.int .i64 (C4 c)) := by rw [← hW1]; simp [go_sem]
  rw [hW1]
  clear hW1 cl cr
  obtain ⟨G0, hG0⟩ := exists_growth W1
  have hb0w : ∀ x, Below w.heap.size w (G0 x) := fun x => hbW1.trans ((hG0.below x).mono hbW1.size)
  have q5 := hG0.cell (cell_on hbW1 uc5)
  have HG0 : Hid (Growth W1 G0) := hG0
  refine wp_region_grow hG0 (by kernel_rfl) (by kernel_rfl) ?_
  clear hG0 d6
  repeat (first
    | go_big_quiet_skip
    | (go_big_quiet_want; go_big_quiet_op; first | go_big_quiet_on | (apply Exists.intro; refine ⟨fun _ => ?_, ?_⟩; (first | (go_at_call_of 189 plr; exact grow_of HG0.out (ck _ (hb0w _))) | (go_at_call_of 189 pll; exact grow_of HG0.out (co _ (hb0w _)))); go_big_quiet_on)))
  refine wpQuiet_nil ?_
  rintro w0 ⟨xx, rfl⟩
  go_wp2
  have hbx := hb0w xx
  have hbx1 : Below W1.heap.size W1 (G0 xx) := HG0.out.below xx
  obtain ⟨w0, hw0⟩ : ∃ w0, G0 xx = w0 := ⟨_, rfl⟩
  rw [hw0] at hbx hbx1 ⊢
  clear hw0 q5 HG0 hb0w ck co
  refine wp_region_rel 17 17 (by kernel_rfl) rfl ?_
  intro w1 hb1
  have hbw : Below w.heap.size w w1 := hbx.trans (hb1.mono hbx.size)
  have hbb : Below W1.heap.size W1 w1 := hbx1.trans (hb1.mono hbx1.size)
  obtain ⟨G, hG⟩ := exists_growth w1
  have g0 := hG.cell (cell_on hbb x0)
  have g1 := hG.cell (cell_on hbb y1)
  have g2 := hG.cell (cell_on hbb y2)
  have g3 := hG.cell (cell_on hbb y3)
  have g4 := hG.cell (cell_on hbb y4)
  have ug0 := hG.cell (cell_on hbw uc0)
  have ug1 := hG.cell (cell_on hbw uc1)
  have ug2 := hG.cell (cell_on hbw uc2)
  have ug3 := hG.cell (cell_on hbw uc3)
  have ug4 := hG.cell (cell_on hbw uc4)
  have ug5 := hG.cell (cell_on hbw uc5)
  have ug6 := hG.cell (cell_on hbw uc6)
  clear uc0 uc1 uc2 uc3 uc4 uc5 uc6  x0 y1 y2 y3 y4 hbb hbx hbx1 hb1
  (refine anyG_step hG (i := 0) rfl (by kernel_rfl) (by kernel_rfl) (by kernel_rfl) (fun K hK => ?_); go_simp; refine hK _ ?_; clear hK K)
  (refine anyG_step hG (i := 1) rfl (by kernel_rfl) (by kernel_rfl) (by kernel_rfl) (fun K hK => ?_); go_simp; refine hK _ ?_; clear hK K)
  (refine anyG_step hG (i := 2) rfl (by kernel_rfl) (by kernel_rfl) (by kernel_rfl) (fun K hK => ?_); go_simp; refine hK _ ?_; clear hK K)
  (refine anyG_step hG (i := 3) rfl (by kernel_rfl) (by kernel_rfl) (by kernel_rfl) (fun K hK => ?_); go_simp; refine hK _ ?_; clear hK K)
  (refine anyG_step hG (i := 4) rfl (by kernel_rfl) (by kernel_rfl) (by kernel_rfl) (fun K hK => ?_); go_simp; refine hK _ ?_; clear hK K)
  (refine anyG_step hG (i := 5) rfl (by kernel_rfl) (by kernel_rfl) (by kernel_rfl) (fun K hK => ?_); go_simp; refine hK _ ?_; clear hK K)
  (refine anyG_step hG (i := 6) rfl (by kernel_rfl) (by kernel_rfl) (by kernel_rfl) (fun K hK => ?_); go_simp; refine hK _ ?_; clear hK K)
  (refine anyG_step hG (i := 7) rfl (by kernel_rfl) (by kernel_rfl) (by kernel_rfl) (fun K hK => ?_); go_simp; refine hK _ ?_; clear hK K)
  (refine anyG_step hG (i := 8) rfl (by kernel_rfl) (by kernel_rfl) (by kernel_rfl) (fun K hK => ?_); go_simp; refine hK _ ?_; clear hK K)
  (refine anyG_step hG (i := 9) rfl (by kernel_rfl) (by kernel_rfl) (by kernel_rfl) (fun K hK => ?_); go_simp; refine hK _ ?_; clear hK K)
  (refine anyG_step hG (i := 10) rfl (by kernel_rfl) (by kernel_rfl) (by kernel_rfl) (fun K hK => ?_); go_simp; refine hK _ ?_; clear hK K)
  (refine anyG_step hG (i := 11) rfl (by kernel_rfl) (by kernel_rfl) (by kernel_rfl) (fun K hK => ?_); go_simp; refine hK _ ?_; clear hK K)
  (refine anyG_step hG (i := 12) rfl (by kernel_rfl) (by kernel_rfl) (by kernel_rfl) (fun K hK => ?_); go_simp; refine hK _ ?_; clear hK K)
  (refine anyG_step hG (i := 13) rfl (by kernel_rfl) (by kernel_rfl) (by kernel_rfl) (fun K hK => ?_); go_simp; refine hK _ ?_; clear hK K)
  clear g0 g1 g2 g3 g4 ug0 ug1 ug2 ug3 ug4 ug5 ug6  hG
  refine anyG_one (i := 14) rfl (by kernel_rfl) ?_
  intro w2 hbw2 K hK
  have hww2 : Below w.heap.size w w2 := hbw.trans (hbw2.mono hbw.size)
  have ck := link_fits Hz2.out (isTree_below hww2 HRU.out) (isTree_below hww2 HR.out)
  unfold chunkV at ck
  go_simp
  refine ck.mono ?_
  rintro e w3 ⟨p1, rfl, ht1, hb3⟩
  have hww3 : Below w.heap.size w w3 := hww2.trans (hb3.mono hww2.size)
  refine ⟨_, rfl, hK _ _ hb3 ?_⟩
  clear hK K ck
  refine anyG_one (i := 15) rfl (by kernel_rfl) ?_
  intro w4 hbw4 K hK
  have hww4 : Below w.heap.size w w4 := hww3.trans (hbw4.mono hww3.size)
  have ck := link_fits HZ.out (isTree_below hww4 HLU.out) (isTree_below hbw4 ht1)
  unfold chunkV at ck
  go_simp
  refine ck.mono ?_
  rintro e w5 ⟨p2, rfl, ht2, hb5⟩
  have hww5 : Below w.heap.size w w5 := hww4.trans (hb5.mono hww4.size)
  refine ⟨_, rfl, hK _ _ hb5 ?_⟩
  clear hK K ck
  clear ht1
  refine anyG_one (i := 16) rfl (by kernel_rfl) ?_
  intro w90 hb90 K hK
  go_simp
  refine hK _ _ (Below.refl _ w90) ?_
  clear hK K
  refine anyG_end (by kernel_rfl) ?_
  intro w91 hb91
  have hb92 := hb90.trans (hb91.mono hb90.size)
  have hw92 : Below w.heap.size w w91 := hww5.trans (hb92.mono hww5.size)
  have HT : Hid _ := isTree_below hb92 ht2
  clear hb90 hb91 hb92 ht2
  go_wp2
  go_ret
  exact ⟨_, rfl, HT.out, hw92⟩

end Go.Proofs.YtldhbjmillfjgabGreatDoor

namespace Go.Proofs.YtldhbjmillfjgabGreatDoor
open Go.RowKit
set_option linter.unusedVariables false
attribute [local go_sem] yieldsUpon okUpon

set_option maxRecDepth 100000 in
set_option maxHeartbeats 2000000 in
theorem turn_C (pl pr : Option Addr) (l a d rr : T) (c b rc : List Nat) (w : World) (hl : isTree w pl l) (hr : isTree w pr (.node (.node a b d) rc rr)) (hz : big (.node (.node l c a) b (.node d rc rr))) (hd : (T.node (.node a b d) rc rr).height = l.height + 2) (hc : rr.height < (T.node a b d).height) :
    Calls Tryz.prog 190 #[.pointer pl, chunkV c, .pointer pr] w fun e w' => ∃ p, e = .returned (.pointer p) ∧ isTree w' p (.node (.node l c a) b (.node d rc rr)) ∧ Below w.heap.size w w' := by
  have hb0 : ∀ o, Below w.heap.size w (w.alloc o) := fun o => (Below.refl _ w).alloc (Nat.le_refl _) o
  have HL : Hid (isTree w pl l) := hl
  have HR : Hid (isTree w pr (.node (.node a b d) rc rr)) := hr
  have cl := fun o => nheight_any pl l (w.alloc o) (isTree_below (hb0 o) hl)
  have cr := fun o => nheight_any pr (.node (.node a b d) rc rr) (w.alloc o) (isTree_below (hb0 o) hr)
  have hzT := hz
  obtain ⟨z1, z2, _, _⟩ := big_node hz
  obtain ⟨b1, prl, prr, rfl, ⟨uc0, uc1, uc2, uc3, uc4⟩, ⟨uc5, uc6⟩, _, _, hlu, hru⟩ := hr
  have hluT := hlu
  obtain ⟨b2, pa, pd, rfl, ⟨vc0, vc1, vc2, vc3, vc4⟩, ⟨vc5, vc6⟩, _, _, hlv, hrv⟩ := hluT
  have hq : (l.height : Int) < 1000000000 ∧ ((T.node (.node a b d) rc rr).height : Int) < 1000000000 ∧ ((T.node a b d).height : Int) < 1000000000 ∧ (rr.height : Int) < 1000000000 := by
    have e1 := (big_node hz).2.2.2
    have e2 := height_size (T.node (.node l c a) b (.node d rc rr))
    have e3 := hz.2
    simp only [T.height, T.size] at *
    omega
  have hp : 0 ≤ (l.height : Int) ∧ 0 ≤ ((T.node (.node a b d) rc rr).height : Int) := by omega
  have k0 : ((T.node (.node a b d) rc rr).height : Int) = (l.height : Int) + 2 := by rw [hd]; push_cast; rfl
  have k1 : ((l.height : Int) - (T.node (.node a b d) rc rr).height == 2) = false := by rw [beq_eq_false_iff_ne]; omega
  have k2 : ((l.height : Int) - (T.node (.node a b d) rc rr).height == -2) = true := by rw [beq_iff_eq]; omega
  have k3 : ((rr.height : Int) < ((T.node a b d).height : Int)) := by omega
  have ck := fun wx (hb : Below w.heap.size w wx) => (nheight_any (some ⟨b2, 0, none⟩) (.node a b d) wx (isTree_below hb hlu)).mono (R' := fun e w' => e = .returned (.int .i64 (T.node a b d).height) ∧ Below wx.heap.size wx w') (by rintro e w' ⟨rfl, rfl⟩; exact ⟨rfl, Below.refl _ _⟩)
  have co := fun wx (hb : Below w.heap.size w wx) => (nheight_any prr rr wx (isTree_below hb hru)).mono (R' := fun e w' => e = .returned (.int .i64 rr.height) ∧ Below wx.heap.size wx w') (by rintro e w' ⟨rfl, rfl⟩; exact ⟨rfl, Below.refl _ _⟩)
  have HLU : Hid _ := hlu
  have HRU : Hid _ := hru
  have HLV : Hid _ := hlv
  have HRV : Hid _ := hrv
  clear k0 hd hc hzT
  generalize (l.height : Int) = x1 at *
  generalize ((T.node (.node a b d) rc rr).height : Int) = x2 at *
  generalize ((T.node a b d).height : Int) = x3 at *
  generalize (rr.height : Int) = x4 at *
  have HZ : Hid _ := hz
  have Hz1 : Hid _ := z1
  have Hz2 : Hid _ := z2
  clear hz z1 z2 hlu hru hlv hrv
  have d5 := fun o => cell_on (hb0 o) uc5
  unfold chunkV
  go_enter Tryz.func190, Tryz.ntmps190
  go_wp2_with (first | (go_at_call_of 189 pl; refine (cl _).mono ?_; rintro e w1 ⟨rfl, rfl⟩) | (go_at_call_of 189 b1; refine (cr _).mono ?_; rintro e w1 ⟨rfl, rfl⟩) | fail)
  obtain ⟨W1, hW1⟩ : ∃ W1, w.alloc (.cells #[.string (bytesOf c), .int .i64 (C1 c), .int .i64 (C2 c), .int .i64 (C3 c), .int .i64 (C4 c)] 194) = W1 := ⟨_, rfl⟩
  have hbW1 : Below w.heap.size w W1 := by rw [← hW1]; exact hb0 _
  have x0 : W1.cell? ⟨w.heap.size, 0, none⟩ = some (.string (bytesOf c)) := by rw [← hW1]; simp [go_sem]
  have y1 : W1.cell? ⟨w.heap.size, 1, none⟩ = some (.int .i64 (C1 c)) := by rw [← hW1]; simp [go_sem]
  have y2 : W1.cell? ⟨w.heap.size, 2, none⟩ = some (.int .i64 (C2 c)) := by rw [← hW1]; simp [go_sem]
  have y3 : W1.cell? ⟨w.heap.size, 3, none⟩ = some (.int .i64 (C3 c)) := by rw [← hW1]; simp [go_sem]
  have y4 : W1.cell? ⟨w.heap.size, 4, none⟩ = some (.int .i64 (C4 c)) := by rw [← hW1]; simp [go_sem]
  rw [hW1]
  clear hW1 cl cr
  obtain ⟨G0, hG0⟩ := exists_growth W1
  have hb0w : ∀ x, Below w.heap.size w (G0 x) := fun x => hbW1.trans ((hG0.below x).mono hbW1.size)
  have q6 := hG0.cell (cell_on hbW1 uc6)
  have HG0 : Hid (Growth W1 G0) := hG0
  refine wp_region_grow hG0 (by kernel_rfl) (by kernel_rfl) ?_
  clear hG0 d5
  repeat (first
    | go_big_quiet_skip
    | (go_big_quiet_want; go_big_quiet_op; first | go_big_quiet_on | (apply Exists.intro; refine ⟨fun _ => ?_, ?_⟩; (first | (go_at_call_of 189 b2; exact grow_of HG0.out (ck _ (hb0w _))) | (go_at_call_of 189 prr; exact grow_of HG0.out (co _ (hb0w _)))); go_big_quiet_on)))
  refine wpQuiet_nil ?_
  rintro w0 ⟨xx, rfl⟩
  go_wp2
  have hbx := hb0w xx
  have hbx1 : Below W1.heap.size W1 (G0 xx) := HG0.out.below xx
  obtain ⟨w0, hw0⟩ : ∃ w0, G0 xx = w0 := ⟨_, rfl⟩
  rw [hw0] at hbx hbx1 ⊢
  clear hw0 q6 HG0 hb0w ck co
  refine wp_region_rel 26 26 (by kernel_rfl) rfl ?_
  intro w1 hb1
  have hbw : Below w.heap.size w w1 := hbx.trans (hb1.mono hbx.size)
  have hbb : Below W1.heap.size W1 w1 := hbx1.trans (hb1.mono hbx1.size)
  obtain ⟨G, hG⟩ := exists_growth w1
  have g0 := hG.cell (cell_on hbb x0)
  have g1 := hG.cell (cell_on hbb y1)
  have g2 := hG.cell (cell_on hbb y2)
  have g3 := hG.cell (cell_on hbb y3)
  have g4 := hG.cell (cell_on hbb y4)
  have ug0 := hG.cell (cell_on hbw uc0)
  have ug1 := hG.cell (cell_on hbw uc1)
  have ug2 := hG.cell (cell_on hbw uc2)
  have ug3 := hG.cell (cell_on hbw uc3)
  have ug4 := hG.cell (cell_on hbw uc4)
  have ug5 := hG.cell (cell_on hbw uc5)
  have ug6 := hG.cell (cell_on hbw uc6)
  have vg0 := hG.cell (cell_on hbw vc0)
  have vg1 := hG.cell (cell_on hbw vc1)
  have vg2 := hG.cell (cell_on hbw vc2)
  have vg3 := hG.cell (cell_on hbw vc3)
  have vg4 := hG.cell (cell_on hbw vc4)
  have vg5 := hG.cell (cell_on hbw vc5)
  have vg6 := hG.cell (cell_on hbw vc6)
  clear uc0 uc1 uc2 uc3 uc4 uc5 uc6 vc0 vc1 vc2 vc3 vc4 vc5 vc6 x0 y1 y2 y3 y4 hbb hbx hbx1 hb1
  (refine anyG_step hG (i := 0) rfl (by kernel_rfl) (by kernel_rfl) (by kernel_rfl) (fun K hK => ?_); go_simp; refine hK _ ?_; clear hK K)
  (refine anyG_step hG (i := 1) rfl (by kernel_rfl) (by kernel_rfl) (by kernel_rfl) (fun K hK => ?_); go_simp; refine hK _ ?_; clear hK K)
  (refine anyG_step hG (i := 2) rfl (by kernel_rfl) (by kernel_rfl) (by kernel_rfl) (fun K hK => ?_); go_simp; refine hK _ ?_; clear hK K)
  (refine anyG_step hG (i := 3) rfl (by kernel_rfl) (by kernel_rfl) (by kernel_rfl) (fun K hK => ?_); go_simp; refine hK _ ?_; clear hK K)
  (refine anyG_step hG (i := 4) rfl (by kernel_rfl) (by kernel_rfl) (by kernel_rfl) (fun K hK => ?_); go_simp; refine hK _ ?_; clear hK K)
  (refine anyG_step hG (i := 5) rfl (by kernel_rfl) (by kernel_rfl) (by kernel_rfl) (fun K hK => ?_); go_simp; refine hK _ ?_; clear hK K)
  (refine anyG_step hG (i := 7) rfl (by kernel_rfl) (by kernel_rfl) (by kernel_rfl) (fun K hK => ?_); go_simp; refine hK _ ?_; clear hK K)
  (refine anyG_step hG (i := 8) rfl (by kernel_rfl) (by kernel_rfl) (by kernel_rfl) (fun K hK => ?_); go_simp; refine hK _ ?_; clear hK K)
  (refine anyG_step hG (i := 9) rfl (by kernel_rfl) (by kernel_rfl) (by kernel_rfl) (fun K hK => ?_); go_simp; refine hK _ ?_; clear hK K)
  (refine anyG_step hG (i := 10) rfl (by kernel_rfl) (by kernel_rfl) (by kernel_rfl) (fun K hK => ?_); go_simp; refine hK _ ?_; clear hK K)
  (refine anyG_step hG (i := 11) rfl (by kernel_rfl) (by kernel_rfl) (by kernel_rfl) (fun K hK => ?_); go_simp; refine hK _ ?_; clear hK K)
  (refine anyG_step hG (i := 12) rfl (by kernel_rfl) (by kernel_rfl) (by kernel_rfl) (fun K hK => ?_); go_simp; refine hK _ ?_; clear hK K)
  (refine anyG_step hG (i := 13) rfl (by kernel_rfl) (by kernel_rfl) (by kernel_rfl) (fun K hK => ?_); go_simp; refine hK _ ?_; clear hK K)
  (refine anyG_step hG (i := 14) rfl (by kernel_rfl) (by kernel_rfl) (by kernel_rfl) (fun K hK => ?_); go_simp; refine hK _ ?_; clear hK K)
  (refine anyG_step hG (i := 15) rfl (by kernel_rfl) (by kernel_rfl) (by kernel_rfl) (fun K hK => ?_); go_simp; refine hK _ ?_; clear hK K)
  (refine anyG_step hG (i := 16) rfl (by kernel_rfl) (by kernel_rfl) (by kernel_rfl) (fun K hK => ?_); go_simp; refine hK _ ?_; clear hK K)
  (refine anyG_step hG (i := 17) rfl (by kernel_rfl) (by kernel_rfl) (by kernel_rfl) (fun K hK => ?_); go_simp; refine hK _ ?_; clear hK K)
  (refine anyG_step hG (i := 18) rfl (by kernel_rfl) (by kernel_rfl) (by kernel_rfl) (fun K hK => ?_); go_simp; refine hK _ ?_; clear hK K)
  (refine anyG_step hG (i := 19) rfl (by kernel_rfl) (by kernel_rfl) (by kernel_rfl) (fun K hK => ?_); go_simp; refine hK _ ?_; clear hK K)
  (refine anyG_step hG (i := 20) rfl (by kernel_rfl) (by kernel_rfl) (by kernel_rfl) (fun K hK => ?_); go_simp; refine hK _ ?_; clear hK K)
  (refine anyG_step hG (i := 21) rfl (by kernel_rfl) (by kernel_rfl) (by kernel_rfl) (fun K hK => ?_); go_simp; refine hK _ ?_; clear hK K)
  (refine anyG_step hG (i := 22) rfl (by kernel_rfl) (by kernel_rfl) (by kernel_rfl) (fun K hK => ?_); go_simp; refine hK _ ?_; clear hK K)
  clear g0 g1 g2 g3 g4 ug0 ug1 ug2 ug3 ug4 ug5 ug6 vg0 vg1 vg2 vg3 vg4 vg5 vg6 hG
  refine anyG_one (i := 6) rfl (by kernel_rfl) ?_
  intro w2 hbw2 K hK
  have hww2 : Below w.heap.size w w2 := hbw.trans (hbw2.mono hbw.size)
  have ck := link_fits Hz1.out (isTree_below hww2 HL.out) (isTree_below hww2 HLV.out)
  unfold chunkV at ck
  go_simp
  refine ck.mono ?_
  rintro e w3 ⟨p1, rfl, ht1, hb3⟩
  have hww3 : Below w.heap.size w w3 := hww2.trans (hb3.mono hww2.size)
  refine ⟨_, rfl, hK _ _ hb3 ?_⟩
  clear hK K ck
  refine anyG_one (i := 23) rfl (by kernel_rfl) ?_
  intro w4 hbw4 K hK
  have hww4 : Below w.heap.size w w4 := hww3.trans (hbw4.mono hww3.size)
  have ck := link_fits Hz2.out (isTree_below hww4 HRV.out) (isTree_below hww4 HRU.out)
  unfold chunkV at ck
  go_simp
  refine ck.mono ?_
  rintro e w5 ⟨p2, rfl, ht2, hb5⟩
  have hww5 : Below w.heap.size w w5 := hww4.trans (hb5.mono hww4.size)
  refine ⟨_, rfl, hK _ _ hb5 ?_⟩
  clear hK K ck
  have ht1' := isTree_below (hbw4.trans (hb5.mono hbw4.size)) ht1
  refine anyG_one (i := 24) rfl (by kernel_rfl) ?_
  intro w6 hbw6 K hK
  have hww6 : Below w.heap.size w w6 := hww5.trans (hbw6.mono hww5.size)
  have ck := link_fits HZ.out (isTree_below hbw6 ht1') (isTree_below hbw6 ht2)
  unfold chunkV at ck
  go_simp
  refine ck.mono ?_
  rintro e w7 ⟨p3, rfl, ht3, hb7⟩
  have hww7 : Below w.heap.size w w7 := hww6.trans (hb7.mono hww6.size)
  refine ⟨_, rfl, hK _ _ hb7 ?_⟩
  clear hK K ck
  clear ht1 ht2 ht1'
  refine anyG_one (i := 25) rfl (by kernel_rfl) ?_
  intro w90 hb90 K hK
  go_simp
  refine hK _ _ (Below.refl _ w90) ?_
  clear hK K
  refine anyG_end (by kernel_rfl) ?_
  intro w91 hb91
  have hb92 := hb90.trans (hb91.mono hb90.size)
  have hw92 : Below w.heap.size w w91 := hww7.trans (hb92.mono hww7.size)
  have HT : Hid _ := isTree_below hb92 ht3
  clear hb90 hb91 hb92 ht3
  go_wp2
  go_ret
  exact ⟨_, rfl, HT.out, hw92⟩

end Go.Proofs.YtldhbjmillfjgabGreatDoor

namespace Go.Proofs.YtldhbjmillfjgabGreatDoor
open Go.RowKit
set_option linter.unusedVariables false
attribute [local go_sem] yieldsUpon okUpon

set_option maxRecDepth 100000 in
set_option maxHeartbeats 2000000 in
theorem turn_D (pl pr : Option Addr) (l rl rr : T) (c rc : List Nat) (w : World) (hl : isTree w pl l) (hr : isTree w pr (.node rl rc rr)) (hz : big (.node (.node l c rl) rc rr)) (hd : (T.node rl rc rr).height = l.height + 2) (hc : ¬ rr.height < rl.height) :
    Calls Tryz.prog 190 #[.pointer pl, chunkV c, .pointer pr] w fun e w' => ∃ p, e = .returned (.pointer p) ∧ isTree w' p (.node (.node l c rl) rc rr) ∧ Below w.heap.size w w' := by
  have hb0 : ∀ o, Below w.heap.size w (w.alloc o) := fun o => (Below.refl _ w).alloc (Nat.le_refl _) o
  have HL : Hid (isTree w pl l) := hl
  have HR : Hid (isTree w pr (.node rl rc rr)) := hr
  have cl := fun o => nheight_any pl l (w.alloc o) (isTree_below (hb0 o) hl)
  have cr := fun o => nheight_any pr (.node rl rc rr) (w.alloc o) (isTree_below (hb0 o) hr)
  have hzT := hz
  obtain ⟨z1, _, _, _⟩ := big_node hz
  obtain ⟨b1, prl, prr, rfl, ⟨uc0, uc1, uc2, uc3, uc4⟩, ⟨uc5, uc6⟩, _, _, hlu, hru⟩ := hr
  have hq : (l.height : Int) < 1000000000 ∧ ((T.node rl rc rr).height : Int) < 1000000000 ∧ (rl.height : Int) < 1000000000 ∧ (rr.height : Int) < 1000000000 := by
    have e1 := (big_node hz).2.2.2
    have e2 := height_size (T.node (.node l c rl) rc rr)
    have e3 := hz.2
    simp only [T.height, T.size] at *
    omega
  have hp : 0 ≤ (l.height : Int) ∧ 0 ≤ ((T.node rl rc rr).height : Int) := by omega
  have k0 : ((T.node rl rc rr).height : Int) = (l.height : Int) + 2 := by rw [hd]; push_cast; rfl
  have k1 : ((l.height : Int) - (T.node rl rc rr).height == 2) = false := by rw [beq_eq_false_iff_ne]; omega
  have k2 : ((l.height : Int) - (T.node rl rc rr).height == -2) = true := by rw [beq_iff_eq]; omega
  have k3 : ¬ ((rr.height : Int) < (rl.height : Int)) := by omega
  have ck := fun wx (hb : Below w.heap.size w wx) => (nheight_any prl rl wx (isTree_below hb hlu)).mono (R' := fun e w' => e = .returned (.int .i64 rl.height) ∧ Below wx.heap.size wx w') (by rintro e w' ⟨rfl, rfl⟩; exact ⟨rfl, Below.refl _ _⟩)
  have co := fun wx (hb : Below w.heap.size w wx) => (nheight_any prr rr wx (isTree_below hb hru)).mono (R' := fun e w' => e = .returned (.int .i64 rr.height) ∧ Below wx.heap.size wx w') (by rintro e w' ⟨rfl, rfl⟩; exact ⟨rfl, Below.refl _ _⟩)
  have HLU : Hid _ := hlu
  have HRU : Hid _ := hru
  clear k0 hd hc hzT
  generalize (l.height : Int) = x1 at *
  generalize ((T.node rl rc rr).height : Int) = x2 at *
  generalize (rl.height : Int) = x3 at *
  generalize (rr.height : Int) = x4 at *
  have HZ : Hid _ := hz
  have Hz1 : Hid _ := z1
  clear hz z1 hlu hru
  have d5 := fun o => cell_on (hb0 o) uc5
  unfold chunkV
  go_enter Tryz.func190, Tryz.ntmps190
  go_wp2_with (first | (go_at_call_of 189 pl; refine (cl _).mono ?_; rintro e w1 ⟨rfl, rfl⟩) | (go_at_call_of 189 b1; refine (cr _).mono ?_; rintro e w1 ⟨rfl, rfl⟩) | fail)
  obtain ⟨W1, hW1⟩ : ∃ W1, w.alloc (.cells #[.string (bytesOf c), .int .i64 (C1 c), .int .i64 (C2 c), .int .i64 (C3 c), .int .i64 (C4 c)] 194) = W1 := ⟨_, rfl⟩
  have hbW1 : Below w.heap.size w W1 := by rw [← hW1]; exact hb0 _
  have x0 : W1.cell? ⟨w.heap.size, 0, none⟩ = some (.string (bytesOf c)) := by rw [← hW1]; simp [go_sem]
  have y1 : W1.cell? ⟨w.heap.size, 1, none⟩ = some (.int .i64 (C1 c)) := by rw [← hW1]; simp [go_sem]
  have y2 : W1.cell? ⟨w.heap.size, 2, none⟩ = some (.int .i64 (C2 c)) := by rw [← hW1]; simp [go_sem]
  have y3 : W1.cell? ⟨w.heap.size, 3, none⟩ = some (.int .i64 (C3 c)) := by rw [← hW1]; simp [go_sem]
  have y4 : W1.cell? ⟨w.heap.size, 4, none⟩ = some (.int .i64 (C4 c)) := by rw [← hW1]; simp [go_sem]
  rw [hW1]
  clear hW1 cl cr
  obtain ⟨G0, hG0⟩ := exists_growth W1
  have hb0w : ∀ x, Below w.heap.size w (G0 x) := fun x => hbW1.trans ((hG0.below x).mono hbW1.size)
  have q6 := hG0.cell (cell_on hbW1 uc6)
  have HG0 : Hid (Growth W1 G0) := hG0
  refine wp_region_grow hG0 (by kernel_rfl) (by kernel_rfl) ?_
  clear hG0 d5
  repeat (first
    | go_big_quiet_skip
    | (go_big_quiet_want; go_big_quiet_op; first | go_big_quiet_on | (apply Exists.intro; refine ⟨fun _ => ?_, ?_⟩; (first | (go_at_call_of 189 prl; exact grow_of HG0.out (ck _ (hb0w _))) | (go_at_call_of 189 prr; exact grow_of HG0.out (co _ (hb0w _)))); go_big_quiet_on)))
  refine wpQuiet_nil ?_
  rintro w0 ⟨xx, rfl⟩
  go_wp2
  have hbx := hb0w xx
  have hbx1 : Below W1.heap.size W1 (G0 xx) := HG0.out.below xx
  obtain ⟨w0, hw0⟩ : ∃ w0, G0 xx = w0 := ⟨_, rfl⟩
  rw [hw0] at hbx hbx1 ⊢
  clear hw0 q6 HG0 hb0w ck co
  refine wp_region_rel 17 17 (by kernel_rfl) rfl ?_
  intro w1 hb1
  have hbw : Below w.heap.size w w1 := hbx.trans (hb1.mono hbx.size)
  have hbb : Below W1.heap.size W1 w1 := hbx1.trans (hb1.mono hbx1.size)
  obtain ⟨G, hG⟩ := exists_growth w1
  have g0 := hG.cell (cell_on hbb x0)
  have g1 := hG.cell (cell_on hbb y1)
  have g2 := hG.cell (cell_on hbb y2)
  have g3 := hG.cell (cell_on hbb y3)
  have g4 := hG.cell (cell_on hbb y4)
  have ug0 := hG.cell (cell_on hbw uc0)
  have ug1 := hG.cell (cell_on hbw uc1)
  have ug2 := hG.cell (cell_on hbw uc2)
  have ug3 := hG.cell (cell_on hbw uc3)
  have ug4 := hG.cell (cell_on hbw uc4)
  have ug5 := hG.cell (cell_on hbw uc5)
  have ug6 := hG.cell (cell_on hbw uc6)
  clear uc0 uc1 uc2 uc3 uc4 uc5 uc6  x0 y1 y2 y3 y4 hbb hbx hbx1 hb1
  (refine anyG_step hG (i := 0) rfl (by kernel_rfl) (by kernel_rfl) (by kernel_rfl) (fun K hK => ?_); go_simp; refine hK _ ?_; clear hK K)
  (refine anyG_step hG (i := 1) rfl (by kernel_rfl) (by kernel_rfl) (by kernel_rfl) (fun K hK => ?_); go_simp; refine hK _ ?_; clear hK K)
  (refine anyG_step hG (i := 2) rfl (by kernel_rfl) (by kernel_rfl) (by kernel_rfl) (fun K hK => ?_); go_simp; refine hK _ ?_; clear hK K)
  (refine anyG_step hG (i := 3) rfl (by kernel_rfl) (by kernel_rfl) (by kernel_rfl) (fun K hK => ?_); go_simp; refine hK _ ?_; clear hK K)
  (refine anyG_step hG (i := 4) rfl (by kernel_rfl) (by kernel_rfl) (by kernel_rfl) (fun K hK => ?_); go_simp; refine hK _ ?_; clear hK K)
  (refine anyG_step hG (i := 5) rfl (by kernel_rfl) (by kernel_rfl) (by kernel_rfl) (fun K hK => ?_); go_simp; refine hK _ ?_; clear hK K)
  (refine anyG_step hG (i := 7) rfl (by kernel_rfl) (by kernel_rfl) (by kernel_rfl) (fun K hK => ?_); go_simp; refine hK _ ?_; clear hK K)
  (refine anyG_step hG (i := 8) rfl (by kernel_rfl) (by kernel_rfl) (by kernel_rfl) (fun K hK => ?_); go_simp; refine hK _ ?_; clear hK K)
  (refine anyG_step hG (i := 9) rfl (by kernel_rfl) (by kernel_rfl) (by kernel_rfl) (fun K hK => ?_); go_simp; refine hK _ ?_; clear hK K)
  (refine anyG_step hG (i := 10) rfl (by kernel_rfl) (by kernel_rfl) (by kernel_rfl) (fun K hK => ?_); go_simp; refine hK _ ?_; clear hK K)
  (refine anyG_step hG (i := 11) rfl (by kernel_rfl) (by kernel_rfl) (by kernel_rfl) (fun K hK => ?_); go_simp; refine hK _ ?_; clear hK K)
  (refine anyG_step hG (i := 12) rfl (by kernel_rfl) (by kernel_rfl) (by kernel_rfl) (fun K hK => ?_); go_simp; refine hK _ ?_; clear hK K)
  (refine anyG_step hG (i := 13) rfl (by kernel_rfl) (by kernel_rfl) (by kernel_rfl) (fun K hK => ?_); go_simp; refine hK _ ?_; clear hK K)
  (refine anyG_step hG (i := 14) rfl (by kernel_rfl) (by kernel_rfl) (by kernel_rfl) (fun K hK => ?_); go_simp; refine hK _ ?_; clear hK K)
  clear g0 g1 g2 g3 g4 ug0 ug1 ug2 ug3 ug4 ug5 ug6  hG
  refine anyG_one (i := 6) rfl (by kernel_rfl) ?_
  intro w2 hbw2 K hK
  have hww2 : Below w.heap.size w w2 := hbw.trans (hbw2.mono hbw.size)
  have ck := link_fits Hz1.out (isTree_below hww2 HL.out) (isTree_below hww2 HLU.out)
  unfold chunkV at ck
  go_simp
  refine ck.mono ?_
  rintro e w3 ⟨p1, rfl, ht1, hb3⟩
  have hww3 : Below w.heap.size w w3 := hww2.trans (hb3.mono hww2.size)
  refine ⟨_, rfl, hK _ _ hb3 ?_⟩
  clear hK K ck
  refine anyG_one (i := 15) rfl (by kernel_rfl) ?_
  intro w4 hbw4 K hK
  have hww4 : Below w.heap.size w w4 := hww3.trans (hbw4.mono hww3.size)
  have ck := link_fits HZ.out (isTree_below hbw4 ht1) (isTree_below hww4 HRU.out)
  unfold chunkV at ck
  go_simp
  refine ck.mono ?_
  rintro e w5 ⟨p2, rfl, ht2, hb5⟩
  have hww5 : Below w.heap.size w w5 := hww4.trans (hb5.mono hww4.size)
  refine ⟨_, rfl, hK _ _ hb5 ?_⟩
  clear hK K ck
  clear ht1
  refine anyG_one (i := 16) rfl (by kernel_rfl) ?_
  intro w90 hb90 K hK
  go_simp
  refine hK _ _ (Below.refl _ w90) ?_
  clear hK K
  refine anyG_end (by kernel_rfl) ?_
  intro w91 hb91
  have hb92 := hb90.trans (hb91.mono hb90.size)
  have hw92 : Below w.heap.size w w91 := hww5.trans (hb92.mono hww5.size)
  have HT : Hid _ := isTree_below hb92 ht2
  clear hb90 hb91 hb92 ht2
  go_wp2
  go_ret
  exact ⟨_, rfl, HT.out, hw92⟩

end Go.Proofs.YtldhbjmillfjgabGreatDoor

namespace Go.Proofs.YtldhbjmillfjgabGreatDoor
open Go.RowKit
set_option linter.unusedVariables false

theorem turn_any (pl pr : Option Addr) (l r : T) (c : List Nat) (w : World) (hl : isTree w pl l) (hr : isTree w pr r) (hz : big (.node l c r)) :
    Calls Tryz.prog 190 #[.pointer pl, chunkV c, .pointer pr] w fun e w' => ∃ p, e = .returned (.pointer p) ∧ isTree w' p (turnT l c r) ∧ Below w.heap.size w w' := by
  have hb : big (turnT l c r) := big_same hz (by rw [turnT_chunks]; rfl)
  by_cases h1 : l.height = r.height + 2
  · unfold turnT at hb ⊢
    rw [if_pos h1] at hb ⊢
    match l, hl, hb, h1 with
    | .nil, _, _, h1 => simp [T.height] at h1
    | .node ll lc .nil, hl, hb, h1 => exact turn_B pl pr ll .nil r c lc w hl hr hb h1 (by simp [T.height])
    | .node ll lc (.node a b d), hl, hb, h1 =>
      by_cases hc : ll.height < (T.node a b d).height
      · simp only [hc, if_true] at hb ⊢
        exact turn_A pl pr ll a d r c lc b w hl hr hb h1 hc
      · simp only [hc, if_false] at hb ⊢
        exact turn_B pl pr ll (.node a b d) r c lc w hl hr hb h1 hc
  · by_cases h2 : r.height = l.height + 2
    · unfold turnT at hb ⊢
      rw [if_neg h1, if_pos h2] at hb ⊢
      match r, hr, hb, h2 with
      | .nil, _, _, h2 => simp [T.height] at h2
      | .node .nil rc rr, hr, hb, h2 => exact turn_D pl pr l .nil rr c rc w hl hr hb h2 (by simp [T.height])
      | .node (.node a b d) rc rr, hr, hb, h2 =>
        by_cases hc : rr.height < (T.node a b d).height
        · simp only [hc, if_true] at hb ⊢
          exact turn_C pl pr l a d rr c b rc w hl hr hb h2 hc
        · simp only [hc, if_false] at hb ⊢
          exact turn_D pl pr l (.node a b d) rr c rc w hl hr hb h2 hc
    · unfold turnT
      rw [if_neg h1, if_neg h2]
      exact turn_E pl pr l r c w hl hr hz h1 h2
end Go.Proofs.YtldhbjmillfjgabGreatDoor

namespace Go.Proofs.YtldhbjmillfjgabGreatDoor
open Go.RowKit
set_option linter.unusedVariables false
attribute [local go_sem] yieldsUpon okUpon

/-- What a joined tree is. -/
def joined (l r : T) (c : List Nat) (t : T) : Prop := t.chunks = l.chunks ++ [c] ++ r.chunks ∧ t.bal ∧ max l.height r.height ≤ t.height ∧ t.height ≤ 1 + max l.height r.height
theorem joined_same {l r : T} (c : List Nat) (hl : l.bal) (hr : r.bal) (h1 : l.height ≤ r.height + 1) (h2 : r.height ≤ l.height + 1) : joined l r c (.node l c r) :=
  ⟨rfl, ⟨hl, hr, h1, h2⟩, by show _ ≤ 1 + max l.height r.height; omega, Nat.le_refl _⟩
theorem joined_left {ll lr r t : T} {lc c : List Nat} (hl : (T.node ll lc lr).bal) (hr : r.bal) (h : r.height + 1 < (T.node ll lc lr).height) (hj : joined lr r c t) : joined (.node ll lc lr) r c (turnT ll lc t) := by
  obtain ⟨j1, j2, j3, j4⟩ := hj
  obtain ⟨b1, b2, b3, b4⟩ := hl
  have eh : (T.node ll lc lr).height = 1 + max ll.height lr.height := rfl
  obtain ⟨t1, t2, t3, t4⟩ := turnT_bal lc b1 j2 (by omega) (by omega)
  refine ⟨by rw [turnT_chunks, j1]; simp [T.chunks], t1, ?_, ?_⟩
  · by_cases h1 : ll.height ≤ t.height + 1
    · by_cases h2 : t.height ≤ ll.height + 1
      · have := t2 h1 h2; omega
      · omega
    · omega
  · by_cases h1 : ll.height ≤ t.height + 1
    · by_cases h2 : t.height ≤ ll.height + 1
      · have := t2 h1 h2; omega
      · omega
    · omega
theorem joined_right {l rl rr t : T} {rc c : List Nat} (hl : l.bal) (hr : (T.node rl rc rr).bal) (h : l.height + 1 < (T.node rl rc rr).height) (hj : joined l rl c t) : joined l (.node rl rc rr) c (turnT t rc rr) := by
  obtain ⟨j1, j2, j3, j4⟩ := hj
  obtain ⟨b1, b2, b3, b4⟩ := hr
  have eh : (T.node rl rc rr).height = 1 + max rl.height rr.height := rfl
  obtain ⟨t1, t2, t3, t4⟩ := turnT_bal rc j2 b2 (by omega) (by omega)
  refine ⟨by rw [turnT_chunks, j1]; simp [T.chunks], t1, ?_, ?_⟩
  · by_cases h1 : t.height ≤ rr.height + 1
    · by_cases h2 : rr.height ≤ t.height + 1
      · have := t2 h1 h2; omega
      · omega
    · omega
  · by_cases h1 : t.height ≤ rr.height + 1
    · by_cases h2 : rr.height ≤ t.height + 1
      · have := t2 h1 h2; omega
      · omega
    · omega
theorem big_join {l r t : T} {c : List Nat} (h : big (.node l c r)) (hj : joined l r c t) : big t := big_same h hj.1

set_option maxRecDepth 100000 in
set_option maxHeartbeats 2000000 in
theorem join_E (pl pr : Option Addr) (l r : T) (c : List Nat) (w : World) (hl : isTree w pl l) (hr : isTree w pr r) (hz : big (.node l c r)) (h1 : l.height ≤ r.height + 1) (h2 : r.height ≤ l.height + 1) :
    Calls Tryz.prog 159 #[.pointer pl, chunkV c, .pointer pr] w fun e w' => ∃ p, e = .returned (.pointer p) ∧ isTree w' p (.node l c r) ∧ Below w.heap.size w w' := by
  have hb0 : ∀ o, Below w.heap.size w (w.alloc o) := fun o => (Below.refl _ w).alloc (Nat.le_refl _) o
  have cl := fun o => nheight_any pl l (w.alloc o) (isTree_below (hb0 o) hl)
  have cr := fun o => nheight_any pr r (w.alloc o) (isTree_below (hb0 o) hr)
  have ck := fun o => link_fits hz (isTree_below (hb0 o) hl) (isTree_below (hb0 o) hr)
  obtain ⟨_, _, _, _, _, s3, s4⟩ := big_node hz
  have k1 : ¬ (1 < (l.height : Int) - r.height) := by omega
  have k2 : ¬ ((l.height : Int) - r.height < -1) := by omega
  have k3 : 0 ≤ (l.height : Int) ∧ (l.height : Int) < 1000000000 := by omega
  have k4 : 0 ≤ (r.height : Int) ∧ (r.height : Int) < 1000000000 := by omega
  clear h1 h2 s3 s4 hz
  have HLR : Hid (isTree w pl l ∧ isTree w pr r) := ⟨hl, hr⟩
  clear hl hr
  generalize (l.height : Int) = x1 at *
  generalize (r.height : Int) = x2 at *
  unfold chunkV at *
  go_enter Tryz.func159, Tryz.ntmps159
  go_wp2_with (first | (go_at_call_of 189 pl; refine (cl _).mono ?_; rintro e w1 ⟨rfl, rfl⟩) | (go_at_call_of 189 pr; refine (cr _).mono ?_; rintro e w1 ⟨rfl, rfl⟩) | (go_at_call 161; refine (ck _).mono ?_; rintro e w2 ⟨p, rfl, ht, hb⟩; have HT : Hid _ := ht; clear ht) | fail)
  go_ret
  exact ⟨p, rfl, HT.out, (hb0 _).trans (hb.mono (hb0 _).size)⟩

set_option maxRecDepth 100000 in
set_option maxHeartbeats 2000000 in
theorem join_L (pl pr : Option Addr) (ll lr r : T) (c lc : List Nat) (w : World) (hl : isTree w pl (.node ll lc lr)) (hr : isTree w pr r) (hz : big (.node (.node ll lc lr) c r)) (hd : r.height + 1 < (T.node ll lc lr).height) (hbl : (T.node ll lc lr).bal) (hbr : r.bal)
    (ih : ∀ (p1 p2 : Option Addr) (w : World), isTree w p1 lr → isTree w p2 r → Calls Tryz.prog 159 #[.pointer p1, chunkV c, .pointer p2] w fun e w' => ∃ p t, e = .returned (.pointer p) ∧ isTree w' p t ∧ joined lr r c t ∧ Below w.heap.size w w') :
    Calls Tryz.prog 159 #[.pointer pl, chunkV c, .pointer pr] w fun e w' => ∃ p t, e = .returned (.pointer p) ∧ isTree w' p t ∧ joined (.node ll lc lr) r c t ∧ Below w.heap.size w w' := by
  have hb0 : ∀ o, Below w.heap.size w (w.alloc o) := fun o => (Below.refl _ w).alloc (Nat.le_refl _) o
  have HL : Hid (isTree w pl (.node ll lc lr)) := hl
  have HR : Hid (isTree w pr r) := hr
  have cl := fun o => nheight_any pl (.node ll lc lr) (w.alloc o) (isTree_below (hb0 o) hl)
  have cr := fun o => nheight_any pr r (w.alloc o) (isTree_below (hb0 o) hr)
  have HJ : Hid (∀ t, joined lr r c t → joined (.node ll lc lr) r c (turnT ll lc t) ∧ big (.node ll lc t)) := fun t ht => by
    have hj := joined_left hbl hbr hd ht
    exact ⟨hj, big_same (big_join hz hj) (by rw [turnT_chunks]; rfl)⟩
  have IH : Hid _ := ih
  obtain ⟨_, _, _, _, _, s3, s4⟩ := big_node hz
  have k1 : (1 < ((T.node ll lc lr).height : Int) - r.height) := by omega
  have k2 : ¬ (((T.node ll lc lr).height : Int) - r.height < -1) := by omega
  have k3 : 0 ≤ ((T.node ll lc lr).height : Int) ∧ ((T.node ll lc lr).height : Int) < 1000000000 := by omega
  have k4 : 0 ≤ (r.height : Int) ∧ (r.height : Int) < 1000000000 := by omega
  clear hd hbl hbr hz s3 s4 ih
  obtain ⟨b1, qa, qb, rfl, ⟨uc0, uc1, uc2, uc3, uc4⟩, ⟨uc5, uc6⟩, _, _, hlu, hru⟩ := hl
  have HLU : Hid _ := hlu
  have HRU : Hid _ := hru
  clear hlu hru
  generalize ((T.node ll lc lr).height : Int) = x1 at *
  generalize (r.height : Int) = x2 at *
  unfold chunkV
  go_enter Tryz.func159, Tryz.ntmps159
  go_wp2_with (first | (go_at_call_of 189 b1; refine (cl _).mono ?_; rintro e w1 ⟨rfl, rfl⟩) | (go_at_call_of 189 pr; refine (cr _).mono ?_; rintro e w1 ⟨rfl, rfl⟩) | fail)
  obtain ⟨W1, hW1⟩ : ∃ W1, w.alloc (.cells #[.string (bytesOf c), .int .i64 (C1 c), .int .i64 (C2 c), .int .i64 (C3 c), .int .i64 (C4 c)] 194) = W1 := ⟨_, rfl⟩
  have hbW1 : Below w.heap.size w W1 := by rw [← hW1]; exact hb0 _
  have x0 : W1.cell? ⟨w.heap.size, 0, none⟩ = some (.string (bytesOf c)) := by rw [← hW1]; simp [go_sem]
  have y1 : W1.cell? ⟨w.heap.size, 1, none⟩ = some (.int .i64 (C1 c)) := by rw [← hW1]; simp [go_sem]
  have y2 : W1.cell? ⟨w.heap.size, 2, none⟩ = some (.int .i64 (C2 c)) := by rw [← hW1]; simp [go_sem]
  have y3 : W1.cell? ⟨w.heap.size, 3, none⟩ = some (.int .i64 (C3 c)) := by rw [← hW1]; simp [go_sem]
  have y4 : W1.cell? ⟨w.heap.size, 4, none⟩ = some (.int .i64 (C4 c)) := by rw [← hW1]; simp [go_sem]
  rw [hW1]
  clear hW1 cl cr
  refine wp_region_rel 17 17 (by kernel_rfl) rfl ?_
  intro w1 hbb
  have hbw : Below w.heap.size w w1 := hbW1.trans (hbb.mono hbW1.size)
  obtain ⟨G, hG⟩ := exists_growth w1
  have g0 := hG.cell (cell_on hbb x0)
  have g1 := hG.cell (cell_on hbb y1)
  have g2 := hG.cell (cell_on hbb y2)
  have g3 := hG.cell (cell_on hbb y3)
  have g4 := hG.cell (cell_on hbb y4)
  have ug0 := hG.cell (cell_on hbw uc0)
  have ug1 := hG.cell (cell_on hbw uc1)
  have ug2 := hG.cell (cell_on hbw uc2)
  have ug3 := hG.cell (cell_on hbw uc3)
  have ug4 := hG.cell (cell_on hbw uc4)
  have ug5 := hG.cell (cell_on hbw uc5)
  have ug6 := hG.cell (cell_on hbw uc6)
  clear uc0 uc1 uc2 uc3 uc4 uc5 uc6 x0 y1 y2 y3 y4 hbb hbW1
  (refine anyG_step hG (i := 0) rfl (by kernel_rfl) (by kernel_rfl) (by kernel_rfl) (fun K hK => ?_); go_simp; refine hK _ ?_; clear hK K)
  (refine anyG_step hG (i := 1) rfl (by kernel_rfl) (by kernel_rfl) (by kernel_rfl) (fun K hK => ?_); go_simp; refine hK _ ?_; clear hK K)
  (refine anyG_step hG (i := 2) rfl (by kernel_rfl) (by kernel_rfl) (by kernel_rfl) (fun K hK => ?_); go_simp; refine hK _ ?_; clear hK K)
  (refine anyG_step hG (i := 3) rfl (by kernel_rfl) (by kernel_rfl) (by kernel_rfl) (fun K hK => ?_); go_simp; refine hK _ ?_; clear hK K)
  (refine anyG_step hG (i := 4) rfl (by kernel_rfl) (by kernel_rfl) (by kernel_rfl) (fun K hK => ?_); go_simp; refine hK _ ?_; clear hK K)
  (refine anyG_step hG (i := 5) rfl (by kernel_rfl) (by kernel_rfl) (by kernel_rfl) (fun K hK => ?_); go_simp; refine hK _ ?_; clear hK K)
  (refine anyG_step hG (i := 6) rfl (by kernel_rfl) (by kernel_rfl) (by kernel_rfl) (fun K hK => ?_); go_simp; refine hK _ ?_; clear hK K)
  (refine anyG_step hG (i := 7) rfl (by kernel_rfl) (by kernel_rfl) (by kernel_rfl) (fun K hK => ?_); go_simp; refine hK _ ?_; clear hK K)
  (refine anyG_step hG (i := 8) rfl (by kernel_rfl) (by kernel_rfl) (by kernel_rfl) (fun K hK => ?_); go_simp; refine hK _ ?_; clear hK K)
  (refine anyG_step hG (i := 9) rfl (by kernel_rfl) (by kernel_rfl) (by kernel_rfl) (fun K hK => ?_); go_simp; refine hK _ ?_; clear hK K)
  (refine anyG_step hG (i := 10) rfl (by kernel_rfl) (by kernel_rfl) (by kernel_rfl) (fun K hK => ?_); go_simp; refine hK _ ?_; clear hK K)
  (refine anyG_step hG (i := 11) rfl (by kernel_rfl) (by kernel_rfl) (by kernel_rfl) (fun K hK => ?_); go_simp; refine hK _ ?_; clear hK K)
  (refine anyG_step hG (i := 12) rfl (by kernel_rfl) (by kernel_rfl) (by kernel_rfl) (fun K hK => ?_); go_simp; refine hK _ ?_; clear hK K)
  (refine anyG_step hG (i := 13) rfl (by kernel_rfl) (by kernel_rfl) (by kernel_rfl) (fun K hK => ?_); go_simp; refine hK _ ?_; clear hK K)
  clear g0 g1 g2 g3 g4 ug0 ug1 ug2 ug3 ug4 ug5 ug6 hG
  refine anyG_one (i := 14) rfl (by kernel_rfl) ?_
  intro w2 hbw2 K hK
  have hww2 : Below w.heap.size w w2 := hbw.trans (hbw2.mono hbw.size)
  have ck := IH.out _ _ w2 (isTree_below hww2 HRU.out) (isTree_below hww2 HR.out)
  unfold chunkV at ck
  go_simp
  refine ck.mono ?_
  rintro e w3 ⟨p1, t1, rfl, ht1, hj1, hb3⟩
  have hww3 : Below w.heap.size w w3 := hww2.trans (hb3.mono hww2.size)
  refine ⟨_, rfl, hK _ _ hb3 ?_⟩
  clear hK K ck
  refine anyG_one (i := 15) rfl (by kernel_rfl) ?_
  intro w4 hbw4 K hK
  have hww4 : Below w.heap.size w w4 := hww3.trans (hbw4.mono hww3.size)
  have ck := turn_any _ _ _ _ _ w4 (isTree_below hww4 HLU.out) (isTree_below hbw4 ht1) (HJ.out _ hj1).2
  unfold chunkV at ck
  go_simp
  refine ck.mono ?_
  rintro e w5 ⟨p2, rfl, ht2, hb5⟩
  have hww5 : Below w.heap.size w w5 := hww4.trans (hb5.mono hww4.size)
  refine ⟨_, rfl, hK _ _ hb5 ?_⟩
  clear hK K ck
  clear ht1
  refine anyG_one (i := 16) rfl (by kernel_rfl) ?_
  intro w90 hb90 K hK
  go_simp
  refine hK _ _ (Below.refl _ w90) ?_
  clear hK K
  refine anyG_end (by kernel_rfl) ?_
  intro w91 hb91
  have hb92 := hb90.trans (hb91.mono hb90.size)
  have hw92 : Below w.heap.size w w91 := hww5.trans (hb92.mono hww5.size)
  have HT : Hid _ := isTree_below hb92 ht2
  clear hb90 hb91 hb92 ht2
  go_wp2
  go_ret
  exact ⟨_, _, rfl, HT.out, (HJ.out _ hj1).1, hw92⟩

set_option maxRecDepth 100000 in
set_option maxHeartbeats 2000000 in
theorem join_R (pl pr : Option Addr) (l rl rr : T) (c rc : List Nat) (w : World) (hl : isTree w pl l) (hr : isTree w pr (.node rl rc rr)) (hz : big (.node l c (.node rl rc rr))) (hd : l.height + 1 < (T.node rl rc rr).height) (hbl : l.bal) (hbr : (T.node rl rc rr).bal)
    (ih : ∀ (p1 p2 : Option Addr) (w : World), isTree w p1 l → isTree w p2 rl → Calls Tryz.prog 159 #[.pointer p1, chunkV c, .pointer p2] w fun e w' => ∃ p t, e = .returned (.pointer p) ∧ isTree w' p t ∧ joined l rl c t ∧ Below w.heap.size w w') :
    Calls Tryz.prog 159 #[.pointer pl, chunkV c, .pointer pr] w fun e w' => ∃ p t, e = .returned (.pointer p) ∧ isTree w' p t ∧ joined l (.node rl rc rr) c t ∧ Below w.heap.size w w' := by
  have hb0 : ∀ o, Below w.heap.size w (w.alloc o) := fun o => (Below.refl _ w).alloc (Nat.le_refl _) o
  have HL : Hid (isTree w pl l) := hl
  have HR : Hid (isTree w pr (.node rl rc rr)) := hr
  have cl := fun o => nheight_any pl l (w.alloc o) (isTree_below (hb0 o) hl)
  have cr := fun o => nheight_any pr (.node rl rc rr) (w.alloc o) (isTree_below (hb0 o) hr)
  have HJ : Hid (∀ t, joined l rl c t → joined l (.node rl rc rr) c (turnT t rc rr) ∧ big (.node t rc rr)) := fun t ht => by
    have hj := joined_right hbl hbr hd ht
    exact ⟨hj, big_same (big_join hz hj) (by rw [turnT_chunks]; rfl)⟩
  have IH : Hid _ := ih
  obtain ⟨_, _, _, _, _, s3, s4⟩ := big_node hz
  have k1 : ¬ (1 < (l.height : Int) - (T.node rl rc rr).height) := by omega
  have k2 : ((l.height : Int) - (T.node rl rc rr).height < -1) := by omega
  have k3 : 0 ≤ (l.height : Int) ∧ (l.height : Int) < 1000000000 := by omega
  have k4 : 0 ≤ ((T.node rl rc rr).height : Int) ∧ ((T.node rl rc rr).height : Int) < 1000000000 := by omega
  clear hd hbl hbr hz s3 s4 ih
  obtain ⟨b1, qa, qb, rfl, ⟨uc0, uc1, uc2, uc3, uc4⟩, ⟨uc5, uc6⟩, _, _, hlu, hru⟩ := hr
  have HLU : Hid _ := hlu
  have HRU : Hid _ := hru
  clear hlu hru
  generalize (l.height : Int) = x1 at *
  generalize ((T.node rl rc rr).height : Int) = x2 at *
  unfold chunkV
  go_enter Tryz.func159, Tryz.ntmps159
  go_wp2_with (first | (go_at_call_of 189 pl; refine (cl _).mono ?_; rintro e w1 ⟨rfl, rfl⟩) | (go_at_call_of 189 b1; refine (cr _).mono ?_; rintro e w1 ⟨rfl, rfl⟩) | fail)
  obtain ⟨W1, hW1⟩ : ∃ W1, w.alloc (.cells #[.string (bytesOf c), .int .i64 (C1 c), .int .i64 (C2 c), .int .i64 (C3 c), .int .i64 (C4 c)] 194) = W1 := ⟨_, rfl⟩
  have hbW1 : Below w.heap.size w W1 := by rw [← hW1]; exact hb0 _
  have x0 : W1.cell? ⟨w.heap.size, 0, none⟩ = some (.string (bytesOf c)) := by rw [← hW1]; simp [go_sem]
  have y1 : W1.cell? ⟨w.heap.size, 1, none⟩ = some (.int .i64 (C1 c)) := by rw [← hW1]; simp [go_sem]
  have y2 : W1.cell? ⟨w.heap.size, 2, none⟩ = some (.int .i64 (C2 c)) := by rw [← hW1]; simp [go_sem]
  have y3 : W1.cell? ⟨w.heap.size, 3, none⟩ = some (.int .i64 (C3 c)) := by rw [← hW1]; simp [go_sem]
  have y4 : W1.cell? ⟨w.heap.size, 4, none⟩ = some (.int .i64 (C4 c)) := by rw [← hW1]; simp [go_sem]
  rw [hW1]
  clear hW1 cl cr
  refine wp_region_rel 17 17 (by kernel_rfl) rfl ?_
  intro w1 hbb
  have hbw : Below w.heap.size w w1 := hbW1.trans (hbb.mono hbW1.size)
  obtain ⟨G, hG⟩ := exists_growth w1
  have g0 := hG.cell (cell_on hbb x0)
  have g1 := hG.cell (cell_on hbb y1)
  have g2 := hG.cell (cell_on hbb y2)
  have g3 := hG.cell (cell_on hbb y3)
  have g4 := hG.cell (cell_on hbb y4)
  have ug0 := hG.cell (cell_on hbw uc0)
  have ug1 := hG.cell (cell_on hbw uc1)
  have ug2 := hG.cell (cell_on hbw uc2)
  have ug3 := hG.cell (cell_on hbw uc3)
  have ug4 := hG.cell (cell_on hbw uc4)
  have ug5 := hG.cell (cell_on hbw uc5)
  have ug6 := hG.cell (cell_on hbw uc6)
  clear uc0 uc1 uc2 uc3 uc4 uc5 uc6 x0 y1 y2 y3 y4 hbb hbW1
  (refine anyG_step hG (i := 0) rfl (by kernel_rfl) (by kernel_rfl) (by kernel_rfl) (fun K hK => ?_); go_simp; refine hK _ ?_; clear hK K)
  (refine anyG_step hG (i := 1) rfl (by kernel_rfl) (by kernel_rfl) (by kernel_rfl) (fun K hK => ?_); go_simp; refine hK _ ?_; clear hK K)
  (refine anyG_step hG (i := 2) rfl (by kernel_rfl) (by kernel_rfl) (by kernel_rfl) (fun K hK => ?_); go_simp; refine hK _ ?_; clear hK K)
  (refine anyG_step hG (i := 3) rfl (by kernel_rfl) (by kernel_rfl) (by kernel_rfl) (fun K hK => ?_); go_simp; refine hK _ ?_; clear hK K)
  (refine anyG_step hG (i := 4) rfl (by kernel_rfl) (by kernel_rfl) (by kernel_rfl) (fun K hK => ?_); go_simp; refine hK _ ?_; clear hK K)
  (refine anyG_step hG (i := 5) rfl (by kernel_rfl) (by kernel_rfl) (by kernel_rfl) (fun K hK => ?_); go_simp; refine hK _ ?_; clear hK K)
  (refine anyG_step hG (i := 7) rfl (by kernel_rfl) (by kernel_rfl) (by kernel_rfl) (fun K hK => ?_); go_simp; refine hK _ ?_; clear hK K)
  (refine anyG_step hG (i := 8) rfl (by kernel_rfl) (by kernel_rfl) (by kernel_rfl) (fun K hK => ?_); go_simp; refine hK _ ?_; clear hK K)
  (refine anyG_step hG (i := 9) rfl (by kernel_rfl) (by kernel_rfl) (by kernel_rfl) (fun K hK => ?_); go_simp; refine hK _ ?_; clear hK K)
  (refine anyG_step hG (i := 10) rfl (by kernel_rfl) (by kernel_rfl) (by kernel_rfl) (fun K hK => ?_); go_simp; refine hK _ ?_; clear hK K)
  (refine anyG_step hG (i := 11) rfl (by kernel_rfl) (by kernel_rfl) (by kernel_rfl) (fun K hK => ?_); go_simp; refine hK _ ?_; clear hK K)
  (refine anyG_step hG (i := 12) rfl (by kernel_rfl) (by kernel_rfl) (by kernel_rfl) (fun K hK => ?_); go_simp; refine hK _ ?_; clear hK K)
  (refine anyG_step hG (i := 13) rfl (by kernel_rfl) (by kernel_rfl) (by kernel_rfl) (fun K hK => ?_); go_simp; refine hK _ ?_; clear hK K)
  (refine anyG_step hG (i := 14) rfl (by kernel_rfl) (by kernel_rfl) (by kernel_rfl) (fun K hK => ?_); go_simp; refine hK _ ?_; clear hK K)
  clear g0 g1 g2 g3 g4 ug0 ug1 ug2 ug3 ug4 ug5 ug6 hG
  refine anyG_one (i := 6) rfl (by kernel_rfl) ?_
  intro w2 hbw2 K hK
  have hww2 : Below w.heap.size w w2 := hbw.trans (hbw2.mono hbw.size)
  have ck := IH.out _ _ w2 (isTree_below hww2 HL.out) (isTree_below hww2 HLU.out)
  unfold chunkV at ck
  go_simp
  refine ck.mono ?_
  rintro e w3 ⟨p1, t1, rfl, ht1, hj1, hb3⟩
  have hww3 : Below w.heap.size w w3 := hww2.trans (hb3.mono hww2.size)
  refine ⟨_, rfl, hK _ _ hb3 ?_⟩
  clear hK K ck
  refine anyG_one (i := 15) rfl (by kernel_rfl) ?_
  intro w4 hbw4 K hK
  have hww4 : Below w.heap.size w w4 := hww3.trans (hbw4.mono hww3.size)
  have ck := turn_any _ _ _ _ _ w4 (isTree_below hbw4 ht1) (isTree_below hww4 HRU.out) (HJ.out _ hj1).2
  unfold chunkV at ck
  go_simp
  refine ck.mono ?_
  rintro e w5 ⟨p2, rfl, ht2, hb5⟩
  have hww5 : Below w.heap.size w w5 := hww4.trans (hb5.mono hww4.size)
  refine ⟨_, rfl, hK _ _ hb5 ?_⟩
  clear hK K ck
  clear ht1
  refine anyG_one (i := 16) rfl (by kernel_rfl) ?_
  intro w90 hb90 K hK
  go_simp
  refine hK _ _ (Below.refl _ w90) ?_
  clear hK K
  refine anyG_end (by kernel_rfl) ?_
  intro w91 hb91
  have hb92 := hb90.trans (hb91.mono hb90.size)
  have hw92 : Below w.heap.size w w91 := hww5.trans (hb92.mono hww5.size)
  have HT : Hid _ := isTree_below hb92 ht2
  clear hb90 hb91 hb92 ht2
  go_wp2
  go_ret
  exact ⟨_, _, rfl, HT.out, (HJ.out _ hj1).1, hw92⟩

theorem join_any : ∀ (n : Nat) (pl pr : Option Addr) (l r : T) (c : List Nat) (w : World), l.size + r.size ≤ n → isTree w pl l → isTree w pr r → big (.node l c r) → l.bal → r.bal →
    Calls Tryz.prog 159 #[.pointer pl, chunkV c, .pointer pr] w fun e w' => ∃ p t, e = .returned (.pointer p) ∧ isTree w' p t ∧ joined l r c t ∧ Below w.heap.size w w' := by
  intro n
  induction n with
  | zero =>
    intro pl pr l r c w hn hl hr hz hbl hbr
    have e1 := height_size l
    have e2 := height_size r
    refine (join_E pl pr l r c w hl hr hz (by omega) (by omega)).mono ?_
    rintro e w' ⟨p, rfl, ht, hb⟩
    exact ⟨p, _, rfl, ht, joined_same c hbl hbr (by omega) (by omega), hb⟩
  | succ n ih =>
    intro pl pr l r c w hn hl hr hz hbl hbr
    by_cases h1 : r.height + 1 < l.height
    · match l, hl, hz, hbl, h1, hn with
      | .nil, _, _, _, h1, _ => simp [T.height] at h1
      | .node ll lc lr, hl, hz, hbl, h1, hn =>
        simp only [T.size] at hn
        exact join_L pl pr ll lr r c lc w hl hr hz h1 hbl hbr fun p1 p2 w' t1 t2 => ih p1 p2 lr r c w' (by omega) t1 t2 (by
          obtain ⟨z1, z2⟩ := hz
          simp only [T.runes, C1_append, T.size] at z1 z2
          have q1 := C1_pos ll.runes
          have q2 := C1_pos lc
          exact ⟨by simp only [T.runes, C1_append]; omega, by simp only [T.size]; omega⟩) hbl.2.1 hbr
    by_cases h2 : l.height + 1 < r.height
    · match r, hr, hz, hbr, h2, hn with
      | .nil, _, _, _, h2, _ => simp [T.height] at h2
      | .node rl rc rr, hr, hz, hbr, h2, hn =>
        simp only [T.size] at hn
        exact join_R pl pr l rl rr c rc w hl hr hz h2 hbl hbr fun p1 p2 w' t1 t2 => ih p1 p2 l rl c w' (by omega) t1 t2 (by
          obtain ⟨z1, z2⟩ := hz
          simp only [T.runes, C1_append, T.size] at z1 z2
          have q1 := C1_pos rr.runes
          have q2 := C1_pos rc
          exact ⟨by simp only [T.runes, C1_append]; omega, by simp only [T.size]; omega⟩) hbl hbr.1
    refine (join_E pl pr l r c w hl hr hz (by omega) (by omega)).mono ?_
    rintro e w' ⟨p, rfl, ht, hb⟩
    exact ⟨p, _, rfl, ht, joined_same c hbl hbr (by omega) (by omega), hb⟩
end Go.Proofs.YtldhbjmillfjgabGreatDoor

namespace Go.Proofs.YtldhbjmillfjgabGreatDoor
open Go.RowKit
set_option linter.unusedVariables false
attribute [local go_sem] yieldsUpon okUpon

def cloneRen : Go.Shelf.Ren := ⟨fun | 25 => 140 | n => n, fun | 9 => 9 | 5 => 5 | 3 => 3 | 4 => 4 | 37 => 130 | 47 => 232 | 0 => 0 | n => n, fun | n => n⟩
theorem cloneLays : Go.Proofs.LaysPu.n25 Tryz.prog cloneRen := {
  mixed := by kernel_rfl
  f25 := Tryz.func140.trans (congrArg some (by kernel_rfl))
  t0 := by kernel_rfl
  a0 := fun _ => by kernel_rfl
  z0 := fun _ => by kernel_rfl
  v0 := fun _ => by kernel_rfl
  i0 := by kernel_rfl
  t3 := by kernel_rfl
  a3 := fun _ => by kernel_rfl
  z3 := fun _ => by kernel_rfl
  v3 := fun _ => by kernel_rfl
  i3 := by kernel_rfl
  t4 := by kernel_rfl
  a4 := fun _ => by kernel_rfl
  z4 := fun _ => by kernel_rfl
  v4 := fun _ => by kernel_rfl
  i4 := by kernel_rfl
  t5 := by kernel_rfl
  a5 := fun _ => by kernel_rfl
  z5 := fun _ => by kernel_rfl
  v5 := fun _ => by kernel_rfl
  i5 := by kernel_rfl
  t9 := by kernel_rfl
  a9 := fun _ => by kernel_rfl
  z9 := fun _ => by kernel_rfl
  v9 := fun _ => by kernel_rfl
  i9 := by kernel_rfl
  t37 := by kernel_rfl
  a37 := fun _ => by kernel_rfl
  z37 := fun _ => by kernel_rfl
  v37 := fun _ => by kernel_rfl
  i37 := by kernel_rfl
  t47 := by kernel_rfl
  a47 := fun _ => by kernel_rfl
  z47 := fun _ => by kernel_rfl
  v47 := fun _ => by kernel_rfl
  i47 := by kernel_rfl }

theorem Clone_any (s : ByteArray) (w : World) (hs : s.size ≤ 281474976710656) : Calls Tryz.prog 88 #[.string s] w fun e w' => e = .returned (.string s) ∧ Below w.heap.size w w' := by
  have c := Go.Proofs.AnyPu.stringslite_Clone cloneLays s w hs
  have c2 : Calls Tryz.prog 140 #[.string s] w fun e w' => e = .returned (.string s) ∧ Below w.heap.size w w' := c
  go_enter Tryz.func88, Tryz.ntmps88
  go_wp2_with (first | (go_at_call 140; refine c2.mono ?_; rintro e w1 ⟨rfl, hb1⟩) | fail)
  go_ret
  exact ⟨rfl, hb1⟩

theorem count_of (rs : List Nat) (hr : ∀ r ∈ rs, isRune r) (hz : C1 rs ≤ 300000000) (w : World) (hT : Lib.Utf8Tabs 2 3 w) :
    Calls Tryz.prog 59 #[.string (bytesOf rs)] w fun e w' => e = .returned (.tuple #[.agg #[.int .i64 (C1 rs), .int .i64 (C2 rs), .int .i64 (C3 rs), .int .i64 (C4 rs)], .nilIface]) ∧ Below w.heap.size w w' := by
  have hs : (bytesOf rs).size < 400000000 := by rw [bytesOf_size]; rw [C1_len] at hz; omega
  have hsc : scan (bytesOf rs).data.toList = (wide rs, true) := by rw [bytesOf_list]; exact scan_encs rs hr
  refine (Count_any _ hs w hT).mono ?_
  rintro e w' ⟨v, x, rfl, hb, ⟨_, rfl, rfl⟩ | ⟨h, _⟩⟩
  · refine ⟨?_, hb⟩
    rw [hsc]
    have e3 : ((wide rs).length : Int) = C3 rs := by simp [wide, C3]
    simp only [e3]
    rfl
  · rw [hsc] at h; cases h
end Go.Proofs.YtldhbjmillfjgabGreatDoor

namespace Go.Proofs.YtldhbjmillfjgabGreatDoor
open Go.RowKit
set_option linter.unusedVariables false
attribute [local go_sem] yieldsUpon okUpon

/-- A chunk's variable: five cells that may be written. -/
def chunkAt (W : World) (B : Nat) (v0 v1 v2 v3 v4 : Value) : Prop :=
  (W.cell? ⟨B, 0, none⟩ = some v0 ∧ W.cell? ⟨B, 1, none⟩ = some v1 ∧ W.cell? ⟨B, 2, none⟩ = some v2 ∧ W.cell? ⟨B, 3, none⟩ = some v3 ∧ W.cell? ⟨B, 4, none⟩ = some v4) ∧
  (W.frozen? ⟨B, 0, none⟩ = false ∧ W.frozen? ⟨B, 1, none⟩ = false ∧ W.frozen? ⟨B, 2, none⟩ = false ∧ W.frozen? ⟨B, 3, none⟩ = false ∧ W.frozen? ⟨B, 4, none⟩ = false)
theorem chunkAt_lt {W : World} {B : Nat} {v0 v1 v2 v3 v4 : Value} (h : chunkAt W B v0 v1 v2 v3 v4) : B < W.heap.size := World.block_lt_of_cell? W _ h.1.1
theorem chunkAt_old {W W' : World} {B lo : Nat} {v0 v1 v2 v3 v4 : Value} (h : chunkAt W B v0 v1 v2 v3 v4) (hb : Below lo W W') (hlo : B < lo) : chunkAt W' B v0 v1 v2 v3 v4 := by
  obtain ⟨⟨a0, a1, a2, a3, a4⟩, b0, b1, b2, b3, b4⟩ := h
  have c : ∀ o v, W.cell? ⟨B, o, none⟩ = some v → W'.cell? ⟨B, o, none⟩ = some v := fun o v h => (hb.cell (p := ⟨B, o, none⟩) hlo).trans h
  have f : ∀ o, W.frozen? ⟨B, o, none⟩ = false → W'.frozen? ⟨B, o, none⟩ = false := fun o h => (hb.frozen (p := ⟨B, o, none⟩) hlo).trans h
  exact ⟨⟨c _ _ a0, c _ _ a1, c _ _ a2, c _ _ a3, c _ _ a4⟩, f _ b0, f _ b1, f _ b2, f _ b3, f _ b4⟩
theorem chunkAt_below {W W' : World} {B : Nat} {v0 v1 v2 v3 v4 : Value} (h : chunkAt W B v0 v1 v2 v3 v4) (hb : Below W.heap.size W W') : chunkAt W' B v0 v1 v2 v3 v4 := chunkAt_old h hb (chunkAt_lt h)
theorem chunkAt_new (w : World) (v0 v1 v2 v3 v4 : Value) (t : TypeId) : chunkAt (w.alloc (.cells #[v0, v1, v2, v3, v4] t)) w.heap.size v0 v1 v2 v3 v4 := by
  refine ⟨⟨?_, ?_, ?_, ?_, ?_⟩, ?_, ?_, ?_, ?_, ?_⟩ <;> simp [go_sem]
theorem chunkAt_set {W : World} {B : Nat} {v0 v1 v2 v3 v4 u0 u1 u2 u3 u4 : Value} (h : chunkAt W B v0 v1 v2 v3 v4) :
    chunkAt (((((W.setCell ⟨B, 0, none⟩ u0).setCell ⟨B, 1, none⟩ u1).setCell ⟨B, 2, none⟩ u2).setCell ⟨B, 3, none⟩ u3).setCell ⟨B, 4, none⟩ u4) B u0 u1 u2 u3 u4 := by
  obtain ⟨⟨a0, a1, a2, a3, a4⟩, b0, b1, b2, b3, b4⟩ := h
  refine ⟨⟨?_, ?_, ?_, ?_, ?_⟩, ?_, ?_, ?_, ?_, ?_⟩ <;> simp [go_sem, a0, a1, a2, a3, a4, b0, b1, b2, b3, b4]
theorem below_set5 {lo : Nat} {w W : World} {B : Nat} (hb : Below lo w W) (hlo : lo ≤ B) (u0 u1 u2 u3 u4 : Value) :
    Below lo w (((((W.setCell ⟨B, 0, none⟩ u0).setCell ⟨B, 1, none⟩ u1).setCell ⟨B, 2, none⟩ u2).setCell ⟨B, 3, none⟩ u3).setCell ⟨B, 4, none⟩ u4) :=
  ((((hb.setCell (p := ⟨B, 0, none⟩) hlo _).setCell (p := ⟨B, 1, none⟩) hlo _).setCell (p := ⟨B, 2, none⟩) hlo _).setCell (p := ⟨B, 3, none⟩) hlo _).setCell (p := ⟨B, 4, none⟩) hlo _

set_option maxRecDepth 100000 in
set_option maxHeartbeats 2000000 in
theorem chunkOf_any (rs : List Nat) (hr : ∀ r ∈ rs, isRune r) (hz : C1 rs ≤ 300000000) (w : World) (hT : Lib.Utf8Tabs 2 3 w) :
    Calls Tryz.prog 116 #[.string (bytesOf rs)] w fun e w' => e = .returned (chunkV rs) ∧ Below w.heap.size w w' := by
  have hb0 : ∀ o, Below w.heap.size w (w.alloc o) := fun o => (Below.refl _ w).alloc (Nat.le_refl _) o
  have cC := fun o => count_of rs hr hz (w.alloc o) (Go.Proofs.Utf8Tabs_below hT (hb0 o))
  have cK := fun wx => Clone_any (bytesOf rs) wx (by rw [bytesOf_size]; rw [C1_len] at hz; omega)
  unfold chunkV
  generalize bytesOf rs = B at *
  generalize C1 rs = x1 at *
  generalize C2 rs = x2 at *
  generalize C3 rs = x3 at *
  generalize C4 rs = x4 at *
  clear hr hz hT
  go_enter Tryz.func116, Tryz.ntmps116
  go_wp2_with (first | (go_at_call 59; refine (cC _).mono ?_; rintro e w1 ⟨rfl, hb1⟩) | fail)
  have hbw : Below w.heap.size w (w1.alloc (.cells #[.int .i64 x1, .int .i64 x2, .int .i64 x3, .int .i64 x4] 25)) := ((hb0 _).trans (hb1.mono (hb0 _).size)).alloc (Nat.le_trans (hb0 (.cells #[.string ⟨#[]⟩, .int .i64 0, .int .i64 0, .int .i64 0, .int .i64 0] 194)).size hb1.size) _
  have hA : chunkAt (w1.alloc (.cells #[.int .i64 x1, .int .i64 x2, .int .i64 x3, .int .i64 x4] 25)) w.heap.size (.string ⟨#[]⟩) (.int .i64 0) (.int .i64 0) (.int .i64 0) (.int .i64 0) :=
    chunkAt_below (chunkAt_below (chunkAt_new w _ _ _ _ _ _) hb1) ((Below.refl _ w1).alloc (Nat.le_refl _) _)
  have hc : counted (w1.alloc (.cells #[.int .i64 x1, .int .i64 x2, .int .i64 x3, .int .i64 x4] 25)) w1.heap.size x1 x2 x3 x4 := by refine ⟨⟨?_, ?_, ?_, ?_⟩, ?_, ?_, ?_, ?_⟩ <;> simp [go_sem]
  generalize (w1.alloc (.cells #[.int .i64 x1, .int .i64 x2, .int .i64 x3, .int .i64 x4] 25)) = W at *
  generalize w1.heap.size = C at *
  clear cC hb1
  refine wp_region_rel 4 5 (by kernel_rfl) rfl ?_
  intro w2 hb2
  have hc2 := counted_below hc hb2
  obtain ⟨⟨c0, c1, c2, c3⟩, _⟩ := hc2
  have hbw2 := hbw.trans (hb2.mono hbw.size)
  have hA2 := chunkAt_below hA hb2
  obtain ⟨G, hG⟩ := exists_growth w2
  have g0 := hG.cell c0
  have g1 := hG.cell c1
  have g2 := hG.cell c2
  have g3 := hG.cell c3
  clear hc hA c0 c1 c2 c3
  (refine anyG_step hG (i := 0) rfl (by kernel_rfl) (by kernel_rfl) (by kernel_rfl) (fun K hK => ?_); go_simp; refine hK _ ?_; clear hK K)
  (refine anyG_step hG (i := 1) rfl (by kernel_rfl) (by kernel_rfl) (by kernel_rfl) (fun K hK => ?_); go_simp; apply Exists.intro; refine ⟨fun _ => ?_, hK _ ?_⟩; exact cK _; clear hK K)
  (refine anyG_step hG (i := 2) rfl (by kernel_rfl) (by kernel_rfl) (by kernel_rfl) (fun K hK => ?_); go_simp; refine hK _ ?_; clear hK K)
  (refine anyG_step hG (i := 3) rfl (by kernel_rfl) (by kernel_rfl) (by kernel_rfl) (fun K hK => ?_); go_simp; refine hK _ ?_; clear hK K)
  clear g0 g1 g2 g3 hG
  refine anyG_late (i := 4) rfl (by kernel_rfl) (by kernel_rfl) ?_
  intro w3 hb3 K hK
  have hA3 := chunkAt_below hA2 hb3
  have hbw3 := hbw2.trans (hb3.mono hbw2.size)
  have HA3 : Hid _ := hA3
  obtain ⟨⟨a0, a1, a2, a3, a4⟩, b0, b1, b2, b3, b4⟩ := hA3
  go_simp
  refine hK _ _ ?_
  clear hK K
  refine anyG_end (by kernel_rfl) ?_
  intro w4 hb4
  have hA4 := chunkAt_below (chunkAt_set HA3.out) hb4
  have hbw4 := (below_set5 hbw3 (Nat.le_refl _) _ _ _ _ _).trans (hb4.mono (below_set5 hbw3 (Nat.le_refl _) _ _ _ _ _).size)
  clear a0 a1 a2 a3 a4 b0 b1 b2 b3 b4 hb4 HA3 hA2
  obtain ⟨⟨a0, a1, a2, a3, a4⟩, b0, b1, b2, b3, b4⟩ := hA4
  go_wp2
  refine bodyPost_ret (v := .agg #[.string B, .int .i64 x1, .int .i64 x2, .int .i64 x3, .int .i64 x4]) (by simp [results, Tryz.results116, go_sem, a0, a1, a2, a3, a4]) rfl ⟨rfl, hbw4⟩
end Go.Proofs.YtldhbjmillfjgabGreatDoor

namespace Go.Proofs.YtldhbjmillfjgabGreatDoor
open Go.RowKit
set_option linter.unusedVariables false

/-- All blocks but B lie as they lay; new ones may have come. -/
structure But (B : Nat) (A A' : World) : Prop where
  os : A'.os = A.os
  tape : A'.tape = A.tape
  output : A'.output = A.output
  size : A.heap.size ≤ A'.heap.size
  block : ∀ k, k < A.heap.size → k ≠ B → A'.heap[k]? = A.heap[k]?
theorem But.refl (B : Nat) (A : World) : But B A A := ⟨rfl, rfl, rfl, Nat.le_refl _, fun _ _ _ => rfl⟩
theorem But.trans {B : Nat} {a b c : World} (h : But B a b) (k : But B b c) : But B a c :=
  ⟨k.os.trans h.os, k.tape.trans h.tape, k.output.trans h.output, Nat.le_trans h.size k.size, fun i h1 h2 => (k.block i (Nat.lt_of_lt_of_le h1 h.size) h2).trans (h.block i h1 h2)⟩
theorem But.of_below {B : Nat} {A A' : World} (h : Below A.heap.size A A') : But B A A' := ⟨h.os, h.tape, h.output, h.size, fun k h1 _ => h.block k h1⟩
theorem But.setCell {B : Nat} {A W : World} (h : But B A W) {p : Addr} (hp : p.block = B) (v : Value) : But B A (W.setCell p v) :=
  h.trans ⟨rfl, rfl, rfl, by simp [World.setCell], fun k _ h2 => Below.heap_setCell W p v k (by rw [hp]; exact h2)⟩
theorem But.below {B : Nat} {A A' : World} (h : But B A A') (hB : B ≤ A.heap.size) : Below B A A' := ⟨h.os, h.tape, h.output, h.size, fun k hk => h.block k (by omega) (by omega)⟩
theorem But.cell {B : Nat} {A A' : World} (h : But B A A') {b o : Nat} {v : Value} (hb : b ≠ B) (hc : A.cell? ⟨b, o, none⟩ = some v) : A'.cell? ⟨b, o, none⟩ = some v :=
  (World.cell?_of_block (w := A) (a := ⟨b, o, none⟩) (h.block b (World.block_lt_of_cell? A _ hc) hb)).trans hc
/-- A tree lies on: B is no node's block. -/
theorem isTree_but {B : Nat} {A A' : World} (h : But B A A') (hB : A.cell? ⟨B, 5, none⟩ = none) : ∀ {t : T} {p : Option Addr}, isTree A p t → isTree A' p t
  | .nil, _, h => h
  | .node l rs r, _, ⟨b, pl, pr, e, ⟨a0, a1, a2, a3, a4⟩, ⟨a5, a6⟩, ⟨a7, a8, a9, a10⟩, ⟨a11, a12⟩, hl, hr⟩ => by
    have hb : b ≠ B := fun e => by subst e; rw [hB] at a5; cases a5
    exact ⟨b, pl, pr, e, ⟨h.cell hb a0, h.cell hb a1, h.cell hb a2, h.cell hb a3, h.cell hb a4⟩, ⟨h.cell hb a5, h.cell hb a6⟩, ⟨h.cell hb a7, h.cell hb a8, h.cell hb a9, h.cell hb a10⟩, ⟨h.cell hb a11, h.cell hb a12⟩, isTree_but h hB hl, isTree_but h hB hr⟩

/-- G gives just the worlds that are W but for B, and what is new. -/
structure GrowB (B : Nat) (W : World) (G : World → World) : Prop where
  but : ∀ x, But B W (G x)
  onto : ∀ w, But B W w → G w = w
open Classical in
theorem exists_growB (B : Nat) (W : World) : ∃ G, GrowB B W G :=
  ⟨fun x => if But B W x then x else W, fun x => by
    show But B W (if But B W x then x else W)
    split
    · assumption
    · exact But.refl _ _, fun w h => if_pos h⟩
theorem GrowB.cell {B : Nat} {W : World} {G : World → World} (hG : GrowB B W G) {b o : Nat} {v : Value} (hb : b ≠ B) (h : W.cell? ⟨b, o, none⟩ = some v) : ∀ x, (G x).cell? ⟨b, o, none⟩ = some v :=
  fun x => (hG.but x).cell hb h

section
variable {P : Program} {ops : Array Oper} {md : Region.Mode} {m B : Nat} {W0 : World} {Q : Exit → Act → World → Prop}

def anyB (B : Nat) (W0 : World) (P : Program) (md : Region.Mode) (ops : Array Oper) (m : Nat) (Q : Exit → Act → World → Prop) : Nat → Array Bool → Act → World → Prop
  | 0, listed, a, w => Region.ready md ops listed = [] ∧ ∀ w', Below w.heap.size w w' → Q .normal a w'
  | fuel + 1, listed, a, w =>
    (Region.ready md ops listed = [] → ∀ w', Below w.heap.size w w' → Q .normal a w') ∧
    ∀ i ∈ Region.ready md ops listed, ∀ w', Below w.heap.size w w' → opG P ops i (fun a' w'' => (i < m → But B W0 w' → But B W0 w'') ∧ anyB B W0 P md ops m Q fuel (listed.setIfInBounds i true) a' w'') a w'

theorem any_of_anyB : ∀ (fuel : Nat) (listed : Array Bool) (a : Act) (w : World), anyB B W0 P md ops m Q fuel listed a w → wpAny P md ops Q fuel listed a w
  | 0, _, _, w, h => ⟨h.1, h.2 w (Below.refl _ _)⟩
  | fuel + 1, listed, a, w, h => ⟨fun h0 => h.1 h0 w (Below.refl _ _), fun i hi => by
      have h1 := h.2 i hi w (Below.refl _ _)
      have h2 := opG_mono (fun a' w'' hh => any_of_anyB fuel _ a' w'' hh.2) h1
      unfold opG at h2
      unfold wpOp
      split
      · rename_i ho; simp only [ho] at h2; exact h2
      · rename_i o ho
        simp only [ho] at h2
        split
        · rename_i hw; simp only [hw, if_true] at h2; exact .inl (upon_of_ok h2)
        · rename_i hw; simp only [hw] at h2; exact h2⟩
theorem anyB_later : ∀ {fuel : Nat} {listed : Array Bool} {a : Act} {w w2 : World}, anyB B W0 P md ops m Q fuel listed a w → Below w.heap.size w w2 → anyB B W0 P md ops m Q fuel listed a w2
  | 0, _, _, _, _, h, hb => ⟨h.1, fun w' hb' => h.2 w' (hb.trans (hb'.mono hb.size))⟩
  | _ + 1, _, _, _, _, h, hb => ⟨fun h0 w' hb' => h.1 h0 w' (hb.trans (hb'.mono hb.size)), fun i hi w' hb' => h.2 i hi w' (hb.trans (hb'.mono hb.size))⟩

def yieldsB (B : Nat) (W0 : World) (P : Program) (ops : Array Oper) (o : Oper) (v : Value) (a : Act) : Prop :=
  if Region.wanted o (yielded ops a.tmps) then ∀ w', But B W0 w' → yieldsUpon P w' v ((execOp a.eval o).run P w') else v = undef
theorem yieldsB_same {o : Oper} {v : Value} {a a' : Act} (hy : yieldsB B W0 P ops o v a) (he : execOp a'.eval o = execOp a.eval o)
    (hw : Region.wanted o (yielded ops a'.tmps) = Region.wanted o (yielded ops a.tmps)) : yieldsB B W0 P ops o v a' := by
  unfold yieldsB at *
  rw [hw, he]
  exact hy

theorem opG_of_yieldsB {i : Nat} {o : Oper} {v : Value} {a : Act} {w' : World} (hi : ops[i]? = some o) (hy : yieldsB B W0 P ops o v a) (hb : But B W0 w') {K : Act → World → Prop}
    (h : ∀ w'', Below w'.heap.size w' w'' → K (a.put o.dst v) w'') : opG P ops i K a w' := by
  unfold opG
  simp only [hi]
  unfold yieldsB at hy
  split
  · rename_i hw
    rw [if_pos hw] at hy
    have h3 := hy w' hb
    generalize (execOp a.eval o).run P w' = r at *
    cases r with
    | ok n w2 =>
      cases n <;> simp only [yieldsUpon] at h3 <;> simp only [okUpon]
      case value u =>
        obtain ⟨e1, e2⟩ := h3
        rw [e2]
        exact h _ (by rw [e1]; exact Below.refl _ _)
      case skip =>
        obtain ⟨e1, e2⟩ := h3
        rw [← e2]
        exact h _ (by rw [e1]; exact Below.refl _ _)
      case enter f args =>
        obtain ⟨e1, hc⟩ := h3
        rw [e1]
        exact hc.mono fun e w'' ⟨he, hw''⟩ => ⟨v, he, h _ hw''⟩
    | halt x w2 => simp only [yieldsUpon] at h3
  · rename_i hw
    rw [if_neg hw] at hy
    rw [← hy]
    exact h _ (Below.refl _ _)

theorem opG_putB {j : Nat} {oi oj : Oper} {v : Value} (hj : ops[j]? = some oj) (hap : oi.apart ops oj = true) (hsi : ∀ cs b, oi.op ≠ .select cs b) (hsj : ∀ cs b, oj.op ≠ .select cs b)
    {K : Act → World → Prop} {a : Act} {w : World} (hy : yieldsB B W0 P ops oi v a) (h : opG P ops j K (a.put oi.dst v) w) :
    opG P ops j (fun a' w' => yieldsB B W0 P ops oi v a' ∧ K (a'.put oi.dst v) w') a w := by
  obtain ⟨h1, h2, h3⟩ := Oper.apart_spec hap
  have keep : ∀ u, yieldsB B W0 P ops oi v (a.put oj.dst u) := fun u => yieldsB_same hy (execOp_put oi hsi a oj.dst u h3) (wanted_put oi a oj.dst u h3)
  unfold opG at *
  simp only [hj] at *
  rw [wanted_put oj a oi.dst v h1] at h
  split
  · rename_i hw
    simp only [hw, if_true] at h
    rw [execOp_put oj hsj a oi.dst v h1] at h
    generalize (execOp a.eval oj).run P w = r at *
    cases r with
    | ok n w2 =>
      cases n <;> simp only [okUpon] at h ⊢
      case value u => exact ⟨keep u, by rw [← Act.put_comm a v u h2]; exact h⟩
      case skip => exact ⟨keep _, by rw [← Act.put_comm a v undef h2]; exact h⟩
      case enter f args => exact h.mono fun e w'' ⟨u, e1, e2⟩ => ⟨u, e1, keep u, by rw [← Act.put_comm a v u h2]; exact e2⟩
    | halt x w2 => simp only [okUpon] at h
  · rename_i hw
    simp only [hw] at h
    exact ⟨keep _, by rw [← Act.put_comm a v undef h2]; exact h⟩

theorem anyB_first {i : Nat} {oi : Oper} {v : Value} (hi : ops[i]? = some oi) (him : i < m) (hsel : ∀ (j : Nat) (o : Oper) cs b, ops[j]? = some o → o.op ≠ .select cs b) (hlate : lateOk md ops m = true) :
    ∀ (fuel : Nat) (listed : Array Bool) (a : Act) (w : World), But B W0 w →
      (∀ j oj, ops[j]? = some oj → j ≠ i → listed.getD j true = false → (∀ e ∈ oj.after, Region.binds md e = true → e.on ≠ i) → oi.apart ops oj = true) →
      i ∈ Region.ready md ops listed → yieldsB B W0 P ops oi v a →
      anyB B W0 P md ops m Q fuel (listed.setIfInBounds i true) (a.put oi.dst v) w → anyB B W0 P md ops m Q (fuel + 1) listed a w := by
  intro fuel
  induction fuel with
  | zero =>
    intro listed a w hC _ hr hy H
    refine ⟨fun h => (by rw [h] at hr; cases hr), fun j hj w' hb => ?_⟩
    by_cases hji : j = i
    · subst hji; exact opG_of_yieldsB hi hy (hC.trans (But.of_below hb)) fun w'' hb' => ⟨fun _ h => h.trans (But.of_below hb'), anyB_later H (hb.trans (hb'.mono hb.size))⟩
    · have := ready_mono hj hji
      rw [H.1] at this
      cases this
  | succ fuel ih =>
    intro listed a w hC hfree hr hy H
    refine ⟨fun h => (by rw [h] at hr; cases hr), fun j hj w' hb => ?_⟩
    have hC' := hC.trans (But.of_below hb)
    by_cases hji : j = i
    · subst hji; exact opG_of_yieldsB hi hy hC' fun w'' hb' => ⟨fun _ h => h.trans (But.of_below hb'), anyB_later H (hb.trans (hb'.mono hb.size))⟩
    · have h1 := H.2 j (ready_mono hj hji) w' hb
      obtain ⟨hjun, oj, hoj, hall⟩ := mem_ready.1 hj
      have hnot : ∀ e ∈ oj.after, Region.binds md e = true → e.on ≠ i := fun e he hb heq => by
        have h1 := hall e he hb
        have h0 := (mem_ready.1 hr).1
        rw [heq] at h1
        rcases Nat.lt_or_ge i listed.size with h' | h'
        · simp [h'] at h0 h1; rw [h0] at h1; cases h1
        · simp [Array.getElem?_eq_none h'] at h1
      have hjm : j < m := by
        by_cases hjm : j < m
        · exact hjm
        · obtain ⟨e, he, hb, hon⟩ := lateOk_spec hlate hoj hjm him
          exact absurd hon (hnot e he hb)
      have h2 := opG_putB hoj (hfree j oj hoj hji hjun hnot) (fun cs b => hsel i oi cs b hi) (fun cs b => hsel j oj cs b hoj) hy h1
      have hfree' : ∀ k ok, ops[k]? = some ok → k ≠ i → (listed.setIfInBounds j true).getD k true = false →
          (∀ e ∈ ok.after, Region.binds md e = true → e.on ≠ i) → oi.apart ops ok = true := fun k ok hk hki hun hno => by
        refine hfree k ok hk hki ?_ hno
        by_cases hjk : j = k
        · subst hjk; exact hjun
        · rw [getD_set_ne true hjk] at hun; exact hun
      refine opG_mono (fun a' w'' h3 => ?_) h2
      obtain ⟨h3y, h3g, h3a⟩ := h3
      refine ⟨fun _ => h3g hjm, ih (listed.setIfInBounds j true) a' w'' (h3g hjm hC') hfree' (ready_mono hr (Ne.symm hji)) h3y ?_⟩
      rw [Array.setIfInBounds_comm _ _ hji]
      exact h3a

theorem anyB_step {i fuel : Nat} {o : Oper} {listed : Array Bool} {a : Act} {w : World} {G : World → World} (hG : GrowB B W0 G) (hw0 : But B W0 w) (hi : ops[i]? = some o) (him : decide (i < m) = true) (hs : (Region.noSelect ops && lateOk md ops m) = true)
    (hf : (Region.free md ops listed i && (Region.ready md ops listed).contains i) = true)
    (h : ∀ K : Act → Prop, (∀ a, anyB B W0 P md ops m Q fuel (listed.setIfInBounds i true) a w → K a) → if Region.wanted o (yielded ops a.tmps) then ∃ v, (∀ x, yieldsUpon P (G x) v ((execOp a.eval o).run P (G x))) ∧ K (a.put o.dst v) else K (a.put o.dst undef)) :
    anyB B W0 P md ops m Q (fuel + 1) listed a w := by
  have h1 := h _ fun _ h => h
  have him' : i < m := of_decide_eq_true him
  rw [Bool.and_eq_true] at hs hf
  split at h1
  · rename_i hw
    obtain ⟨v, h2, h3⟩ := h1
    refine anyB_first hi him' (Region.noSelect_spec hs.1) hs.2 fuel listed a w hw0 (Region.free_spec hi hf.1) (by simpa using hf.2) ?_ h3
    unfold yieldsB
    rw [if_pos hw]
    intro w' hb
    have := h2 w'
    rw [hG.onto w' hb] at this
    exact this
  · rename_i hw
    refine anyB_first hi him' (Region.noSelect_spec hs.1) hs.2 fuel listed a w hw0 (Region.free_spec hi hf.1) (by simpa using hf.2) ?_ h1
    unfold yieldsB
    rw [if_neg hw]

/-- One of those that may come up: what is asked of it. -/
def askB (B : Nat) (W0 : World) (P : Program) (md : Region.Mode) (ops : Array Oper) (m : Nat) (Q : Exit → Act → World → Prop) (fuel : Nat) (listed : Array Bool) (a : Act) (w : World) (i : Nat) : Prop :=
  ∃ o, ops[i]? = some o ∧ ∀ w', Below w.heap.size w w' → ∀ K : Act → World → Prop, (∀ a' w'', (But B W0 w' → But B W0 w'') → anyB B W0 P md ops m Q fuel (listed.setIfInBounds i true) a' w'' → K a' w'') → if Region.wanted o (yielded ops a.tmps) then okUpon P o a K ((execOp a.eval o).run P w') else K (a.put o.dst undef) w'
theorem anyB_one {i fuel : Nat} {listed : Array Bool} {a : Act} {w : World} (hr : Region.ready md ops listed = [i]) (h : askB B W0 P md ops m Q fuel listed a w i) : anyB B W0 P md ops m Q (fuel + 1) listed a w := by
  obtain ⟨o, hi, h⟩ := h
  refine ⟨fun h0 => absurd (hr.symm.trans h0) (by simp), fun j hj w' hb => ?_⟩
  rw [hr, List.mem_singleton] at hj
  subst hj
  unfold opG
  simp only [hi]
  exact h w' hb _ fun a' w'' hb' ha => ⟨fun _ => hb', ha⟩
theorem anyB_end {fuel : Nat} {listed : Array Bool} {a : Act} {w : World} (hr : Region.ready md ops listed = []) (h : ∀ w', Below w.heap.size w w' → Q .normal a w') : anyB B W0 P md ops m Q fuel listed a w := by
  cases fuel with
  | zero => exact ⟨hr, h⟩
  | succ n => exact ⟨fun _ => h, fun i hi => (by rw [hr] at hi; cases hi)⟩
theorem wp_region_but {id : Nat} {a : Act} {w : World} {l : List Oper} (B m n : Nat) (hm : P.follows .mixedOrders = true) (hn : l.length = n)
    (h : ∀ w', Below w.heap.size w w' → anyB B w' P .any l.toArray m Q n (Array.replicate n false) a w') : (Code.region id l.toArray true).wp P Q a w :=
  wp_region_any hm (any_of_anyB (B := B) (W0 := { w with drawn := w.drawn + 1 }) _ _ _ _ (by subst hn; simpa using h { w with drawn := w.drawn + 1 } (Below.drew (Below.refl _ w))))
end
end Go.Proofs.YtldhbjmillfjgabGreatDoor

namespace Go.Proofs.YtldhbjmillfjgabGreatDoor
open Go.RowKit
set_option linter.unusedVariables false
attribute [local go_sem] yieldsUpon okUpon

/-- What an end's taking leaves. -/
def ended (t : T) (c : List Nat) (t' : T) : Prop := t.chunks = t'.chunks ++ [c] ∧ t'.bal
set_option maxRecDepth 100000 in
set_option maxHeartbeats 2000000 in
theorem last_one (p : Option Addr) (l : T) (c : List Nat) (w : World) (ht : isTree w p (.node l c .nil)) :
    Calls Tryz.prog 112 #[.pointer p] w fun e w' => ∃ q, e = .returned (.tuple #[chunkV c, .pointer q]) ∧ isTree w' q l ∧ Below w.heap.size w w' := by
  obtain ⟨b1, pl, pr, rfl, ⟨c0, c1, c2, c3, c4⟩, ⟨c5, c6⟩, _, _, hl, hr⟩ := ht
  have hb0 : ∀ o, Below w.heap.size w (w.alloc o) := fun o => (Below.refl _ w).alloc (Nat.le_refl _) o
  have hlt : b1 < w.heap.size := World.block_lt_of_cell? w _ c0
  have HT : Hid (isTree w pl l) := hl
  obtain rfl : pr = none := hr
  clear hl
  have d6 := fun o => cell_on (hb0 o) c6
  have hA := chunkAt_new w (.string ⟨#[]⟩) (.int .i64 0) (.int .i64 0) (.int .i64 0) (.int .i64 0) 194
  unfold chunkV
  generalize bytesOf c = v0 at *
  generalize C1 c = v1 at *
  generalize C2 c = v2 at *
  generalize C3 c = v3 at *
  generalize C4 c = v4 at *
  go_enter Tryz.func112, Tryz.ntmps112
  go_wp2
  have hbW := hb0 (.cells #[.string ⟨#[]⟩, .int .i64 0, .int .i64 0, .int .i64 0, .int .i64 0] 194)
  generalize (w.alloc (.cells #[.string ⟨#[]⟩, .int .i64 0, .int .i64 0, .int .i64 0, .int .i64 0] 194)) = W at *
  clear d6 hb0
  refine wp_region_but w.heap.size 10 10 (by kernel_rfl) rfl ?_
  intro w1 hb1
  have hbw := hbW.trans (hb1.mono hbW.size)
  have hA1 := chunkAt_below hA hb1
  obtain ⟨G, hG⟩ := exists_growB w.heap.size w1
  have hw0 := But.refl w.heap.size w1
  have hne : b1 ≠ w.heap.size := Nat.ne_of_lt hlt
  have g0 := hG.cell hne (cell_on hbw c0)
  have g1 := hG.cell hne (cell_on hbw c1)
  have g2 := hG.cell hne (cell_on hbw c2)
  have g3 := hG.cell hne (cell_on hbw c3)
  have g4 := hG.cell hne (cell_on hbw c4)
  have g5 := hG.cell hne (cell_on hbw c5)
  clear c0 c1 c2 c3 c4 c5 c6 hA
  (refine anyB_step hG hw0 (i := 0) rfl (by kernel_rfl) (by kernel_rfl) (by kernel_rfl) (fun K hK => ?_); go_simp; refine hK _ ?_; clear hK K)
  (refine anyB_step hG hw0 (i := 1) rfl (by kernel_rfl) (by kernel_rfl) (by kernel_rfl) (fun K hK => ?_); go_simp; refine hK _ ?_; clear hK K)
  (refine anyB_step hG hw0 (i := 2) rfl (by kernel_rfl) (by kernel_rfl) (by kernel_rfl) (fun K hK => ?_); go_simp; refine hK _ ?_; clear hK K)
  (refine anyB_step hG hw0 (i := 3) rfl (by kernel_rfl) (by kernel_rfl) (by kernel_rfl) (fun K hK => ?_); go_simp; refine hK _ ?_; clear hK K)
  (refine anyB_step hG hw0 (i := 4) rfl (by kernel_rfl) (by kernel_rfl) (by kernel_rfl) (fun K hK => ?_); go_simp; refine hK _ ?_; clear hK K)
  (refine anyB_step hG hw0 (i := 5) rfl (by kernel_rfl) (by kernel_rfl) (by kernel_rfl) (fun K hK => ?_); go_simp; refine hK _ ?_; clear hK K)
  (refine anyB_step hG hw0 (i := 6) rfl (by kernel_rfl) (by kernel_rfl) (by kernel_rfl) (fun K hK => ?_); go_simp; refine hK _ ?_; clear hK K)
  (refine anyB_step hG hw0 (i := 7) rfl (by kernel_rfl) (by kernel_rfl) (by kernel_rfl) (fun K hK => ?_); go_simp; refine hK _ ?_; clear hK K)
  clear g0 g1 g2 g3 g4 g5 hG
  refine anyB_one (i := 8) (by kernel_rfl) ⟨_, rfl, ?_⟩
  intro w2 hb2 K hK
  have hA2 := chunkAt_below hA1 hb2
  have hbw2 := hbw.trans (hb2.mono hbw.size)
  have HA2 : Hid _ := hA2
  obtain ⟨⟨a0, a1, a2, a3, a4⟩, f0, f1, f2, f3, f4⟩ := hA2
  go_simp
  refine hK _ _ (fun h => ((((h.setCell rfl _).setCell rfl _).setCell rfl _).setCell rfl _).setCell rfl _) ?_
  clear hK K
  refine anyB_one (i := 9) (by kernel_rfl) ⟨_, rfl, ?_⟩
  intro w3 hb3 K hK
  have hA3 := chunkAt_below (chunkAt_set HA2.out) hb3
  have hbw3 := (below_set5 hbw2 (Nat.le_refl _) _ _ _ _ _).trans (hb3.mono (below_set5 hbw2 (Nat.le_refl _) _ _ _ _ _).size)
  go_simp
  refine hK _ _ (fun h => h) ?_
  clear hK K
  refine anyB_end (by kernel_rfl) ?_
  intro w4 hb4
  have hA4 := chunkAt_below hA3 hb4
  have hbw4 := hbw3.trans (hb4.mono hbw3.size)
  clear a0 a1 a2 a3 a4 f0 f1 f2 f3 f4 hb3 hb4 hA3 HA2 hA1
  have HT4 : Hid _ := isTree_below hbw4 HT.out
  obtain ⟨⟨a0, a1, a2, a3, a4⟩, f0, f1, f2, f3, f4⟩ := hA4
  go_wp2
  refine bodyPost_ret (v := .tuple #[.agg #[.string v0, .int .i64 v1, .int .i64 v2, .int .i64 v3, .int .i64 v4], .pointer pl]) (by simp [results, Tryz.results112, go_sem, a0, a1, a2, a3, a4]) rfl ⟨_, rfl, HT4.out, hbw4⟩

set_option maxRecDepth 100000 in
set_option maxHeartbeats 2000000 in
theorem last_more (p : Option Addr) (l r : T) (c : List Nat) (w : World) (ht : isTree w p (.node l c r)) (hne : r ≠ .nil) (hz : big (.node l c r)) (hbal : (T.node l c r).bal)
    (ih : ∀ (p : Option Addr) (w : World), isTree w p r → Calls Tryz.prog 112 #[.pointer p] w fun e w' => ∃ c q t, e = .returned (.tuple #[chunkV c, .pointer q]) ∧ isTree w' q t ∧ ended r c t ∧ Below w.heap.size w w') :
    Calls Tryz.prog 112 #[.pointer p] w fun e w' => ∃ c1 q t, e = .returned (.tuple #[chunkV c1, .pointer q]) ∧ isTree w' q t ∧ ended (.node l c r) c1 t ∧ Below w.heap.size w w' := by
  obtain ⟨b1, pl, pr, rfl, ⟨c0, c1, c2, c3, c4⟩, ⟨c5, c6⟩, _, _, hl, hr⟩ := ht
  have hb0 : ∀ o, Below w.heap.size w (w.alloc o) := fun o => (Below.refl _ w).alloc (Nat.le_refl _) o
  have hlt : b1 < w.heap.size := World.block_lt_of_cell? w _ c0
  have hsub : ∃ b2, pr = some ⟨b2, 0, none⟩ := by
    cases r with
    | nil => exact absurd rfl hne
    | node x y z => obtain ⟨b, _, _, e, _⟩ := hr; exact ⟨b, e⟩
  obtain ⟨b2, rfl⟩ := hsub
  have cI := fun o => ih _ (w.alloc o) (isTree_below (hb0 o) hr)
  have HT : Hid (isTree w pl l) := hl
  have HJ : Hid (∀ c1 t, ended r c1 t → ∀ p1 p2 W, isTree W p1 l → isTree W p2 t → Calls Tryz.prog 159 #[.pointer p1, chunkV c, .pointer p2] W fun e w' => ∃ q t', e = .returned (.pointer q) ∧ isTree w' q t' ∧ ended (.node l c r) c1 t' ∧ Below W.heap.size W w') := fun c1 t he p1 p2 W h1 h2 => by
    obtain ⟨b1, b2, b3, b4⟩ := hbal
    have hbig : big (.node l c t) := by
      obtain ⟨z1, z2⟩ := hz
      have e1 := he.1
      simp only [T.runes, T.size, C1_append] at z1 z2
      rw [runes_chunks r, e1] at z1
      rw [size_chunks r, e1] at z2
      simp only [List.flatten_append, C1_append, List.length_append, List.length_singleton] at z1 z2
      have := C1_pos [c1].flatten
      exact ⟨by simp only [T.runes, C1_append, runes_chunks t]; omega, by simp only [T.size, size_chunks t]; omega⟩
    refine (join_any _ p1 p2 l t c W (Nat.le_refl _) h1 h2 hbig b1 he.2).mono ?_
    rintro e w' ⟨q, t', rfl, ht', ⟨j1, j2, _, _⟩, hb⟩
    exact ⟨q, t', rfl, ht', ⟨by rw [j1, T.chunks, he.1]; simp, j2⟩, hb⟩
  clear hl hr hne hz hbal ih
  have d6 := fun o => cell_on (hb0 o) c6
  have hA := chunkAt_new w (.string ⟨#[]⟩) (.int .i64 0) (.int .i64 0) (.int .i64 0) (.int .i64 0) 194
  have hN : (w.alloc (.cells #[.string ⟨#[]⟩, .int .i64 0, .int .i64 0, .int .i64 0, .int .i64 0] 194)).cell? ⟨w.heap.size, 5, none⟩ = none := by simp [go_sem]
  have HA : Hid _ := hA
  have HN : Hid _ := hN
  clear hA hN
  unfold chunkV at cI HJ ⊢
  go_enter Tryz.func112, Tryz.ntmps112
  go_wp2_with (first | (go_at_call 112; refine (cI _).mono ?_; rintro e w1 ⟨x, p', t, rfl, ht1, he, hb1⟩; have HT1 : Hid _ := ht1; have HE : Hid _ := he; clear ht1 he) | fail)
  obtain ⟨W, hW⟩ : ∃ W, w1.alloc (.cells #[.string (bytesOf x), .int .i64 (C1 x), .int .i64 (C2 x), .int .i64 (C3 x), .int .i64 (C4 x)] 194) = W := ⟨_, rfl⟩
  have hB4 : chunkAt W w1.heap.size (.string (bytesOf x)) (.int .i64 (C1 x)) (.int .i64 (C2 x)) (.int .i64 (C3 x)) (.int .i64 (C4 x)) := by rw [← hW]; exact chunkAt_new _ _ _ _ _ _ _
  have hb1W : Below w1.heap.size w1 W := by rw [← hW]; exact (Below.refl _ _).alloc (Nat.le_refl _) _
  rw [hW]
  clear hW cI d6
  have hA := chunkAt_below (chunkAt_below HA.out hb1) hb1W
  have hltA := chunkAt_lt HA.out
  have hN := (((hb1.trans (hb1W.mono hb1.size)).cell (p := ⟨w.heap.size, 5, none⟩) hltA)).trans HN.out
  have ht1 := isTree_below hb1W HT1.out
  have hbW := (hb0 (.cells #[.string ⟨#[]⟩, .int .i64 0, .int .i64 0, .int .i64 0, .int .i64 0] 194)).trans ((hb1.trans (hb1W.mono hb1.size)).mono (hb0 (.cells #[.string ⟨#[]⟩, .int .i64 0, .int .i64 0, .int .i64 0, .int .i64 0] 194)).size)
  have hn14 : w1.heap.size ≠ w.heap.size := by have := hb1.size; omega
  clear HA HN HT1 hb1 hb1W hb0
  refine wp_region_but w.heap.size 13 13 (by kernel_rfl) rfl ?_
  intro w2 hb2
  have hbw := hbW.trans (hb2.mono hbW.size)
  have HA1 : Hid _ := chunkAt_below hA hb2
  have HN1 : Hid _ := (hb2.cell (p := ⟨w.heap.size, 5, none⟩) (chunkAt_lt hA)).trans hN
  have HT1 : Hid _ := isTree_below hb2 ht1
  have hB4' := chunkAt_below hB4 hb2
  obtain ⟨⟨e0, e1, e2, e3, e4⟩, _⟩ := hB4'
  obtain ⟨G, hG⟩ := exists_growB w.heap.size w2
  have hw0 := But.refl w.heap.size w2
  have hne : b1 ≠ w.heap.size := Nat.ne_of_lt hlt
  have g0 := hG.cell hne (cell_on hbw c0)
  have g1 := hG.cell hne (cell_on hbw c1)
  have g2 := hG.cell hne (cell_on hbw c2)
  have g3 := hG.cell hne (cell_on hbw c3)
  have g4 := hG.cell hne (cell_on hbw c4)
  have g5 := hG.cell hne (cell_on hbw c5)
  have k0 := hG.cell hn14 e0
  have k1 := hG.cell hn14 e1
  have k2 := hG.cell hn14 e2
  have k3 := hG.cell hn14 e3
  have k4 := hG.cell hn14 e4
  clear c0 c1 c2 c3 c4 c5 c6 hA hN ht1 hB4 e0 e1 e2 e3 e4
  (refine anyB_step hG hw0 (i := 0) rfl (by kernel_rfl) (by kernel_rfl) (by kernel_rfl) (fun K hK => ?_); go_simp; refine hK _ ?_; clear hK K)
  (refine anyB_step hG hw0 (i := 1) rfl (by kernel_rfl) (by kernel_rfl) (by kernel_rfl) (fun K hK => ?_); go_simp; refine hK _ ?_; clear hK K)
  (refine anyB_step hG hw0 (i := 2) rfl (by kernel_rfl) (by kernel_rfl) (by kernel_rfl) (fun K hK => ?_); go_simp; refine hK _ ?_; clear hK K)
  (refine anyB_step hG hw0 (i := 3) rfl (by kernel_rfl) (by kernel_rfl) (by kernel_rfl) (fun K hK => ?_); go_simp; refine hK _ ?_; clear hK K)
  (refine anyB_step hG hw0 (i := 4) rfl (by kernel_rfl) (by kernel_rfl) (by kernel_rfl) (fun K hK => ?_); go_simp; refine hK _ ?_; clear hK K)
  (refine anyB_step hG hw0 (i := 5) rfl (by kernel_rfl) (by kernel_rfl) (by kernel_rfl) (fun K hK => ?_); go_simp; refine hK _ ?_; clear hK K)
  (refine anyB_step hG hw0 (i := 6) rfl (by kernel_rfl) (by kernel_rfl) (by kernel_rfl) (fun K hK => ?_); go_simp; refine hK _ ?_; clear hK K)
  (refine anyB_step hG hw0 (i := 7) rfl (by kernel_rfl) (by kernel_rfl) (by kernel_rfl) (fun K hK => ?_); go_simp; refine hK _ ?_; clear hK K)
  (refine anyB_step hG hw0 (i := 8) rfl (by kernel_rfl) (by kernel_rfl) (by kernel_rfl) (fun K hK => ?_); go_simp; refine hK _ ?_; clear hK K)
  (refine anyB_step hG hw0 (i := 9) rfl (by kernel_rfl) (by kernel_rfl) (by kernel_rfl) (fun K hK => ?_); go_simp; refine hK _ ?_; clear hK K)
  clear g0 g1 g2 g3 g4 g5 k0 k1 k2 k3 k4 hG hb2
  refine anyB_one (i := 10) (by kernel_rfl) ⟨_, rfl, ?_⟩
  · intro w3 hb3 K hK
    have hbw3 := hbw.trans (hb3.mono hbw.size)
    have ht3 := isTree_below hb3 HT1.out
    have cj := HJ.out x t HE.out _ _ w3 (isTree_below hbw3 HT.out) ht3
    go_simp
    refine cj.mono ?_
    rintro e w4 ⟨q, t', rfl, ht4, he4, hb4⟩
    have HE9 : Hid _ := he4
    refine ⟨_, rfl, hK _ _ (fun h => h.trans (But.of_below hb4)) ?_⟩
    clear hK K cj he4 ht3
    have hb34 := hb3.trans (hb4.mono hb3.size)
    have hbw4 := hbw3.trans (hb4.mono hbw3.size)
    have HA4 : Hid _ := chunkAt_below HA1.out hb34
    have HN4 : Hid _ := (hb34.cell (p := ⟨w.heap.size, 5, none⟩) (chunkAt_lt HA1.out)).trans HN1.out
    refine anyB_one (i := 11) (by kernel_rfl) ⟨_, rfl, ?_⟩
    intro w5 hb5 K hK
    have hbw5 := hbw4.trans (hb5.mono hbw4.size)
    have hN5 := (hb5.cell (p := ⟨w.heap.size, 5, none⟩) (chunkAt_lt HA4.out)).trans HN4.out
    have HT5 : Hid _ := isTree_but (((((But.refl w.heap.size w5).setCell (p := ⟨w.heap.size, 0, none⟩) rfl (.string (bytesOf x))).setCell (p := ⟨w.heap.size, 1, none⟩) rfl (.int .i64 (C1 x))).setCell (p := ⟨w.heap.size, 2, none⟩) rfl (.int .i64 (C2 x))).setCell (p := ⟨w.heap.size, 3, none⟩) rfl (.int .i64 (C3 x)) |>.setCell (p := ⟨w.heap.size, 4, none⟩) rfl (.int .i64 (C4 x))) hN5 (isTree_below hb5 ht4)
    clear ht4 hN5
    have HA5 : Hid _ := chunkAt_below HA4.out hb5
    have hx := HA5.out
    obtain ⟨⟨a0, a1, a2, a3, a4⟩, f0, f1, f2, f3, f4⟩ := hx
    go_simp
    refine hK _ _ (fun h => ((((h.setCell rfl _).setCell rfl _).setCell rfl _).setCell rfl _).setCell rfl _) ?_
    clear hK K a0 a1 a2 a3 a4 f0 f1 f2 f3 f4
    have hbs := below_set5 hbw5 (Nat.le_refl _) (.string (bytesOf x)) (.int .i64 (C1 x)) (.int .i64 (C2 x)) (.int .i64 (C3 x)) (.int .i64 (C4 x))
    have hAs := chunkAt_set (u0 := .string (bytesOf x)) (u1 := .int .i64 (C1 x)) (u2 := .int .i64 (C2 x)) (u3 := .int .i64 (C3 x)) (u4 := .int .i64 (C4 x)) HA5.out
    have hts := HT5.out
    refine anyB_one (i := 12) (by kernel_rfl) ⟨_, rfl, ?_⟩
    intro w8 hb8 K hK
    go_simp
    refine hK _ _ (fun h => h) ?_
    clear hK K
    refine anyB_end (by kernel_rfl) ?_
    intro w9 hb9
    have hb89 := hb8.trans (hb9.mono hb8.size)
    have hA9 := chunkAt_below hAs hb89
    have hbw9 := hbs.trans (hb89.mono hbs.size)
    have HT9 : Hid _ := isTree_below hb89 hts
    clear hb8 hb9 hb89 hts
    obtain ⟨⟨a0, a1, a2, a3, a4⟩, f0, f1, f2, f3, f4⟩ := hA9
    go_wp2
    refine bodyPost_ret (v := .tuple #[chunkV x, .pointer q]) (by simp [results, Tryz.results112, go_sem, a0, a1, a2, a3, a4, chunkV]) rfl ⟨_, _, _, rfl, HT9.out, HE9.out, hbw9⟩

theorem last_any : ∀ (n : Nat) (t : T) (p : Option Addr) (w : World), t.size ≤ n → t ≠ .nil → isTree w p t → big t → t.bal →
    Calls Tryz.prog 112 #[.pointer p] w fun e w' => ∃ c q t', e = .returned (.tuple #[chunkV c, .pointer q]) ∧ isTree w' q t' ∧ ended t c t' ∧ Below w.heap.size w w' := by
  intro n
  induction n with
  | zero =>
    intro t p w hn hne
    cases t with
    | nil => exact absurd rfl hne
    | node l c r => simp [T.size] at hn
  | succ n ih =>
    intro t p w hn hne ht hz hbal
    match t, hn, hne, ht, hz, hbal with
    | .nil, _, hne, _, _, _ => exact absurd rfl hne
    | .node l c r, hn, _, ht, hz, hbal =>
      by_cases hs : r = .nil
      · subst hs
        refine (last_one p l c w ht).mono ?_
        rintro e w' ⟨q, rfl, hq, hb⟩
        exact ⟨c, q, l, rfl, hq, ⟨by simp [T.chunks], hbal.1⟩, hb⟩
      · simp only [T.size] at hn
        exact last_more p l r c w ht hs hz hbal fun p' w' h' => ih r p' w' (by omega) hs h' (big_node hz).2.1 hbal.2.1
end Go.Proofs.YtldhbjmillfjgabGreatDoor

namespace Go.Proofs.YtldhbjmillfjgabGreatDoor
open Go.RowKit
set_option linter.unusedVariables false

/-- A chunk as it is to be: runes, one to thirty-two bytes. -/
def okChunk (c : List Nat) : Prop := c ≠ [] ∧ (encs c).length ≤ 32 ∧ ∀ r ∈ c, isRune r
def okT (t : T) : Prop := t.bal ∧ ∀ c ∈ t.chunks, okChunk c
theorem okT_nil : okT .nil := ⟨trivial, fun c h => by cases h⟩
/-- What comes of a chunk behind all. -/
def added (t : T) (c : List Nat) (t' : T) : Prop := t'.runes = t.runes ++ c ∧ okT t' ∧ t'.size ≤ t.size + 1

theorem joined_nil {t t' : T} {c : List Nat} (h : joined t .nil c t') (ht : okT t) (hc : okChunk c) : added t c t' := by
  obtain ⟨j1, j2, _, _⟩ := h
  refine ⟨by rw [runes_chunks, runes_chunks t, j1]; simp [T.chunks], ⟨j2, fun x hx => ?_⟩, by rw [size_chunks, size_chunks, j1]; simp [T.chunks]⟩
  rw [j1] at hx
  simp only [T.chunks, List.append_nil, List.mem_append, List.mem_singleton] at hx
  rcases hx with hx | rfl
  · exact ht.2 x hx
  · exact hc

set_option maxRecDepth 100000 in
set_option maxHeartbeats 2000000 in
theorem add_nil (c : List Nat) (w : World) (hz : C1 c ≤ 1000000000) :
    Calls Tryz.prog 115 #[.pointer none, chunkV c] w fun e w' => ∃ q, e = .returned (.pointer q) ∧ isTree w' q (.node .nil c .nil) ∧ Below w.heap.size w w' := by
  have hb0 : ∀ o, Below w.heap.size w (w.alloc o) := fun o => (Below.refl _ w).alloc (Nat.le_refl _) o
  have e0 : C1 T.nil.runes = 0 := rfl
  have ck := fun wx => link_any none none .nil .nil c wx rfl rfl (by rw [e0]; omega) (by simp [T.size, T.height])
  unfold chunkV at *
  clear hz e0
  go_enter Tryz.func115, Tryz.ntmps115
  go_wp2_with (first | (go_at_call 161; refine (ck _).mono ?_; rintro e w1 ⟨q, rfl, ht, hb⟩; have HT : Hid _ := ht; clear ht) | fail)
  go_ret
  exact ⟨q, rfl, HT.out, (hb0 _).trans (hb.mono (hb0 _).size)⟩

set_option maxRecDepth 100000 in
set_option maxHeartbeats 2000000 in
theorem add_more (b : Nat) (t : T) (c : List Nat) (w : World) (hT : Lib.Utf8Tabs 2 3 w) (ht : isTree w (some ⟨b, 0, none⟩) t) (hne : t ≠ .nil) (hz : big (.node t c .nil)) (hok : okT t) (hc : okChunk c) :
    Calls Tryz.prog 115 #[.pointer (some ⟨b, 0, none⟩), chunkV c] w fun e w' => ∃ q t', e = .returned (.pointer q) ∧ isTree w' q t' ∧ added t c t' ∧ Below w.heap.size w w' := by
  have hb0 : ∀ o, Below w.heap.size w (w.alloc o) := fun o => (Below.refl _ w).alloc (Nat.le_refl _) o
  have cl := fun o => last_any _ t _ (w.alloc o) (Nat.le_refl _) hne (isTree_below (hb0 o) ht) (big_node hz).1 hok.1
  have HT : Hid (isTree w (some ⟨b, 0, none⟩) t) := ht
  have HTT : Hid (Lib.Utf8Tabs 2 3 w) := hT
  have HB : Hid (big (.node t c .nil)) := hz
  have HO : Hid (okT t) := hok
  have HC : Hid (okChunk c) := hc
  have hcs : (bytesOf c).size ≤ 32 := by rw [bytesOf_size]; exact hc.2.1
  clear hT ht hne hz hok hc
  have HA0 : Hid (∀ x t0, ended t x t0 → okChunk x ∧ (encs x).length ≤ 32 ∧ big (.node t0 (x ++ c) .nil) ∧ okT t0) := fun x t0 he => by
    have hx : okChunk x := HO.out.2 x (by rw [he.1]; simp)
    refine ⟨hx, hx.2.1, ?_, he.2, fun y hy => HO.out.2 y (by rw [he.1]; simp [hy])⟩
    obtain ⟨z1, z2⟩ := HB.out
    simp only [T.runes, T.size, C1_append] at z1 z2
    rw [runes_chunks t, he.1] at z1
    rw [size_chunks t, he.1] at z2
    simp only [List.flatten_append, C1_append, List.length_append, List.length_singleton, List.flatten_cons, List.flatten_nil, List.append_nil] at z1 z2
    exact ⟨by simp only [T.runes, C1_append, runes_chunks t0]; omega, by simp only [T.size, size_chunks t0]; omega⟩
  have HK : Hid (∀ x t0, ended t x t0 → ∀ wx, Below w.heap.size w wx → Calls Tryz.prog 116 #[.string (bytesOf x ++ bytesOf c)] wx fun e w' => e = .returned (chunkV (x ++ c)) ∧ Below wx.heap.size wx w') := fun x t0 he wx hb => by
    obtain ⟨h1, h2, h3, _⟩ := HA0.out x t0 he
    rw [bytesOf_append]
    have hl := HC.out.2.1
    refine chunkOf_any (x ++ c) (fun r hr => ?_) ?_ wx (Go.Proofs.Utf8Tabs_below HTT.out hb)
    · rcases List.mem_append.1 hr with hr | hr
      · exact h1.2.2 r hr
      · exact HC.out.2.2 r hr
    · rw [C1_append, C1_len, C1_len]; omega
  have HJ1 : Hid (∀ x t0, ended t x t0 → (encs x).length + (encs c).length ≤ 32 → ∀ q0 wx, isTree wx q0 t0 → Calls Tryz.prog 159 #[.pointer q0, chunkV (x ++ c), .pointer none] wx fun e w' => ∃ q t', e = .returned (.pointer q) ∧ isTree w' q t' ∧ added t c t' ∧ Below wx.heap.size wx w') := fun x t0 he hle q0 wx h => by
    obtain ⟨h1, h2, h3, h4⟩ := HA0.out x t0 he
    refine (join_any _ q0 none t0 .nil (x ++ c) wx (Nat.le_refl _) h rfl h3 he.2 trivial).mono ?_
    rintro e w' ⟨q, t', rfl, ht', hj, hb⟩
    have hok : okChunk (x ++ c) := ⟨by simp [h1.1], by rw [encs_append, List.length_append]; exact hle, fun r hr => (List.mem_append.1 hr).elim (h1.2.2 r) (HC.out.2.2 r)⟩
    obtain ⟨a1, a2, a3⟩ := joined_nil hj h4 hok
    refine ⟨q, t', rfl, ht', ⟨?_, a2, ?_⟩, hb⟩
    · rw [a1, runes_chunks t, runes_chunks t0, he.1]; simp
    · have := size_chunks t; rw [he.1] at this; have := size_chunks t0; simp at *; omega
  have HJ2 : Hid (∀ wx, Below w.heap.size w wx → Calls Tryz.prog 159 #[.pointer (some ⟨b, 0, none⟩), chunkV c, .pointer none] wx fun e w' => ∃ q t', e = .returned (.pointer q) ∧ isTree w' q t' ∧ added t c t' ∧ Below wx.heap.size wx w') := fun wx hb => by
    refine (join_any _ _ none t .nil c wx (Nat.le_refl _) (isTree_below hb HT.out) rfl HB.out HO.out.1 trivial).mono ?_
    rintro e w' ⟨q, t', rfl, ht', hj, hb⟩
    exact ⟨q, t', rfl, ht', joined_nil hj HO.out HC.out, hb⟩
  unfold chunkV at *
  go_enter Tryz.func115, Tryz.ntmps115
  go_wp2_with (first
    | (go_at_call 112; refine (cl _).mono ?_; rintro e w1 ⟨x, q0, t0, rfl, ht0, he, hb1⟩; have HT0 : Hid _ := ht0; have HE : Hid (ended t x t0) := he; have hxs : (bytesOf x).size ≤ 32 := (by rw [bytesOf_size]; exact (HA0.out x t0 he).2.1); have hb1W : Below w1.heap.size w1 (w1.alloc (.cells #[.string (bytesOf x), .int .i64 (C1 x), .int .i64 (C2 x), .int .i64 (C3 x), .int .i64 (C4 x)] 194)) := (Below.refl _ w1).alloc (Nat.le_refl _) _; have hm := chunkAt_below (chunkAt_below (chunkAt_new w (.string (bytesOf c)) (.int .i64 (C1 c)) (.int .i64 (C2 c)) (.int .i64 (C3 c)) (.int .i64 (C4 c)) 194) hb1) hb1W; obtain ⟨⟨m0, m1, m2, m3, m4⟩, _⟩ := hm; have hBW : Below w.heap.size w (w1.alloc (.cells #[.string (bytesOf x), .int .i64 (C1 x), .int .i64 (C2 x), .int .i64 (C3 x), .int .i64 (C4 x)] 194)) := (hb0 _).trans ((hb1.trans (hb1W.mono hb1.size)).mono (hb0 _).size); have HBW : Hid _ := hBW; have HTW : Hid _ := isTree_below hb1W ht0; clear ht0 he hBW hb1 hb1W)
    | fail)
  · have hle : (encs x).length + (encs c).length ≤ 32 := by rw [← bytesOf_size, ← bytesOf_size]; omega
    refine (HK.out x t0 HE.out _ HBW.out).mono ?_
    rintro e w2 ⟨rfl, hb2⟩
    have hw2 := HBW.out.trans (hb2.mono HBW.out.size)
    have cj := HJ1.out x t0 HE.out hle q0 w2 (isTree_below hb2 HTW.out)
    unfold chunkV at cj
    clear hb2
    go_wp2_with (first | (go_at_call 159; refine cj.mono ?_; rintro e w3 ⟨q, t', rfl, ht', ha, hb3⟩; have HT' : Hid _ := ht'; have HA' : Hid _ := ha; clear ht' ha) | fail)
    go_ret
    exact ⟨q, t', rfl, HT'.out, HA'.out, hw2.trans (hb3.mono hw2.size)⟩
  · refine (HJ2.out _ HBW.out).mono ?_
    rintro e w3 ⟨q, t', rfl, ht', ha, hb3⟩
    have hw3 := HBW.out.trans (hb3.mono HBW.out.size)
    have HT' : Hid _ := ht'
    have HA' : Hid _ := ha
    clear ht' ha hb3
    go_wp2
    go_ret
    exact ⟨q, t', rfl, HT'.out, HA'.out, hw3⟩

theorem add_any (p : Option Addr) (t : T) (c : List Nat) (w : World) (hT : Lib.Utf8Tabs 2 3 w) (ht : isTree w p t) (hz : big (.node t c .nil)) (hok : okT t) (hc : okChunk c) :
    Calls Tryz.prog 115 #[.pointer p, chunkV c] w fun e w' => ∃ q t', e = .returned (.pointer q) ∧ isTree w' q t' ∧ added t c t' ∧ Below w.heap.size w w' := by
  cases t with
  | nil =>
    obtain rfl : p = none := ht
    refine (add_nil c w (by obtain ⟨z, _⟩ := hz; simp only [T.runes, List.nil_append, List.append_nil] at z; omega)).mono ?_
    rintro e w' ⟨q, rfl, hq, hb⟩
    refine ⟨q, _, rfl, hq, ⟨by simp [T.runes], ⟨⟨trivial, trivial, by simp [T.height], by simp [T.height]⟩, fun x hx => ?_⟩, by simp [T.size]⟩, hb⟩
    simp only [T.chunks, List.nil_append, List.append_nil, List.mem_singleton] at hx
    subst hx
    exact hc
  | node l x r =>
    have h2 := ht
    obtain ⟨b, _, _, rfl, _⟩ := h2
    exact add_more b _ c w hT ht (by simp) hz hok hc
end Go.Proofs.YtldhbjmillfjgabGreatDoor

namespace Go.Proofs.YtldhbjmillfjgabGreatDoor

/-- A byte with which a rune may begin. -/
def startB (b : UInt8) : Bool := Lib.runeStart (b.toNat : Int)
theorem startB_lead {n : Nat} (h : n < 256) (h2 : n / 64 ≠ 2) : startB n.toUInt8 = true := by
  unfold startB Lib.runeStart
  rw [toU8 h, bne_iff_ne]
  omega
theorem startB_tail {n : Nat} (h : n < 64) : startB (128 + n).toUInt8 = false := by
  unfold startB Lib.runeStart
  rw [toU8 (by omega), bne_eq_false_iff_eq]
  omega
theorem enc_starts {r : Nat} (hr : isRune r) : ∃ b t, enc r = b :: t ∧ startB b = true ∧ (∀ x ∈ t, startB x = false) ∧ t.length ≤ 3 := by
  unfold isRune at hr
  by_cases h1 : r ≤ 127
  · rw [enc1 h1]; exact ⟨_, [], rfl, startB_lead (by omega) (by omega), by simp, by simp⟩
  by_cases h2 : r ≤ 2047
  · rw [enc2 (by omega) h2]
    exact ⟨_, _, rfl, startB_lead (by omega) (by omega), fun x hx => by simp only [List.mem_cons, List.not_mem_nil, or_false] at hx; subst hx; exact startB_tail (by omega), by simp⟩
  by_cases h3 : r ≤ 65535
  · rw [enc3 (by omega)]
    exact ⟨_, _, rfl, startB_lead (by omega) (by omega), fun x hx => by simp only [List.mem_cons, List.not_mem_nil, or_false] at hx; rcases hx with rfl | rfl <;> exact startB_tail (by omega), by simp⟩
  · rw [enc4 (by omega) (by omega)]
    exact ⟨_, _, rfl, startB_lead (by omega) (by omega), fun x hx => by simp only [List.mem_cons, List.not_mem_nil, or_false] at hx; rcases hx with rfl | rfl | rfl <;> exact startB_tail (by omega), by simp⟩

/-- A place between two runes, or at an end. -/
def edgeAt (rs : List Nat) (j : Nat) : Prop := ∃ k, k ≤ rs.length ∧ j = (encs (rs.take k)).length
theorem edgeAt_zero (rs : List Nat) : edgeAt rs 0 := ⟨0, Nat.zero_le _, by simp [encs]⟩
theorem edgeAt_end (rs : List Nat) : edgeAt rs (encs rs).length := ⟨rs.length, Nat.le_refl _, by rw [List.take_length]⟩
theorem edgeAt_first {r : Nat} (rs : List Nat) : edgeAt (r :: rs) (enc r).length := ⟨1, by simp, by simp [encs]⟩
theorem edgeAt_of_start : ∀ {rs : List Nat}, (∀ r ∈ rs, isRune r) → ∀ {j : Nat} {b : UInt8}, (encs rs)[j]? = some b → startB b = true → edgeAt rs j
  | [], _, j, b, h, _ => by simp [encs] at h
  | r :: rs, hr, j, b, h, hb => by
    obtain ⟨b0, t, e, h1, h2, _⟩ := enc_starts (hr r (by simp))
    rw [encs_cons] at h
    by_cases hj : j < (enc r).length
    · rw [List.getElem?_append_left hj, e] at h
      cases j with
      | zero => exact edgeAt_zero _
      | succ j =>
        rw [List.getElem?_cons_succ] at h
        have := h2 b (List.mem_of_getElem? h)
        rw [this] at hb
        cases hb
    · rw [List.getElem?_append_right (by omega)] at h
      obtain ⟨k, hk, e2⟩ := edgeAt_of_start (fun x hx => hr x (by simp [hx])) h hb
      refine ⟨k + 1, by simp; omega, ?_⟩
      rw [List.take_succ_cons, encs_cons, List.length_append, ← e2]
      omega
theorem start_of_edgeAt : ∀ {rs : List Nat}, (∀ r ∈ rs, isRune r) → ∀ {j : Nat} {b : UInt8}, edgeAt rs j → (encs rs)[j]? = some b → startB b = true
  | [], _, j, b, _, h => by simp [encs] at h
  | r :: rs, hr, j, b, ⟨k, hk, hj⟩, h => by
    obtain ⟨b0, t, e, h1, _, _⟩ := enc_starts (hr r (by simp))
    cases k with
    | zero =>
      simp [encs] at hj
      subst hj
      rw [encs_cons, e] at h
      simp at h
      subst h
      exact h1
    | succ k =>
      rw [List.take_succ_cons, encs_cons, List.length_append] at hj
      rw [encs_cons, List.getElem?_append_right (by omega)] at h
      exact start_of_edgeAt (fun x hx => hr x (by simp [hx])) ⟨k, by simpa using hk, by omega⟩ h

/-- A cut at an edge. -/
theorem cut_at {rs : List Nat} (hr : ∀ r ∈ rs, isRune r) {j : Nat} (h : edgeAt rs j) (h0 : 0 < j) (h32 : j ≤ 32) :
    ∃ x y, rs = x ++ y ∧ okChunk x ∧ (bytesOf rs).extract 0 j = bytesOf x ∧ (bytesOf rs).extract j (bytesOf rs).size = bytesOf y ∧ (encs y).length + j = (encs rs).length := by
  obtain ⟨k, hk, rfl⟩ := h
  refine ⟨rs.take k, rs.drop k, (List.take_append_drop k rs).symm, ⟨?_, h32, fun r h => hr r (List.mem_of_mem_take h)⟩, ?_, ?_, ?_⟩
  · intro e
    rw [e] at h0
    simp [encs] at h0
  · apply ByteArray.ext
    apply Array.toList_inj.1
    rw [Lib.extract_data, List.drop_zero, Nat.sub_zero, bytesOf_list, bytesOf_list]
    conv => lhs; rw [← List.take_append_drop k rs, encs_append]
    simp
  · apply ByteArray.ext
    apply Array.toList_inj.1
    rw [Lib.extract_to_end, bytesOf_list, bytesOf_list]
    conv => lhs; rw [← List.take_append_drop k rs, encs_append]
    simp
  · have e : encs rs = encs (rs.take k) ++ encs (rs.drop k) := by rw [← encs_append, List.take_append_drop]
    rw [e, List.length_append]
    omega
theorem first_len {rs : List Nat} (hr : ∀ r ∈ rs, isRune r) (hne : rs ≠ []) : ∃ f, 1 ≤ f ∧ f ≤ 4 ∧ edgeAt rs f ∧ f ≤ (encs rs).length := by
  cases rs with
  | nil => exact absurd rfl hne
  | cons r rs =>
    obtain ⟨b0, t, e, _, _, h3⟩ := enc_starts (hr r (by simp))
    refine ⟨(enc r).length, by rw [e]; simp, by rw [e]; simp; omega, edgeAt_first rs, by rw [encs_cons, List.length_append]; omega⟩
end Go.Proofs.YtldhbjmillfjgabGreatDoor

namespace Go.Proofs.YtldhbjmillfjgabGreatDoor
open Go.RowKit

/-- The loop's two blocks of book-keeping lie as they lay. -/
structure Same2 (n : Nat) (W W' : World) : Prop where
  a : W'.heap[n]? = W.heap[n]?
  b : W'.heap[n + 1]? = W.heap[n + 1]?
theorem Same2.refl (n : Nat) (W : World) : Same2 n W W := ⟨rfl, rfl⟩
theorem Same2.trans {n : Nat} {A B C : World} (h : Same2 n A B) (k : Same2 n B C) : Same2 n A C := ⟨k.a.trans h.a, k.b.trans h.b⟩
theorem Same2.of_below {n B : Nat} {W W' : World} (h : Below B W W') (hB : n + 2 ≤ B) : Same2 n W W' := ⟨h.block n (by omega), h.block (n + 1) (by omega)⟩
theorem Same2.setCell {n : Nat} {A W : World} (h : Same2 n A W) {p : Addr} (h1 : p.block ≠ n) (h2 : p.block ≠ n + 1) (v : Value) : Same2 n A (W.setCell p v) :=
  ⟨(Below.heap_setCell W p v n (fun e => h1 e.symm)).trans h.a, (Below.heap_setCell W p v (n + 1) (fun e => h2 e.symm)).trans h.b⟩
theorem Same2.alloc {n : Nat} {A W : World} (h : Same2 n A W) (hn : n + 2 ≤ W.heap.size) (o : Obj) : Same2 n A (W.alloc o) :=
  ⟨(Below.heap_alloc W o n (by omega)).trans h.a, (Below.heap_alloc W o (n + 1) (by omega)).trans h.b⟩
theorem Same2.drew {n : Nat} {A W : World} (h : Same2 n A W) : Same2 n A W.drew := ⟨h.a, h.b⟩

/-- All blocks but one lie as they lay. -/
structure Put1 (n : Nat) (A B : World) : Prop where
  os : B.os = A.os
  tape : B.tape = A.tape
  output : B.output = A.output
  size : B.heap.size = A.heap.size
  block : ∀ k, k ≠ n → B.heap[k]? = A.heap[k]?
theorem Put1.putObj (n : Nat) (A : World) (o : Obj) : Put1 n A (A.putObj n o) := ⟨rfl, rfl, rfl, by simp, fun _ h => World.putObj_heap_other h⟩
theorem Put1.below {n B : Nat} {A A' : World} (h : Put1 n A A') (hB : B ≤ n) : Below B A A' := ⟨h.os, h.tape, h.output, Nat.le_of_eq h.size.symm, fun k hk => h.block k (by omega)⟩
theorem Put1.cell {n : Nat} {A A' : World} (h : Put1 n A A') {b o : Nat} (hb : b ≠ n) : A'.cell? ⟨b, o, none⟩ = A.cell? ⟨b, o, none⟩ := World.cell?_of_block (w := A) (a := ⟨b, o, none⟩) (h.block b hb)
theorem Put1.frozen {n : Nat} {A A' : World} (h : Put1 n A A') {b o : Nat} (hb : b ≠ n) : A'.frozen? ⟨b, o, none⟩ = A.frozen? ⟨b, o, none⟩ := World.frozen?_of_block (w := A) (a := ⟨b, o, none⟩) (h.block b hb)

/-- How a round may be left. -/
def ownPostO {α : Type} (n : Nat) (Kp : World → World → Prop) (I : List α → World → Prop) (Ix : Code → List α → World → Prop) (xs : List α) (W : World) : Exit → Act → World → Prop
  | .normal, _, W' => Same2 n W W' ∧ Kp W W' ∧ I xs W'
  | .ret, _, W' => Same2 n W W' ∧ Kp W W' ∧ Ix .ret xs W'
  | .exit id, _, W' => Same2 n W W' ∧ Kp W W' ∧ Ix (.exit id) xs W'
  | .goto t, _, W' => Same2 n W W' ∧ Kp W W' ∧ Ix (.goto t) xs W'
  | .panic _, _, _ => False
  | .outgrown, _, _ => False

/-- What an iterator does, called with a loop's yield in a world W: over all invariants of its rounds that abide its own steps. -/
def SeqOwn {α : Type} (P : Program) (g : Nat) (lb : Array Value) (encs : List α → α → Array Value) (It Kp : World → World → Prop) (Z : World → Prop) (S Sp : List α → Prop) (W : World) : Prop :=
  ∀ (l : Nat) (J Jx : List α → World → Prop), (∀ pre A, J pre A → Z A) → (∀ pre A, Jx pre A → Z A) → (∀ pre A B, J pre A → It A B → J pre B) → (∀ pre A B, Jx pre A → It A B → Jx pre B) →
    (∀ pre x A, J pre A → Sp (pre ++ [x]) → YieldAt Fence.wide 0 P l (encs pre x) A fun e A' =>
      (e = .returned (.bool true) ∧ J (pre ++ [x]) A' ∧ Kp A A') ∨ (e = .returned (.bool false) ∧ Jx (pre ++ [x]) A' ∧ Kp A A')) →
    J [] W →
    CallsIn Fence.wide 0 P g (#[.func (.yield l) #[] #[]] ++ lb) W fun e W' => (∃ v, e = .returned v) ∧ ((∃ xs, S xs ∧ J xs W') ∨ (∃ pre, Sp pre ∧ Jx pre W'))

theorem wp_range_own {α : Type} {P : Program} {g : Operand} {ps : Array Tmp} {assign body : Code} {Q : Exit → Act → World → Prop} {a : Act} {w : World} {n : Nat}
    {gf : Nat} {lb : Array Value} (hg : a.eval g = .func (.func gf) #[] lb) (eg : ∀ args w, (callFunc gf args).run P w = .ok (.enter gf args) w)
    {encs : List α → α → Array Value} (hps : ∀ pre x, (encs pre x).size = ps.size)
    {It Kp : World → World → Prop} {Z : World → Prop} {S Sp : List α → Prop}
    (hseq : ∀ W, W.heap.size = w.heap.size + 2 → Below w.heap.size w W → SeqOwn P gf lb encs It Kp Z S Sp W)
    (hIt : ∀ A B, It A B → Same2 w.heap.size A B)
    (hKt : ∀ {A B C : World}, Kp A B → Kp B C → Kp A C) (hKb : ∀ (A : World) (r : Loop), Kp A (A.putObj (w.heap.size + 1) (.loop r)))
    (I : List α → World → Prop) (Ix : Code → List α → World → Prop)
    (hIz : ∀ pre A, I pre A → Z A) (hIxz : ∀ c pre A, Ix c pre A → Z A)
    (hI : ∀ pre A B, I pre A → It A B → I pre B) (hIb : ∀ pre A (r : Loop), I pre A → I pre (A.putObj (w.heap.size + 1) (.loop r)))
    (hIx : ∀ c pre A B, Ix c pre A → It A B → Ix c pre B) (hIxb : ∀ c pre A (r : Loop), Ix c pre A → Ix c pre (A.putObj (w.heap.size + 1) (.loop r)))
    (h0 : ∀ W, W.heap.size = w.heap.size + 2 → Below w.heap.size w W → (∃ r, W.heap[w.heap.size + 1]? = some (.loop r)) → I [] W)
    (hround : ∀ (l : Nat) (pre : List α) (x : α) (W : World), I pre W → w.heap.size + 2 ≤ W.heap.size → Sp (pre ++ [x]) →
      assign.wpIn (Fence.wide.inRound l) 0 P (Exit.then (fun a₁ w₁ => Same2 w.heap.size W w₁ ∧ Kp W w₁ ∧ ∀ w₂, Put1 (w.heap.size + 1) w₁ w₂ → (∃ r, w₂.heap[w.heap.size + 1]? = some (.loop r)) → body.wpIn (Fence.wide.inRound l) 0 P (ownPostO w.heap.size Kp I Ix (pre ++ [x]) w₂) a₁ w₂) (fun _ _ _ => False))
        { tmps := (ps.zip (encs pre x)).foldl (fun t (p, v) => t.setIfInBounds p v) a.tmps, defers := [] } W)
    (hdone : ∀ (xs : List α) (W : World), S xs → I xs W → W.heap[w.heap.size]? = some (.deferred (some [])) → Q .normal { a with defers := { target := .collected w.heap.size, args := #[] } :: a.defers } W)
    (hstop : ∀ (c : Code) (pre : List α) (W : World), Sp pre → Ix c pre W → W.heap[w.heap.size]? = some (.deferred (some [])) → c.wpIn Fence.wide n P Q { a with defers := { target := .collected w.heap.size, args := #[] } :: a.defers } W) :
    (Code.rangeFunc g ps assign body).wpIn Fence.wide n P Q a w := by
  refine wpIn_rangeFunc ?_
  intro fn hfn
  obtain ⟨rec, hrec⟩ : ∃ rec : LoopState → Option Code → Loop, rec = fun st pe => { state := st, pending := pe, fn, tmps := a.tmps, params := ps, assign, body, defers := w.heap.size } := ⟨_, rfl⟩
  obtain ⟨W1, hW1⟩ : ∃ W1, (w.alloc (.deferred (some []))).alloc (.loop (rec .ready none)) = W1 := ⟨_, rfl⟩
  have hL1 : W1.heap[w.heap.size + 1]? = some (.loop (rec .ready none)) := by
    rw [← hW1]; have := World.alloc_heap_new (w.alloc (.deferred (some []))) (.loop (rec .ready none)); rwa [World.size_alloc] at this
  have hK1 : W1.heap[w.heap.size]? = some (.deferred (some [])) := by
    rw [← hW1]; exact (Below.heap_alloc _ _ _ (by simp)).trans (World.alloc_heap_new w _)
  have hs1 : W1.heap.size = w.heap.size + 2 := by rw [← hW1, World.size_alloc, World.size_alloc]
  have hb1 : Below w.heap.size w W1 := by
    rw [← hW1]; exact ((Below.refl _ w).alloc (Nat.le_refl _) _).alloc (by simp) _
  have hI1 : I [] W1 := h0 W1 hs1 hb1 ⟨_, hL1⟩
  refine ⟨w.heap.size + 1, [{ target := .collected w.heap.size, args := #[] }], W1, { target := .fn (.func gf) lb, args := #[.func (.yield (w.heap.size + 1)) #[] #[]] }, W1, gf,
    #[.func (.yield (w.heap.size + 1)) #[] #[]] ++ lb, W1, ?_, ?_, ?_, ?_, fun h => (by cases h), ?_⟩
  · rw [← hW1, hrec]; exact run_enterLoop_outer _ _ _ _ _
  · simp only [resolve, hg]
    simp [go_sem]
  · intro f' hf'; trivial
  · simp [invoke, go_sem, eg]
  · refine CallsIn.more ((hseq W1 hs1 hb1 (w.heap.size + 1)
      (fun pre W => I pre W ∧ W.heap[w.heap.size + 1]? = some (.loop (rec .ready none)) ∧ W.heap[w.heap.size]? = some (.deferred (some [])))
      (fun pre W => ∃ c, Ix c pre W ∧ W.heap[w.heap.size + 1]? = some (.loop (rec .done (some c))) ∧ W.heap[w.heap.size]? = some (.deferred (some [])))
      (fun s A hs => hIz s A hs.1) (fun s A hs => (by obtain ⟨c, hc, _⟩ := hs; exact hIxz c s A hc))
      (fun s A B hs hg' => ⟨hI s A B hs.1 hg', (hIt A B hg').b.trans hs.2.1, (hIt A B hg').a.trans hs.2.2⟩)
      (fun s A B hs hg' => by
        obtain ⟨c, hc, hl, hk⟩ := hs
        exact ⟨c, hIx c s A B hc hg', (hIt A B hg').b.trans hl, (hIt A B hg').a.trans hk⟩)
      ?_ ⟨hI1, hL1, hK1⟩).mono ?_) (Nat.zero_le _)
    · -- one round
      rintro pre x W ⟨hi, hl, hk⟩ hSp
      have hlt : w.heap.size + 1 < W.heap.size := (Array.getElem?_eq_some_iff.1 hl).1
      have hy := run_yield (P := P) (args := encs pre x) hl (by rw [hrec]; exact hps pre x)
      rw [hrec] at hy
      refine ⟨fn, _, assign, body, hy, roundIn_of_wpIn hfn (wpIn_mono (hround _ pre x W hi (by omega) hSp) ?_)⟩
      clear hy
      rintro ea a' Wa hq
      cases ea with
      | normal => ?_
      | ret => exact hq.elim
      | exit id => exact hq.elim
      | goto t => exact hq.elim
      | panic c => exact hq.elim
      | outgrown => exact hq.elim
      obtain ⟨h2a, hkpa, hbody⟩ := hq
      replace hl := h2a.b.trans hl
      replace hk := h2a.a.trans hk
      replace hlt : w.heap.size + 1 < Wa.heap.size := (Array.getElem?_eq_some_iff.1 hl).1
      refine ⟨_, run_beginRound hl (by rw [hrec]), ?_⟩
      have hl2 : (Wa.putObj (w.heap.size + 1) (.loop { rec .ready none with state := .busy })).heap[w.heap.size + 1]? = some (.loop { rec .ready none with state := .busy }) := World.putObj_heap_same hlt
      have hk2 : (Wa.putObj (w.heap.size + 1) (.loop { rec .ready none with state := .busy })).heap[w.heap.size]? = some (.deferred (some [])) := (World.putObj_heap_other (by omega)).trans hk
      have hw2 : Kp Wa (Wa.putObj (w.heap.size + 1) (.loop { rec .ready none with state := .busy })) := hKb _ _
      refine wpIn_mono (hbody _ (Put1.putObj _ _ _) ⟨_, hl2⟩) ?_
      have fin : ∀ (jump : Option Code) (W3 : World), Same2 w.heap.size (Wa.putObj (w.heap.size + 1) (.loop { rec .ready none with state := .busy })) W3 →
          (Instr.endRound (w.heap.size + 1) jump).run P W3 = .ok (.bool jump.isNone) (W3.putObj (w.heap.size + 1) (.loop (rec (if jump.isNone then .ready else .done) jump))) ∧
          (W3.putObj (w.heap.size + 1) (.loop (rec (if jump.isNone then .ready else .done) jump))).heap[w.heap.size + 1]? = some (.loop (rec (if jump.isNone then .ready else .done) jump)) ∧
          (W3.putObj (w.heap.size + 1) (.loop (rec (if jump.isNone then .ready else .done) jump))).heap[w.heap.size]? = some (.deferred (some [])) := fun jump W3 hk3 => by
        have hl3 := hk3.b.trans hl2
        have := run_endRound (P := P) jump hl3
        rw [hrec] at this ⊢
        exact ⟨this, World.putObj_heap_same (Array.getElem?_eq_some_iff.1 hl3).1, (World.putObj_heap_other (by omega)).trans (hk3.a.trans hk2)⟩
      rintro e a3 W3 hp
      cases e with
      | normal =>
        obtain ⟨hk3, hkp3, hi3⟩ := hp
        obtain ⟨hr, hl4, hk4⟩ := fin none W3 hk3
        exact ⟨_, _, hr, .inl ⟨rfl, ⟨hIb _ _ _ hi3, hl4, hk4⟩, hKt hkpa (hKt (hKt hw2 hkp3) (hKb _ _))⟩⟩
      | ret =>
        obtain ⟨hk3, hkp3, hi3⟩ := hp
        obtain ⟨hr, hl4, hk4⟩ := fin (some .ret) W3 hk3
        exact ⟨_, _, hr, .inr ⟨rfl, ⟨.ret, hIxb _ _ _ _ hi3, hl4, hk4⟩, hKt hkpa (hKt (hKt hw2 hkp3) (hKb _ _))⟩⟩
      | exit id =>
        obtain ⟨hk3, hkp3, hi3⟩ := hp
        obtain ⟨hr, hl4, hk4⟩ := fin (some (.exit id)) W3 hk3
        exact ⟨_, _, hr, .inr ⟨rfl, ⟨.exit id, hIxb _ _ _ _ hi3, hl4, hk4⟩, hKt hkpa (hKt (hKt hw2 hkp3) (hKb _ _))⟩⟩
      | goto t =>
        obtain ⟨hk3, hkp3, hi3⟩ := hp
        obtain ⟨hr, hl4, hk4⟩ := fin (some (.goto t)) W3 hk3
        exact ⟨_, _, hr, .inr ⟨rfl, ⟨.goto t, hIxb _ _ _ _ hi3, hl4, hk4⟩, hKt hkpa (hKt (hKt hw2 hkp3) (hKb _ _))⟩⟩
      | panic ch => exact hp.elim
      | outgrown => exact hp.elim
    · -- behind the iterator
      rintro e W2 ⟨⟨v, rfl⟩, (⟨xs, hS, hi, hl, hk⟩ | ⟨pre, hSp, c, hi, hl, hk⟩)⟩
      · exact ⟨none, _, by have := run_endLoop (P := P) hl (by rw [hrec]; simp); rw [hrec] at this; exact this, hdone xs _ hS (hIb _ _ _ hi) ((World.putObj_heap_other (by omega)).trans hk)⟩
      · exact ⟨some c, _, by have := run_endLoop (P := P) hl (by rw [hrec]; simp); rw [hrec] at this; exact this, hstop c pre _ hSp (hIxb _ _ _ _ hi) ((World.putObj_heap_other (by omega)).trans hk)⟩

end Go.Proofs.YtldhbjmillfjgabGreatDoor

namespace Go.Proofs
open Go.Shelf
def Tryz.lays120_ren : Go.Shelf.Ren := ⟨fun | 120 => 137 | n => n, fun | 5 => 5 | 4 => 4 | n => n, fun | n => n⟩
theorem Tryz.lays120 : Go.Proofs.Lays.n120 Tryz.prog Tryz.lays120_ren := {
  mixed := by kernel_rfl
  f120 := Tryz.func137.trans (congrArg some (by kernel_rfl))
  t4 := Tryz.underlying4
  a4 := Tryz.isAgg4
  z4 := Tryz.sizeOf4
  v4 := Tryz.zeroValue4
  t5 := Tryz.underlying5
  a5 := Tryz.isAgg5
  z5 := Tryz.sizeOf5
  v5 := Tryz.zeroValue5 }
theorem Tryz.utf8_RuneStart (b : Int) (w : World) (h0 : 0 ≤ b) (h1 : b < 256) :
    Calls Tryz.prog 137 #[.int .u8 b] w fun e w' => e = .returned (.bool (Lib.runeStart b)) ∧ w' = w := Any.utf8_RuneStart Tryz.lays120 b w h0 h1
end Go.Proofs

namespace Go.Proofs.YtldhbjmillfjgabGreatDoor
open Go.RowKit
set_option linter.unusedVariables false
attribute [local go_sem] Oper.semAt_some

theorem pieces_any (s : ByteArray) (w : World) : Calls Tryz.prog 114 #[.string s] w fun e w' => e = .returned (.func (.func 160) #[] #[.pointer (some ⟨w.heap.size, 0, none⟩)]) ∧ w' = w.alloc (.cells #[.string s] 9) := by
  go_enter Tryz.func114, Tryz.ntmps114
  go_wp2
  go_ret
  exact ⟨rfl, rfl⟩

/-- How long the text in a variable is. -/
def leftAt (sb : Nat) (w : World) : Nat := match w.cell? ⟨sb, 0, none⟩ with | some (.string s) => s.size | _ => 0
theorem leftAt_eq {sb : Nat} {w : World} {s : ByteArray} (h : w.cell? ⟨sb, 0, none⟩ = some (.string s)) : leftAt sb w = s.size := by unfold leftAt; rw [h]

set_option maxRecDepth 100000 in
set_option maxHeartbeats 2000000 in
theorem pieces_seq (rs : List Nat) (hr : ∀ r ∈ rs, isRune r) (hz : (encs rs).length < 1000000000) (Z : World → Prop) (sb : Nat) (W : World) (hsb : W.cell? ⟨sb, 0, none⟩ = some (.string (bytesOf rs))) (hfz : W.frozen? ⟨sb, 0, none⟩ = false) :
    SeqOwn Tryz.prog 160 #[.pointer (some ⟨sb, 0, none⟩)] (fun _ (x : List Nat) => #[.string (bytesOf x)]) (fun A B => (∃ v, B = A.setCell ⟨sb, 0, none⟩ v) ∧ W.heap.size ≤ A.heap.size) (fun A B => A.heap.size ≤ B.heap.size ∧ B.heap[sb]? = A.heap[sb]?) Z
      (fun xs => xs.flatten = rs ∧ ∀ x ∈ xs, okChunk x) (fun pre => (∃ rest, rs = pre.flatten ++ rest) ∧ ∀ x ∈ pre, okChunk x) W := by
  intro l J Jx hZ hZx hJ hJx hR hj0
  have hlt := World.block_lt_of_cell? W _ hsb
  refine callsIn_of_wp Tryz.func160 rfl trivial ?_ rfl
  simp only [Tryz.ntmps160, List.size_toArray, List.length_cons, List.length_nil, Nat.reduceAdd, Nat.reduceSub, Array.replicate_succ, Array.replicate_zero, List.push_toArray, List.append_toArray, List.nil_append, List.cons_append]
  gi_wp2
  gi_loopw [3] (fun p wr => ∃ (pre : List (List Nat)) (rest : List Nat), rs = pre.flatten ++ rest ∧ (∀ x ∈ pre, okChunk x) ∧ wr.cell? ⟨sb, 0, none⟩ = some (.string (bytesOf rest)) ∧ wr.frozen? ⟨sb, 0, none⟩ = false ∧ W.heap.size ≤ wr.heap.size ∧ J pre wr) (fun p wr => leftAt sb wr)
  case atStart => exact ⟨[], rs, rfl, (fun _ h => by cases h), hsb, hfz, Nat.le_refl _, hj0⟩
  case round =>
    obtain ⟨pre, rest, hrs, hok, hc, hf, hs, hjp⟩ := hrel
    by_cases hne : rest = []
    · subst hne
      have e0 : (bytesOf []).size = 0 := rfl
      have e1 : Hid (pre.flatten = rs) := by show _ = _; rw [hrs]; simp
      clear hrs
      generalize bytesOf [] = S at *
      gi_wp2
      go_end0
      exact ⟨⟨_, rfl⟩, .inl ⟨pre, ⟨e1.out, hok⟩, hjp⟩⟩
    · have hrr : ∀ r ∈ rest, isRune r := fun r h => hr r (by rw [hrs]; simp [h])
      obtain ⟨f, f1, f4, fe, fl⟩ := first_len hrr hne
      have hlen : (encs rest).length ≤ (encs rs).length := by rw [hrs, encs_append, List.length_append]; omega
      have hSl : (bytesOf rest).data.toList = encs rest := rfl
      have hcut := fun (j : Nat) (h : edgeAt rest j) (h0 : 0 < j) (h32 : j ≤ 32) => cut_at hrr h h0 h32
      have hst := fun (j : Nat) (b : UInt8) (h : (encs rest)[j]? = some b) (hb : startB b = true) => edgeAt_of_start hrr h hb
      have hst2 := fun (j : Nat) (b : UInt8) (h : edgeAt rest j) (hb : (encs rest)[j]? = some b) => start_of_edgeAt hrr h hb
      rw [← bytesOf_size] at fl hlen
      have HCUT : Hid _ := hcut
      have HST : Hid _ := hst
      have HST2 : Hid _ := hst2
      have HFE : Hid (edgeAt rest f) := fe
      have HEND : Hid (edgeAt rest (bytesOf rest).size) := by show edgeAt _ _; rw [bytesOf_size]; exact edgeAt_end rest
      have HSL : Hid ((bytesOf rest).data.toList = encs rest) := hSl
      have HRS : Hid (rs = pre.flatten ++ rest) := hrs
      obtain ⟨n, hn⟩ : ∃ n, n = (bytesOf rest).size := ⟨_, rfl⟩
      have hn1 : 1 ≤ n := by omega
      have hn2 : n < 1000000000 := by omega
      have hpos : 0 < n := hn1
      clear hcut hst hst2 fe hSl hrs hr hrr
      obtain ⟨S, hS⟩ : ∃ S, S = bytesOf rest := ⟨_, rfl⟩
      rw [← hS] at hc hn fl HEND HSL HCUT
      rw [← hn] at fl HEND HCUT
      have HS : Hid (S = bytesOf rest) := hS
      have HN : Hid (n = S.size) := hn
      have hn' : S.size = n := hn.symm
      clear hS hn hlen hz
      gi_wp2
      gi_loop [3] (fun p => ∃ j : Nat, p = .int .i64 j ∧ f ≤ j ∧ j ≤ n ∧ j ≤ 32) (fun p => (intOf p).toNat)
      case atStart => exact ⟨min n 32, by rw [show ((min n 32 : Nat) : Int) = min (n : Int) 32 by omega], by omega, by omega, by omega⟩
      case round =>
        obtain ⟨j, rfl, hj1, hj2, hj3⟩ := hrel
        by_cases hlt2 : j < n
        · have hjS : j < S.size := by rw [hn']; exact hlt2
          have hb? : (encs rest)[j]? = some S[j] := by rw [← HSL.out, Array.getElem?_toList, Array.getElem?_eq_getElem (by simpa using hjS)]; rfl
          have cR := fun wx => Tryz.utf8_RuneStart (S[j].toNat : Int) wx (by omega) (by have := S[j].toNat_lt; omega)
          by_cases hb : startB S[j] = true
          · have hedge := HST.out j _ hb? hb
            have hb' : Lib.runeStart (S[j].toNat : Int) = true := hb
            rw [hb'] at cR
            clear hb hb' hb?
            obtain ⟨x, y, hxy, hx, hc1, hc2, hyl⟩ := HCUT.out j hedge (by omega) hj3
            have hSp : (∃ rest', rs = (pre ++ [x]).flatten ++ rest') ∧ ∀ z ∈ pre ++ [x], okChunk z := ⟨⟨y, by rw [HRS.out, hxy]; simp⟩, fun z hz => by rcases List.mem_append.1 hz with hz | hz; exact hok z hz; rw [List.mem_singleton] at hz; subst hz; exact hx⟩
            have HY : Hid (rs = (pre ++ [x]).flatten ++ y) := by show _ = _; rw [HRS.out, hxy]; simp
            have HYL : Hid ((bytesOf y).size < n) := by
              show _ < _
              rw [bytesOf_size]
              have e1 := HN.out
              rw [HS.out, bytesOf_size] at e1
              omega
            obtain ⟨fn, tmps, assign, body, hyy, hRd⟩ := hR pre x wr hjp hSp
            have HSP : Hid _ := hSp
            rw [← hc1] at hyy
            clear hxy hx hSp hc1 hyl hedge
            gi_wp2_with (first | (refine ⟨rfl, ?_⟩; gi_at_call 137; refine (callsIn_wide.2 (cR _)).mono ?_; rintro e wx ⟨rfl, hwx⟩; obtain rfl := hwx.symm) | (refine ⟨trivial, ?_⟩))
            first | refine hRd.mono ?_ | refine ⟨rfl, hRd.mono ?_⟩
            rintro e A' (⟨rfl, hj', hk1, hk2⟩ | ⟨rfl, hjx', _⟩)
            · have hcA : A'.cell? ⟨sb, 0, none⟩ = some (.string S) := (World.cell?_of_block (w := wr) (a := ⟨sb, 0, none⟩) hk2).trans hc
              have hfA : A'.frozen? ⟨sb, 0, none⟩ = false := (World.frozen?_of_block (w := wr) (a := ⟨sb, 0, none⟩) hk2).trans hf
              have HC2 : Hid _ := hc2
              have hsA := Nat.le_trans hs hk1
              have HM : Hid (leftAt sb wr = n) := (leftAt_eq hc).trans hn'
              clear hc hf hk2 hyy hRd hjp hc2
              gi_wp2
              have hc9 : (A'.setCell ⟨sb, 0, none⟩ (.string (S.extract j n))).cell? ⟨sb, 0, none⟩ = some (.string (bytesOf y)) := by
                rw [HC2.out]
                exact World.cell?_setCell_same' _ _ _ (by rw [hcA]; rfl)
              go_roundw
              case rel => exact ⟨pre ++ [x], y, HY.out, HSP.out.2, hc9, (by rw [World.frozen?_setCell]; exact hfA), (by simpa [World.setCell] using hsA), hJ _ _ _ hj' ⟨⟨_, rfl⟩, hsA⟩⟩
              case measure =>
                show leftAt sb _ < leftAt sb _
                rw [HM.out, leftAt_eq hc9]
                exact HYL.out
            · gi_wp2
              refine bodyPost_ret (results_none rfl _ _ _) rfl ?_
              exact ⟨⟨_, rfl⟩, .inr ⟨pre ++ [x], HSP.out, hjx'⟩⟩
          · have hne2 : j ≠ f := fun e => hb (HST2.out j _ (e ▸ HFE.out) hb?)
            have hb' : Lib.runeStart (S[j].toNat : Int) = false := Bool.eq_false_iff.2 hb
            rw [hb'] at cR
            clear hb hb' hb?
            gi_wp2_with (first | (refine ⟨rfl, ?_⟩; gi_at_call 137; refine (callsIn_wide.2 (cR _)).mono ?_; rintro e wx ⟨rfl, hwx⟩; obtain rfl := hwx.symm) | (refine ⟨trivial, ?_⟩))
            go_round
            case rel => exact ⟨j - 1, by rw [show ((j - 1 : Nat) : Int) = (j : Int) - 1 by omega], by omega, by omega, by omega⟩
            case measure => simp [intOf]; omega
        · have hjn : n = j := by omega
          subst hjn
          have hedge : edgeAt rest n := HEND.out
          obtain ⟨x, y, hxy, hx, hc1, hc2, hyl⟩ := HCUT.out n hedge (by omega) hj3
          have hSp : (∃ rest', rs = (pre ++ [x]).flatten ++ rest') ∧ ∀ z ∈ pre ++ [x], okChunk z := ⟨⟨y, by rw [HRS.out, hxy]; simp⟩, fun z hz => by rcases List.mem_append.1 hz with hz | hz; exact hok z hz; rw [List.mem_singleton] at hz; subst hz; exact hx⟩
          have HY : Hid (rs = (pre ++ [x]).flatten ++ y) := by show _ = _; rw [HRS.out, hxy]; simp
          have HYL : Hid ((bytesOf y).size < n) := by
            show _ < _
            rw [bytesOf_size]
            have e1 := HN.out
            rw [HS.out, bytesOf_size] at e1
            omega
          obtain ⟨fn, tmps, assign, body, hyy, hRd⟩ := hR pre x wr hjp hSp
          have HSP : Hid _ := hSp
          rw [← hc1] at hyy
          clear hxy hx hSp hc1 hyl hedge
          gi_wp2_with (refine ⟨trivial, ?_⟩)
          first | refine hRd.mono ?_ | refine ⟨rfl, hRd.mono ?_⟩
          rintro e A' (⟨rfl, hj', hk1, hk2⟩ | ⟨rfl, hjx', _⟩)
          · have hcA : A'.cell? ⟨sb, 0, none⟩ = some (.string S) := (World.cell?_of_block (w := wr) (a := ⟨sb, 0, none⟩) hk2).trans hc
            have hfA : A'.frozen? ⟨sb, 0, none⟩ = false := (World.frozen?_of_block (w := wr) (a := ⟨sb, 0, none⟩) hk2).trans hf
            have HC2 : Hid (ByteArray.empty = bytesOf y) := by show _ = _; rw [← hc2]; simp
            have hsA := Nat.le_trans hs hk1
            have HM : Hid (leftAt sb wr = n) := (leftAt_eq hc).trans hn'
            clear hc hf hk2 hyy hRd hjp hc2
            gi_wp2
            have hc9 : (A'.setCell ⟨sb, 0, none⟩ (.string ByteArray.empty)).cell? ⟨sb, 0, none⟩ = some (.string (bytesOf y)) := by
              rw [HC2.out]
              exact World.cell?_setCell_same' _ _ _ (by rw [hcA]; rfl)
            go_roundw
            case rel => exact ⟨pre ++ [x], y, HY.out, HSP.out.2, hc9, (by rw [World.frozen?_setCell]; exact hfA), (by simpa [World.setCell] using hsA), hJ _ _ _ hj' ⟨⟨_, rfl⟩, hsA⟩⟩
            case measure =>
              show leftAt sb _ < leftAt sb _
              rw [HM.out, leftAt_eq hc9]
              exact HYL.out
          · gi_wp2
            refine bodyPost_ret (results_none rfl _ _ _) rfl ?_
            exact ⟨⟨_, rfl⟩, .inr ⟨pre ++ [x], HSP.out, hjx'⟩⟩
end Go.Proofs.YtldhbjmillfjgabGreatDoor

namespace Go.Proofs.YtldhbjmillfjgabGreatDoor
open Go.RowKit

section
variable {P : Program} {ops : Array Oper} {md : Region.Mode} {m l0 n : Nat} {Q : Exit → Act → World → Prop}

theorem uponR_of_ok {o : Oper} {a : Act} {K : Act → World → Prop} {r : Result Next} (hh : okUpon P o a K r) : o.uponIn (Fence.wide.inRound l0) n P a K Q r := by
  cases r with
  | ok x w =>
    cases x <;> simp only [okUpon] at hh <;> simp only [Oper.uponIn]
    case value => exact hh
    case skip => exact hh
    case enter => exact ⟨fun h => (by cases h), (CallsIn.inRound l0 (callsIn_wide.2 hh)).mono fun e w ⟨v, e1, e2⟩ => by subst e1; exact e2⟩
  | halt x w => simp only [okUpon] at hh

theorem anyR_of_anyG (hnd : ∀ (i : Nat) (o : Oper), ops[i]? = some o → ∀ c, o.op ≠ .defer c) : ∀ (fuel : Nat) (listed : Array Bool) (a : Act) (w : World), anyG P md ops m Q fuel listed a w → wpAnyIn (Fence.wide.inRound l0) n P md ops Q fuel listed a w
  | 0, _, _, w, h => ⟨h.1, h.2 w (Below.refl _ _)⟩
  | fuel + 1, listed, a, w, h => ⟨fun h0 => h.1 h0 w (Below.refl _ _), fun i hi => by
      have h1 := h.2 i hi w (Below.refl _ _)
      have h2 := opG_mono (fun a' w'' hh => anyR_of_anyG hnd fuel _ a' w'' hh.2) h1
      unfold opG at h2
      unfold wpOpIn
      split
      · rename_i ho; simp only [ho] at h2; exact h2
      · rename_i o ho
        simp only [ho] at h2
        split
        · rename_i hw
          simp only [hw, if_true] at h2
          unfold Oper.wpIn
          refine ⟨fun _ _ => trivial, ?_⟩
          rw [Fence.inRound_round, Oper.semAt_some _ _ _ (hnd i o ho)]
          exact uponR_of_ok h2
        · rename_i hw; simp only [hw] at h2; exact ⟨fun _ _ => trivial, h2⟩⟩
end

theorem wpR_region_rel {P : Program} {Q : Exit → Act → World → Prop} {id l0 k : Nat} {a : Act} {w : World} {l : List Oper} (m n : Nat) (hm : P.follows .mixedOrders = true) (hn : l.length = n) (hnd : noDefer l = true)
    (h : ∀ w', Below w.heap.size w w' → anyG P .any l.toArray m Q n (Array.replicate n false) a w') : (Code.region id l.toArray true).wpIn (Fence.wide.inRound l0) k P Q a w :=
  wpIn_region_any hm (anyR_of_anyG (fun i o hi => noDefer_at hnd i o (by simpa using hi)) _ _ _ _ (by subst hn; simpa using h { w with drawn := w.drawn + 1 } (Below.drew (Below.refl _ w))))
end Go.Proofs.YtldhbjmillfjgabGreatDoor
