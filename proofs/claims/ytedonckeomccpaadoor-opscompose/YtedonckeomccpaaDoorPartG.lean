/-
  ops.checkBoth, isPut, length.
  The document's both: what is wrong with two operations.
  A range over an iterator that keeps state in cells of its own: the statement's law, over what the iterator may turn between two rounds and what a round keeps, both the user's choice.
  ops.over: what its iterator does with the rounds of a loop.
-/
import Derived.Test.YtedonckeomccpaaDoorOpsCheckLaw
import Derived.Deep.LoopGhost
import Derived.RangeFuncNested
import Derived.RangeFuncBound
import Derived.RangeFuncCalls
import Derived.RangeFuncLeaves
import Derived.WalkKit
import Derived.Test.YtedonckeomccpaaDoorOpsNorm
import Derived.OwnWalkIn
import Derived.TacticsInMore
import Derived.LoopNIn
import Derived.LoopIn
import Derived.Stop.RegionWithIn
namespace Go.Proofs.YtedonckeomccpaaDoor
open Go.RowKit
set_option linter.unusedVariables false
attribute [local go_sem] Oper.semAt_some

/-- What is wrong with two operations, over as much as they keep and drop. -/
def bothE (a b : List Pt) : Int := if chkE a (lensW a).1 = 0 then chkE b (lensW b).1 else chkE a (lensW a).1

set_option maxHeartbeats 1000000 in
theorem isPut_any (p : Pt) (w : World) : Calls Tryd.prog 106 #[partV p] w fun e w' => e = .returned (.bool (decide (p.put ≠ []))) ∧ Below w.heap.size w w' := by
  obtain ⟨K, D, U⟩ := p
  have hz : (ByteArray.mk U.toArray).size = U.length := by simp [ByteArray.size]
  unfold partV
  go_enter Tryd.func106, Tryd.ntmps106
  go_wp2
  go_ret
  exact ⟨by cases U <;> simp, (Below.refl _ _).alloc (Nat.le_refl _) _⟩
set_option maxHeartbeats 1000000 in
theorem length_any (p : Pt) (w : World) (h0 : 0 ≤ p.keep ∧ 0 ≤ p.drop) (h1 : p.keep + p.drop + p.put.length < 4611686018427387904) : Calls Tryd.prog 139 #[partV p] w fun e w' => e = .returned (.int .i64 (p.keep + p.drop + p.put.length)) ∧ Below w.heap.size w w' := by
  obtain ⟨K, D, U⟩ := p
  simp only at h0 h1
  obtain ⟨h2, h3⟩ := h0
  have hz : (ByteArray.mk U.toArray).size = U.length := by simp [ByteArray.size]
  unfold partV
  go_enter Tryd.func139, Tryd.ntmps139
  go_wp2
  go_ret
  exact ⟨rfl, (Below.refl _ _).alloc (Nat.le_refl _) _⟩

set_option maxRecDepth 100000 in
set_option maxHeartbeats 2000000 in
theorem checkBoth_any (v1 v2 : Value) (a b : List Pt) (w : World) (hT : Lib.Utf8Tabs 0 1 w) (h1 : opAt w v1 a) (h2 : opAt w v2 b) (w1 : ∀ p ∈ a, wfP p) (w2 : ∀ p ∈ b, wfP p) (l1 : a.length < 10000000) (l2 : b.length < 10000000) :
    Calls Tryd.prog 104 #[v1, v2] w fun e w' => e = .returned (errV (bothE a b)) ∧ Below w.heap.size w w' := by
  have cL1 : Hid (∀ wx, Below w.heap.size w wx → Calls Tryd.prog 46 #[v1] wx fun e w' => e = .returned (.tuple #[.int .i64 (lensW a).1, .int .i64 (lensW a).2]) ∧ Below wx.heap.size wx w') := fun wx hb => Lens_any v1 a wx (opAt_grown h1 hb) l1
  have cL2 : Hid (∀ wx, Below w.heap.size w wx → Calls Tryd.prog 46 #[v2] wx fun e w' => e = .returned (.tuple #[.int .i64 (lensW b).1, .int .i64 (lensW b).2]) ∧ Below wx.heap.size wx w') := fun wx hb => Lens_any v2 b wx (opAt_grown h2 hb) l2
  have cC1 : Hid (∀ wx, Below w.heap.size w wx → Calls Tryd.prog 43 #[v1, .int .i64 (lensW a).1] wx fun e w' => e = .returned (errV (chkE a (lensW a).1)) ∧ Below wx.heap.size wx w') := fun wx hb => Check_any v1 a _ wx (Go.Proofs.Utf8Tabs_below hT hb) (opAt_grown h1 hb) w1 (lensW_range a) l1
  have cC2 : Hid (∀ wx, Below w.heap.size w wx → Calls Tryd.prog 43 #[v2, .int .i64 (lensW b).1] wx fun e w' => e = .returned (errV (chkE b (lensW b).1)) ∧ Below wx.heap.size wx w') := fun wx hb => Check_any v2 b _ wx (Go.Proofs.Utf8Tabs_below hT hb) (opAt_grown h2 hb) w2 (lensW_range b) l2
  obtain ⟨R, hR⟩ : ∃ R, R = bothE a b := ⟨_, rfl⟩
  rw [← hR]
  unfold bothE at hR
  generalize chkE a (lensW a).1 = E1 at cC1 hR
  generalize chkE b (lensW b).1 = E2 at cC2 hR
  generalize (lensW a).1 = A1 at cL1 cC1
  generalize (lensW a).2 = A2 at cL1
  generalize (lensW b).1 = B1 at cL2 cC2
  generalize (lensW b).2 = B2 at cL2
  obtain ⟨p1, c1, rfl, _⟩ := h1
  obtain ⟨p2, c2, rfl, _⟩ := h2
  clear hT w1 w2
  by_cases he : E1 = 0
  · rw [if_pos he] at hR
    have hV : errV E1 = .nilIface := by unfold errV; rw [if_pos he]
    rw [hV] at cC1
    obtain ⟨V, hV2⟩ : ∃ V, errV R = V := ⟨_, rfl⟩
    rw [← hR, hV2] at cC2
    rw [hV2]
    clear hV hV2 hR he
    go_enter Tryd.func104, Tryd.ntmps104
    go_wp2_with (first
      | (have _ := hB3; go_at_call 43; refine (cC2.out _ hB3.out).mono ?_; rintro e w4 ⟨rfl, hb4⟩; have hB4 : Hid (Below w.heap.size w w4) := hB3.out.trans (hb4.mono hB3.out.size))
      | (have _ := hB2; go_at_call 46; refine (cL2.out _ hB2.out).mono ?_; rintro e w3 ⟨rfl, hb3⟩; have hB3 : Hid (Below w.heap.size w w3) := hB2.out.trans (hb3.mono hB2.out.size))
      | (have _ := hB1; go_at_call 43; refine (cC1.out _ hB1.out).mono ?_; rintro e w2 ⟨rfl, hb2⟩; have hB2 : Hid (Below w.heap.size w w2) := hB1.out.trans (hb2.mono hB1.out.size))
      | (go_at_call 46; refine (cL1.out _ (Below.refl _ _)).mono ?_; rintro e w1 ⟨rfl, hb1⟩; have hB1 : Hid (Below w.heap.size w w1) := hb1)
      | fail)
    go_ret
    exact ⟨rfl, hB4.out⟩
  · rw [if_neg he] at hR
    have hV : errV E1 = .iface 23 (.int .i64 E1) := by unfold errV; rw [if_neg he]
    rw [hV] at cC1
    have hV2 : errV R = .iface 23 (.int .i64 E1) := by rw [hR]; exact hV
    rw [hV2]
    clear hV hV2 hR he cC2 cL2
    go_enter Tryd.func104, Tryd.ntmps104
    go_wp2_with (first
      | (have _ := hB1; go_at_call 43; refine (cC1.out _ hB1.out).mono ?_; rintro e w2 ⟨rfl, hb2⟩; have hB2 : Hid (Below w.heap.size w w2) := hB1.out.trans (hb2.mono hB1.out.size))
      | (go_at_call 46; refine (cL1.out _ (Below.refl _ _)).mono ?_; rintro e w1 ⟨rfl, hb1⟩; have hB1 : Hid (Below w.heap.size w w1) := hb1)
      | fail)
    go_ret
    exact ⟨rfl, hB2.out⟩
end Go.Proofs.YtedonckeomccpaaDoor

namespace Go.Proofs.YtedonckeomccpaaDoor
open Go.RowKit
set_option linter.unusedVariables false
attribute [local go_sem] Oper.semAt_some

def bothR (w : World) (v1 v2 : Value) (EA EB : Int) (k : Nat) (i : Value) (wr : World) : Prop :=
  ∃ j : Nat, i = .int .i64 j ∧ j + k = 2 ∧ (1 ≤ j → EA = 0) ∧ (2 ≤ j → EB = 0) ∧ Below w.heap.size w wr ∧ wr.cell? ⟨w.heap.size, 0, none⟩ = some v1 ∧ wr.cell? ⟨w.heap.size, 1, none⟩ = some v2

set_option maxRecDepth 100000 in
set_option maxHeartbeats 4000000 in
theorem refBoth_any (v1 v2 : Value) (a b : List Pt) (w : World) (h1 : opAt w v1 a) (h2 : opAt w v2 b) (w1 : ∀ p ∈ a, wfP p) (w2 : ∀ p ∈ b, wfP p) (s1 : ∀ p ∈ a, p.put.length < 100000000) (s2 : ∀ p ∈ b, p.put.length < 100000000) (l1 : a.length < 10000000) (l2 : b.length < 10000000) :
    Calls Tryd.prog 103 #[v1, v2] w fun e w' => e = .returned (.int .i64 (bothE a b)) ∧ Below w.heap.size w w' := by
  have cL1 : Hid (∀ wx, Below w.heap.size w wx → Calls Tryd.prog 47 #[v1] wx fun e w' => e = .returned (.tuple #[.int .i64 (lensW a).1, .int .i64 (lensW a).2]) ∧ Below wx.heap.size wx w') := fun wx hb => refLens_any v1 a wx (opAt_grown h1 hb) l1
  have cL2 : Hid (∀ wx, Below w.heap.size w wx → Calls Tryd.prog 47 #[v2] wx fun e w' => e = .returned (.tuple #[.int .i64 (lensW b).1, .int .i64 (lensW b).2]) ∧ Below wx.heap.size wx w') := fun wx hb => refLens_any v2 b wx (opAt_grown h2 hb) l2
  have cC1 : Hid (∀ wx, Below w.heap.size w wx → Calls Tryd.prog 44 #[v1, .int .i64 (lensW a).1] wx fun e w' => e = .returned (.int .i64 (chkE a (lensW a).1)) ∧ Below wx.heap.size wx w') := fun wx hb => refCheck_any v1 a _ wx (opAt_grown h1 hb) w1 s1 (lensW_range a) l1
  have cC2 : Hid (∀ wx, Below w.heap.size w wx → Calls Tryd.prog 44 #[v2, .int .i64 (lensW b).1] wx fun e w' => e = .returned (.int .i64 (chkE b (lensW b).1)) ∧ Below wx.heap.size wx w') := fun wx hb => refCheck_any v2 b _ wx (opAt_grown h2 hb) w2 s2 (lensW_range b) l2
  obtain ⟨R, hR⟩ : ∃ R, R = bothE a b := ⟨_, rfl⟩
  rw [← hR]
  unfold bothE at hR
  generalize chkE a (lensW a).1 = EA at cC1 hR
  generalize chkE b (lensW b).1 = EB at cC2 hR
  generalize (lensW a).1 = A1 at cL1 cC1
  generalize (lensW a).2 = A2 at cL1
  generalize (lensW b).1 = B1 at cL2 cC2
  generalize (lensW b).2 = B2 at cL2
  have HR : Hid (R = if EA = 0 then EB else EA) := hR
  obtain ⟨p1, c1, rfl, _⟩ := h1
  obtain ⟨p2, c2, rfl, _⟩ := h2
  clear w1 w2 s1 s2 hR
  go_enter Tryd.func103, Tryd.ntmps103
  go_wp2
  have hst : bothR w (.slice p1 a.length c1) (.slice p2 b.length c2) EA EB 2 (.int .i64 0) (w.alloc (.cells #[.slice p1 a.length c1, .slice p2 b.length c2] 84)) :=
    ⟨0, rfl, rfl, fun h => absurd h (by omega), fun h => absurd h (by omega), (Below.refl _ w).alloc (Nat.le_refl _) _, by simp [go_sem], by simp [go_sem]⟩
  have HST : Hid _ := hst
  clear hst
  go_loopg [14] 2 (fun k i wr => bothR w (.slice p1 a.length c1) (.slice p2 b.length c2) EA EB k i wr)
  case atStart => exact HST.out
  case round =>
    obtain ⟨j, rfl, hjk, hA, hB, hb, k0, k1⟩ := hrel
    have HBW : Hid (Below w.heap.size w wr) := hb
    clear HST hb
    rcases Nat.lt_or_ge j 1 with hj | hj
    · obtain rfl : j = 0 := by omega
      obtain rfl : gk = 2 := by omega
      clear hA hB hjk hj
      by_cases he : EA = 0
      · subst he
        go_wp2_with (first
          | (go_at_call 47; refine (cL1.out _ (by first | exact HBW.out | exact HBW.out.drew)).mono ?_; rintro e w2 ⟨rfl, hb2⟩; have HB2 : Hid (Below w.heap.size w w2) := (by first | exact HBW.out.trans (hb2.mono HBW.out.size) | exact HBW.out.drew.trans (hb2.mono HBW.out.size)); have K0 : Hid (w2.cell? ⟨w.heap.size, 0, none⟩ = some (.slice p1 a.length c1)) := (hb2.cell (World.block_lt_of_cell? wr _ k0)).trans k0; have K1 : Hid (w2.cell? ⟨w.heap.size, 1, none⟩ = some (.slice p2 b.length c2)) := (hb2.cell (World.block_lt_of_cell? wr _ k1)).trans k1; clear hb2)
          | (go_at_call 44; refine (cC1.out _ HB2.out).mono ?_; rintro e w3 ⟨rfl, hb3⟩)
          | fail)
        go_roundg 1
        case measure => omega
        case rel => exact ⟨1, rfl, rfl, fun _ => rfl, fun h => absurd h (by omega), HB2.out.trans (hb3.mono HB2.out.size), (hb3.cell (World.block_lt_of_cell? w2 _ K0.out)).trans K0.out, (hb3.cell (World.block_lt_of_cell? w2 _ K1.out)).trans K1.out⟩
      · have hRA : R = EA := by rw [HR.out, if_neg he]
        subst hRA
        clear HR
        go_wp2_with (first
          | (go_at_call 47; refine (cL1.out _ (by first | exact HBW.out | exact HBW.out.drew)).mono ?_; rintro e w2 ⟨rfl, hb2⟩; have HB2 : Hid (Below w.heap.size w w2) := (by first | exact HBW.out.trans (hb2.mono HBW.out.size) | exact HBW.out.drew.trans (hb2.mono HBW.out.size)); clear hb2)
          | (go_at_call 44; refine (cC1.out _ HB2.out).mono ?_; rintro e w3 ⟨rfl, hb3⟩)
          | fail)
        go_ret
        exact ⟨rfl, HB2.out.trans (hb3.mono HB2.out.size)⟩
    · have hA := hA hj
      subst hA
      have HR' : Hid (R = EB) := by have := HR.out; rwa [if_pos rfl] at this
      clear HR
      rcases Nat.lt_or_ge j 2 with hj2 | hj2
      · obtain rfl : j = 1 := by omega
        obtain rfl : gk = 1 := by omega
        clear hB hjk hj hj2
        by_cases he : EB = 0
        · subst he
          go_wp2_with (first
            | (go_at_call 47; refine (cL2.out _ (by first | exact HBW.out | exact HBW.out.drew)).mono ?_; rintro e w2 ⟨rfl, hb2⟩; have HB2 : Hid (Below w.heap.size w w2) := (by first | exact HBW.out.trans (hb2.mono HBW.out.size) | exact HBW.out.drew.trans (hb2.mono HBW.out.size)); have K0 : Hid (w2.cell? ⟨w.heap.size, 0, none⟩ = some (.slice p1 a.length c1)) := (hb2.cell (World.block_lt_of_cell? wr _ k0)).trans k0; have K1 : Hid (w2.cell? ⟨w.heap.size, 1, none⟩ = some (.slice p2 b.length c2)) := (hb2.cell (World.block_lt_of_cell? wr _ k1)).trans k1; clear hb2)
            | (go_at_call 44; refine (cC2.out _ HB2.out).mono ?_; rintro e w3 ⟨rfl, hb3⟩)
            | fail)
          go_roundg 0
          case measure => omega
          case rel => exact ⟨2, rfl, rfl, fun _ => rfl, fun _ => rfl, HB2.out.trans (hb3.mono HB2.out.size), (hb3.cell (World.block_lt_of_cell? w2 _ K0.out)).trans K0.out, (hb3.cell (World.block_lt_of_cell? w2 _ K1.out)).trans K1.out⟩
        · have hRA : R = EB := HR'.out
          subst hRA
          clear HR'
          go_wp2_with (first
            | (go_at_call 47; refine (cL2.out _ (by first | exact HBW.out | exact HBW.out.drew)).mono ?_; rintro e w2 ⟨rfl, hb2⟩; have HB2 : Hid (Below w.heap.size w w2) := (by first | exact HBW.out.trans (hb2.mono HBW.out.size) | exact HBW.out.drew.trans (hb2.mono HBW.out.size)); clear hb2)
            | (go_at_call 44; refine (cC2.out _ HB2.out).mono ?_; rintro e w3 ⟨rfl, hb3⟩)
            | fail)
          go_ret
          exact ⟨rfl, HB2.out.trans (hb3.mono HB2.out.size)⟩
      · obtain rfl : j = 2 := by omega
        have hB := hB (by omega)
        have hRA : R = 0 := by rw [HR'.out, hB]
        subst hRA
        clear HR' hB hjk hj hj2
        go_wp2
        go_ret
        exact ⟨rfl, HBW.out⟩
end Go.Proofs.YtedonckeomccpaaDoor

namespace Go.Proofs.YtedonckeomccpaaDoor
open Go.RowKit

/-- The loop's two blocks of book-keeping lie as they lay. -/
structure Same2 (n : Nat) (W W' : World) : Prop where
  a : W'.heap[n]? = W.heap[n]?
  b : W'.heap[n + 1]? = W.heap[n + 1]?
theorem Same2.refl (n : Nat) (W : World) : Same2 n W W := ⟨rfl, rfl⟩
theorem Same2.trans {n : Nat} {A B C : World} (h : Same2 n A B) (k : Same2 n B C) : Same2 n A C := ⟨k.a.trans h.a, k.b.trans h.b⟩
theorem Same2.of_below {n B : Nat} {W W' : World} (h : Below B W W') (hB : n + 2 ≤ B) : Same2 n W W' := ⟨h.block n (by omega), h.block (n + 1) (by omega)⟩
theorem Same2.setCell {n : Nat} {A W : World} (h : Same2 n A W) {p : Addr} (h1 : p.block ≠ n) (h2 : p.block ≠ n + 1) (v : Value) : Same2 n A (W.setCell p v) :=
  ⟨(Below.heap_setCell W p v n (fun e => h1 e.symm)).trans h.a, (Below.heap_setCell W p v (n + 1) (fun e => h2 e.symm)).trans h.b⟩
theorem Same2.alloc {n : Nat} {A W : World} (h : Same2 n A W) (hn : n + 2 ≤ W.heap.size) (o : Obj) : Same2 n A (W.alloc o) :=
  ⟨(Below.heap_alloc W o n (by omega)).trans h.a, (Below.heap_alloc W o (n + 1) (by omega)).trans h.b⟩
theorem Same2.drew {n : Nat} {A W : World} (h : Same2 n A W) : Same2 n A W.drew := ⟨h.a, h.b⟩

/-- All blocks but one lie as they lay. -/
structure Put1 (n : Nat) (A B : World) : Prop where
  os : B.os = A.os
  tape : B.tape = A.tape
  output : B.output = A.output
  size : B.heap.size = A.heap.size
  block : ∀ k, k ≠ n → B.heap[k]? = A.heap[k]?
theorem Put1.putObj (n : Nat) (A : World) (o : Obj) : Put1 n A (A.putObj n o) := ⟨rfl, rfl, rfl, by simp, fun _ h => World.putObj_heap_other h⟩
theorem Put1.below {n B : Nat} {A A' : World} (h : Put1 n A A') (hB : B ≤ n) : Below B A A' := ⟨h.os, h.tape, h.output, Nat.le_of_eq h.size.symm, fun k hk => h.block k (by omega)⟩
theorem Put1.cell {n : Nat} {A A' : World} (h : Put1 n A A') {b o : Nat} (hb : b ≠ n) : A'.cell? ⟨b, o, none⟩ = A.cell? ⟨b, o, none⟩ := World.cell?_of_block (w := A) (a := ⟨b, o, none⟩) (h.block b hb)
theorem Put1.frozen {n : Nat} {A A' : World} (h : Put1 n A A') {b o : Nat} (hb : b ≠ n) : A'.frozen? ⟨b, o, none⟩ = A.frozen? ⟨b, o, none⟩ := World.frozen?_of_block (w := A) (a := ⟨b, o, none⟩) (h.block b hb)

/-- How a round may be left. -/
def ownPostO {α : Type} (n : Nat) (Kp : World → World → Prop) (I : List α → World → Prop) (Ix : Code → List α → World → Prop) (xs : List α) (W : World) : Exit → Act → World → Prop
  | .normal, _, W' => Same2 n W W' ∧ Kp W W' ∧ I xs W'
  | .ret, _, W' => Same2 n W W' ∧ Kp W W' ∧ Ix .ret xs W'
  | .exit id, _, W' => Same2 n W W' ∧ Kp W W' ∧ Ix (.exit id) xs W'
  | .goto t, _, W' => Same2 n W W' ∧ Kp W W' ∧ Ix (.goto t) xs W'
  | .panic _, _, _ => False
  | .outgrown, _, _ => False

/-- What an iterator does, called with a loop's yield in a world W: over all invariants of its rounds that abide its own steps. -/
def SeqOwn {α : Type} (P : Program) (g : Nat) (lb : Array Value) (encs : List α → α → Array Value) (It Kp : World → World → Prop) (Z : World → Prop) (S Sp : List α → Prop) (W : World) : Prop :=
  ∀ (l : Nat) (J Jx : List α → World → Prop), (∀ pre A, J pre A → Z A) → (∀ pre A, Jx pre A → Z A) → (∀ pre A B, J pre A → It A B → J pre B) → (∀ pre A B, Jx pre A → It A B → Jx pre B) →
    (∀ pre x A, J pre A → Sp (pre ++ [x]) → YieldAt Fence.wide 0 P l (encs pre x) A fun e A' =>
      (e = .returned (.bool true) ∧ J (pre ++ [x]) A' ∧ Kp A A') ∨ (e = .returned (.bool false) ∧ Jx (pre ++ [x]) A' ∧ Kp A A')) →
    J [] W →
    CallsIn Fence.wide 0 P g (#[.func (.yield l) #[] #[]] ++ lb) W fun e W' => (∃ v, e = .returned v) ∧ ((∃ xs, S xs ∧ J xs W') ∨ (∃ pre, Sp pre ∧ Jx pre W'))

theorem wp_range_own {α : Type} {P : Program} {g : Operand} {ps : Array Tmp} {assign body : Code} {Q : Exit → Act → World → Prop} {a : Act} {w : World} {n : Nat}
    {gf : Nat} {lb : Array Value} (hg : a.eval g = .func (.func gf) #[] lb) (eg : ∀ args w, (callFunc gf args).run P w = .ok (.enter gf args) w)
    {encs : List α → α → Array Value} (hps : ∀ pre x, (encs pre x).size = ps.size)
    {It Kp : World → World → Prop} {Z : World → Prop} {S Sp : List α → Prop}
    (hseq : ∀ W, W.heap.size = w.heap.size + 2 → Below w.heap.size w W → SeqOwn P gf lb encs It Kp Z S Sp W)
    (hIt : ∀ A B, It A B → Same2 w.heap.size A B)
    (hKt : ∀ {A B C : World}, Kp A B → Kp B C → Kp A C) (hKb : ∀ (A : World) (r : Loop), Kp A (A.putObj (w.heap.size + 1) (.loop r)))
    (I : List α → World → Prop) (Ix : Code → List α → World → Prop)
    (hIz : ∀ pre A, I pre A → Z A) (hIxz : ∀ c pre A, Ix c pre A → Z A)
    (hI : ∀ pre A B, I pre A → It A B → I pre B) (hIb : ∀ pre A (r : Loop), I pre A → I pre (A.putObj (w.heap.size + 1) (.loop r)))
    (hIx : ∀ c pre A B, Ix c pre A → It A B → Ix c pre B) (hIxb : ∀ c pre A (r : Loop), Ix c pre A → Ix c pre (A.putObj (w.heap.size + 1) (.loop r)))
    (h0 : ∀ W, W.heap.size = w.heap.size + 2 → Below w.heap.size w W → (∃ r, W.heap[w.heap.size + 1]? = some (.loop r)) → I [] W)
    (hround : ∀ (l : Nat) (pre : List α) (x : α) (W : World), I pre W → w.heap.size + 2 ≤ W.heap.size → Sp (pre ++ [x]) →
      assign.wpIn (Fence.wide.inRound l) 0 P (Exit.then (fun a₁ w₁ => Same2 w.heap.size W w₁ ∧ Kp W w₁ ∧ ∀ w₂, Put1 (w.heap.size + 1) w₁ w₂ → (∃ r, w₂.heap[w.heap.size + 1]? = some (.loop r)) → body.wpIn (Fence.wide.inRound l) 0 P (ownPostO w.heap.size Kp I Ix (pre ++ [x]) w₂) a₁ w₂) (fun _ _ _ => False))
        { tmps := (ps.zip (encs pre x)).foldl (fun t (p, v) => t.setIfInBounds p v) a.tmps, defers := [] } W)
    (hdone : ∀ (xs : List α) (W : World), S xs → I xs W → W.heap[w.heap.size]? = some (.deferred (some [])) → Q .normal { a with defers := { target := .collected w.heap.size, args := #[] } :: a.defers } W)
    (hstop : ∀ (c : Code) (pre : List α) (W : World), Sp pre → Ix c pre W → W.heap[w.heap.size]? = some (.deferred (some [])) → c.wpIn Fence.wide n P Q { a with defers := { target := .collected w.heap.size, args := #[] } :: a.defers } W) :
    (Code.rangeFunc g ps assign body).wpIn Fence.wide n P Q a w := by
  refine wpIn_rangeFunc ?_
  intro fn hfn
  obtain ⟨rec, hrec⟩ : ∃ rec : LoopState → Option Code → Loop, rec = fun st pe => { state := st, pending := pe, fn, tmps := a.tmps, params := ps, assign, body, defers := w.heap.size } := ⟨_, rfl⟩
  obtain ⟨W1, hW1⟩ : ∃ W1, (w.alloc (.deferred (some []))).alloc (.loop (rec .ready none)) = W1 := ⟨_, rfl⟩
  have hL1 : W1.heap[w.heap.size + 1]? = some (.loop (rec .ready none)) := by
    rw [← hW1]; have := World.alloc_heap_new (w.alloc (.deferred (some []))) (.loop (rec .ready none)); rwa [World.size_alloc] at this
  have hK1 : W1.heap[w.heap.size]? = some (.deferred (some [])) := by
    rw [← hW1]; exact (Below.heap_alloc _ _ _ (by simp)).trans (World.alloc_heap_new w _)
  have hs1 : W1.heap.size = w.heap.size + 2 := by rw [← hW1, World.size_alloc, World.size_alloc]
  have hb1 : Below w.heap.size w W1 := by
    rw [← hW1]; exact ((Below.refl _ w).alloc (Nat.le_refl _) _).alloc (by simp) _
  have hI1 : I [] W1 := h0 W1 hs1 hb1 ⟨_, hL1⟩
  refine ⟨w.heap.size + 1, [{ target := .collected w.heap.size, args := #[] }], W1, { target := .fn (.func gf) lb, args := #[.func (.yield (w.heap.size + 1)) #[] #[]] }, W1, gf,
    #[.func (.yield (w.heap.size + 1)) #[] #[]] ++ lb, W1, ?_, ?_, ?_, ?_, fun h => (by cases h), ?_⟩
  · rw [← hW1, hrec]; exact run_enterLoop_outer _ _ _ _ _
  · simp only [resolve, hg]
    simp [go_sem]
  · intro f' hf'; trivial
  · simp [invoke, go_sem, eg]
  · refine CallsIn.more ((hseq W1 hs1 hb1 (w.heap.size + 1)
      (fun pre W => I pre W ∧ W.heap[w.heap.size + 1]? = some (.loop (rec .ready none)) ∧ W.heap[w.heap.size]? = some (.deferred (some [])))
      (fun pre W => ∃ c, Ix c pre W ∧ W.heap[w.heap.size + 1]? = some (.loop (rec .done (some c))) ∧ W.heap[w.heap.size]? = some (.deferred (some [])))
      (fun s A hs => hIz s A hs.1) (fun s A hs => (by obtain ⟨c, hc, _⟩ := hs; exact hIxz c s A hc))
      (fun s A B hs hg' => ⟨hI s A B hs.1 hg', (hIt A B hg').b.trans hs.2.1, (hIt A B hg').a.trans hs.2.2⟩)
      (fun s A B hs hg' => by
        obtain ⟨c, hc, hl, hk⟩ := hs
        exact ⟨c, hIx c s A B hc hg', (hIt A B hg').b.trans hl, (hIt A B hg').a.trans hk⟩)
      ?_ ⟨hI1, hL1, hK1⟩).mono ?_) (Nat.zero_le _)
    · -- one round
      rintro pre x W ⟨hi, hl, hk⟩ hSp
      have hlt : w.heap.size + 1 < W.heap.size := (Array.getElem?_eq_some_iff.1 hl).1
      have hy := run_yield (P := P) (args := encs pre x) hl (by rw [hrec]; exact hps pre x)
      rw [hrec] at hy
      refine ⟨fn, _, assign, body, hy, roundIn_of_wpIn hfn (wpIn_mono (hround _ pre x W hi (by omega) hSp) ?_)⟩
      clear hy
      rintro ea a' Wa hq
      cases ea with
      | normal => ?_
      | ret => exact hq.elim
      | exit id => exact hq.elim
      | goto t => exact hq.elim
      | panic c => exact hq.elim
      | outgrown => exact hq.elim
      obtain ⟨h2a, hkpa, hbody⟩ := hq
      replace hl := h2a.b.trans hl
      replace hk := h2a.a.trans hk
      replace hlt : w.heap.size + 1 < Wa.heap.size := (Array.getElem?_eq_some_iff.1 hl).1
      refine ⟨_, run_beginRound hl (by rw [hrec]), ?_⟩
      have hl2 : (Wa.putObj (w.heap.size + 1) (.loop { rec .ready none with state := .busy })).heap[w.heap.size + 1]? = some (.loop { rec .ready none with state := .busy }) := World.putObj_heap_same hlt
      have hk2 : (Wa.putObj (w.heap.size + 1) (.loop { rec .ready none with state := .busy })).heap[w.heap.size]? = some (.deferred (some [])) := (World.putObj_heap_other (by omega)).trans hk
      have hw2 : Kp Wa (Wa.putObj (w.heap.size + 1) (.loop { rec .ready none with state := .busy })) := hKb _ _
      refine wpIn_mono (hbody _ (Put1.putObj _ _ _) ⟨_, hl2⟩) ?_
      have fin : ∀ (jump : Option Code) (W3 : World), Same2 w.heap.size (Wa.putObj (w.heap.size + 1) (.loop { rec .ready none with state := .busy })) W3 →
          (Instr.endRound (w.heap.size + 1) jump).run P W3 = .ok (.bool jump.isNone) (W3.putObj (w.heap.size + 1) (.loop (rec (if jump.isNone then .ready else .done) jump))) ∧
          (W3.putObj (w.heap.size + 1) (.loop (rec (if jump.isNone then .ready else .done) jump))).heap[w.heap.size + 1]? = some (.loop (rec (if jump.isNone then .ready else .done) jump)) ∧
          (W3.putObj (w.heap.size + 1) (.loop (rec (if jump.isNone then .ready else .done) jump))).heap[w.heap.size]? = some (.deferred (some [])) := fun jump W3 hk3 => by
        have hl3 := hk3.b.trans hl2
        have := run_endRound (P := P) jump hl3
        rw [hrec] at this ⊢
        exact ⟨this, World.putObj_heap_same (Array.getElem?_eq_some_iff.1 hl3).1, (World.putObj_heap_other (by omega)).trans (hk3.a.trans hk2)⟩
      rintro e a3 W3 hp
      cases e with
      | normal =>
        obtain ⟨hk3, hkp3, hi3⟩ := hp
        obtain ⟨hr, hl4, hk4⟩ := fin none W3 hk3
        exact ⟨_, _, hr, .inl ⟨rfl, ⟨hIb _ _ _ hi3, hl4, hk4⟩, hKt hkpa (hKt (hKt hw2 hkp3) (hKb _ _))⟩⟩
      | ret =>
        obtain ⟨hk3, hkp3, hi3⟩ := hp
        obtain ⟨hr, hl4, hk4⟩ := fin (some .ret) W3 hk3
        exact ⟨_, _, hr, .inr ⟨rfl, ⟨.ret, hIxb _ _ _ _ hi3, hl4, hk4⟩, hKt hkpa (hKt (hKt hw2 hkp3) (hKb _ _))⟩⟩
      | exit id =>
        obtain ⟨hk3, hkp3, hi3⟩ := hp
        obtain ⟨hr, hl4, hk4⟩ := fin (some (.exit id)) W3 hk3
        exact ⟨_, _, hr, .inr ⟨rfl, ⟨.exit id, hIxb _ _ _ _ hi3, hl4, hk4⟩, hKt hkpa (hKt (hKt hw2 hkp3) (hKb _ _))⟩⟩
      | goto t =>
        obtain ⟨hk3, hkp3, hi3⟩ := hp
        obtain ⟨hr, hl4, hk4⟩ := fin (some (.goto t)) W3 hk3
        exact ⟨_, _, hr, .inr ⟨rfl, ⟨.goto t, hIxb _ _ _ _ hi3, hl4, hk4⟩, hKt hkpa (hKt (hKt hw2 hkp3) (hKb _ _))⟩⟩
      | panic ch => exact hp.elim
      | outgrown => exact hp.elim
    · -- behind the iterator
      rintro e W2 ⟨⟨v, rfl⟩, (⟨xs, hS, hi, hl, hk⟩ | ⟨pre, hSp, c, hi, hl, hk⟩)⟩
      · exact ⟨none, _, by have := run_endLoop (P := P) hl (by rw [hrec]; simp); rw [hrec] at this; exact this, hdone xs _ hS (hIb _ _ _ hi) ((World.putObj_heap_other (by omega)).trans hk)⟩
      · exact ⟨some c, _, by have := run_endLoop (P := P) hl (by rw [hrec]; simp); rw [hrec] at this; exact this, hstop c pre _ hSp (hIxb _ _ _ _ hi) ((World.putObj_heap_other (by omega)).trans hk)⟩

end Go.Proofs.YtedonckeomccpaaDoor

namespace Go.Proofs.YtedonckeomccpaaDoor
open Go.RowKit
set_option linter.unusedVariables false
attribute [local go_sem] Oper.semAt_some

theorem over_any (p : Option Addr) (n c : Nat) (s : ByteArray) (w : World) : Calls Tryd.prog 100 #[.slice p n c, .string s] w fun e w' => e = .returned (.func (.func 138) #[] #[.pointer (some ⟨w.heap.size + 1, 0, none⟩), .pointer (some ⟨w.heap.size, 0, none⟩)]) ∧ w' = (w.alloc (.cells #[.slice p n c] 84)).alloc (.cells #[.string s] 9) := by
  go_enter Tryd.func100, Tryd.ntmps100
  go_wp2
  go_ret
  exact ⟨rfl, rfl⟩

/-- The parts of an operation, each with its piece of the text. -/
def pcs : List Pt → List UInt8 → List (Pt × List UInt8)
  | [], _ => []
  | p :: ps, s => (p, s.take (lenP p).toNat) :: pcs ps (s.drop (lenP p).toNat)
/-- What is left of the text behind so many parts. -/
def leftP : List Pt → List UInt8 → List UInt8
  | [], s => s
  | p :: ps, s => leftP ps (s.drop (lenP p).toNat)

theorem leftP_snoc (ps : List Pt) (p : Pt) (s : List UInt8) : leftP (ps ++ [p]) s = (leftP ps s).drop (lenP p).toNat := by
  induction ps generalizing s with
  | nil => rfl
  | cons q ps ih => exact ih _
theorem pcs_append (a b : List Pt) (s : List UInt8) : pcs (a ++ b) s = pcs a s ++ pcs b (leftP a s) := by
  induction a generalizing s with
  | nil => rfl
  | cons q a ih => simp [pcs, leftP, ih]
/-- Each part keeps, or drops, no more than is left. -/
def fitsP : List Pt → List UInt8 → Prop
  | [], _ => True
  | p :: ps, s => 0 ≤ p.keep ∧ 0 ≤ p.drop ∧ lenP p ≤ s.length ∧ fitsP ps (s.drop (lenP p).toNat)
theorem fitsP_at (ps : List Pt) (s : List UInt8) (h : fitsP ps s) (k : Nat) (hk : k < ps.length) : 0 ≤ ps[k].keep ∧ 0 ≤ ps[k].drop ∧ lenP ps[k] ≤ (leftP (ps.take k) s).length := by
  induction ps generalizing s k with
  | nil => simp at hk
  | cons p ps ih =>
    obtain ⟨h1, h2, h3, h4⟩ := h
    cases k with
    | zero => exact ⟨h1, h2, h3⟩
    | succ k => exact ih _ h4 k (by simpa using hk)
theorem leftP_le (ps : List Pt) (s : List UInt8) : (leftP ps s).length ≤ s.length := by
  induction ps generalizing s with
  | nil => exact Nat.le_refl _
  | cons p ps ih =>
    have := ih (s.drop (lenP p).toNat)
    rw [List.length_drop] at this
    show (leftP ps _).length ≤ _
    omega

theorem cut_head (l : List UInt8) (n : Nat) : (ByteArray.mk l.toArray).extract 0 n = ⟨(l.take n).toArray⟩ := by
  apply ByteArray.ext
  simp
theorem cut_tail (l : List UInt8) (n : Nat) : (ByteArray.mk l.toArray).extract n l.length = ⟨(l.drop n).toArray⟩ := by
  apply ByteArray.ext
  have : List.take (l.length - n) (l.drop n) = l.drop n := List.take_of_length_le (by rw [List.length_drop]; exact Nat.le_refl _)
  simp [this]

set_option maxRecDepth 100000 in
set_option maxHeartbeats 2000000 in
theorem over_seq (v : Value) (ps : List Pt) (s : List UInt8) (hs : s.length < 1000000000) (hl : ps.length < 10000000) (hf : fitsP ps s) (R : Nat → Prop) (sb : Nat) (W : World)
    (h0 : W.cell? ⟨sb, 0, none⟩ = some v) (h1 : W.cell? ⟨sb + 1, 0, none⟩ = some (.string ⟨s.toArray⟩)) (hop : opAt W v ps) (hR0 : R sb) (hR1 : R (sb + 1)) (hRv : ∀ b o n c, v = .slice (some ⟨b, o, none⟩) n c → ps ≠ [] → R b) (hRl : ∀ x, R x → x < W.heap.size) (Z : World → Prop) :
    SeqOwn Tryd.prog 138 #[.pointer (some ⟨sb + 1, 0, none⟩), .pointer (some ⟨sb, 0, none⟩)] (fun _ (x : Pt × List UInt8) => #[partV x.1, .string ⟨x.2.toArray⟩]) (fun A B => Below A.heap.size A B ∧ W.heap.size ≤ A.heap.size) (fun A B => A.heap.size ≤ B.heap.size ∧ ∀ x, R x → B.heap[x]? = A.heap[x]?) Z
      (fun xs => xs = pcs ps s) (fun pre => ∃ rest, pcs ps s = pre ++ rest) W := by
  intro l J Jx hZ hZx hJ hJx hR hj0
  have hlt0 := World.block_lt_of_cell? W _ h0
  have hlt1 := World.block_lt_of_cell? W _ h1
  obtain ⟨p, c, rfl, r1, r2, r3⟩ := hop
  obtain ⟨n, hn⟩ : ∃ n, n = ps.length := ⟨_, rfl⟩
  rw [← hn] at r1 hl h0 hRv
  have HN : Hid (n = ps.length) := hn
  have R3 : Hid (ps ≠ [] → ∃ b o, p = some ⟨b, o, none⟩ ∧ b < W.heap.size ∧ ∀ i q, ps[i]? = some q →
    W.cell? ⟨b, o + i * 3, none⟩ = some (.int .i64 q.keep) ∧ W.cell? ⟨b, o + i * 3 + 1, none⟩ = some (.int .i64 q.drop) ∧ W.cell? ⟨b, o + i * 3 + 2, none⟩ = some (.string ⟨q.put.toArray⟩)) := r3
  have HF : Hid (fitsP ps s) := hf
  have HSL : Hid (s.length < 1000000000) := hs
  have HRV : Hid (∀ b o, p = some ⟨b, o, none⟩ → ps ≠ [] → R b) := fun b o e => hRv b o n c (by rw [e])
  have HRL : Hid (∀ x, R x → x < W.heap.size) := hRl
  clear r3 hf hn hs hRv hRl
  refine callsIn_of_wp Tryd.func138 rfl trivial ?_ rfl
  simp only [Tryd.ntmps138, List.size_toArray, List.length_cons, List.length_nil, Nat.reduceAdd, Nat.reduceSub, Array.replicate_succ, Array.replicate_zero, List.push_toArray, List.append_toArray, List.nil_append, List.cons_append]
  gi_wp2
  gi_loopw [4, 11] (fun rest i wr => ∃ (k : Nat), k ≤ n ∧ i = .int .i64 k ∧ rest = .string ⟨(leftP (ps.take k) s).toArray⟩ ∧ W.heap.size ≤ wr.heap.size ∧ (∀ x, R x → wr.heap[x]? = W.heap[x]?) ∧ J (pcs (ps.take k) s) wr) (fun _ i _ => n - (intOf i).toNat)
  case atStart => exact ⟨0, Nat.zero_le _, rfl, rfl, Nat.le_refl _, fun _ _ => rfl, hj0⟩
  case round =>
    obtain ⟨k, hk, rfl, rfl, hsz, hkeep, hjp⟩ := hrel
    by_cases hlt : k < n
    · have hkr : k < ps.length := by rw [← HN.out]; exact hlt
      have hne : ps ≠ [] := by intro e; rw [e] at hkr; exact absurd hkr (Nat.not_lt_zero _)
      obtain ⟨b, o, rfl, hbw, hcell⟩ := R3.out hne
      obtain ⟨c0, c1, c2⟩ := hcell k ps[k] (List.getElem?_eq_getElem hkr)
      have hkb := hkeep b (HRV.out b o rfl hne)
      have g0 := (World.cell?_of_block (w := W) (w' := wr) (a := ⟨b, o + k * 3, none⟩) hkb).trans c0
      have g1 := (World.cell?_of_block (w := W) (w' := wr) (a := ⟨b, o + k * 3 + 1, none⟩) hkb).trans c1
      have g2 := (World.cell?_of_block (w := W) (w' := wr) (a := ⟨b, o + k * 3 + 2, none⟩) hkb).trans c2
      obtain ⟨f1, f2, f3⟩ := fitsP_at ps s HF.out k hkr
      have hll := leftP_le (ps.take k) s
      have hs9 := HSL.out
      have hts : ps.take (k + 1) = ps.take k ++ [ps[k]] := List.take_succ_eq_append_getElem hkr
      have hpn : pcs (ps.take (k + 1)) s = pcs (ps.take k) s ++ [(ps[k], (leftP (ps.take k) s).take (lenP ps[k]).toNat)] := by rw [hts, pcs_append]; rfl
      have hln : leftP (ps.take (k + 1)) s = (leftP (ps.take k) s).drop (lenP ps[k]).toNat := by rw [hts, leftP_snoc]
      have hSp : ∃ rest, pcs ps s = (pcs (ps.take k) s ++ [(ps[k], (leftP (ps.take k) s).take (lenP ps[k]).toNat)]) ++ rest := by
        rw [← hpn]
        refine ⟨pcs (ps.drop (k + 1)) (leftP (ps.take (k + 1)) s), ?_⟩
        rw [← pcs_append, List.take_append_drop]
      generalize ps[k] = q at *
      generalize leftP (ps.take k) s = T at *
      obtain ⟨K, D, U⟩ := q
      have hlen : lenP ⟨K, D, U⟩ = K + D := rfl
      rw [hlen] at f3 hpn hln hSp
      simp only at f1 f2 g0 g1 g2
      obtain ⟨m, hm⟩ : ∃ m : Nat, K + D = m := ⟨(K + D).toNat, by omega⟩
      have hm' : (K + D).toNat = m := by omega
      rw [hm'] at hpn hln hSp
      rw [hm] at f3
      have hwm : IntKind.i64.wrap (K + D) = (m : Int) := by rw [IntKind.wrap_i64]; omega
      have hmT : m ≤ T.length := by omega
      have hmi : (m : Int) ≤ (T.length : Int) := by omega
      have hm0 : (0 : Int) ≤ (m : Int) := by omega
      have e1 := cut_head T m
      have e2 := cut_tail T m
      have HJP : Hid (J (pcs (ps.take k) s) wr) := hjp
      have HSP : Hid (∃ rest, pcs ps s = (pcs (ps.take k) s ++ [(⟨K, D, U⟩, T.take m)]) ++ rest) := hSp
      have HPN : Hid (pcs (ps.take (k + 1)) s = pcs (ps.take k) s ++ [(⟨K, D, U⟩, T.take m)]) := hpn
      have HLN : Hid (leftP (ps.take (k + 1)) s = T.drop m) := hln
      have HKEEP : Hid (∀ x, R x → wr.heap[x]? = W.heap[x]?) := hkeep
      clear hcell c0 c1 c2 hts hpn hln hSp hjp hlen hkb hkeep hm' f3 hll hs9 hm
      have hbA : Below wr.heap.size wr (wr.alloc (.cells #[.int .i64 K, .int .i64 D, .string ⟨U.toArray⟩] 151)).drew := ((Below.refl _ _).alloc (Nat.le_refl _) _).drew
      obtain ⟨fn, tmps, assign, body, hyy, hRd⟩ := hR (pcs (ps.take k) s) (⟨K, D, U⟩, T.take m) _ (hJ _ _ _ HJP.out ⟨hbA, hsz⟩) HSP.out
      unfold partV at hyy
      gi_wp2
      have hRd2 := hRd.mono (fun e A' HH => (⟨HH, by rcases HH with ⟨rfl, _⟩ | ⟨rfl, _⟩; exact ⟨true, rfl⟩; exact ⟨false, rfl⟩⟩ : _ ∧ ∃ bb : Bool, e = .returned (.bool bb)))
      gi_region_with (first | (refine ⟨rfl, hRd2.mono ?_⟩; rintro e A' ⟨HH, bb, rfl⟩))
      all_goals
        have hcase : (bb = true ∧ J (pcs (ps.take k) s ++ [(⟨K, D, U⟩, T.take m)]) A' ∧ wr.heap.size ≤ A'.heap.size ∧ ∀ x, R x → A'.heap[x]? = wr.heap[x]?) ∨ (bb = false ∧ Jx (pcs (ps.take k) s ++ [(⟨K, D, U⟩, T.take m)]) A') := by
          rcases HH with ⟨e1, e2, e3, e4⟩ | ⟨e1, e2, _⟩
          · simp only [Ending.returned.injEq, Value.bool.injEq] at e1
            refine .inl ⟨e1, e2, Nat.le_trans hbA.size e3, fun x hx => (e4 x hx).trans ?_⟩
            have hxl : x < wr.heap.size := by
              rcases Nat.lt_or_ge x wr.heap.size with h | h
              · exact h
              · exact absurd (HRL.out x hx) (by have := hsz; omega)
            exact hbA.block x hxl
          · simp only [Ending.returned.injEq, Value.bool.injEq] at e1
            exact .inr ⟨e1, e2⟩
        clear HH hRd hRd2 hyy
        rcases hcase with ⟨rfl, hj2, hs2, hk2⟩ | ⟨rfl, hjx⟩
        · have HJ2 : Hid (J (pcs (ps.take (k + 1)) s) A') := by show J _ _; rw [HPN.out]; exact hj2
          have HK2 : Hid (∀ x, R x → A'.heap[x]? = W.heap[x]?) := fun x hx => (hk2 x hx).trans (HKEEP.out x hx)
          have hs3 : W.heap.size ≤ A'.heap.size := Nat.le_trans hsz hs2
          clear hj2 hk2 g0 g1 g2 hbA
          gi_wp2
          go_roundw
          case rel => exact ⟨k + 1, by omega, by go_num, by rw [HLN.out], hs3, HK2.out, HJ2.out⟩
          case measure => simp [intOf]; omega
        · have HJX : Hid (Jx (pcs (ps.take k) s ++ [(⟨K, D, U⟩, T.take m)]) A') := hjx
          clear hjx g0 g1 g2 hbA
          gi_wp2
          refine bodyPost_ret (results_none rfl _ _ _) rfl ?_
          exact ⟨⟨_, rfl⟩, .inr ⟨_, HSP.out, HJX.out⟩⟩
    · have e : ps.take k = ps := List.take_of_length_le (by rw [← HN.out]; omega)
      rw [e] at hjp
      have HJ : Hid (J (pcs ps s) wr) := hjp
      clear e hjp R3 HF
      gi_wp2
      go_end0
      exact ⟨⟨_, rfl⟩, .inl ⟨_, rfl, HJ.out⟩⟩
end Go.Proofs.YtedonckeomccpaaDoor
