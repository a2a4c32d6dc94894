/-
  strings.Clone: the same bytes: the library's contract for its one callee, met at this program; rope.chunkOf.
  rope.chunkOf.
  The same, where one block of the call's own is written meanwhile: operations that yield one value in every world that has grown but for that block are taken first.
  rope.last: the last chunk of a tree, and the tree of the others.
  rope.add: a chunk behind all of a tree's.
  Plain mathematics: where runes begin among bytes; a text cut into pieces.
  A range over an iterator that keeps state in cells of its own: the statement's law, over what the iterator may turn between two rounds and what a round keeps, both the user's choice.
  The library's contracts that these texts use, laid at this program by the shelf's own command, its plain mode.
  rope.pieces: what its iterator does with the rounds of a loop.
  RegionRel's walk within a loop's round.
  rope.between, of no trees: a text in chunks.
  rope's New, tree, Counts: of a sound text.
  rope.first: the first chunk of a tree, and the tree of the others.
  rope.chain: two trees' chunks in one.
  utf.each, where the closure may say no: how far it comes.
-/
import Derived.Test.YtldhbjmillfjgabGreatDoorPartB
import Derived.Test.YtldhbjmillfjgabGreatDoorPartA
import Derived.Shelf.Pu.Clone
import Derived.RangeFuncNested
import Derived.RangeFuncBound
import Derived.RangeFuncCalls
import Derived.RangeFuncLeaves
import Derived.WalkKit
import Derived.Shelf.Strings.Builder1
import Derived.Shelf.Small.Utf8
import Derived.Shelf.Strings.BuilderF
import Derived.Shelf.Strings.BuilderK
import Derived.Shelf.Utf8.AppendRune
import Derived.Shelf.Utf8.AppendRunePlain
import Derived.Shelf.Utf8.RuneCount
import Derived.Shelf.LaysM
import Derived.Shelf.Strconv.Clone
import Derived.Shelf.Strings.Search1
import Derived.Shelf.Strings.Search2
import Derived.Shelf.Strings.Search3
import Derived.Shelf.Strings.Count
import Derived.Shelf.Strings.Shaped
import Derived.Shelf.Strings.Split
import Derived.Shelf.Unicode.Decode
import Derived.Shelf.Strings.RuneCount
import Derived.Shelf.Unicode.DecodeSlow
import Derived.Shelf.Unicode.DecodeAny
import Derived.Shelf.Strings.BuilderCap
import Derived.Test.YtldhbjmillfjgabGreatDoorProg
import Derived.OwnWalkIn
import Derived.TacticsInMore
import Derived.LoopNIn
import Derived.LoopIn
namespace Go.Proofs.YtldhbjmillfjgabGreatDoor
open Go.RowKit
set_option linter.unusedVariables false
attribute [local go_sem] yieldsUpon okUpon

def cloneRen : Go.Shelf.Ren := ⟨fun | 25 => 140 | n => n, fun | 9 => 9 | 5 => 5 | 3 => 3 | 4 => 4 | 37 => 130 | 47 => 232 | 0 => 0 | n => n, fun | n => n⟩
theorem cloneLays : Go.Proofs.LaysPu.n25 Tryz.prog cloneRen := {
  mixed := by kernel_rfl
  f25 := Tryz.func140.trans (congrArg some (by kernel_rfl))
  t0 := by kernel_rfl
  a0 := fun _ => by kernel_rfl
  z0 := fun _ => by kernel_rfl
  v0 := fun _ => by kernel_rfl
  i0 := by kernel_rfl
  t3 := by kernel_rfl
  a3 := fun _ => by kernel_rfl
  z3 := fun _ => by kernel_rfl
  v3 := fun _ => by kernel_rfl
  i3 := by kernel_rfl
  t4 := by kernel_rfl
  a4 := fun _ => by kernel_rfl
  z4 := fun _ => by kernel_rfl
  v4 := fun _ => by kernel_rfl
  i4 := by kernel_rfl
  t5 := by kernel_rfl
  a5 := fun _ => by kernel_rfl
  z5 := fun _ => by kernel_rfl
  v5 := fun _ => by kernel_rfl
  i5 := by kernel_rfl
  t9 := by kernel_rfl
  a9 := fun _ => by kernel_rfl
  z9 := fun _ => by kernel_rfl
  v9 := fun _ => by kernel_rfl
  i9 := by kernel_rfl
  t37 := by kernel_rfl
  a37 := fun _ => by kernel_rfl
  z37 := fun _ => by kernel_rfl
  v37 := fun _ => by kernel_rfl
  i37 := by kernel_rfl
  t47 := by kernel_rfl
  a47 := fun _ => by kernel_rfl
  z47 := fun _ => by kernel_rfl
  v47 := fun _ => by kernel_rfl
  i47 := by kernel_rfl }

theorem Clone_any (s : ByteArray) (w : World) (hs : s.size ≤ 281474976710656) : Calls Tryz.prog 88 #[.string s] w fun e w' => e = .returned (.string s) ∧ Below w.heap.size w w' := by
  have c := Go.Proofs.AnyPu.stringslite_Clone cloneLays s w hs
  have c2 : Calls Tryz.prog 140 #[.string s] w fun e w' => e = .returned (.string s) ∧ Below w.heap.size w w' := c
  go_enter Tryz.func88, Tryz.ntmps88
  go_wp2_with (first | (go_at_call 140; refine c2.mono ?_; rintro e w1 ⟨rfl, hb1⟩) | fail)
  go_ret
  exact ⟨rfl, hb1⟩

theorem count_of (rs : List Nat) (hr : ∀ r ∈ rs, isRune r) (hz : C1 rs ≤ 300000000) (w : World) (hT : Lib.Utf8Tabs 2 3 w) :
    Calls Tryz.prog 59 #[.string (bytesOf rs)] w fun e w' => e = .returned (.tuple #[.agg #[.int .i64 (C1 rs), .int .i64 (C2 rs), .int .i64 (C3 rs), .int .i64 (C4 rs)], .nilIface]) ∧ Below w.heap.size w w' := by
  have hs : (bytesOf rs).size < 400000000 := by rw [bytesOf_size]; rw [C1_len] at hz; omega
  have hsc : scan (bytesOf rs).data.toList = (wide rs, true) := by rw [bytesOf_list]; exact scan_encs rs hr
  refine (Count_any _ hs w hT).mono ?_
  rintro e w' ⟨v, x, rfl, hb, ⟨_, rfl, rfl⟩ | ⟨h, _⟩⟩
  · refine ⟨?_, hb⟩
    rw [hsc]
    have e3 : ((wide rs).length : Int) = C3 rs := by simp [wide, C3]
    simp only [e3]
    rfl
  · rw [hsc] at h; cases h
end Go.Proofs.YtldhbjmillfjgabGreatDoor

namespace Go.Proofs.YtldhbjmillfjgabGreatDoor
open Go.RowKit
set_option linter.unusedVariables false
attribute [local go_sem] yieldsUpon okUpon

/-- A chunk's variable: five cells that may be written. -/
def chunkAt (W : World) (B : Nat) (v0 v1 v2 v3 v4 : Value) : Prop :=
  (W.cell? ⟨B, 0, none⟩ = some v0 ∧ W.cell? ⟨B, 1, none⟩ = some v1 ∧ W.cell? ⟨B, 2, none⟩ = some v2 ∧ W.cell? ⟨B, 3, none⟩ = some v3 ∧ W.cell? ⟨B, 4, none⟩ = some v4) ∧
  (W.frozen? ⟨B, 0, none⟩ = false ∧ W.frozen? ⟨B, 1, none⟩ = false ∧ W.frozen? ⟨B, 2, none⟩ = false ∧ W.frozen? ⟨B, 3, none⟩ = false ∧ W.frozen? ⟨B, 4, none⟩ = false)
theorem chunkAt_lt {W : World} {B : Nat} {v0 v1 v2 v3 v4 : Value} (h : chunkAt W B v0 v1 v2 v3 v4) : B < W.heap.size := World.block_lt_of_cell? W _ h.1.1
theorem chunkAt_old {W W' : World} {B lo : Nat} {v0 v1 v2 v3 v4 : Value} (h : chunkAt W B v0 v1 v2 v3 v4) (hb : Below lo W W') (hlo : B < lo) : chunkAt W' B v0 v1 v2 v3 v4 := by
  obtain ⟨⟨a0, a1, a2, a3, a4⟩, b0, b1, b2, b3, b4⟩ := h
  have c : ∀ o v, W.cell? ⟨B, o, none⟩ = some v → W'.cell? ⟨B, o, none⟩ = some v := fun o v h => (hb.cell (p := ⟨B, o, none⟩) hlo).trans h
  have f : ∀ o, W.frozen? ⟨B, o, none⟩ = false → W'.frozen? ⟨B, o, none⟩ = false := fun o h => (hb.frozen (p := ⟨B, o, none⟩) hlo).trans h
  exact ⟨⟨c _ _ a0, c _ _ a1, c _ _ a2, c _ _ a3, c _ _ a4⟩, f _ b0, f _ b1, f _ b2, f _ b3, f _ b4⟩
theorem chunkAt_below {W W' : World} {B : Nat} {v0 v1 v2 v3 v4 : Value} (h : chunkAt W B v0 v1 v2 v3 v4) (hb : Below W.heap.size W W') : chunkAt W' B v0 v1 v2 v3 v4 := chunkAt_old h hb (chunkAt_lt h)
theorem chunkAt_new (w : World) (v0 v1 v2 v3 v4 : Value) (t : TypeId) : chunkAt (w.alloc (.cells #[v0, v1, v2, v3, v4] t)) w.heap.size v0 v1 v2 v3 v4 := by
  refine ⟨⟨?_, ?_, ?_, ?_, ?_⟩, ?_, ?_, ?_, ?_, ?_⟩ <;> simp [go_sem]
theorem chunkAt_set {W : World} {B : Nat} {v0 v1 v2 v3 v4 u0 u1 u2 u3 u4 : Value} (h : chunkAt W B v0 v1 v2 v3 v4) :
    chunkAt (((((W.setCell ⟨B, 0, none⟩ u0).setCell ⟨B, 1, none⟩ u1).setCell ⟨B, 2, none⟩ u2).setCell ⟨B, 3, none⟩ u3).setCell ⟨B, 4, none⟩ u4) B u0 u1 u2 u3 u4 := by
  obtain ⟨⟨a0, a1, a2, a3, a4⟩, b0, b1, b2, b3, b4⟩ := h
  refine ⟨⟨?_, ?_, ?_, ?_, ?_⟩, ?_, ?_, ?_, ?_, ?_⟩ <;> simp [go_sem, a0, a1, a2, a3, a4, b0, b1, b2, b3, b4]
theorem below_set5 {lo : Nat} {w W : World} {B : Nat} (hb : Below lo w W) (hlo : lo ≤ B) (u0 u1 u2 u3 u4 : Value) :
    Below lo w (((((W.setCell ⟨B, 0, none⟩ u0).setCell ⟨B, 1, none⟩ u1).setCell ⟨B, 2, none⟩ u2).setCell ⟨B, 3, none⟩ u3).setCell ⟨B, 4, none⟩ u4) :=
  ((((hb.setCell (p := ⟨B, 0, none⟩) hlo _).setCell (p := ⟨B, 1, none⟩) hlo _).setCell (p := ⟨B, 2, none⟩) hlo _).setCell (p := ⟨B, 3, none⟩) hlo _).setCell (p := ⟨B, 4, none⟩) hlo _

set_option maxRecDepth 100000 in
set_option maxHeartbeats 2000000 in
theorem chunkOf_any (rs : List Nat) (hr : ∀ r ∈ rs, isRune r) (hz : C1 rs ≤ 300000000) (w : World) (hT : Lib.Utf8Tabs 2 3 w) :
    Calls Tryz.prog 116 #[.string (bytesOf rs)] w fun e w' => e = .returned (chunkV rs) ∧ Below w.heap.size w w' := by
  have hb0 : ∀ o, Below w.heap.size w (w.alloc o) := fun o => (Below.refl _ w).alloc (Nat.le_refl _) o
  have cC := fun o => count_of rs hr hz (w.alloc o) (Go.Proofs.Utf8Tabs_below hT (hb0 o))
  have cK := fun wx => Clone_any (bytesOf rs) wx (by rw [bytesOf_size]; rw [C1_len] at hz; omega)
  unfold chunkV
  generalize bytesOf rs = B at *
  generalize C1 rs = x1 at *
  generalize C2 rs = x2 at *
  generalize C3 rs = x3 at *
  generalize C4 rs = x4 at *
  clear hr hz hT
  go_enter Tryz.func116, Tryz.ntmps116
  go_wp2_with (first | (go_at_call 59; refine (cC _).mono ?_; rintro e w1 ⟨rfl, hb1⟩) | fail)
  have hbw : Below w.heap.size w (w1.alloc (.cells #[.int .i64 x1, .int .i64 x2, .int .i64 x3, .int .i64 x4] 25)) := ((hb0 _).trans (hb1.mono (hb0 _).size)).alloc (Nat.le_trans (hb0 (.cells #[.string ⟨#[]⟩, .int .i64 0, .int .i64 0, .int .i64 0, .int .i64 0] 194)).size hb1.size) _
  have hA : chunkAt (w1.alloc (.cells #[.int .i64 x1, .int .i64 x2, .int .i64 x3, .int .i64 x4] 25)) w.heap.size (.string ⟨#[]⟩) (.int .i64 0) (.int .i64 0) (.int .i64 0) (.int .i64 0) :=
    chunkAt_below (chunkAt_below (chunkAt_new w _ _ _ _ _ _) hb1) ((Below.refl _ w1).alloc (Nat.le_refl _) _)
  have hc : counted (w1.alloc (.cells #[.int .i64 x1, .int .i64 x2, .int .i64 x3, .int .i64 x4] 25)) w1.heap.size x1 x2 x3 x4 := by refine ⟨⟨?_, ?_, ?_, ?_⟩, ?_, ?_, ?_, ?_⟩ <;> simp [go_sem]
  generalize (w1.alloc (.cells #[.int .i64 x1, .int .i64 x2, .int .i64 x3, .int .i64 x4] 25)) = W at *
  generalize w1.heap.size = C at *
  clear cC hb1
  refine wp_region_rel 4 5 (by kernel_rfl) rfl ?_
  intro w2 hb2
  have hc2 := counted_below hc hb2
  obtain ⟨⟨c0, c1, c2, c3⟩, _⟩ := hc2
  have hbw2 := hbw.trans (hb2.mono hbw.size)
  have hA2 := chunkAt_below hA hb2
  obtain ⟨G, hG⟩ := exists_growth w2
  have g0 := hG.cell c0
  have g1 := hG.cell c1
  have g2 := hG.cell c2
  have g3 := hG.cell c3
  clear hc hA c0 c1 c2 c3
  (refine anyG_step hG (i := 0) rfl (by kernel_rfl) (by kernel_rfl) (by kernel_rfl) (fun K hK => ?_); go_simp; refine hK _ ?_; clear hK K)
  (refine anyG_step hG (i := 1) rfl (by kernel_rfl) (by kernel_rfl) (by kernel_rfl) (fun K hK => ?_); go_simp; apply Exists.intro; refine ⟨fun _ => ?_, hK _ ?_⟩; exact cK _; clear hK K)
  (refine anyG_step hG (i := 2) rfl (by kernel_rfl) (by kernel_rfl) (by kernel_rfl) (fun K hK => ?_); go_simp; refine hK _ ?_; clear hK K)
  (refine anyG_step hG (i := 3) rfl (by kernel_rfl) (by kernel_rfl) (by kernel_rfl) (fun K hK => ?_); go_simp; refine hK _ ?_; clear hK K)
  clear g0 g1 g2 g3 hG
  refine anyG_late (i := 4) rfl (by kernel_rfl) (by kernel_rfl) ?_
  intro w3 hb3 K hK
  have hA3 := chunkAt_below hA2 hb3
  have hbw3 := hbw2.trans (hb3.mono hbw2.size)
  have HA3 : Hid _ := hA3
  obtain ⟨⟨a0, a1, a2, a3, a4⟩, b0, b1, b2, b3, b4⟩ := hA3
  go_simp
  refine hK _ _ ?_
  clear hK K
  refine anyG_end (by kernel_rfl) ?_
  intro w4 hb4
  have hA4 := chunkAt_below (chunkAt_set HA3.out) hb4
  have hbw4 := (below_set5 hbw3 (Nat.le_refl _) _ _ _ _ _).trans (hb4.mono (below_set5 hbw3 (Nat.le_refl _) _ _ _ _ _).size)
  clear a0 a1 a2 a3 a4 b0 b1 b2 b3 b4 hb4 HA3 hA2
  obtain ⟨⟨a0, a1, a2, a3, a4⟩, b0, b1, b2, b3, b4⟩ := hA4
  go_wp2
  refine bodyPost_ret (v := .agg #[.string B, .int .i64 x1, .int .i64 x2, .int .i64 x3, .int .i64 x4]) (by simp [results, Tryz.results116, go_sem, a0, a1, a2, a3, a4]) rfl ⟨rfl, hbw4⟩
end Go.Proofs.YtldhbjmillfjgabGreatDoor

namespace Go.Proofs.YtldhbjmillfjgabGreatDoor
open Go.RowKit
set_option linter.unusedVariables false

/-- All blocks but B lie as they lay; new ones may have come. -/
structure But (B : Nat) (A A' : World) : Prop where
  os : A'.os = A.os
  tape : A'.tape = A.tape
  output : A'.output = A.output
  size : A.heap.size ≤ A'.heap.size
  block : ∀ k, k < A.heap.size → k ≠ B → A'.heap[k]? = A.heap[k]?
theorem But.refl (B : Nat) (A : World) : But B A A := ⟨rfl, rfl, rfl, Nat.le_refl _, fun _ _ _ => rfl⟩
theorem But.trans {B : Nat} {a b c : World} (h : But B a b) (k : But B b c) : But B a c :=
  ⟨k.os.trans h.os, k.tape.trans h.tape, k.output.trans h.output, Nat.le_trans h.size k.size, fun i h1 h2 => (k.block i (Nat.lt_of_lt_of_le h1 h.size) h2).trans (h.block i h1 h2)⟩
theorem But.of_below {B : Nat} {A A' : World} (h : Below A.heap.size A A') : But B A A' := ⟨h.os, h.tape, h.output, h.size, fun k h1 _ => h.block k h1⟩
theorem But.setCell {B : Nat} {A W : World} (h : But B A W) {p : Addr} (hp : p.block = B) (v : Value) : But B A (W.setCell p v) :=
  h.trans ⟨rfl, rfl, rfl, by simp [World.setCell], fun k _ h2 => Below.heap_setCell W p v k (by rw [hp]; exact h2)⟩
theorem But.below {B : Nat} {A A' : World} (h : But B A A') (hB : B ≤ A.heap.size) : Below B A A' := ⟨h.os, h.tape, h.output, h.size, fun k hk => h.block k (by omega) (by omega)⟩
theorem But.cell {B : Nat} {A A' : World} (h : But B A A') {b o : Nat} {v : Value} (hb : b ≠ B) (hc : A.cell? ⟨b, o, none⟩ = some v) : A'.cell? ⟨b, o, none⟩ = some v :=
  (World.cell?_of_block (w := A) (a := ⟨b, o, none⟩) (h.block b (World.block_lt_of_cell? A _ hc) hb)).trans hc
/-- A tree lies on: B is no node's block. -/
theorem isTree_but {B : Nat} {A A' : World} (h : But B A A') (hB : A.cell? ⟨B, 5, none⟩ = none) : ∀ {t : T} {p : Option Addr}, isTree A p t → isTree A' p t
  | .nil, _, h => h
  | .node l rs r, _, ⟨b, pl, pr, e, ⟨a0, a1, a2, a3, a4⟩, ⟨a5, a6⟩, ⟨a7, a8, a9, a10⟩, ⟨a11, a12⟩, hl, hr⟩ => by
    have hb : b ≠ B := fun e => by subst e; rw [hB] at a5; cases a5
    exact ⟨b, pl, pr, e, ⟨h.cell hb a0, h.cell hb a1, h.cell hb a2, h.cell hb a3, h.cell hb a4⟩, ⟨h.cell hb a5, h.cell hb a6⟩, ⟨h.cell hb a7, h.cell hb a8, h.cell hb a9, h.cell hb a10⟩, ⟨h.cell hb a11, h.cell hb a12⟩, isTree_but h hB hl, isTree_but h hB hr⟩

/-- G gives just the worlds that are W but for B, and what is new. -/
structure GrowB (B : Nat) (W : World) (G : World → World) : Prop where
  but : ∀ x, But B W (G x)
  onto : ∀ w, But B W w → G w = w
open Classical in
theorem exists_growB (B : Nat) (W : World) : ∃ G, GrowB B W G :=
  ⟨fun x => if But B W x then x else W, fun x => by
    show But B W (if But B W x then x else W)
    split
    · assumption
    · exact But.refl _ _, fun w h => if_pos h⟩
theorem GrowB.cell {B : Nat} {W : World} {G : World → World} (hG : GrowB B W G) {b o : Nat} {v : Value} (hb : b ≠ B) (h : W.cell? ⟨b, o, none⟩ = some v) : ∀ x, (G x).cell? ⟨b, o, none⟩ = some v :=
  fun x => (hG.but x).cell hb h

section
variable {P : Program} {ops : Array Oper} {md : Region.Mode} {m B : Nat} {W0 : World} {Q : Exit → Act → World → Prop}

def anyB (B : Nat) (W0 : World) (P : Program) (md : Region.Mode) (ops : Array Oper) (m : Nat) (Q : Exit → Act → World → Prop) : Nat → Array Bool → Act → World → Prop
  | 0, listed, a, w => Region.ready md ops listed = [] ∧ ∀ w', Below w.heap.size w w' → Q .normal a w'
  | fuel + 1, listed, a, w =>
    (Region.ready md ops listed = [] → ∀ w', Below w.heap.size w w' → Q .normal a w') ∧
    ∀ i ∈ Region.ready md ops listed, ∀ w', Below w.heap.size w w' → opG P ops i (fun a' w'' => (i < m → But B W0 w' → But B W0 w'') ∧ anyB B W0 P md ops m Q fuel (listed.setIfInBounds i true) a' w'') a w'

theorem any_of_anyB : ∀ (fuel : Nat) (listed : Array Bool) (a : Act) (w : World), anyB B W0 P md ops m Q fuel listed a w → wpAny P md ops Q fuel listed a w
  | 0, _, _, w, h => ⟨h.1, h.2 w (Below.refl _ _)⟩
  | fuel + 1, listed, a, w, h => ⟨fun h0 => h.1 h0 w (Below.refl _ _), fun i hi => by
      have h1 := h.2 i hi w (Below.refl _ _)
      have h2 := opG_mono (fun a' w'' hh => any_of_anyB fuel _ a' w'' hh.2) h1
      unfold opG at h2
      unfold wpOp
      split
      · rename_i ho; simp only [ho] at h2; exact h2
      · rename_i o ho
        simp only [ho] at h2
        split
        · rename_i hw; simp only [hw, if_true] at h2; exact .inl (upon_of_ok h2)
        · rename_i hw; simp only [hw] at h2; exact h2⟩
theorem anyB_later : ∀ {fuel : Nat} {listed : Array Bool} {a : Act} {w w2 : World}, anyB B W0 P md ops m Q fuel listed a w → Below w.heap.size w w2 → anyB B W0 P md ops m Q fuel listed a w2
  | 0, _, _, _, _, h, hb => ⟨h.1, fun w' hb' => h.2 w' (hb.trans (hb'.mono hb.size))⟩
  | _ + 1, _, _, _, _, h, hb => ⟨fun h0 w' hb' => h.1 h0 w' (hb.trans (hb'.mono hb.size)), fun i hi w' hb' => h.2 i hi w' (hb.trans (hb'.mono hb.size))⟩

def yieldsB (B : Nat) (W0 : World) (P : Program) (ops : Array Oper) (o : Oper) (v : Value) (a : Act) : Prop :=
  if Region.wanted o (yielded ops a.tmps) then ∀ w', But B W0 w' → yieldsUpon P w' v ((execOp a.eval o).run P w') else v = undef
theorem yieldsB_same {o : Oper} {v : Value} {a a' : Act} (hy : yieldsB B W0 P ops o v a) (he : execOp a'.eval o = execOp a.eval o)
    (hw : Region.wanted o (yielded ops a'.tmps) = Region.wanted o (yielded ops a.tmps)) : yieldsB B W0 P ops o v a' := by
  unfold yieldsB at *
  rw [hw, he]
  exact hy

theorem opG_of_yieldsB {i : Nat} {o : Oper} {v : Value} {a : Act} {w' : World} (hi : ops[i]? = some o) (hy : yieldsB B W0 P ops o v a) (hb : But B W0 w') {K : Act → World → Prop}
    (h : ∀ w'', Below w'.heap.size w' w'' → K (a.put o.dst v) w'') : opG P ops i K a w' := by
  unfold opG
  simp only [hi]
  unfold yieldsB at hy
  split
  · rename_i hw
    rw [if_pos hw] at hy
    have h3 := hy w' hb
    generalize (execOp a.eval o).run P w' = r at *
    cases r with
    | ok n w2 =>
      cases n <;> simp only [yieldsUpon] at h3 <;> simp only [okUpon]
      case value u =>
        obtain ⟨e1, e2⟩ := h3
        rw [e2]
        exact h _ (by rw [e1]; exact Below.refl _ _)
      case skip =>
        obtain ⟨e1, e2⟩ := h3
        rw [← e2]
        exact h _ (by rw [e1]; exact Below.refl _ _)
      case enter f args =>
        obtain ⟨e1, hc⟩ := h3
        rw [e1]
        exact hc.mono fun e w'' ⟨he, hw''⟩ => ⟨v, he, h _ hw''⟩
    | halt x w2 => simp only [yieldsUpon] at h3
  · rename_i hw
    rw [if_neg hw] at hy
    rw [← hy]
    exact h _ (Below.refl _ _)

theorem opG_putB {j : Nat} {oi oj : Oper} {v : Value} (hj : ops[j]? = some oj) (hap : oi.apart ops oj = true) (hsi : ∀ cs b, oi.op ≠ .select cs b) (hsj : ∀ cs b, oj.op ≠ .select cs b)
    {K : Act → World → Prop} {a : Act} {w : World} (hy : yieldsB B W0 P ops oi v a) (h : opG P ops j K (a.put oi.dst v) w) :
    opG P ops j (fun a' w' => yieldsB B W0 P ops oi v a' ∧ K (a'.put oi.dst v) w') a w := by
  obtain ⟨h1, h2, h3⟩ := Oper.apart_spec hap
  have keep : ∀ u, yieldsB B W0 P ops oi v (a.put oj.dst u) := fun u => yieldsB_same hy (execOp_put oi hsi a oj.dst u h3) (wanted_put oi a oj.dst u h3)
  unfold opG at *
  simp only [hj] at *
  rw [wanted_put oj a oi.dst v h1] at h
  split
  · rename_i hw
    simp only [hw, if_true] at h
    rw [execOp_put oj hsj a oi.dst v h1] at h
    generalize (execOp a.eval oj).run P w = r at *
    cases r with
    | ok n w2 =>
      cases n <;> simp only [okUpon] at h ⊢
      case value u => exact ⟨keep u, by rw [← Act.put_comm a v u h2]; exact h⟩
      case skip => exact ⟨keep _, by rw [← Act.put_comm a v undef h2]; exact h⟩
      case enter f args => exact h.mono fun e w'' ⟨u, e1, e2⟩ => ⟨u, e1, keep u, by rw [← Act.put_comm a v u h2]; exact e2⟩
    | halt x w2 => simp only [okUpon] at h
  · rename_i hw
    simp only [hw] at h
    exact ⟨keep _, by rw [← Act.put_comm a v undef h2]; exact h⟩

theorem anyB_first {i : Nat} {oi : Oper} {v : Value} (hi : ops[i]? = some oi) (him : i < m) (hsel : ∀ (j : Nat) (o : Oper) cs b, ops[j]? = some o → o.op ≠ .select cs b) (hlate : lateOk md ops m = true) :
    ∀ (fuel : Nat) (listed : Array Bool) (a : Act) (w : World), But B W0 w →
      (∀ j oj, ops[j]? = some oj → j ≠ i → listed.getD j true = false → (∀ e ∈ oj.after, Region.binds md e = true → e.on ≠ i) → oi.apart ops oj = true) →
      i ∈ Region.ready md ops listed → yieldsB B W0 P ops oi v a →
      anyB B W0 P md ops m Q fuel (listed.setIfInBounds i true) (a.put oi.dst v) w → anyB B W0 P md ops m Q (fuel + 1) listed a w := by
  intro fuel
  induction fuel with
  | zero =>
    intro listed a w hC _ hr hy H
    refine ⟨fun h => (by rw [h] at hr; cases hr), fun j hj w' hb => ?_⟩
    by_cases hji : j = i
    · subst hji; exact opG_of_yieldsB hi hy (hC.trans (But.of_below hb)) fun w'' hb' => ⟨fun _ h => h.trans (But.of_below hb'), anyB_later H (hb.trans (hb'.mono hb.size))⟩
    · have := ready_mono hj hji
      rw [H.1] at this
      cases this
  | succ fuel ih =>
    intro listed a w hC hfree hr hy H
    refine ⟨fun h => (by rw [h] at hr; cases hr), fun j hj w' hb => ?_⟩
    have hC' := hC.trans (But.of_below hb)
    by_cases hji : j = i
    · subst hji; exact opG_of_yieldsB hi hy hC' fun w'' hb' => ⟨fun _ h => h.trans (But.of_below hb'), anyB_later H (hb.trans (hb'.mono hb.size))⟩
    · have h1 := H.2 j (ready_mono hj hji) w' hb
      obtain ⟨hjun, oj, hoj, hall⟩ := mem_ready.1 hj
      have hnot : ∀ e ∈ oj.after, Region.binds md e = true → e.on ≠ i := fun e he hb heq => by
        have h1 := hall e he hb
        have h0 := (mem_ready.1 hr).1
        rw [heq] at h1
        rcases Nat.lt_or_ge i listed.size with h' | h'
        · simp [h'] at h0 h1; rw [h0] at h1; cases h1
        · simp [Array.getElem?_eq_none h'] at h1
      have hjm : j < m := by
        by_cases hjm : j < m
        · exact hjm
        · obtain ⟨e, he, hb, hon⟩ := lateOk_spec hlate hoj hjm him
          exact absurd hon (hnot e he hb)
      have h2 := opG_putB hoj (hfree j oj hoj hji hjun hnot) (fun cs b => hsel i oi cs b hi) (fun cs b => hsel j oj cs b hoj) hy h1
      have hfree' : ∀ k ok, ops[k]? = some ok → k ≠ i → (listed.setIfInBounds j true).getD k true = false →
          (∀ e ∈ ok.after, Region.binds md e = true → e.on ≠ i) → oi.apart ops ok = true := fun k ok hk hki hun hno => by
        refine hfree k ok hk hki ?_ hno
        by_cases hjk : j = k
        · subst hjk; exact hjun
        · rw [getD_set_ne true hjk] at hun; exact hun
      refine opG_mono (fun a' w'' h3 => ?_) h2
      obtain ⟨h3y, h3g, h3a⟩ := h3
      refine ⟨fun _ => h3g hjm, ih (listed.setIfInBounds j true) a' w'' (h3g hjm hC') hfree' (ready_mono hr (Ne.symm hji)) h3y ?_⟩
      rw [Array.setIfInBounds_comm _ _ hji]
      exact h3a

theorem anyB_step {i fuel : Nat} {o : Oper} {listed : Array Bool} {a : Act} {w : World} {G : World → World} (hG : GrowB B W0 G) (hw0 : But B W0 w) (hi : ops[i]? = some o) (him : decide (i < m) = true) (hs : (Region.noSelect ops && lateOk md ops m) = true)
    (hf : (Region.free md ops listed i && (Region.ready md ops listed).contains i) = true)
    (h : ∀ K : Act → Prop, (∀ a, anyB B W0 P md ops m Q fuel (listed.setIfInBounds i true) a w → K a) → if Region.wanted o (yielded ops a.tmps) then ∃ v, (∀ x, yieldsUpon P (G x) v ((execOp a.eval o).run P (G x))) ∧ K (a.put o.dst v) else K (a.put o.dst undef)) :
    anyB B W0 P md ops m Q (fuel + 1) listed a w := by
  have h1 := h _ fun _ h => h
  have him' : i < m := of_decide_eq_true him
  rw [Bool.and_eq_true] at hs hf
  split at h1
  · rename_i hw
    obtain ⟨v, h2, h3⟩ := h1
    refine anyB_first hi him' (Region.noSelect_spec hs.1) hs.2 fuel listed a w hw0 (Region.free_spec hi hf.1) (by simpa using hf.2) ?_ h3
    unfold yieldsB
    rw [if_pos hw]
    intro w' hb
    have := h2 w'
    rw [hG.onto w' hb] at this
    exact this
  · rename_i hw
    refine anyB_first hi him' (Region.noSelect_spec hs.1) hs.2 fuel listed a w hw0 (Region.free_spec hi hf.1) (by simpa using hf.2) ?_ h1
    unfold yieldsB
    rw [if_neg hw]

/-- One of those that may come up: what is asked of it. -/
def askB (B : Nat) (W0 : World) (P : Program) (md : Region.Mode) (ops : Array Oper) (m : Nat) (Q : Exit → Act → World → Prop) (fuel : Nat) (listed : Array Bool) (a : Act) (w : World) (i : Nat) : Prop :=
  ∃ o, ops[i]? = some o ∧ ∀ w', Below w.heap.size w w' → ∀ K : Act → World → Prop, (∀ a' w'', (But B W0 w' → But B W0 w'') → anyB B W0 P md ops m Q fuel (listed.setIfInBounds i true) a' w'' → K a' w'') → if Region.wanted o (yielded ops a.tmps) then okUpon P o a K ((execOp a.eval o).run P w') else K (a.put o.dst undef) w'
theorem anyB_one {i fuel : Nat} {listed : Array Bool} {a : Act} {w : World} (hr : Region.ready md ops listed = [i]) (h : askB B W0 P md ops m Q fuel listed a w i) : anyB B W0 P md ops m Q (fuel + 1) listed a w := by
  obtain ⟨o, hi, h⟩ := h
  refine ⟨fun h0 => absurd (hr.symm.trans h0) (by simp), fun j hj w' hb => ?_⟩
  rw [hr, List.mem_singleton] at hj
  subst hj
  unfold opG
  simp only [hi]
  exact h w' hb _ fun a' w'' hb' ha => ⟨fun _ => hb', ha⟩
theorem anyB_two {i j fuel : Nat} {listed : Array Bool} {a : Act} {w : World} (hr : Region.ready md ops listed = [i, j]) (h : askB B W0 P md ops m Q fuel listed a w i) (h' : askB B W0 P md ops m Q fuel listed a w j) : anyB B W0 P md ops m Q (fuel + 1) listed a w := by
  obtain ⟨o, hi, h⟩ := h
  obtain ⟨o', hj, h'⟩ := h'
  refine ⟨fun h0 => absurd (hr.symm.trans h0) (by simp), fun k hk w' hb => ?_⟩
  rw [hr] at hk
  unfold opG
  rcases List.mem_cons.1 hk with rfl | hk
  · simp only [hi]
    exact h w' hb _ fun a' w'' hb' ha => ⟨fun _ => hb', ha⟩
  · rw [List.mem_singleton] at hk
    subst hk
    simp only [hj]
    exact h' w' hb _ fun a' w'' hb' ha => ⟨fun _ => hb', ha⟩
theorem anyB_end {fuel : Nat} {listed : Array Bool} {a : Act} {w : World} (hr : Region.ready md ops listed = []) (h : ∀ w', Below w.heap.size w w' → Q .normal a w') : anyB B W0 P md ops m Q fuel listed a w := by
  cases fuel with
  | zero => exact ⟨hr, h⟩
  | succ n => exact ⟨fun _ => h, fun i hi => (by rw [hr] at hi; cases hi)⟩
theorem wp_region_but {id : Nat} {a : Act} {w : World} {l : List Oper} (B m n : Nat) (hm : P.follows .mixedOrders = true) (hn : l.length = n)
    (h : ∀ w', Below w.heap.size w w' → anyB B w' P .any l.toArray m Q n (Array.replicate n false) a w') : (Code.region id l.toArray true).wp P Q a w :=
  wp_region_any hm (any_of_anyB (B := B) (W0 := { w with drawn := w.drawn + 1 }) _ _ _ _ (by subst hn; simpa using h { w with drawn := w.drawn + 1 } (Below.drew (Below.refl _ w))))
end
end Go.Proofs.YtldhbjmillfjgabGreatDoor

namespace Go.Proofs.YtldhbjmillfjgabGreatDoor
open Go.RowKit
set_option linter.unusedVariables false
attribute [local go_sem] yieldsUpon okUpon

/-- What an end's taking leaves. -/
def ended (t : T) (c : List Nat) (t' : T) : Prop := t.chunks = t'.chunks ++ [c] ∧ t'.bal
def begun (t : T) (c : List Nat) (t' : T) : Prop := t.chunks = [c] ++ t'.chunks ∧ t'.bal
theorem big_ended {t t' : T} {c : List Nat} (h : big t) (e : ended t c t') : big t' ∧ big (.node t' c .nil) := by
  unfold big at *
  rw [runes_chunks, size_chunks, e.1] at h
  simp only [List.flatten_append, C1_append, List.length_append] at h
  have := C1_pos [c].flatten
  refine ⟨⟨by rw [runes_chunks]; omega, by rw [size_chunks]; omega⟩, ?_, ?_⟩
  · have e2 : C1 [c].flatten = C1 c := by simp
    simp only [T.runes, C1_append, runes_chunks]
    have e3 : C1 (T.nil.chunks.flatten) = 0 := rfl
    have e4 : C1 [] = 0 := rfl
    have e5 : C1 T.nil.runes = 0 := rfl
    simp only [List.flatten_cons, List.flatten_nil, List.append_nil] at *
    omega
  · simp only [T.size, size_chunks]
    have e3 : T.nil.chunks.length = 0 := rfl
    simp only [List.length_singleton] at h
    omega
theorem big_begun {t t' : T} {c : List Nat} (h : big t) (e : begun t c t') : big t' ∧ big (.node .nil c t') := by
  unfold big at *
  rw [runes_chunks, size_chunks, e.1] at h
  simp only [List.flatten_append, C1_append, List.length_append] at h
  have := C1_pos [c].flatten
  refine ⟨⟨by rw [runes_chunks]; omega, by rw [size_chunks]; omega⟩, ?_, ?_⟩
  · have e2 : C1 [c].flatten = C1 c := by simp
    simp only [T.runes, C1_append, runes_chunks]
    have e3 : C1 (T.nil.chunks.flatten) = 0 := rfl
    have e4 : C1 [] = 0 := rfl
    have e5 : C1 T.nil.runes = 0 := rfl
    simp only [List.flatten_cons, List.flatten_nil, List.append_nil] at *
    omega
  · simp only [T.size, size_chunks]
    have e3 : T.nil.chunks.length = 0 := rfl
    simp only [List.length_singleton] at h
    omega

set_option maxRecDepth 100000 in
set_option maxHeartbeats 2000000 in
theorem last_one (p : Option Addr) (l : T) (c : List Nat) (w : World) (ht : isTree w p (.node l c .nil)) :
    Calls Tryz.prog 112 #[.pointer p] w fun e w' => ∃ q, e = .returned (.tuple #[chunkV c, .pointer q]) ∧ isTree w' q l ∧ Below w.heap.size w w' := by
  obtain ⟨b1, pl, pr, rfl, ⟨c0, c1, c2, c3, c4⟩, ⟨c5, c6⟩, _, _, hl, hr⟩ := ht
  have hb0 : ∀ o, Below w.heap.size w (w.alloc o) := fun o => (Below.refl _ w).alloc (Nat.le_refl _) o
  have hlt : b1 < w.heap.size := World.block_lt_of_cell? w _ c0
  have HT : Hid (isTree w pl l) := hl
  obtain rfl : pr = none := hr
  clear hl
  have d6 := fun o => cell_on (hb0 o) c6
  have hA := chunkAt_new w (.string ⟨#[]⟩) (.int .i64 0) (.int .i64 0) (.int .i64 0) (.int .i64 0) 194
  unfold chunkV
  generalize bytesOf c = v0 at *
  generalize C1 c = v1 at *
  generalize C2 c = v2 at *
  generalize C3 c = v3 at *
  generalize C4 c = v4 at *
  go_enter Tryz.func112, Tryz.ntmps112
  go_wp2
  have hbW := hb0 (.cells #[.string ⟨#[]⟩, .int .i64 0, .int .i64 0, .int .i64 0, .int .i64 0] 194)
  generalize (w.alloc (.cells #[.string ⟨#[]⟩, .int .i64 0, .int .i64 0, .int .i64 0, .int .i64 0] 194)) = W at *
  clear d6 hb0
  refine wp_region_but w.heap.size 10 10 (by kernel_rfl) rfl ?_
  intro w1 hb1
  have hbw := hbW.trans (hb1.mono hbW.size)
  have hA1 := chunkAt_below hA hb1
  obtain ⟨G, hG⟩ := exists_growB w.heap.size w1
  have hw0 := But.refl w.heap.size w1
  have hne : b1 ≠ w.heap.size := Nat.ne_of_lt hlt
  have g0 := hG.cell hne (cell_on hbw c0)
  have g1 := hG.cell hne (cell_on hbw c1)
  have g2 := hG.cell hne (cell_on hbw c2)
  have g3 := hG.cell hne (cell_on hbw c3)
  have g4 := hG.cell hne (cell_on hbw c4)
  have g5 := hG.cell hne (cell_on hbw c5)
  clear c0 c1 c2 c3 c4 c5 c6 hA
  (refine anyB_step hG hw0 (i := 0) rfl (by kernel_rfl) (by kernel_rfl) (by kernel_rfl) (fun K hK => ?_); go_simp; refine hK _ ?_; clear hK K)
  (refine anyB_step hG hw0 (i := 1) rfl (by kernel_rfl) (by kernel_rfl) (by kernel_rfl) (fun K hK => ?_); go_simp; refine hK _ ?_; clear hK K)
  (refine anyB_step hG hw0 (i := 2) rfl (by kernel_rfl) (by kernel_rfl) (by kernel_rfl) (fun K hK => ?_); go_simp; refine hK _ ?_; clear hK K)
  (refine anyB_step hG hw0 (i := 3) rfl (by kernel_rfl) (by kernel_rfl) (by kernel_rfl) (fun K hK => ?_); go_simp; refine hK _ ?_; clear hK K)
  (refine anyB_step hG hw0 (i := 4) rfl (by kernel_rfl) (by kernel_rfl) (by kernel_rfl) (fun K hK => ?_); go_simp; refine hK _ ?_; clear hK K)
  (refine anyB_step hG hw0 (i := 5) rfl (by kernel_rfl) (by kernel_rfl) (by kernel_rfl) (fun K hK => ?_); go_simp; refine hK _ ?_; clear hK K)
  (refine anyB_step hG hw0 (i := 6) rfl (by kernel_rfl) (by kernel_rfl) (by kernel_rfl) (fun K hK => ?_); go_simp; refine hK _ ?_; clear hK K)
  (refine anyB_step hG hw0 (i := 7) rfl (by kernel_rfl) (by kernel_rfl) (by kernel_rfl) (fun K hK => ?_); go_simp; refine hK _ ?_; clear hK K)
  clear g0 g1 g2 g3 g4 g5 hG
  refine anyB_one (i := 8) (by kernel_rfl) ⟨_, rfl, ?_⟩
  intro w2 hb2 K hK
  have hA2 := chunkAt_below hA1 hb2
  have hbw2 := hbw.trans (hb2.mono hbw.size)
  have HA2 : Hid _ := hA2
  obtain ⟨⟨a0, a1, a2, a3, a4⟩, f0, f1, f2, f3, f4⟩ := hA2
  go_simp
  refine hK _ _ (fun h => ((((h.setCell rfl _).setCell rfl _).setCell rfl _).setCell rfl _).setCell rfl _) ?_
  clear hK K
  refine anyB_one (i := 9) (by kernel_rfl) ⟨_, rfl, ?_⟩
  intro w3 hb3 K hK
  have hA3 := chunkAt_below (chunkAt_set HA2.out) hb3
  have hbw3 := (below_set5 hbw2 (Nat.le_refl _) _ _ _ _ _).trans (hb3.mono (below_set5 hbw2 (Nat.le_refl _) _ _ _ _ _).size)
  go_simp
  refine hK _ _ (fun h => h) ?_
  clear hK K
  refine anyB_end (by kernel_rfl) ?_
  intro w4 hb4
  have hA4 := chunkAt_below hA3 hb4
  have hbw4 := hbw3.trans (hb4.mono hbw3.size)
  clear a0 a1 a2 a3 a4 f0 f1 f2 f3 f4 hb3 hb4 hA3 HA2 hA1
  have HT4 : Hid _ := isTree_below hbw4 HT.out
  obtain ⟨⟨a0, a1, a2, a3, a4⟩, f0, f1, f2, f3, f4⟩ := hA4
  go_wp2
  refine bodyPost_ret (v := .tuple #[.agg #[.string v0, .int .i64 v1, .int .i64 v2, .int .i64 v3, .int .i64 v4], .pointer pl]) (by simp [results, Tryz.results112, go_sem, a0, a1, a2, a3, a4]) rfl ⟨_, rfl, HT4.out, hbw4⟩

set_option maxRecDepth 100000 in
set_option maxHeartbeats 2000000 in
theorem last_more (p : Option Addr) (l r : T) (c : List Nat) (w : World) (ht : isTree w p (.node l c r)) (hne : r ≠ .nil) (hz : big (.node l c r)) (hbal : (T.node l c r).bal)
    (ih : ∀ (p : Option Addr) (w : World), isTree w p r → Calls Tryz.prog 112 #[.pointer p] w fun e w' => ∃ c q t, e = .returned (.tuple #[chunkV c, .pointer q]) ∧ isTree w' q t ∧ ended r c t ∧ Below w.heap.size w w') :
    Calls Tryz.prog 112 #[.pointer p] w fun e w' => ∃ c1 q t, e = .returned (.tuple #[chunkV c1, .pointer q]) ∧ isTree w' q t ∧ ended (.node l c r) c1 t ∧ Below w.heap.size w w' := by
  obtain ⟨b1, pl, pr, rfl, ⟨c0, c1, c2, c3, c4⟩, ⟨c5, c6⟩, _, _, hl, hr⟩ := ht
  have hb0 : ∀ o, Below w.heap.size w (w.alloc o) := fun o => (Below.refl _ w).alloc (Nat.le_refl _) o
  have hlt : b1 < w.heap.size := World.block_lt_of_cell? w _ c0
  have hsub : ∃ b2, pr = some ⟨b2, 0, none⟩ := by
    cases r with
    | nil => exact absurd rfl hne
    | node x y z => obtain ⟨b, _, _, e, _⟩ := hr; exact ⟨b, e⟩
  obtain ⟨b2, rfl⟩ := hsub
  have cI := fun o => ih _ (w.alloc o) (isTree_below (hb0 o) hr)
  have HT : Hid (isTree w pl l) := hl
  have HJ : Hid (∀ c1 t, ended r c1 t → ∀ p1 p2 W, isTree W p1 l → isTree W p2 t → Calls Tryz.prog 159 #[.pointer p1, chunkV c, .pointer p2] W fun e w' => ∃ q t', e = .returned (.pointer q) ∧ isTree w' q t' ∧ ended (.node l c r) c1 t' ∧ Below W.heap.size W w') := fun c1 t he p1 p2 W h1 h2 => by
    obtain ⟨b1, b2, b3, b4⟩ := hbal
    have hbig : big (.node l c t) := by
      obtain ⟨z1, z2⟩ := hz
      have e1 := he.1
      simp only [T.runes, T.size, C1_append] at z1 z2
      rw [runes_chunks r, e1] at z1
      rw [size_chunks r, e1] at z2
      simp only [List.flatten_append, C1_append, List.length_append, List.length_singleton] at z1 z2
      have := C1_pos [c1].flatten
      exact ⟨by simp only [T.runes, C1_append, runes_chunks t]; omega, by simp only [T.size, size_chunks t]; omega⟩
    refine (join_any _ p1 p2 l t c W (Nat.le_refl _) h1 h2 hbig b1 he.2).mono ?_
    rintro e w' ⟨q, t', rfl, ht', ⟨j1, j2, _, _⟩, hb⟩
    exact ⟨q, t', rfl, ht', ⟨by rw [j1, T.chunks, he.1]; simp, j2⟩, hb⟩
  clear hl hr hne hz hbal ih
  have d6 := fun o => cell_on (hb0 o) c6
  have hA := chunkAt_new w (.string ⟨#[]⟩) (.int .i64 0) (.int .i64 0) (.int .i64 0) (.int .i64 0) 194
  have hN : (w.alloc (.cells #[.string ⟨#[]⟩, .int .i64 0, .int .i64 0, .int .i64 0, .int .i64 0] 194)).cell? ⟨w.heap.size, 5, none⟩ = none := by simp [go_sem]
  have HA : Hid _ := hA
  have HN : Hid _ := hN
  clear hA hN
  unfold chunkV at cI HJ ⊢
  go_enter Tryz.func112, Tryz.ntmps112
  go_wp2_with (first | (go_at_call 112; refine (cI _).mono ?_; rintro e w1 ⟨x, p', t, rfl, ht1, he, hb1⟩; have HT1 : Hid _ := ht1; have HE : Hid _ := he; clear ht1 he) | fail)
  obtain ⟨W, hW⟩ : ∃ W, w1.alloc (.cells #[.string (bytesOf x), .int .i64 (C1 x), .int .i64 (C2 x), .int .i64 (C3 x), .int .i64 (C4 x)] 194) = W := ⟨_, rfl⟩
  have hB4 : chunkAt W w1.heap.size (.string (bytesOf x)) (.int .i64 (C1 x)) (.int .i64 (C2 x)) (.int .i64 (C3 x)) (.int .i64 (C4 x)) := by rw [← hW]; exact chunkAt_new _ _ _ _ _ _ _
  have hb1W : Below w1.heap.size w1 W := by rw [← hW]; exact (Below.refl _ _).alloc (Nat.le_refl _) _
  rw [hW]
  clear hW cI d6
  have hA := chunkAt_below (chunkAt_below HA.out hb1) hb1W
  have hltA := chunkAt_lt HA.out
  have hN := (((hb1.trans (hb1W.mono hb1.size)).cell (p := ⟨w.heap.size, 5, none⟩) hltA)).trans HN.out
  have ht1 := isTree_below hb1W HT1.out
  have hbW := (hb0 (.cells #[.string ⟨#[]⟩, .int .i64 0, .int .i64 0, .int .i64 0, .int .i64 0] 194)).trans ((hb1.trans (hb1W.mono hb1.size)).mono (hb0 (.cells #[.string ⟨#[]⟩, .int .i64 0, .int .i64 0, .int .i64 0, .int .i64 0] 194)).size)
  have hn14 : w1.heap.size ≠ w.heap.size := by have := hb1.size; omega
  clear HA HN HT1 hb1 hb1W hb0
  refine wp_region_but w.heap.size 13 13 (by kernel_rfl) rfl ?_
  intro w2 hb2
  have hbw := hbW.trans (hb2.mono hbW.size)
  have HA1 : Hid _ := chunkAt_below hA hb2
  have HN1 : Hid _ := (hb2.cell (p := ⟨w.heap.size, 5, none⟩) (chunkAt_lt hA)).trans hN
  have HT1 : Hid _ := isTree_below hb2 ht1
  have hB4' := chunkAt_below hB4 hb2
  obtain ⟨⟨e0, e1, e2, e3, e4⟩, _⟩ := hB4'
  obtain ⟨G, hG⟩ := exists_growB w.heap.size w2
  have hw0 := But.refl w.heap.size w2
  have hne : b1 ≠ w.heap.size := Nat.ne_of_lt hlt
  have g0 := hG.cell hne (cell_on hbw c0)
  have g1 := hG.cell hne (cell_on hbw c1)
  have g2 := hG.cell hne (cell_on hbw c2)
  have g3 := hG.cell hne (cell_on hbw c3)
  have g4 := hG.cell hne (cell_on hbw c4)
  have g5 := hG.cell hne (cell_on hbw c5)
  have k0 := hG.cell hn14 e0
  have k1 := hG.cell hn14 e1
  have k2 := hG.cell hn14 e2
  have k3 := hG.cell hn14 e3
  have k4 := hG.cell hn14 e4
  clear c0 c1 c2 c3 c4 c5 c6 hA hN ht1 hB4 e0 e1 e2 e3 e4
  (refine anyB_step hG hw0 (i := 0) rfl (by kernel_rfl) (by kernel_rfl) (by kernel_rfl) (fun K hK => ?_); go_simp; refine hK _ ?_; clear hK K)
  (refine anyB_step hG hw0 (i := 1) rfl (by kernel_rfl) (by kernel_rfl) (by kernel_rfl) (fun K hK => ?_); go_simp; refine hK _ ?_; clear hK K)
  (refine anyB_step hG hw0 (i := 2) rfl (by kernel_rfl) (by kernel_rfl) (by kernel_rfl) (fun K hK => ?_); go_simp; refine hK _ ?_; clear hK K)
  (refine anyB_step hG hw0 (i := 3) rfl (by kernel_rfl) (by kernel_rfl) (by kernel_rfl) (fun K hK => ?_); go_simp; refine hK _ ?_; clear hK K)
  (refine anyB_step hG hw0 (i := 4) rfl (by kernel_rfl) (by kernel_rfl) (by kernel_rfl) (fun K hK => ?_); go_simp; refine hK _ ?_; clear hK K)
  (refine anyB_step hG hw0 (i := 5) rfl (by kernel_rfl) (by kernel_rfl) (by kernel_rfl) (fun K hK => ?_); go_simp; refine hK _ ?_; clear hK K)
  (refine anyB_step hG hw0 (i := 6) rfl (by kernel_rfl) (by kernel_rfl) (by kernel_rfl) (fun K hK => ?_); go_simp; refine hK _ ?_; clear hK K)
  (refine anyB_step hG hw0 (i := 7) rfl (by kernel_rfl) (by kernel_rfl) (by kernel_rfl) (fun K hK => ?_); go_simp; refine hK _ ?_; clear hK K)
  (refine anyB_step hG hw0 (i := 8) rfl (by kernel_rfl) (by kernel_rfl) (by kernel_rfl) (fun K hK => ?_); go_simp; refine hK _ ?_; clear hK K)
  (refine anyB_step hG hw0 (i := 9) rfl (by kernel_rfl) (by kernel_rfl) (by kernel_rfl) (fun K hK => ?_); go_simp; refine hK _ ?_; clear hK K)
  clear g0 g1 g2 g3 g4 g5 k0 k1 k2 k3 k4 hG hb2
  refine anyB_one (i := 10) (by kernel_rfl) ⟨_, rfl, ?_⟩
  · intro w3 hb3 K hK
    have hbw3 := hbw.trans (hb3.mono hbw.size)
    have ht3 := isTree_below hb3 HT1.out
    have cj := HJ.out x t HE.out _ _ w3 (isTree_below hbw3 HT.out) ht3
    go_simp
    refine cj.mono ?_
    rintro e w4 ⟨q, t', rfl, ht4, he4, hb4⟩
    have HE9 : Hid _ := he4
    refine ⟨_, rfl, hK _ _ (fun h => h.trans (But.of_below hb4)) ?_⟩
    clear hK K cj he4 ht3
    have hb34 := hb3.trans (hb4.mono hb3.size)
    have hbw4 := hbw3.trans (hb4.mono hbw3.size)
    have HA4 : Hid _ := chunkAt_below HA1.out hb34
    have HN4 : Hid _ := (hb34.cell (p := ⟨w.heap.size, 5, none⟩) (chunkAt_lt HA1.out)).trans HN1.out
    refine anyB_one (i := 11) (by kernel_rfl) ⟨_, rfl, ?_⟩
    intro w5 hb5 K hK
    have hbw5 := hbw4.trans (hb5.mono hbw4.size)
    have hN5 := (hb5.cell (p := ⟨w.heap.size, 5, none⟩) (chunkAt_lt HA4.out)).trans HN4.out
    have HT5 : Hid _ := isTree_but (((((But.refl w.heap.size w5).setCell (p := ⟨w.heap.size, 0, none⟩) rfl (.string (bytesOf x))).setCell (p := ⟨w.heap.size, 1, none⟩) rfl (.int .i64 (C1 x))).setCell (p := ⟨w.heap.size, 2, none⟩) rfl (.int .i64 (C2 x))).setCell (p := ⟨w.heap.size, 3, none⟩) rfl (.int .i64 (C3 x)) |>.setCell (p := ⟨w.heap.size, 4, none⟩) rfl (.int .i64 (C4 x))) hN5 (isTree_below hb5 ht4)
    clear ht4 hN5
    have HA5 : Hid _ := chunkAt_below HA4.out hb5
    have hx := HA5.out
    obtain ⟨⟨a0, a1, a2, a3, a4⟩, f0, f1, f2, f3, f4⟩ := hx
    go_simp
    refine hK _ _ (fun h => ((((h.setCell rfl _).setCell rfl _).setCell rfl _).setCell rfl _).setCell rfl _) ?_
    clear hK K a0 a1 a2 a3 a4 f0 f1 f2 f3 f4
    have hbs := below_set5 hbw5 (Nat.le_refl _) (.string (bytesOf x)) (.int .i64 (C1 x)) (.int .i64 (C2 x)) (.int .i64 (C3 x)) (.int .i64 (C4 x))
    have hAs := chunkAt_set (u0 := .string (bytesOf x)) (u1 := .int .i64 (C1 x)) (u2 := .int .i64 (C2 x)) (u3 := .int .i64 (C3 x)) (u4 := .int .i64 (C4 x)) HA5.out
    have hts := HT5.out
    refine anyB_one (i := 12) (by kernel_rfl) ⟨_, rfl, ?_⟩
    intro w8 hb8 K hK
    go_simp
    refine hK _ _ (fun h => h) ?_
    clear hK K
    refine anyB_end (by kernel_rfl) ?_
    intro w9 hb9
    have hb89 := hb8.trans (hb9.mono hb8.size)
    have hA9 := chunkAt_below hAs hb89
    have hbw9 := hbs.trans (hb89.mono hbs.size)
    have HT9 : Hid _ := isTree_below hb89 hts
    clear hb8 hb9 hb89 hts
    obtain ⟨⟨a0, a1, a2, a3, a4⟩, f0, f1, f2, f3, f4⟩ := hA9
    go_wp2
    refine bodyPost_ret (v := .tuple #[chunkV x, .pointer q]) (by simp [results, Tryz.results112, go_sem, a0, a1, a2, a3, a4, chunkV]) rfl ⟨_, _, _, rfl, HT9.out, HE9.out, hbw9⟩

theorem last_any : ∀ (n : Nat) (t : T) (p : Option Addr) (w : World), t.size ≤ n → t ≠ .nil → isTree w p t → big t → t.bal →
    Calls Tryz.prog 112 #[.pointer p] w fun e w' => ∃ c q t', e = .returned (.tuple #[chunkV c, .pointer q]) ∧ isTree w' q t' ∧ ended t c t' ∧ Below w.heap.size w w' := by
  intro n
  induction n with
  | zero =>
    intro t p w hn hne
    cases t with
    | nil => exact absurd rfl hne
    | node l c r => simp [T.size] at hn
  | succ n ih =>
    intro t p w hn hne ht hz hbal
    match t, hn, hne, ht, hz, hbal with
    | .nil, _, hne, _, _, _ => exact absurd rfl hne
    | .node l c r, hn, _, ht, hz, hbal =>
      by_cases hs : r = .nil
      · subst hs
        refine (last_one p l c w ht).mono ?_
        rintro e w' ⟨q, rfl, hq, hb⟩
        exact ⟨c, q, l, rfl, hq, ⟨by simp [T.chunks], hbal.1⟩, hb⟩
      · simp only [T.size] at hn
        exact last_more p l r c w ht hs hz hbal fun p' w' h' => ih r p' w' (by omega) hs h' (big_node hz).2.1 hbal.2.1
end Go.Proofs.YtldhbjmillfjgabGreatDoor

namespace Go.Proofs.YtldhbjmillfjgabGreatDoor
open Go.RowKit
set_option linter.unusedVariables false

/-- A chunk as it is to be: runes, one to thirty-two bytes. -/
def okChunk (c : List Nat) : Prop := c ≠ [] ∧ (encs c).length ≤ 32 ∧ ∀ r ∈ c, isRune r
def okT (t : T) : Prop := t.bal ∧ ∀ c ∈ t.chunks, okChunk c
theorem okT_nil : okT .nil := ⟨trivial, fun c h => by cases h⟩
/-- What comes of a chunk behind all. -/
def added (t : T) (c : List Nat) (t' : T) : Prop := t'.runes = t.runes ++ c ∧ okT t' ∧ t'.size ≤ t.size + 1

theorem joined_nil {t t' : T} {c : List Nat} (h : joined t .nil c t') (ht : okT t) (hc : okChunk c) : added t c t' := by
  obtain ⟨j1, j2, _, _⟩ := h
  refine ⟨by rw [runes_chunks, runes_chunks t, j1]; simp [T.chunks], ⟨j2, fun x hx => ?_⟩, by rw [size_chunks, size_chunks, j1]; simp [T.chunks]⟩
  rw [j1] at hx
  simp only [T.chunks, List.append_nil, List.mem_append, List.mem_singleton] at hx
  rcases hx with hx | rfl
  · exact ht.2 x hx
  · exact hc

set_option maxRecDepth 100000 in
set_option maxHeartbeats 2000000 in
theorem add_nil (c : List Nat) (w : World) (hz : C1 c ≤ 1000000000) :
    Calls Tryz.prog 115 #[.pointer none, chunkV c] w fun e w' => ∃ q, e = .returned (.pointer q) ∧ isTree w' q (.node .nil c .nil) ∧ Below w.heap.size w w' := by
  have hb0 : ∀ o, Below w.heap.size w (w.alloc o) := fun o => (Below.refl _ w).alloc (Nat.le_refl _) o
  have e0 : C1 T.nil.runes = 0 := rfl
  have ck := fun wx => link_any none none .nil .nil c wx rfl rfl (by rw [e0]; omega) (by simp [T.size, T.height])
  unfold chunkV at *
  clear hz e0
  go_enter Tryz.func115, Tryz.ntmps115
  go_wp2_with (first | (go_at_call 161; refine (ck _).mono ?_; rintro e w1 ⟨q, rfl, ht, hb⟩; have HT : Hid _ := ht; clear ht) | fail)
  go_ret
  exact ⟨q, rfl, HT.out, (hb0 _).trans (hb.mono (hb0 _).size)⟩

set_option maxRecDepth 100000 in
set_option maxHeartbeats 2000000 in
theorem add_more (b : Nat) (t : T) (c : List Nat) (w : World) (hT : Lib.Utf8Tabs 2 3 w) (ht : isTree w (some ⟨b, 0, none⟩) t) (hne : t ≠ .nil) (hz : big (.node t c .nil)) (hok : okT t) (hc : okChunk c) :
    Calls Tryz.prog 115 #[.pointer (some ⟨b, 0, none⟩), chunkV c] w fun e w' => ∃ q t', e = .returned (.pointer q) ∧ isTree w' q t' ∧ added t c t' ∧ Below w.heap.size w w' := by
  have hb0 : ∀ o, Below w.heap.size w (w.alloc o) := fun o => (Below.refl _ w).alloc (Nat.le_refl _) o
  have cl := fun o => last_any _ t _ (w.alloc o) (Nat.le_refl _) hne (isTree_below (hb0 o) ht) (big_node hz).1 hok.1
  have HT : Hid (isTree w (some ⟨b, 0, none⟩) t) := ht
  have HTT : Hid (Lib.Utf8Tabs 2 3 w) := hT
  have HB : Hid (big (.node t c .nil)) := hz
  have HO : Hid (okT t) := hok
  have HC : Hid (okChunk c) := hc
  have hcs : (bytesOf c).size ≤ 32 := by rw [bytesOf_size]; exact hc.2.1
  clear hT ht hne hz hok hc
  have HA0 : Hid (∀ x t0, ended t x t0 → okChunk x ∧ (encs x).length ≤ 32 ∧ big (.node t0 (x ++ c) .nil) ∧ okT t0) := fun x t0 he => by
    have hx : okChunk x := HO.out.2 x (by rw [he.1]; simp)
    refine ⟨hx, hx.2.1, ?_, he.2, fun y hy => HO.out.2 y (by rw [he.1]; simp [hy])⟩
    obtain ⟨z1, z2⟩ := HB.out
    simp only [T.runes, T.size, C1_append] at z1 z2
    rw [runes_chunks t, he.1] at z1
    rw [size_chunks t, he.1] at z2
    simp only [List.flatten_append, C1_append, List.length_append, List.length_singleton, List.flatten_cons, List.flatten_nil, List.append_nil] at z1 z2
    exact ⟨by simp only [T.runes, C1_append, runes_chunks t0]; omega, by simp only [T.size, size_chunks t0]; omega⟩
  have HK : Hid (∀ x t0, ended t x t0 → ∀ wx, Below w.heap.size w wx → Calls Tryz.prog 116 #[.string (bytesOf x ++ bytesOf c)] wx fun e w' => e = .returned (chunkV (x ++ c)) ∧ Below wx.heap.size wx w') := fun x t0 he wx hb => by
    obtain ⟨h1, h2, h3, _⟩ := HA0.out x t0 he
    rw [bytesOf_append]
    have hl := HC.out.2.1
    refine chunkOf_any (x ++ c) (fun r hr => ?_) ?_ wx (Go.Proofs.Utf8Tabs_below HTT.out hb)
    · rcases List.mem_append.1 hr with hr | hr
      · exact h1.2.2 r hr
      · exact HC.out.2.2 r hr
    · rw [C1_append, C1_len, C1_len]; omega
  have HJ1 : Hid (∀ x t0, ended t x t0 → (encs x).length + (encs c).length ≤ 32 → ∀ q0 wx, isTree wx q0 t0 → Calls Tryz.prog 159 #[.pointer q0, chunkV (x ++ c), .pointer none] wx fun e w' => ∃ q t', e = .returned (.pointer q) ∧ isTree w' q t' ∧ added t c t' ∧ Below wx.heap.size wx w') := fun x t0 he hle q0 wx h => by
    obtain ⟨h1, h2, h3, h4⟩ := HA0.out x t0 he
    refine (join_any _ q0 none t0 .nil (x ++ c) wx (Nat.le_refl _) h rfl h3 he.2 trivial).mono ?_
    rintro e w' ⟨q, t', rfl, ht', hj, hb⟩
    have hok : okChunk (x ++ c) := ⟨by simp [h1.1], by rw [encs_append, List.length_append]; exact hle, fun r hr => (List.mem_append.1 hr).elim (h1.2.2 r) (HC.out.2.2 r)⟩
    obtain ⟨a1, a2, a3⟩ := joined_nil hj h4 hok
    refine ⟨q, t', rfl, ht', ⟨?_, a2, ?_⟩, hb⟩
    · rw [a1, runes_chunks t, runes_chunks t0, he.1]; simp
    · have := size_chunks t; rw [he.1] at this; have := size_chunks t0; simp at *; omega
  have HJ2 : Hid (∀ wx, Below w.heap.size w wx → Calls Tryz.prog 159 #[.pointer (some ⟨b, 0, none⟩), chunkV c, .pointer none] wx fun e w' => ∃ q t', e = .returned (.pointer q) ∧ isTree w' q t' ∧ added t c t' ∧ Below wx.heap.size wx w') := fun wx hb => by
    refine (join_any _ _ none t .nil c wx (Nat.le_refl _) (isTree_below hb HT.out) rfl HB.out HO.out.1 trivial).mono ?_
    rintro e w' ⟨q, t', rfl, ht', hj, hb⟩
    exact ⟨q, t', rfl, ht', joined_nil hj HO.out HC.out, hb⟩
  unfold chunkV at *
  go_enter Tryz.func115, Tryz.ntmps115
  go_wp2_with (first
    | (go_at_call 112; refine (cl _).mono ?_; rintro e w1 ⟨x, q0, t0, rfl, ht0, he, hb1⟩; have HT0 : Hid _ := ht0; have HE : Hid (ended t x t0) := he; have hxs : (bytesOf x).size ≤ 32 := (by rw [bytesOf_size]; exact (HA0.out x t0 he).2.1); have hb1W : Below w1.heap.size w1 (w1.alloc (.cells #[.string (bytesOf x), .int .i64 (C1 x), .int .i64 (C2 x), .int .i64 (C3 x), .int .i64 (C4 x)] 194)) := (Below.refl _ w1).alloc (Nat.le_refl _) _; have hm := chunkAt_below (chunkAt_below (chunkAt_new w (.string (bytesOf c)) (.int .i64 (C1 c)) (.int .i64 (C2 c)) (.int .i64 (C3 c)) (.int .i64 (C4 c)) 194) hb1) hb1W; obtain ⟨⟨m0, m1, m2, m3, m4⟩, _⟩ := hm; have hBW : Below w.heap.size w (w1.alloc (.cells #[.string (bytesOf x), .int .i64 (C1 x), .int .i64 (C2 x), .int .i64 (C3 x), .int .i64 (C4 x)] 194)) := (hb0 _).trans ((hb1.trans (hb1W.mono hb1.size)).mono (hb0 _).size); have HBW : Hid _ := hBW; have HTW : Hid _ := isTree_below hb1W ht0; clear ht0 he hBW hb1 hb1W)
    | fail)
  · have hle : (encs x).length + (encs c).length ≤ 32 := by rw [← bytesOf_size, ← bytesOf_size]; omega
    refine (HK.out x t0 HE.out _ HBW.out).mono ?_
    rintro e w2 ⟨rfl, hb2⟩
    have hw2 := HBW.out.trans (hb2.mono HBW.out.size)
    have cj := HJ1.out x t0 HE.out hle q0 w2 (isTree_below hb2 HTW.out)
    unfold chunkV at cj
    clear hb2
    go_wp2_with (first | (go_at_call 159; refine cj.mono ?_; rintro e w3 ⟨q, t', rfl, ht', ha, hb3⟩; have HT' : Hid _ := ht'; have HA' : Hid _ := ha; clear ht' ha) | fail)
    go_ret
    exact ⟨q, t', rfl, HT'.out, HA'.out, hw2.trans (hb3.mono hw2.size)⟩
  · refine (HJ2.out _ HBW.out).mono ?_
    rintro e w3 ⟨q, t', rfl, ht', ha, hb3⟩
    have hw3 := HBW.out.trans (hb3.mono HBW.out.size)
    have HT' : Hid _ := ht'
    have HA' : Hid _ := ha
    clear ht' ha hb3
    go_wp2
    go_ret
    exact ⟨q, t', rfl, HT'.out, HA'.out, hw3⟩

theorem add_any (p : Option Addr) (t : T) (c : List Nat) (w : World) (hT : Lib.Utf8Tabs 2 3 w) (ht : isTree w p t) (hz : big (.node t c .nil)) (hok : okT t) (hc : okChunk c) :
    Calls Tryz.prog 115 #[.pointer p, chunkV c] w fun e w' => ∃ q t', e = .returned (.pointer q) ∧ isTree w' q t' ∧ added t c t' ∧ Below w.heap.size w w' := by
  cases t with
  | nil =>
    obtain rfl : p = none := ht
    refine (add_nil c w (by obtain ⟨z, _⟩ := hz; simp only [T.runes, List.nil_append, List.append_nil] at z; omega)).mono ?_
    rintro e w' ⟨q, rfl, hq, hb⟩
    refine ⟨q, _, rfl, hq, ⟨by simp [T.runes], ⟨⟨trivial, trivial, by simp [T.height], by simp [T.height]⟩, fun x hx => ?_⟩, by simp [T.size]⟩, hb⟩
    simp only [T.chunks, List.nil_append, List.append_nil, List.mem_singleton] at hx
    subst hx
    exact hc
  | node l x r =>
    have h2 := ht
    obtain ⟨b, _, _, rfl, _⟩ := h2
    exact add_more b _ c w hT ht (by simp) hz hok hc
end Go.Proofs.YtldhbjmillfjgabGreatDoor

namespace Go.Proofs.YtldhbjmillfjgabGreatDoor

/-- A byte with which a rune may begin. -/
def startB (b : UInt8) : Bool := Lib.runeStart (b.toNat : Int)
theorem startB_lead {n : Nat} (h : n < 256) (h2 : n / 64 ≠ 2) : startB n.toUInt8 = true := by
  unfold startB Lib.runeStart
  rw [toU8 h, bne_iff_ne]
  omega
theorem startB_tail {n : Nat} (h : n < 64) : startB (128 + n).toUInt8 = false := by
  unfold startB Lib.runeStart
  rw [toU8 (by omega), bne_eq_false_iff_eq]
  omega
theorem enc_starts {r : Nat} (hr : isRune r) : ∃ b t, enc r = b :: t ∧ startB b = true ∧ (∀ x ∈ t, startB x = false) ∧ t.length ≤ 3 := by
  unfold isRune at hr
  by_cases h1 : r ≤ 127
  · rw [enc1 h1]; exact ⟨_, [], rfl, startB_lead (by omega) (by omega), by simp, by simp⟩
  by_cases h2 : r ≤ 2047
  · rw [enc2 (by omega) h2]
    exact ⟨_, _, rfl, startB_lead (by omega) (by omega), fun x hx => by simp only [List.mem_cons, List.not_mem_nil, or_false] at hx; subst hx; exact startB_tail (by omega), by simp⟩
  by_cases h3 : r ≤ 65535
  · rw [enc3 (by omega)]
    exact ⟨_, _, rfl, startB_lead (by omega) (by omega), fun x hx => by simp only [List.mem_cons, List.not_mem_nil, or_false] at hx; rcases hx with rfl | rfl <;> exact startB_tail (by omega), by simp⟩
  · rw [enc4 (by omega) (by omega)]
    exact ⟨_, _, rfl, startB_lead (by omega) (by omega), fun x hx => by simp only [List.mem_cons, List.not_mem_nil, or_false] at hx; rcases hx with rfl | rfl | rfl <;> exact startB_tail (by omega), by simp⟩

/-- A place between two runes, or at an end. -/
def edgeAt (rs : List Nat) (j : Nat) : Prop := ∃ k, k ≤ rs.length ∧ j = (encs (rs.take k)).length
theorem edgeAt_zero (rs : List Nat) : edgeAt rs 0 := ⟨0, Nat.zero_le _, by simp [encs]⟩
theorem edgeAt_end (rs : List Nat) : edgeAt rs (encs rs).length := ⟨rs.length, Nat.le_refl _, by rw [List.take_length]⟩
theorem edgeAt_first {r : Nat} (rs : List Nat) : edgeAt (r :: rs) (enc r).length := ⟨1, by simp, by simp [encs]⟩
theorem edgeAt_of_start : ∀ {rs : List Nat}, (∀ r ∈ rs, isRune r) → ∀ {j : Nat} {b : UInt8}, (encs rs)[j]? = some b → startB b = true → edgeAt rs j
  | [], _, j, b, h, _ => by simp [encs] at h
  | r :: rs, hr, j, b, h, hb => by
    obtain ⟨b0, t, e, h1, h2, _⟩ := enc_starts (hr r (by simp))
    rw [encs_cons] at h
    by_cases hj : j < (enc r).length
    · rw [List.getElem?_append_left hj, e] at h
      cases j with
      | zero => exact edgeAt_zero _
      | succ j =>
        rw [List.getElem?_cons_succ] at h
        have := h2 b (List.mem_of_getElem? h)
        rw [this] at hb
        cases hb
    · rw [List.getElem?_append_right (by omega)] at h
      obtain ⟨k, hk, e2⟩ := edgeAt_of_start (fun x hx => hr x (by simp [hx])) h hb
      refine ⟨k + 1, by simp; omega, ?_⟩
      rw [List.take_succ_cons, encs_cons, List.length_append, ← e2]
      omega
theorem start_of_edgeAt : ∀ {rs : List Nat}, (∀ r ∈ rs, isRune r) → ∀ {j : Nat} {b : UInt8}, edgeAt rs j → (encs rs)[j]? = some b → startB b = true
  | [], _, j, b, _, h => by simp [encs] at h
  | r :: rs, hr, j, b, ⟨k, hk, hj⟩, h => by
    obtain ⟨b0, t, e, h1, _, _⟩ := enc_starts (hr r (by simp))
    cases k with
    | zero =>
      simp [encs] at hj
      subst hj
      rw [encs_cons, e] at h
      simp at h
      subst h
      exact h1
    | succ k =>
      rw [List.take_succ_cons, encs_cons, List.length_append] at hj
      rw [encs_cons, List.getElem?_append_right (by omega)] at h
      exact start_of_edgeAt (fun x hx => hr x (by simp [hx])) ⟨k, by simpa using hk, by omega⟩ h

/-- A cut at an edge. -/
theorem cut_at {rs : List Nat} (hr : ∀ r ∈ rs, isRune r) {j : Nat} (h : edgeAt rs j) (h0 : 0 < j) (h32 : j ≤ 32) :
    ∃ x y, rs = x ++ y ∧ okChunk x ∧ (bytesOf rs).extract 0 j = bytesOf x ∧ (bytesOf rs).extract j (bytesOf rs).size = bytesOf y ∧ (encs y).length + j = (encs rs).length := by
  obtain ⟨k, hk, rfl⟩ := h
  refine ⟨rs.take k, rs.drop k, (List.take_append_drop k rs).symm, ⟨?_, h32, fun r h => hr r (List.mem_of_mem_take h)⟩, ?_, ?_, ?_⟩
  · intro e
    rw [e] at h0
    simp [encs] at h0
  · apply ByteArray.ext
    apply Array.toList_inj.1
    rw [Lib.extract_data, List.drop_zero, Nat.sub_zero, bytesOf_list, bytesOf_list]
    conv => lhs; rw [← List.take_append_drop k rs, encs_append]
    simp
  · apply ByteArray.ext
    apply Array.toList_inj.1
    rw [Lib.extract_to_end, bytesOf_list, bytesOf_list]
    conv => lhs; rw [← List.take_append_drop k rs, encs_append]
    simp
  · have e : encs rs = encs (rs.take k) ++ encs (rs.drop k) := by rw [← encs_append, List.take_append_drop]
    rw [e, List.length_append]
    omega
theorem first_len {rs : List Nat} (hr : ∀ r ∈ rs, isRune r) (hne : rs ≠ []) : ∃ f, 1 ≤ f ∧ f ≤ 4 ∧ edgeAt rs f ∧ f ≤ (encs rs).length := by
  cases rs with
  | nil => exact absurd rfl hne
  | cons r rs =>
    obtain ⟨b0, t, e, _, _, h3⟩ := enc_starts (hr r (by simp))
    refine ⟨(enc r).length, by rw [e]; simp, by rw [e]; simp; omega, edgeAt_first rs, by rw [encs_cons, List.length_append]; omega⟩
end Go.Proofs.YtldhbjmillfjgabGreatDoor

namespace Go.Proofs.YtldhbjmillfjgabGreatDoor
open Go.RowKit

/-- The loop's two blocks of book-keeping lie as they lay. -/
structure Same2 (n : Nat) (W W' : World) : Prop where
  a : W'.heap[n]? = W.heap[n]?
  b : W'.heap[n + 1]? = W.heap[n + 1]?
theorem Same2.refl (n : Nat) (W : World) : Same2 n W W := ⟨rfl, rfl⟩
theorem Same2.trans {n : Nat} {A B C : World} (h : Same2 n A B) (k : Same2 n B C) : Same2 n A C := ⟨k.a.trans h.a, k.b.trans h.b⟩
theorem Same2.of_below {n B : Nat} {W W' : World} (h : Below B W W') (hB : n + 2 ≤ B) : Same2 n W W' := ⟨h.block n (by omega), h.block (n + 1) (by omega)⟩
theorem Same2.setCell {n : Nat} {A W : World} (h : Same2 n A W) {p : Addr} (h1 : p.block ≠ n) (h2 : p.block ≠ n + 1) (v : Value) : Same2 n A (W.setCell p v) :=
  ⟨(Below.heap_setCell W p v n (fun e => h1 e.symm)).trans h.a, (Below.heap_setCell W p v (n + 1) (fun e => h2 e.symm)).trans h.b⟩
theorem Same2.alloc {n : Nat} {A W : World} (h : Same2 n A W) (hn : n + 2 ≤ W.heap.size) (o : Obj) : Same2 n A (W.alloc o) :=
  ⟨(Below.heap_alloc W o n (by omega)).trans h.a, (Below.heap_alloc W o (n + 1) (by omega)).trans h.b⟩
theorem Same2.drew {n : Nat} {A W : World} (h : Same2 n A W) : Same2 n A W.drew := ⟨h.a, h.b⟩

/-- All blocks but one lie as they lay. -/
structure Put1 (n : Nat) (A B : World) : Prop where
  os : B.os = A.os
  tape : B.tape = A.tape
  output : B.output = A.output
  size : B.heap.size = A.heap.size
  block : ∀ k, k ≠ n → B.heap[k]? = A.heap[k]?
theorem Put1.putObj (n : Nat) (A : World) (o : Obj) : Put1 n A (A.putObj n o) := ⟨rfl, rfl, rfl, by simp, fun _ h => World.putObj_heap_other h⟩
theorem Put1.below {n B : Nat} {A A' : World} (h : Put1 n A A') (hB : B ≤ n) : Below B A A' := ⟨h.os, h.tape, h.output, Nat.le_of_eq h.size.symm, fun k hk => h.block k (by omega)⟩
theorem Put1.cell {n : Nat} {A A' : World} (h : Put1 n A A') {b o : Nat} (hb : b ≠ n) : A'.cell? ⟨b, o, none⟩ = A.cell? ⟨b, o, none⟩ := World.cell?_of_block (w := A) (a := ⟨b, o, none⟩) (h.block b hb)
theorem Put1.frozen {n : Nat} {A A' : World} (h : Put1 n A A') {b o : Nat} (hb : b ≠ n) : A'.frozen? ⟨b, o, none⟩ = A.frozen? ⟨b, o, none⟩ := World.frozen?_of_block (w := A) (a := ⟨b, o, none⟩) (h.block b hb)

/-- How a round may be left. -/
def ownPostO {α : Type} (n : Nat) (Kp : World → World → Prop) (I : List α → World → Prop) (Ix : Code → List α → World → Prop) (xs : List α) (W : World) : Exit → Act → World → Prop
  | .normal, _, W' => Same2 n W W' ∧ Kp W W' ∧ I xs W'
  | .ret, _, W' => Same2 n W W' ∧ Kp W W' ∧ Ix .ret xs W'
  | .exit id, _, W' => Same2 n W W' ∧ Kp W W' ∧ Ix (.exit id) xs W'
  | .goto t, _, W' => Same2 n W W' ∧ Kp W W' ∧ Ix (.goto t) xs W'
  | .panic _, _, _ => False
  | .outgrown, _, _ => False

/-- What an iterator does, called with a loop's yield in a world W: over all invariants of its rounds that abide its own steps. -/
def SeqOwn {α : Type} (P : Program) (g : Nat) (lb : Array Value) (encs : List α → α → Array Value) (It Kp : World → World → Prop) (Z : World → Prop) (S Sp : List α → Prop) (W : World) : Prop :=
  ∀ (l : Nat) (J Jx : List α → World → Prop), (∀ pre A, J pre A → Z A) → (∀ pre A, Jx pre A → Z A) → (∀ pre A B, J pre A → It A B → J pre B) → (∀ pre A B, Jx pre A → It A B → Jx pre B) →
    (∀ pre x A, J pre A → Sp (pre ++ [x]) → YieldAt Fence.wide 0 P l (encs pre x) A fun e A' =>
      (e = .returned (.bool true) ∧ J (pre ++ [x]) A' ∧ Kp A A') ∨ (e = .returned (.bool false) ∧ Jx (pre ++ [x]) A' ∧ Kp A A')) →
    J [] W →
    CallsIn Fence.wide 0 P g (#[.func (.yield l) #[] #[]] ++ lb) W fun e W' => (∃ v, e = .returned v) ∧ ((∃ xs, S xs ∧ J xs W') ∨ (∃ pre, Sp pre ∧ Jx pre W'))

theorem wp_range_own {α : Type} {P : Program} {g : Operand} {ps : Array Tmp} {assign body : Code} {Q : Exit → Act → World → Prop} {a : Act} {w : World} {n : Nat}
    {gf : Nat} {lb : Array Value} (hg : a.eval g = .func (.func gf) #[] lb) (eg : ∀ args w, (callFunc gf args).run P w = .ok (.enter gf args) w)
    {encs : List α → α → Array Value} (hps : ∀ pre x, (encs pre x).size = ps.size)
    {It Kp : World → World → Prop} {Z : World → Prop} {S Sp : List α → Prop}
    (hseq : ∀ W, W.heap.size = w.heap.size + 2 → Below w.heap.size w W → SeqOwn P gf lb encs It Kp Z S Sp W)
    (hIt : ∀ A B, It A B → Same2 w.heap.size A B)
    (hKt : ∀ {A B C : World}, Kp A B → Kp B C → Kp A C) (hKb : ∀ (A : World) (r : Loop), Kp A (A.putObj (w.heap.size + 1) (.loop r)))
    (I : List α → World → Prop) (Ix : Code → List α → World → Prop)
    (hIz : ∀ pre A, I pre A → Z A) (hIxz : ∀ c pre A, Ix c pre A → Z A)
    (hI : ∀ pre A B, I pre A → It A B → I pre B) (hIb : ∀ pre A (r : Loop), I pre A → I pre (A.putObj (w.heap.size + 1) (.loop r)))
    (hIx : ∀ c pre A B, Ix c pre A → It A B → Ix c pre B) (hIxb : ∀ c pre A (r : Loop), Ix c pre A → Ix c pre (A.putObj (w.heap.size + 1) (.loop r)))
    (h0 : ∀ W, W.heap.size = w.heap.size + 2 → Below w.heap.size w W → (∃ r, W.heap[w.heap.size + 1]? = some (.loop r)) → I [] W)
    (hround : ∀ (l : Nat) (pre : List α) (x : α) (W : World), I pre W → w.heap.size + 2 ≤ W.heap.size → Sp (pre ++ [x]) →
      assign.wpIn (Fence.wide.inRound l) 0 P (Exit.then (fun a₁ w₁ => Same2 w.heap.size W w₁ ∧ Kp W w₁ ∧ ∀ w₂, Put1 (w.heap.size + 1) w₁ w₂ → (∃ r, w₂.heap[w.heap.size + 1]? = some (.loop r)) → body.wpIn (Fence.wide.inRound l) 0 P (ownPostO w.heap.size Kp I Ix (pre ++ [x]) w₂) a₁ w₂) (fun _ _ _ => False))
        { tmps := (ps.zip (encs pre x)).foldl (fun t (p, v) => t.setIfInBounds p v) a.tmps, defers := [] } W)
    (hdone : ∀ (xs : List α) (W : World), S xs → I xs W → W.heap[w.heap.size]? = some (.deferred (some [])) → Q .normal { a with defers := { target := .collected w.heap.size, args := #[] } :: a.defers } W)
    (hstop : ∀ (c : Code) (pre : List α) (W : World), Sp pre → Ix c pre W → W.heap[w.heap.size]? = some (.deferred (some [])) → c.wpIn Fence.wide n P Q { a with defers := { target := .collected w.heap.size, args := #[] } :: a.defers } W) :
    (Code.rangeFunc g ps assign body).wpIn Fence.wide n P Q a w := by
  refine wpIn_rangeFunc ?_
  intro fn hfn
  obtain ⟨rec, hrec⟩ : ∃ rec : LoopState → Option Code → Loop, rec = fun st pe => { state := st, pending := pe, fn, tmps := a.tmps, params := ps, assign, body, defers := w.heap.size } := ⟨_, rfl⟩
  obtain ⟨W1, hW1⟩ : ∃ W1, (w.alloc (.deferred (some []))).alloc (.loop (rec .ready none)) = W1 := ⟨_, rfl⟩
  have hL1 : W1.heap[w.heap.size + 1]? = some (.loop (rec .ready none)) := by
    rw [← hW1]; have := World.alloc_heap_new (w.alloc (.deferred (some []))) (.loop (rec .ready none)); rwa [World.size_alloc] at this
  have hK1 : W1.heap[w.heap.size]? = some (.deferred (some [])) := by
    rw [← hW1]; exact (Below.heap_alloc _ _ _ (by simp)).trans (World.alloc_heap_new w _)
  have hs1 : W1.heap.size = w.heap.size + 2 := by rw [← hW1, World.size_alloc, World.size_alloc]
  have hb1 : Below w.heap.size w W1 := by
    rw [← hW1]; exact ((Below.refl _ w).alloc (Nat.le_refl _) _).alloc (by simp) _
  have hI1 : I [] W1 := h0 W1 hs1 hb1 ⟨_, hL1⟩
  refine ⟨w.heap.size + 1, [{ target := .collected w.heap.size, args := #[] }], W1, { target := .fn (.func gf) lb, args := #[.func (.yield (w.heap.size + 1)) #[] #[]] }, W1, gf,
    #[.func (.yield (w.heap.size + 1)) #[] #[]] ++ lb, W1, ?_, ?_, ?_, ?_, fun h => (by cases h), ?_⟩
  · rw [← hW1, hrec]; exact run_enterLoop_outer _ _ _ _ _
  · simp only [resolve, hg]
    simp [go_sem]
  · intro f' hf'; trivial
  · simp [invoke, go_sem, eg]
  · refine CallsIn.more ((hseq W1 hs1 hb1 (w.heap.size + 1)
      (fun pre W => I pre W ∧ W.heap[w.heap.size + 1]? = some (.loop (rec .ready none)) ∧ W.heap[w.heap.size]? = some (.deferred (some [])))
      (fun pre W => ∃ c, Ix c pre W ∧ W.heap[w.heap.size + 1]? = some (.loop (rec .done (some c))) ∧ W.heap[w.heap.size]? = some (.deferred (some [])))
      (fun s A hs => hIz s A hs.1) (fun s A hs => (by obtain ⟨c, hc, _⟩ := hs; exact hIxz c s A hc))
      (fun s A B hs hg' => ⟨hI s A B hs.1 hg', (hIt A B hg').b.trans hs.2.1, (hIt A B hg').a.trans hs.2.2⟩)
      (fun s A B hs hg' => by
        obtain ⟨c, hc, hl, hk⟩ := hs
        exact ⟨c, hIx c s A B hc hg', (hIt A B hg').b.trans hl, (hIt A B hg').a.trans hk⟩)
      ?_ ⟨hI1, hL1, hK1⟩).mono ?_) (Nat.zero_le _)
    · -- one round
      rintro pre x W ⟨hi, hl, hk⟩ hSp
      have hlt : w.heap.size + 1 < W.heap.size := (Array.getElem?_eq_some_iff.1 hl).1
      have hy := run_yield (P := P) (args := encs pre x) hl (by rw [hrec]; exact hps pre x)
      rw [hrec] at hy
      refine ⟨fn, _, assign, body, hy, roundIn_of_wpIn hfn (wpIn_mono (hround _ pre x W hi (by omega) hSp) ?_)⟩
      clear hy
      rintro ea a' Wa hq
      cases ea with
      | normal => ?_
      | ret => exact hq.elim
      | exit id => exact hq.elim
      | goto t => exact hq.elim
      | panic c => exact hq.elim
      | outgrown => exact hq.elim
      obtain ⟨h2a, hkpa, hbody⟩ := hq
      replace hl := h2a.b.trans hl
      replace hk := h2a.a.trans hk
      replace hlt : w.heap.size + 1 < Wa.heap.size := (Array.getElem?_eq_some_iff.1 hl).1
      refine ⟨_, run_beginRound hl (by rw [hrec]), ?_⟩
      have hl2 : (Wa.putObj (w.heap.size + 1) (.loop { rec .ready none with state := .busy })).heap[w.heap.size + 1]? = some (.loop { rec .ready none with state := .busy }) := World.putObj_heap_same hlt
      have hk2 : (Wa.putObj (w.heap.size + 1) (.loop { rec .ready none with state := .busy })).heap[w.heap.size]? = some (.deferred (some [])) := (World.putObj_heap_other (by omega)).trans hk
      have hw2 : Kp Wa (Wa.putObj (w.heap.size + 1) (.loop { rec .ready none with state := .busy })) := hKb _ _
      refine wpIn_mono (hbody _ (Put1.putObj _ _ _) ⟨_, hl2⟩) ?_
      have fin : ∀ (jump : Option Code) (W3 : World), Same2 w.heap.size (Wa.putObj (w.heap.size + 1) (.loop { rec .ready none with state := .busy })) W3 →
          (Instr.endRound (w.heap.size + 1) jump).run P W3 = .ok (.bool jump.isNone) (W3.putObj (w.heap.size + 1) (.loop (rec (if jump.isNone then .ready else .done) jump))) ∧
          (W3.putObj (w.heap.size + 1) (.loop (rec (if jump.isNone then .ready else .done) jump))).heap[w.heap.size + 1]? = some (.loop (rec (if jump.isNone then .ready else .done) jump)) ∧
          (W3.putObj (w.heap.size + 1) (.loop (rec (if jump.isNone then .ready else .done) jump))).heap[w.heap.size]? = some (.deferred (some [])) := fun jump W3 hk3 => by
        have hl3 := hk3.b.trans hl2
        have := run_endRound (P := P) jump hl3
        rw [hrec] at this ⊢
        exact ⟨this, World.putObj_heap_same (Array.getElem?_eq_some_iff.1 hl3).1, (World.putObj_heap_other (by omega)).trans (hk3.a.trans hk2)⟩
      rintro e a3 W3 hp
      cases e with
      | normal =>
        obtain ⟨hk3, hkp3, hi3⟩ := hp
        obtain ⟨hr, hl4, hk4⟩ := fin none W3 hk3
        exact ⟨_, _, hr, .inl ⟨rfl, ⟨hIb _ _ _ hi3, hl4, hk4⟩, hKt hkpa (hKt (hKt hw2 hkp3) (hKb _ _))⟩⟩
      | ret =>
        obtain ⟨hk3, hkp3, hi3⟩ := hp
        obtain ⟨hr, hl4, hk4⟩ := fin (some .ret) W3 hk3
        exact ⟨_, _, hr, .inr ⟨rfl, ⟨.ret, hIxb _ _ _ _ hi3, hl4, hk4⟩, hKt hkpa (hKt (hKt hw2 hkp3) (hKb _ _))⟩⟩
      | exit id =>
        obtain ⟨hk3, hkp3, hi3⟩ := hp
        obtain ⟨hr, hl4, hk4⟩ := fin (some (.exit id)) W3 hk3
        exact ⟨_, _, hr, .inr ⟨rfl, ⟨.exit id, hIxb _ _ _ _ hi3, hl4, hk4⟩, hKt hkpa (hKt (hKt hw2 hkp3) (hKb _ _))⟩⟩
      | goto t =>
        obtain ⟨hk3, hkp3, hi3⟩ := hp
        obtain ⟨hr, hl4, hk4⟩ := fin (some (.goto t)) W3 hk3
        exact ⟨_, _, hr, .inr ⟨rfl, ⟨.goto t, hIxb _ _ _ _ hi3, hl4, hk4⟩, hKt hkpa (hKt (hKt hw2 hkp3) (hKb _ _))⟩⟩
      | panic ch => exact hp.elim
      | outgrown => exact hp.elim
    · -- behind the iterator
      rintro e W2 ⟨⟨v, rfl⟩, (⟨xs, hS, hi, hl, hk⟩ | ⟨pre, hSp, c, hi, hl, hk⟩)⟩
      · exact ⟨none, _, by have := run_endLoop (P := P) hl (by rw [hrec]; simp); rw [hrec] at this; exact this, hdone xs _ hS (hIb _ _ _ hi) ((World.putObj_heap_other (by omega)).trans hk)⟩
      · exact ⟨some c, _, by have := run_endLoop (P := P) hl (by rw [hrec]; simp); rw [hrec] at this; exact this, hstop c pre _ hSp (hIxb _ _ _ _ hi) ((World.putObj_heap_other (by omega)).trans hk)⟩

end Go.Proofs.YtldhbjmillfjgabGreatDoor

namespace Go.Proofs
open Go.Shelf
def Tryz.lays120_ren : Go.Shelf.Ren := ⟨fun | 120 => 137 | n => n, fun | 5 => 5 | 4 => 4 | n => n, fun | n => n⟩
theorem Tryz.lays120 : Go.Proofs.Lays.n120 Tryz.prog Tryz.lays120_ren := {
  mixed := by kernel_rfl
  f120 := Tryz.func137.trans (congrArg some (by kernel_rfl))
  t4 := Tryz.underlying4
  a4 := Tryz.isAgg4
  z4 := Tryz.sizeOf4
  v4 := Tryz.zeroValue4
  t5 := Tryz.underlying5
  a5 := Tryz.isAgg5
  z5 := Tryz.sizeOf5
  v5 := Tryz.zeroValue5 }
theorem Tryz.utf8_RuneStart (b : Int) (w : World) (h0 : 0 ≤ b) (h1 : b < 256) :
    Calls Tryz.prog 137 #[.int .u8 b] w fun e w' => e = .returned (.bool (Lib.runeStart b)) ∧ w' = w := Any.utf8_RuneStart Tryz.lays120 b w h0 h1
end Go.Proofs

namespace Go.Proofs.YtldhbjmillfjgabGreatDoor
open Go.RowKit
set_option linter.unusedVariables false
attribute [local go_sem] Oper.semAt_some

theorem pieces_any (s : ByteArray) (w : World) : Calls Tryz.prog 114 #[.string s] w fun e w' => e = .returned (.func (.func 160) #[] #[.pointer (some ⟨w.heap.size, 0, none⟩)]) ∧ w' = w.alloc (.cells #[.string s] 9) := by
  go_enter Tryz.func114, Tryz.ntmps114
  go_wp2
  go_ret
  exact ⟨rfl, rfl⟩

/-- How long the text in a variable is. -/
def leftAt (sb : Nat) (w : World) : Nat := match w.cell? ⟨sb, 0, none⟩ with | some (.string s) => s.size | _ => 0
theorem leftAt_eq {sb : Nat} {w : World} {s : ByteArray} (h : w.cell? ⟨sb, 0, none⟩ = some (.string s)) : leftAt sb w = s.size := by unfold leftAt; rw [h]

set_option maxRecDepth 100000 in
set_option maxHeartbeats 2000000 in
theorem pieces_seq (rs : List Nat) (hr : ∀ r ∈ rs, isRune r) (hz : (encs rs).length < 1000000000) (Z : World → Prop) (sb : Nat) (W : World) (hsb : W.cell? ⟨sb, 0, none⟩ = some (.string (bytesOf rs))) (hfz : W.frozen? ⟨sb, 0, none⟩ = false) :
    SeqOwn Tryz.prog 160 #[.pointer (some ⟨sb, 0, none⟩)] (fun _ (x : List Nat) => #[.string (bytesOf x)]) (fun A B => (∃ v, B = A.setCell ⟨sb, 0, none⟩ v) ∧ W.heap.size ≤ A.heap.size) (fun A B => A.heap.size ≤ B.heap.size ∧ B.heap[sb]? = A.heap[sb]?) Z
      (fun xs => xs.flatten = rs ∧ ∀ x ∈ xs, okChunk x) (fun pre => (∃ rest, rs = pre.flatten ++ rest) ∧ ∀ x ∈ pre, okChunk x) W := by
  intro l J Jx hZ hZx hJ hJx hR hj0
  have hlt := World.block_lt_of_cell? W _ hsb
  refine callsIn_of_wp Tryz.func160 rfl trivial ?_ rfl
  simp only [Tryz.ntmps160, List.size_toArray, List.length_cons, List.length_nil, Nat.reduceAdd, Nat.reduceSub, Array.replicate_succ, Array.replicate_zero, List.push_toArray, List.append_toArray, List.nil_append, List.cons_append]
  gi_wp2
  gi_loopw [3] (fun p wr => ∃ (pre : List (List Nat)) (rest : List Nat), rs = pre.flatten ++ rest ∧ (∀ x ∈ pre, okChunk x) ∧ wr.cell? ⟨sb, 0, none⟩ = some (.string (bytesOf rest)) ∧ wr.frozen? ⟨sb, 0, none⟩ = false ∧ W.heap.size ≤ wr.heap.size ∧ J pre wr) (fun p wr => leftAt sb wr)
  case atStart => exact ⟨[], rs, rfl, (fun _ h => by cases h), hsb, hfz, Nat.le_refl _, hj0⟩
  case round =>
    obtain ⟨pre, rest, hrs, hok, hc, hf, hs, hjp⟩ := hrel
    by_cases hne : rest = []
    · subst hne
      have e0 : (bytesOf []).size = 0 := rfl
      have e1 : Hid (pre.flatten = rs) := by show _ = _; rw [hrs]; simp
      clear hrs
      generalize bytesOf [] = S at *
      gi_wp2
      go_end0
      exact ⟨⟨_, rfl⟩, .inl ⟨pre, ⟨e1.out, hok⟩, hjp⟩⟩
    · have hrr : ∀ r ∈ rest, isRune r := fun r h => hr r (by rw [hrs]; simp [h])
      obtain ⟨f, f1, f4, fe, fl⟩ := first_len hrr hne
      have hlen : (encs rest).length ≤ (encs rs).length := by rw [hrs, encs_append, List.length_append]; omega
      have hSl : (bytesOf rest).data.toList = encs rest := rfl
      have hcut := fun (j : Nat) (h : edgeAt rest j) (h0 : 0 < j) (h32 : j ≤ 32) => cut_at hrr h h0 h32
      have hst := fun (j : Nat) (b : UInt8) (h : (encs rest)[j]? = some b) (hb : startB b = true) => edgeAt_of_start hrr h hb
      have hst2 := fun (j : Nat) (b : UInt8) (h : edgeAt rest j) (hb : (encs rest)[j]? = some b) => start_of_edgeAt hrr h hb
      rw [← bytesOf_size] at fl hlen
      have HCUT : Hid _ := hcut
      have HST : Hid _ := hst
      have HST2 : Hid _ := hst2
      have HFE : Hid (edgeAt rest f) := fe
      have HEND : Hid (edgeAt rest (bytesOf rest).size) := by show edgeAt _ _; rw [bytesOf_size]; exact edgeAt_end rest
      have HSL : Hid ((bytesOf rest).data.toList = encs rest) := hSl
      have HRS : Hid (rs = pre.flatten ++ rest) := hrs
      obtain ⟨n, hn⟩ : ∃ n, n = (bytesOf rest).size := ⟨_, rfl⟩
      have hn1 : 1 ≤ n := by omega
      have hn2 : n < 1000000000 := by omega
      have hpos : 0 < n := hn1
      clear hcut hst hst2 fe hSl hrs hr hrr
      obtain ⟨S, hS⟩ : ∃ S, S = bytesOf rest := ⟨_, rfl⟩
      rw [← hS] at hc hn fl HEND HSL HCUT
      rw [← hn] at fl HEND HCUT
      have HS : Hid (S = bytesOf rest) := hS
      have HN : Hid (n = S.size) := hn
      have hn' : S.size = n := hn.symm
      clear hS hn hlen hz
      gi_wp2
      gi_loop [3] (fun p => ∃ j : Nat, p = .int .i64 j ∧ f ≤ j ∧ j ≤ n ∧ j ≤ 32) (fun p => (intOf p).toNat)
      case atStart => exact ⟨min n 32, by rw [show ((min n 32 : Nat) : Int) = min (n : Int) 32 by omega], by omega, by omega, by omega⟩
      case round =>
        obtain ⟨j, rfl, hj1, hj2, hj3⟩ := hrel
        by_cases hlt2 : j < n
        · have hjS : j < S.size := by rw [hn']; exact hlt2
          have hb? : (encs rest)[j]? = some S[j] := by rw [← HSL.out, Array.getElem?_toList, Array.getElem?_eq_getElem (by simpa using hjS)]; rfl
          have cR := fun wx => Tryz.utf8_RuneStart (S[j].toNat : Int) wx (by omega) (by have := S[j].toNat_lt; omega)
          by_cases hb : startB S[j] = true
          · have hedge := HST.out j _ hb? hb
            have hb' : Lib.runeStart (S[j].toNat : Int) = true := hb
            rw [hb'] at cR
            clear hb hb' hb?
            obtain ⟨x, y, hxy, hx, hc1, hc2, hyl⟩ := HCUT.out j hedge (by omega) hj3
            have hSp : (∃ rest', rs = (pre ++ [x]).flatten ++ rest') ∧ ∀ z ∈ pre ++ [x], okChunk z := ⟨⟨y, by rw [HRS.out, hxy]; simp⟩, fun z hz => by rcases List.mem_append.1 hz with hz | hz; exact hok z hz; rw [List.mem_singleton] at hz; subst hz; exact hx⟩
            have HY : Hid (rs = (pre ++ [x]).flatten ++ y) := by show _ = _; rw [HRS.out, hxy]; simp
            have HYL : Hid ((bytesOf y).size < n) := by
              show _ < _
              rw [bytesOf_size]
              have e1 := HN.out
              rw [HS.out, bytesOf_size] at e1
              omega
            obtain ⟨fn, tmps, assign, body, hyy, hRd⟩ := hR pre x wr hjp hSp
            have HSP : Hid _ := hSp
            rw [← hc1] at hyy
            clear hxy hx hSp hc1 hyl hedge
            gi_wp2_with (first | (refine ⟨rfl, ?_⟩; gi_at_call 137; refine (callsIn_wide.2 (cR _)).mono ?_; rintro e wx ⟨rfl, hwx⟩; obtain rfl := hwx.symm) | (refine ⟨trivial, ?_⟩))
            first | refine hRd.mono ?_ | refine ⟨rfl, hRd.mono ?_⟩
            rintro e A' (⟨rfl, hj', hk1, hk2⟩ | ⟨rfl, hjx', _⟩)
            · have hcA : A'.cell? ⟨sb, 0, none⟩ = some (.string S) := (World.cell?_of_block (w := wr) (a := ⟨sb, 0, none⟩) hk2).trans hc
              have hfA : A'.frozen? ⟨sb, 0, none⟩ = false := (World.frozen?_of_block (w := wr) (a := ⟨sb, 0, none⟩) hk2).trans hf
              have HC2 : Hid _ := hc2
              have hsA := Nat.le_trans hs hk1
              have HM : Hid (leftAt sb wr = n) := (leftAt_eq hc).trans hn'
              clear hc hf hk2 hyy hRd hjp hc2
              gi_wp2
              have hc9 : (A'.setCell ⟨sb, 0, none⟩ (.string (S.extract j n))).cell? ⟨sb, 0, none⟩ = some (.string (bytesOf y)) := by
                rw [HC2.out]
                exact World.cell?_setCell_same' _ _ _ (by rw [hcA]; rfl)
              go_roundw
              case rel => exact ⟨pre ++ [x], y, HY.out, HSP.out.2, hc9, (by rw [World.frozen?_setCell]; exact hfA), (by simpa [World.setCell] using hsA), hJ _ _ _ hj' ⟨⟨_, rfl⟩, hsA⟩⟩
              case measure =>
                show leftAt sb _ < leftAt sb _
                rw [HM.out, leftAt_eq hc9]
                exact HYL.out
            · gi_wp2
              refine bodyPost_ret (results_none rfl _ _ _) rfl ?_
              exact ⟨⟨_, rfl⟩, .inr ⟨pre ++ [x], HSP.out, hjx'⟩⟩
          · have hne2 : j ≠ f := fun e => hb (HST2.out j _ (e ▸ HFE.out) hb?)
            have hb' : Lib.runeStart (S[j].toNat : Int) = false := Bool.eq_false_iff.2 hb
            rw [hb'] at cR
            clear hb hb' hb?
            gi_wp2_with (first | (refine ⟨rfl, ?_⟩; gi_at_call 137; refine (callsIn_wide.2 (cR _)).mono ?_; rintro e wx ⟨rfl, hwx⟩; obtain rfl := hwx.symm) | (refine ⟨trivial, ?_⟩))
            go_round
            case rel => exact ⟨j - 1, by rw [show ((j - 1 : Nat) : Int) = (j : Int) - 1 by omega], by omega, by omega, by omega⟩
            case measure => simp [intOf]; omega
        · have hjn : n = j := by omega
          subst hjn
          have hedge : edgeAt rest n := HEND.out
          obtain ⟨x, y, hxy, hx, hc1, hc2, hyl⟩ := HCUT.out n hedge (by omega) hj3
          have hSp : (∃ rest', rs = (pre ++ [x]).flatten ++ rest') ∧ ∀ z ∈ pre ++ [x], okChunk z := ⟨⟨y, by rw [HRS.out, hxy]; simp⟩, fun z hz => by rcases List.mem_append.1 hz with hz | hz; exact hok z hz; rw [List.mem_singleton] at hz; subst hz; exact hx⟩
          have HY : Hid (rs = (pre ++ [x]).flatten ++ y) := by show _ = _; rw [HRS.out, hxy]; simp
          have HYL : Hid ((bytesOf y).size < n) := by
            show _ < _
            rw [bytesOf_size]
            have e1 := HN.out
            rw [HS.out, bytesOf_size] at e1
            omega
          obtain ⟨fn, tmps, assign, body, hyy, hRd⟩ := hR pre x wr hjp hSp
          have HSP : Hid _ := hSp
          rw [← hc1] at hyy
          clear hxy hx hSp hc1 hyl hedge
          gi_wp2_with (refine ⟨trivial, ?_⟩)
          first | refine hRd.mono ?_ | refine ⟨rfl, hRd.mono ?_⟩
          rintro e A' (⟨rfl, hj', hk1, hk2⟩ | ⟨rfl, hjx', _⟩)
          · have hcA : A'.cell? ⟨sb, 0, none⟩ = some (.string S) := (World.cell?_of_block (w := wr) (a := ⟨sb, 0, none⟩) hk2).trans hc
            have hfA : A'.frozen? ⟨sb, 0, none⟩ = false := (World.frozen?_of_block (w := wr) (a := ⟨sb, 0, none⟩) hk2).trans hf
            have HC2 : Hid (ByteArray.empty = bytesOf y) := by show _ = _; rw [← hc2]; simp
            have hsA := Nat.le_trans hs hk1
            have HM : Hid (leftAt sb wr = n) := (leftAt_eq hc).trans hn'
            clear hc hf hk2 hyy hRd hjp hc2
            gi_wp2
            have hc9 : (A'.setCell ⟨sb, 0, none⟩ (.string ByteArray.empty)).cell? ⟨sb, 0, none⟩ = some (.string (bytesOf y)) := by
              rw [HC2.out]
              exact World.cell?_setCell_same' _ _ _ (by rw [hcA]; rfl)
            go_roundw
            case rel => exact ⟨pre ++ [x], y, HY.out, HSP.out.2, hc9, (by rw [World.frozen?_setCell]; exact hfA), (by simpa [World.setCell] using hsA), hJ _ _ _ hj' ⟨⟨_, rfl⟩, hsA⟩⟩
            case measure =>
              show leftAt sb _ < leftAt sb _
              rw [HM.out, leftAt_eq hc9]
              exact HYL.out
          · gi_wp2
            refine bodyPost_ret (results_none rfl _ _ _) rfl ?_
            exact ⟨⟨_, rfl⟩, .inr ⟨pre ++ [x], HSP.out, hjx'⟩⟩
end Go.Proofs.YtldhbjmillfjgabGreatDoor

namespace Go.Proofs.YtldhbjmillfjgabGreatDoor
open Go.RowKit

section
variable {P : Program} {ops : Array Oper} {md : Region.Mode} {m l0 n : Nat} {Q : Exit → Act → World → Prop}

theorem uponR_of_ok {o : Oper} {a : Act} {K : Act → World → Prop} {r : Result Next} (hh : okUpon P o a K r) : o.uponIn (Fence.wide.inRound l0) n P a K Q r := by
  cases r with
  | ok x w =>
    cases x <;> simp only [okUpon] at hh <;> simp only [Oper.uponIn]
    case value => exact hh
    case skip => exact hh
    case enter => exact ⟨fun h => (by cases h), (CallsIn.inRound l0 (callsIn_wide.2 hh)).mono fun e w ⟨v, e1, e2⟩ => by subst e1; exact e2⟩
  | halt x w => simp only [okUpon] at hh

theorem anyR_of_anyG (hnd : ∀ (i : Nat) (o : Oper), ops[i]? = some o → ∀ c, o.op ≠ .defer c) : ∀ (fuel : Nat) (listed : Array Bool) (a : Act) (w : World), anyG P md ops m Q fuel listed a w → wpAnyIn (Fence.wide.inRound l0) n P md ops Q fuel listed a w
  | 0, _, _, w, h => ⟨h.1, h.2 w (Below.refl _ _)⟩
  | fuel + 1, listed, a, w, h => ⟨fun h0 => h.1 h0 w (Below.refl _ _), fun i hi => by
      have h1 := h.2 i hi w (Below.refl _ _)
      have h2 := opG_mono (fun a' w'' hh => anyR_of_anyG hnd fuel _ a' w'' hh.2) h1
      unfold opG at h2
      unfold wpOpIn
      split
      · rename_i ho; simp only [ho] at h2; exact h2
      · rename_i o ho
        simp only [ho] at h2
        split
        · rename_i hw
          simp only [hw, if_true] at h2
          unfold Oper.wpIn
          refine ⟨fun _ _ => trivial, ?_⟩
          rw [Fence.inRound_round, Oper.semAt_some _ _ _ (hnd i o ho)]
          exact uponR_of_ok h2
        · rename_i hw; simp only [hw] at h2; exact ⟨fun _ _ => trivial, h2⟩⟩
end

theorem wpR_region_rel {P : Program} {Q : Exit → Act → World → Prop} {id l0 k : Nat} {a : Act} {w : World} {l : List Oper} (m n : Nat) (hm : P.follows .mixedOrders = true) (hn : l.length = n) (hnd : noDefer l = true)
    (h : ∀ w', Below w.heap.size w w' → anyG P .any l.toArray m Q n (Array.replicate n false) a w') : (Code.region id l.toArray true).wpIn (Fence.wide.inRound l0) k P Q a w :=
  wpIn_region_any hm (anyR_of_anyG (fun i o hi => noDefer_at hnd i o (by simpa using hi)) _ _ _ _ (by subst hn; simpa using h { w with drawn := w.drawn + 1 } (Below.drew (Below.refl _ w))))
end Go.Proofs.YtldhbjmillfjgabGreatDoor

namespace Go.Proofs.YtldhbjmillfjgabGreatDoor
open Go.RowKit
set_option linter.unusedVariables false
attribute [local go_sem] Oper.semAt_some yieldsUpon okUpon

theorem okT_size : ∀ {l : List (List Nat)}, (∀ c ∈ l, okChunk c) → l.length ≤ l.flatten.length
  | [], _ => Nat.le_refl _
  | c :: l, h => by
    have h1 := (h c (List.mem_cons.2 (.inl rfl))).1
    have h2 := okT_size fun x hx => h x (List.mem_cons.2 (.inr hx))
    have : 1 ≤ c.length := by cases c with | nil => exact absurd rfl h1 | cons _ _ => simp
    rw [List.flatten_cons, List.length_append, List.length_cons]
    omega
theorem okT_big {t : T} (h : okT t) (hz : C1 t.runes ≤ 100000000) : big t := by
  refine ⟨by omega, ?_⟩
  have h1 := okT_size h.2
  have h3 := (C3_le t.runes).2
  unfold C3 at h3
  rw [size_chunks]
  rw [← runes_chunks] at h1
  omega

theorem big_put {t : T} {x : List Nat} (h : okT t) (hx : okChunk x) (hz : C1 (t.runes ++ x) ≤ 100000000) : big (.node t x .nil) := by
  have e : (T.node t x .nil).runes = t.runes ++ x := by simp [T.runes]
  have h1 := okT_size (l := t.chunks ++ [x]) fun c hc => (List.mem_append.1 hc).elim (h.2 c) fun hc => by rw [List.mem_singleton] at hc; rw [hc]; exact hx
  have h3 := (C3_le (t.runes ++ x)).2
  unfold C3 at h3
  rw [List.flatten_append, ← runes_chunks, List.length_append, List.length_append, List.length_singleton] at h1
  simp only [List.flatten_cons, List.flatten_nil, List.append_nil] at h1
  rw [List.length_append] at h3
  refine ⟨by rw [e]; omega, ?_⟩
  simp only [T.size]
  rw [size_chunks]
  omega

theorem chain_nil (q : Option Addr) (w : World) : Calls Tryz.prog 117 #[.pointer q, .pointer none] w fun e w' => e = .returned (.pointer q) ∧ w' = w := by
  go_enter Tryz.func117, Tryz.ntmps117
  go_wp2
  go_ret
  exact ⟨rfl, rfl⟩

/-- The tree that grows, in its variable. -/
def grows (w W : World) (L sb R : Nat) (rs : List Nat) : Prop :=
  Below w.heap.size w W ∧ (∃ q t, W.cell? ⟨L, 0, none⟩ = some (.pointer q) ∧ W.frozen? ⟨L, 0, none⟩ = false ∧ isTree W q t ∧ okT t ∧ t.runes = rs) ∧ W.cell? ⟨sb, 5, none⟩ = none ∧ W.cell? ⟨R, 5, none⟩ = none ∧ W.cell? ⟨L, 5, none⟩ = none ∧ R < W.heap.size

theorem But.putObj (B : Nat) (A : World) (o : Obj) : But B A (A.putObj B o) := ⟨rfl, rfl, rfl, by simp, fun k _ h => World.putObj_heap_other h⟩
theorem But.frozen {B : Nat} {A A' : World} (h : But B A A') {b o : Nat} (hl : b < A.heap.size) (hb : b ≠ B) : A'.frozen? ⟨b, o, none⟩ = A.frozen? ⟨b, o, none⟩ :=
  World.frozen?_of_block (w := A) (a := ⟨b, o, none⟩) (h.block b hl hb)
theorem But.cellEq {B : Nat} {A A' : World} (h : But B A A') {b o : Nat} (hl : b < A.heap.size) (hb : b ≠ B) : A'.cell? ⟨b, o, none⟩ = A.cell? ⟨b, o, none⟩ :=
  World.cell?_of_block (w := A) (a := ⟨b, o, none⟩) (h.block b hl hb)
theorem none_loop {W : World} {k : Nat} {r : Loop} (h : W.heap[k]? = some (.loop r)) (o : Nat) : W.cell? ⟨k, o, none⟩ = none := by unfold World.cell?; simp [h]

theorem cellOn {A B : World} {b : Nat} (h : B.heap[b]? = A.heap[b]?) (o : Nat) : B.cell? ⟨b, o, none⟩ = A.cell? ⟨b, o, none⟩ := World.cell?_of_block (w := A) (a := ⟨b, o, none⟩) h
theorem frozenOn {A B : World} {b : Nat} (h : B.heap[b]? = A.heap[b]?) (o : Nat) : B.frozen? ⟨b, o, none⟩ = A.frozen? ⟨b, o, none⟩ := World.frozen?_of_block (w := A) (a := ⟨b, o, none⟩) h

theorem grows_put {w W w5 w6 : World} {q : Option Addr} {v : Value} {t : T} {rs : List Nat} (hW : Below w.heap.size w W) (hs : w.heap.size + 6 ≤ W.heap.size) (k1 : W.cell? ⟨w.heap.size, 0, none⟩ = some v) (k2 : W.frozen? ⟨w.heap.size, 0, none⟩ = false)
    (k6 : W.cell? ⟨w.heap.size + 3, 5, none⟩ = none) (k7 : W.cell? ⟨w.heap.size + 5, 5, none⟩ = none) (k8 : W.cell? ⟨w.heap.size, 5, none⟩ = none) (h5 : Below W.heap.size W w5) (ht : isTree w5 q t) (ho : okT t) (hr : t.runes = rs)
    (h6 : Below w5.heap.size (w5.setCell ⟨w.heap.size, 0, none⟩ (.pointer q)) w6) :
    Same2 (w.heap.size + 4) W w6 ∧ (W.heap.size ≤ w6.heap.size ∧ w6.heap[w.heap.size + 3]? = W.heap[w.heap.size + 3]?) ∧ grows w w6 w.heap.size (w.heap.size + 3) (w.heap.size + 5) rs := by
  have hB : But w.heap.size w5 (w5.setCell ⟨w.heap.size, 0, none⟩ (.pointer q)) := But.setCell (But.refl _ w5) (p := ⟨w.heap.size, 0, none⟩) rfl _
  have hsz : (w5.setCell ⟨w.heap.size, 0, none⟩ (.pointer q)).heap.size = w5.heap.size := by simp [World.setCell]
  have s5 := h5.size
  have s6 := h6.size
  have blk : ∀ k, k ≠ w.heap.size → k < W.heap.size → w6.heap[k]? = W.heap[k]? := fun k h1 h2 => (h6.block k (by omega)).trans ((hB.block k (by omega) h1).trans (h5.block k h2))
  have c1 : w5.cell? ⟨w.heap.size, 0, none⟩ = some v := (World.cell?_of_block (w := W) (a := ⟨w.heap.size, 0, none⟩) (h5.block w.heap.size (by omega))).trans k1
  have c5 : w5.cell? ⟨w.heap.size, 5, none⟩ = none := (World.cell?_of_block (w := W) (a := ⟨w.heap.size, 5, none⟩) (h5.block w.heap.size (by omega))).trans k8
  refine ⟨⟨blk _ (by omega) (by omega), blk _ (by omega) (by omega)⟩, ⟨by omega, blk _ (by omega) (by omega)⟩, ?_, ⟨q, t, ?_, ?_, isTree_below (by rw [hsz]; exact h6) (isTree_but hB c5 ht), ho, hr⟩, ?_, ?_, ?_, by omega⟩
  · exact hW.trans ((h5.mono (by omega)).trans ((hB.below (by omega)).trans (h6.mono (by omega))))
  · exact (cellOn (h6.block w.heap.size (by omega)) 0).trans (World.cell?_setCell_same' _ _ _ (by rw [c1]; rfl))
  · exact (frozenOn (h6.block w.heap.size (by omega)) 0).trans ((World.frozen?_setCell _ _ _ _).trans ((frozenOn (h5.block w.heap.size (by omega)) 0).trans k2))
  · exact (cellOn (blk (w.heap.size + 3) (by omega) (by omega)) 5).trans k6
  · exact (cellOn (blk (w.heap.size + 5) (by omega) (by omega)) 5).trans k7
  · exact (cellOn (h6.block w.heap.size (by omega)) 5).trans ((World.cell?_setCell_other (w := w5) ⟨w.heap.size, 0, none⟩ ⟨w.heap.size, 5, none⟩ _ (by simp)).trans c5)

set_option maxRecDepth 100000 in
set_option maxHeartbeats 2000000 in
theorem between_new (rs : List Nat) (hr : ∀ r ∈ rs, isRune r) (hz : (encs rs).length ≤ 100000000) (w : World) (hT : Lib.Utf8Tabs 2 3 w) :
    Calls Tryz.prog 60 #[.pointer none, .string (bytesOf rs), .pointer none] w fun e w' => ∃ q t, e = .returned (.pointer q) ∧ isTree w' q t ∧ okT t ∧ t.runes = rs ∧ Below w.heap.size w w' := by
  have hsz : (bytesOf rs).size ≤ 100000000 := by rw [bytesOf_size]; exact hz
  have hcat : ({ data := #[] } : ByteArray) ++ bytesOf rs ++ { data := #[] } = bytesOf rs := by apply ByteArray.ext; simp [ByteArray.data_append]
  have cP := fun wx => pieces_any (bytesOf rs) wx
  have HZ : Hid _ := hz
  have HR : Hid _ := hr
  clear hz hr
  have hB0 : Below w.heap.size w w := Below.refl _ w
  refine (callsIn_wide (n := 3)).1 ?_
  refine callsIn_of_wp_marks Tryz.func60 rfl trivial ?_ rfl
  simp only [Tryz.ntmps60, List.size_toArray, List.length_cons, List.length_nil, Nat.reduceAdd, Nat.reduceSub, Array.replicate_succ, Array.replicate_zero, List.push_toArray, List.append_toArray, List.nil_append, List.cons_append]
  gi_wp2_with (first
    | (refine ⟨trivial, ?_⟩; gi_at_call 114; refine (callsIn_wide.2 (cP _)).mono ?_; rintro e w13 ⟨rfl, rfl⟩)
    | fail)
  obtain ⟨W4, hW4⟩ : ∃ W4, W4 = (((w.alloc (Obj.cells #[Value.pointer none] 119)).alloc (Obj.cells #[Value.string { data := #[] }, Value.int IntKind.i64 0, Value.int IntKind.i64 0, Value.int IntKind.i64 0, Value.int IntKind.i64 0] 194)).alloc (Obj.cells #[Value.string { data := #[] }, Value.int IntKind.i64 0, Value.int IntKind.i64 0, Value.int IntKind.i64 0, Value.int IntKind.i64 0] 194)).alloc (.cells #[.string (bytesOf rs)] 9) := ⟨_, rfl⟩
  have hb4 : Below w.heap.size w W4 := by rw [hW4]; exact ((((Below.refl _ w).alloc (Nat.le_refl _) _).alloc (by simp) _).alloc (by simp; omega) _).alloc (by simp; omega) _
  have hs4 : W4.heap.size = w.heap.size + 4 := by rw [hW4]; simp
  have cl : W4.cell? ⟨w.heap.size, 0, none⟩ = some (.pointer none) := by rw [hW4]; simp [go_sem]
  have fl : W4.frozen? ⟨w.heap.size, 0, none⟩ = false := by rw [hW4]; simp [go_sem]
  have cl5 : W4.cell? ⟨w.heap.size, 5, none⟩ = none := by rw [hW4]; simp [go_sem]
  have cs : W4.cell? ⟨w.heap.size + 3, 0, none⟩ = some (.string (bytesOf rs)) := by rw [hW4]; simp [go_sem]
  have fs : W4.frozen? ⟨w.heap.size + 3, 0, none⟩ = false := by rw [hW4]; simp [go_sem]
  have cs5 : W4.cell? ⟨w.heap.size + 3, 5, none⟩ = none := by rw [hW4]; simp [go_sem]
  rw [← hW4]
  clear hW4 hcat cP
  refine wp_range_own (gf := 160) (lb := #[.pointer (some ⟨w.heap.size + 3, 0, none⟩)]) rfl (enters_of Tryz.func160 (by kernel_rfl) rfl) (encs := fun _ (x : List Nat) => #[.string (bytesOf x)]) (fun _ _ => rfl)
    (It := fun A B => (∃ v, B = A.setCell ⟨w.heap.size + 3, 0, none⟩ v) ∧ w.heap.size + 6 ≤ A.heap.size) (Kp := fun A B => A.heap.size ≤ B.heap.size ∧ B.heap[w.heap.size + 3]? = A.heap[w.heap.size + 3]?) (Z := fun _ => True) (S := fun xs => xs.flatten = rs ∧ ∀ x ∈ xs, okChunk x) (Sp := fun pre => (∃ rest, rs = pre.flatten ++ rest) ∧ ∀ x ∈ pre, okChunk x)
    ?seq ?its (fun h k => ⟨Nat.le_trans h.1 k.1, k.2.trans h.2⟩) ?hkb
    (fun pre W => grows w W w.heap.size (w.heap.size + 3) (w.heap.size + 5) pre.flatten) (fun _ _ _ => False) (fun _ _ _ => trivial) (fun _ _ _ h => h.elim) ?ii ?ib (fun _ _ _ _ h _ => h) (fun _ _ _ _ h => h) ?h0 ?round ?done (fun _ _ _ _ h => h.elim)
  case seq =>
    intro W hs1 hb1
    rw [hs4] at hs1 hb1
    have := pieces_seq rs HR.out (by have := HZ.out; omega) (fun _ => True) (w.heap.size + 3) W ((hb1.cell (p := ⟨w.heap.size + 3, 0, none⟩) (by show w.heap.size + 3 < _; omega)).trans cs) ((hb1.frozen (p := ⟨w.heap.size + 3, 0, none⟩) (by show w.heap.size + 3 < _; omega)).trans fs)
    rw [hs1] at this
    exact this
  case its =>
    rintro A B ⟨⟨v, rfl⟩, h⟩
    rw [hs4]
    exact (Same2.refl _ A).setCell (by show w.heap.size + 3 ≠ _; omega) (by show w.heap.size + 3 ≠ _; omega) v
  case hkb =>
    intro A r
    rw [hs4]
    exact ⟨by simp, World.putObj_heap_other (by omega)⟩
  case ii =>
    rintro pre A B ⟨hb, ⟨q, t, h1, h2, h3, h4, h5⟩, h6, h7, h8, h9⟩ ⟨⟨v, rfl⟩, hA⟩
    have hB : But (w.heap.size + 3) A (A.setCell ⟨w.heap.size + 3, 0, none⟩ v) := But.setCell (But.refl _ A) (p := ⟨w.heap.size + 3, 0, none⟩) rfl v
    exact ⟨hb.setCell (by show w.heap.size ≤ w.heap.size + 3; omega) v, ⟨q, t, hB.cell (by omega) h1, (hB.frozen (by omega) (by omega)).trans h2, isTree_but hB h6 h3, h4, h5⟩, ((World.cell?_setCell_other (w := A) ⟨w.heap.size + 3, 0, none⟩ ⟨w.heap.size + 3, 5, none⟩ v (by simp)).trans h6), (hB.cellEq (by omega) (by omega)).trans h7, (hB.cellEq (by omega) (by omega)).trans h8, by simpa [World.setCell] using h9⟩
  case ib =>
    rintro pre A r ⟨hb, ⟨q, t, h1, h2, h3, h4, h5⟩, h6, h7, h8, h9⟩
    rw [hs4]
    have hB := But.putObj (w.heap.size + 5) A (.loop r)
    exact ⟨hb.trans (hB.below (by omega) |>.mono (by omega)), ⟨q, t, hB.cell (by omega) h1, (hB.frozen (by omega) (by omega)).trans h2, isTree_but hB h7 h3, h4, h5⟩, (hB.cellEq (by omega) (by omega)).trans h6, none_loop (World.putObj_heap_same h9) 5, (hB.cellEq (by omega) (by omega)).trans h8, by simpa using h9⟩
  case h0 =>
    rintro W hs hb ⟨r, hr⟩
    rw [hs4] at hs hb hr
    exact ⟨hb4.trans (hb.mono (by omega)), ⟨none, .nil, (hb.cell (p := ⟨w.heap.size, 0, none⟩) (by show w.heap.size < _; omega)).trans cl, (hb.frozen (p := ⟨w.heap.size, 0, none⟩) (by show w.heap.size < _; omega)).trans fl, rfl, okT_nil, rfl⟩, (hb.cell (p := ⟨w.heap.size + 3, 5, none⟩) (by show w.heap.size + 3 < _; omega)).trans cs5, none_loop hr 5, (hb.cell (p := ⟨w.heap.size, 5, none⟩) (by show w.heap.size < _; omega)).trans cl5, by omega⟩
  case round =>
    rintro l pre x W hI hlW hSp
    rw [hs4] at hlW ⊢
    obtain ⟨hb, ⟨q, t, h1, h2, h3, h4, h5⟩, h6, h7, h8, h9⟩ := hI
    obtain ⟨⟨rest, hrs⟩, hxo⟩ := hSp
    have hx : okChunk x := hxo x (by simp)
    have HX : Hid (okChunk x) := hx
    have HL : Hid (C1 (pre.flatten ++ x) ≤ 100000000) := by
      show _ ≤ _
      have := HZ.out
      rw [hrs, encs_append, List.length_append] at this
      rw [C1_len]
      simp only [List.flatten_append, List.flatten_cons, List.flatten_nil, List.append_nil] at this
      omega
    have HBG : Hid (big (.node t x .nil)) := big_put h4 hx (by rw [h5]; exact HL.out)
    clear hrs hxo hx
    gi_wp2
    refine ⟨Same2.refl _ W, ⟨Nat.le_refl _, trivial⟩, ?_⟩
    intro w2 hp ⟨r, hr⟩
    have hw2 : Below w.heap.size w w2 := hb.trans ((hp.below (Nat.le_refl _)).mono (by omega))
    have hs2 : w.heap.size + 6 ≤ w2.heap.size := by rw [hp.size]; exact hlW
    have k1 := (hp.cell (b := w.heap.size) (o := 0) (by omega)).trans h1
    have k2 := (hp.frozen (b := w.heap.size) (o := 0) (by omega)).trans h2
    have k6 := (hp.cell (b := w.heap.size + 3) (o := 5) (by omega)).trans h6
    have k8 := (hp.cell (b := w.heap.size) (o := 5) (by omega)).trans h8
    have k7 := none_loop hr 5
    have k3 : isTree w2 q t := isTree_but (B := w.heap.size + 5) ⟨hp.os, hp.tape, hp.output, Nat.le_of_eq hp.size.symm, fun k _ hk => hp.block k hk⟩ h7 h3
    have HT : Hid (isTree w2 q t) := k3
    have HO : Hid (okT t) := h4
    have HR5 : Hid (t.runes = pre.flatten) := h5
    have cK := fun wx (hbx : Below w.heap.size w wx) => chunkOf_any x HX.out.2.2 (by have := HL.out; rw [C1_append] at this; have := C1_len pre.flatten; have := C1_len x; omega) wx (Go.Proofs.Utf8Tabs_below hT hbx)
    clear h1 h2 h3 h4 h5 h6 h7 h8 h9 k3 hb hp hr
    gi_wp2
    refine wpR_region_rel 4 5 (by kernel_rfl) rfl (by kernel_rfl) ?_
    intro w3 hb3
    obtain ⟨G, hG⟩ := exists_growth w3
    have hw3 : Below w.heap.size w w3 := hw2.trans (hb3.mono (by omega))
    have k1G : ∀ x, (G x).cell? ⟨w.heap.size, 0, none⟩ = some (.pointer q) := hG.cell ((hb3.cell (p := ⟨w.heap.size, 0, none⟩) (by show w.heap.size < _; omega)).trans k1)
    have cKG := fun x => (cK (G x) (hw3.trans ((hG.below x).mono hw3.size)))
    have k1' := k1
    clear k1
    (refine anyG_step hG (i := 0) rfl (by kernel_rfl) (by kernel_rfl) (by kernel_rfl) (fun K hK => ?_); go_simp; refine hK _ ?_; clear hK K)
    (refine anyG_step hG (i := 1) rfl (by kernel_rfl) (by kernel_rfl) (by kernel_rfl) (fun K hK => ?_); go_simp; refine hK _ ?_; clear hK K)
    (refine anyG_step hG (i := 2) rfl (by kernel_rfl) (by kernel_rfl) (by kernel_rfl) (fun K hK => ?_); go_simp; apply Exists.intro; refine ⟨fun _ => ?_, hK _ ?_⟩; exact cKG _; clear hK K)
    clear k1G cKG hG
    have HTT : Hid (Lib.Utf8Tabs 2 3 w) := hT
    clear hT
    refine anyG_one (i := 3) rfl (by kernel_rfl) ?_
    intro w4 hb4 K hK
    have hb24 : Below w2.heap.size w2 w4 := hb3.trans (hb4.mono hb3.size)
    have ck := add_any q t x w4 (Go.Proofs.Utf8Tabs_below HTT.out (hw2.trans (hb24.mono (by omega)))) (isTree_below hb24 HT.out) HBG.out HO.out HX.out
    go_simp
    refine ck.mono ?_
    rintro e w5 ⟨q5, t5, rfl, ht5, ha5, hb5⟩
    refine ⟨_, rfl, hK _ _ hb5 ?_⟩
    clear hK K ck
    have hb25 : Below w2.heap.size w2 w5 := hb24.trans (hb5.mono hb24.size)
    have HT5 : Hid _ := ht5
    have HA5 : Hid _ := ha5
    clear ht5 ha5 hb3 hb4 hb5 hb24 hw3
    refine anyG_late (i := 4) rfl (by kernel_rfl) (by kernel_rfl) ?_
    intro w6 hb6 K hK
    have c6 : w6.cell? ⟨w.heap.size, 0, none⟩ = some (.pointer q) := (hb6.cell (p := ⟨w.heap.size, 0, none⟩) (by have := hb25.size; show w.heap.size < _; omega)).trans ((hb25.cell (p := ⟨w.heap.size, 0, none⟩) (by show w.heap.size < _; omega)).trans k1')
    have f6 : w6.frozen? ⟨w.heap.size, 0, none⟩ = false := (hb6.frozen (p := ⟨w.heap.size, 0, none⟩) (by have := hb25.size; show w.heap.size < _; omega)).trans ((hb25.frozen (p := ⟨w.heap.size, 0, none⟩) (by show w.heap.size < _; omega)).trans k2)
    go_simp
    refine hK _ _ ?_
    clear hK K
    refine anyG_end (by kernel_rfl) ?_
    intro w7 hb7
    have HG : Hid _ := grows_put hw2 hs2 k1' k2 k6 k7 k8 (hb25.trans (hb6.mono hb25.size)) (isTree_below hb6 HT5.out) HA5.out.2.1 (HA5.out.1.trans (by rw [HR5.out])) (by have := hb7; rwa [show (w6.setCell ⟨w.heap.size, 0, none⟩ (.pointer q5)).heap.size = w6.heap.size by simp [World.setCell]] at this)
    clear c6 f6 hb7 k1' k2 k6 k7 k8
    gi_wp2
    refine ⟨HG.out.1, HG.out.2.1, ?_⟩
    have := HG.out.2.2
    show grows w w7 w.heap.size (w.heap.size + 3) (w.heap.size + 5) (pre ++ [x]).flatten
    rw [show (pre ++ [x]).flatten = pre.flatten ++ x by simp]
    exact this
  case done =>
    rintro xs W ⟨hxs, hxo⟩ hI hDef
    rw [hs4] at hDef ⊢
    obtain ⟨hb, ⟨q, t, h1, h2, h3, h4, h5⟩, h6, h7, h8, h9⟩ := hI
    have H3 : Hid (isTree W q t) := h3
    have H4 : Hid (okT t) := h4
    have H5 : Hid (t.runes = rs) := h5.trans hxs
    have c86 := chain_nil q
    clear h3 h4 h5 hxs hxo
    gi_wp2_with (first
      | (refine ⟨trivial, ?_⟩; gi_at_call 117; refine (callsIn_wide.2 (c86 _)).mono ?_; rintro e wx ⟨rfl, hwx⟩; obtain rfl := hwx.symm)
      | fail)
    have hdn : W.cell? ⟨w.heap.size + 4, 5, none⟩ = none := by unfold World.cell?; simp [hDef]
    refine ⟨by simp, .inl ⟨_, _, rfl, run_takeDeferred hDef, ?_⟩⟩
    refine ⟨.pointer q, by simp [results, Tryz.results60, go_sem], q, t, rfl, isTree_but (But.putObj _ _ _) hdn H3.out, H4.out, H5.out, hb.trans (((But.putObj (w.heap.size + 4) W _).below (by omega)).mono (by omega))⟩
end Go.Proofs.YtldhbjmillfjgabGreatDoor

namespace Go.Proofs.YtldhbjmillfjgabGreatDoor
open Go.RowKit
set_option linter.unusedVariables false
attribute [local go_sem] Oper.semAt_some

/-- A document that lies in a block, of these runes. -/
def isRope (w : World) (b : Nat) (rs : List Nat) : Prop :=
  ∃ q t, w.cell? ⟨b, 0, none⟩ = some (.pointer q) ∧ w.frozen? ⟨b, 0, none⟩ = false ∧ w.cell? ⟨b, 5, none⟩ = none ∧ isTree w q t ∧ okT t ∧ t.runes = rs
theorem isRope_below {w w' : World} {b : Nat} {rs : List Nat} (h : isRope w b rs) (hb : Below w.heap.size w w') : isRope w' b rs := by
  obtain ⟨q, t, h1, h2, h3, h4, h5⟩ := h
  have hlt := World.block_lt_of_cell? w _ h1
  have e := hb.block b hlt
  exact ⟨q, t, (cellOn e 0).trans h1, (frozenOn e 0).trans h2, (cellOn e 5).trans h3, isTree_below hb h4, h5⟩

theorem counted_new (w : World) (n1 n2 n3 n4 : Int) (t : TypeId) : counted (w.alloc (.cells #[.int .i64 n1, .int .i64 n2, .int .i64 n3, .int .i64 n4] t)) w.heap.size n1 n2 n3 n4 := by
  refine ⟨⟨?_, ?_, ?_, ?_⟩, ?_, ?_, ?_, ?_⟩ <;> simp [go_sem]
theorem below_set4 {lo : Nat} {w W : World} {B : Nat} (hb : Below lo w W) (hlo : lo ≤ B) (u0 u1 u2 u3 : Value) :
    Below lo w ((((W.setCell ⟨B, 0, none⟩ u0).setCell ⟨B, 1, none⟩ u1).setCell ⟨B, 2, none⟩ u2).setCell ⟨B, 3, none⟩ u3) :=
  (((hb.setCell (p := ⟨B, 0, none⟩) hlo _).setCell (p := ⟨B, 1, none⟩) hlo _).setCell (p := ⟨B, 2, none⟩) hlo _).setCell (p := ⟨B, 3, none⟩) hlo _

set_option maxRecDepth 100000 in
set_option maxHeartbeats 2000000 in
theorem ropetree_any (b : Nat) (q : Option Addr) (w : World) (h : w.cell? ⟨b, 0, none⟩ = some (.pointer q)) :
    Calls Tryz.prog 66 #[.pointer (some ⟨b, 0, none⟩)] w fun e w' => e = .returned (.pointer q) ∧ w' = w := by
  go_enter Tryz.func66, Tryz.ntmps66
  go_wp2
  go_ret
  exact ⟨rfl, rfl⟩

set_option maxRecDepth 100000 in
set_option maxHeartbeats 2000000 in
theorem ropecounts_any (b : Nat) (rs : List Nat) (w : World) (h : isRope w b rs) :
    Calls Tryz.prog 20 #[.pointer (some ⟨b, 0, none⟩)] w fun e w' => e = .returned (.agg #[.int .i64 (C1 rs), .int .i64 (C2 rs), .int .i64 (C3 rs), .int .i64 (C4 rs)]) ∧ Below w.heap.size w w' := by
  obtain ⟨q, t, h1, _, _, h4, _, rfl⟩ := h
  have hb0 : ∀ o, Below w.heap.size w (w.alloc o) := fun o => (Below.refl _ w).alloc (Nat.le_refl _) o
  have cT := fun o => ropetree_any b q (w.alloc o) (cell_on (hb0 o) h1)
  have cC := fun o => ncounts_any q t (w.alloc o) (isTree_below (hb0 o) h4)
  generalize C1 t.runes = x1 at *
  generalize C2 t.runes = x2 at *
  generalize C3 t.runes = x3 at *
  generalize C4 t.runes = x4 at *
  clear h4
  go_enter Tryz.func20, Tryz.ntmps20
  go_wp2_with (first
    | (go_at_call 66; refine (cT _).mono ?_; rintro e w1 ⟨rfl, hw1⟩; obtain rfl := hw1.symm)
    | (go_at_call 67; refine (cC _).mono ?_; rintro e w2 ⟨rfl, hb2⟩; have hm := counted_below (counted_new w 0 0 0 0 25) hb2; have HM : Hid _ := hm; obtain ⟨⟨m0, m1, m2, m3⟩, n0, n1, n2, n3⟩ := hm)
    | fail)
  have hms := counted_set (m1 := x1) (m2 := x2) (m3 := x3) (m4 := x4) HM.out
  obtain ⟨⟨s0, s1, s2, s3⟩, _⟩ := hms
  have hbw := (hb0 (.cells #[.int .i64 0, .int .i64 0, .int .i64 0, .int .i64 0] 25)).trans (hb2.mono (hb0 (.cells #[.int .i64 0, .int .i64 0, .int .i64 0, .int .i64 0] 25)).size)
  refine bodyPost_ret (v := .agg #[.int .i64 x1, .int .i64 x2, .int .i64 x3, .int .i64 x4]) (by simp [results, Tryz.results20, go_sem, s0, s1, s2, s3]) rfl ⟨rfl, below_set4 hbw (Nat.le_refl _) _ _ _ _⟩

set_option maxRecDepth 100000 in
set_option maxHeartbeats 2000000 in
theorem new_good (rs : List Nat) (hr : ∀ r ∈ rs, isRune r) (hz : C1 rs ≤ 8000) (w : World) (hT : Lib.Utf8Tabs 2 3 w) :
    Calls Tryz.prog 9 #[.string (bytesOf rs)] w fun e w' => ∃ b, e = .returned (.tuple #[.pointer (some ⟨b, 0, none⟩), .nilIface]) ∧ w.heap.size ≤ b ∧ isRope w' b rs ∧ Below w.heap.size w w' := by
  have hsz : (bytesOf rs).size ≤ 8000 := by rw [bytesOf_size]; rw [C1_len] at hz; omega
  have c1 := count_of rs hr (by omega) w hT
  have c2 := fun wx (hb : Below w.heap.size w wx) => between_new rs hr (by rw [C1_len] at hz; omega) wx (Go.Proofs.Utf8Tabs_below hT hb)
  clear hr hz hT
  generalize C1 rs = x1 at *
  generalize C2 rs = x2 at *
  generalize C3 rs = x3 at *
  generalize C4 rs = x4 at *
  go_enter Tryz.func9, Tryz.ntmps9
  go_wp2_with (first
    | (go_at_call 59; refine c1.mono ?_; rintro e w1 ⟨rfl, hb1⟩; have hB1 : Below w.heap.size w (w1.alloc (.cells #[.int .i64 x1, .int .i64 x2, .int .i64 x3, .int .i64 x4] 25)) := hb1.alloc hb1.size _)
    | (go_at_call 60; refine (c2 _ hB1).mono ?_; rintro e w2 ⟨q, t, rfl, ht, ho, hrn, hb2⟩; have HT : Hid (isTree w2 q t ∧ okT t ∧ t.runes = rs) := ⟨ht, ho, hrn⟩; clear ht ho hrn)
    | fail)
  have hb2W : Below w2.heap.size w2 (w2.alloc (.cells #[.pointer q] 122)) := (Below.refl _ w2).alloc (Nat.le_refl _) _
  have hB2 := hB1.trans (hb2.mono hB1.size)
  have hR : isRope (w2.alloc (.cells #[.pointer q] 122)) w2.heap.size rs := ⟨q, t, by simp [go_sem], by simp [go_sem], by simp [go_sem], isTree_below hb2W HT.out.1, HT.out.2⟩
  refine bodyPost_ret (v := .tuple #[.pointer (some ⟨w2.heap.size, 0, none⟩), .nilIface]) (by simp [results, Tryz.results9, go_sem]) rfl ⟨_, rfl, hB2.size, hR, hB2.trans (hb2W.mono hB2.size)⟩

set_option maxRecDepth 100000 in
set_option maxHeartbeats 2000000 in
theorem new_full (rs : List Nat) (hr : ∀ r ∈ rs, isRune r) (hz : 8000 < C1 rs) (hz2 : C1 rs ≤ 100000000) (w : World) (hT : Lib.Utf8Tabs 2 3 w) :
    Calls Tryz.prog 9 #[.string (bytesOf rs)] w fun e w' => e = .returned (.tuple #[.pointer none, .iface 26 (.int .i64 12)]) ∧ Below w.heap.size w w' := by
  have hsz : 8000 < (bytesOf rs).size ∧ (bytesOf rs).size ≤ 100000000 := by rw [bytesOf_size]; rw [C1_len] at hz hz2; omega
  obtain ⟨hs1, hs2⟩ := hsz
  have hs3 : (8000 : Int) < ((bytesOf rs).size : Int) := by omega
  have c1 := count_of rs hr (by omega) w hT
  clear hr hz hz2 hT
  generalize C1 rs = x1 at *
  generalize C2 rs = x2 at *
  generalize C3 rs = x3 at *
  generalize C4 rs = x4 at *
  go_enter Tryz.func9, Tryz.ntmps9
  go_wp2_with (first
    | (go_at_call 59; refine c1.mono ?_; rintro e w1 ⟨rfl, hb1⟩)
    | fail)
  refine bodyPost_ret (v := .tuple #[.pointer none, .iface 26 (.int .i64 12)]) (by simp [results, Tryz.results9, go_sem]) rfl ⟨rfl, hb1.alloc hb1.size _⟩
end Go.Proofs.YtldhbjmillfjgabGreatDoor

namespace Go.Proofs.YtldhbjmillfjgabGreatDoor
open Go.RowKit
set_option linter.unusedVariables false
attribute [local go_sem] yieldsUpon okUpon


set_option maxRecDepth 100000 in
set_option maxHeartbeats 2000000 in
theorem first_one (p : Option Addr) (r : T) (c : List Nat) (w : World) (ht : isTree w p (.node .nil c r)) :
    Calls Tryz.prog 113 #[.pointer p] w fun e w' => ∃ q, e = .returned (.tuple #[chunkV c, .pointer q]) ∧ isTree w' q r ∧ Below w.heap.size w w' := by
  obtain ⟨b1, pl, pr, rfl, ⟨c0, c1, c2, c3, c4⟩, ⟨c5, c6⟩, _, _, hl, hr⟩ := ht
  have hb0 : ∀ o, Below w.heap.size w (w.alloc o) := fun o => (Below.refl _ w).alloc (Nat.le_refl _) o
  have hlt : b1 < w.heap.size := World.block_lt_of_cell? w _ c0
  have HT : Hid (isTree w pr r) := hr
  obtain rfl : pl = none := hl
  clear hr
  have d5 := fun o => cell_on (hb0 o) c5
  have hA := chunkAt_new w (.string ⟨#[]⟩) (.int .i64 0) (.int .i64 0) (.int .i64 0) (.int .i64 0) 194
  unfold chunkV
  generalize bytesOf c = v0 at *
  generalize C1 c = v1 at *
  generalize C2 c = v2 at *
  generalize C3 c = v3 at *
  generalize C4 c = v4 at *
  go_enter Tryz.func113, Tryz.ntmps113
  go_wp2
  have hbW := hb0 (.cells #[.string ⟨#[]⟩, .int .i64 0, .int .i64 0, .int .i64 0, .int .i64 0] 194)
  generalize (w.alloc (.cells #[.string ⟨#[]⟩, .int .i64 0, .int .i64 0, .int .i64 0, .int .i64 0] 194)) = W at *
  clear d5 hb0
  refine wp_region_but w.heap.size 10 10 (by kernel_rfl) rfl ?_
  intro w1 hb1
  have hbw := hbW.trans (hb1.mono hbW.size)
  have hA1 := chunkAt_below hA hb1
  obtain ⟨G, hG⟩ := exists_growB w.heap.size w1
  have hw0 := But.refl w.heap.size w1
  have hne : b1 ≠ w.heap.size := Nat.ne_of_lt hlt
  have g0 := hG.cell hne (cell_on hbw c0)
  have g1 := hG.cell hne (cell_on hbw c1)
  have g2 := hG.cell hne (cell_on hbw c2)
  have g3 := hG.cell hne (cell_on hbw c3)
  have g4 := hG.cell hne (cell_on hbw c4)
  have g6 := hG.cell hne (cell_on hbw c6)
  clear c0 c1 c2 c3 c4 c5 c6 hA
  (refine anyB_step hG hw0 (i := 0) rfl (by kernel_rfl) (by kernel_rfl) (by kernel_rfl) (fun K hK => ?_); go_simp; refine hK _ ?_; clear hK K)
  (refine anyB_step hG hw0 (i := 1) rfl (by kernel_rfl) (by kernel_rfl) (by kernel_rfl) (fun K hK => ?_); go_simp; refine hK _ ?_; clear hK K)
  (refine anyB_step hG hw0 (i := 2) rfl (by kernel_rfl) (by kernel_rfl) (by kernel_rfl) (fun K hK => ?_); go_simp; refine hK _ ?_; clear hK K)
  (refine anyB_step hG hw0 (i := 3) rfl (by kernel_rfl) (by kernel_rfl) (by kernel_rfl) (fun K hK => ?_); go_simp; refine hK _ ?_; clear hK K)
  (refine anyB_step hG hw0 (i := 4) rfl (by kernel_rfl) (by kernel_rfl) (by kernel_rfl) (fun K hK => ?_); go_simp; refine hK _ ?_; clear hK K)
  (refine anyB_step hG hw0 (i := 5) rfl (by kernel_rfl) (by kernel_rfl) (by kernel_rfl) (fun K hK => ?_); go_simp; refine hK _ ?_; clear hK K)
  (refine anyB_step hG hw0 (i := 6) rfl (by kernel_rfl) (by kernel_rfl) (by kernel_rfl) (fun K hK => ?_); go_simp; refine hK _ ?_; clear hK K)
  (refine anyB_step hG hw0 (i := 7) rfl (by kernel_rfl) (by kernel_rfl) (by kernel_rfl) (fun K hK => ?_); go_simp; refine hK _ ?_; clear hK K)
  clear g0 g1 g2 g3 g4 g6 hG
  refine anyB_one (i := 8) (by kernel_rfl) ⟨_, rfl, ?_⟩
  intro w2 hb2 K hK
  have hA2 := chunkAt_below hA1 hb2
  have hbw2 := hbw.trans (hb2.mono hbw.size)
  have HA2 : Hid _ := hA2
  obtain ⟨⟨a0, a1, a2, a3, a4⟩, f0, f1, f2, f3, f4⟩ := hA2
  go_simp
  refine hK _ _ (fun h => ((((h.setCell rfl _).setCell rfl _).setCell rfl _).setCell rfl _).setCell rfl _) ?_
  clear hK K
  refine anyB_one (i := 9) (by kernel_rfl) ⟨_, rfl, ?_⟩
  intro w3 hb3 K hK
  have hA3 := chunkAt_below (chunkAt_set HA2.out) hb3
  have hbw3 := (below_set5 hbw2 (Nat.le_refl _) _ _ _ _ _).trans (hb3.mono (below_set5 hbw2 (Nat.le_refl _) _ _ _ _ _).size)
  go_simp
  refine hK _ _ (fun h => h) ?_
  clear hK K
  refine anyB_end (by kernel_rfl) ?_
  intro w4 hb4
  have hA4 := chunkAt_below hA3 hb4
  have hbw4 := hbw3.trans (hb4.mono hbw3.size)
  clear a0 a1 a2 a3 a4 f0 f1 f2 f3 f4 hb3 hb4 hA3 HA2 hA1
  have HT4 : Hid _ := isTree_below hbw4 HT.out
  obtain ⟨⟨a0, a1, a2, a3, a4⟩, f0, f1, f2, f3, f4⟩ := hA4
  go_wp2
  refine bodyPost_ret (v := .tuple #[.agg #[.string v0, .int .i64 v1, .int .i64 v2, .int .i64 v3, .int .i64 v4], .pointer pr]) (by simp [results, Tryz.results113, go_sem, a0, a1, a2, a3, a4]) rfl ⟨_, rfl, HT4.out, hbw4⟩

set_option maxRecDepth 100000 in
set_option maxHeartbeats 2000000 in
theorem first_more (p : Option Addr) (l r : T) (c : List Nat) (w : World) (ht : isTree w p (.node l c r)) (hne : l ≠ .nil) (hz : big (.node l c r)) (hbal : (T.node l c r).bal)
    (ih : ∀ (p : Option Addr) (w : World), isTree w p l → Calls Tryz.prog 113 #[.pointer p] w fun e w' => ∃ c q t, e = .returned (.tuple #[chunkV c, .pointer q]) ∧ isTree w' q t ∧ begun l c t ∧ Below w.heap.size w w') :
    Calls Tryz.prog 113 #[.pointer p] w fun e w' => ∃ c1 q t, e = .returned (.tuple #[chunkV c1, .pointer q]) ∧ isTree w' q t ∧ begun (.node l c r) c1 t ∧ Below w.heap.size w w' := by
  obtain ⟨b1, pl, pr, rfl, ⟨c0, c1, c2, c3, c4⟩, ⟨c5, c6⟩, _, _, hl, hr⟩ := ht
  have hb0 : ∀ o, Below w.heap.size w (w.alloc o) := fun o => (Below.refl _ w).alloc (Nat.le_refl _) o
  have hlt : b1 < w.heap.size := World.block_lt_of_cell? w _ c0
  have hsub : ∃ b2, pl = some ⟨b2, 0, none⟩ := by
    cases l with
    | nil => exact absurd rfl hne
    | node x y z => obtain ⟨b, _, _, e, _⟩ := hl; exact ⟨b, e⟩
  obtain ⟨b2, rfl⟩ := hsub
  have cI := fun o => ih _ (w.alloc o) (isTree_below (hb0 o) hl)
  have HT : Hid (isTree w pr r) := hr
  have HJ : Hid (∀ c1 t, begun l c1 t → ∀ p1 p2 W, isTree W p1 t → isTree W p2 r → Calls Tryz.prog 159 #[.pointer p1, chunkV c, .pointer p2] W fun e w' => ∃ q t', e = .returned (.pointer q) ∧ isTree w' q t' ∧ begun (.node l c r) c1 t' ∧ Below W.heap.size W w') := fun c1 t he p1 p2 W h1 h2 => by
    obtain ⟨b1, b2, b3, b4⟩ := hbal
    have hbig : big (.node t c r) := by
      obtain ⟨z1, z2⟩ := hz
      have e1 := he.1
      simp only [T.runes, T.size, C1_append] at z1 z2
      rw [runes_chunks l, e1] at z1
      rw [size_chunks l, e1] at z2
      simp only [List.flatten_append, C1_append, List.length_append, List.length_singleton] at z1 z2
      have := C1_pos [c1].flatten
      exact ⟨by simp only [T.runes, C1_append, runes_chunks t]; omega, by simp only [T.size, size_chunks t]; omega⟩
    refine (join_any _ p1 p2 t r c W (Nat.le_refl _) h1 h2 hbig he.2 b2).mono ?_
    rintro e w' ⟨q, t', rfl, ht', ⟨j1, j2, _, _⟩, hb⟩
    exact ⟨q, t', rfl, ht', ⟨by rw [j1, T.chunks, he.1]; simp, j2⟩, hb⟩
  clear hl hr hne hz hbal ih
  have d5 := fun o => cell_on (hb0 o) c5
  have hA := chunkAt_new w (.string ⟨#[]⟩) (.int .i64 0) (.int .i64 0) (.int .i64 0) (.int .i64 0) 194
  have hN : (w.alloc (.cells #[.string ⟨#[]⟩, .int .i64 0, .int .i64 0, .int .i64 0, .int .i64 0] 194)).cell? ⟨w.heap.size, 5, none⟩ = none := by simp [go_sem]
  have HA : Hid _ := hA
  have HN : Hid _ := hN
  clear hA hN
  unfold chunkV at cI HJ ⊢
  go_enter Tryz.func113, Tryz.ntmps113
  go_wp2_with (first | (go_at_call 113; refine (cI _).mono ?_; rintro e w1 ⟨x, p', t, rfl, ht1, he, hb1⟩; have HT1 : Hid _ := ht1; have HE : Hid _ := he; clear ht1 he) | fail)
  obtain ⟨W, hW⟩ : ∃ W, w1.alloc (.cells #[.string (bytesOf x), .int .i64 (C1 x), .int .i64 (C2 x), .int .i64 (C3 x), .int .i64 (C4 x)] 194) = W := ⟨_, rfl⟩
  have hB4 : chunkAt W w1.heap.size (.string (bytesOf x)) (.int .i64 (C1 x)) (.int .i64 (C2 x)) (.int .i64 (C3 x)) (.int .i64 (C4 x)) := by rw [← hW]; exact chunkAt_new _ _ _ _ _ _ _
  have hb1W : Below w1.heap.size w1 W := by rw [← hW]; exact (Below.refl _ _).alloc (Nat.le_refl _) _
  rw [hW]
  clear hW cI d5
  have hA := chunkAt_below (chunkAt_below HA.out hb1) hb1W
  have hltA := chunkAt_lt HA.out
  have hN := (((hb1.trans (hb1W.mono hb1.size)).cell (p := ⟨w.heap.size, 5, none⟩) hltA)).trans HN.out
  have ht1 := isTree_below hb1W HT1.out
  have hbW := (hb0 (.cells #[.string ⟨#[]⟩, .int .i64 0, .int .i64 0, .int .i64 0, .int .i64 0] 194)).trans ((hb1.trans (hb1W.mono hb1.size)).mono (hb0 (.cells #[.string ⟨#[]⟩, .int .i64 0, .int .i64 0, .int .i64 0, .int .i64 0] 194)).size)
  have hn14 : w1.heap.size ≠ w.heap.size := by have := hb1.size; omega
  clear HA HN HT1 hb1 hb1W hb0
  refine wp_region_but w.heap.size 13 13 (by kernel_rfl) rfl ?_
  intro w2 hb2
  have hbw := hbW.trans (hb2.mono hbW.size)
  have HA1 : Hid _ := chunkAt_below hA hb2
  have HN1 : Hid _ := (hb2.cell (p := ⟨w.heap.size, 5, none⟩) (chunkAt_lt hA)).trans hN
  have HT1 : Hid _ := isTree_below hb2 ht1
  have hB4' := chunkAt_below hB4 hb2
  obtain ⟨⟨e0, e1, e2, e3, e4⟩, _⟩ := hB4'
  obtain ⟨G, hG⟩ := exists_growB w.heap.size w2
  have hw0 := But.refl w.heap.size w2
  have hne : b1 ≠ w.heap.size := Nat.ne_of_lt hlt
  have g0 := hG.cell hne (cell_on hbw c0)
  have g1 := hG.cell hne (cell_on hbw c1)
  have g2 := hG.cell hne (cell_on hbw c2)
  have g3 := hG.cell hne (cell_on hbw c3)
  have g4 := hG.cell hne (cell_on hbw c4)
  have g6 := hG.cell hne (cell_on hbw c6)
  have k0 := hG.cell hn14 e0
  have k1 := hG.cell hn14 e1
  have k2 := hG.cell hn14 e2
  have k3 := hG.cell hn14 e3
  have k4 := hG.cell hn14 e4
  clear c0 c1 c2 c3 c4 c5 c6 hA hN ht1 hB4 e0 e1 e2 e3 e4
  (refine anyB_step hG hw0 (i := 0) rfl (by kernel_rfl) (by kernel_rfl) (by kernel_rfl) (fun K hK => ?_); go_simp; refine hK _ ?_; clear hK K)
  (refine anyB_step hG hw0 (i := 1) rfl (by kernel_rfl) (by kernel_rfl) (by kernel_rfl) (fun K hK => ?_); go_simp; refine hK _ ?_; clear hK K)
  (refine anyB_step hG hw0 (i := 2) rfl (by kernel_rfl) (by kernel_rfl) (by kernel_rfl) (fun K hK => ?_); go_simp; refine hK _ ?_; clear hK K)
  (refine anyB_step hG hw0 (i := 3) rfl (by kernel_rfl) (by kernel_rfl) (by kernel_rfl) (fun K hK => ?_); go_simp; refine hK _ ?_; clear hK K)
  (refine anyB_step hG hw0 (i := 4) rfl (by kernel_rfl) (by kernel_rfl) (by kernel_rfl) (fun K hK => ?_); go_simp; refine hK _ ?_; clear hK K)
  (refine anyB_step hG hw0 (i := 5) rfl (by kernel_rfl) (by kernel_rfl) (by kernel_rfl) (fun K hK => ?_); go_simp; refine hK _ ?_; clear hK K)
  (refine anyB_step hG hw0 (i := 6) rfl (by kernel_rfl) (by kernel_rfl) (by kernel_rfl) (fun K hK => ?_); go_simp; refine hK _ ?_; clear hK K)
  (refine anyB_step hG hw0 (i := 7) rfl (by kernel_rfl) (by kernel_rfl) (by kernel_rfl) (fun K hK => ?_); go_simp; refine hK _ ?_; clear hK K)
  (refine anyB_step hG hw0 (i := 8) rfl (by kernel_rfl) (by kernel_rfl) (by kernel_rfl) (fun K hK => ?_); go_simp; refine hK _ ?_; clear hK K)
  (refine anyB_step hG hw0 (i := 9) rfl (by kernel_rfl) (by kernel_rfl) (by kernel_rfl) (fun K hK => ?_); go_simp; refine hK _ ?_; clear hK K)
  clear g0 g1 g2 g3 g4 g6 k0 k1 k2 k3 k4 hG hb2
  refine anyB_one (i := 10) (by kernel_rfl) ⟨_, rfl, ?_⟩
  · intro w3 hb3 K hK
    have hbw3 := hbw.trans (hb3.mono hbw.size)
    have ht3 := isTree_below hb3 HT1.out
    have cj := HJ.out x t HE.out _ _ w3 ht3 (isTree_below hbw3 HT.out)
    go_simp
    refine cj.mono ?_
    rintro e w4 ⟨q, t', rfl, ht4, he4, hb4⟩
    have HE9 : Hid _ := he4
    refine ⟨_, rfl, hK _ _ (fun h => h.trans (But.of_below hb4)) ?_⟩
    clear hK K cj he4 ht3
    have hb34 := hb3.trans (hb4.mono hb3.size)
    have hbw4 := hbw3.trans (hb4.mono hbw3.size)
    have HA4 : Hid _ := chunkAt_below HA1.out hb34
    have HN4 : Hid _ := (hb34.cell (p := ⟨w.heap.size, 5, none⟩) (chunkAt_lt HA1.out)).trans HN1.out
    refine anyB_one (i := 11) (by kernel_rfl) ⟨_, rfl, ?_⟩
    intro w5 hb5 K hK
    have hbw5 := hbw4.trans (hb5.mono hbw4.size)
    have hN5 := (hb5.cell (p := ⟨w.heap.size, 5, none⟩) (chunkAt_lt HA4.out)).trans HN4.out
    have HT5 : Hid _ := isTree_but (((((But.refl w.heap.size w5).setCell (p := ⟨w.heap.size, 0, none⟩) rfl (.string (bytesOf x))).setCell (p := ⟨w.heap.size, 1, none⟩) rfl (.int .i64 (C1 x))).setCell (p := ⟨w.heap.size, 2, none⟩) rfl (.int .i64 (C2 x))).setCell (p := ⟨w.heap.size, 3, none⟩) rfl (.int .i64 (C3 x)) |>.setCell (p := ⟨w.heap.size, 4, none⟩) rfl (.int .i64 (C4 x))) hN5 (isTree_below hb5 ht4)
    clear ht4 hN5
    have HA5 : Hid _ := chunkAt_below HA4.out hb5
    have hx := HA5.out
    obtain ⟨⟨a0, a1, a2, a3, a4⟩, f0, f1, f2, f3, f4⟩ := hx
    go_simp
    refine hK _ _ (fun h => ((((h.setCell rfl _).setCell rfl _).setCell rfl _).setCell rfl _).setCell rfl _) ?_
    clear hK K a0 a1 a2 a3 a4 f0 f1 f2 f3 f4
    have hbs := below_set5 hbw5 (Nat.le_refl _) (.string (bytesOf x)) (.int .i64 (C1 x)) (.int .i64 (C2 x)) (.int .i64 (C3 x)) (.int .i64 (C4 x))
    have hAs := chunkAt_set (u0 := .string (bytesOf x)) (u1 := .int .i64 (C1 x)) (u2 := .int .i64 (C2 x)) (u3 := .int .i64 (C3 x)) (u4 := .int .i64 (C4 x)) HA5.out
    have hts := HT5.out
    refine anyB_one (i := 12) (by kernel_rfl) ⟨_, rfl, ?_⟩
    intro w8 hb8 K hK
    go_simp
    refine hK _ _ (fun h => h) ?_
    clear hK K
    refine anyB_end (by kernel_rfl) ?_
    intro w9 hb9
    have hb89 := hb8.trans (hb9.mono hb8.size)
    have hA9 := chunkAt_below hAs hb89
    have hbw9 := hbs.trans (hb89.mono hbs.size)
    have HT9 : Hid _ := isTree_below hb89 hts
    clear hb8 hb9 hb89 hts
    obtain ⟨⟨a0, a1, a2, a3, a4⟩, f0, f1, f2, f3, f4⟩ := hA9
    go_wp2
    refine bodyPost_ret (v := .tuple #[chunkV x, .pointer q]) (by simp [results, Tryz.results113, go_sem, a0, a1, a2, a3, a4, chunkV]) rfl ⟨_, _, _, rfl, HT9.out, HE9.out, hbw9⟩

theorem ropefirst_any : ∀ (n : Nat) (t : T) (p : Option Addr) (w : World), t.size ≤ n → t ≠ .nil → isTree w p t → big t → t.bal →
    Calls Tryz.prog 113 #[.pointer p] w fun e w' => ∃ c q t', e = .returned (.tuple #[chunkV c, .pointer q]) ∧ isTree w' q t' ∧ begun t c t' ∧ Below w.heap.size w w' := by
  intro n
  induction n with
  | zero =>
    intro t p w hn hne
    cases t with
    | nil => exact absurd rfl hne
    | node l c r => simp [T.size] at hn
  | succ n ih =>
    intro t p w hn hne ht hz hbal
    match t, hn, hne, ht, hz, hbal with
    | .nil, _, hne, _, _, _ => exact absurd rfl hne
    | .node l c r, hn, _, ht, hz, hbal =>
      by_cases hs : l = .nil
      · subst hs
        refine (first_one p r c w ht).mono ?_
        rintro e w' ⟨q, rfl, hq, hb⟩
        exact ⟨c, q, r, rfl, hq, ⟨by simp [T.chunks], hbal.2.1⟩, hb⟩
      · simp only [T.size] at hn
        exact first_more p l r c w ht hs hz hbal fun p' w' h' => ih l p' w' (by omega) hs h' (big_node hz).1 hbal.1
end Go.Proofs.YtldhbjmillfjgabGreatDoor

namespace Go.Proofs.YtldhbjmillfjgabGreatDoor
open Go.RowKit
set_option linter.unusedVariables false
attribute [local go_sem] Oper.semAt_some

theorem tree_at {w : World} {p : Option Addr} {t : T} (h : isTree w p t) : (t = .nil ∧ p = none) ∨ ∃ b, p = some ⟨b, 0, none⟩ ∧ t ≠ .nil := by
  cases t with
  | nil => exact .inl ⟨rfl, h⟩
  | node l c r =>
    obtain ⟨b, _, _, rfl, _⟩ := h
    exact .inr ⟨b, rfl, by simp⟩
theorem begun_ok {t t' : T} {c : List Nat} (h : begun t c t') (ho : okT t) : okChunk c ∧ okT t' ∧ t.runes = c ++ t'.runes :=
  ⟨ho.2 c (by rw [h.1]; simp), ⟨h.2, fun x hx => ho.2 x (by rw [h.1]; simp [hx])⟩, by rw [runes_chunks, runes_chunks t', h.1]; simp⟩
theorem ended_ok {t t' : T} {c : List Nat} (h : ended t c t') (ho : okT t) : okChunk c ∧ okT t' ∧ t.runes = t'.runes ++ c :=
  ⟨ho.2 c (by rw [h.1]; simp), ⟨h.2, fun x hx => ho.2 x (by rw [h.1]; simp [hx])⟩, by rw [runes_chunks, runes_chunks t', h.1]; simp⟩
theorem joined_ok {l r t : T} {c : List Nat} (h : joined l r c t) (hl : okT l) (hr : okT r) (hc : okChunk c) : okT t ∧ t.runes = l.runes ++ c ++ r.runes := by
  refine ⟨⟨h.2.1, fun x hx => ?_⟩, by rw [runes_chunks, runes_chunks l, runes_chunks r, h.1]; simp⟩
  rw [h.1] at hx
  simp only [List.mem_append, List.mem_singleton] at hx
  rcases hx with (hx | rfl) | hx
  · exact hl.2 x hx
  · exact hc
  · exact hr.2 x hx
theorem big_three {l r : T} {x : List Nat} (hl : okT l) (hr : okT r) (hx : okChunk x) (hz : C1 (l.runes ++ x ++ r.runes) ≤ 100000000) : big (.node l x r) := by
  have e : (T.node l x r).runes = l.runes ++ x ++ r.runes := by simp [T.runes]
  have h1 := okT_size hl.2
  have h2 := okT_size hr.2
  have h3 := (C3_le (l.runes ++ x ++ r.runes)).2
  unfold C3 at h3
  have hx1 : 1 ≤ x.length := by cases x with | nil => exact absurd rfl hx.1 | cons _ _ => simp
  rw [← runes_chunks] at h1 h2
  rw [List.length_append, List.length_append] at h3
  refine ⟨by rw [e]; omega, ?_⟩
  simp only [T.size]
  rw [size_chunks, size_chunks]
  omega
theorem but_set5 (W : World) (B : Nat) (u0 u1 u2 u3 u4 : Value) : But B W (((((W.setCell ⟨B, 0, none⟩ u0).setCell ⟨B, 1, none⟩ u1).setCell ⟨B, 2, none⟩ u2).setCell ⟨B, 3, none⟩ u3).setCell ⟨B, 4, none⟩ u4) :=
  (((((But.refl B W).setCell (p := ⟨B, 0, none⟩) rfl u0).setCell (p := ⟨B, 1, none⟩) rfl u1).setCell (p := ⟨B, 2, none⟩) rfl u2).setCell (p := ⟨B, 3, none⟩) rfl u3).setCell (p := ⟨B, 4, none⟩) rfl u4
theorem C1_left {a b : List Nat} {k : Int} (h : C1 (a ++ b) ≤ k) : C1 a ≤ k := by rw [C1_append] at h; have := C1_pos b; omega
theorem C1_right {a b : List Nat} {k : Int} (h : C1 (a ++ b) ≤ k) : C1 b ≤ k := by rw [C1_append] at h; have := C1_pos a; omega

set_option maxRecDepth 100000 in
set_option maxHeartbeats 2000000 in
theorem chain_more (pl : Option Addr) (bb : Nat) (l r : T) (w : World) (hT : Lib.Utf8Tabs 2 3 w) (hl : isTree w pl l) (hr : isTree w (some ⟨bb, 0, none⟩) r) (hne : r ≠ .nil) (hol : okT l) (hor : okT r) (hz : C1 (l.runes ++ r.runes) ≤ 100000000) :
    Calls Tryz.prog 117 #[.pointer pl, .pointer (some ⟨bb, 0, none⟩)] w fun e w' => ∃ q t, e = .returned (.pointer q) ∧ isTree w' q t ∧ okT t ∧ t.runes = l.runes ++ r.runes ∧ Below w.heap.size w w' := by
  have HL : Hid (isTree w pl l) := hl
  have HOL : Hid (okT l) := hol
  have HOR : Hid (okT r) := hor
  have HZ : Hid (C1 (l.runes ++ r.runes) ≤ 100000000) := hz
  have HT : Hid (Lib.Utf8Tabs 2 3 w) := hT
  have cF := ropefirst_any _ r _ w (Nat.le_refl _) hne hr (okT_big hor (C1_right hz)) hor.1
  clear hl hr hne hol hor hz hT
  go_enter Tryz.func117, Tryz.ntmps117
  go_wp2_with (first | (go_at_call 9999) | fail)
  refine cF.mono ?_
  rintro e w1 ⟨x, q0, t0, rfl, ht0, hbg, hb1⟩
  obtain ⟨hx, ho0, hrn⟩ := begun_ok hbg HOR.out
  have hb1W : Below w1.heap.size w1 (w1.alloc (.cells #[.string (bytesOf x), .int .i64 (C1 x), .int .i64 (C2 x), .int .i64 (C3 x), .int .i64 (C4 x)] 194)) := (Below.refl _ w1).alloc (Nat.le_refl _) _
  have hbW := hb1.trans (hb1W.mono hb1.size)
  have HA : Hid (okChunk x ∧ okT t0 ∧ r.runes = x ++ t0.runes) := ⟨hx, ho0, hrn⟩
  have cA := add_any pl l x _ (Go.Proofs.Utf8Tabs_below HT.out hbW) (isTree_below hbW HL.out) (big_put HOL.out hx (by have := HZ.out; rw [hrn, ← List.append_assoc] at this; exact C1_left this)) HOL.out hx
  have HT0 : Hid _ := isTree_below hb1W ht0
  have HB : Hid _ := hbW
  have hm := chunkAt_new w1 (.string (bytesOf x)) (.int .i64 (C1 x)) (.int .i64 (C2 x)) (.int .i64 (C3 x)) (.int .i64 (C4 x)) 194
  have hk5' : (w1.alloc (.cells #[.string (bytesOf x), .int .i64 (C1 x), .int .i64 (C2 x), .int .i64 (C3 x), .int .i64 (C4 x)] 194)).cell? ⟨w1.heap.size, 5, none⟩ = none := by simp [go_sem]
  have HSZ : Hid (w.heap.size ≤ w1.heap.size) := hb1.size
  unfold chunkV at *
  clear cF hbg hx ho0 hrn
  rcases tree_at ht0 with ⟨rfl, rfl⟩ | ⟨b0, rfl, hne0⟩
  · clear ht0 hb1 hb1W hbW
    go_wp2_with (first
      | (go_at_call 115; refine cA.mono ?_; rintro e w2 ⟨q2, t2, rfl, ht2, ha2, hb2⟩; have HT2 : Hid _ := ht2; have HA2 : Hid _ := ha2; clear ht2 ha2)
      | fail)
    go_ret
    exact ⟨q2, t2, rfl, HT2.out, HA2.out.2.1, by rw [HA2.out.1, HA.out.2.2]; simp [T.runes], HB.out.trans (hb2.mono HB.out.size)⟩
  · clear ht0 hb1 hb1W hbW
    go_wp2_with (first
      | (go_at_call 115; refine cA.mono ?_; rintro e w2 ⟨q2, t2, rfl, ht2, ha2, hb2⟩; have HT2 : Hid _ := ht2; have HA2 : Hid _ := ha2; have HB2 : Hid _ := hb2; have hm2 := chunkAt_below hm hb2; clear ht2 ha2 hb2)
      | fail)
    have hk5 : w2.cell? ⟨w1.heap.size, 5, none⟩ = none := (cellOn (HB2.out.block w1.heap.size (by simp)) 5).trans hk5'
    have hoA := HA.out.2.1
    refine (ropefirst_any _ t0 _ w2 (Nat.le_refl _) hne0 (isTree_below HB2.out HT0.out) (okT_big hoA (by have := HZ.out; rw [HA.out.2.2] at this; exact C1_right (C1_right this))) hoA.1).mono ?_
    rintro e w3 ⟨y, q3, t3, rfl, ht3, hbg3, hb3⟩
    obtain ⟨hy, ho3, hrn3⟩ := begun_ok hbg3 hoA
    have HB3 : Hid _ := hb3
    have HT3 : Hid _ := ht3
    have HA3 : Hid (okChunk y ∧ okT t3 ∧ t0.runes = y ++ t3.runes) := ⟨hy, ho3, hrn3⟩
    have HK5 : Hid (w3.cell? ⟨w1.heap.size, 5, none⟩ = none) := (cellOn (hb3.block w1.heap.size (World.block_lt_of_cell? _ _ hm2.1.1)) 5).trans hk5
    have hm3 := chunkAt_below hm2 hb3
    have HM3 : Hid _ := hm3
    obtain ⟨⟨m0, m1, m2, m3, m4⟩, f0, f1, f2, f3, f4⟩ := hm3
    have HBU : Hid _ := but_set5 w3 w1.heap.size (.string (bytesOf y)) (.int .i64 (C1 y)) (.int .i64 (C2 y)) (.int .i64 (C3 y)) (.int .i64 (C4 y))
    have cJ := join_any _ q2 q3 t2 t3 y _ (Nat.le_refl _) (isTree_but HBU.out HK5.out (isTree_below hb3 HT2.out)) (isTree_but HBU.out HK5.out ht3) (big_three HA2.out.2.1 ho3 hy (by have := HZ.out; rw [HA.out.2.2, hrn3] at this; rw [HA2.out.1]; simpa using this)) HA2.out.2.1.1 ho3.1
    unfold chunkV at *
    clear hm hm2 cA hk5 hk5' hoA ht3 hbg3 hb3 hy ho3 hrn3
    go_wp2_with (first
      | (go_at_call 159; refine cJ.mono ?_; rintro e w4 ⟨q4, t4, rfl, ht4, hj4, hb4⟩; have HT4 : Hid _ := ht4; have HJ4 : Hid _ := hj4; have HB4 : Hid _ := hb4; clear ht4 hj4 hb4)
      | fail)
    obtain ⟨j1, j2⟩ := joined_ok HJ4.out HA2.out.2.1 HA3.out.2.1 HA3.out.1
    go_ret
    have hB3 : Below w.heap.size w w3 := (HB.out.trans (HB2.out.mono HB.out.size)).trans (HB3.out.mono (HB.out.trans (HB2.out.mono HB.out.size)).size)
    have hB5 := below_set5 hB3 (B := w1.heap.size) HSZ.out (.string (bytesOf y)) (.int .i64 (C1 y)) (.int .i64 (C2 y)) (.int .i64 (C3 y)) (.int .i64 (C4 y))
    exact ⟨q4, t4, rfl, HT4.out, j1, by rw [j2, HA2.out.1, HA.out.2.2, HA3.out.2.2]; simp, hB5.trans (HB4.out.mono hB5.size)⟩

theorem chain_any (pl pr : Option Addr) (l r : T) (w : World) (hT : Lib.Utf8Tabs 2 3 w) (hl : isTree w pl l) (hr : isTree w pr r) (hol : okT l) (hor : okT r) (hz : C1 (l.runes ++ r.runes) ≤ 100000000) :
    Calls Tryz.prog 117 #[.pointer pl, .pointer pr] w fun e w' => ∃ q t, e = .returned (.pointer q) ∧ isTree w' q t ∧ okT t ∧ t.runes = l.runes ++ r.runes ∧ Below w.heap.size w w' := by
  rcases tree_at hr with ⟨rfl, rfl⟩ | ⟨b, rfl, hne⟩
  · refine (chain_nil pl w).mono ?_
    rintro e w' ⟨rfl, rfl⟩
    exact ⟨pl, l, rfl, hl, hol, by simp [T.runes], Below.refl _ _⟩
  · exact chain_more pl b l r w hT hl hr hne hol hor hz
end Go.Proofs.YtldhbjmillfjgabGreatDoor

namespace Go.Proofs.YtldhbjmillfjgabGreatDoor
open Go.RowKit

/-- What each rune's closure keeps, and what holds where it has said no. -/
structure TakesS (W : World) (F : Nat) (cap : Array Value) (l : List (Nat × Nat)) (I Ix : List (Nat × Nat) → World → Prop) : Prop where
  enters : ∀ args w, (callFunc F args).run Tryz.prog w = .ok (.enter F args) w
  stays : ∀ done w w', I done w → Below w.heap.size w w' → I done w'
  step : ∀ done p rest, l = done ++ p :: rest → ∀ w, I done w → Below W.heap.size W w →
    Calls Tryz.prog F (#[.int .i32 p.1, .int .i64 p.2] ++ cap) w fun e w' => Below W.heap.size W w' ∧ ((e = .returned (.bool true) ∧ I (done ++ [p]) w') ∨ (e = .returned (.bool false) ∧ Ix (done ++ [p]) w'))

set_option maxHeartbeats 2000000 in
theorem each_stops (s : ByteArray) (hs : s.size ≤ maxLen) (F : Nat) (cap : Array Value) (W : World) (hT : Lib.Utf8Tabs 2 3 W) (I Ix : List (Nat × Nat) → World → Prop)
    (H : TakesS W F cap (scan s.data.toList).1 I Ix) (w : World) (hw : Below W.heap.size W w) (h0 : I [] w) :
    Calls Tryz.prog 108 #[.string s, .func (.func F) #[] cap] w fun e w' => (∃ v, e = .returned v) ∧ Below W.heap.size W w' ∧
      (I (scan s.data.toList).1 w' ∨ (∃ pre rest, (scan s.data.toList).1 = pre ++ rest ∧ Ix pre w')) := by
  unfold maxLen at hs
  have hent := H.enters
  go_enter Tryz.func108, Tryz.ntmps108
  go_wp2
  go_loopw [5, 6, 7, 12] (fun at_ _ _ _ wr => ∃ (k : Nat) (done : List (Nat × Nat)), k ≤ s.size ∧ at_ = .int .i64 k ∧ (scan s.data.toList).1 = done ++ (scan (s.data.toList.drop k)).1 ∧ I done wr ∧ Below W.heap.size W wr) (fun at_ _ _ _ _ => s.size - (intOf at_).toNat)
  case atStart => exact ⟨0, [], Nat.zero_le _, rfl, by rw [List.drop_zero]; rfl, h0, hw⟩
  case round =>
    obtain ⟨k, done, hk, rfl, hd1, hI, hwr⟩ := hrel
    have hTr := Go.Proofs.Utf8Tabs_below hT hwr
    by_cases hlt : k < s.size
    · have hne : s.data.toList.drop k ≠ [] := by
        intro e
        have := congrArg List.length e
        rw [List.length_drop, List.length_nil, ← Lib.size_eq] at this
        omega
      have hdec : Lib.decodeGo (s.extract k s.size) = dec (s.data.toList.drop k) := by
        unfold Lib.decodeGo
        rw [if_neg (by rw [ByteArray.size_extract]; omega), decode_dec]
      have hge := dec_ge1 (s.data.toList.drop k)
      have hle := dec_le hne
      have hle4 := dec_le4 (s.data.toList.drop k)
      have cD := Tryz.utf8_DecodeRuneInString (s.extract k s.size) wr hTr
      rw [hdec] at cD
      by_cases hb : badB (dec (s.data.toList.drop k)) = true
      · have hs2 := scan_bad hne hb
        have hfin : Hid (I (scan s.data.toList).1 wr) := by show I _ wr; rw [hd1, hs2, List.append_nil]; exact hI
        have hb' : (dec (s.data.toList.drop k)).1 = 65533 ∧ (dec (s.data.toList.drop k)).2 = 1 := badB_true hb
        rw [hb'.1, hb'.2] at cD
        clear hdec hge hle hle4 hb hb' hd1 hs2 hne hI
        go_wp2_with (first | (go_at_call 158; refine cD.mono ?_; rintro e w1 ⟨rfl, hb1⟩) | (go_at_call 127; refine (wrong_any _ _).mono ?_; rintro e w2 ⟨⟨v, rfl, hv⟩, hb2⟩) | fail)
        go_ret
        have hb12 : Below wr.heap.size wr w2 := hb1.trans (hb2.mono hb1.size)
        exact ⟨⟨_, rfl⟩, hwr.trans (hb12.mono hwr.size), .inl (H.stays _ _ _ hfin hb12)⟩
      · have hb : badB (dec (s.data.toList.drop k)) = false := Bool.eq_false_iff.2 hb
        have hs2 := scan_good hne hb
        have hl : (scan s.data.toList).1 = done ++ dec (s.data.toList.drop k) :: (scan ((s.data.toList.drop k).drop (dec (s.data.toList.drop k)).2)).1 := by rw [hd1, hs2]
        rw [List.drop_drop] at hl
        rw [List.length_drop, ← Lib.size_eq] at hle
        have hstep := H.step done _ _ hl
        obtain ⟨R, hR⟩ : ∃ R, R = (dec (s.data.toList.drop k)).1 := ⟨_, rfl⟩
        obtain ⟨K, hK⟩ : ∃ K, K = (dec (s.data.toList.drop k)).2 := ⟨_, rfl⟩
        have hp : dec (s.data.toList.drop k) = (R, K) := by rw [hR, hK]
        rw [hp] at cD hb hge hle hle4 hl hstep
        have hnext : Hid ((scan s.data.toList).1 = done ++ [(R, K)] ++ (scan (s.data.toList.drop (k + K))).1) := by
          show _ = _
          rw [hl, List.append_assoc]; rfl
        simp only [] at hge hle
        clear hdec hd1 hs2 hne hle4 hl hR hK hp
        have hbF := badB_false hb
        clear hb
        rcases hbF with hr | ⟨hr, hr2⟩
        · have hr0 : ((R : Int) == 65533) = false := by
            rw [beq_eq_false_iff_ne]
            intro e
            exact hr (by omega)
          clear hr
          go_wp2_with (first | (go_at_call 158; refine cD.mono ?_; rintro e w1 ⟨rfl, hb1⟩) | (go_at_fn F; refine (hstep w1 (H.stays _ _ _ hI hb1) (hwr.trans (hb1.mono hwr.size))).mono ?_; rintro e w2 ⟨hb2, ⟨rfl, hI2⟩ | ⟨rfl, hI2⟩⟩) | fail)
          · go_roundw
            case rel => exact ⟨k + K, done ++ [(R, K)], by omega, by go_num, hnext, hI2, hb2⟩
            case measure => simp [intOf]; omega
          · go_ret
            exact ⟨⟨_, rfl⟩, hb2, .inr ⟨_, _, hnext, hI2⟩⟩
        · have hr0 : ((K : Int) == 1) = false := by
            rw [beq_eq_false_iff_ne]
            intro e
            exact hr2 (by omega)
          subst hr
          clear hr2
          go_wp2_with (first | (go_at_call 158; refine cD.mono ?_; rintro e w1 ⟨rfl, hb1⟩) | (go_at_fn F; refine (hstep w1 (H.stays _ _ _ hI hb1) (hwr.trans (hb1.mono hwr.size))).mono ?_; rintro e w2 ⟨hb2, ⟨rfl, hI2⟩ | ⟨rfl, hI2⟩⟩) | fail)
          · go_roundw
            case rel => exact ⟨k + K, done ++ [(65533, K)], by omega, by go_num, hnext, hI2, hb2⟩
            case measure => simp [intOf]; omega
          · go_ret
            exact ⟨⟨_, rfl⟩, hb2, .inr ⟨_, _, hnext, hI2⟩⟩
    · have hend : s.data.toList.drop k = [] := List.drop_eq_nil_of_le (by rw [← Lib.size_eq]; omega)
      rw [hend, scan_nil] at hd1
      rw [List.append_nil] at hd1
      have hfin : Hid (I (scan s.data.toList).1 wr) := by show I _ wr; rw [hd1]; exact hI
      clear hd1 hend hTr
      go_wp2
      go_ret
      exact ⟨⟨_, rfl⟩, hwr, .inl hfin⟩
end Go.Proofs.YtldhbjmillfjgabGreatDoor
