/-
  rope's New, tree, Counts: of a sound text.
  rope.first: the first chunk of a tree, and the tree of the others.
  rope.chain: two trees' chunks in one.
  utf.each, where the closure may say no: how far it comes.
  utf.Walk: what its iterator does with the rounds of a loop.
  The document's own Edges: what it returns of a sound text.
  Plain mathematics, and memory: the rows of the document's Edges against what Walk hands over.
  rope.within: as few of a chunk's runes as are enough.
  rope.split: a tree in two.
  rope.split: a tree in two: to the right, and in a chunk.
  rope.split: a tree in two: within a chunk; all of it.
  rope.until: as few runes of a tree as are enough.
  rope's whole: is a place between two runes?
-/
import Derived.Test.YtgmgkbbnciglhaaDoorPartC
import Derived.Test.YtgmgkbbnciglhaaDoorPartA
import Derived.OwnWalkIn
import Derived.TacticsInMore
import Derived.LoopNIn
import Derived.LoopIn
import Derived.Test.YtgmgkbbnciglhaaDoorPartB
import Derived.RangeFuncRecord
namespace Go.Proofs.YtgmgkbbnciglhaaDoor
open Go.RowKit
set_option linter.unusedVariables false
attribute [local go_sem] Oper.semAt_some

/-- A document that lies in a block, of these runes. -/
def isRope (w : World) (b : Nat) (rs : List Nat) : Prop :=
  ∃ q t, w.cell? ⟨b, 0, none⟩ = some (.pointer q) ∧ w.frozen? ⟨b, 0, none⟩ = false ∧ w.cell? ⟨b, 5, none⟩ = none ∧ isTree w q t ∧ okT t ∧ t.runes = rs
theorem isRope_below {w w' : World} {b : Nat} {rs : List Nat} (h : isRope w b rs) (hb : Below w.heap.size w w') : isRope w' b rs := by
  obtain ⟨q, t, h1, h2, h3, h4, h5⟩ := h
  have hlt := World.block_lt_of_cell? w _ h1
  have e := hb.block b hlt
  exact ⟨q, t, (cellOn e 0).trans h1, (frozenOn e 0).trans h2, (cellOn e 5).trans h3, isTree_below hb h4, h5⟩

theorem counted_new (w : World) (n1 n2 n3 n4 : Int) (t : TypeId) : counted (w.alloc (.cells #[.int .i64 n1, .int .i64 n2, .int .i64 n3, .int .i64 n4] t)) w.heap.size n1 n2 n3 n4 := by
  refine ⟨⟨?_, ?_, ?_, ?_⟩, ?_, ?_, ?_, ?_⟩ <;> simp [go_sem]
theorem below_set4 {lo : Nat} {w W : World} {B : Nat} (hb : Below lo w W) (hlo : lo ≤ B) (u0 u1 u2 u3 : Value) :
    Below lo w ((((W.setCell ⟨B, 0, none⟩ u0).setCell ⟨B, 1, none⟩ u1).setCell ⟨B, 2, none⟩ u2).setCell ⟨B, 3, none⟩ u3) :=
  (((hb.setCell (p := ⟨B, 0, none⟩) hlo _).setCell (p := ⟨B, 1, none⟩) hlo _).setCell (p := ⟨B, 2, none⟩) hlo _).setCell (p := ⟨B, 3, none⟩) hlo _

set_option maxRecDepth 100000 in
set_option maxHeartbeats 2000000 in
theorem ropetree_any (b : Nat) (q : Option Addr) (w : World) (h : w.cell? ⟨b, 0, none⟩ = some (.pointer q)) :
    Calls Tryd.prog 82 #[.pointer (some ⟨b, 0, none⟩)] w fun e w' => e = .returned (.pointer q) ∧ w' = w := by
  go_enter Tryd.func82, Tryd.ntmps82
  go_wp2
  go_ret
  exact ⟨rfl, rfl⟩

set_option maxRecDepth 100000 in
set_option maxHeartbeats 2000000 in
theorem ropecounts_any (b : Nat) (rs : List Nat) (w : World) (h : isRope w b rs) :
    Calls Tryd.prog 38 #[.pointer (some ⟨b, 0, none⟩)] w fun e w' => e = .returned (.agg #[.int .i64 (C1 rs), .int .i64 (C2 rs), .int .i64 (C3 rs), .int .i64 (C4 rs)]) ∧ Below w.heap.size w w' := by
  obtain ⟨q, t, h1, _, _, h4, _, rfl⟩ := h
  have hb0 : ∀ o, Below w.heap.size w (w.alloc o) := fun o => (Below.refl _ w).alloc (Nat.le_refl _) o
  have cT := fun o => ropetree_any b q (w.alloc o) (cell_on (hb0 o) h1)
  have cC := fun o => ncounts_any q t (w.alloc o) (isTree_below (hb0 o) h4)
  generalize C1 t.runes = x1 at *
  generalize C2 t.runes = x2 at *
  generalize C3 t.runes = x3 at *
  generalize C4 t.runes = x4 at *
  clear h4
  go_enter Tryd.func38, Tryd.ntmps38
  go_wp2_with (first
    | (go_at_call 82; refine (cT _).mono ?_; rintro e w1 ⟨rfl, hw1⟩; obtain rfl := hw1.symm)
    | (go_at_call 83; refine (cC _).mono ?_; rintro e w2 ⟨rfl, hb2⟩; have hm := counted_below (counted_new w 0 0 0 0 36) hb2; have HM : Hid _ := hm; obtain ⟨⟨m0, m1, m2, m3⟩, n0, n1, n2, n3⟩ := hm)
    | fail)
  have hms := counted_set (m1 := x1) (m2 := x2) (m3 := x3) (m4 := x4) HM.out
  obtain ⟨⟨s0, s1, s2, s3⟩, _⟩ := hms
  have hbw := (hb0 (.cells #[.int .i64 0, .int .i64 0, .int .i64 0, .int .i64 0] 36)).trans (hb2.mono (hb0 (.cells #[.int .i64 0, .int .i64 0, .int .i64 0, .int .i64 0] 36)).size)
  refine bodyPost_ret (v := .agg #[.int .i64 x1, .int .i64 x2, .int .i64 x3, .int .i64 x4]) (by simp [results, Tryd.results38, go_sem, s0, s1, s2, s3]) rfl ⟨rfl, below_set4 hbw (Nat.le_refl _) _ _ _ _⟩

set_option maxRecDepth 100000 in
set_option maxHeartbeats 2000000 in
theorem new_good (rs : List Nat) (hr : ∀ r ∈ rs, isRune r) (hz : C1 rs ≤ 8000) (w : World) (hT : Lib.Utf8Tabs 0 1 w) :
    Calls Tryd.prog 29 #[.string (bytesOf rs)] w fun e w' => ∃ b, e = .returned (.tuple #[.pointer (some ⟨b, 0, none⟩), .nilIface]) ∧ w.heap.size ≤ b ∧ isRope w' b rs ∧ Below w.heap.size w w' := by
  have hsz : (bytesOf rs).size ≤ 8000 := by rw [bytesOf_size]; rw [C1_len] at hz; omega
  have c1 := count_of rs hr (by omega) w hT
  have c2 := fun wx (hb : Below w.heap.size w wx) => between_new rs hr (by rw [C1_len] at hz; omega) wx (Go.Proofs.Utf8Tabs_below hT hb)
  clear hr hz hT
  generalize C1 rs = x1 at *
  generalize C2 rs = x2 at *
  generalize C3 rs = x3 at *
  generalize C4 rs = x4 at *
  go_enter Tryd.func29, Tryd.ntmps29
  go_wp2_with (first
    | (go_at_call 15; refine c1.mono ?_; rintro e w1 ⟨rfl, hb1⟩; have hB1 : Below w.heap.size w (w1.alloc (.cells #[.int .i64 x1, .int .i64 x2, .int .i64 x3, .int .i64 x4] 36)) := hb1.alloc hb1.size _)
    | (go_at_call 80; refine (c2 _ hB1).mono ?_; rintro e w2 ⟨q, t, rfl, ht, ho, hrn, hb2⟩; have HT : Hid (isTree w2 q t ∧ okT t ∧ t.runes = rs) := ⟨ht, ho, hrn⟩; clear ht ho hrn)
    | fail)
  have hb2W : Below w2.heap.size w2 (w2.alloc (.cells #[.pointer q] 133)) := (Below.refl _ w2).alloc (Nat.le_refl _) _
  have hB2 := hB1.trans (hb2.mono hB1.size)
  have hR : isRope (w2.alloc (.cells #[.pointer q] 133)) w2.heap.size rs := ⟨q, t, by simp [go_sem], by simp [go_sem], by simp [go_sem], isTree_below hb2W HT.out.1, HT.out.2⟩
  refine bodyPost_ret (v := .tuple #[.pointer (some ⟨w2.heap.size, 0, none⟩), .nilIface]) (by simp [results, Tryd.results29, go_sem]) rfl ⟨_, rfl, hB2.size, hR, hB2.trans (hb2W.mono hB2.size)⟩

set_option maxRecDepth 100000 in
set_option maxHeartbeats 2000000 in
theorem new_full (rs : List Nat) (hr : ∀ r ∈ rs, isRune r) (hz : 8000 < C1 rs) (hz2 : C1 rs ≤ 100000000) (w : World) (hT : Lib.Utf8Tabs 0 1 w) :
    Calls Tryd.prog 29 #[.string (bytesOf rs)] w fun e w' => e = .returned (.tuple #[.pointer none, .iface 23 (.int .i64 12)]) ∧ Below w.heap.size w w' := by
  have hsz : 8000 < (bytesOf rs).size ∧ (bytesOf rs).size ≤ 100000000 := by rw [bytesOf_size]; rw [C1_len] at hz hz2; omega
  obtain ⟨hs1, hs2⟩ := hsz
  have hs3 : (8000 : Int) < ((bytesOf rs).size : Int) := by omega
  have c1 := count_of rs hr (by omega) w hT
  clear hr hz hz2 hT
  generalize C1 rs = x1 at *
  generalize C2 rs = x2 at *
  generalize C3 rs = x3 at *
  generalize C4 rs = x4 at *
  go_enter Tryd.func29, Tryd.ntmps29
  go_wp2_with (first
    | (go_at_call 15; refine c1.mono ?_; rintro e w1 ⟨rfl, hb1⟩)
    | fail)
  refine bodyPost_ret (v := .tuple #[.pointer none, .iface 23 (.int .i64 12)]) (by simp [results, Tryd.results29, go_sem]) rfl ⟨rfl, hb1.alloc hb1.size _⟩
end Go.Proofs.YtgmgkbbnciglhaaDoor

namespace Go.Proofs.YtgmgkbbnciglhaaDoor
open Go.RowKit
set_option linter.unusedVariables false
attribute [local go_sem] yieldsUpon okUpon


set_option maxRecDepth 100000 in
set_option maxHeartbeats 2000000 in
theorem first_one (p : Option Addr) (r : T) (c : List Nat) (w : World) (ht : isTree w p (.node .nil c r)) :
    Calls Tryd.prog 121 #[.pointer p] w fun e w' => ∃ q, e = .returned (.tuple #[chunkV c, .pointer q]) ∧ isTree w' q r ∧ Below w.heap.size w w' := by
  obtain ⟨b1, pl, pr, rfl, ⟨c0, c1, c2, c3, c4⟩, ⟨c5, c6⟩, _, _, hl, hr⟩ := ht
  have hb0 : ∀ o, Below w.heap.size w (w.alloc o) := fun o => (Below.refl _ w).alloc (Nat.le_refl _) o
  have hlt : b1 < w.heap.size := World.block_lt_of_cell? w _ c0
  have HT : Hid (isTree w pr r) := hr
  obtain rfl : pl = none := hl
  clear hr
  have d5 := fun o => cell_on (hb0 o) c5
  have hA := chunkAt_new w (.string ⟨#[]⟩) (.int .i64 0) (.int .i64 0) (.int .i64 0) (.int .i64 0) 181
  unfold chunkV
  generalize bytesOf c = v0 at *
  generalize C1 c = v1 at *
  generalize C2 c = v2 at *
  generalize C3 c = v3 at *
  generalize C4 c = v4 at *
  go_enter Tryd.func121, Tryd.ntmps121
  go_wp2
  have hbW := hb0 (.cells #[.string ⟨#[]⟩, .int .i64 0, .int .i64 0, .int .i64 0, .int .i64 0] 181)
  generalize (w.alloc (.cells #[.string ⟨#[]⟩, .int .i64 0, .int .i64 0, .int .i64 0, .int .i64 0] 181)) = W at *
  clear d5 hb0
  refine wp_region_but w.heap.size 10 10 (by kernel_rfl) rfl ?_
  intro w1 hb1
  have hbw := hbW.trans (hb1.mono hbW.size)
  have hA1 := chunkAt_below hA hb1
  obtain ⟨G, hG⟩ := exists_growB w.heap.size w1
  have hw0 := But.refl w.heap.size w1
  have hne : b1 ≠ w.heap.size := Nat.ne_of_lt hlt
  have g0 := hG.cell hne (cell_on hbw c0)
  have g1 := hG.cell hne (cell_on hbw c1)
  have g2 := hG.cell hne (cell_on hbw c2)
  have g3 := hG.cell hne (cell_on hbw c3)
  have g4 := hG.cell hne (cell_on hbw c4)
  have g6 := hG.cell hne (cell_on hbw c6)
  clear c0 c1 c2 c3 c4 c5 c6 hA
  (refine anyB_step hG hw0 (i := 0) rfl (by kernel_rfl) (by kernel_rfl) (by kernel_rfl) (fun K hK => ?_); go_simp; refine hK _ ?_; clear hK K)
  (refine anyB_step hG hw0 (i := 1) rfl (by kernel_rfl) (by kernel_rfl) (by kernel_rfl) (fun K hK => ?_); go_simp; refine hK _ ?_; clear hK K)
  (refine anyB_step hG hw0 (i := 2) rfl (by kernel_rfl) (by kernel_rfl) (by kernel_rfl) (fun K hK => ?_); go_simp; refine hK _ ?_; clear hK K)
  (refine anyB_step hG hw0 (i := 3) rfl (by kernel_rfl) (by kernel_rfl) (by kernel_rfl) (fun K hK => ?_); go_simp; refine hK _ ?_; clear hK K)
  (refine anyB_step hG hw0 (i := 4) rfl (by kernel_rfl) (by kernel_rfl) (by kernel_rfl) (fun K hK => ?_); go_simp; refine hK _ ?_; clear hK K)
  (refine anyB_step hG hw0 (i := 5) rfl (by kernel_rfl) (by kernel_rfl) (by kernel_rfl) (fun K hK => ?_); go_simp; refine hK _ ?_; clear hK K)
  (refine anyB_step hG hw0 (i := 6) rfl (by kernel_rfl) (by kernel_rfl) (by kernel_rfl) (fun K hK => ?_); go_simp; refine hK _ ?_; clear hK K)
  (refine anyB_step hG hw0 (i := 7) rfl (by kernel_rfl) (by kernel_rfl) (by kernel_rfl) (fun K hK => ?_); go_simp; refine hK _ ?_; clear hK K)
  clear g0 g1 g2 g3 g4 g6 hG
  refine anyB_one (i := 8) (by kernel_rfl) ⟨_, rfl, ?_⟩
  intro w2 hb2 K hK
  have hA2 := chunkAt_below hA1 hb2
  have hbw2 := hbw.trans (hb2.mono hbw.size)
  have HA2 : Hid _ := hA2
  obtain ⟨⟨a0, a1, a2, a3, a4⟩, f0, f1, f2, f3, f4⟩ := hA2
  go_simp
  refine hK _ _ (fun h => ((((h.setCell rfl _).setCell rfl _).setCell rfl _).setCell rfl _).setCell rfl _) ?_
  clear hK K
  refine anyB_one (i := 9) (by kernel_rfl) ⟨_, rfl, ?_⟩
  intro w3 hb3 K hK
  have hA3 := chunkAt_below (chunkAt_set HA2.out) hb3
  have hbw3 := (below_set5 hbw2 (Nat.le_refl _) _ _ _ _ _).trans (hb3.mono (below_set5 hbw2 (Nat.le_refl _) _ _ _ _ _).size)
  go_simp
  refine hK _ _ (fun h => h) ?_
  clear hK K
  refine anyB_end (by kernel_rfl) ?_
  intro w4 hb4
  have hA4 := chunkAt_below hA3 hb4
  have hbw4 := hbw3.trans (hb4.mono hbw3.size)
  clear a0 a1 a2 a3 a4 f0 f1 f2 f3 f4 hb3 hb4 hA3 HA2 hA1
  have HT4 : Hid _ := isTree_below hbw4 HT.out
  obtain ⟨⟨a0, a1, a2, a3, a4⟩, f0, f1, f2, f3, f4⟩ := hA4
  go_wp2
  refine bodyPost_ret (v := .tuple #[.agg #[.string v0, .int .i64 v1, .int .i64 v2, .int .i64 v3, .int .i64 v4], .pointer pr]) (by simp [results, Tryd.results121, go_sem, a0, a1, a2, a3, a4]) rfl ⟨_, rfl, HT4.out, hbw4⟩

set_option maxRecDepth 100000 in
set_option maxHeartbeats 2000000 in
theorem first_more (p : Option Addr) (l r : T) (c : List Nat) (w : World) (ht : isTree w p (.node l c r)) (hne : l ≠ .nil) (hz : big (.node l c r)) (hbal : (T.node l c r).bal)
    (ih : ∀ (p : Option Addr) (w : World), isTree w p l → Calls Tryd.prog 121 #[.pointer p] w fun e w' => ∃ c q t, e = .returned (.tuple #[chunkV c, .pointer q]) ∧ isTree w' q t ∧ begun l c t ∧ Below w.heap.size w w') :
    Calls Tryd.prog 121 #[.pointer p] w fun e w' => ∃ c1 q t, e = .returned (.tuple #[chunkV c1, .pointer q]) ∧ isTree w' q t ∧ begun (.node l c r) c1 t ∧ Below w.heap.size w w' := by
  obtain ⟨b1, pl, pr, rfl, ⟨c0, c1, c2, c3, c4⟩, ⟨c5, c6⟩, _, _, hl, hr⟩ := ht
  have hb0 : ∀ o, Below w.heap.size w (w.alloc o) := fun o => (Below.refl _ w).alloc (Nat.le_refl _) o
  have hlt : b1 < w.heap.size := World.block_lt_of_cell? w _ c0
  have hsub : ∃ b2, pl = some ⟨b2, 0, none⟩ := by
    cases l with
    | nil => exact absurd rfl hne
    | node x y z => obtain ⟨b, _, _, e, _⟩ := hl; exact ⟨b, e⟩
  obtain ⟨b2, rfl⟩ := hsub
  have cI := fun o => ih _ (w.alloc o) (isTree_below (hb0 o) hl)
  have HT : Hid (isTree w pr r) := hr
  have HJ : Hid (∀ c1 t, begun l c1 t → ∀ p1 p2 W, isTree W p1 t → isTree W p2 r → Calls Tryd.prog 127 #[.pointer p1, chunkV c, .pointer p2] W fun e w' => ∃ q t', e = .returned (.pointer q) ∧ isTree w' q t' ∧ begun (.node l c r) c1 t' ∧ Below W.heap.size W w') := fun c1 t he p1 p2 W h1 h2 => by
    obtain ⟨b1, b2, b3, b4⟩ := hbal
    have hbig : big (.node t c r) := by
      obtain ⟨z1, z2⟩ := hz
      have e1 := he.1
      simp only [T.runes, T.size, C1_append] at z1 z2
      rw [runes_chunks l, e1] at z1
      rw [size_chunks l, e1] at z2
      simp only [List.flatten_append, C1_append, List.length_append, List.length_singleton] at z1 z2
      have := C1_pos [c1].flatten
      exact ⟨by simp only [T.runes, C1_append, runes_chunks t]; omega, by simp only [T.size, size_chunks t]; omega⟩
    refine (join_any _ p1 p2 t r c W (Nat.le_refl _) h1 h2 hbig he.2 b2).mono ?_
    rintro e w' ⟨q, t', rfl, ht', ⟨j1, j2, _, _⟩, hb⟩
    exact ⟨q, t', rfl, ht', ⟨by rw [j1, T.chunks, he.1]; simp, j2⟩, hb⟩
  clear hl hr hne hz hbal ih
  have d5 := fun o => cell_on (hb0 o) c5
  have hA := chunkAt_new w (.string ⟨#[]⟩) (.int .i64 0) (.int .i64 0) (.int .i64 0) (.int .i64 0) 181
  have hN : (w.alloc (.cells #[.string ⟨#[]⟩, .int .i64 0, .int .i64 0, .int .i64 0, .int .i64 0] 181)).cell? ⟨w.heap.size, 5, none⟩ = none := by simp [go_sem]
  have HA : Hid _ := hA
  have HN : Hid _ := hN
  clear hA hN
  unfold chunkV at cI HJ ⊢
  go_enter Tryd.func121, Tryd.ntmps121
  go_wp2_with (first | (go_at_call 121; refine (cI _).mono ?_; rintro e w1 ⟨x, p', t, rfl, ht1, he, hb1⟩; have HT1 : Hid _ := ht1; have HE : Hid _ := he; clear ht1 he) | fail)
  obtain ⟨W, hW⟩ : ∃ W, w1.alloc (.cells #[.string (bytesOf x), .int .i64 (C1 x), .int .i64 (C2 x), .int .i64 (C3 x), .int .i64 (C4 x)] 181) = W := ⟨_, rfl⟩
  have hB4 : chunkAt W w1.heap.size (.string (bytesOf x)) (.int .i64 (C1 x)) (.int .i64 (C2 x)) (.int .i64 (C3 x)) (.int .i64 (C4 x)) := by rw [← hW]; exact chunkAt_new _ _ _ _ _ _ _
  have hb1W : Below w1.heap.size w1 W := by rw [← hW]; exact (Below.refl _ _).alloc (Nat.le_refl _) _
  rw [hW]
  clear hW cI d5
  have hA := chunkAt_below (chunkAt_below HA.out hb1) hb1W
  have hltA := chunkAt_lt HA.out
  have hN := (((hb1.trans (hb1W.mono hb1.size)).cell (p := ⟨w.heap.size, 5, none⟩) hltA)).trans HN.out
  have ht1 := isTree_below hb1W HT1.out
  have hbW := (hb0 (.cells #[.string ⟨#[]⟩, .int .i64 0, .int .i64 0, .int .i64 0, .int .i64 0] 181)).trans ((hb1.trans (hb1W.mono hb1.size)).mono (hb0 (.cells #[.string ⟨#[]⟩, .int .i64 0, .int .i64 0, .int .i64 0, .int .i64 0] 181)).size)
  have hn14 : w1.heap.size ≠ w.heap.size := by have := hb1.size; omega
  clear HA HN HT1 hb1 hb1W hb0
  refine wp_region_but w.heap.size 13 13 (by kernel_rfl) rfl ?_
  intro w2 hb2
  have hbw := hbW.trans (hb2.mono hbW.size)
  have HA1 : Hid _ := chunkAt_below hA hb2
  have HN1 : Hid _ := (hb2.cell (p := ⟨w.heap.size, 5, none⟩) (chunkAt_lt hA)).trans hN
  have HT1 : Hid _ := isTree_below hb2 ht1
  have hB4' := chunkAt_below hB4 hb2
  obtain ⟨⟨e0, e1, e2, e3, e4⟩, _⟩ := hB4'
  obtain ⟨G, hG⟩ := exists_growB w.heap.size w2
  have hw0 := But.refl w.heap.size w2
  have hne : b1 ≠ w.heap.size := Nat.ne_of_lt hlt
  have g0 := hG.cell hne (cell_on hbw c0)
  have g1 := hG.cell hne (cell_on hbw c1)
  have g2 := hG.cell hne (cell_on hbw c2)
  have g3 := hG.cell hne (cell_on hbw c3)
  have g4 := hG.cell hne (cell_on hbw c4)
  have g6 := hG.cell hne (cell_on hbw c6)
  have k0 := hG.cell hn14 e0
  have k1 := hG.cell hn14 e1
  have k2 := hG.cell hn14 e2
  have k3 := hG.cell hn14 e3
  have k4 := hG.cell hn14 e4
  clear c0 c1 c2 c3 c4 c5 c6 hA hN ht1 hB4 e0 e1 e2 e3 e4
  (refine anyB_step hG hw0 (i := 0) rfl (by kernel_rfl) (by kernel_rfl) (by kernel_rfl) (fun K hK => ?_); go_simp; refine hK _ ?_; clear hK K)
  (refine anyB_step hG hw0 (i := 1) rfl (by kernel_rfl) (by kernel_rfl) (by kernel_rfl) (fun K hK => ?_); go_simp; refine hK _ ?_; clear hK K)
  (refine anyB_step hG hw0 (i := 2) rfl (by kernel_rfl) (by kernel_rfl) (by kernel_rfl) (fun K hK => ?_); go_simp; refine hK _ ?_; clear hK K)
  (refine anyB_step hG hw0 (i := 3) rfl (by kernel_rfl) (by kernel_rfl) (by kernel_rfl) (fun K hK => ?_); go_simp; refine hK _ ?_; clear hK K)
  (refine anyB_step hG hw0 (i := 4) rfl (by kernel_rfl) (by kernel_rfl) (by kernel_rfl) (fun K hK => ?_); go_simp; refine hK _ ?_; clear hK K)
  (refine anyB_step hG hw0 (i := 5) rfl (by kernel_rfl) (by kernel_rfl) (by kernel_rfl) (fun K hK => ?_); go_simp; refine hK _ ?_; clear hK K)
  (refine anyB_step hG hw0 (i := 6) rfl (by kernel_rfl) (by kernel_rfl) (by kernel_rfl) (fun K hK => ?_); go_simp; refine hK _ ?_; clear hK K)
  (refine anyB_step hG hw0 (i := 7) rfl (by kernel_rfl) (by kernel_rfl) (by kernel_rfl) (fun K hK => ?_); go_simp; refine hK _ ?_; clear hK K)
  (refine anyB_step hG hw0 (i := 8) rfl (by kernel_rfl) (by kernel_rfl) (by kernel_rfl) (fun K hK => ?_); go_simp; refine hK _ ?_; clear hK K)
  (refine anyB_step hG hw0 (i := 9) rfl (by kernel_rfl) (by kernel_rfl) (by kernel_rfl) (fun K hK => ?_); go_simp; refine hK _ ?_; clear hK K)
  clear g0 g1 g2 g3 g4 g6 k0 k1 k2 k3 k4 hG hb2
  refine anyB_one (i := 10) (by kernel_rfl) ⟨_, rfl, ?_⟩
  · intro w3 hb3 K hK
    have hbw3 := hbw.trans (hb3.mono hbw.size)
    have ht3 := isTree_below hb3 HT1.out
    have cj := HJ.out x t HE.out _ _ w3 ht3 (isTree_below hbw3 HT.out)
    go_simp
    refine cj.mono ?_
    rintro e w4 ⟨q, t', rfl, ht4, he4, hb4⟩
    have HE9 : Hid _ := he4
    refine ⟨_, rfl, hK _ _ (fun h => h.trans (But.of_below hb4)) ?_⟩
    clear hK K cj he4 ht3
    have hb34 := hb3.trans (hb4.mono hb3.size)
    have hbw4 := hbw3.trans (hb4.mono hbw3.size)
    have HA4 : Hid _ := chunkAt_below HA1.out hb34
    have HN4 : Hid _ := (hb34.cell (p := ⟨w.heap.size, 5, none⟩) (chunkAt_lt HA1.out)).trans HN1.out
    refine anyB_one (i := 11) (by kernel_rfl) ⟨_, rfl, ?_⟩
    intro w5 hb5 K hK
    have hbw5 := hbw4.trans (hb5.mono hbw4.size)
    have hN5 := (hb5.cell (p := ⟨w.heap.size, 5, none⟩) (chunkAt_lt HA4.out)).trans HN4.out
    have HT5 : Hid _ := isTree_but (((((But.refl w.heap.size w5).setCell (p := ⟨w.heap.size, 0, none⟩) rfl (.string (bytesOf x))).setCell (p := ⟨w.heap.size, 1, none⟩) rfl (.int .i64 (C1 x))).setCell (p := ⟨w.heap.size, 2, none⟩) rfl (.int .i64 (C2 x))).setCell (p := ⟨w.heap.size, 3, none⟩) rfl (.int .i64 (C3 x)) |>.setCell (p := ⟨w.heap.size, 4, none⟩) rfl (.int .i64 (C4 x))) hN5 (isTree_below hb5 ht4)
    clear ht4 hN5
    have HA5 : Hid _ := chunkAt_below HA4.out hb5
    have hx := HA5.out
    obtain ⟨⟨a0, a1, a2, a3, a4⟩, f0, f1, f2, f3, f4⟩ := hx
    go_simp
    refine hK _ _ (fun h => ((((h.setCell rfl _).setCell rfl _).setCell rfl _).setCell rfl _).setCell rfl _) ?_
    clear hK K a0 a1 a2 a3 a4 f0 f1 f2 f3 f4
    have hbs := below_set5 hbw5 (Nat.le_refl _) (.string (bytesOf x)) (.int .i64 (C1 x)) (.int .i64 (C2 x)) (.int .i64 (C3 x)) (.int .i64 (C4 x))
    have hAs := chunkAt_set (u0 := .string (bytesOf x)) (u1 := .int .i64 (C1 x)) (u2 := .int .i64 (C2 x)) (u3 := .int .i64 (C3 x)) (u4 := .int .i64 (C4 x)) HA5.out
    have hts := HT5.out
    refine anyB_one (i := 12) (by kernel_rfl) ⟨_, rfl, ?_⟩
    intro w8 hb8 K hK
    go_simp
    refine hK _ _ (fun h => h) ?_
    clear hK K
    refine anyB_end (by kernel_rfl) ?_
    intro w9 hb9
    have hb89 := hb8.trans (hb9.mono hb8.size)
    have hA9 := chunkAt_below hAs hb89
    have hbw9 := hbs.trans (hb89.mono hbs.size)
    have HT9 : Hid _ := isTree_below hb89 hts
    clear hb8 hb9 hb89 hts
    obtain ⟨⟨a0, a1, a2, a3, a4⟩, f0, f1, f2, f3, f4⟩ := hA9
    go_wp2
    refine bodyPost_ret (v := .tuple #[chunkV x, .pointer q]) (by simp [results, Tryd.results121, go_sem, a0, a1, a2, a3, a4, chunkV]) rfl ⟨_, _, _, rfl, HT9.out, HE9.out, hbw9⟩

theorem ropefirst_any : ∀ (n : Nat) (t : T) (p : Option Addr) (w : World), t.size ≤ n → t ≠ .nil → isTree w p t → big t → t.bal →
    Calls Tryd.prog 121 #[.pointer p] w fun e w' => ∃ c q t', e = .returned (.tuple #[chunkV c, .pointer q]) ∧ isTree w' q t' ∧ begun t c t' ∧ Below w.heap.size w w' := by
  intro n
  induction n with
  | zero =>
    intro t p w hn hne
    cases t with
    | nil => exact absurd rfl hne
    | node l c r => simp [T.size] at hn
  | succ n ih =>
    intro t p w hn hne ht hz hbal
    match t, hn, hne, ht, hz, hbal with
    | .nil, _, hne, _, _, _ => exact absurd rfl hne
    | .node l c r, hn, _, ht, hz, hbal =>
      by_cases hs : l = .nil
      · subst hs
        refine (first_one p r c w ht).mono ?_
        rintro e w' ⟨q, rfl, hq, hb⟩
        exact ⟨c, q, r, rfl, hq, ⟨by simp [T.chunks], hbal.2.1⟩, hb⟩
      · simp only [T.size] at hn
        exact first_more p l r c w ht hs hz hbal fun p' w' h' => ih l p' w' (by omega) hs h' (big_node hz).1 hbal.1
end Go.Proofs.YtgmgkbbnciglhaaDoor

namespace Go.Proofs.YtgmgkbbnciglhaaDoor
open Go.RowKit
set_option linter.unusedVariables false
attribute [local go_sem] Oper.semAt_some

theorem tree_at {w : World} {p : Option Addr} {t : T} (h : isTree w p t) : (t = .nil ∧ p = none) ∨ ∃ b, p = some ⟨b, 0, none⟩ ∧ t ≠ .nil := by
  cases t with
  | nil => exact .inl ⟨rfl, h⟩
  | node l c r =>
    obtain ⟨b, _, _, rfl, _⟩ := h
    exact .inr ⟨b, rfl, by simp⟩
theorem begun_ok {t t' : T} {c : List Nat} (h : begun t c t') (ho : okT t) : okChunk c ∧ okT t' ∧ t.runes = c ++ t'.runes :=
  ⟨ho.2 c (by rw [h.1]; simp), ⟨h.2, fun x hx => ho.2 x (by rw [h.1]; simp [hx])⟩, by rw [runes_chunks, runes_chunks t', h.1]; simp⟩
theorem ended_ok {t t' : T} {c : List Nat} (h : ended t c t') (ho : okT t) : okChunk c ∧ okT t' ∧ t.runes = t'.runes ++ c :=
  ⟨ho.2 c (by rw [h.1]; simp), ⟨h.2, fun x hx => ho.2 x (by rw [h.1]; simp [hx])⟩, by rw [runes_chunks, runes_chunks t', h.1]; simp⟩
theorem joined_ok {l r t : T} {c : List Nat} (h : joined l r c t) (hl : okT l) (hr : okT r) (hc : okChunk c) : okT t ∧ t.runes = l.runes ++ c ++ r.runes := by
  refine ⟨⟨h.2.1, fun x hx => ?_⟩, by rw [runes_chunks, runes_chunks l, runes_chunks r, h.1]; simp⟩
  rw [h.1] at hx
  simp only [List.mem_append, List.mem_singleton] at hx
  rcases hx with (hx | rfl) | hx
  · exact hl.2 x hx
  · exact hc
  · exact hr.2 x hx
theorem big_three {l r : T} {x : List Nat} (hl : okT l) (hr : okT r) (hx : okChunk x) (hz : C1 (l.runes ++ x ++ r.runes) ≤ 100000000) : big (.node l x r) := by
  have e : (T.node l x r).runes = l.runes ++ x ++ r.runes := by simp [T.runes]
  have h1 := okT_size hl.2
  have h2 := okT_size hr.2
  have h3 := (C3_le (l.runes ++ x ++ r.runes)).2
  unfold C3 at h3
  have hx1 : 1 ≤ x.length := by cases x with | nil => exact absurd rfl hx.1 | cons _ _ => simp
  rw [← runes_chunks] at h1 h2
  rw [List.length_append, List.length_append] at h3
  refine ⟨by rw [e]; omega, ?_⟩
  simp only [T.size]
  rw [size_chunks, size_chunks]
  omega
theorem but_set5 (W : World) (B : Nat) (u0 u1 u2 u3 u4 : Value) : But B W (((((W.setCell ⟨B, 0, none⟩ u0).setCell ⟨B, 1, none⟩ u1).setCell ⟨B, 2, none⟩ u2).setCell ⟨B, 3, none⟩ u3).setCell ⟨B, 4, none⟩ u4) :=
  (((((But.refl B W).setCell (p := ⟨B, 0, none⟩) rfl u0).setCell (p := ⟨B, 1, none⟩) rfl u1).setCell (p := ⟨B, 2, none⟩) rfl u2).setCell (p := ⟨B, 3, none⟩) rfl u3).setCell (p := ⟨B, 4, none⟩) rfl u4
theorem C1_left {a b : List Nat} {k : Int} (h : C1 (a ++ b) ≤ k) : C1 a ≤ k := by rw [C1_append] at h; have := C1_pos b; omega
theorem C1_right {a b : List Nat} {k : Int} (h : C1 (a ++ b) ≤ k) : C1 b ≤ k := by rw [C1_append] at h; have := C1_pos a; omega

set_option maxRecDepth 100000 in
set_option maxHeartbeats 2000000 in
theorem chain_more (pl : Option Addr) (bb : Nat) (l r : T) (w : World) (hT : Lib.Utf8Tabs 0 1 w) (hl : isTree w pl l) (hr : isTree w (some ⟨bb, 0, none⟩) r) (hne : r ≠ .nil) (hol : okT l) (hor : okT r) (hz : C1 (l.runes ++ r.runes) ≤ 100000000) :
    Calls Tryd.prog 125 #[.pointer pl, .pointer (some ⟨bb, 0, none⟩)] w fun e w' => ∃ q t, e = .returned (.pointer q) ∧ isTree w' q t ∧ okT t ∧ t.runes = l.runes ++ r.runes ∧ Below w.heap.size w w' := by
  have HL : Hid (isTree w pl l) := hl
  have HOL : Hid (okT l) := hol
  have HOR : Hid (okT r) := hor
  have HZ : Hid (C1 (l.runes ++ r.runes) ≤ 100000000) := hz
  have HT : Hid (Lib.Utf8Tabs 0 1 w) := hT
  have cF := ropefirst_any _ r _ w (Nat.le_refl _) hne hr (okT_big hor (C1_right hz)) hor.1
  clear hl hr hne hol hor hz hT
  go_enter Tryd.func125, Tryd.ntmps125
  go_wp2_with (first | (go_at_call 9999) | fail)
  refine cF.mono ?_
  rintro e w1 ⟨x, q0, t0, rfl, ht0, hbg, hb1⟩
  obtain ⟨hx, ho0, hrn⟩ := begun_ok hbg HOR.out
  have hb1W : Below w1.heap.size w1 (w1.alloc (.cells #[.string (bytesOf x), .int .i64 (C1 x), .int .i64 (C2 x), .int .i64 (C3 x), .int .i64 (C4 x)] 181)) := (Below.refl _ w1).alloc (Nat.le_refl _) _
  have hbW := hb1.trans (hb1W.mono hb1.size)
  have HA : Hid (okChunk x ∧ okT t0 ∧ r.runes = x ++ t0.runes) := ⟨hx, ho0, hrn⟩
  have cA := add_any pl l x _ (Go.Proofs.Utf8Tabs_below HT.out hbW) (isTree_below hbW HL.out) (big_put HOL.out hx (by have := HZ.out; rw [hrn, ← List.append_assoc] at this; exact C1_left this)) HOL.out hx
  have HT0 : Hid _ := isTree_below hb1W ht0
  have HB : Hid _ := hbW
  have hm := chunkAt_new w1 (.string (bytesOf x)) (.int .i64 (C1 x)) (.int .i64 (C2 x)) (.int .i64 (C3 x)) (.int .i64 (C4 x)) 181
  have hk5' : (w1.alloc (.cells #[.string (bytesOf x), .int .i64 (C1 x), .int .i64 (C2 x), .int .i64 (C3 x), .int .i64 (C4 x)] 181)).cell? ⟨w1.heap.size, 5, none⟩ = none := by simp [go_sem]
  have HSZ : Hid (w.heap.size ≤ w1.heap.size) := hb1.size
  unfold chunkV at *
  clear cF hbg hx ho0 hrn
  rcases tree_at ht0 with ⟨rfl, rfl⟩ | ⟨b0, rfl, hne0⟩
  · clear ht0 hb1 hb1W hbW
    go_wp2_with (first
      | (go_at_call 123; refine cA.mono ?_; rintro e w2 ⟨q2, t2, rfl, ht2, ha2, hb2⟩; have HT2 : Hid _ := ht2; have HA2 : Hid _ := ha2; clear ht2 ha2)
      | fail)
    go_ret
    exact ⟨q2, t2, rfl, HT2.out, HA2.out.2.1, by rw [HA2.out.1, HA.out.2.2]; simp [T.runes], HB.out.trans (hb2.mono HB.out.size)⟩
  · clear ht0 hb1 hb1W hbW
    go_wp2_with (first
      | (go_at_call 123; refine cA.mono ?_; rintro e w2 ⟨q2, t2, rfl, ht2, ha2, hb2⟩; have HT2 : Hid _ := ht2; have HA2 : Hid _ := ha2; have HB2 : Hid _ := hb2; have hm2 := chunkAt_below hm hb2; clear ht2 ha2 hb2)
      | fail)
    have hk5 : w2.cell? ⟨w1.heap.size, 5, none⟩ = none := (cellOn (HB2.out.block w1.heap.size (by simp)) 5).trans hk5'
    have hoA := HA.out.2.1
    refine (ropefirst_any _ t0 _ w2 (Nat.le_refl _) hne0 (isTree_below HB2.out HT0.out) (okT_big hoA (by have := HZ.out; rw [HA.out.2.2] at this; exact C1_right (C1_right this))) hoA.1).mono ?_
    rintro e w3 ⟨y, q3, t3, rfl, ht3, hbg3, hb3⟩
    obtain ⟨hy, ho3, hrn3⟩ := begun_ok hbg3 hoA
    have HB3 : Hid _ := hb3
    have HT3 : Hid _ := ht3
    have HA3 : Hid (okChunk y ∧ okT t3 ∧ t0.runes = y ++ t3.runes) := ⟨hy, ho3, hrn3⟩
    have HK5 : Hid (w3.cell? ⟨w1.heap.size, 5, none⟩ = none) := (cellOn (hb3.block w1.heap.size (World.block_lt_of_cell? _ _ hm2.1.1)) 5).trans hk5
    have hm3 := chunkAt_below hm2 hb3
    have HM3 : Hid _ := hm3
    obtain ⟨⟨m0, m1, m2, m3, m4⟩, f0, f1, f2, f3, f4⟩ := hm3
    have HBU : Hid _ := but_set5 w3 w1.heap.size (.string (bytesOf y)) (.int .i64 (C1 y)) (.int .i64 (C2 y)) (.int .i64 (C3 y)) (.int .i64 (C4 y))
    have cJ := join_any _ q2 q3 t2 t3 y _ (Nat.le_refl _) (isTree_but HBU.out HK5.out (isTree_below hb3 HT2.out)) (isTree_but HBU.out HK5.out ht3) (big_three HA2.out.2.1 ho3 hy (by have := HZ.out; rw [HA.out.2.2, hrn3] at this; rw [HA2.out.1]; simpa using this)) HA2.out.2.1.1 ho3.1
    unfold chunkV at *
    clear hm hm2 cA hk5 hk5' hoA ht3 hbg3 hb3 hy ho3 hrn3
    go_wp2_with (first
      | (go_at_call 127; refine cJ.mono ?_; rintro e w4 ⟨q4, t4, rfl, ht4, hj4, hb4⟩; have HT4 : Hid _ := ht4; have HJ4 : Hid _ := hj4; have HB4 : Hid _ := hb4; clear ht4 hj4 hb4)
      | fail)
    obtain ⟨j1, j2⟩ := joined_ok HJ4.out HA2.out.2.1 HA3.out.2.1 HA3.out.1
    go_ret
    have hB3 : Below w.heap.size w w3 := (HB.out.trans (HB2.out.mono HB.out.size)).trans (HB3.out.mono (HB.out.trans (HB2.out.mono HB.out.size)).size)
    have hB5 := below_set5 hB3 (B := w1.heap.size) HSZ.out (.string (bytesOf y)) (.int .i64 (C1 y)) (.int .i64 (C2 y)) (.int .i64 (C3 y)) (.int .i64 (C4 y))
    exact ⟨q4, t4, rfl, HT4.out, j1, by rw [j2, HA2.out.1, HA.out.2.2, HA3.out.2.2]; simp, hB5.trans (HB4.out.mono hB5.size)⟩

theorem chain_any (pl pr : Option Addr) (l r : T) (w : World) (hT : Lib.Utf8Tabs 0 1 w) (hl : isTree w pl l) (hr : isTree w pr r) (hol : okT l) (hor : okT r) (hz : C1 (l.runes ++ r.runes) ≤ 100000000) :
    Calls Tryd.prog 125 #[.pointer pl, .pointer pr] w fun e w' => ∃ q t, e = .returned (.pointer q) ∧ isTree w' q t ∧ okT t ∧ t.runes = l.runes ++ r.runes ∧ Below w.heap.size w w' := by
  rcases tree_at hr with ⟨rfl, rfl⟩ | ⟨b, rfl, hne⟩
  · refine (chain_nil pl w).mono ?_
    rintro e w' ⟨rfl, rfl⟩
    exact ⟨pl, l, rfl, hl, hol, by simp [T.runes], Below.refl _ _⟩
  · exact chain_more pl b l r w hT hl hr hne hol hor hz
end Go.Proofs.YtgmgkbbnciglhaaDoor

namespace Go.Proofs.YtgmgkbbnciglhaaDoor
open Go.RowKit

/-- What each rune's closure keeps, and what holds where it has said no. -/
structure TakesS (W : World) (F : Nat) (cap : Array Value) (l : List (Nat × Nat)) (I Ix : List (Nat × Nat) → World → Prop) : Prop where
  enters : ∀ args w, (callFunc F args).run Tryd.prog w = .ok (.enter F args) w
  stays : ∀ done w w', I done w → Below w.heap.size w w' → I done w'
  step : ∀ done p rest, l = done ++ p :: rest → ∀ w, I done w → Below W.heap.size W w →
    Calls Tryd.prog F (#[.int .i32 p.1, .int .i64 p.2] ++ cap) w fun e w' => Below W.heap.size W w' ∧ ((e = .returned (.bool true) ∧ I (done ++ [p]) w') ∨ (e = .returned (.bool false) ∧ Ix (done ++ [p]) w'))

set_option maxHeartbeats 2000000 in
theorem each_stops (s : ByteArray) (hs : s.size ≤ maxLen) (F : Nat) (cap : Array Value) (W : World) (hT : Lib.Utf8Tabs 0 1 W) (I Ix : List (Nat × Nat) → World → Prop)
    (H : TakesS W F cap (scan s.data.toList).1 I Ix) (w : World) (hw : Below W.heap.size W w) (h0 : I [] w) :
    Calls Tryd.prog 63 #[.string s, .func (.func F) #[] cap] w fun e w' => (∃ v, e = .returned v) ∧ Below W.heap.size W w' ∧
      (I (scan s.data.toList).1 w' ∨ (∃ pre rest, (scan s.data.toList).1 = pre ++ rest ∧ Ix pre w')) := by
  unfold maxLen at hs
  have hent := H.enters
  go_enter Tryd.func63, Tryd.ntmps63
  go_wp2
  go_loopw [5, 6, 7, 12] (fun at_ _ _ _ wr => ∃ (k : Nat) (done : List (Nat × Nat)), k ≤ s.size ∧ at_ = .int .i64 k ∧ (scan s.data.toList).1 = done ++ (scan (s.data.toList.drop k)).1 ∧ I done wr ∧ Below W.heap.size W wr) (fun at_ _ _ _ _ => s.size - (intOf at_).toNat)
  case atStart => exact ⟨0, [], Nat.zero_le _, rfl, by rw [List.drop_zero]; rfl, h0, hw⟩
  case round =>
    obtain ⟨k, done, hk, rfl, hd1, hI, hwr⟩ := hrel
    have hTr := Go.Proofs.Utf8Tabs_below hT hwr
    by_cases hlt : k < s.size
    · have hne : s.data.toList.drop k ≠ [] := by
        intro e
        have := congrArg List.length e
        rw [List.length_drop, List.length_nil, ← Lib.size_eq] at this
        omega
      have hdec : Lib.decodeGo (s.extract k s.size) = dec (s.data.toList.drop k) := by
        unfold Lib.decodeGo
        rw [if_neg (by rw [ByteArray.size_extract]; omega), decode_dec]
      have hge := dec_ge1 (s.data.toList.drop k)
      have hle := dec_le hne
      have hle4 := dec_le4 (s.data.toList.drop k)
      have cD := Tryd.utf8_DecodeRuneInString (s.extract k s.size) wr hTr
      rw [hdec] at cD
      by_cases hb : badB (dec (s.data.toList.drop k)) = true
      · have hs2 := scan_bad hne hb
        have hfin : Hid (I (scan s.data.toList).1 wr) := by show I _ wr; rw [hd1, hs2, List.append_nil]; exact hI
        have hb' : (dec (s.data.toList.drop k)).1 = 65533 ∧ (dec (s.data.toList.drop k)).2 = 1 := badB_true hb
        rw [hb'.1, hb'.2] at cD
        clear hdec hge hle hle4 hb hb' hd1 hs2 hne hI
        go_wp2_with (first | (go_at_call 112; refine cD.mono ?_; rintro e w1 ⟨rfl, hb1⟩) | (go_at_call 76; refine (wrong_any _ _).mono ?_; rintro e w2 ⟨⟨v, rfl, hv⟩, hb2⟩) | fail)
        go_ret
        have hb12 : Below wr.heap.size wr w2 := hb1.trans (hb2.mono hb1.size)
        exact ⟨⟨_, rfl⟩, hwr.trans (hb12.mono hwr.size), .inl (H.stays _ _ _ hfin hb12)⟩
      · have hb : badB (dec (s.data.toList.drop k)) = false := Bool.eq_false_iff.2 hb
        have hs2 := scan_good hne hb
        have hl : (scan s.data.toList).1 = done ++ dec (s.data.toList.drop k) :: (scan ((s.data.toList.drop k).drop (dec (s.data.toList.drop k)).2)).1 := by rw [hd1, hs2]
        rw [List.drop_drop] at hl
        rw [List.length_drop, ← Lib.size_eq] at hle
        have hstep := H.step done _ _ hl
        obtain ⟨R, hR⟩ : ∃ R, R = (dec (s.data.toList.drop k)).1 := ⟨_, rfl⟩
        obtain ⟨K, hK⟩ : ∃ K, K = (dec (s.data.toList.drop k)).2 := ⟨_, rfl⟩
        have hp : dec (s.data.toList.drop k) = (R, K) := by rw [hR, hK]
        rw [hp] at cD hb hge hle hle4 hl hstep
        have hnext : Hid ((scan s.data.toList).1 = done ++ [(R, K)] ++ (scan (s.data.toList.drop (k + K))).1) := by
          show _ = _
          rw [hl, List.append_assoc]; rfl
        simp only [] at hge hle
        clear hdec hd1 hs2 hne hle4 hl hR hK hp
        have hbF := badB_false hb
        clear hb
        rcases hbF with hr | ⟨hr, hr2⟩
        · have hr0 : ((R : Int) == 65533) = false := by
            rw [beq_eq_false_iff_ne]
            intro e
            exact hr (by omega)
          clear hr
          go_wp2_with (first | (go_at_call 112; refine cD.mono ?_; rintro e w1 ⟨rfl, hb1⟩) | (go_at_fn F; refine (hstep w1 (H.stays _ _ _ hI hb1) (hwr.trans (hb1.mono hwr.size))).mono ?_; rintro e w2 ⟨hb2, ⟨rfl, hI2⟩ | ⟨rfl, hI2⟩⟩) | fail)
          · go_roundw
            case rel => exact ⟨k + K, done ++ [(R, K)], by omega, by go_num, hnext, hI2, hb2⟩
            case measure => simp [intOf]; omega
          · go_ret
            exact ⟨⟨_, rfl⟩, hb2, .inr ⟨_, _, hnext, hI2⟩⟩
        · have hr0 : ((K : Int) == 1) = false := by
            rw [beq_eq_false_iff_ne]
            intro e
            exact hr2 (by omega)
          subst hr
          clear hr2
          go_wp2_with (first | (go_at_call 112; refine cD.mono ?_; rintro e w1 ⟨rfl, hb1⟩) | (go_at_fn F; refine (hstep w1 (H.stays _ _ _ hI hb1) (hwr.trans (hb1.mono hwr.size))).mono ?_; rintro e w2 ⟨hb2, ⟨rfl, hI2⟩ | ⟨rfl, hI2⟩⟩) | fail)
          · go_roundw
            case rel => exact ⟨k + K, done ++ [(65533, K)], by omega, by go_num, hnext, hI2, hb2⟩
            case measure => simp [intOf]; omega
          · go_ret
            exact ⟨⟨_, rfl⟩, hb2, .inr ⟨_, _, hnext, hI2⟩⟩
    · have hend : s.data.toList.drop k = [] := List.drop_eq_nil_of_le (by rw [← Lib.size_eq]; omega)
      rw [hend, scan_nil] at hd1
      rw [List.append_nil] at hd1
      have hfin : Hid (I (scan s.data.toList).1 wr) := by show I _ wr; rw [hd1]; exact hI
      clear hd1 hend hTr
      go_wp2
      go_ret
      exact ⟨⟨_, rfl⟩, hwr, .inl hfin⟩
end Go.Proofs.YtgmgkbbnciglhaaDoor

namespace Go.Proofs.YtgmgkbbnciglhaaDoor
open Go.RowKit

/-- A round keeps all blocks from lo on that there were. -/
structure KeepUp (lo : Nat) (A B : World) : Prop where
  size : A.heap.size ≤ B.heap.size
  same : ∀ k, lo ≤ k → k < A.heap.size → B.heap[k]? = A.heap[k]?
theorem KeepUp.refl (lo : Nat) (A : World) : KeepUp lo A A := ⟨Nat.le_refl _, fun _ _ _ => rfl⟩
theorem KeepUp.trans {lo : Nat} {A B C : World} (h : KeepUp lo A B) (k : KeepUp lo B C) : KeepUp lo A C :=
  ⟨Nat.le_trans h.size k.size, fun i h1 h2 => (k.same i h1 (Nat.lt_of_lt_of_le h2 h.size)).trans (h.same i h1 h2)⟩
theorem KeepUp.of_below {lo : Nat} {A B : World} (h : Below A.heap.size A B) : KeepUp lo A B := ⟨h.size, fun k _ h2 => h.block k h2⟩
theorem KeepUp.setCell {lo : Nat} {A W : World} (h : KeepUp lo A W) {p : Addr} (hp : p.block < lo) (v : Value) : KeepUp lo A (W.setCell p v) :=
  h.trans ⟨by simp [World.setCell], fun k h1 _ => Below.heap_setCell W p v k (by omega)⟩
theorem KeepUp.alloc {lo : Nat} {A W : World} (h : KeepUp lo A W) (o : Obj) : KeepUp lo A (W.alloc o) :=
  h.trans ⟨by simp, fun k _ h2 => Below.heap_alloc W o k h2⟩
theorem KeepUp.drew {lo : Nat} {A W : World} (h : KeepUp lo A W) : KeepUp lo A W.drew := h.trans ⟨Nat.le_refl _, fun _ _ _ => rfl⟩
theorem KeepUp.putObj {lo r : Nat} (A : World) (o : Obj) (h : r < lo) : KeepUp lo A (A.putObj r o) :=
  ⟨by simp, fun k h1 _ => World.putObj_heap_other (by omega)⟩
theorem KeepUp.counted {lo : Nat} {A B : World} (h : KeepUp lo A B) {a : Nat} {n1 n2 n3 n4 : Int} (ha : lo ≤ a) (hc : counted A a n1 n2 n3 n4) : counted B a n1 n2 n3 n4 := by
  have hb := h.same a ha (counted_lt hc)
  have e1 : ∀ i, B.cell? ⟨a, i, none⟩ = A.cell? ⟨a, i, none⟩ := fun i => World.cell?_of_block (w := A) (a := ⟨a, i, none⟩) hb
  have e2 : ∀ i, B.frozen? ⟨a, i, none⟩ = A.frozen? ⟨a, i, none⟩ := fun i => World.frozen?_of_block (w := A) (a := ⟨a, i, none⟩) hb
  unfold Go.Proofs.YtgmgkbbnciglhaaDoor.counted
  rw [e1, e1, e1, e1, e2, e2, e2, e2]
  exact hc
theorem KeepUp.cell {lo : Nat} {A B : World} (h : KeepUp lo A B) {a i : Nat} {v : Value} (ha : lo ≤ a) (hc : A.cell? ⟨a, i, none⟩ = some v) : B.cell? ⟨a, i, none⟩ = some v := by
  have hb := h.same a ha (World.block_lt_of_cell? A _ hc)
  exact (World.cell?_of_block (w := A) (a := ⟨a, i, none⟩) hb).trans hc

/-- What a round is handed: what is counted ahead of its rune, and of it. -/
def walkArgs (pre : List (Nat × Nat)) (p : Nat × Nat) : Array Value :=
  #[cnt (sum1 pre) (sum2 pre) pre.length (sum4 pre), cnt p.2 (cH p.1) 1 (cL p.1)]

attribute [local go_sem] Oper.semAt_some

set_option maxRecDepth 100000 in
set_option maxHeartbeats 2000000 in
/-- The walk's own closure, at one rune. -/
theorem walk11_any (l : Nat) (b0 b1 lo : Nat) (h0 : lo ≤ b0) (h1 : lo ≤ b1) (hne : b0 ≠ b1) (r : Nat) (n n1 n2 n3 n4 : Int) (w : World) (hlw : lo ≤ w.heap.size) (hc : counted w b1 n1 n2 n3 n4) (hy : w.cell? ⟨b0, 0, none⟩ = some (.func (.yield l) #[] #[]))
    (R1 R0 : World → Prop)
    (hR : ∀ A, Below w.heap.size w A → YieldAt Fence.wide 0 Tryd.prog l #[cnt n1 n2 n3 n4, cnt n (cH r) 1 (cL r)] A fun e A' =>
      (e = .returned (.bool true) ∧ R1 A' ∧ KeepUp lo A A') ∨ (e = .returned (.bool false) ∧ R0 A' ∧ KeepUp lo A A')) :
    Calls Tryd.prog 73 #[.int .i32 r, .int .i64 n, .pointer (some ⟨b0, 0, none⟩), .pointer (some ⟨b1, 0, none⟩)] w fun e w' =>
      (e = .returned (.bool true) ∧ counted w' b1 (wrap64 (n1 + n)) (wrap64 (n2 + cH r)) (wrap64 (n3 + 1)) (wrap64 (n4 + cL r)) ∧ w'.cell? ⟨b0, 0, none⟩ = some (.func (.yield l) #[] #[]) ∧
        ∃ A', R1 A' ∧ Below lo A' w') ∨ (e = .returned (.bool false) ∧ R0 w') := by
  have hlt := counted_lt hc
  have hlt0 : b0 < w.heap.size := World.block_lt_of_cell? w _ hy
  have HC : Hid (counted w b1 n1 n2 n3 n4) := hc
  have cO := fun (w : World) => countsOf_any r n w
  generalize cH r = x2 at *
  generalize cL r = x4 at *
  generalize (r : Int) = R at cO ⊢
  unfold cnt at hR
  refine (callsIn_wide (n := 1)).1 ?_
  refine callsIn_of_wp Tryd.func73 rfl trivial ?_ rfl
  simp only [Tryd.ntmps73, List.size_toArray, List.length_cons, List.length_nil, Nat.reduceAdd, Nat.reduceSub, Array.replicate_succ, Array.replicate_zero, List.push_toArray, List.append_toArray, List.nil_append, List.cons_append]
  gi_wp2_with (first | (refine ⟨trivial, ?_⟩; gi_at_call 68; refine (callsIn_wide.2 (cO _)).mono ?_; rintro e w1 ⟨rfl, hb1⟩; have hb2 : Below w.heap.size w (w1.alloc (.cells #[.int .i64 n, .int .i64 x2, .int .i64 1, .int .i64 x4] 36)) := hb1.alloc hb1.size _; have HC2 := counted_old HC.out hb2 hlt; have HB : Hid (Below w.heap.size w (w1.alloc (.cells #[.int .i64 n, .int .i64 x2, .int .i64 1, .int .i64 x4] 36))) := hb2; obtain ⟨⟨a0, a1, a2, a3⟩, b0', b1', b2', b3'⟩ := HC2; have hy2 := (hb2.cell (p := ⟨b0, 0, none⟩) hlt0).trans hy; obtain ⟨fn, tmps, assign, body, hyy, hRd⟩ := hR _ hb2; clear hb2) | fail)
  refine hRd.mono ?_
  rintro e A' (⟨rfl, hR1, hk⟩ | ⟨rfl, hR0, hk⟩)
  · have HCA := hk.counted h1 (counted_old HC.out HB.out hlt)
    have HCN : counted (w1.alloc (.cells #[.int .i64 n, .int .i64 x2, .int .i64 1, .int .i64 x4] 36)) w1.heap.size n x2 1 x4 := by
      refine ⟨⟨?_, ?_, ?_, ?_⟩, ?_, ?_, ?_, ?_⟩ <;> simp [go_sem]
    have HCO := hk.counted (Nat.le_trans hlw hb1.size) HCN
    have hyA := hk.cell h0 hy2
    have HCA' : Hid (counted A' b1 n1 n2 n3 n4) := HCA
    have hyA' : Hid (A'.cell? ⟨b0, 0, none⟩ = some (.func (.yield l) #[] #[])) := hyA
    obtain ⟨⟨c0, c1, c2, c3⟩, d0, d1, d2, d3⟩ := HCA
    obtain ⟨⟨e0, e1, e2, e3⟩, f0, f1, f2, f3⟩ := HCO
    have hlA : b1 < A'.heap.size := counted_lt HCA'.out
    have hlA0 : b0 < A'.heap.size := World.block_lt_of_cell? A' _ hyA
    clear a0 a1 a2 a3 b0' b1' b2' b3' hy2 hyy hRd hy HC hc cO hR HCN hyA
    gi_wp2_with (first | (refine ⟨trivial, ?_⟩; gi_at_call 23; refine (callsIn_wide.2 (plus_any _ _ _ _ _ _ _ _ _)).mono ?_; rintro e w2 ⟨rfl, hb2⟩; have HC3 := counted_below HCA'.out hb2; have HC4 : Hid (counted w2 b1 n1 n2 n3 n4) := HC3; obtain ⟨⟨g0, g1, g2, g3⟩, k0, k1, k2, k3⟩ := HC3; have hB3 : Hid (Below A'.heap.size A' w2) := hb2; clear hb2) | fail)
    have hy3 : w2.cell? ⟨b0, 0, none⟩ = some (.func (.yield l) #[] #[]) := (hB3.out.cell (p := ⟨b0, 0, none⟩) hlA0).trans hyA'.out
    go_ret
    exact .inl ⟨rfl, counted_set HC4.out, by simp [go_sem, hy3], A', hR1, below_set (hB3.out.mono (Nat.le_of_lt (Nat.lt_of_le_of_lt h1 hlA))) h1 _ _ _ _⟩
  · gi_wp2
    go_ret
    exact .inr ⟨rfl, hR0⟩

theorem takes_walk (l : Nat) (b0 b1 lo : Nat) (h0 : lo ≤ b0) (h1 : lo ≤ b1) (hne : b0 ≠ b1) (W0 : World) (xs : List (Nat × Nat)) (hx : xs.length < 1000000000) (hx4 : ∀ p ∈ xs, p.2 ≤ 4) (J Jx : List (Nat × Nat) → World → Prop)
    (hz : ∀ pre A, J pre A → Below W0.heap.size W0 A) (hzx : ∀ pre A, Jx pre A → Below W0.heap.size W0 A) (hJ : ∀ pre A B, J pre A → Below lo A B → J pre B)
    (hR : ∀ pre x A, J pre A → (∃ rest, xs = pre ++ [x] ++ rest) → YieldAt Fence.wide 0 Tryd.prog l (walkArgs pre x) A fun e A' =>
      (e = .returned (.bool true) ∧ J (pre ++ [x]) A' ∧ KeepUp lo A A') ∨ (e = .returned (.bool false) ∧ Jx (pre ++ [x]) A' ∧ KeepUp lo A A')) :
    TakesS W0 73 #[.pointer (some ⟨b0, 0, none⟩), .pointer (some ⟨b1, 0, none⟩)] xs
      (fun done w => J done w ∧ lo ≤ w.heap.size ∧ counted w b1 (sum1 done) (sum2 done) (done.length : Int) (sum4 done) ∧ w.cell? ⟨b0, 0, none⟩ = some (.func (.yield l) #[] #[]))
      (fun done w => Jx done w) where
  enters := enters_of Tryd.func73 (by kernel_rfl) rfl
  stays := fun done w w' hI hb => ⟨hJ _ _ _ hI.1 (hb.mono hI.2.1), Nat.le_trans hI.2.1 hb.size, counted_below hI.2.2.1 hb, (hb.cell (p := ⟨b0, 0, none⟩) (World.block_lt_of_cell? w _ hI.2.2.2)).trans hI.2.2.2⟩
  step := fun done p rest e w hI hw => by
    obtain ⟨hj, hlw, hc, hy⟩ := hI
    have hlen := congrArg List.length e
    rw [List.length_append] at hlen
    have k1 := sum1_le done fun q hq => hx4 q (by rw [e]; simp [hq])
    have k2 := sum2_le done
    have k4 := sum4_le done
    have hp := hx4 p (by rw [e]; simp)
    have hp2 := cH_le p.1
    have hp4 := cL_le p.1
    refine (walk11_any l b0 b1 lo h0 h1 hne p.1 p.2 _ _ _ _ w hlw hc hy (J (done ++ [p])) (Jx (done ++ [p])) fun A hb => hR done p A (hJ _ _ _ hj (hb.mono hlw)) ⟨rest, by rw [e]; simp⟩).mono ?_
    rintro e' w' (⟨rfl, c, hy', A', hj', hb'⟩ | ⟨rfl, hj'⟩)
    · rw [wrap64_small (by omega) (by omega), wrap64_small (by omega) (by omega), wrap64_small (by omega) (by omega), wrap64_small (by omega) (by omega)] at c
      have e1 : sum1 (done ++ [p]) = sum1 done + p.2 := by simp [sum1]
      have e2 : sum2 (done ++ [p]) = sum2 done + cH p.1 := by simp [sum2]
      have e3 : (((done ++ [p]).length : Nat) : Int) = done.length + 1 := by simp
      have e4 : sum4 (done ++ [p]) = sum4 done + cL p.1 := by simp [sum4]
      have hJw := hJ _ _ _ hj' hb'
      refine ⟨hz _ _ hJw, .inl ⟨rfl, hJw, Nat.le_trans h1 (Nat.le_of_lt (counted_lt c)), ?_, hy'⟩⟩
      rw [e1, e2, e3, e4]
      exact c
    · exact ⟨hzx _ _ hj', .inr ⟨rfl, hj'⟩⟩

theorem yield_not_nil (l : Nat) (w : World) : (binOp .eql 123 (.func (.yield l) #[] #[]) .nilFunc).run Tryd.prog w = .ok (.bool false) w := by kernel_rfl

set_option maxRecDepth 100000 in
set_option maxHeartbeats 2000000 in
/-- The iterator of Walk, called with a loop's yield. -/
theorem walk_seq (s : ByteArray) (hs : s.size < 400000000) (W0 : World) (hT : Lib.Utf8Tabs 0 1 W0) (sb : Nat) (W : World) (hsb : W.cell? ⟨sb, 0, none⟩ = some (.string s)) :
    SeqOwn Tryd.prog 72 #[.pointer (some ⟨sb, 0, none⟩)] walkArgs (Below W.heap.size) (KeepUp W.heap.size) (Below W0.heap.size W0)
      (fun xs => xs = (scan s.data.toList).1) (fun pre => ∃ rest, (scan s.data.toList).1 = pre ++ rest) W := by
  intro l J Jx hz hzx hJ hJx hR hj0
  have hlen := scan_len s.data.toList
  rw [← Lib.size_eq] at hlen
  have hW := hz _ _ hj0
  have hlt := World.block_lt_of_cell? W _ hsb
  have hb2 : Below W.heap.size W ((W.alloc (.cells #[.func (.yield l) #[] #[]] 123)).alloc (.cells #[.int .i64 0, .int .i64 0, .int .i64 0, .int .i64 0] 36)) :=
    ((Below.refl _ W).alloc (Nat.le_refl _) _).alloc (by rw [World.size_alloc]; exact Nat.le_succ _) _
  have cE := each_stops s (by unfold maxLen; omega) 73 #[.pointer (some ⟨W.heap.size, 0, none⟩), .pointer (some ⟨W.heap.size + 1, 0, none⟩)] W0 hT _ _
    (takes_walk l W.heap.size (W.heap.size + 1) W.heap.size (Nat.le_refl _) (Nat.le_succ _) (by omega) W0 (scan s.data.toList).1 (by omega) (scan_w4 _) J Jx hz hzx hJ hR) _ (hz _ _ (hJ _ _ _ hj0 hb2))
    ⟨hJ _ _ _ hj0 hb2, hb2.size, (by refine ⟨⟨?_, ?_, ?_, ?_⟩, ?_, ?_, ?_, ?_⟩ <;> simp [go_sem, sum1, sum2, sum4]), (by simp [go_sem])⟩
  have hs2 := (((Below.refl _ W).alloc (Nat.le_refl _) (.cells #[.func (.yield l) #[] #[]] 123)).cell (p := ⟨sb, 0, none⟩) hlt).trans hsb
  have hs3 := (hb2.cell (p := ⟨sb, 0, none⟩) hlt).trans hsb
  clear hb2 hR hj0 hW hlen hs
  have hnil : ∀ w, (binOp .eql 123 (.func (.yield l) #[] #[]) .nilFunc).run Tryd.prog w = .ok (.bool false) w := fun w => yield_not_nil l w
  refine callsIn_wide.2 ?_
  simp only [List.append_toArray, List.cons_append, List.nil_append]
  go_enter Tryd.func72, Tryd.ntmps72
  go_wp2_with (first | (go_at_call 63; refine cE.mono ?_; rintro e w1 ⟨⟨v, rfl⟩, hb1, ⟨hj1, _⟩ | ⟨pre, rest, e1, hj1⟩⟩) | fail)
  · go_end0
    exact ⟨⟨_, rfl⟩, .inl ⟨_, rfl, hj1⟩⟩
  · go_end0
    exact ⟨⟨_, rfl⟩, .inr ⟨pre, ⟨rest, e1⟩, hj1⟩⟩
end Go.Proofs.YtgmgkbbnciglhaaDoor

namespace Go.Proofs.YtgmgkbbnciglhaaDoor
open Go.RowKit
set_option linter.unusedVariables false

/-- What the first i runes count. -/
def edge1 (rs : List Nat) (i : Nat) : Int := (encs (rs.take i)).length
def edge2 (rs : List Nat) (i : Nat) : Int := (halRow (rs.take i)).length
def edge4 (rs : List Nat) (i : Nat) : Int := Lib.countByte (encs (rs.take i)) 10
def edge (rs : List Nat) (i : Nat) : List Value := [.int .i64 (edge1 rs i), .int .i64 (edge2 rs i), .int .i64 i, .int .i64 (edge4 rs i)]
def edges (rs : List Nat) (m : Nat) : List Value := (List.range m).flatMap (edge rs)
theorem edges_succ (rs : List Nat) (m : Nat) : edges rs (m + 1) = edges rs m ++ edge rs m := by simp [edges, List.range_succ]

theorem info36 : (Tryd.prog.info? 36).map (fun i => (i.zero, i.size, i.bytes)) = some (some (.agg #[.int .i64 0, .int .i64 0, .int .i64 0, .int .i64 0]), 4, 32) := by kernel_rfl
theorem cell_four_new (w : World) (a b c d : Value) (t : TypeId) : ∀ j u, [a, b, c, d][j]? = some u → (w.alloc (.cells #[a, b, c, d] t)).cell? ((⟨w.heap.size, 0, none⟩ : Addr).add j) = some u := by
  intro j u hj
  match j, hj with
  | 0, hj => simp at hj; subst hj; simp [Addr.add]
  | 1, hj => simp at hj; subst hj; simp [Addr.add]
  | 2, hj => simp at hj; subst hj; simp [Addr.add]
  | 3, hj => simp at hj; subst hj; simp [Addr.add]

theorem take_extract (s : ByteArray) (k : Nat) : (s.extract 0 k).data.toList = s.data.toList.take k := by
  rw [Lib.extract_data, List.drop_zero, Nat.sub_zero]

/-- What Count tells of the first runes. -/
theorem count_take (s : ByteArray) (hs : s.size < 100000000) (rs : List Nat) (he : encs rs = s.data.toList) (hr : ∀ r ∈ rs, isRune r) (i : Nat) (hi : i ≤ rs.length) (w : World) :
    Calls Tryd.prog 16 #[.string (s.extract 0 (encs (rs.take i)).length)] w fun e w' => e = .returned (.tuple #[.agg #[.int .i64 (edge1 rs i), .int .i64 (edge2 rs i), .int .i64 i, .int .i64 (edge4 rs i)], .agg #[.int .i64 0, .int .i64 (-1)]]) ∧ Below w.heap.size w w' := by
  have hl : (s.extract 0 (encs (rs.take i)).length).data.toList = encs (rs.take i) := by
    rw [take_extract, ← he]
    have e : encs rs = encs (rs.take i) ++ encs (rs.drop i) := by rw [← encs_append, List.take_append_drop]
    rw [e, List.take_left]
  have hri : ∀ r ∈ rs.take i, isRune r := fun r h => hr r (List.mem_of_mem_take h)
  have hsc := scan_encs (rs.take i) hri
  have hro : runesOf (encs (rs.take i)) = rs.take i := by
    unfold runesOf
    rw [hsc]
    simp [wide, List.map_map, Function.comp_def]
  have hsz : (s.extract 0 (encs (rs.take i)).length).size = (encs (rs.take i)).length := by rw [Lib.size_eq, hl]
  have hlt : (s.extract 0 (encs (rs.take i)).length).size < 100000000 := by rw [ByteArray.size_extract]; omega
  refine (refCount_good _ hlt w (by rw [hl, hsc])).mono ?_
  rintro e w' ⟨hb, rfl⟩
  refine ⟨?_, hb⟩
  rw [hsz, hl, hro, List.length_take, Nat.min_eq_left hi]
  rfl

set_option maxRecDepth 100000 in
set_option maxHeartbeats 4000000 in
theorem refEdges_any (s : ByteArray) (hs : s.size < 100000000) (w : World) (hok : (scan s.data.toList).2 = true) :
    Calls Tryd.prog 21 #[.string s] w fun e w' => ∃ v, e = .returned v ∧ w'.ownsRow w.heap.size 36 4 v ((runesOf s.data.toList).length + 1) (edges (runesOf s.data.toList) ((runesOf s.data.toList).length + 1)) ∧ Below w.heap.size w w' := by
  have hru : ∀ r ∈ runesOf s.data.toList, isRune r := fun r h => runesOf_rune h
  have he := encs_runesOf hok
  have hrl : (runesOf s.data.toList).length < 100000000 := by
    have := scan_len s.data.toList
    rw [← Lib.size_eq] at this
    unfold runesOf
    rw [List.length_map]
    omega
  have cR : ∀ w, Calls Tryd.prog 12 #[.string s] w fun e w' => Below w.heap.size w w' ∧ ∃ p c, e = .returned (.tuple #[.slice p (runesOf s.data.toList).length c, .agg #[.int .i64 0, .int .i64 (-1)]]) ∧ reads w' .i32 (.slice p (runesOf s.data.toList).length c) (toI (runesOf s.data.toList)) := fun w => by
    refine (refRunes_any s hs w).mono ?_
    rintro e w' ⟨hb, ⟨_, v, rfl, p, c, rfl, hown⟩ | ⟨h, _⟩⟩
    · have e1 : cellsOf21 (scan s.data.toList).1 = (toI (runesOf s.data.toList)).map (Value.int .i32) := by rw [scan_wide, cells21_toI]
      have e2 : (cellsOf21 (scan s.data.toList).1).length = (toI (runesOf s.data.toList)).length := by rw [e1, List.length_map]
      have e3 : (toI (runesOf s.data.toList)).length = (runesOf s.data.toList).length := by simp [toI]
      rw [e2] at hown
      rw [e2, ← e3]
      exact ⟨hb, p, c, rfl, reads_own e1 hown⟩
    · rw [hok] at h; cases h
  clear hok
  generalize runesOf s.data.toList = rs at *
  have hel : ∀ i, (encs (rs.take i)).length ≤ s.size := fun i => by
    have e : encs rs = encs (rs.take i) ++ encs (rs.drop i) := by rw [← encs_append, List.take_append_drop]
    have := congrArg List.length (he.symm.trans e)
    rw [List.length_append, ← Lib.size_eq] at this
    omega
  have HC : Hid (∀ i, i ≤ rs.length → ∀ w, _) := fun i hi w => count_take s hs rs he hru i hi w
  have HEL : Hid _ := hel
  have HRU : Hid (∀ r ∈ rs, isRune r) := hru
  obtain ⟨n, hn⟩ : ∃ n, n = rs.length := ⟨_, rfl⟩
  rw [← hn] at cR hrl ⊢
  have HN : Hid (n = rs.length) := hn
  clear hru hn he hel
  obtain ⟨i0, hi, hz0, hz1, hz2⟩ := info_parts info36
  go_enter Tryd.func21, Tryd.ntmps21
  go_wp2_with (first | (go_at_call 12; refine (cR _).mono ?_; rintro e w1 ⟨hb1, p, c, rfl, hrd⟩; have HRD : Hid (reads w1 .i32 (.slice p n c) (toI rs)) := hrd; clear hrd) | fail)
  go_loopw [5, 6, 20] (fun b t i wr => ∃ (k : Nat), k ≤ n ∧ i = .int .i64 k ∧ t = .int .i64 (edge1 rs k) ∧ wr.ownsRow w1.heap.size 36 4 b (k + 1) (edges rs (k + 1)) ∧ Below w1.heap.size w1 wr) (fun _ _ i _ => n - (intOf i).toNat)
  case atStart =>
    refine ⟨0, Nat.zero_le _, rfl, rfl, ⟨by simp [edges, edge], .inr ⟨w1.heap.size + 1, 1, #[.int .i64 0, .int .i64 0, .int .i64 0, .int .i64 0], rfl, Nat.le_succ _, by rw [← World.size_alloc w1 _]; exact World.alloc_heap_new (w1.alloc _) _, Nat.le_refl _, by unfold maxLen; omega, rfl, rfl⟩⟩, ((Below.refl _ w1).alloc (Nat.le_refl _) _).alloc (by rw [World.size_alloc]; exact Nat.le_succ _) _⟩
  case round =>
    obtain ⟨k, hk, rfl, rfl, hown, hwr⟩ := hrel
    by_cases hlt : k < n
    · have hkr : k < rs.length := by rw [← HN.out]; exact hlt
      have hrd := reads_below HRD.out hwr (Nat.le_refl _)
      obtain ⟨p', c', hpc, a1, a2, a3⟩ := hrd
      have hne : toI rs ≠ [] := by
        intro e
        have := congrArg List.length e
        simp [toI] at this
        rw [this] at hkr
        exact absurd hkr (Nat.not_lt_zero _)
      obtain ⟨b, o, hp, hbw, hcell⟩ := a3 hne
      have hlen : (toI rs).length = rs.length := by simp [toI]
      have hc := hcell k (by rw [hlen]; exact hkr)
      have hze : (toI rs).getD k 0 = (rs[k] : Int) := by
        rw [List.getD_eq_getElem?_getD, toI, List.getElem?_map, List.getElem?_eq_getElem hkr]; rfl
      rw [hze] at hc
      obtain ⟨hp1, hp2, hp3⟩ := Value.slice.inj hpc
      clear hp2
      subst hp3
      subst hp1
      subst hp
      have hr := HRU.out rs[k] (List.getElem_mem _)
      have hts : rs.take (k + 1) = rs.take k ++ [rs[k]] := List.take_succ_eq_append_getElem hkr
      have h1 : (encs (rs.take (k + 1))).length = (encs (rs.take k)).length + (⟨(enc rs[k]).toArray⟩ : ByteArray).size := by
        rw [hts, encs_append, List.length_append, Lib.size_eq]
        simp [encs]
      have hE : (encs (rs.take (k + 1))).length ≤ s.size := HEL.out (k + 1)
      have cB := Bytes_any rs[k] hr
      have cC := HC.out (k + 1) hkr
      have hes : edges rs (k + 1 + 1) = edges rs (k + 1) ++ edge rs (k + 1) := edges_succ rs (k + 1)
      unfold edge at hes
      have hE1 : Hid (edge1 rs (k + 1) = ((encs (rs.take (k + 1))).length : Int)) := rfl
      have hE0 : edge1 rs k = ((encs (rs.take k)).length : Int) := rfl
      rw [hE1.out] at cC hes
      rw [hE0]
      clear hE0 a1 a2 a3 hcell hne hze hts hr hlen hpc
      generalize (⟨(enc rs[k]).toArray⟩ : ByteArray) = u at cB h1
      generalize (rs[k] : Int) = z at cB hc
      clear hkr
      generalize (encs (rs.take (k + 1))).length = N1 at *
      generalize (encs (rs.take k)).length = N0 at *
      generalize edge2 rs (k + 1) = A2 at *
      generalize edge4 rs (k + 1) = A4 at *
      have hE2 : N0 + u.size ≤ s.size := by omega
      have cC2 : ∀ w, Calls Tryd.prog 16 #[.string (s.extract 0 (N0 + u.size))] w fun e w' => e = .returned (.tuple #[.agg #[.int .i64 (N1 : Int), .int .i64 A2, .int .i64 ((k + 1 : Nat) : Int), .int .i64 A4], .agg #[.int .i64 0, .int .i64 (-1)]]) ∧ Below w.heap.size w w' := by
        rw [← h1]; exact cC
      have H1 : Hid (N1 = N0 + u.size) := h1
      clear cC h1 hE
      have hw1 := hwr.size
      have NX : Hid (∀ w0 w2 v' o, Below wr.heap.size wr w0 → w2.ownsRow w1.heap.size 36 4 v' (k + 1 + 1) (edges rs (k + 1) ++ [.int .i64 N1, .int .i64 A2, .int .i64 ((k + 1 : Nat) : Int), .int .i64 A4]) → (w0.alloc o).grownBy w2 (u5).ownBlock →
          w2.ownsRow w1.heap.size 36 4 v' (k + 1 + 1) (edges rs (k + 1 + 1)) ∧ Below w1.heap.size w1 w2) := by
        intro w0 w2 v' o hb0 h3 hg
        have hB : Below w1.heap.size wr w2 := ((hb0.mono hw1).alloc (Nat.le_trans hw1 hb0.size) o).grown hg (by rw [World.size_alloc]; have := hb0.size; omega) fun k hk => (hown.lt k hk).1
        exact ⟨by rw [hes]; exact h3, hwr.trans hB⟩
      obtain ⟨pb, cb, rfl⟩ := own_slice hown
      clear hes
      generalize edges rs (k + 1) = xs at hown NX
      go_wp2_with (first | (go_at_call 71; refine (cB _).mono ?_; rintro e w2 ⟨rfl, hb2⟩) | (go_at_call 16; refine (cC2 _).mono ?_; rintro e w3 ⟨rfl, hb3⟩; have HBB : Below wr.heap.size wr w3 := hb2.trans (hb3.mono hb2.size)) | (at_builtin; refine wpList_append_own _ rfl _ _ 45 rfl w1.heap.size 36 i0 (.agg #[.int .i64 0, .int .i64 0, .int .i64 0, .int .i64 0]) 4 32 Tryd.underlying45 hi hz0 hz1 hz2 rfl (by decide) _ (k + 1) xs rfl ((((own_below hown HBB).alloc _).alloc _).alloc _) _ 1 1 [.int .i64 N1, .int .i64 A2, .int .i64 ((k : Int) + 1), .int .i64 A4] rfl rfl ?c1 ?c2 ?c3 ?c4 ?c5 ?_) | fail)
      case c1 =>
        intro j u hj
        match j, hj with
        | 0, hj => simp at hj; subst hj; simp [Addr.add, go_sem]
        | 1, hj => simp at hj; subst hj; simp [Addr.add, go_sem]
        | 2, hj => simp at hj; subst hj; simp [Addr.add, go_sem]
        | 3, hj => simp at hj; subst hj; simp [Addr.add, go_sem]
      case c2 => simp [Value.oneCell']
      case c3 => unfold maxLen; omega
      case c4 => omega
      case c5 =>
        have := HBB.size
        simp
        omega
      intro v' w4 hown4 hg _
      have hR := NX.out ((w3.alloc _).alloc _) w4 v' _ (HBB.alloc HBB.size _ |>.alloc (by rw [World.size_alloc]; have := HBB.size; omega) _) hown4 hg
      obtain ⟨R1, R2⟩ := hR
      obtain ⟨p9, c9, hv⟩ := own_slice hown4
      clear hown4 hg hown hi hz0 hz1 hz2 hc cB cC2 HBB hb2 hb3
      rw [hv] at R1 ⊢
      go_wp2
      go_roundw
      case rel => exact ⟨k + 1, by omega, by go_num, by rw [hE1.out, H1.out]; go_num, R1, R2⟩
      case measure => simp [intOf]; omega
    · have hkn : k = n := by omega
      subst hkn
      obtain ⟨pb, cb, rfl⟩ := own_slice hown
      have HO : Hid _ := hown
      clear hown
      go_wp2
      go_ret
      exact ⟨_, rfl, own_mono HO.out hb1.size, hb1.trans (hwr.mono hb1.size)⟩
end Go.Proofs.YtgmgkbbnciglhaaDoor

namespace Go.Proofs.YtgmgkbbnciglhaaDoor
open Go.RowKit

/-- An edge, by what is counted ahead of it. -/
theorem edge_sums {rs : List Nat} (hr : ∀ r ∈ rs, isRune r) {pre rest : List (Nat × Nat)} (h : wide rs = pre ++ rest) :
    edge rs pre.length = [.int .i64 (sum1 pre), .int .i64 (sum2 pre), .int .i64 pre.length, .int .i64 (sum4 pre)] := by
  have hp : pre = wide (rs.take pre.length) := by
    have := congrArg (List.take pre.length) h
    rw [List.take_left] at this
    unfold wide at this ⊢
    rw [List.map_take]
    exact this.symm
  have hrt : ∀ r ∈ rs.take pre.length, isRune r := fun r hm => hr r (List.mem_of_mem_take hm)
  have e1 := sum1_wide (rs.take pre.length)
  have e2 := sum2_wide (rs.take pre.length)
  have e4 := sum4_wide hrt
  rw [← hp] at e1 e2 e4
  unfold edge edge1 edge2 edge4
  rw [e1, e2, e4]

theorem sums_snoc (pre : List (Nat × Nat)) (x : Nat × Nat) : sum1 (pre ++ [x]) = sum1 pre + x.2 ∧ sum2 (pre ++ [x]) = sum2 pre + cH x.1 ∧ sum4 (pre ++ [x]) = sum4 pre + cL x.1 := by
  simp [sum1, sum2, sum4]

theorem edges_len (rs : List Nat) (m : Nat) : (edges rs m).length = m * 4 := by
  induction m with
  | zero => rfl
  | succ m ih => rw [edges_succ, List.length_append, ih]; simp [edge]; omega
theorem edges_get (rs : List Nat) (m i j : Nat) (hi : i < m) (hj : j < 4) : (edges rs m)[i * 4 + j]? = (edge rs i)[j]? := by
  induction m with
  | zero => omega
  | succ m ih =>
    rw [edges_succ]
    by_cases h : i < m
    · rw [List.getElem?_append_left (by rw [edges_len]; omega)]
      exact ih h
    · have : i = m := by omega
      subst this
      rw [List.getElem?_append_right (by rw [edges_len]; omega), edges_len]
      congr 1
      omega

/-- The cells of an edge in memory. -/
theorem edge_cell {w : World} {B m g c : Nat} {rs : List Nat} (h : w.ownsRow B 36 4 (.slice (some ⟨g, 0, none⟩) m c) m (edges rs m)) (i j : Nat) (hi : i < m) (hj : j < 4) {v : Value} (hv : (edge rs i)[j]? = some v) :
    w.cell? ⟨g, i * 4 + j, none⟩ = some v := by
  obtain ⟨h0, hrow⟩ := h
  rcases hrow with ⟨h1, h2⟩ | ⟨g', cap, cur, h1, h2, h3, h4, h5, h6, h7⟩
  · omega
  · cases h1
    have hlt : i * 4 + j < m * 4 := by omega
    have hc : cur[i * 4 + j]? = some v := by
      rw [← Array.getElem?_toList]
      have := congrArg (·[i * 4 + j]?) h7
      simp only [List.getElem?_take, hlt, if_true] at this
      rw [this, edges_get rs m i j hi hj, hv]
    unfold World.cell?
    simp [h3, hc]

theorem own_pos {w : World} {B e size n : Nat} {v : Value} {xs : List Value} (h : w.ownsRow B e size v n xs) (hn : 0 < n) : ∃ g c, v = .slice (some ⟨g, 0, none⟩) n c ∧ B ≤ g ∧ g < w.heap.size := by
  rcases h.2 with ⟨_, h2⟩ | ⟨g, cap, cur, h1, h2, h3, _⟩
  · omega
  · exact ⟨g, cap, h1, h2, (Array.getElem?_eq_some_iff.1 h3).1⟩

/-- A variable in the one but last of three new blocks is written. -/
theorem below_turn {A W : World} {o1 o3 : Obj} {x y : Value} {t : TypeId} (h : Below (A.heap.size + 3) (((A.alloc o1).alloc (.cells #[x] t)).alloc o3) W) :
    Below (A.heap.size + 3) (((A.alloc o1).alloc (.cells #[y] t)).alloc o3) (W.setCell ⟨A.heap.size + 1, 0, none⟩ y) := by
  refine ⟨h.os, h.tape, h.output, by have := h.size; simp at this ⊢; omega, fun k hk => ?_⟩
  have hb := h.block k hk
  by_cases e : k = A.heap.size + 1
  · subst e
    have e1 : ∀ z, (((A.alloc o1).alloc (.cells #[z] t)).alloc o3).heap[A.heap.size + 1]? = some (.cells #[z] t) := fun z => by
      rw [Below.heap_alloc _ _ _ (by simp)]
      have := World.alloc_heap_new (A.alloc o1) (.cells #[z] t)
      rwa [World.size_alloc] at this
    rw [e1] at hb ⊢
    obtain ⟨hlt, hb'⟩ := Array.getElem?_eq_some_iff.1 hb
    simp only [World.setCell, Array.getElem?_modify, if_true, hb]
    rfl
  · rw [Below.heap_setCell _ _ _ _ e, hb]
    have e2 : ∀ z z', k ≠ A.heap.size + 1 → (((A.alloc o1).alloc (.cells #[z] t)).alloc o3).heap[k]? = (((A.alloc o1).alloc (.cells #[z'] t)).alloc o3).heap[k]? := fun z z' hne => by
      by_cases h2 : k = A.heap.size + 2
      · subst h2
        have e3 : ∀ z, (((A.alloc o1).alloc (.cells #[z] t)).alloc o3).heap[A.heap.size + 2]? = some o3 := fun z => by
          have := World.alloc_heap_new ((A.alloc o1).alloc (.cells #[z] t)) o3
          rwa [World.size_alloc, World.size_alloc] at this
        rw [e3, e3]
      · have e4 : ∀ z, (((A.alloc o1).alloc (.cells #[z] t)).alloc o3).heap[k]? = (A.alloc o1).heap[k]? := fun z =>
          (Below.heap_alloc _ _ _ (by rw [World.size_alloc, World.size_alloc]; omega)).trans (Below.heap_alloc _ _ _ (by rw [World.size_alloc]; omega))
        rw [e4, e4]
    exact e2 _ _ e

/-- The runes ahead of the first bad byte are a sound text's. -/
theorem scan_place (s : ByteArray) (_h : (scan s.data.toList).2 = false) : place s.data.toList ≤ s.size ∧ (scan (s.extract 0 (place s.data.toList)).data.toList).2 = true ∧ runesOf (s.extract 0 (place s.data.toList)).data.toList = runesOf s.data.toList := by
  obtain ⟨h0, t, h1, _, _⟩ := scan_spec s.data.toList.length s.data.toList (Nat.le_refl _)
  have hl : (encs (runesOf s.data.toList)).length = place s.data.toList := by
    have e := sum1_wide (runesOf s.data.toList)
    rw [← scan_wide] at e
    unfold place
    have : ∀ l : List (Nat × Nat), sum1 l = (((l.map (·.2)).sum : Nat) : Int) := fun l => by
      induction l with
      | nil => rfl
      | cons p l ih => unfold sum1 at ih ⊢; rw [List.map_cons, List.sum_cons, ih, List.map_cons, List.sum_cons]; push_cast; rfl
    rw [this] at e
    omega
  have h1' : s.data.toList = encs (runesOf s.data.toList) ++ t := h1
  have hle : place s.data.toList ≤ s.size := by
    have := congrArg List.length h1'
    rw [List.length_append, hl, ← Lib.size_eq] at this
    omega
  have hx : (s.extract 0 (place s.data.toList)).data.toList = encs (runesOf s.data.toList) := by
    rw [take_extract, ← hl]
    have := congrArg (List.take (encs (runesOf s.data.toList)).length) h1'
    rw [List.take_left] at this
    exact this
  have hsc := scan_encs (runesOf s.data.toList) fun r hr => runesOf_rune hr
  rw [hx]
  refine ⟨hle, by rw [hsc], ?_⟩
  generalize runesOf s.data.toList = R at hsc
  show (scan (encs R)).1.map (·.1) = R
  rw [hsc]
  simp [wide, Function.comp_def]
end Go.Proofs.YtgmgkbbnciglhaaDoor

namespace Go.Proofs.YtgmgkbbnciglhaaDoor
open Go.RowKit
set_option linter.unusedVariables false
attribute [local go_sem] Oper.semAt_some yieldsUpon okUpon

theorem Walk_one (s : ByteArray) (w : World) : Calls Tryd.prog 22 #[.string s] w fun e w' => e = .returned (.func (.func 72) #[] #[.pointer (some ⟨w.heap.size, 0, none⟩)]) ∧ w' = w.alloc (.cells #[.string s] 9) := by
  go_enter Tryd.func22, Tryd.ntmps22
  go_wp2
  go_ret
  exact ⟨rfl, rfl⟩

/-- What some runes count, as a value. -/
def cntV (rs : List Nat) : Value := .agg #[.int .i64 (C1 rs), .int .i64 (C2 rs), .int .i64 (C3 rs), .int .i64 (C4 rs)]

/-- The least beginning, with one rune at least behind pre, that is enough. -/
def seek (f : List Nat → Bool) : List Nat → List Nat → Option (List Nat)
  | _, [] => none
  | pre, r :: rs => if f (pre ++ [r]) then some (pre ++ [r]) else seek f (pre ++ [r]) rs
theorem seek_none (f : List Nat → Bool) : ∀ (c1 pre c2 : List Nat), seek f pre c1 = none → seek f pre (c1 ++ c2) = seek f (pre ++ c1) c2
  | [], pre, c2, _ => by simp
  | r :: c1, pre, c2, h => by
    simp only [seek] at h
    by_cases hf : f (pre ++ [r]) = true
    · rw [if_pos hf] at h; cases h
    · rw [if_neg hf] at h
      rw [List.cons_append, seek, if_neg hf, seek_none f c1 (pre ++ [r]) c2 h]
      simp

/-- What a closure answers of counts, in all worlds behind W. -/
def asks (W : World) (F : Nat) (cap : Array Value) (f : List Nat → Bool) : Prop :=
  (∀ args w, (callFunc F args).run Tryd.prog w = .ok (.enter F args) w) ∧
  ∀ rs wx, C1 rs ≤ 200000000 → Below W.heap.size W wx → Calls Tryd.prog F (#[cntV rs] ++ cap) wx fun e w' => e = .returned (.bool (f rs)) ∧ Below wx.heap.size wx w'

theorem wide_cut {c : List Nat} {pre : List (Nat × Nat)} {x : Nat × Nat} {rest : List (Nat × Nat)} (h : wide c = pre ++ x :: rest) : ∃ c1 r c2, c = c1 ++ r :: c2 ∧ pre = wide c1 ∧ x = (r, (enc r).length) := by
  induction pre generalizing c with
  | nil =>
    cases c with
    | nil => simp [wide] at h
    | cons r c2 => simp only [wide, List.map_cons, List.nil_append, List.cons.injEq] at h; exact ⟨[], r, c2, rfl, rfl, h.1.symm⟩
  | cons p pre ih =>
    cases c with
    | nil => simp [wide] at h
    | cons a c =>
      simp only [wide, List.map_cons, List.cons_append, List.cons.injEq] at h
      obtain ⟨c1, r, c2, h1, h2, h3⟩ := ih (c := c) h.2
      exact ⟨a :: c1, r, c2, by rw [h1]; rfl, by rw [← h.1, h2]; rfl, h3⟩

theorem plus_cnt (a b : List Nat) (hz : C1 (a ++ b) ≤ 200000000) (w : World) : Calls Tryd.prog 23 #[cntV a, cntV b] w fun e w' => e = .returned (cntV (a ++ b)) ∧ Below w.heap.size w w' := by
  have h := plus_any (C1 a) (C2 a) (C3 a) (C4 a) (C1 b) (C2 b) (C3 b) (C4 b) w
  rw [C1_append] at hz
  have a2 := C2_le a
  have a3 := C3_le a
  have a4 := C4_le a
  have b2 := C2_le b
  have b3 := C3_le b
  have b4 := C4_le b
  rw [wrap64_small (by omega) (by omega), wrap64_small (by omega) (by omega), wrap64_small (by omega) (by omega), wrap64_small (by omega) (by omega), ← C1_append, ← C2_append, ← C3_append, ← C4_append] at h
  exact h
theorem walkArgs_cut (c1 : List Nat) (r : Nat) : walkArgs (wide c1) (r, (enc r).length) = #[cntV c1, cntV [r]] := by
  simp [walkArgs, cnt, cntV, C1, C2, C3, C4, wide, sum1, sum2, sum4]

set_option maxRecDepth 100000 in
set_option maxHeartbeats 4000000 in
theorem within_any (f : List Nat → Bool) (F : Nat) (cap : Array Value) (fs c : List Nat) (hc : ∀ r ∈ c, isRune r) (hz : C1 (fs ++ c) ≤ 100000000) (w : World) (hT : Lib.Utf8Tabs 0 1 w) (hE : asks w F cap f) :
    Calls Tryd.prog 132 #[cntV fs, .string (bytesOf c), .func (.func F) #[] cap] w fun e w' => e = .returned (cntV ((seek f fs c).getD fs)) ∧ Below w.heap.size w w' := by
  have HC : Hid (∀ r ∈ c, isRune r) := hc
  have HZ : Hid (C1 (fs ++ c) ≤ 100000000) := hz
  have HT : Hid (Lib.Utf8Tabs 0 1 w) := hT
  have hent := hE.1
  have HE : Hid (∀ rs wx, C1 rs ≤ 200000000 → Below w.heap.size w wx → Calls Tryd.prog F (#[cntV rs] ++ cap) wx fun e w' => e = .returned (.bool (f rs)) ∧ Below wx.heap.size wx w') := hE.2
  have HSC : Hid ((scan (bytesOf c).data.toList).1 = wide c) := by show _ = _; rw [bytesOf_list, scan_encs c hc]
  have hsz : (bytesOf c).size ≤ 100000000 := by rw [bytesOf_size]; have := C1_right hz; rw [C1_len] at this; omega
  clear hE hc hz hT
  have HV : Hid (cntV fs = .agg #[.int .i64 (C1 fs), .int .i64 (C2 fs), .int .i64 (C3 fs), .int .i64 (C4 fs)]) := rfl
  rw [HV.out]
  refine (callsIn_wide (n := 3)).1 ?_
  refine callsIn_of_wp_marks Tryd.func132 rfl trivial ?_ rfl
  simp only [Tryd.ntmps132, List.size_toArray, List.length_cons, List.length_nil, Nat.reduceAdd, Nat.reduceSub, Array.replicate_succ, Array.replicate_zero, List.push_toArray, List.append_toArray, List.nil_append, List.cons_append]
  gi_wp2_with (first
    | (refine ⟨trivial, ?_⟩; gi_at_call 22; refine (callsIn_wide.2 (Walk_one (bytesOf c) _)).mono ?_; rintro e w13 ⟨rfl, rfl⟩)
    | fail)
  obtain ⟨W4, hW4⟩ : ∃ W4, W4 = (((w.alloc (Obj.cells #[Value.int IntKind.i64 (C1 fs), Value.int IntKind.i64 (C2 fs), Value.int IntKind.i64 (C3 fs), Value.int IntKind.i64 (C4 fs)] 36)).alloc (Obj.cells #[Value.func (Fn.func F) #[] cap] 149)).alloc (Obj.cells #[Value.int IntKind.i64 0, Value.int IntKind.i64 0, Value.int IntKind.i64 0, Value.int IntKind.i64 0] 36)).alloc (.cells #[.string (bytesOf c)] 9) := ⟨_, rfl⟩
  have hb4 : Below w.heap.size w W4 := by rw [hW4]; exact ((((Below.refl _ w).alloc (Nat.le_refl _) _).alloc (by simp) _).alloc (by simp; omega) _).alloc (by simp; omega) _
  have hs4 : W4.heap.size = w.heap.size + 4 := by rw [hW4]; simp
  have f4 : counted W4 w.heap.size (C1 fs) (C2 fs) (C3 fs) (C4 fs) := by rw [hW4]; refine ⟨⟨?_, ?_, ?_, ?_⟩, ?_, ?_, ?_, ?_⟩ <;> simp [go_sem]
  have e4 : W4.cell? ⟨w.heap.size + 1, 0, none⟩ = some (.func (.func F) #[] cap) := by rw [hW4]; simp [go_sem]
  have r4 : counted W4 (w.heap.size + 2) 0 0 0 0 := by rw [hW4]; refine ⟨⟨?_, ?_, ?_, ?_⟩, ?_, ?_, ?_, ?_⟩ <;> simp [go_sem]
  have s4 : W4.cell? ⟨w.heap.size + 3, 0, none⟩ = some (.string (bytesOf c)) := by rw [hW4]; simp [go_sem]
  rw [← hW4]
  clear hW4
  refine wp_range_own (gf := 72) (lb := #[.pointer (some ⟨w.heap.size + 3, 0, none⟩)]) rfl (enters_of Tryd.func72 (by kernel_rfl) rfl) (encs := walkArgs) (fun _ _ => rfl)
    (It := Below (w.heap.size + 6)) (Kp := KeepUp (w.heap.size + 6)) (Z := Below w.heap.size w) (S := fun xs => xs = (scan (bytesOf c).data.toList).1) (Sp := fun pre => ∃ rest, (scan (bytesOf c).data.toList).1 = pre ++ rest)
    ?seq ?its (fun h k => h.trans k) (fun A o => KeepUp.putObj A (.loop o) (by rw [hs4]; omega))
    (fun pre W => Below (w.heap.size + 4) W4 W ∧ ∃ c1 c2, c = c1 ++ c2 ∧ pre = wide c1 ∧ seek f fs c1 = none)
    (fun k pre W => k = .ret ∧ ∃ x, seek f fs c = some x ∧ counted W (w.heap.size + 2) (C1 x) (C2 x) (C3 x) (C4 x) ∧ Below w.heap.size w W ∧ w.heap.size + 6 ≤ W.heap.size) ?iz ?ixz ?ii ?ib ?ix ?ixb ?h0 ?round ?done ?stop
  case seq =>
    intro W hs1 hb1
    rw [hs4] at hs1 hb1
    have := walk_seq (bytesOf c) (by omega) w HT.out (w.heap.size + 3) W ((hb1.cell (p := ⟨w.heap.size + 3, 0, none⟩) (by show w.heap.size + 3 < _; omega)).trans s4)
    rw [hs1] at this
    exact this
  case its => exact fun A B h => Same2.of_below h (by rw [hs4]; omega)
  case iz => exact fun pre A h => hb4.trans (h.1.mono (by omega))
  case ixz => exact fun k pre A h => by obtain ⟨_, x, _, _, h, _⟩ := h; exact h
  case ii => exact fun pre A B h hb => ⟨h.1.trans (hb.mono (by omega)), h.2⟩
  case ib => exact fun pre A o h => ⟨h.1.trans ((Put1.putObj _ A (.loop o)).below (by rw [hs4]; omega)), h.2⟩
  case ix => exact fun k pre A B h hb => by obtain ⟨h0, x, h1, h2, h3, h4⟩ := h; exact ⟨h0, x, h1, counted_old h2 hb (by omega), h3.trans (hb.mono (by omega)), Nat.le_trans h4 hb.size⟩
  case ixb =>
    rintro k pre A o ⟨h0, x, h1, h2, h3, h4⟩
    have hb : Below (w.heap.size + 5) A (A.putObj (w.heap.size + 5) (.loop o)) := (Put1.putObj _ A (.loop o)).below (Nat.le_refl _)
    rw [hs4]
    exact ⟨h0, x, h1, counted_old h2 hb (by omega), h3.trans (hb.mono (by omega)), Nat.le_trans h4 hb.size⟩
  case h0 => exact fun W hs hb _ => by rw [hs4] at hb; exact ⟨hb, [], c, rfl, rfl, rfl⟩
  case round =>
    rintro l pre x W ⟨hI, c1, c2, hcc, rfl, hsk⟩ hlW ⟨rest, hsp⟩
    rw [hs4] at hlW ⊢
    rw [HSC.out, List.append_assoc, hcc, wide_append] at hsp
    have hsp2 := List.append_cancel_left hsp
    obtain ⟨r, d2, rfl, rfl⟩ : ∃ r d2, c2 = r :: d2 ∧ x = (r, (enc r).length) := by
      cases c2 with
      | nil => simp [wide] at hsp2
      | cons r d2 => simp only [wide, List.map_cons, List.singleton_append, List.cons.injEq] at hsp2; exact ⟨r, d2, rfl, hsp2.1.symm⟩
    have HW : Hid (wide c1 ++ [(r, (enc r).length)] = wide (c1 ++ [r])) := by show _ = _; rw [wide_append]; rfl
    have HCC : Hid (c = (c1 ++ [r]) ++ d2) := by show _ = _; rw [hcc]; simp
    have HSK : Hid (seek f fs c1 = none) := hsk
    have hzc : C1 (fs ++ (c1 ++ [r])) ≤ 100000000 := by have := HZ.out; rw [HCC.out, ← List.append_assoc] at this; exact C1_left this
    have HP1 : Hid (∀ wx, Calls Tryd.prog 23 #[cntV c1, cntV [r]] wx fun e w' => e = .returned (cntV (c1 ++ [r])) ∧ Below wx.heap.size wx w') := fun wx => plus_cnt c1 [r] (by have := C1_right hzc; omega) wx
    have HP2 : Hid (∀ wx, Calls Tryd.prog 23 #[cntV fs, cntV (c1 ++ [r])] wx fun e w' => e = .returned (cntV (fs ++ (c1 ++ [r]))) ∧ Below wx.heap.size wx w') := fun wx => plus_cnt fs (c1 ++ [r]) (by omega) wx
    have HQ : Hid (∀ wx, Below w.heap.size w wx → Calls Tryd.prog F (#[cntV (fs ++ (c1 ++ [r]))] ++ cap) wx fun e w' => e = .returned (.bool (f (fs ++ (c1 ++ [r])))) ∧ Below wx.heap.size wx w') := fun wx hb => HE.out _ wx (by omega) hb
    rw [walkArgs_cut]
    clear hsp hsp2 hcc hsk hzc
    unfold cntV at HP1 HP2 HQ ⊢
    generalize C1 c1 = y1 at *
    generalize C2 c1 = y2 at *
    generalize C3 c1 = y3 at *
    generalize C4 c1 = y4 at *
    generalize C1 [r] = u1 at *
    generalize C2 [r] = u2 at *
    generalize C3 [r] = u3 at *
    generalize C4 [r] = u4 at *
    gi_wp2
    refine ⟨(((Same2.refl _ W).alloc (by omega) _).alloc (by rw [World.size_alloc]; omega) _), ((KeepUp.refl _ W).alloc _).alloc _, ?_⟩
    intro w20 hp _
    have hww : Below W.heap.size W ((W.alloc (.cells #[.int .i64 y1, .int .i64 y2, .int .i64 y3, .int .i64 y4] 36)).alloc (.cells #[.int .i64 u1, .int .i64 u2, .int .i64 u3, .int .i64 u4] 36)) := ((Below.refl _ W).alloc (Nat.le_refl _) _).alloc (by rw [World.size_alloc]; exact Nat.le_succ _) _
    have hs20 : w20.heap.size = W.heap.size + 2 := by rw [hp.size, World.size_alloc, World.size_alloc]
    have hWW : Below (w.heap.size + 4) W4 w20 := hI.trans ((hww.mono (by omega)).trans (hp.below (by omega)))
    have hKU : KeepUp (w.heap.size + 6) W w20 := ⟨by omega, fun k h1 h2 => (hp.block k (by omega)).trans (hww.block k h2)⟩
    have hS2 : Same2 (w.heap.size + 4) ((W.alloc (.cells #[.int .i64 y1, .int .i64 y2, .int .i64 y3, .int .i64 y4] 36)).alloc (.cells #[.int .i64 u1, .int .i64 u2, .int .i64 u3, .int .i64 u4] 36)) w20 → True := fun _ => trivial
    have f20 := counted_old f4 hWW (by omega)
    have r20 := counted_old r4 hWW (by omega)
    have e20 := (hWW.cell (p := ⟨w.heap.size + 1, 0, none⟩) (by show w.heap.size + 1 < _; omega)).trans e4
    have a20 : counted w20 W.heap.size y1 y2 y3 y4 := by
      have h : counted ((W.alloc (.cells #[.int .i64 y1, .int .i64 y2, .int .i64 y3, .int .i64 y4] 36)).alloc (.cells #[.int .i64 u1, .int .i64 u2, .int .i64 u3, .int .i64 u4] 36)) W.heap.size y1 y2 y3 y4 := counted_below (counted_new W y1 y2 y3 y4 _) ((Below.refl _ _).alloc (Nat.le_refl _) _)
      obtain ⟨⟨h0, h1, h2, h3⟩, k0, k1, k2, k3⟩ := h
      exact ⟨⟨(hp.cell (by omega)).trans h0, (hp.cell (by omega)).trans h1, (hp.cell (by omega)).trans h2, (hp.cell (by omega)).trans h3⟩, (hp.frozen (by omega)).trans k0, (hp.frozen (by omega)).trans k1, (hp.frozen (by omega)).trans k2, (hp.frozen (by omega)).trans k3⟩
    have o20 : counted w20 (W.heap.size + 1) u1 u2 u3 u4 := by
      have h : counted ((W.alloc (.cells #[.int .i64 y1, .int .i64 y2, .int .i64 y3, .int .i64 y4] 36)).alloc (.cells #[.int .i64 u1, .int .i64 u2, .int .i64 u3, .int .i64 u4] 36)) (W.heap.size + 1) u1 u2 u3 u4 := by have := counted_new (W.alloc (.cells #[.int .i64 y1, .int .i64 y2, .int .i64 y3, .int .i64 y4] 36)) u1 u2 u3 u4 36; rwa [World.size_alloc] at this
      obtain ⟨⟨h0, h1, h2, h3⟩, k0, k1, k2, k3⟩ := h
      exact ⟨⟨(hp.cell (by omega)).trans h0, (hp.cell (by omega)).trans h1, (hp.cell (by omega)).trans h2, (hp.cell (by omega)).trans h3⟩, (hp.frozen (by omega)).trans k0, (hp.frozen (by omega)).trans k1, (hp.frozen (by omega)).trans k2, (hp.frozen (by omega)).trans k3⟩
    have hw20 : Below w.heap.size w w20 := hb4.trans (hWW.mono (by omega))
    clear hp hww hS2 f4 r4 e4 s4
    gi_wp2
    refine wpR_region_rel 6 7 (by kernel_rfl) rfl (by kernel_rfl) ?_
    intro w21 hb21
    obtain ⟨G, hG⟩ := exists_growth w21
    have f21 := counted_below f20 hb21
    have a21 := counted_below a20 hb21
    have o21 := counted_below o20 hb21
    obtain ⟨⟨f0, f1, f2, f3⟩, _⟩ := f21
    obtain ⟨⟨a0, a1, a2, a3⟩, _⟩ := a21
    obtain ⟨⟨o0, o1, o2, o3⟩, _⟩ := o21
    have gf0 := hG.cell f0
    have gf1 := hG.cell f1
    have gf2 := hG.cell f2
    have gf3 := hG.cell f3
    have ga0 := hG.cell a0
    have ga1 := hG.cell a1
    have ga2 := hG.cell a2
    have ga3 := hG.cell a3
    have go0 := hG.cell o0
    have go1 := hG.cell o1
    have go2 := hG.cell o2
    have go3 := hG.cell o3
    clear f0 f1 f2 f3 a0 a1 a2 a3 o0 o1 o2 o3
    (refine anyG_step hG (i := 0) rfl (by kernel_rfl) (by kernel_rfl) (by kernel_rfl) (fun K hK => ?_); go_simp; refine hK _ ?_; clear hK K)
    (refine anyG_step hG (i := 1) rfl (by kernel_rfl) (by kernel_rfl) (by kernel_rfl) (fun K hK => ?_); go_simp; refine hK _ ?_; clear hK K)
    (refine anyG_step hG (i := 2) rfl (by kernel_rfl) (by kernel_rfl) (by kernel_rfl) (fun K hK => ?_); go_simp; refine hK _ ?_; clear hK K)
    (refine anyG_step hG (i := 3) rfl (by kernel_rfl) (by kernel_rfl) (by kernel_rfl) (fun K hK => ?_); go_simp; apply Exists.intro; refine ⟨fun _ => ?_, hK _ ?_⟩; exact HP1.out _; clear hK K)
    (refine anyG_step hG (i := 4) rfl (by kernel_rfl) (by kernel_rfl) (by kernel_rfl) (fun K hK => ?_); go_simp; apply Exists.intro; refine ⟨fun _ => ?_, hK _ ?_⟩; exact HP2.out _; clear hK K)
    clear gf0 gf1 gf2 gf3 ga0 ga1 ga2 ga3 go0 go1 go2 go3 hG
    refine anyG_one (i := 5) rfl (by kernel_rfl) ?_
    intro w22 hb22 K hK
    go_simp
    have hb22a : Below w22.heap.size w22 (w22.alloc (.cells #[.int .i64 0, .int .i64 0, .int .i64 0, .int .i64 0] 36)) := (Below.refl _ w22).alloc (Nat.le_refl _) _
    refine hK _ _ hb22a ?_
    clear hK K
    refine anyG_late (i := 6) rfl (by kernel_rfl) (by kernel_rfl) ?_
    intro w23 hb23 K hK
    have hh := counted_below (counted_new w22 0 0 0 0 36) hb23
    have HH : Hid _ := hh
    obtain ⟨⟨h0, h1, h2, h3⟩, k0, k1, k2, k3⟩ := hh
    go_simp
    refine hK _ _ ?_
    clear hK K
    refine anyG_end (by kernel_rfl) ?_
    intro w24 hb24
    have hb23' := hb21.trans (hb22.mono hb21.size)
    have hb2a := hb23'.trans (hb22a.mono hb23'.size)
    have hb2b := hb2a.trans (hb23.mono hb2a.size)
    have hb2c := below_set4 hb2b (B := w22.heap.size) hb23'.size (.int .i64 (C1 (fs ++ (c1 ++ [r])))) (.int .i64 (C2 (fs ++ (c1 ++ [r])))) (.int .i64 (C3 (fs ++ (c1 ++ [r])))) (.int .i64 (C4 (fs ++ (c1 ++ [r]))))
    have hbF := hb2c.trans (hb24.mono hb2c.size)
    have h24 := counted_below (counted_set (m1 := C1 (fs ++ (c1 ++ [r]))) (m2 := C2 (fs ++ (c1 ++ [r]))) (m3 := C3 (fs ++ (c1 ++ [r]))) (m4 := C4 (fs ++ (c1 ++ [r]))) HH.out) hb24
    have e24 := (hbF.cell (p := ⟨w.heap.size + 1, 0, none⟩) (by show w.heap.size + 1 < _; omega)).trans e20
    have r24 := counted_below r20 hbF
    have hw24 : Below w.heap.size w w24 := hw20.trans (hbF.mono hw20.size)
    have hKU24 : KeepUp (w.heap.size + 6) W w24 := hKU.trans (KeepUp.of_below hbF)
    have HCQ := HQ.out w24 hw24
    have H24 : Hid _ := h24
    have HR24 : Hid _ := r24
    have HBF : Hid _ := hbF
    have HWW : Hid _ := hWW
    have HKU : Hid _ := hKU24
    clear hb21 hb22 hb22a hb23 hb24 hb23' hb2a hb2b hb2c HH h0 h1 h2 h3 k0 k1 k2 k3 f20 r20 a20 o20 e20 hKU hKU24 hbF hWW
    generalize w22.heap.size = hB at *
    obtain ⟨⟨h0, h1, h2, h3⟩, _⟩ := h24
    obtain ⟨_, t0, t1, t2, t3⟩ := r24
    generalize hX1 : C1 (fs ++ (c1 ++ [r])) = X1 at *
    generalize hX2 : C2 (fs ++ (c1 ++ [r])) = X2 at *
    generalize hX3 : C3 (fs ++ (c1 ++ [r])) = X3 at *
    generalize hX4 : C4 (fs ++ (c1 ++ [r])) = X4 at *
    generalize hfx : f (fs ++ (c1 ++ [r])) = fx at *
    gi_wp2
    refine ⟨trivial, rfl, ?_⟩
    refine (CallsIn.inRound l (callsIn_wide.2 HCQ)).mono ?_
    rintro e w25 ⟨rfl, hb25⟩
    have h25 := counted_below H24.out hb25
    have r25 := counted_below HR24.out hb25
    have HR25 : Hid _ := r25
    have hbZ := HBF.out.trans (hb25.mono HBF.out.size)
    have HBZ : Hid _ := hbZ
    have HWZ : Hid _ := hw24.trans (hb25.mono hw24.size)
    clear h0 h1 h2 h3 t0 t1 t2 t3 e24 hb25 hbZ HCQ
    obtain ⟨⟨h0, h1, h2, h3⟩, _⟩ := h25
    obtain ⟨⟨z0, z1, z2, z3⟩, t0, t1, t2, t3⟩ := r25
    cases fx with
    | false =>
      gi_wp2
      refine ⟨Same2.of_below HBZ.out (by omega), KeepUp.of_below HBZ.out, HWW.out.trans (HBZ.out.mono (by omega)), c1 ++ [r], d2, HCC.out, HW.out, ?_⟩
      rw [seek_none f c1 fs [r] HSK.out, seek, List.append_assoc, hfx]
      rfl
    | true =>
      gi_wp2
      have hkk : KeepUp (w.heap.size + 6) w20 w25 := KeepUp.of_below HBZ.out
      refine ⟨((((Same2.of_below HBZ.out (by omega)).setCell (by show w.heap.size + 2 ≠ _; omega) (by show w.heap.size + 2 ≠ _; omega) _).setCell (by show w.heap.size + 2 ≠ _; omega) (by show w.heap.size + 2 ≠ _; omega) _).setCell (by show w.heap.size + 2 ≠ _; omega) (by show w.heap.size + 2 ≠ _; omega) _).setCell (by show w.heap.size + 2 ≠ _; omega) (by show w.heap.size + 2 ≠ _; omega) _,
        (((hkk.setCell (by show w.heap.size + 2 < _; omega) _).setCell (by show w.heap.size + 2 < _; omega) _).setCell (by show w.heap.size + 2 < _; omega) _).setCell (by show w.heap.size + 2 < _; omega) _, rfl, fs ++ (c1 ++ [r]), ?_, ?_, below_set4 HWZ.out (by omega) _ _ _ _, ?_⟩
      · rw [HCC.out, List.append_assoc, seek_none f c1 fs ([r] ++ d2) HSK.out, List.singleton_append, seek, List.append_assoc, hfx]
        rfl
      · rw [hX1, hX2, hX3, hX4]
        exact counted_set HR25.out
      · have := HBZ.out.size
        simp [World.setCell]
        omega
  case done =>
    rintro xs W rfl ⟨hI, c1, c2, hcc, hx, hsk⟩ hDef
    rw [hs4] at hDef ⊢
    have HN : Hid (seek f fs c = none) := by
      show _ = _
      rw [HSC.out] at hx
      have : c2 = [] := by
        have := congrArg List.length hx
        rw [hcc] at this
        simp only [wide, List.length_map, List.length_append] at this
        exact List.length_eq_zero_iff.1 (by omega)
      subst this
      rw [hcc, List.append_nil]
      exact hsk
    have f5 := counted_old f4 hI (by omega)
    have r5 := counted_old r4 hI (by omega)
    have HR5 : Hid _ := r5
    have hbW : Below w.heap.size w W := hb4.trans (hI.mono (by omega))
    have HBW : Hid _ := hbW
    have hIs := hI.size
    clear hcc hx hsk hbW hI f4 r4 e4 s4
    obtain ⟨⟨f0, f1, f2, f3⟩, _⟩ := f5
    obtain ⟨⟨z0, z1, z2, z3⟩, t0, t1, t2, t3⟩ := r5
    generalize C1 fs = y1 at *
    generalize C2 fs = y2 at *
    generalize C3 fs = y3 at *
    generalize C4 fs = y4 at *
    gi_wp2
    have hset := counted_set (m1 := y1) (m2 := y2) (m3 := y3) (m4 := y4) HR5.out
    obtain ⟨⟨x0, x1, x2, x3⟩, _⟩ := hset
    have hDef' : ((((W.setCell ⟨w.heap.size + 2, 0, none⟩ (.int .i64 y1)).setCell ⟨w.heap.size + 2, 1, none⟩ (.int .i64 y2)).setCell ⟨w.heap.size + 2, 2, none⟩ (.int .i64 y3)).setCell ⟨w.heap.size + 2, 3, none⟩ (.int .i64 y4)).heap[w.heap.size + 4]? = some (.deferred (some [])) := by
      refine (Below.heap_setCell _ _ _ _ ?_).trans ((Below.heap_setCell _ _ _ _ ?_).trans ((Below.heap_setCell _ _ _ _ ?_).trans ((Below.heap_setCell _ _ _ _ ?_).trans hDef))) <;> (show w.heap.size + 4 ≠ w.heap.size + 2; omega)
    have hP := Put1.putObj (w.heap.size + 4) ((((W.setCell ⟨w.heap.size + 2, 0, none⟩ (.int .i64 y1)).setCell ⟨w.heap.size + 2, 1, none⟩ (.int .i64 y2)).setCell ⟨w.heap.size + 2, 2, none⟩ (.int .i64 y3)).setCell ⟨w.heap.size + 2, 3, none⟩ (.int .i64 y4)) (.deferred none)
    have p0 := (hP.cell (b := w.heap.size + 2) (o := 0) (by omega)).trans x0
    have p1 := (hP.cell (b := w.heap.size + 2) (o := 1) (by omega)).trans x1
    have p2 := (hP.cell (b := w.heap.size + 2) (o := 2) (by omega)).trans x2
    have p3 := (hP.cell (b := w.heap.size + 2) (o := 3) (by omega)).trans x3
    refine ⟨by simp, .inl ⟨_, _, rfl, run_takeDeferred hDef', ?_⟩⟩
    refine ⟨.agg #[.int .i64 y1, .int .i64 y2, .int .i64 y3, .int .i64 y4], by simp [results, Tryd.results132, go_sem, p0, p1, p2, p3], ?_, (below_set4 HBW.out (B := w.heap.size + 2) (by omega) _ _ _ _).trans (hP.below (by omega))⟩
    rw [HN.out]
    exact congrArg Ending.returned HV.out.symm
  case stop =>
    rintro k pre W hsp ⟨rfl, x, hx, hc2, hbW, hsW⟩ hDef
    rw [hs4] at hDef ⊢
    have HC2 : Hid _ := hc2
    obtain ⟨⟨z0, z1, z2, z3⟩, _⟩ := hc2
    clear f4 r4 e4 s4
    gi_wp2
    have hP := Put1.putObj (w.heap.size + 4) W (.deferred none)
    have p0 := (hP.cell (b := w.heap.size + 2) (o := 0) (by omega)).trans z0
    have p1 := (hP.cell (b := w.heap.size + 2) (o := 1) (by omega)).trans z1
    have p2 := (hP.cell (b := w.heap.size + 2) (o := 2) (by omega)).trans z2
    have p3 := (hP.cell (b := w.heap.size + 2) (o := 3) (by omega)).trans z3
    refine ⟨by simp, .inl ⟨_, _, rfl, run_takeDeferred hDef, ?_⟩⟩
    refine ⟨cntV x, by simp [results, Tryd.results132, go_sem, p0, p1, p2, p3, cntV], ?_, hbW.trans (hP.below (by omega))⟩
    rw [hx]; rfl
end Go.Proofs.YtgmgkbbnciglhaaDoor

namespace Go.Proofs.YtgmgkbbnciglhaaDoor
open Go.RowKit
set_option linter.unusedVariables false
attribute [local go_sem] Oper.semAt_some yieldsUpon okUpon

theorem C1_zero {rs : List Nat} (h : C1 rs ≤ 0) : rs = [] := by
  have := (C3_le rs).2
  unfold C3 at this
  cases rs with
  | nil => rfl
  | cons a l => simp only [List.length_cons] at this; omega
theorem cutL {ra rb l c r : List Nat} (h : ra ++ rb = l ++ c ++ r) (hc : C1 ra ≤ C1 l) : ∃ a', l = ra ++ a' ∧ rb = a' ++ c ++ r := by
  rw [List.append_assoc] at h
  rcases List.append_eq_append_iff.1 h with ⟨a', h1, h2⟩ | ⟨a', h1, h2⟩
  · exact ⟨a', h1, by rw [h2, List.append_assoc]⟩
  · have : a' = [] := C1_zero (by rw [h1, C1_append] at hc; omega)
    subst this
    exact ⟨[], by simpa using h1.symm, by simpa using h2.symm⟩
theorem cutR {ra rb l c r : List Nat} (h : ra ++ rb = l ++ c ++ r) (hc : C1 l + C1 c ≤ C1 ra) : ∃ a', ra = l ++ c ++ a' ∧ r = a' ++ rb := by
  rcases List.append_eq_append_iff.1 h with ⟨a', h1, h2⟩ | ⟨a', h1, h2⟩
  · have : a' = [] := C1_zero (by rw [← C1_append, h1, C1_append] at hc; omega)
    subst this
    exact ⟨[], by simpa using h1.symm, by simpa using h2.symm⟩
  · exact ⟨a', h1, h2⟩
theorem cutM {ra rb l c r : List Nat} (h : ra ++ rb = l ++ c ++ r) (h1 : C1 l < C1 ra) (h2 : C1 ra < C1 l + C1 c) : ∃ x y, ra = l ++ x ∧ c = x ++ y ∧ rb = y ++ r ∧ x ≠ [] ∧ y ≠ [] := by
  rw [List.append_assoc] at h
  rcases List.append_eq_append_iff.1 h with ⟨a', e1, e2⟩ | ⟨a', e1, e2⟩
  · rw [e1, C1_append] at h1
    have := C1_pos a'
    omega
  · rcases List.append_eq_append_iff.1 e2 with ⟨b', d1, d2⟩ | ⟨b', d1, d2⟩
    · rw [e1, d1, C1_append, C1_append] at h2
      have := C1_pos b'
      omega
    · refine ⟨a', b', e1, d1, d2, fun e => ?_, fun e => ?_⟩
      · rw [e1, e, C1_append] at h1
        have : C1 [] = 0 := rfl
        omega
      · rw [e1, d1, e, C1_append, C1_append] at h2
        have : C1 [] = 0 := rfl
        omega

theorem field0 (a b c d : Int) (w : World) : (Instr.field 36 (.agg #[.int .i64 a, .int .i64 b, .int .i64 c, .int .i64 d]) 0).run Tryd.prog w = .ok (.int .i64 a) w := by kernel_rfl
theorem field3 (a b c d : Int) (w : World) : (Instr.field 36 (.agg #[.int .i64 a, .int .i64 b, .int .i64 c, .int .i64 d]) 3).run Tryd.prog w = .ok (.int .i64 d) w := by kernel_rfl
attribute [local go_sem] field0 field3

/-- What split answers. -/
def parted (w : World) (ra rb : List Nat) (e : Ending) (w' : World) : Prop :=
  ∃ qa ta qb tb, e = .returned (.tuple #[.pointer qa, .pointer qb]) ∧ (isTree w' qa ta ∧ okT ta ∧ ta.runes = ra) ∧ (isTree w' qb tb ∧ okT tb ∧ tb.runes = rb) ∧ Below w.heap.size w w'

theorem parted_of {w w5 w6 : World} {qa qb : Option Addr} {ta tb : T} {ra rb : List Nat} (h5 : Below w.heap.size w w5) (h6 : Below w5.heap.size w5 w6) (ha : isTree w5 qa ta) (ha' : okT ta ∧ ta.runes = ra) (hb : isTree w5 qb tb) (hb' : okT tb ∧ tb.runes = rb) :
    parted w ra rb (.returned (.tuple #[.pointer qa, .pointer qb])) w6 :=
  ⟨qa, ta, qb, tb, rfl, ⟨isTree_below h6 ha, ha'⟩, ⟨isTree_below h6 hb, hb'⟩, h5.trans (h6.mono h5.size)⟩

set_option maxRecDepth 100000 in
set_option maxHeartbeats 2000000 in
theorem split_L (p : Option Addr) (l r : T) (c ra a' : List Nat) (w : World) (hT : Lib.Utf8Tabs 0 1 w) (ht : isTree w p (.node l c r)) (hol : okT l) (hor : okT r) (hx : okChunk c) (hla : l.runes = ra ++ a') (hz : C1 (l.runes ++ c ++ r.runes) ≤ 100000000)
    (ih : ∀ (p : Option Addr) (w : World), Lib.Utf8Tabs 0 1 w → isTree w p l → Calls Tryd.prog 85 #[.pointer p, .int .i64 (C1 ra)] w (parted w ra a')) :
    Calls Tryd.prog 85 #[.pointer p, .int .i64 (C1 ra)] w (parted w ra (a' ++ c ++ r.runes)) := by
  obtain ⟨b1, pl, pr, rfl, ⟨c0, c1, c2, c3, c4⟩, ⟨c5, c6⟩, _, _, hl, hr⟩ := ht
  have cC := fun wx (hb : Below w.heap.size w wx) => ncounts_any pl l wx (isTree_below hb hl)
  have cI := fun wx (hb : Below w.heap.size w wx) => ih pl wx (Go.Proofs.Utf8Tabs_below hT hb) (isTree_below hb hl)
  have HR : Hid (isTree w pr r) := hr
  have HO : Hid (okT r ∧ okChunk c) := ⟨hor, hx⟩
  have HZ : Hid (C1 (a' ++ c ++ r.runes) ≤ 100000000) := by
    show _ ≤ _
    rw [hla] at hz
    simp only [C1_append] at hz ⊢
    have := C1_pos ra
    omega
  have e1 : C1 ra ≤ C1 l.runes := by rw [hla, C1_append]; have := C1_pos a'; omega
  have e2 : C1 l.runes ≤ 100000000 := C1_left (C1_left hz)
  have e3 := C1_pos ra
  have e4 : C1 ra - C1 l.runes ≤ 0 := by omega
  have hB0 := Below.refl w.heap.size w
  clear ih hl hr hla hz hol hor hx
  unfold parted
  go_enter Tryd.func85, Tryd.ntmps85
  go_wp2_with (first
    | (go_at_call 83; refine (cC _ hB0).mono ?_; rintro e w1 ⟨rfl, hb1⟩; have d0 := cell_on hb1 c0; have d1 := cell_on hb1 c1; have d2 := cell_on hb1 c2; have d3 := cell_on hb1 c3; have d4 := cell_on hb1 c4; have d5 := cell_on hb1 c5; have d6 := cell_on hb1 c6)
    | (go_at_call 85; refine (cI _ hb1).mono ?_; rintro e w2 ⟨qa, ta, qb, tb, rfl, hta, htb, hb2⟩; have HA : Hid _ := hta; have HBT : Hid _ := htb; clear hta htb)
    | fail)
  have hb12 := hb1.trans (hb2.mono hb1.size)
  refine wp_region_rel 13 13 (by kernel_rfl) rfl ?_
  intro w3 hb3
  have hb13 := hb12.trans (hb3.mono hb12.size)
  obtain ⟨G, hG⟩ := exists_growth w3
  have g0 := hG.cell (cell_on hb13 c0)
  have g1 := hG.cell (cell_on hb13 c1)
  have g2 := hG.cell (cell_on hb13 c2)
  have g3 := hG.cell (cell_on hb13 c3)
  have g4 := hG.cell (cell_on hb13 c4)
  have g6 := hG.cell (cell_on hb13 c6)
  have HHB : Hid (Below w.heap.size w w3) := hb13
  have HHR : Hid (isTree w pr r) := HR.out
  have HA3 : Hid _ := isTree_below hb3 HA.out.1
  have HB3 : Hid _ := isTree_below hb3 HBT.out.1
  clear c0 c1 c2 c3 c4 c5 c6 d0 d1 d2 d3 d4 d5 d6 cC cI hb1 hb2 hb12 hb3 hb13
  (refine anyG_step hG (i := 0) rfl (by kernel_rfl) (by kernel_rfl) (by kernel_rfl) (fun K hK => ?_); go_simp; refine hK _ ?_; clear hK K)
  (refine anyG_step hG (i := 1) rfl (by kernel_rfl) (by kernel_rfl) (by kernel_rfl) (fun K hK => ?_); go_simp; refine hK _ ?_; clear hK K)
  (refine anyG_step hG (i := 2) rfl (by kernel_rfl) (by kernel_rfl) (by kernel_rfl) (fun K hK => ?_); go_simp; refine hK _ ?_; clear hK K)
  (refine anyG_step hG (i := 3) rfl (by kernel_rfl) (by kernel_rfl) (by kernel_rfl) (fun K hK => ?_); go_simp; refine hK _ ?_; clear hK K)
  (refine anyG_step hG (i := 4) rfl (by kernel_rfl) (by kernel_rfl) (by kernel_rfl) (fun K hK => ?_); go_simp; refine hK _ ?_; clear hK K)
  (refine anyG_step hG (i := 5) rfl (by kernel_rfl) (by kernel_rfl) (by kernel_rfl) (fun K hK => ?_); go_simp; refine hK _ ?_; clear hK K)
  (refine anyG_step hG (i := 6) rfl (by kernel_rfl) (by kernel_rfl) (by kernel_rfl) (fun K hK => ?_); go_simp; refine hK _ ?_; clear hK K)
  (refine anyG_step hG (i := 7) rfl (by kernel_rfl) (by kernel_rfl) (by kernel_rfl) (fun K hK => ?_); go_simp; refine hK _ ?_; clear hK K)
  (refine anyG_step hG (i := 8) rfl (by kernel_rfl) (by kernel_rfl) (by kernel_rfl) (fun K hK => ?_); go_simp; refine hK _ ?_; clear hK K)
  (refine anyG_step hG (i := 9) rfl (by kernel_rfl) (by kernel_rfl) (by kernel_rfl) (fun K hK => ?_); go_simp; refine hK _ ?_; clear hK K)
  clear g0 g1 g2 g3 g4 g6 hG
  refine anyG_one (i := 10) rfl (by kernel_rfl) ?_
  intro w4 hb4 K hK
  have hb14 := HHB.out.trans (hb4.mono HHB.out.size)
  have ck := join_any _ qb pr tb r c w4 (Nat.le_refl _) (isTree_below hb4 HB3.out) (isTree_below hb14 HHR.out) (big_three HBT.out.2.1 HO.out.1 HO.out.2 (by rw [HBT.out.2.2]; exact HZ.out)) HBT.out.2.1.1 HO.out.1.1
  unfold chunkV at ck
  go_simp
  refine ck.mono ?_
  rintro e w5 ⟨q5, t5, rfl, ht5, hj5, hb5⟩
  have hb15 := hb14.trans (hb5.mono hb14.size)
  have hA5 := isTree_below (hb4.trans (hb5.mono hb4.size)) HA3.out
  have hj := joined_ok hj5 HBT.out.2.1 HO.out.1 HO.out.2
  refine ⟨_, rfl, hK _ _ hb5 ?_⟩
  clear hK K ck
  obtain ⟨G, hG⟩ := exists_growth w5
  (refine anyG_step hG (i := 11) rfl (by kernel_rfl) (by kernel_rfl) (by kernel_rfl) (fun K hK => ?_); go_simp; refine hK _ ?_; clear hK K)
  (refine anyG_step hG (i := 12) rfl (by kernel_rfl) (by kernel_rfl) (by kernel_rfl) (fun K hK => ?_); go_simp; refine hK _ ?_; clear hK K)
  refine anyG_end (by kernel_rfl) ?_
  intro w6 hb6
  have HE : Hid _ := parted_of (ra := ra) hb15 hb6 hA5 HA.out.2 ht5 ⟨hj.1, hj.2.trans (by rw [HBT.out.2.2])⟩
  clear hb4 hb14 hb5 hb15 hb6 hA5 ht5 hj5 hj hG
  go_wp2
  exact bodyPost_ret (v := .tuple #[.pointer qa, .pointer q5]) (by simp [results, Tryd.results85, go_sem]) rfl HE.out
end Go.Proofs.YtgmgkbbnciglhaaDoor

namespace Go.Proofs.YtgmgkbbnciglhaaDoor
open Go.RowKit
set_option linter.unusedVariables false
attribute [local go_sem] Oper.semAt_some yieldsUpon okUpon field0 field3

theorem extract_left (x y : List Nat) : (bytesOf (x ++ y)).extract 0 (encs x).length = bytesOf x := by
  apply ByteArray.ext
  apply Array.toList_inj.1
  rw [Lib.extract_data, List.drop_zero, Nat.sub_zero, bytesOf_list, bytesOf_list, encs_append]
  simp
theorem extract_right (x y : List Nat) : (bytesOf (x ++ y)).extract (encs x).length (bytesOf (x ++ y)).size = bytesOf y := by
  apply ByteArray.ext
  apply Array.toList_inj.1
  rw [Lib.extract_to_end, bytesOf_list, bytesOf_list, encs_append]
  simp

set_option maxRecDepth 100000 in
set_option maxHeartbeats 2000000 in
theorem split_R (p : Option Addr) (l r : T) (c a' rb : List Nat) (w : World) (hT : Lib.Utf8Tabs 0 1 w) (ht : isTree w p (.node l c r)) (hol : okT l) (hor : okT r) (hx : okChunk c) (hra : r.runes = a' ++ rb) (hz : C1 (l.runes ++ c ++ r.runes) ≤ 100000000)
    (ih : ∀ (p : Option Addr) (w : World), Lib.Utf8Tabs 0 1 w → isTree w p r → Calls Tryd.prog 85 #[.pointer p, .int .i64 (C1 a')] w (parted w a' rb)) :
    Calls Tryd.prog 85 #[.pointer p, .int .i64 (C1 l.runes + C1 c + C1 a')] w (parted w (l.runes ++ c ++ a') rb) := by
  obtain ⟨b1, pl, pr, rfl, ⟨c0, c1, c2, c3, c4⟩, ⟨c5, c6⟩, _, _, hl, hr⟩ := ht
  have cC := fun wx (hb : Below w.heap.size w wx) => ncounts_any pl l wx (isTree_below hb hl)
  have HI : Hid (∀ wx, Below w.heap.size w wx → Calls Tryd.prog 85 #[.pointer pr, .int .i64 (C1 a')] wx (parted wx a' rb)) := fun wx (hb : Below w.heap.size w wx) => ih pr wx (Go.Proofs.Utf8Tabs_below hT hb) (isTree_below hb hr)
  have HL : Hid (isTree w pl l) := hl
  have HO : Hid (okT l ∧ okChunk c) := ⟨hol, hx⟩
  rw [hra] at hz
  have HZ : Hid (C1 (l.runes ++ c ++ a') ≤ 100000000) := by
    show _ ≤ _
    rw [← List.append_assoc] at hz
    exact C1_left hz
  have e2 : C1 l.runes ≤ 100000000 := C1_left (C1_left hz)
  have e3 := C1_pos l.runes
  have e5 := C1_pos a'
  have e6 : C1 a' ≤ 100000000 := C1_left (C1_right hz)
  have e7 : ((bytesOf c).size : Int) = C1 c := by rw [bytesOf_size, C1_len]
  have e8 : (bytesOf c).size ≤ 32 := by rw [bytesOf_size]; exact hx.2.1
  have e9 : 1 ≤ C1 c := by
    have := C1_pos c
    have h0 : ¬ C1 c ≤ 0 := fun h => hx.1 (C1_zero h)
    omega
  rw [← e7] at e9 ⊢
  have HE7 : Hid (((bytesOf c).size : Int) = C1 c) := e7
  have hB0 := Below.refl w.heap.size w
  clear ih hl hr hra hz hol hor hx e7
  unfold parted
  generalize hcn : (bytesOf c).size = n at *
  generalize hm : C1 l.runes = m at *
  have HM : Hid (C1 l.runes = m) := hm
  generalize hk : C1 a' = k at *
  have HK : Hid (C1 a' = k) := hk
  have k1 : m + n + k - m = n + k := by omega
  have k2 : ¬ (n : Int) + k ≤ 0 := by omega
  have k3 : (n : Int) ≤ n + k := by omega
  have k4 : (n : Int) + k - n = k := by omega
  have k5 : IntKind.i64.wrap k = k := by rw [IntKind.wrap_i64]; omega
  clear hm hk
  go_enter Tryd.func85, Tryd.ntmps85
  go_wp2_with (first
    | (go_at_call 83; refine (cC _ hB0).mono ?_; rintro e w1 ⟨rfl, hb1⟩; have d0 := cell_on hb1 c0; have d1 := cell_on hb1 c1; have d2 := cell_on hb1 c2; have d3 := cell_on hb1 c3; have d4 := cell_on hb1 c4; have d5 := cell_on hb1 c5; have d6 := cell_on hb1 c6)
    | fail)
  clear cC
  refine wp_region_rel 18 18 (by kernel_rfl) rfl ?_
  intro w2 hb2
  have hb12 := hb1.trans (hb2.mono hb1.size)
  obtain ⟨G, hG⟩ := exists_growth w2
  have g0 := hG.cell (cell_on hb12 c0)
  have g6 := hG.cell (cell_on hb12 c6)
  clear d0 d1 d2 d3 d4 d5 d6 hb1 hb2
  (refine anyG_step hG (i := 0) rfl (by kernel_rfl) (by kernel_rfl) (by kernel_rfl) (fun K hK => ?_); go_simp; refine hK _ ?_; clear hK K)
  (refine anyG_step hG (i := 1) rfl (by kernel_rfl) (by kernel_rfl) (by kernel_rfl) (fun K hK => ?_); go_simp; refine hK _ ?_; clear hK K)
  (refine anyG_step hG (i := 2) rfl (by kernel_rfl) (by kernel_rfl) (by kernel_rfl) (fun K hK => ?_); go_simp; refine hK _ ?_; clear hK K)
  (refine anyG_step hG (i := 3) rfl (by kernel_rfl) (by kernel_rfl) (by kernel_rfl) (fun K hK => ?_); go_simp; refine hK _ ?_; clear hK K)
  (refine anyG_step hG (i := 4) rfl (by kernel_rfl) (by kernel_rfl) (by kernel_rfl) (fun K hK => ?_); go_simp; refine hK _ ?_; clear hK K)
  (refine anyG_step hG (i := 5) rfl (by kernel_rfl) (by kernel_rfl) (by kernel_rfl) (fun K hK => ?_); go_simp; refine hK _ ?_; clear hK K)
  (refine anyG_step hG (i := 6) rfl (by kernel_rfl) (by kernel_rfl) (by kernel_rfl) (fun K hK => ?_); go_simp; refine hK _ ?_; clear hK K)
  (refine anyG_step hG (i := 7) rfl (by kernel_rfl) (by kernel_rfl) (by kernel_rfl) (fun K hK => ?_); go_simp; refine hK _ ?_; clear hK K)
  (refine anyG_step hG (i := 8) rfl (by kernel_rfl) (by kernel_rfl) (by kernel_rfl) (fun K hK => ?_); go_simp; refine hK _ ?_; clear hK K)
  (refine anyG_step hG (i := 9) rfl (by kernel_rfl) (by kernel_rfl) (by kernel_rfl) (fun K hK => ?_); go_simp; refine hK _ ?_; clear hK K)
  (refine anyG_step hG (i := 10) rfl (by kernel_rfl) (by kernel_rfl) (by kernel_rfl) (fun K hK => ?_); go_simp; refine hK _ ?_; clear hK K)
  (refine anyG_step hG (i := 11) rfl (by kernel_rfl) (by kernel_rfl) (by kernel_rfl) (fun K hK => ?_); go_simp; refine hK _ ?_; clear hK K)
  clear g0 g6 hG
  refine anyG_one (i := 12) rfl (by kernel_rfl) ?_
  intro w3 hb3 K hK
  have hb13 := hb12.trans (hb3.mono hb12.size)
  have ck := HI.out w3 hb13
  go_simp
  refine ck.mono ?_
  rintro e w4 ⟨qa, ta, qb, tb, rfl, hta, htb, hb4⟩
  have hb14 := hb13.trans (hb4.mono hb13.size)
  refine ⟨_, rfl, hK _ _ hb4 ?_⟩
  clear hK K ck hb3 hb13 hb4 hb12
  obtain ⟨G, hG⟩ := exists_growth w4
  (refine anyG_step hG (i := 13) rfl (by kernel_rfl) (by kernel_rfl) (by kernel_rfl) (fun K hK => ?_); go_simp; refine hK _ ?_; clear hK K)
  (refine anyG_step hG (i := 14) rfl (by kernel_rfl) (by kernel_rfl) (by kernel_rfl) (fun K hK => ?_); go_simp; refine hK _ ?_; clear hK K)
  (refine anyG_step hG (i := 15) rfl (by kernel_rfl) (by kernel_rfl) (by kernel_rfl) (fun K hK => ?_); go_simp; refine hK _ ?_; clear hK K)
  (refine anyG_step hG (i := 16) rfl (by kernel_rfl) (by kernel_rfl) (by kernel_rfl) (fun K hK => ?_); go_simp; refine hK _ ?_; clear hK K)
  (refine anyG_step hG (i := 17) rfl (by kernel_rfl) (by kernel_rfl) (by kernel_rfl) (fun K hK => ?_); go_simp; refine hK _ ?_; clear hK K)
  refine anyG_end (by kernel_rfl) ?_
  intro w5 hb5
  have hb15 := hb14.trans (hb5.mono hb14.size)
  have HTA : Hid (isTree w5 qa ta ∧ okT ta ∧ ta.runes = a') := ⟨isTree_below hb5 hta.1, hta.2⟩
  have HTB : Hid (isTree w5 qb tb ∧ okT tb ∧ tb.runes = rb) := ⟨isTree_below hb5 htb.1, htb.2⟩
  have HB5 : Hid _ := hb15
  clear hG hta htb hb14 hb5 hb15
  go_wp2_with (first | (go_at_call 9999) | fail)
  refine wp_region_rel 13 13 (by kernel_rfl) rfl ?_
  intro w6 hb6
  have hb16 := HB5.out.trans (hb6.mono HB5.out.size)
  obtain ⟨G, hG⟩ := exists_growth w6
  have g0 := hG.cell (cell_on hb16 c0)
  have g1 := hG.cell (cell_on hb16 c1)
  have g2 := hG.cell (cell_on hb16 c2)
  have g3 := hG.cell (cell_on hb16 c3)
  have g4 := hG.cell (cell_on hb16 c4)
  have g5 := hG.cell (cell_on hb16 c5)
  have HTA6 : Hid _ := isTree_below hb6 HTA.out.1
  have HTB6 : Hid _ := isTree_below hb6 HTB.out.1
  have HB6 : Hid (Below w.heap.size w w6) := hb16
  clear hb6 hb16
  (refine anyG_step hG (i := 0) rfl (by kernel_rfl) (by kernel_rfl) (by kernel_rfl) (fun K hK => ?_); go_simp; refine hK _ ?_; clear hK K)
  (refine anyG_step hG (i := 1) rfl (by kernel_rfl) (by kernel_rfl) (by kernel_rfl) (fun K hK => ?_); go_simp; refine hK _ ?_; clear hK K)
  (refine anyG_step hG (i := 2) rfl (by kernel_rfl) (by kernel_rfl) (by kernel_rfl) (fun K hK => ?_); go_simp; refine hK _ ?_; clear hK K)
  (refine anyG_step hG (i := 3) rfl (by kernel_rfl) (by kernel_rfl) (by kernel_rfl) (fun K hK => ?_); go_simp; refine hK _ ?_; clear hK K)
  (refine anyG_step hG (i := 4) rfl (by kernel_rfl) (by kernel_rfl) (by kernel_rfl) (fun K hK => ?_); go_simp; refine hK _ ?_; clear hK K)
  (refine anyG_step hG (i := 5) rfl (by kernel_rfl) (by kernel_rfl) (by kernel_rfl) (fun K hK => ?_); go_simp; refine hK _ ?_; clear hK K)
  (refine anyG_step hG (i := 6) rfl (by kernel_rfl) (by kernel_rfl) (by kernel_rfl) (fun K hK => ?_); go_simp; refine hK _ ?_; clear hK K)
  (refine anyG_step hG (i := 7) rfl (by kernel_rfl) (by kernel_rfl) (by kernel_rfl) (fun K hK => ?_); go_simp; refine hK _ ?_; clear hK K)
  (refine anyG_step hG (i := 8) rfl (by kernel_rfl) (by kernel_rfl) (by kernel_rfl) (fun K hK => ?_); go_simp; refine hK _ ?_; clear hK K)
  (refine anyG_step hG (i := 10) rfl (by kernel_rfl) (by kernel_rfl) (by kernel_rfl) (fun K hK => ?_); go_simp; refine hK _ ?_; clear hK K)
  clear g0 g1 g2 g3 g4 g5 hG
  refine anyG_one (i := 9) rfl (by kernel_rfl) ?_
  intro w7 hb7 K hK
  have hb17 := HB6.out.trans (hb7.mono HB6.out.size)
  have ck := join_any _ pl qa l ta c w7 (Nat.le_refl _) (isTree_below hb17 HL.out) (isTree_below hb7 HTA6.out) (big_three HO.out.1 HTA.out.2.1 HO.out.2 (by rw [HTA.out.2.2]; exact HZ.out)) HO.out.1.1 HTA.out.2.1.1
  unfold chunkV at ck
  go_simp
  refine ck.mono ?_
  rintro e w8 ⟨q8, t8, rfl, ht8, hj8, hb8⟩
  have hb18 := hb17.trans (hb8.mono hb17.size)
  have hB8 := isTree_below (hb7.trans (hb8.mono hb7.size)) HTB6.out
  have hj := joined_ok hj8 HO.out.1 HTA.out.2.1 HO.out.2
  refine ⟨_, rfl, hK _ _ hb8 ?_⟩
  clear hK K ck
  obtain ⟨G, hG⟩ := exists_growth w8
  (refine anyG_step hG (i := 11) rfl (by kernel_rfl) (by kernel_rfl) (by kernel_rfl) (fun K hK => ?_); go_simp; refine hK _ ?_; clear hK K)
  (refine anyG_step hG (i := 12) rfl (by kernel_rfl) (by kernel_rfl) (by kernel_rfl) (fun K hK => ?_); go_simp; refine hK _ ?_; clear hK K)
  refine anyG_end (by kernel_rfl) ?_
  intro w9 hb9
  have HE : Hid _ := parted_of (rb := rb) (ra := l.runes ++ c ++ a') hb18 hb9 ht8 ⟨hj.1, hj.2.trans (by rw [HTA.out.2.2])⟩ hB8 HTB.out.2
  clear hb7 hb17 hb8 hb18 hb9 hB8 ht8 hj8 hj hG
  go_wp2
  exact bodyPost_ret (v := .tuple #[.pointer q8, .pointer qb]) (by simp [results, Tryd.results85, go_sem]) rfl HE.out
end Go.Proofs.YtgmgkbbnciglhaaDoor

namespace Go.Proofs.YtgmgkbbnciglhaaDoor
open Go.RowKit
set_option linter.unusedVariables false
attribute [local go_sem] Oper.semAt_some yieldsUpon okUpon field0 field3

set_option maxRecDepth 100000 in
set_option maxHeartbeats 2000000 in
theorem split_M (p : Option Addr) (l r : T) (x y : List Nat) (w : World) (hT : Lib.Utf8Tabs 0 1 w) (ht : isTree w p (.node l (x ++ y) r)) (hol : okT l) (hor : okT r) (hx : okChunk (x ++ y)) (hx0 : x ≠ []) (hy0 : y ≠ []) (hz : C1 (l.runes ++ (x ++ y) ++ r.runes) ≤ 100000000) :
    Calls Tryd.prog 85 #[.pointer p, .int .i64 (C1 l.runes + C1 x)] w (parted w (l.runes ++ x) (y ++ r.runes)) := by
  obtain ⟨b1, pl, pr, rfl, ⟨c0, c1, c2, c3, c4⟩, ⟨c5, c6⟩, _, _, hl, hr⟩ := ht
  have cC := fun wx (hb : Below w.heap.size w wx) => ncounts_any pl l wx (isTree_below hb hl)
  have HL : Hid (isTree w pl l) := hl
  have HR : Hid (isTree w pr r) := hr
  have hcl : (encs x).length + (encs y).length ≤ 32 := by have := hx.2.1; rwa [encs_append, List.length_append] at this
  have hxk : okChunk x := ⟨hx0, by omega, fun q hq => hx.2.2 q (by simp [hq])⟩
  have hyk : okChunk y := ⟨hy0, by omega, fun q hq => hx.2.2 q (by simp [hq])⟩
  have HO : Hid (okT l ∧ okT r ∧ okChunk x ∧ okChunk y) := ⟨hol, hor, hxk, hyk⟩
  have HZ1 : Hid (C1 (l.runes ++ x ++ T.nil.runes) ≤ 100000000) := by
    show _ ≤ _
    have := C1_left (C1_left (a := l.runes ++ x) (b := y) (by have := C1_left hz; rwa [← List.append_assoc] at this) |> fun h => (by simpa [T.runes] using h : C1 (l.runes ++ x ++ T.nil.runes ++ []) ≤ 100000000))
    exact this
  have HZ2 : Hid (C1 (T.nil.runes ++ y ++ r.runes) ≤ 100000000) := by
    show _ ≤ _
    simp only [C1_append] at hz ⊢
    have := C1_pos l.runes
    have := C1_pos x
    have : C1 T.nil.runes = 0 := rfl
    omega
  have hcx : C1 x ≤ 300000000 ∧ C1 y ≤ 300000000 := by rw [C1_len, C1_len]; omega
  have e2 : C1 l.runes ≤ 100000000 := C1_left (C1_left hz)
  have e3 := C1_pos l.runes
  have e7 : (bytesOf (x ++ y)).size = (encs x).length + (encs y).length := by rw [bytesOf_size, encs_append, List.length_append]
  have e8 : 1 ≤ C1 x ∧ 1 ≤ C1 y := by
    have h1 : ¬ C1 x ≤ 0 := fun h => hx0 (C1_zero h)
    have h2 : ¬ C1 y ≤ 0 := fun h => hy0 (C1_zero h)
    omega
  rw [C1_len, C1_len] at e8
  have HKX : Hid (∀ wx, Below w.heap.size w wx → Calls Tryd.prog 124 #[.string ((bytesOf (x ++ y)).extract 0 (encs x).length)] wx fun e w' => e = .returned (chunkV x) ∧ Below wx.heap.size wx w') := fun wx hb => by
    rw [extract_left]; exact chunkOf_any x hxk.2.2 hcx.1 wx (Go.Proofs.Utf8Tabs_below hT hb)
  have HKY : Hid (∀ wx, Below w.heap.size w wx → Calls Tryd.prog 124 #[.string ((bytesOf (x ++ y)).extract (encs x).length ((encs x).length + (encs y).length))] wx fun e w' => e = .returned (chunkV y) ∧ Below wx.heap.size wx w') := fun wx hb => by
    rw [← e7, extract_right]; exact chunkOf_any y hyk.2.2 hcx.2 wx (Go.Proofs.Utf8Tabs_below hT hb)
  rw [C1_len x]
  have hB0 := Below.refl w.heap.size w
  clear hl hr hz hol hor hx hxk hyk hx0 hy0 hcx
  unfold parted
  generalize hm : C1 l.runes = m at *
  generalize hj : (encs x).length = j at *
  generalize (encs y).length = jy at *
  have k1 : m + (j : Int) - m = j := by omega
  have k2 : ¬ (j : Int) ≤ 0 := by omega
  have k3 : ¬ (j : Int) + jy ≤ j := by omega
  have k4 : (j : Int) ≤ (j : Int) + jy := by omega
  have k6 : ¬ j = 0 := by omega
  have k7 : ¬ j + jy ≤ j := by omega
  have k8 : j ≤ j + jy := by omega
  clear hm hj
  go_enter Tryd.func85, Tryd.ntmps85
  go_wp2_with (first
    | (go_at_call 83; refine (cC _ hB0).mono ?_; rintro e w1 ⟨rfl, hb1⟩; have d0 := cell_on hb1 c0; have d1 := cell_on hb1 c1; have d2 := cell_on hb1 c2; have d3 := cell_on hb1 c3; have d4 := cell_on hb1 c4; have d5 := cell_on hb1 c5; have d6 := cell_on hb1 c6)
    | fail)
  clear cC
  refine wp_region_rel 28 28 (by kernel_rfl) rfl ?_
  intro w2 hb2
  have hb12 := hb1.trans (hb2.mono hb1.size)
  obtain ⟨G, hG⟩ := exists_growth w2
  have g0 := hG.cell (cell_on hb12 c0)
  have g5 := hG.cell (cell_on hb12 c5)
  have g6 := hG.cell (cell_on hb12 c6)
  have cX := fun x => HKX.out (G x) (hb12.trans ((hG.below x).mono hb12.size))
  unfold chunkV at cX
  clear d0 d1 d2 d3 d4 d5 d6 hb1 hb2
  (refine anyG_step hG (i := 0) rfl (by kernel_rfl) (by kernel_rfl) (by kernel_rfl) (fun K hK => ?_); go_simp; refine hK _ ?_; clear hK K)
  (refine anyG_step hG (i := 1) rfl (by kernel_rfl) (by kernel_rfl) (by kernel_rfl) (fun K hK => ?_); go_simp; refine hK _ ?_; clear hK K)
  (refine anyG_step hG (i := 2) rfl (by kernel_rfl) (by kernel_rfl) (by kernel_rfl) (fun K hK => ?_); go_simp; refine hK _ ?_; clear hK K)
  (refine anyG_step hG (i := 3) rfl (by kernel_rfl) (by kernel_rfl) (by kernel_rfl) (fun K hK => ?_); go_simp; refine hK _ ?_; clear hK K)
  (refine anyG_step hG (i := 4) rfl (by kernel_rfl) (by kernel_rfl) (by kernel_rfl) (fun K hK => ?_); go_simp; refine hK _ ?_; clear hK K)
  (refine anyG_step hG (i := 5) rfl (by kernel_rfl) (by kernel_rfl) (by kernel_rfl) (fun K hK => ?_); go_simp; refine hK _ ?_; clear hK K)
  (refine anyG_step hG (i := 6) rfl (by kernel_rfl) (by kernel_rfl) (by kernel_rfl) (fun K hK => ?_); go_simp; refine hK _ ?_; clear hK K)
  (refine anyG_step hG (i := 7) rfl (by kernel_rfl) (by kernel_rfl) (by kernel_rfl) (fun K hK => ?_); go_simp; refine hK _ ?_; clear hK K)
  (refine anyG_step hG (i := 8) rfl (by kernel_rfl) (by kernel_rfl) (by kernel_rfl) (fun K hK => ?_); go_simp; refine hK _ ?_; clear hK K)
  (refine anyG_step hG (i := 9) rfl (by kernel_rfl) (by kernel_rfl) (by kernel_rfl) (fun K hK => ?_); go_simp; refine hK _ ?_; clear hK K)
  (refine anyG_step hG (i := 10) rfl (by kernel_rfl) (by kernel_rfl) (by kernel_rfl) (fun K hK => ?_); go_simp; refine hK _ ?_; clear hK K)
  (refine anyG_step hG (i := 13) rfl (by kernel_rfl) (by kernel_rfl) (by kernel_rfl) (fun K hK => ?_); go_simp; refine hK _ ?_; clear hK K)
  (refine anyG_step hG (i := 14) rfl (by kernel_rfl) (by kernel_rfl) (by kernel_rfl) (fun K hK => ?_); go_simp; refine hK _ ?_; clear hK K)
  (refine anyG_step hG (i := 15) rfl (by kernel_rfl) (by kernel_rfl) (by kernel_rfl) (fun K hK => ?_); go_simp; refine hK _ ?_; clear hK K)
  (refine anyG_step hG (i := 16) rfl (by kernel_rfl) (by kernel_rfl) (by kernel_rfl) (fun K hK => ?_); go_simp; refine hK _ ?_; clear hK K)
  (refine anyG_step hG (i := 17) rfl (by kernel_rfl) (by kernel_rfl) (by kernel_rfl) (fun K hK => ?_); go_simp; refine hK _ ?_; clear hK K)
  (refine anyG_step hG (i := 18) rfl (by kernel_rfl) (by kernel_rfl) (by kernel_rfl) (fun K hK => ?_); go_simp; refine hK _ ?_; clear hK K)
  (refine anyG_step hG (i := 19) rfl (by kernel_rfl) (by kernel_rfl) (by kernel_rfl) (fun K hK => ?_); go_simp; refine hK _ ?_; clear hK K)
  (refine anyG_step hG (i := 21) rfl (by kernel_rfl) (by kernel_rfl) (by kernel_rfl) (fun K hK => ?_); go_simp; refine hK _ ?_; clear hK K)
  (refine anyG_step hG (i := 22) rfl (by kernel_rfl) (by kernel_rfl) (by kernel_rfl) (fun K hK => ?_); go_simp; refine hK _ ?_; clear hK K)
  (refine anyG_step hG (i := 23) rfl (by kernel_rfl) (by kernel_rfl) (by kernel_rfl) (fun K hK => ?_); go_simp; refine hK _ ?_; clear hK K)
  (refine anyG_step hG (i := 24) rfl (by kernel_rfl) (by kernel_rfl) (by kernel_rfl) (fun K hK => ?_); go_simp; refine hK _ ?_; clear hK K)
  (refine anyG_step hG (i := 11) rfl (by kernel_rfl) (by kernel_rfl) (by kernel_rfl) (fun K hK => ?_); go_simp; apply Exists.intro; refine ⟨fun _ => ?_, hK _ ?_⟩; exact cX _; clear hK K)
  clear g0 g5 g6 cX hG
  refine anyG_one (i := 12) rfl (by kernel_rfl) ?_
  intro w3 hb3 K hK
  have hb13 := hb12.trans (hb3.mono hb12.size)
  have ck := join_any _ pl none l .nil x w3 (Nat.le_refl _) (isTree_below hb13 HL.out) rfl (big_three HO.out.1 okT_nil HO.out.2.2.1 HZ1.out) HO.out.1.1 trivial
  unfold chunkV at ck
  go_simp
  refine ck.mono ?_
  rintro e w4 ⟨q4, t4, rfl, ht4, hj4, hb4⟩
  have hb14 := hb13.trans (hb4.mono hb13.size)
  have hja := joined_ok hj4 HO.out.1 okT_nil HO.out.2.2.1
  refine ⟨_, rfl, hK _ _ hb4 ?_⟩
  clear hK K ck hb3 hb13 hb4 hb12
  obtain ⟨G, hG⟩ := exists_growth w4
  have cY := fun x => HKY.out (G x) (hb14.trans ((hG.below x).mono hb14.size))
  unfold chunkV at cY
  (refine anyG_step hG (i := 20) rfl (by kernel_rfl) (by kernel_rfl) (by kernel_rfl) (fun K hK => ?_); go_simp; apply Exists.intro; refine ⟨fun _ => ?_, hK _ ?_⟩; exact cY _; clear hK K)
  clear cY hG
  refine anyG_one (i := 25) rfl (by kernel_rfl) ?_
  intro w5 hb5 K hK
  have hb15 := hb14.trans (hb5.mono hb14.size)
  have ck := join_any _ none pr .nil r y w5 (Nat.le_refl _) rfl (isTree_below hb15 HR.out) (big_three okT_nil HO.out.2.1 HO.out.2.2.2 HZ2.out) trivial HO.out.2.1.1
  unfold chunkV at ck
  go_simp
  refine ck.mono ?_
  rintro e w6 ⟨q6, t6, rfl, ht6, hj6, hb6⟩
  have hb16 := hb15.trans (hb6.mono hb15.size)
  have hjb := joined_ok hj6 okT_nil HO.out.2.1 HO.out.2.2.2
  have hA6 := isTree_below (hb5.trans (hb6.mono hb5.size)) ht4
  refine ⟨_, rfl, hK _ _ hb6 ?_⟩
  clear hK K ck
  obtain ⟨G, hG⟩ := exists_growth w6
  (refine anyG_step hG (i := 26) rfl (by kernel_rfl) (by kernel_rfl) (by kernel_rfl) (fun K hK => ?_); go_simp; refine hK _ ?_; clear hK K)
  (refine anyG_step hG (i := 27) rfl (by kernel_rfl) (by kernel_rfl) (by kernel_rfl) (fun K hK => ?_); go_simp; refine hK _ ?_; clear hK K)
  refine anyG_end (by kernel_rfl) ?_
  intro w9 hb9
  have HE : Hid _ := parted_of (ra := l.runes ++ x) (rb := y ++ r.runes) hb16 hb9 hA6 ⟨hja.1, hja.2.trans (by simp [T.runes])⟩ ht6 ⟨hjb.1, hjb.2.trans (by simp [T.runes])⟩
  clear hb14 hb5 hb15 hb6 hb16 hb9 hA6 ht4 ht6 hj4 hj6 hja hjb hG
  go_wp2
  exact bodyPost_ret (v := .tuple #[.pointer q4, .pointer q6]) (by simp [results, Tryd.results85, go_sem]) rfl HE.out

set_option maxRecDepth 100000 in
set_option maxHeartbeats 2000000 in
theorem split_nil (k : Int) (w : World) : Calls Tryd.prog 85 #[.pointer none, .int .i64 k] w (parted w [] []) := by
  unfold parted
  go_enter Tryd.func85, Tryd.ntmps85
  go_wp2
  exact bodyPost_ret (v := .tuple #[.pointer none, .pointer none]) (by simp [results, Tryd.results85, go_sem]) rfl ⟨none, .nil, none, .nil, rfl, ⟨rfl, okT_nil, rfl⟩, ⟨rfl, okT_nil, rfl⟩, Below.refl _ _⟩

theorem okT_node {l r : T} {c : List Nat} (h : okT (.node l c r)) : okT l ∧ okT r ∧ okChunk c := by
  obtain ⟨⟨b1, b2, _, _⟩, h2⟩ := h
  exact ⟨⟨b1, fun x hx => h2 x (by simp [T.chunks, hx])⟩, ⟨b2, fun x hx => h2 x (by simp [T.chunks, hx])⟩, h2 c (by simp [T.chunks])⟩

theorem split_any : ∀ (t : T) (p : Option Addr) (ra rb : List Nat) (w : World), Lib.Utf8Tabs 0 1 w → isTree w p t → okT t → t.runes = ra ++ rb → C1 t.runes ≤ 100000000 →
    Calls Tryd.prog 85 #[.pointer p, .int .i64 (C1 ra)] w (parted w ra rb)
  | .nil, p, ra, rb, w, hT, ht, ho, he, hz => by
    obtain rfl : p = none := ht
    have he' : ra ++ rb = [] := he.symm
    obtain ⟨rfl, rfl⟩ := List.append_eq_nil_iff.1 he'
    exact split_nil _ w
  | .node l c r, p, ra, rb, w, hT, ht, ho, he, hz => by
    obtain ⟨hol, hor, hc⟩ := okT_node ho
    have e : (T.node l c r).runes = l.runes ++ c ++ r.runes := by simp [T.runes]
    rw [e] at he hz
    by_cases h1 : C1 ra ≤ C1 l.runes
    · obtain ⟨a', h2, rfl⟩ := cutL he.symm h1
      exact split_L p l r c ra a' w hT ht hol hor hc h2 hz fun p w hT h => split_any l p ra a' w hT h hol h2 (C1_left (C1_left hz))
    · by_cases h3 : C1 l.runes + C1 c ≤ C1 ra
      · obtain ⟨a', rfl, h2⟩ := cutR he.symm h3
        rw [C1_append, C1_append]
        exact split_R p l r c a' rb w hT ht hol hor hc h2 hz fun p w hT h => split_any r p a' rb w hT h hor h2 (C1_right hz)
      · obtain ⟨x, y, rfl, rfl, rfl, hx0, hy0⟩ := cutM he.symm (by omega) (by omega)
        rw [C1_append]
        exact split_M p l r x y w hT ht hol hor hc hx0 hy0 hz
end Go.Proofs.YtgmgkbbnciglhaaDoor

namespace Go.Proofs.YtgmgkbbnciglhaaDoor
open Go.RowKit
set_option linter.unusedVariables false
attribute [local go_sem] Oper.semAt_some yieldsUpon okUpon

/-- What is enough stays so with more. -/
def rising (f : List Nat → Bool) : Prop := ∀ a b, f a = true → f (a ++ b) = true
/-- The least beginning, of pre or more, that is enough; all, if none is. -/
def find (f : List Nat → Bool) (pre rs : List Nat) : List Nat := if f pre then pre else (seek f pre rs).getD (pre ++ rs)
theorem seek_low {f : List Nat → Bool} (hf : rising f) : ∀ (rs pre : List Nat), f (pre ++ rs) = false → seek f pre rs = none
  | [], pre, _ => rfl
  | r :: rs, pre, h => by
    have h1 : f ((pre ++ [r]) ++ rs) = false := by rw [List.append_assoc]; exact h
    have h2 : f (pre ++ [r]) = false := by
      cases e : f (pre ++ [r]) with
      | false => rfl
      | true => rw [hf _ rs e] at h1; cases h1
    rw [seek, h2, if_neg (by simp), seek_low hf rs _ h1]
theorem seek_more {f : List Nat → Bool} {x : List Nat} : ∀ (a pre b : List Nat), seek f pre a = some x → seek f pre (a ++ b) = some x
  | [], _, _, h => by cases h
  | r :: a, pre, b, h => by
    rw [List.cons_append]
    simp only [seek] at h ⊢
    split at h
    · rename_i hr; rw [if_pos hr]; exact h
    · rename_i hr; rw [if_neg hr]; exact seek_more a _ b h
theorem seek_top {f : List Nat → Bool} : ∀ (rs pre : List Nat), f pre = false → f (pre ++ rs) = true → ∃ x, seek f pre rs = some x
  | [], pre, h0, h => by rw [List.append_nil, h0] at h; cases h
  | r :: rs, pre, h0, h => by
    cases e : f (pre ++ [r]) with
    | true => exact ⟨_, by rw [seek, e]; rfl⟩
    | false =>
      obtain ⟨x, hx⟩ := seek_top rs (pre ++ [r]) e (by rw [List.append_assoc]; exact h)
      exact ⟨x, by rw [seek, e]; exact hx⟩
theorem low_of {f : List Nat → Bool} (hf : rising f) {a b : List Nat} (h : f (a ++ b) = false) : f a = false := by
  cases e : f a with
  | false => rfl
  | true => rw [hf a b e] at h; cases h
theorem find_left {f : List Nat → Bool} {pre l m : List Nat} (h : f (pre ++ l) = true) : find f pre (l ++ m) = find f pre l := by
  unfold find
  cases e : f pre with
  | true => rfl
  | false =>
    obtain ⟨x, hx⟩ := seek_top l pre e h
    rw [seek_more l pre m hx, hx]
    rfl
theorem find_here {f : List Nat → Bool} (hf : rising f) {pre l c r : List Nat} (h1 : f (pre ++ l) = false) (h2 : f (pre ++ l ++ c) = true) : find f pre (l ++ c ++ r) = (seek f (pre ++ l) c).getD (pre ++ l) := by
  unfold find
  obtain ⟨x, hx⟩ := seek_top c (pre ++ l) h1 h2
  rw [low_of hf h1, List.append_assoc l, seek_none f l pre (c ++ r) (seek_low hf l pre h1), seek_more c _ r hx, hx]
  rfl
theorem find_right {f : List Nat → Bool} (hf : rising f) {pre m r : List Nat} (h : f (pre ++ m) = false) : find f pre (m ++ r) = find f (pre ++ m) r := by
  unfold find
  rw [low_of hf h, h, seek_none f m pre r (seek_low hf m pre h), List.append_assoc]
  rfl

theorem asks_below {W W' : World} {F : Nat} {cap : Array Value} {f : List Nat → Bool} (h : asks W F cap f) (hb : Below W.heap.size W W') : asks W' F cap f :=
  ⟨h.1, fun rs wx hz hb' => h.2 rs wx hz (hb.trans (hb'.mono hb.size))⟩
theorem counted_on {A B : World} {a : Nat} {n1 n2 n3 n4 : Int} (h : B.heap[a]? = A.heap[a]?) (hc : counted A a n1 n2 n3 n4) : counted B a n1 n2 n3 n4 := by
  obtain ⟨⟨a0, a1, a2, a3⟩, b0, b1, b2, b3⟩ := hc
  exact ⟨⟨(cellOn h 0).trans a0, (cellOn h 1).trans a1, (cellOn h 2).trans a2, (cellOn h 3).trans a3⟩, (frozenOn h 0).trans b0, (frozenOn h 1).trans b1, (frozenOn h 2).trans b2, (frozenOn h 3).trans b3⟩
/-- How many chunks there are, as the tree's first node has it. -/
def sizeAt (v : Value) (W : World) : Nat := match v with | .pointer (some p) => (match W.cell? ⟨p.block, 12, none⟩ with | some (.int _ n) => n.toNat | _ => 0) | _ => 0
theorem sizeAt_tree {W : World} {q : Option Addr} {t : T} (h : isTree W q t) : sizeAt (.pointer q) W = t.size := by
  cases t with
  | nil => obtain rfl : q = none := h; rfl
  | node l c r =>
    obtain ⟨b, _, _, rfl, _, _, _, ⟨_, h12⟩, _⟩ := h
    simp only [sizeAt, h12]
    omega

set_option maxRecDepth 100000 in
set_option maxHeartbeats 4000000 in
theorem until_any (f : List Nat → Bool) (hf : rising f) (F : Nat) (cap : Array Value) (p : Option Addr) (t : T) (w : World) (hT : Lib.Utf8Tabs 0 1 w) (ht : isTree w p t) (ho : okT t) (hz : C1 t.runes ≤ 100000000) (hE : asks w F cap f) :
    Calls Tryd.prog 93 #[.pointer p, .func (.func F) #[] cap] w fun e w' => e = .returned (cntV (find f [] t.runes)) ∧ Below w.heap.size w w' := by
  have hent := hE.1
  have HE : Hid (asks w F cap f) := hE
  have HT : Hid (Lib.Utf8Tabs 0 1 w) := hT
  have HI : Hid (isTree w p t ∧ okT t ∧ C1 t.runes ≤ 100000000) := ⟨ht, ho, hz⟩
  clear hE hT ht ho hz
  go_enter Tryd.func93, Tryd.ntmps93
  go_wp2
  go_loopw [0, 6, 7] (fun v _ _ wr => ∃ q tt pre, v = .pointer q ∧ isTree wr q tt ∧ okT tt ∧ counted wr (w.heap.size + 1) (C1 pre) (C2 pre) (C3 pre) (C4 pre) ∧ counted wr w.heap.size 0 0 0 0 ∧ Below w.heap.size w wr ∧ C1 (pre ++ tt.runes) ≤ 100000000 ∧ find f [] t.runes = find f pre tt.runes ∧ wr.cell? ⟨w.heap.size + 1, 5, none⟩ = none) (fun v _ _ wr => sizeAt v wr)
  case atStart =>
    have hb2 : Below w.heap.size w ((w.alloc (.cells #[.int .i64 0, .int .i64 0, .int .i64 0, .int .i64 0] 36)).alloc (.cells #[.int .i64 0, .int .i64 0, .int .i64 0, .int .i64 0] 36)) := ((Below.refl _ w).alloc (Nat.le_refl _) _).alloc (by simp) _
    refine ⟨p, t, [], rfl, isTree_below hb2 HI.out.1, HI.out.2.1, ?_, counted_below (counted_new w 0 0 0 0 _) ((Below.refl _ _).alloc (Nat.le_refl _) _), hb2, HI.out.2.2, rfl, by simp [go_sem]⟩
    have := counted_new (w.alloc (.cells #[.int .i64 0, .int .i64 0, .int .i64 0, .int .i64 0] 36)) 0 0 0 0 36
    rwa [World.size_alloc] at this
  case round =>
    obtain ⟨q, tt, pre, rfl, hq, hok, hA, hR, hbw, hzz, hfd, hn5⟩ := hrel
    have HN5 : Hid (wr.cell? ⟨w.heap.size + 1, 5, none⟩ = none) := hn5
    clear hn5
    have HA : Hid _ := hA
    have HRR : Hid _ := hR
    have HBW : Hid _ := hbw
    have HQ : Hid _ := hq
    cases tt with
    | nil =>
      obtain rfl : q = none := hq
      have HF : Hid (find f [] t.runes = pre) := by
        show _ = _
        rw [hfd]
        unfold find
        simp only [T.runes, seek, Option.getD_none, List.append_nil]
        split <;> rfl
      clear hok hzz hfd
      obtain ⟨⟨a0, a1, a2, a3⟩, _⟩ := hA
      obtain ⟨⟨z0, z1, z2, z3⟩, y0, y1, y2, y3⟩ := hR
      go_wp2
      have hset := counted_set (m1 := C1 pre) (m2 := C2 pre) (m3 := C3 pre) (m4 := C4 pre) HRR.out
      obtain ⟨⟨x0, x1, x2, x3⟩, _⟩ := hset
      refine bodyPost_ret (v := cntV pre) (by simp [results, Tryd.results93, go_sem, x0, x1, x2, x3, cntV]) rfl ⟨by rw [HF.out], below_set4 HBW.out (Nat.le_refl _) _ _ _ _⟩
    | node l c r =>
      obtain ⟨b1, pl, pr, rfl, ⟨c0, c1, c2, c3, c4⟩, ⟨c5, c6⟩, _, _, hl, hr⟩ := hq
      obtain ⟨hol, hor, hx⟩ := okT_node hok
      have e0 : (T.node l c r).runes = l.runes ++ c ++ r.runes := by simp [T.runes]
      rw [e0] at hzz hfd
      go_wp2
      have hz1 : C1 (pre ++ l.runes) ≤ 200000000 := by rw [← List.append_assoc, ← List.append_assoc] at hzz; have := C1_left (C1_left hzz); omega
      have hz2 : C1 (pre ++ l.runes ++ c) ≤ 200000000 := by rw [← List.append_assoc, ← List.append_assoc] at hzz; have := C1_left hzz; omega
      have HZ : Hid (C1 (pre ++ (l.runes ++ c ++ r.runes)) ≤ 100000000) := hzz
      have HO : Hid (okT l ∧ okT r ∧ okChunk c) := ⟨hol, hor, hx⟩
      have HL : Hid (isTree wr pl l) := hl
      have hne1 : b1 ≠ w.heap.size + 1 := fun e => by rw [e, HA.out.1.1] at c0; cases c0
      have HRT : Hid (isTree wr pr r) := hr
      have HFD : Hid (find f [] t.runes = find f pre (l.runes ++ c ++ r.runes)) := hfd
      clear hl hr hol hor hx hzz hfd hok e0 hR
      refine wp_region_rel 8 9 (by kernel_rfl) rfl ?_
      intro w11 hb11
      obtain ⟨G, hG⟩ := exists_growth w11
      have a11 := counted_below hA hb11
      obtain ⟨⟨a0, a1, a2, a3⟩, _⟩ := a11
      have ga0 := hG.cell a0
      have ga1 := hG.cell a1
      have ga2 := hG.cell a2
      have ga3 := hG.cell a3
      have g5 := hG.cell (cell_on hb11 c5)
      have cC := fun x => ncounts_any pl l (G x) (isTree_below (hb11.trans ((hG.below x).mono hb11.size)) HL.out)
      have cP := fun x => plus_cnt pre l.runes hz1 (G x)
      unfold cntV at cP
      clear a0 a1 a2 a3
      (refine anyG_step hG (i := 0) rfl (by kernel_rfl) (by kernel_rfl) (by kernel_rfl) (fun K hK => ?_); go_simp; refine hK _ ?_; clear hK K)
      (refine anyG_step hG (i := 1) rfl (by kernel_rfl) (by kernel_rfl) (by kernel_rfl) (fun K hK => ?_); go_simp; refine hK _ ?_; clear hK K)
      (refine anyG_step hG (i := 2) rfl (by kernel_rfl) (by kernel_rfl) (by kernel_rfl) (fun K hK => ?_); go_simp; refine hK _ ?_; clear hK K)
      (refine anyG_step hG (i := 3) rfl (by kernel_rfl) (by kernel_rfl) (by kernel_rfl) (fun K hK => ?_); go_simp; refine hK _ ?_; clear hK K)
      (refine anyG_step hG (i := 4) rfl (by kernel_rfl) (by kernel_rfl) (by kernel_rfl) (fun K hK => ?_); go_simp; refine hK _ ?_; clear hK K)
      (refine anyG_step hG (i := 5) rfl (by kernel_rfl) (by kernel_rfl) (by kernel_rfl) (fun K hK => ?_); go_simp; apply Exists.intro; refine ⟨fun _ => ?_, hK _ ?_⟩; exact cC _; clear hK K)
      (refine anyG_step hG (i := 6) rfl (by kernel_rfl) (by kernel_rfl) (by kernel_rfl) (fun K hK => ?_); go_simp; apply Exists.intro; refine ⟨fun _ => ?_, hK _ ?_⟩; exact cP _; clear hK K)
      clear ga0 ga1 ga2 ga3 g5 cC cP hG
      refine anyG_one (i := 7) rfl (by kernel_rfl) ?_
      intro w12 hb12 K hK
      go_simp
      have hb1a : Below w12.heap.size w12 (w12.alloc (.cells #[.int .i64 0, .int .i64 0, .int .i64 0, .int .i64 0] 36)) := (Below.refl _ w12).alloc (Nat.le_refl _) _
      refine hK _ _ hb1a ?_
      clear hK K
      refine anyG_late (i := 8) rfl (by kernel_rfl) (by kernel_rfl) ?_
      intro w13 hb13 K hK
      have hh := counted_below (counted_new w12 0 0 0 0 36) hb13
      have HH : Hid _ := hh
      obtain ⟨⟨h0, h1, h2, h3⟩, k0, k1, k2, k3⟩ := hh
      go_simp
      refine hK _ _ ?_
      clear hK K
      refine anyG_end (by kernel_rfl) ?_
      intro w14 hb14
      have hx1 := hb11.trans (hb12.mono hb11.size)
      have hx2 := hx1.trans (hb1a.mono hx1.size)
      have hx3 := hx2.trans (hb13.mono hx2.size)
      have hx4 := below_set4 hx3 (B := w12.heap.size) hx1.size (.int .i64 (C1 (pre ++ l.runes))) (.int .i64 (C2 (pre ++ l.runes))) (.int .i64 (C3 (pre ++ l.runes))) (.int .i64 (C4 (pre ++ l.runes)))
      have hB1 := hx4.trans (hb14.mono hx4.size)
      have hC1 := counted_below (counted_set (m1 := C1 (pre ++ l.runes)) (m2 := C2 (pre ++ l.runes)) (m3 := C3 (pre ++ l.runes)) (m4 := C4 (pre ++ l.runes)) HH.out) hb14
      clear hb11 hb12 hb1a hb13 hb14 hx1 hx2 hx3 hx4 HH h0 h1 h2 h3 k0 k1 k2 k3
      generalize w12.heap.size = B1 at *
      have d0 := cell_on hB1 c0
      have d1 := cell_on hB1 c1
      have d2 := cell_on hB1 c2
      have d3 := cell_on hB1 c3
      have d4 := cell_on hB1 c4
      go_wp2
      refine wp_region_rel 8 9 (by kernel_rfl) rfl ?_
      intro w21 hb21
      obtain ⟨G, hG⟩ := exists_growth w21
      have a21 := counted_below hC1 hb21
      obtain ⟨⟨a0, a1, a2, a3⟩, _⟩ := a21
      have ga0 := hG.cell a0
      have ga1 := hG.cell a1
      have ga2 := hG.cell a2
      have ga3 := hG.cell a3
      have g1 := hG.cell (cell_on hb21 d1)
      have g2 := hG.cell (cell_on hb21 d2)
      have g3 := hG.cell (cell_on hb21 d3)
      have g4 := hG.cell (cell_on hb21 d4)
      have cP := fun x => plus_cnt (pre ++ l.runes) c hz2 (G x)
      unfold cntV at cP
      clear a0 a1 a2 a3
      (refine anyG_step hG (i := 0) rfl (by kernel_rfl) (by kernel_rfl) (by kernel_rfl) (fun K hK => ?_); go_simp; refine hK _ ?_; clear hK K)
      (refine anyG_step hG (i := 1) rfl (by kernel_rfl) (by kernel_rfl) (by kernel_rfl) (fun K hK => ?_); go_simp; refine hK _ ?_; clear hK K)
      (refine anyG_step hG (i := 2) rfl (by kernel_rfl) (by kernel_rfl) (by kernel_rfl) (fun K hK => ?_); go_simp; refine hK _ ?_; clear hK K)
      (refine anyG_step hG (i := 3) rfl (by kernel_rfl) (by kernel_rfl) (by kernel_rfl) (fun K hK => ?_); go_simp; refine hK _ ?_; clear hK K)
      (refine anyG_step hG (i := 4) rfl (by kernel_rfl) (by kernel_rfl) (by kernel_rfl) (fun K hK => ?_); go_simp; refine hK _ ?_; clear hK K)
      (refine anyG_step hG (i := 5) rfl (by kernel_rfl) (by kernel_rfl) (by kernel_rfl) (fun K hK => ?_); go_simp; refine hK _ ?_; clear hK K)
      (refine anyG_step hG (i := 6) rfl (by kernel_rfl) (by kernel_rfl) (by kernel_rfl) (fun K hK => ?_); go_simp; apply Exists.intro; refine ⟨fun _ => ?_, hK _ ?_⟩; exact cP _; clear hK K)
      clear ga0 ga1 ga2 ga3 g1 g2 g3 g4 cP hG d0 d1 d2 d3 d4
      refine anyG_one (i := 7) rfl (by kernel_rfl) ?_
      intro w22 hb22 K hK
      go_simp
      have hb2a : Below w22.heap.size w22 (w22.alloc (.cells #[.int .i64 0, .int .i64 0, .int .i64 0, .int .i64 0] 36)) := (Below.refl _ w22).alloc (Nat.le_refl _) _
      refine hK _ _ hb2a ?_
      clear hK K
      refine anyG_late (i := 8) rfl (by kernel_rfl) (by kernel_rfl) ?_
      intro w23 hb23 K hK
      have hh := counted_below (counted_new w22 0 0 0 0 36) hb23
      have HH : Hid _ := hh
      obtain ⟨⟨h0, h1, h2, h3⟩, k0, k1, k2, k3⟩ := hh
      go_simp
      refine hK _ _ ?_
      clear hK K
      refine anyG_end (by kernel_rfl) ?_
      intro w24 hb24
      have hx1 := hb21.trans (hb22.mono hb21.size)
      have hne2 : w22.heap.size ≠ w.heap.size + 1 := by have := hx1.size; have := hB1.size; have := counted_lt HA.out; omega
      have hx2 := hx1.trans (hb2a.mono hx1.size)
      have hx3 := hx2.trans (hb23.mono hx2.size)
      have hx4 := below_set4 hx3 (B := w22.heap.size) hx1.size (.int .i64 (C1 (pre ++ (l.runes ++ c)))) (.int .i64 (C2 (pre ++ (l.runes ++ c)))) (.int .i64 (C3 (pre ++ (l.runes ++ c)))) (.int .i64 (C4 (pre ++ (l.runes ++ c))))
      have hB2 := hx4.trans (hb24.mono hx4.size)
      have hC2 := counted_below (counted_set (m1 := C1 (pre ++ (l.runes ++ c))) (m2 := C2 (pre ++ (l.runes ++ c))) (m3 := C3 (pre ++ (l.runes ++ c))) (m4 := C4 (pre ++ (l.runes ++ c))) HH.out) hb24
      clear hb21 hb22 hb2a hb23 hb24 hx1 hx2 hx3 hx4 HH h0 h1 h2 h3 k0 k1 k2 k3
      generalize w22.heap.size = B2 at *
      have hB12 := hB1.trans (hB2.mono hB1.size)
      have hF := counted_below hC1 hB2
      have HF : Hid _ := hF
      have HH2 : Hid _ := hC2
      have hbw2 := hbw.trans (hB12.mono hbw.size)
      obtain ⟨⟨f0, f1, f2, f3⟩, _⟩ := hF
      go_wp2
      have hq1 := HE.out.2 (pre ++ l.runes) w24 hz1 hbw2
      refine hq1.mono ?_
      rintro e w31 ⟨rfl, hb31⟩
      have hB13 := hB12.trans (hb31.mono hB12.size)
      have hF3 := counted_below HF.out hb31
      have hH3 := counted_below HH2.out hb31
      have hbw3 := hbw.trans (hB13.mono hbw.size)
      have e0 := cell_on hB13 c0
      have e5 := cell_on hB13 c5
      have e6 := cell_on hB13 c6
      have HF3 : Hid _ := hF3
      have HH3 : Hid _ := hH3
      have HB13 : Hid _ := hB13
      have HBW3 : Hid _ := hbw3
      clear f0 f1 f2 f3 hq1 hb31 hC1 hC2 hB1 hB2 hB12 hbw2 c0 c1 c2 c3 c4 c5 c6 hB13 hbw3 hbw hA
      obtain ⟨⟨f0, f1, f2, f3⟩, _⟩ := hF3
      obtain ⟨⟨h0, h1, h2, h3⟩, _⟩ := hH3
      cases hf1 : f (pre ++ l.runes) with
      | true =>
        clear h0 h1 h2 h3 f0 f1 f2 f3
        go_wp2
        go_roundw
        case rel => exact ⟨pl, l, pre, rfl, isTree_below HB13.out HL.out, HO.out.1, counted_below HA.out HB13.out, counted_below HRR.out HB13.out, HBW3.out, (by have := HZ.out; rw [List.append_assoc l.runes, ← List.append_assoc] at this; exact C1_left this), by rw [HFD.out, List.append_assoc, find_left hf1], (cellOn (HB13.out.block (w.heap.size + 1) (counted_lt HA.out)) 5).trans HN5.out⟩
        case measure =>
          show sizeAt _ _ < sizeAt _ _
          rw [sizeAt_tree (isTree_below HB13.out HL.out), sizeAt_tree HQ.out]
          simp only [T.size]
          omega
      | false =>
        go_wp2
        have hq2 := HE.out.2 (pre ++ (l.runes ++ c)) w31 (by rw [← List.append_assoc]; exact hz2) HBW3.out
        refine hq2.mono ?_
        rintro e w41 ⟨rfl, hb41⟩
        have hF4 := counted_below HF3.out hb41
        have hH4 := counted_below HH3.out hb41
        have hB14 := HB13.out.trans (hb41.mono HB13.out.size)
        have hbw4 := HBW3.out.trans (hb41.mono HBW3.out.size)
        have i0 := cell_on hb41 e0
        have i6 := cell_on hb41 e6
        have HB14 : Hid _ := hB14
        have HBW4 : Hid _ := hbw4
        have HF4 : Hid _ := hF4
        have HH4 : Hid _ := hH4
        clear hq2 hb41 f0 f1 f2 f3 h0 h1 h2 h3 e0 e5 e6
        obtain ⟨⟨f0, f1, f2, f3⟩, _⟩ := hF4
        obtain ⟨⟨h0, h1, h2, h3⟩, _⟩ := hH4
        cases hf2 : f (pre ++ (l.runes ++ c)) with
        | true =>
          go_wp2
          refine wp_region_rel 8 9 (by kernel_rfl) rfl ?_
          intro w51 hb51
          obtain ⟨G, hG⟩ := exists_growth w51
          have ga0 := hG.cell (cell_on hb51 f0)
          have ga1 := hG.cell (cell_on hb51 f1)
          have ga2 := hG.cell (cell_on hb51 f2)
          have ga3 := hG.cell (cell_on hb51 f3)
          have g0 := hG.cell (cell_on hb51 i0)
          have hbw5 := hbw4.trans (hb51.mono hbw4.size)
          have cW := fun x => within_any f F cap (pre ++ l.runes) c HO.out.2.2.2.2 (by have := HZ.out; rw [← List.append_assoc, ← List.append_assoc] at this; exact C1_left this) (G x) (Go.Proofs.Utf8Tabs_below HT.out (hbw5.trans ((hG.below x).mono hbw5.size))) (asks_below HE.out (hbw5.trans ((hG.below x).mono hbw5.size)))
          have HN : Hid (find f [] t.runes = (seek f (pre ++ l.runes) c).getD (pre ++ l.runes)) := by
            show _ = _
            rw [HFD.out, find_here hf hf1 (by rw [List.append_assoc]; exact hf2)]
          generalize (seek f (pre ++ l.runes) c).getD (pre ++ l.runes) = X at *
          unfold cntV at cW
          (refine anyG_step hG (i := 0) rfl (by kernel_rfl) (by kernel_rfl) (by kernel_rfl) (fun K hK => ?_); go_simp; refine hK _ ?_; clear hK K)
          (refine anyG_step hG (i := 1) rfl (by kernel_rfl) (by kernel_rfl) (by kernel_rfl) (fun K hK => ?_); go_simp; refine hK _ ?_; clear hK K)
          (refine anyG_step hG (i := 2) rfl (by kernel_rfl) (by kernel_rfl) (by kernel_rfl) (fun K hK => ?_); go_simp; refine hK _ ?_; clear hK K)
          (refine anyG_step hG (i := 3) rfl (by kernel_rfl) (by kernel_rfl) (by kernel_rfl) (fun K hK => ?_); go_simp; refine hK _ ?_; clear hK K)
          (refine anyG_step hG (i := 4) rfl (by kernel_rfl) (by kernel_rfl) (by kernel_rfl) (fun K hK => ?_); go_simp; refine hK _ ?_; clear hK K)
          (refine anyG_step hG (i := 5) rfl (by kernel_rfl) (by kernel_rfl) (by kernel_rfl) (fun K hK => ?_); go_simp; refine hK _ ?_; clear hK K)
          (refine anyG_step hG (i := 6) rfl (by kernel_rfl) (by kernel_rfl) (by kernel_rfl) (fun K hK => ?_); go_simp; refine hK _ ?_; clear hK K)
          (refine anyG_step hG (i := 7) rfl (by kernel_rfl) (by kernel_rfl) (by kernel_rfl) (fun K hK => ?_); go_simp; apply Exists.intro; refine ⟨fun _ => ?_, hK _ ?_⟩; exact cW _; clear hK K)
          clear ga0 ga1 ga2 ga3 g0 cW hG f0 f1 f2 f3 h0 h1 h2 h3 i0 i6
          refine anyG_late (i := 8) rfl (by kernel_rfl) (by kernel_rfl) ?_
          intro w53 hb53 K hK
          have hbw6 := hbw5.trans (hb53.mono hbw5.size)
          have hr6 := counted_below HRR.out (HB14.out.trans ((hb51.trans (hb53.mono hb51.size)).mono HB14.out.size))
          have HR6 : Hid _ := hr6
          obtain ⟨⟨z0, z1, z2, z3⟩, y0, y1, y2, y3⟩ := hr6
          go_simp
          refine hK _ _ ?_
          clear hK K
          refine anyG_end (by kernel_rfl) ?_
          intro w54 hb54
          have hset := counted_below (counted_set (m1 := C1 X) (m2 := C2 X) (m3 := C3 X) (m4 := C4 X) HR6.out) hb54
          have hbw7 := below_set4 hbw6 (Nat.le_refl _) (.int .i64 (C1 X)) (.int .i64 (C2 X)) (.int .i64 (C3 X)) (.int .i64 (C4 X))
          have hbw8 := hbw7.trans (hb54.mono hbw7.size)
          clear z0 z1 z2 z3 y0 y1 y2 y3 hb54
          obtain ⟨⟨x0, x1, x2, x3⟩, _⟩ := hset
          go_wp2
          refine bodyPost_ret (v := cntV X) (by simp [results, Tryd.results93, go_sem, x0, x1, x2, x3, cntV]) rfl ⟨by rw [HN.out], hbw8⟩
        | false =>
          go_wp2
          refine wp_region_but (w.heap.size + 1) 7 7 (by kernel_rfl) rfl ?_
          intro w51 hb51
          obtain ⟨G, hG⟩ := exists_growB (w.heap.size + 1) w51
          have hw0 := But.refl (w.heap.size + 1) w51
          have ga0 := hG.cell hne2 (cell_on hb51 h0)
          have ga1 := hG.cell hne2 (cell_on hb51 h1)
          have ga2 := hG.cell hne2 (cell_on hb51 h2)
          have ga3 := hG.cell hne2 (cell_on hb51 h3)
          have g6 := hG.cell hne1 (cell_on hb51 i6)
          (refine anyB_step hG hw0 (i := 0) rfl (by kernel_rfl) (by kernel_rfl) (by kernel_rfl) (fun K hK => ?_); go_simp; refine hK _ ?_; clear hK K)
          (refine anyB_step hG hw0 (i := 1) rfl (by kernel_rfl) (by kernel_rfl) (by kernel_rfl) (fun K hK => ?_); go_simp; refine hK _ ?_; clear hK K)
          (refine anyB_step hG hw0 (i := 2) rfl (by kernel_rfl) (by kernel_rfl) (by kernel_rfl) (fun K hK => ?_); go_simp; refine hK _ ?_; clear hK K)
          (refine anyB_step hG hw0 (i := 3) rfl (by kernel_rfl) (by kernel_rfl) (by kernel_rfl) (fun K hK => ?_); go_simp; refine hK _ ?_; clear hK K)
          (refine anyB_step hG hw0 (i := 4) rfl (by kernel_rfl) (by kernel_rfl) (by kernel_rfl) (fun K hK => ?_); go_simp; refine hK _ ?_; clear hK K)
          clear ga0 ga1 ga2 ga3 g6 hG f0 f1 f2 f3 h0 h1 h2 h3 i0 i6
          refine anyB_one (i := 5) (by kernel_rfl) ⟨_, rfl, ?_⟩
          intro w53 hb53 K hK
          have hb43 := hb51.trans (hb53.mono hb51.size)
          have hB15 := HB14.out.trans (hb43.mono HB14.out.size)
          have ha6 := counted_below HA.out hB15
          have HA6 : Hid _ := ha6
          have HB15 : Hid _ := hB15
          obtain ⟨⟨z0, z1, z2, z3⟩, y0, y1, y2, y3⟩ := ha6
          go_simp
          refine hK _ _ (fun h => (((h.setCell rfl _).setCell rfl _).setCell rfl _).setCell rfl _) ?_
          clear hK K z0 z1 z2 z3 y0 y1 y2 y3
          refine anyB_one (i := 6) (by kernel_rfl) ⟨_, rfl, ?_⟩
          intro w55 hb55 K hK
          go_simp
          refine hK _ _ (fun h => h) ?_
          clear hK K
          refine anyB_end (by kernel_rfl) ?_
          intro w56 hb56
          have hb57 := hb55.trans (hb56.mono hb55.size)
          have HN6 : Hid (w53.cell? ⟨w.heap.size + 1, 5, none⟩ = none) := (cellOn (HB15.out.block (w.heap.size + 1) (counted_lt HA.out)) 5).trans HN5.out
          have HBU : Hid _ := ((((But.refl (w.heap.size + 1) w53).setCell (p := ⟨w.heap.size + 1, 0, none⟩) rfl (.int .i64 (C1 (pre ++ (l.runes ++ c))))).setCell (p := ⟨w.heap.size + 1, 1, none⟩) rfl (.int .i64 (C2 (pre ++ (l.runes ++ c))))).setCell (p := ⟨w.heap.size + 1, 2, none⟩) rfl (.int .i64 (C3 (pre ++ (l.runes ++ c))))).setCell (p := ⟨w.heap.size + 1, 3, none⟩) rfl (.int .i64 (C4 (pre ++ (l.runes ++ c))))
          have hT6 := isTree_below hb57 (isTree_but HBU.out HN6.out (isTree_below HB15.out HRT.out))
          have hA7 := counted_below (counted_set (m1 := C1 (pre ++ (l.runes ++ c))) (m2 := C2 (pre ++ (l.runes ++ c))) (m3 := C3 (pre ++ (l.runes ++ c))) (m4 := C4 (pre ++ (l.runes ++ c))) HA6.out) hb57
          have hbw5 : Below w.heap.size w w53 := HBW4.out.trans (hb43.mono HBW4.out.size)
          have hbw6 := below_set4 hbw5 (B := w.heap.size + 1) (Nat.le_succ _) (.int .i64 (C1 (pre ++ (l.runes ++ c)))) (.int .i64 (C2 (pre ++ (l.runes ++ c)))) (.int .i64 (C3 (pre ++ (l.runes ++ c)))) (.int .i64 (C4 (pre ++ (l.runes ++ c))))
          have hbw7 := hbw6.trans (hb57.mono hbw6.size)
          have hR5 := counted_below HRR.out HB15.out
          have hR7 := counted_below (counted_on (HBU.out.block w.heap.size (counted_lt hR5) (by omega)) hR5) hb57
          have hlt5 : w.heap.size + 1 < w53.heap.size := Nat.lt_of_lt_of_le (counted_lt HA.out) HB15.out.size
          have hn7 := (cellOn (hb57.block (w.heap.size + 1) (by simpa [World.setCell] using hlt5)) 5).trans ((World.cell?_setCell_other _ _ ⟨w.heap.size + 1, 5, none⟩ _ (by simp)).trans ((World.cell?_setCell_other _ _ ⟨w.heap.size + 1, 5, none⟩ _ (by simp)).trans ((World.cell?_setCell_other _ _ ⟨w.heap.size + 1, 5, none⟩ _ (by simp)).trans ((World.cell?_setCell_other _ _ ⟨w.heap.size + 1, 5, none⟩ _ (by simp)).trans HN6.out))))
          have HG : Hid (find f [] t.runes = find f (pre ++ (l.runes ++ c)) r.runes) := by
            show _ = _
            rw [HFD.out, find_right hf hf2]
          clear hb43 hb51 hb53 hb55 hb56 hB14 hbw4 hbw5 hbw6 hB15 hR5 hlt5
          go_wp2
          go_roundw
          case rel => exact ⟨pr, r, pre ++ (l.runes ++ c), rfl, hT6, HO.out.2.1, hA7, hR7, hbw7, (by have := HZ.out; rwa [← List.append_assoc] at this), HG.out, hn7⟩
          case measure =>
            show sizeAt _ _ < sizeAt _ _
            rw [sizeAt_tree hT6, sizeAt_tree HQ.out]
            simp only [T.size]
            omega
end Go.Proofs.YtgmgkbbnciglhaaDoor

namespace Go.Proofs.YtgmgkbbnciglhaaDoor
open Go.RowKit
set_option linter.unusedVariables false
attribute [local go_sem] Oper.semAt_some yieldsUpon okUpon field0

def reaches (at_ : Int) (rs : List Nat) : Bool := decide (at_ ≤ C1 rs)
theorem reaches_rising (at_ : Int) : rising (reaches at_) := fun a b h => by
  have h1 : at_ ≤ C1 a := of_decide_eq_true h
  have := C1_pos b
  exact decide_eq_true (by rw [C1_append]; omega)

set_option maxRecDepth 100000 in
set_option maxHeartbeats 2000000 in
theorem whole1_asks (at_ : Int) (b : Nat) (W : World) (hb : W.cell? ⟨b, 0, none⟩ = some (.int .i64 at_)) : asks W 126 #[.pointer (some ⟨b, 0, none⟩)] (reaches at_) := by
  refine ⟨enters_of Tryd.func126 (by kernel_rfl) rfl, fun rs wx _ hbx => ?_⟩
  have h0 := cell_on hbx hb
  have hbw : Below wx.heap.size wx (wx.alloc (.cells #[.int .i64 (C1 rs), .int .i64 (C2 rs), .int .i64 (C3 rs), .int .i64 (C4 rs)] 36)) := (Below.refl _ _).alloc (Nat.le_refl _) _
  have h1 := cell_on hbw h0
  unfold cntV reaches
  go_enter Tryd.func126, Tryd.ntmps126
  go_wp2
  go_ret
  exact ⟨by simp, hbw⟩

set_option maxRecDepth 100000 in
set_option maxHeartbeats 2000000 in
theorem whole_any (p : Option Addr) (t : T) (at_ : Int) (w : World) (hT : Lib.Utf8Tabs 0 1 w) (ht : isTree w p t) (ho : okT t) (hz : C1 t.runes ≤ 100000000) :
    Calls Tryd.prog 84 #[.pointer p, .int .i64 at_] w fun e w' => e = .returned (.bool (decide (C1 (find (reaches at_) [] t.runes) = at_))) ∧ Below w.heap.size w w' := by
  have hbw : Below w.heap.size w (w.alloc (.cells #[.int .i64 at_] 3)) := (Below.refl _ _).alloc (Nat.le_refl _) _
  have h1 : (w.alloc (.cells #[.int .i64 at_] 3)).cell? ⟨w.heap.size, 0, none⟩ = some (.int .i64 at_) := by simp [go_sem]
  have hU := fun wx (hb : Below (w.alloc (.cells #[.int .i64 at_] 3)).heap.size (w.alloc (.cells #[.int .i64 at_] 3)) wx) => until_any (reaches at_) (reaches_rising at_) 126 #[.pointer (some ⟨w.heap.size, 0, none⟩)] p t wx (Go.Proofs.Utf8Tabs_below (Go.Proofs.Utf8Tabs_below hT hbw) hb) (isTree_below hb (isTree_below hbw ht)) ho hz (whole1_asks at_ w.heap.size _ (cell_on hb h1))
  unfold cntV at hU
  clear ht ho hz hT
  go_enter Tryd.func84, Tryd.ntmps84
  go_wp2_with (first | (go_at_call 9999) | fail)
  refine wp_region_rel 7 7 (by kernel_rfl) rfl ?_
  intro w1 hb1
  obtain ⟨G, hG⟩ := exists_growth w1
  have g0 := hG.cell (cell_on hb1 h1)
  have cU := fun x => hU (G x) (hb1.trans ((hG.below x).mono hb1.size))
  (refine anyG_step hG (i := 0) rfl (by kernel_rfl) (by kernel_rfl) (by kernel_rfl) (fun K hK => ?_); go_simp; refine hK _ ?_; clear hK K)
  (refine anyG_step hG (i := 1) rfl (by kernel_rfl) (by kernel_rfl) (by kernel_rfl) (fun K hK => ?_); go_simp; refine hK _ ?_; clear hK K)
  (refine anyG_step hG (i := 2) rfl (by kernel_rfl) (by kernel_rfl) (by kernel_rfl) (fun K hK => ?_); go_simp; apply Exists.intro; refine ⟨fun _ => ?_, hK _ ?_⟩; exact cU _; clear hK K)
  (refine anyG_step hG (i := 3) rfl (by kernel_rfl) (by kernel_rfl) (by kernel_rfl) (fun K hK => ?_); go_simp; refine hK _ ?_; clear hK K)
  (refine anyG_step hG (i := 4) rfl (by kernel_rfl) (by kernel_rfl) (by kernel_rfl) (fun K hK => ?_); go_simp; refine hK _ ?_; clear hK K)
  (refine anyG_step hG (i := 5) rfl (by kernel_rfl) (by kernel_rfl) (by kernel_rfl) (fun K hK => ?_); go_simp; refine hK _ ?_; clear hK K)
  (refine anyG_step hG (i := 6) rfl (by kernel_rfl) (by kernel_rfl) (by kernel_rfl) (fun K hK => ?_); go_simp; refine hK _ ?_; clear hK K)
  clear g0 cU hG hU h1
  refine anyG_end (by kernel_rfl) ?_
  intro w2 hb2
  have hb3 := hb1.trans (hb2.mono hb1.size)
  have hb4 := hbw.trans (hb3.mono hbw.size)
  clear hb1 hb2 hb3
  go_wp2
  go_ret
  have he : (C1 (find (reaches at_) [] t.runes) == at_) = decide (C1 (find (reaches at_) [] t.runes) = at_) := by rw [Bool.eq_iff_iff]; simp
  exact ⟨by simp [he], hb4⟩
end Go.Proofs.YtgmgkbbnciglhaaDoor
