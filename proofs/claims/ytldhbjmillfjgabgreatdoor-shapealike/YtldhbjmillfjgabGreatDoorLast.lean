/-
  rope.last: the last chunk of a tree, and the tree of the others.
-/
import Derived.Test.YtldhbjmillfjgabGreatDoorRegionBut
namespace Go.Proofs.YtldhbjmillfjgabGreatDoor
open Go.RowKit
set_option linter.unusedVariables false
attribute [local go_sem] yieldsUpon okUpon

/-- What an end's taking leaves. -/
def ended (t : T) (c : List Nat) (t' : T) : Prop := t.chunks = t'.chunks ++ [c] ∧ t'.bal
set_option maxRecDepth 100000 in
set_option maxHeartbeats 2000000 in
theorem last_one (p : Option Addr) (l : T) (c : List Nat) (w : World) (ht : isTree w p (.node l c .nil)) :
    Calls Tryz.prog 112 #[.pointer p] w fun e w' => ∃ q, e = .returned (.tuple #[chunkV c, .pointer q]) ∧ isTree w' q l ∧ Below w.heap.size w w' := by
  obtain ⟨b1, pl, pr, rfl, ⟨c0, c1, c2, c3, c4⟩, ⟨c5, c6⟩, _, _, hl, hr⟩ := ht
  have hb0 : ∀ o, Below w.heap.size w (w.alloc o) := fun o => (Below.refl _ w).alloc (Nat.le_refl _) o
  have hlt : b1 < w.heap.size := World.block_lt_of_cell? w _ c0
  have HT : Hid (isTree w pl l) := hl
  obtain rfl : pr = none := hr
  clear hl
  have d6 := fun o => cell_on (hb0 o) c6
  have hA := chunkAt_new w (.string ⟨#[]⟩) (.int .i64 0) (.int .i64 0) (.int .i64 0) (.int .i64 0) 194
  unfold chunkV
  generalize bytesOf c = v0 at *
  generalize C1 c = v1 at *
  generalize C2 c = v2 at *
  generalize C3 c = v3 at *
  generalize C4 c = v4 at *
  go_enter Tryz.func112, Tryz.ntmps112
  go_wp2
  have hbW := hb0 (.cells #[.string ⟨#[]⟩, .int .i64 0, .int .i64 0, .int .i64 0, .int .i64 0] 194)
  generalize (w.alloc (.cells #[.string ⟨#[]⟩, .int .i64 0, .int .i64 0, .int .i64 0, .int .i64 0] 194)) = W at *
  clear d6 hb0
  refine wp_region_but w.heap.size 10 10 (by kernel_rfl) rfl ?_
  intro w1 hb1
  have hbw := hbW.trans (hb1.mono hbW.size)
  have hA1 := chunkAt_below hA hb1
  obtain ⟨G, hG⟩ := exists_growB w.heap.size w1
  have hw0 := But.refl w.heap.size w1
  have hne : b1 ≠ w.heap.size := Nat.ne_of_lt hlt
  have g0 := hG.cell hne (cell_on hbw c0)
  have g1 := hG.cell hne (cell_on hbw c1)
  have g2 := hG.cell hne (cell_on hbw c2)
  have g3 := hG.cell hne (cell_on hbw c3)
  have g4 := hG.cell hne (cell_on hbw c4)
  have g5 := hG.cell hne (cell_on hbw c5)
  clear c0 c1 c2 c3 c4 c5 c6 hA
  (refine anyB_step hG hw0 (i := 0) rfl (by kernel_rfl) (by kernel_rfl) (by kernel_rfl) (fun K hK => ?_); go_simp; refine hK _ ?_; clear hK K)
  (refine anyB_step hG hw0 (i := 1) rfl (by kernel_rfl) (by kernel_rfl) (by kernel_rfl) (fun K hK => ?_); go_simp; refine hK _ ?_; clear hK K)
  (refine anyB_step hG hw0 (i := 2) rfl (by kernel_rfl) (by kernel_rfl) (by kernel_rfl) (fun K hK => ?_); go_simp; refine hK _ ?_; clear hK K)
  (refine anyB_step hG hw0 (i := 3) rfl (by kernel_rfl) (by kernel_rfl) (by kernel_rfl) (fun K hK => ?_); go_simp; refine hK _ ?_; clear hK K)
  (refine anyB_step hG hw0 (i := 4) rfl (by kernel_rfl) (by kernel_rfl) (by kernel_rfl) (fun K hK => ?_); go_simp; refine hK _ ?_; clear hK K)
  (refine anyB_step hG hw0 (i := 5) rfl (by kernel_rfl) (by kernel_rfl) (by kernel_rfl) (fun K hK => ?_); go_simp; refine hK _ ?_; clear hK K)
  (refine anyB_step hG hw0 (i := 6) rfl (by kernel_rfl) (by kernel_rfl) (by kernel_rfl) (fun K hK => ?_); go_simp; refine hK _ ?_; clear hK K)
  (refine anyB_step hG hw0 (i := 7) rfl (by kernel_rfl) (by kernel_rfl) (by kernel_rfl) (fun K hK => ?_); go_simp; refine hK _ ?_; clear hK K)
  clear g0 g1 g2 g3 g4 g5 hG
  refine anyB_one (i := 8) (by kernel_rfl) ⟨_, rfl, ?_⟩
  intro w2 hb2 K hK
  have hA2 := chunkAt_below hA1 hb2
  have hbw2 := hbw.trans (hb2.mono hbw.size)
  have HA2 : Hid _ := hA2
  obtain ⟨⟨a0, a1, a2, a3, a4⟩, f0, f1, f2, f3, f4⟩ := hA2
  go_simp
  refine hK _ _ (fun h => ((((h.setCell rfl _).setCell rfl _).setCell rfl _).setCell rfl _).setCell rfl _) ?_
  clear hK K
  refine anyB_one (i := 9) (by kernel_rfl) ⟨_, rfl, ?_⟩
  intro w3 hb3 K hK
  have hA3 := chunkAt_below (chunkAt_set HA2.out) hb3
  have hbw3 := (below_set5 hbw2 (Nat.le_refl _) _ _ _ _ _).trans (hb3.mono (below_set5 hbw2 (Nat.le_refl _) _ _ _ _ _).size)
  go_simp
  refine hK _ _ (fun h => h) ?_
  clear hK K
  refine anyB_end (by kernel_rfl) ?_
  intro w4 hb4
  have hA4 := chunkAt_below hA3 hb4
  have hbw4 := hbw3.trans (hb4.mono hbw3.size)
  clear a0 a1 a2 a3 a4 f0 f1 f2 f3 f4 hb3 hb4 hA3 HA2 hA1
  have HT4 : Hid _ := isTree_below hbw4 HT.out
  obtain ⟨⟨a0, a1, a2, a3, a4⟩, f0, f1, f2, f3, f4⟩ := hA4
  go_wp2
  refine bodyPost_ret (v := .tuple #[.agg #[.string v0, .int .i64 v1, .int .i64 v2, .int .i64 v3, .int .i64 v4], .pointer pl]) (by simp [results, Tryz.results112, go_sem, a0, a1, a2, a3, a4]) rfl ⟨_, rfl, HT4.out, hbw4⟩

set_option maxRecDepth 100000 in
set_option maxHeartbeats 2000000 in
theorem last_more (p : Option Addr) (l r : T) (c : List Nat) (w : World) (ht : isTree w p (.node l c r)) (hne : r ≠ .nil) (hz : big (.node l c r)) (hbal : (T.node l c r).bal)
    (ih : ∀ (p : Option Addr) (w : World), isTree w p r → Calls Tryz.prog 112 #[.pointer p] w fun e w' => ∃ c q t, e = .returned (.tuple #[chunkV c, .pointer q]) ∧ isTree w' q t ∧ ended r c t ∧ Below w.heap.size w w') :
    Calls Tryz.prog 112 #[.pointer p] w fun e w' => ∃ c1 q t, e = .returned (.tuple #[chunkV c1, .pointer q]) ∧ isTree w' q t ∧ ended (.node l c r) c1 t ∧ Below w.heap.size w w' := by
  obtain ⟨b1, pl, pr, rfl, ⟨c0, c1, c2, c3, c4⟩, ⟨c5, c6⟩, _, _, hl, hr⟩ := ht
  have hb0 : ∀ o, Below w.heap.size w (w.alloc o) := fun o => (Below.refl _ w).alloc (Nat.le_refl _) o
  have hlt : b1 < w.heap.size := World.block_lt_of_cell? w _ c0
  have hsub : ∃ b2, pr = some ⟨b2, 0, none⟩ := by
    cases r with
    | nil => exact absurd rfl hne
    | node x y z => obtain ⟨b, _, _, e, _⟩ := hr; exact ⟨b, e⟩
  obtain ⟨b2, rfl⟩ := hsub
  have cI := fun o => ih _ (w.alloc o) (isTree_below (hb0 o) hr)
  have HT : Hid (isTree w pl l) := hl
  have HJ : Hid (∀ c1 t, ended r c1 t → ∀ p1 p2 W, isTree W p1 l → isTree W p2 t → Calls Tryz.prog 159 #[.pointer p1, chunkV c, .pointer p2] W fun e w' => ∃ q t', e = .returned (.pointer q) ∧ isTree w' q t' ∧ ended (.node l c r) c1 t' ∧ Below W.heap.size W w') := fun c1 t he p1 p2 W h1 h2 => by
    obtain ⟨b1, b2, b3, b4⟩ := hbal
    have hbig : big (.node l c t) := by
      obtain ⟨z1, z2⟩ := hz
      have e1 := he.1
      simp only [T.runes, T.size, C1_append] at z1 z2
      rw [runes_chunks r, e1] at z1
      rw [size_chunks r, e1] at z2
      simp only [List.flatten_append, C1_append, List.length_append, List.length_singleton] at z1 z2
      have := C1_pos [c1].flatten
      exact ⟨by simp only [T.runes, C1_append, runes_chunks t]; omega, by simp only [T.size, size_chunks t]; omega⟩
    refine (join_any _ p1 p2 l t c W (Nat.le_refl _) h1 h2 hbig b1 he.2).mono ?_
    rintro e w' ⟨q, t', rfl, ht', ⟨j1, j2, _, _⟩, hb⟩
    exact ⟨q, t', rfl, ht', ⟨by rw [j1, T.chunks, he.1]; simp, j2⟩, hb⟩
  clear hl hr hne hz hbal ih
  have d6 := fun o => cell_on (hb0 o) c6
  have hA := chunkAt_new w (.string ⟨#[]⟩) (.int .i64 0) (.int .i64 0) (.int .i64 0) (.int .i64 0) 194
  have hN : (w.alloc (.cells #[.string ⟨#[]⟩, .int .i64 0, .int .i64 0, .int .i64 0, .int .i64 0] 194)).cell? ⟨w.heap.size, 5, none⟩ = none := by simp [go_sem]
  have HA : Hid _ := hA
  have HN : Hid _ := hN
  clear hA hN
  unfold chunkV at cI HJ ⊢
  go_enter Tryz.func112, Tryz.ntmps112
  go_wp2_with (first | (go_at_call 112; refine (cI _).mono ?_; rintro e w1 ⟨x, p', t, rfl, ht1, he, hb1⟩; have HT1 : Hid _ := ht1; have HE : Hid _ := he; clear ht1 he) | fail)
  obtain ⟨W, hW⟩ : ∃ W, w1.alloc (.cells #[.string (bytesOf x), .int .i64 (C1 x), .int .i64 (C2 x), .int .i64 (C3 x), .int .i64 (C4 x)] 194) = W := ⟨_, rfl⟩
  have hB4 : chunkAt W w1.heap.size (.string (bytesOf x)) (.int .i64 (C1 x)) (.int .i64 (C2 x)) (.int .i64 (C3 x)) (.int .i64 (C4 x)) := by rw [← hW]; exact chunkAt_new _ _ _ _ _ _ _
  have hb1W : Below w1.heap.size w1 W := by rw [← hW]; exact (Below.refl _ _).alloc (Nat.le_refl _) _
  rw [hW]
  clear hW cI d6
  have hA := chunkAt_below (chunkAt_below HA.out hb1) hb1W
  have hltA := chunkAt_lt HA.out
  have hN := (((hb1.trans (hb1W.mono hb1.size)).cell (p := ⟨w.heap.size, 5, none⟩) hltA)).trans HN.out
  have ht1 := isTree_below hb1W HT1.out
  have hbW := (hb0 (.cells #[.string ⟨#[]⟩, .int .i64 0, .int .i64 0, .int .i64 0, .int .i64 0] 194)).trans ((hb1.trans (hb1W.mono hb1.size)).mono (hb0 (.cells #[.string ⟨#[]⟩, .int .i64 0, .int .i64 0, .int .i64 0, .int .i64 0] 194)).size)
  have hn14 : w1.heap.size ≠ w.heap.size := by have := hb1.size; omega
  clear HA HN HT1 hb1 hb1W hb0
  refine wp_region_but w.heap.size 13 13 (by kernel_rfl) rfl ?_
  intro w2 hb2
  have hbw := hbW.trans (hb2.mono hbW.size)
  have HA1 : Hid _ := chunkAt_below hA hb2
  have HN1 : Hid _ := (hb2.cell (p := ⟨w.heap.size, 5, none⟩) (chunkAt_lt hA)).trans hN
  have HT1 : Hid _ := isTree_below hb2 ht1
  have hB4' := chunkAt_below hB4 hb2
  obtain ⟨⟨e0, e1, e2, e3, e4⟩, _⟩ := hB4'
  obtain ⟨G, hG⟩ := exists_growB w.heap.size w2
  have hw0 := But.refl w.heap.size w2
  have hne : b1 ≠ w.heap.size := Nat.ne_of_lt hlt
  have g0 := hG.cell hne (cell_on hbw c0)
  have g1 := hG.cell hne (cell_on hbw c1)
  have g2 := hG.cell hne (cell_on hbw c2)
  have g3 := hG.cell hne (cell_on hbw c3)
  have g4 := hG.cell hne (cell_on hbw c4)
  have g5 := hG.cell hne (cell_on hbw c5)
  have k0 := hG.cell hn14 e0
  have k1 := hG.cell hn14 e1
  have k2 := hG.cell hn14 e2
  have k3 := hG.cell hn14 e3
  have k4 := hG.cell hn14 e4
  clear c0 c1 c2 c3 c4 c5 c6 hA hN ht1 hB4 e0 e1 e2 e3 e4
  (refine anyB_step hG hw0 (i := 0) rfl (by kernel_rfl) (by kernel_rfl) (by kernel_rfl) (fun K hK => ?_); go_simp; refine hK _ ?_; clear hK K)
  (refine anyB_step hG hw0 (i := 1) rfl (by kernel_rfl) (by kernel_rfl) (by kernel_rfl) (fun K hK => ?_); go_simp; refine hK _ ?_; clear hK K)
  (refine anyB_step hG hw0 (i := 2) rfl (by kernel_rfl) (by kernel_rfl) (by kernel_rfl) (fun K hK => ?_); go_simp; refine hK _ ?_; clear hK K)
  (refine anyB_step hG hw0 (i := 3) rfl (by kernel_rfl) (by kernel_rfl) (by kernel_rfl) (fun K hK => ?_); go_simp; refine hK _ ?_; clear hK K)
  (refine anyB_step hG hw0 (i := 4) rfl (by kernel_rfl) (by kernel_rfl) (by kernel_rfl) (fun K hK => ?_); go_simp; refine hK _ ?_; clear hK K)
  (refine anyB_step hG hw0 (i := 5) rfl (by kernel_rfl) (by kernel_rfl) (by kernel_rfl) (fun K hK => ?_); go_simp; refine hK _ ?_; clear hK K)
  (refine anyB_step hG hw0 (i := 6) rfl (by kernel_rfl) (by kernel_rfl) (by kernel_rfl) (fun K hK => ?_); go_simp; refine hK _ ?_; clear hK K)
  (refine anyB_step hG hw0 (i := 7) rfl (by kernel_rfl) (by kernel_rfl) (by kernel_rfl) (fun K hK => ?_); go_simp; refine hK _ ?_; clear hK K)
  (refine anyB_step hG hw0 (i := 8) rfl (by kernel_rfl) (by kernel_rfl) (by kernel_rfl) (fun K hK => ?_); go_simp; refine hK _ ?_; clear hK K)
  (refine anyB_step hG hw0 (i := 9) rfl (by kernel_rfl) (by kernel_rfl) (by kernel_rfl) (fun K hK => ?_); go_simp; refine hK _ ?_; clear hK K)
  clear g0 g1 g2 g3 g4 g5 k0 k1 k2 k3 k4 hG hb2
  refine anyB_one (i := 10) (by kernel_rfl) ⟨_, rfl, ?_⟩
  · intro w3 hb3 K hK
    have hbw3 := hbw.trans (hb3.mono hbw.size)
    have ht3 := isTree_below hb3 HT1.out
    have cj := HJ.out x t HE.out _ _ w3 (isTree_below hbw3 HT.out) ht3
    go_simp
    refine cj.mono ?_
    rintro e w4 ⟨q, t', rfl, ht4, he4, hb4⟩
    have HE9 : Hid _ := he4
    refine ⟨_, rfl, hK _ _ (fun h => h.trans (But.of_below hb4)) ?_⟩
    clear hK K cj he4 ht3
    have hb34 := hb3.trans (hb4.mono hb3.size)
    have hbw4 := hbw3.trans (hb4.mono hbw3.size)
    have HA4 : Hid _ := chunkAt_below HA1.out hb34
    have HN4 : Hid _ := (hb34.cell (p := ⟨w.heap.size, 5, none⟩) (chunkAt_lt HA1.out)).trans HN1.out
    refine anyB_one (i := 11) (by kernel_rfl) ⟨_, rfl, ?_⟩
    intro w5 hb5 K hK
    have hbw5 := hbw4.trans (hb5.mono hbw4.size)
    have hN5 := (hb5.cell (p := ⟨w.heap.size, 5, none⟩) (chunkAt_lt HA4.out)).trans HN4.out
    have HT5 : Hid _ := isTree_but (((((But.refl w.heap.size w5).setCell (p := ⟨w.heap.size, 0, none⟩) rfl (.string (bytesOf x))).setCell (p := ⟨w.heap.size, 1, none⟩) rfl (.int .i64 (C1 x))).setCell (p := ⟨w.heap.size, 2, none⟩) rfl (.int .i64 (C2 x))).setCell (p := ⟨w.heap.size, 3, none⟩) rfl (.int .i64 (C3 x)) |>.setCell (p := ⟨w.heap.size, 4, none⟩) rfl (.int .i64 (C4 x))) hN5 (isTree_below hb5 ht4)
    clear ht4 hN5
    have HA5 : Hid _ := chunkAt_below HA4.out hb5
    have hx := HA5.out
    obtain ⟨⟨a0, a1, a2, a3, a4⟩, f0, f1, f2, f3, f4⟩ := hx
    go_simp
    refine hK _ _ (fun h => ((((h.setCell rfl _).setCell rfl _).setCell rfl _).setCell rfl _).setCell rfl _) ?_
    clear hK K a0 a1 a2 a3 a4 f0 f1 f2 f3 f4
    have hbs := below_set5 hbw5 (Nat.le_refl _) (.string (bytesOf x)) (.int .i64 (C1 x)) (.int .i64 (C2 x)) (.int .i64 (C3 x)) (.int .i64 (C4 x))
    have hAs := chunkAt_set (u0 := .string (bytesOf x)) (u1 := .int .i64 (C1 x)) (u2 := .int .i64 (C2 x)) (u3 := .int .i64 (C3 x)) (u4 := .int .i64 (C4 x)) HA5.out
    have hts := HT5.out
    refine anyB_one (i := 12) (by kernel_rfl) ⟨_, rfl, ?_⟩
    intro w8 hb8 K hK
    go_simp
    refine hK _ _ (fun h => h) ?_
    clear hK K
    refine anyB_end (by kernel_rfl) ?_
    intro w9 hb9
    have hb89 := hb8.trans (hb9.mono hb8.size)
    have hA9 := chunkAt_below hAs hb89
    have hbw9 := hbs.trans (hb89.mono hbs.size)
    have HT9 : Hid _ := isTree_below hb89 hts
    clear hb8 hb9 hb89 hts
    obtain ⟨⟨a0, a1, a2, a3, a4⟩, f0, f1, f2, f3, f4⟩ := hA9
    go_wp2
    refine bodyPost_ret (v := .tuple #[chunkV x, .pointer q]) (by simp [results, Tryz.results112, go_sem, a0, a1, a2, a3, a4, chunkV]) rfl ⟨_, _, _, rfl, HT9.out, HE9.out, hbw9⟩

theorem last_any : ∀ (n : Nat) (t : T) (p : Option Addr) (w : World), t.size ≤ n → t ≠ .nil → isTree w p t → big t → t.bal →
    Calls Tryz.prog 112 #[.pointer p] w fun e w' => ∃ c q t', e = .returned (.tuple #[chunkV c, .pointer q]) ∧ isTree w' q t' ∧ ended t c t' ∧ Below w.heap.size w w' := by
  intro n
  induction n with
  | zero =>
    intro t p w hn hne
    cases t with
    | nil => exact absurd rfl hne
    | node l c r => simp [T.size] at hn
  | succ n ih =>
    intro t p w hn hne ht hz hbal
    match t, hn, hne, ht, hz, hbal with
    | .nil, _, hne, _, _, _ => exact absurd rfl hne
    | .node l c r, hn, _, ht, hz, hbal =>
      by_cases hs : r = .nil
      · subst hs
        refine (last_one p l c w ht).mono ?_
        rintro e w' ⟨q, rfl, hq, hb⟩
        exact ⟨c, q, l, rfl, hq, ⟨by simp [T.chunks], hbal.1⟩, hb⟩
      · simp only [T.size] at hn
        exact last_more p l r c w ht hs hz hbal fun p' w' h' => ih r p' w' (by omega) hs h' (big_node hz).2.1 hbal.2.1
end Go.Proofs.YtldhbjmillfjgabGreatDoor
