/-
  rope.join: a chunk above two trees of any heights.
-/
import Derived.Test.YtldhbjmillfjgabGreatDoorTurnAny
namespace Go.Proofs.YtldhbjmillfjgabGreatDoor
open Go.RowKit
set_option linter.unusedVariables false
attribute [local go_sem] yieldsUpon okUpon

/-- What a joined tree is. -/
def joined (l r : T) (c : List Nat) (t : T) : Prop := t.chunks = l.chunks ++ [c] ++ r.chunks ∧ t.bal ∧ max l.height r.height ≤ t.height ∧ t.height ≤ 1 + max l.height r.height
theorem joined_same {l r : T} (c : List Nat) (hl : l.bal) (hr : r.bal) (h1 : l.height ≤ r.height + 1) (h2 : r.height ≤ l.height + 1) : joined l r c (.node l c r) :=
  ⟨rfl, ⟨hl, hr, h1, h2⟩, by show _ ≤ 1 + max l.height r.height; omega, Nat.le_refl _⟩
theorem joined_left {ll lr r t : T} {lc c : List Nat} (hl : (T.node ll lc lr).bal) (hr : r.bal) (h : r.height + 1 < (T.node ll lc lr).height) (hj : joined lr r c t) : joined (.node ll lc lr) r c (turnT ll lc t) := by
  obtain ⟨j1, j2, j3, j4⟩ := hj
  obtain ⟨b1, b2, b3, b4⟩ := hl
  have eh : (T.node ll lc lr).height = 1 + max ll.height lr.height := rfl
  obtain ⟨t1, t2, t3, t4⟩ := turnT_bal lc b1 j2 (by omega) (by omega)
  refine ⟨by rw [turnT_chunks, j1]; simp [T.chunks], t1, ?_, ?_⟩
  · by_cases h1 : ll.height ≤ t.height + 1
    · by_cases h2 : t.height ≤ ll.height + 1
      · have := t2 h1 h2; omega
      · omega
    · omega
  · by_cases h1 : ll.height ≤ t.height + 1
    · by_cases h2 : t.height ≤ ll.height + 1
      · have := t2 h1 h2; omega
      · omega
    · omega
theorem joined_right {l rl rr t : T} {rc c : List Nat} (hl : l.bal) (hr : (T.node rl rc rr).bal) (h : l.height + 1 < (T.node rl rc rr).height) (hj : joined l rl c t) : joined l (.node rl rc rr) c (turnT t rc rr) := by
  obtain ⟨j1, j2, j3, j4⟩ := hj
  obtain ⟨b1, b2, b3, b4⟩ := hr
  have eh : (T.node rl rc rr).height = 1 + max rl.height rr.height := rfl
  obtain ⟨t1, t2, t3, t4⟩ := turnT_bal rc j2 b2 (by omega) (by omega)
  refine ⟨by rw [turnT_chunks, j1]; simp [T.chunks], t1, ?_, ?_⟩
  · by_cases h1 : t.height ≤ rr.height + 1
    · by_cases h2 : rr.height ≤ t.height + 1
      · have := t2 h1 h2; omega
      · omega
    · omega
  · by_cases h1 : t.height ≤ rr.height + 1
    · by_cases h2 : rr.height ≤ t.height + 1
      · have := t2 h1 h2; omega
      · omega
    · omega
theorem big_join {l r t : T} {c : List Nat} (h : big (.node l c r)) (hj : joined l r c t) : big t := big_same h hj.1

set_option maxRecDepth 100000 in
set_option maxHeartbeats 2000000 in
theorem join_E (pl pr : Option Addr) (l r : T) (c : List Nat) (w : World) (hl : isTree w pl l) (hr : isTree w pr r) (hz : big (.node l c r)) (h1 : l.height ≤ r.height + 1) (h2 : r.height ≤ l.height + 1) :
    Calls Tryz.prog 159 #[.pointer pl, chunkV c, .pointer pr] w fun e w' => ∃ p, e = .returned (.pointer p) ∧ isTree w' p (.node l c r) ∧ Below w.heap.size w w' := by
  have hb0 : ∀ o, Below w.heap.size w (w.alloc o) := fun o => (Below.refl _ w).alloc (Nat.le_refl _) o
  have cl := fun o => nheight_any pl l (w.alloc o) (isTree_below (hb0 o) hl)
  have cr := fun o => nheight_any pr r (w.alloc o) (isTree_below (hb0 o) hr)
  have ck := fun o => link_fits hz (isTree_below (hb0 o) hl) (isTree_below (hb0 o) hr)
  obtain ⟨_, _, _, _, _, s3, s4⟩ := big_node hz
  have k1 : ¬ (1 < (l.height : Int) - r.height) := by omega
  have k2 : ¬ ((l.height : Int) - r.height < -1) := by omega
  have k3 : 0 ≤ (l.height : Int) ∧ (l.height : Int) < 1000000000 := by omega
  have k4 : 0 ≤ (r.height : Int) ∧ (r.height : Int) < 1000000000 := by omega
  clear h1 h2 s3 s4 hz
  have HLR : Hid (isTree w pl l ∧ isTree w pr r) := ⟨hl, hr⟩
  clear hl hr
  generalize (l.height : Int) = x1 at *
  generalize (r.height : Int) = x2 at *
  unfold chunkV at *
  go_enter Tryz.func159, Tryz.ntmps159
  go_wp2_with (first | (go_at_call_of 189 pl; refine (cl _).mono ?_; rintro e w1 ⟨rfl, rfl⟩) | (go_at_call_of 189 pr; refine (cr _).mono ?_; rintro e w1 ⟨rfl, rfl⟩) | (go_at_call 161; refine (ck _).mono ?_; rintro e w2 ⟨p, rfl, ht, hb⟩; have HT : Hid _ := ht; clear ht) | fail)
  go_ret
  exact ⟨p, rfl, HT.out, (hb0 _).trans (hb.mono (hb0 _).size)⟩

set_option maxRecDepth 100000 in
set_option maxHeartbeats 2000000 in
theorem join_L (pl pr : Option Addr) (ll lr r : T) (c lc : List Nat) (w : World) (hl : isTree w pl (.node ll lc lr)) (hr : isTree w pr r) (hz : big (.node (.node ll lc lr) c r)) (hd : r.height + 1 < (T.node ll lc lr).height) (hbl : (T.node ll lc lr).bal) (hbr : r.bal)
    (ih : ∀ (p1 p2 : Option Addr) (w : World), isTree w p1 lr → isTree w p2 r → Calls Tryz.prog 159 #[.pointer p1, chunkV c, .pointer p2] w fun e w' => ∃ p t, e = .returned (.pointer p) ∧ isTree w' p t ∧ joined lr r c t ∧ Below w.heap.size w w') :
    Calls Tryz.prog 159 #[.pointer pl, chunkV c, .pointer pr] w fun e w' => ∃ p t, e = .returned (.pointer p) ∧ isTree w' p t ∧ joined (.node ll lc lr) r c t ∧ Below w.heap.size w w' := by
  have hb0 : ∀ o, Below w.heap.size w (w.alloc o) := fun o => (Below.refl _ w).alloc (Nat.le_refl _) o
  have HL : Hid (isTree w pl (.node ll lc lr)) := hl
  have HR : Hid (isTree w pr r) := hr
  have cl := fun o => nheight_any pl (.node ll lc lr) (w.alloc o) (isTree_below (hb0 o) hl)
  have cr := fun o => nheight_any pr r (w.alloc o) (isTree_below (hb0 o) hr)
  have HJ : Hid (∀ t, joined lr r c t → joined (.node ll lc lr) r c (turnT ll lc t) ∧ big (.node ll lc t)) := fun t ht => by
    have hj := joined_left hbl hbr hd ht
    exact ⟨hj, big_same (big_join hz hj) (by rw [turnT_chunks]; rfl)⟩
  have IH : Hid _ := ih
  obtain ⟨_, _, _, _, _, s3, s4⟩ := big_node hz
  have k1 : (1 < ((T.node ll lc lr).height : Int) - r.height) := by omega
  have k2 : ¬ (((T.node ll lc lr).height : Int) - r.height < -1) := by omega
  have k3 : 0 ≤ ((T.node ll lc lr).height : Int) ∧ ((T.node ll lc lr).height : Int) < 1000000000 := by omega
  have k4 : 0 ≤ (r.height : Int) ∧ (r.height : Int) < 1000000000 := by omega
  clear hd hbl hbr hz s3 s4 ih
  obtain ⟨b1, qa, qb, rfl, ⟨uc0, uc1, uc2, uc3, uc4⟩, ⟨uc5, uc6⟩, _, _, hlu, hru⟩ := hl
  have HLU : Hid _ := hlu
  have HRU : Hid _ := hru
  clear hlu hru
  generalize ((T.node ll lc lr).height : Int) = x1 at *
  generalize (r.height : Int) = x2 at *
  unfold chunkV
  go_enter Tryz.func159, Tryz.ntmps159
  go_wp2_with (first | (go_at_call_of 189 b1; refine (cl _).mono ?_; rintro e w1 ⟨rfl, rfl⟩) | (go_at_call_of 189 pr; refine (cr _).mono ?_; rintro e w1 ⟨rfl, rfl⟩) | fail)
  obtain ⟨W1, hW1⟩ : ∃ W1, w.alloc (.cells #[.string (bytesOf c), .int .i64 (C1 c), .int .i64 (C2 c), .int .i64 (C3 c), .int .i64 (C4 c)] 194) = W1 := ⟨_, rfl⟩
  have hbW1 : Below w.heap.size w W1 := by rw [← hW1]; exact hb0 _
  have x0 : W1.cell? ⟨w.heap.size, 0, none⟩ = some (.string (bytesOf c)) := by rw [← hW1]; simp [go_sem]
  have y1 : W1.cell? ⟨w.heap.size, 1, none⟩ = some (.int .i64 (C1 c)) := by rw [← hW1]; simp [go_sem]
  have y2 : W1.cell? ⟨w.heap.size, 2, none⟩ = some (.int .i64 (C2 c)) := by rw [← hW1]; simp [go_sem]
  have y3 : W1.cell? ⟨w.heap.size, 3, none⟩ = some (.int .i64 (C3 c)) := by rw [← hW1]; simp [go_sem]
  have y4 : W1.cell? ⟨w.heap.size, 4, none⟩ = some (.int .i64 (C4 c)) := by rw [← hW1]; simp [go_sem]
  rw [hW1]
  clear hW1 cl cr
  refine wp_region_rel 17 17 (by kernel_rfl) rfl ?_
  intro w1 hbb
  have hbw : Below w.heap.size w w1 := hbW1.trans (hbb.mono hbW1.size)
  obtain ⟨G, hG⟩ := exists_growth w1
  have g0 := hG.cell (cell_on hbb x0)
  have g1 := hG.cell (cell_on hbb y1)
  have g2 := hG.cell (cell_on hbb y2)
  have g3 := hG.cell (cell_on hbb y3)
  have g4 := hG.cell (cell_on hbb y4)
  have ug0 := hG.cell (cell_on hbw uc0)
  have ug1 := hG.cell (cell_on hbw uc1)
  have ug2 := hG.cell (cell_on hbw uc2)
  have ug3 := hG.cell (cell_on hbw uc3)
  have ug4 := hG.cell (cell_on hbw uc4)
  have ug5 := hG.cell (cell_on hbw uc5)
  have ug6 := hG.cell (cell_on hbw uc6)
  clear uc0 uc1 uc2 uc3 uc4 uc5 uc6 x0 y1 y2 y3 y4 hbb hbW1
  (refine anyG_step hG (i := 0) rfl (by kernel_rfl) (by kernel_rfl) (by kernel_rfl) (fun K hK => ?_); go_simp; refine hK _ ?_; clear hK K)
  (refine anyG_step hG (i := 1) rfl (by kernel_rfl) (by kernel_rfl) (by kernel_rfl) (fun K hK => ?_); go_simp; refine hK _ ?_; clear hK K)
  (refine anyG_step hG (i := 2) rfl (by kernel_rfl) (by kernel_rfl) (by kernel_rfl) (fun K hK => ?_); go_simp; refine hK _ ?_; clear hK K)
  (refine anyG_step hG (i := 3) rfl (by kernel_rfl) (by kernel_rfl) (by kernel_rfl) (fun K hK => ?_); go_simp; refine hK _ ?_; clear hK K)
  (refine anyG_step hG (i := 4) rfl (by kernel_rfl) (by kernel_rfl) (by kernel_rfl) (fun K hK => ?_); go_simp; refine hK _ ?_; clear hK K)
  (refine anyG_step hG (i := 5) rfl (by kernel_rfl) (by kernel_rfl) (by kernel_rfl) (fun K hK => ?_); go_simp; refine hK _ ?_; clear hK K)
  (refine anyG_step hG (i := 6) rfl (by kernel_rfl) (by kernel_rfl) (by kernel_rfl) (fun K hK => ?_); go_simp; refine hK _ ?_; clear hK K)
  (refine anyG_step hG (i := 7) rfl (by kernel_rfl) (by kernel_rfl) (by kernel_rfl) (fun K hK => ?_); go_simp; refine hK _ ?_; clear hK K)
  (refine anyG_step hG (i := 8) rfl (by kernel_rfl) (by kernel_rfl) (by kernel_rfl) (fun K hK => ?_); go_simp; refine hK _ ?_; clear hK K)
  (refine anyG_step hG (i := 9) rfl (by kernel_rfl) (by kernel_rfl) (by kernel_rfl) (fun K hK => ?_); go_simp; refine hK _ ?_; clear hK K)
  (refine anyG_step hG (i := 10) rfl (by kernel_rfl) (by kernel_rfl) (by kernel_rfl) (fun K hK => ?_); go_simp; refine hK _ ?_; clear hK K)
  (refine anyG_step hG (i := 11) rfl (by kernel_rfl) (by kernel_rfl) (by kernel_rfl) (fun K hK => ?_); go_simp; refine hK _ ?_; clear hK K)
  (refine anyG_step hG (i := 12) rfl (by kernel_rfl) (by kernel_rfl) (by kernel_rfl) (fun K hK => ?_); go_simp; refine hK _ ?_; clear hK K)
  (refine anyG_step hG (i := 13) rfl (by kernel_rfl) (by kernel_rfl) (by kernel_rfl) (fun K hK => ?_); go_simp; refine hK _ ?_; clear hK K)
  clear g0 g1 g2 g3 g4 ug0 ug1 ug2 ug3 ug4 ug5 ug6 hG
  refine anyG_one (i := 14) rfl (by kernel_rfl) ?_
  intro w2 hbw2 K hK
  have hww2 : Below w.heap.size w w2 := hbw.trans (hbw2.mono hbw.size)
  have ck := IH.out _ _ w2 (isTree_below hww2 HRU.out) (isTree_below hww2 HR.out)
  unfold chunkV at ck
  go_simp
  refine ck.mono ?_
  rintro e w3 ⟨p1, t1, rfl, ht1, hj1, hb3⟩
  have hww3 : Below w.heap.size w w3 := hww2.trans (hb3.mono hww2.size)
  refine ⟨_, rfl, hK _ _ hb3 ?_⟩
  clear hK K ck
  refine anyG_one (i := 15) rfl (by kernel_rfl) ?_
  intro w4 hbw4 K hK
  have hww4 : Below w.heap.size w w4 := hww3.trans (hbw4.mono hww3.size)
  have ck := turn_any _ _ _ _ _ w4 (isTree_below hww4 HLU.out) (isTree_below hbw4 ht1) (HJ.out _ hj1).2
  unfold chunkV at ck
  go_simp
  refine ck.mono ?_
  rintro e w5 ⟨p2, rfl, ht2, hb5⟩
  have hww5 : Below w.heap.size w w5 := hww4.trans (hb5.mono hww4.size)
  refine ⟨_, rfl, hK _ _ hb5 ?_⟩
  clear hK K ck
  clear ht1
  refine anyG_one (i := 16) rfl (by kernel_rfl) ?_
  intro w90 hb90 K hK
  go_simp
  refine hK _ _ (Below.refl _ w90) ?_
  clear hK K
  refine anyG_end (by kernel_rfl) ?_
  intro w91 hb91
  have hb92 := hb90.trans (hb91.mono hb90.size)
  have hw92 : Below w.heap.size w w91 := hww5.trans (hb92.mono hww5.size)
  have HT : Hid _ := isTree_below hb92 ht2
  clear hb90 hb91 hb92 ht2
  go_wp2
  go_ret
  exact ⟨_, _, rfl, HT.out, (HJ.out _ hj1).1, hw92⟩

set_option maxRecDepth 100000 in
set_option maxHeartbeats 2000000 in
theorem join_R (pl pr : Option Addr) (l rl rr : T) (c rc : List Nat) (w : World) (hl : isTree w pl l) (hr : isTree w pr (.node rl rc rr)) (hz : big (.node l c (.node rl rc rr))) (hd : l.height + 1 < (T.node rl rc rr).height) (hbl : l.bal) (hbr : (T.node rl rc rr).bal)
    (ih : ∀ (p1 p2 : Option Addr) (w : World), isTree w p1 l → isTree w p2 rl → Calls Tryz.prog 159 #[.pointer p1, chunkV c, .pointer p2] w fun e w' => ∃ p t, e = .returned (.pointer p) ∧ isTree w' p t ∧ joined l rl c t ∧ Below w.heap.size w w') :
    Calls Tryz.prog 159 #[.pointer pl, chunkV c, .pointer pr] w fun e w' => ∃ p t, e = .returned (.pointer p) ∧ isTree w' p t ∧ joined l (.node rl rc rr) c t ∧ Below w.heap.size w w' := by
  have hb0 : ∀ o, Below w.heap.size w (w.alloc o) := fun o => (Below.refl _ w).alloc (Nat.le_refl _) o
  have HL : Hid (isTree w pl l) := hl
  have HR : Hid (isTree w pr (.node rl rc rr)) := hr
  have cl := fun o => nheight_any pl l (w.alloc o) (isTree_below (hb0 o) hl)
  have cr := fun o => nheight_any pr (.node rl rc rr) (w.alloc o) (isTree_below (hb0 o) hr)
  have HJ : Hid (∀ t, joined l rl c t → joined l (.node rl rc rr) c (turnT t rc rr) ∧ big (.node t rc rr)) := fun t ht => by
    have hj := joined_right hbl hbr hd ht
    exact ⟨hj, big_same (big_join hz hj) (by rw [turnT_chunks]; rfl)⟩
  have IH : Hid _ := ih
  obtain ⟨_, _, _, _, _, s3, s4⟩ := big_node hz
  have k1 : ¬ (1 < (l.height : Int) - (T.node rl rc rr).height) := by omega
  have k2 : ((l.height : Int) - (T.node rl rc rr).height < -1) := by omega
  have k3 : 0 ≤ (l.height : Int) ∧ (l.height : Int) < 1000000000 := by omega
  have k4 : 0 ≤ ((T.node rl rc rr).height : Int) ∧ ((T.node rl rc rr).height : Int) < 1000000000 := by omega
  clear hd hbl hbr hz s3 s4 ih
  obtain ⟨b1, qa, qb, rfl, ⟨uc0, uc1, uc2, uc3, uc4⟩, ⟨uc5, uc6⟩, _, _, hlu, hru⟩ := hr
  have HLU : Hid _ := hlu
  have HRU : Hid _ := hru
  clear hlu hru
  generalize (l.height : Int) = x1 at *
  generalize ((T.node rl rc rr).height : Int) = x2 at *
  unfold chunkV
  go_enter Tryz.func159, Tryz.ntmps159
  go_wp2_with (first | (go_at_call_of 189 pl; refine (cl _).mono ?_; rintro e w1 ⟨rfl, rfl⟩) | (go_at_call_of 189 b1; refine (cr _).mono ?_; rintro e w1 ⟨rfl, rfl⟩) | fail)
  obtain ⟨W1, hW1⟩ : ∃ W1, w.alloc (.cells #[.string (bytesOf c), .int .i64 (C1 c), .int .i64 (C2 c), .int .i64 (C3 c), .int .i64 (C4 c)] 194) = W1 := ⟨_, rfl⟩
  have hbW1 : Below w.heap.size w W1 := by rw [← hW1]; exact hb0 _
  have x0 : W1.cell? ⟨w.heap.size, 0, none⟩ = some (.string (bytesOf c)) := by rw [← hW1]; simp [go_sem]
  have y1 : W1.cell? ⟨w.heap.size, 1, none⟩ = some (.int .i64 (C1 c)) := by rw [← hW1]; simp [go_sem]
  have y2 : W1.cell? ⟨w.heap.size, 2, none⟩ = some (.int .i64 (C2 c)) := by rw [← hW1]; simp [go_sem]
  have y3 : W1.cell? ⟨w.heap.size, 3, none⟩ = some (.int .i64 (C3 c)) := by rw [← hW1]; simp [go_sem]
  have y4 : W1.cell? ⟨w.heap.size, 4, none⟩ = some (.int .i64 (C4 c)) := by rw [← hW1]; simp [go_sem]
  rw [hW1]
  clear hW1 cl cr
  refine wp_region_rel 17 17 (by kernel_rfl) rfl ?_
  intro w1 hbb
  have hbw : Below w.heap.size w w1 := hbW1.trans (hbb.mono hbW1.size)
  obtain ⟨G, hG⟩ := exists_growth w1
  have g0 := hG.cell (cell_on hbb x0)
  have g1 := hG.cell (cell_on hbb y1)
  have g2 := hG.cell (cell_on hbb y2)
  have g3 := hG.cell (cell_on hbb y3)
  have g4 := hG.cell (cell_on hbb y4)
  have ug0 := hG.cell (cell_on hbw uc0)
  have ug1 := hG.cell (cell_on hbw uc1)
  have ug2 := hG.cell (cell_on hbw uc2)
  have ug3 := hG.cell (cell_on hbw uc3)
  have ug4 := hG.cell (cell_on hbw uc4)
  have ug5 := hG.cell (cell_on hbw uc5)
  have ug6 := hG.cell (cell_on hbw uc6)
  clear uc0 uc1 uc2 uc3 uc4 uc5 uc6 x0 y1 y2 y3 y4 hbb hbW1
  (refine anyG_step hG (i := 0) rfl (by kernel_rfl) (by kernel_rfl) (by kernel_rfl) (fun K hK => ?_); go_simp; refine hK _ ?_; clear hK K)
  (refine anyG_step hG (i := 1) rfl (by kernel_rfl) (by kernel_rfl) (by kernel_rfl) (fun K hK => ?_); go_simp; refine hK _ ?_; clear hK K)
  (refine anyG_step hG (i := 2) rfl (by kernel_rfl) (by kernel_rfl) (by kernel_rfl) (fun K hK => ?_); go_simp; refine hK _ ?_; clear hK K)
  (refine anyG_step hG (i := 3) rfl (by kernel_rfl) (by kernel_rfl) (by kernel_rfl) (fun K hK => ?_); go_simp; refine hK _ ?_; clear hK K)
  (refine anyG_step hG (i := 4) rfl (by kernel_rfl) (by kernel_rfl) (by kernel_rfl) (fun K hK => ?_); go_simp; refine hK _ ?_; clear hK K)
  (refine anyG_step hG (i := 5) rfl (by kernel_rfl) (by kernel_rfl) (by kernel_rfl) (fun K hK => ?_); go_simp; refine hK _ ?_; clear hK K)
  (refine anyG_step hG (i := 7) rfl (by kernel_rfl) (by kernel_rfl) (by kernel_rfl) (fun K hK => ?_); go_simp; refine hK _ ?_; clear hK K)
  (refine anyG_step hG (i := 8) rfl (by kernel_rfl) (by kernel_rfl) (by kernel_rfl) (fun K hK => ?_); go_simp; refine hK _ ?_; clear hK K)
  (refine anyG_step hG (i := 9) rfl (by kernel_rfl) (by kernel_rfl) (by kernel_rfl) (fun K hK => ?_); go_simp; refine hK _ ?_; clear hK K)
  (refine anyG_step hG (i := 10) rfl (by kernel_rfl) (by kernel_rfl) (by kernel_rfl) (fun K hK => ?_); go_simp; refine hK _ ?_; clear hK K)
  (refine anyG_step hG (i := 11) rfl (by kernel_rfl) (by kernel_rfl) (by kernel_rfl) (fun K hK => ?_); go_simp; refine hK _ ?_; clear hK K)
  (refine anyG_step hG (i := 12) rfl (by kernel_rfl) (by kernel_rfl) (by kernel_rfl) (fun K hK => ?_); go_simp; refine hK _ ?_; clear hK K)
  (refine anyG_step hG (i := 13) rfl (by kernel_rfl) (by kernel_rfl) (by kernel_rfl) (fun K hK => ?_); go_simp; refine hK _ ?_; clear hK K)
  (refine anyG_step hG (i := 14) rfl (by kernel_rfl) (by kernel_rfl) (by kernel_rfl) (fun K hK => ?_); go_simp; refine hK _ ?_; clear hK K)
  clear g0 g1 g2 g3 g4 ug0 ug1 ug2 ug3 ug4 ug5 ug6 hG
  refine anyG_one (i := 6) rfl (by kernel_rfl) ?_
  intro w2 hbw2 K hK
  have hww2 : Below w.heap.size w w2 := hbw.trans (hbw2.mono hbw.size)
  have ck := IH.out _ _ w2 (isTree_below hww2 HL.out) (isTree_below hww2 HLU.out)
  unfold chunkV at ck
  go_simp
  refine ck.mono ?_
  rintro e w3 ⟨p1, t1, rfl, ht1, hj1, hb3⟩
  have hww3 : Below w.heap.size w w3 := hww2.trans (hb3.mono hww2.size)
  refine ⟨_, rfl, hK _ _ hb3 ?_⟩
  clear hK K ck
  refine anyG_one (i := 15) rfl (by kernel_rfl) ?_
  intro w4 hbw4 K hK
  have hww4 : Below w.heap.size w w4 := hww3.trans (hbw4.mono hww3.size)
  have ck := turn_any _ _ _ _ _ w4 (isTree_below hbw4 ht1) (isTree_below hww4 HRU.out) (HJ.out _ hj1).2
  unfold chunkV at ck
  go_simp
  refine ck.mono ?_
  rintro e w5 ⟨p2, rfl, ht2, hb5⟩
  have hww5 : Below w.heap.size w w5 := hww4.trans (hb5.mono hww4.size)
  refine ⟨_, rfl, hK _ _ hb5 ?_⟩
  clear hK K ck
  clear ht1
  refine anyG_one (i := 16) rfl (by kernel_rfl) ?_
  intro w90 hb90 K hK
  go_simp
  refine hK _ _ (Below.refl _ w90) ?_
  clear hK K
  refine anyG_end (by kernel_rfl) ?_
  intro w91 hb91
  have hb92 := hb90.trans (hb91.mono hb90.size)
  have hw92 : Below w.heap.size w w91 := hww5.trans (hb92.mono hww5.size)
  have HT : Hid _ := isTree_below hb92 ht2
  clear hb90 hb91 hb92 ht2
  go_wp2
  go_ret
  exact ⟨_, _, rfl, HT.out, (HJ.out _ hj1).1, hw92⟩

theorem join_any : ∀ (n : Nat) (pl pr : Option Addr) (l r : T) (c : List Nat) (w : World), l.size + r.size ≤ n → isTree w pl l → isTree w pr r → big (.node l c r) → l.bal → r.bal →
    Calls Tryz.prog 159 #[.pointer pl, chunkV c, .pointer pr] w fun e w' => ∃ p t, e = .returned (.pointer p) ∧ isTree w' p t ∧ joined l r c t ∧ Below w.heap.size w w' := by
  intro n
  induction n with
  | zero =>
    intro pl pr l r c w hn hl hr hz hbl hbr
    have e1 := height_size l
    have e2 := height_size r
    refine (join_E pl pr l r c w hl hr hz (by omega) (by omega)).mono ?_
    rintro e w' ⟨p, rfl, ht, hb⟩
    exact ⟨p, _, rfl, ht, joined_same c hbl hbr (by omega) (by omega), hb⟩
  | succ n ih =>
    intro pl pr l r c w hn hl hr hz hbl hbr
    by_cases h1 : r.height + 1 < l.height
    · match l, hl, hz, hbl, h1, hn with
      | .nil, _, _, _, h1, _ => simp [T.height] at h1
      | .node ll lc lr, hl, hz, hbl, h1, hn =>
        simp only [T.size] at hn
        exact join_L pl pr ll lr r c lc w hl hr hz h1 hbl hbr fun p1 p2 w' t1 t2 => ih p1 p2 lr r c w' (by omega) t1 t2 (by
          obtain ⟨z1, z2⟩ := hz
          simp only [T.runes, C1_append, T.size] at z1 z2
          have q1 := C1_pos ll.runes
          have q2 := C1_pos lc
          exact ⟨by simp only [T.runes, C1_append]; omega, by simp only [T.size]; omega⟩) hbl.2.1 hbr
    by_cases h2 : l.height + 1 < r.height
    · match r, hr, hz, hbr, h2, hn with
      | .nil, _, _, _, h2, _ => simp [T.height] at h2
      | .node rl rc rr, hr, hz, hbr, h2, hn =>
        simp only [T.size] at hn
        exact join_R pl pr l rl rr c rc w hl hr hz h2 hbl hbr fun p1 p2 w' t1 t2 => ih p1 p2 l rl c w' (by omega) t1 t2 (by
          obtain ⟨z1, z2⟩ := hz
          simp only [T.runes, C1_append, T.size] at z1 z2
          have q1 := C1_pos rr.runes
          have q2 := C1_pos rc
          exact ⟨by simp only [T.runes, C1_append]; omega, by simp only [T.size]; omega⟩) hbl hbr.1
    refine (join_E pl pr l r c w hl hr hz (by omega) (by omega)).mono ?_
    rintro e w' ⟨p, rfl, ht, hb⟩
    exact ⟨p, _, rfl, ht, joined_same c hbl hbr (by omega) (by omega), hb⟩
end Go.Proofs.YtldhbjmillfjgabGreatDoor
