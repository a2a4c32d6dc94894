/-
  rope.until: as few runes of a tree as are enough.
-/
import Derived.Test.YtldhbjmillfjgabGreatDoorWithin
import Derived.Test.YtldhbjmillfjgabGreatDoorSplitAny
namespace Go.Proofs.YtldhbjmillfjgabGreatDoor
open Go.RowKit
set_option linter.unusedVariables false
attribute [local go_sem] Oper.semAt_some yieldsUpon okUpon

/-- What is enough stays so with more. -/
def rising (f : List Nat → Bool) : Prop := ∀ a b, f a = true → f (a ++ b) = true
/-- The least beginning, of pre or more, that is enough; all, if none is. -/
def find (f : List Nat → Bool) (pre rs : List Nat) : List Nat := if f pre then pre else (seek f pre rs).getD (pre ++ rs)
theorem seek_low {f : List Nat → Bool} (hf : rising f) : ∀ (rs pre : List Nat), f (pre ++ rs) = false → seek f pre rs = none
  | [], pre, _ => rfl
  | r :: rs, pre, h => by
    have h1 : f ((pre ++ [r]) ++ rs) = false := by rw [List.append_assoc]; exact h
    have h2 : f (pre ++ [r]) = false := by
      cases e : f (pre ++ [r]) with
      | false => rfl
      | true => rw [hf _ rs e] at h1; cases h1
    rw [seek, h2, if_neg (by simp), seek_low hf rs _ h1]
theorem seek_more {f : List Nat → Bool} {x : List Nat} : ∀ (a pre b : List Nat), seek f pre a = some x → seek f pre (a ++ b) = some x
  | [], _, _, h => by cases h
  | r :: a, pre, b, h => by
    rw [List.cons_append]
    simp only [seek] at h ⊢
    split at h
    · rename_i hr; rw [if_pos hr]; exact h
    · rename_i hr; rw [if_neg hr]; exact seek_more a _ b h
theorem seek_top {f : List Nat → Bool} : ∀ (rs pre : List Nat), f pre = false → f (pre ++ rs) = true → ∃ x, seek f pre rs = some x
  | [], pre, h0, h => by rw [List.append_nil, h0] at h; cases h
  | r :: rs, pre, h0, h => by
    cases e : f (pre ++ [r]) with
    | true => exact ⟨_, by rw [seek, e]; rfl⟩
    | false =>
      obtain ⟨x, hx⟩ := seek_top rs (pre ++ [r]) e (by rw [List.append_assoc]; exact h)
      exact ⟨x, by rw [seek, e]; exact hx⟩
theorem low_of {f : List Nat → Bool} (hf : rising f) {a b : List Nat} (h : f (a ++ b) = false) : f a = false := by
  cases e : f a with
  | false => rfl
  | true => rw [hf a b e] at h; cases h
theorem find_left {f : List Nat → Bool} {pre l m : List Nat} (h : f (pre ++ l) = true) : find f pre (l ++ m) = find f pre l := by
  unfold find
  cases e : f pre with
  | true => rfl
  | false =>
    obtain ⟨x, hx⟩ := seek_top l pre e h
    rw [seek_more l pre m hx, hx]
    rfl
theorem find_here {f : List Nat → Bool} (hf : rising f) {pre l c r : List Nat} (h1 : f (pre ++ l) = false) (h2 : f (pre ++ l ++ c) = true) : find f pre (l ++ c ++ r) = (seek f (pre ++ l) c).getD (pre ++ l) := by
  unfold find
  obtain ⟨x, hx⟩ := seek_top c (pre ++ l) h1 h2
  rw [low_of hf h1, List.append_assoc l, seek_none f l pre (c ++ r) (seek_low hf l pre h1), seek_more c _ r hx, hx]
  rfl
theorem find_right {f : List Nat → Bool} (hf : rising f) {pre m r : List Nat} (h : f (pre ++ m) = false) : find f pre (m ++ r) = find f (pre ++ m) r := by
  unfold find
  rw [low_of hf h, h, seek_none f m pre r (seek_low hf m pre h), List.append_assoc]
  rfl

theorem asks_below {W W' : World} {F : Nat} {cap : Array Value} {f : List Nat → Bool} (h : asks W F cap f) (hb : Below W.heap.size W W') : asks W' F cap f :=
  ⟨h.1, fun rs wx hz hb' => h.2 rs wx hz (hb.trans (hb'.mono hb.size))⟩
theorem counted_on {A B : World} {a : Nat} {n1 n2 n3 n4 : Int} (h : B.heap[a]? = A.heap[a]?) (hc : counted A a n1 n2 n3 n4) : counted B a n1 n2 n3 n4 := by
  obtain ⟨⟨a0, a1, a2, a3⟩, b0, b1, b2, b3⟩ := hc
  exact ⟨⟨(cellOn h 0).trans a0, (cellOn h 1).trans a1, (cellOn h 2).trans a2, (cellOn h 3).trans a3⟩, (frozenOn h 0).trans b0, (frozenOn h 1).trans b1, (frozenOn h 2).trans b2, (frozenOn h 3).trans b3⟩
/-- How many chunks there are, as the tree's first node has it. -/
def sizeAt (v : Value) (W : World) : Nat := match v with | .pointer (some p) => (match W.cell? ⟨p.block, 12, none⟩ with | some (.int _ n) => n.toNat | _ => 0) | _ => 0
theorem sizeAt_tree {W : World} {q : Option Addr} {t : T} (h : isTree W q t) : sizeAt (.pointer q) W = t.size := by
  cases t with
  | nil => obtain rfl : q = none := h; rfl
  | node l c r =>
    obtain ⟨b, _, _, rfl, _, _, _, ⟨_, h12⟩, _⟩ := h
    simp only [sizeAt, h12]
    omega

set_option maxRecDepth 100000 in
set_option maxHeartbeats 4000000 in
theorem until_any (f : List Nat → Bool) (hf : rising f) (F : Nat) (cap : Array Value) (p : Option Addr) (t : T) (w : World) (hT : Lib.Utf8Tabs 2 3 w) (ht : isTree w p t) (ho : okT t) (hz : C1 t.runes ≤ 100000000) (hE : asks w F cap f) :
    Calls Tryz.prog 193 #[.pointer p, .func (.func F) #[] cap] w fun e w' => e = .returned (cntV (find f [] t.runes)) ∧ Below w.heap.size w w' := by
  have hent := hE.1
  have HE : Hid (asks w F cap f) := hE
  have HT : Hid (Lib.Utf8Tabs 2 3 w) := hT
  have HI : Hid (isTree w p t ∧ okT t ∧ C1 t.runes ≤ 100000000) := ⟨ht, ho, hz⟩
  clear hE hT ht ho hz
  go_enter Tryz.func193, Tryz.ntmps193
  go_wp2
  go_loopw [0, 6, 7] (fun v _ _ wr => ∃ q tt pre, v = .pointer q ∧ isTree wr q tt ∧ okT tt ∧ counted wr (w.heap.size + 1) (C1 pre) (C2 pre) (C3 pre) (C4 pre) ∧ counted wr w.heap.size 0 0 0 0 ∧ Below w.heap.size w wr ∧ C1 (pre ++ tt.runes) ≤ 100000000 ∧ find f [] t.runes = find f pre tt.runes ∧ wr.cell? ⟨w.heap.size + 1, 5, none⟩ = none) (fun v _ _ wr => sizeAt v wr)
  case atStart =>
    have hb2 : Below w.heap.size w ((w.alloc (.cells #[.int .i64 0, .int .i64 0, .int .i64 0, .int .i64 0] 25)).alloc (.cells #[.int .i64 0, .int .i64 0, .int .i64 0, .int .i64 0] 25)) := ((Below.refl _ w).alloc (Nat.le_refl _) _).alloc (by simp) _
    refine ⟨p, t, [], rfl, isTree_below hb2 HI.out.1, HI.out.2.1, ?_, counted_below (counted_new w 0 0 0 0 _) ((Below.refl _ _).alloc (Nat.le_refl _) _), hb2, HI.out.2.2, rfl, by simp [go_sem]⟩
    have := counted_new (w.alloc (.cells #[.int .i64 0, .int .i64 0, .int .i64 0, .int .i64 0] 25)) 0 0 0 0 25
    rwa [World.size_alloc] at this
  case round =>
    obtain ⟨q, tt, pre, rfl, hq, hok, hA, hR, hbw, hzz, hfd, hn5⟩ := hrel
    have HN5 : Hid (wr.cell? ⟨w.heap.size + 1, 5, none⟩ = none) := hn5
    clear hn5
    have HA : Hid _ := hA
    have HRR : Hid _ := hR
    have HBW : Hid _ := hbw
    have HQ : Hid _ := hq
    cases tt with
    | nil =>
      obtain rfl : q = none := hq
      have HF : Hid (find f [] t.runes = pre) := by
        show _ = _
        rw [hfd]
        unfold find
        simp only [T.runes, seek, Option.getD_none, List.append_nil]
        split <;> rfl
      clear hok hzz hfd
      obtain ⟨⟨a0, a1, a2, a3⟩, _⟩ := hA
      obtain ⟨⟨z0, z1, z2, z3⟩, y0, y1, y2, y3⟩ := hR
      go_wp2
      have hset := counted_set (m1 := C1 pre) (m2 := C2 pre) (m3 := C3 pre) (m4 := C4 pre) HRR.out
      obtain ⟨⟨x0, x1, x2, x3⟩, _⟩ := hset
      refine bodyPost_ret (v := cntV pre) (by simp [results, Tryz.results193, go_sem, x0, x1, x2, x3, cntV]) rfl ⟨by rw [HF.out], below_set4 HBW.out (Nat.le_refl _) _ _ _ _⟩
    | node l c r =>
      obtain ⟨b1, pl, pr, rfl, ⟨c0, c1, c2, c3, c4⟩, ⟨c5, c6⟩, _, _, hl, hr⟩ := hq
      obtain ⟨hol, hor, hx⟩ := okT_node hok
      have e0 : (T.node l c r).runes = l.runes ++ c ++ r.runes := by simp [T.runes]
      rw [e0] at hzz hfd
      go_wp2
      have hz1 : C1 (pre ++ l.runes) ≤ 200000000 := by rw [← List.append_assoc, ← List.append_assoc] at hzz; have := C1_left (C1_left hzz); omega
      have hz2 : C1 (pre ++ l.runes ++ c) ≤ 200000000 := by rw [← List.append_assoc, ← List.append_assoc] at hzz; have := C1_left hzz; omega
      have HZ : Hid (C1 (pre ++ (l.runes ++ c ++ r.runes)) ≤ 100000000) := hzz
      have HO : Hid (okT l ∧ okT r ∧ okChunk c) := ⟨hol, hor, hx⟩
      have HL : Hid (isTree wr pl l) := hl
      have hne1 : b1 ≠ w.heap.size + 1 := fun e => by rw [e, HA.out.1.1] at c0; cases c0
      have HRT : Hid (isTree wr pr r) := hr
      have HFD : Hid (find f [] t.runes = find f pre (l.runes ++ c ++ r.runes)) := hfd
      clear hl hr hol hor hx hzz hfd hok e0 hR
      refine wp_region_rel 8 9 (by kernel_rfl) rfl ?_
      intro w11 hb11
      obtain ⟨G, hG⟩ := exists_growth w11
      have a11 := counted_below hA hb11
      obtain ⟨⟨a0, a1, a2, a3⟩, _⟩ := a11
      have ga0 := hG.cell a0
      have ga1 := hG.cell a1
      have ga2 := hG.cell a2
      have ga3 := hG.cell a3
      have g5 := hG.cell (cell_on hb11 c5)
      have cC := fun x => ncounts_any pl l (G x) (isTree_below (hb11.trans ((hG.below x).mono hb11.size)) HL.out)
      have cP := fun x => plus_cnt pre l.runes hz1 (G x)
      unfold cntV at cP
      clear a0 a1 a2 a3
      (refine anyG_step hG (i := 0) rfl (by kernel_rfl) (by kernel_rfl) (by kernel_rfl) (fun K hK => ?_); go_simp; refine hK _ ?_; clear hK K)
      (refine anyG_step hG (i := 1) rfl (by kernel_rfl) (by kernel_rfl) (by kernel_rfl) (fun K hK => ?_); go_simp; refine hK _ ?_; clear hK K)
      (refine anyG_step hG (i := 2) rfl (by kernel_rfl) (by kernel_rfl) (by kernel_rfl) (fun K hK => ?_); go_simp; refine hK _ ?_; clear hK K)
      (refine anyG_step hG (i := 3) rfl (by kernel_rfl) (by kernel_rfl) (by kernel_rfl) (fun K hK => ?_); go_simp; refine hK _ ?_; clear hK K)
      (refine anyG_step hG (i := 4) rfl (by kernel_rfl) (by kernel_rfl) (by kernel_rfl) (fun K hK => ?_); go_simp; refine hK _ ?_; clear hK K)
      (refine anyG_step hG (i := 5) rfl (by kernel_rfl) (by kernel_rfl) (by kernel_rfl) (fun K hK => ?_); go_simp; apply Exists.intro; refine ⟨fun _ => ?_, hK _ ?_⟩; exact cC _; clear hK K)
      (refine anyG_step hG (i := 6) rfl (by kernel_rfl) (by kernel_rfl) (by kernel_rfl) (fun K hK => ?_); go_simp; apply Exists.intro; refine ⟨fun _ => ?_, hK _ ?_⟩; exact cP _; clear hK K)
      clear ga0 ga1 ga2 ga3 g5 cC cP hG
      refine anyG_one (i := 7) rfl (by kernel_rfl) ?_
      intro w12 hb12 K hK
      go_simp
      have hb1a : Below w12.heap.size w12 (w12.alloc (.cells #[.int .i64 0, .int .i64 0, .int .i64 0, .int .i64 0] 25)) := (Below.refl _ w12).alloc (Nat.le_refl _) _
      refine hK _ _ hb1a ?_
      clear hK K
      refine anyG_late (i := 8) rfl (by kernel_rfl) (by kernel_rfl) ?_
      intro w13 hb13 K hK
      have hh := counted_below (counted_new w12 0 0 0 0 25) hb13
      have HH : Hid _ := hh
      obtain ⟨⟨h0, h1, h2, h3⟩, k0, k1, k2, k3⟩ := hh
      go_simp
      refine hK _ _ ?_
      clear hK K
      refine anyG_end (by kernel_rfl) ?_
      intro w14 hb14
      have hx1 := hb11.trans (hb12.mono hb11.size)
      have hx2 := hx1.trans (hb1a.mono hx1.size)
      have hx3 := hx2.trans (hb13.mono hx2.size)
      have hx4 := below_set4 hx3 (B := w12.heap.size) hx1.size (.int .i64 (C1 (pre ++ l.runes))) (.int .i64 (C2 (pre ++ l.runes))) (.int .i64 (C3 (pre ++ l.runes))) (.int .i64 (C4 (pre ++ l.runes)))
      have hB1 := hx4.trans (hb14.mono hx4.size)
      have hC1 := counted_below (counted_set (m1 := C1 (pre ++ l.runes)) (m2 := C2 (pre ++ l.runes)) (m3 := C3 (pre ++ l.runes)) (m4 := C4 (pre ++ l.runes)) HH.out) hb14
      clear hb11 hb12 hb1a hb13 hb14 hx1 hx2 hx3 hx4 HH h0 h1 h2 h3 k0 k1 k2 k3
      generalize w12.heap.size = B1 at *
      have d0 := cell_on hB1 c0
      have d1 := cell_on hB1 c1
      have d2 := cell_on hB1 c2
      have d3 := cell_on hB1 c3
      have d4 := cell_on hB1 c4
      go_wp2
      refine wp_region_rel 8 9 (by kernel_rfl) rfl ?_
      intro w21 hb21
      obtain ⟨G, hG⟩ := exists_growth w21
      have a21 := counted_below hC1 hb21
      obtain ⟨⟨a0, a1, a2, a3⟩, _⟩ := a21
      have ga0 := hG.cell a0
      have ga1 := hG.cell a1
      have ga2 := hG.cell a2
      have ga3 := hG.cell a3
      have g1 := hG.cell (cell_on hb21 d1)
      have g2 := hG.cell (cell_on hb21 d2)
      have g3 := hG.cell (cell_on hb21 d3)
      have g4 := hG.cell (cell_on hb21 d4)
      have cP := fun x => plus_cnt (pre ++ l.runes) c hz2 (G x)
      unfold cntV at cP
      clear a0 a1 a2 a3
      (refine anyG_step hG (i := 0) rfl (by kernel_rfl) (by kernel_rfl) (by kernel_rfl) (fun K hK => ?_); go_simp; refine hK _ ?_; clear hK K)
      (refine anyG_step hG (i := 1) rfl (by kernel_rfl) (by kernel_rfl) (by kernel_rfl) (fun K hK => ?_); go_simp; refine hK _ ?_; clear hK K)
      (refine anyG_step hG (i := 2) rfl (by kernel_rfl) (by kernel_rfl) (by kernel_rfl) (fun K hK => ?_); go_simp; refine hK _ ?_; clear hK K)
      (refine anyG_step hG (i := 3) rfl (by kernel_rfl) (by kernel_rfl) (by kernel_rfl) (fun K hK => ?_); go_simp; refine hK _ ?_; clear hK K)
      (refine anyG_step hG (i := 4) rfl (by kernel_rfl) (by kernel_rfl) (by kernel_rfl) (fun K hK => ?_); go_simp; refine hK _ ?_; clear hK K)
      (refine anyG_step hG (i := 5) rfl (by kernel_rfl) (by kernel_rfl) (by kernel_rfl) (fun K hK => ?_); go_simp; refine hK _ ?_; clear hK K)
      (refine anyG_step hG (i := 6) rfl (by kernel_rfl) (by kernel_rfl) (by kernel_rfl) (fun K hK => ?_); go_simp; apply Exists.intro; refine ⟨fun _ => ?_, hK _ ?_⟩; exact cP _; clear hK K)
      clear ga0 ga1 ga2 ga3 g1 g2 g3 g4 cP hG d0 d1 d2 d3 d4
      refine anyG_one (i := 7) rfl (by kernel_rfl) ?_
      intro w22 hb22 K hK
      go_simp
      have hb2a : Below w22.heap.size w22 (w22.alloc (.cells #[.int .i64 0, .int .i64 0, .int .i64 0, .int .i64 0] 25)) := (Below.refl _ w22).alloc (Nat.le_refl _) _
      refine hK _ _ hb2a ?_
      clear hK K
      refine anyG_late (i := 8) rfl (by kernel_rfl) (by kernel_rfl) ?_
      intro w23 hb23 K hK
      have hh := counted_below (counted_new w22 0 0 0 0 25) hb23
      have HH : Hid _ := hh
      obtain ⟨⟨h0, h1, h2, h3⟩, k0, k1, k2, k3⟩ := hh
      go_simp
      refine hK _ _ ?_
      clear hK K
      refine anyG_end (by kernel_rfl) ?_
      intro w24 hb24
      have hx1 := hb21.trans (hb22.mono hb21.size)
      have hne2 : w22.heap.size ≠ w.heap.size + 1 := by have := hx1.size; have := hB1.size; have := counted_lt HA.out; omega
      have hx2 := hx1.trans (hb2a.mono hx1.size)
      have hx3 := hx2.trans (hb23.mono hx2.size)
      have hx4 := below_set4 hx3 (B := w22.heap.size) hx1.size (.int .i64 (C1 (pre ++ (l.runes ++ c)))) (.int .i64 (C2 (pre ++ (l.runes ++ c)))) (.int .i64 (C3 (pre ++ (l.runes ++ c)))) (.int .i64 (C4 (pre ++ (l.runes ++ c))))
      have hB2 := hx4.trans (hb24.mono hx4.size)
      have hC2 := counted_below (counted_set (m1 := C1 (pre ++ (l.runes ++ c))) (m2 := C2 (pre ++ (l.runes ++ c))) (m3 := C3 (pre ++ (l.runes ++ c))) (m4 := C4 (pre ++ (l.runes ++ c))) HH.out) hb24
      clear hb21 hb22 hb2a hb23 hb24 hx1 hx2 hx3 hx4 HH h0 h1 h2 h3 k0 k1 k2 k3
      generalize w22.heap.size = B2 at *
      have hB12 := hB1.trans (hB2.mono hB1.size)
      have hF := counted_below hC1 hB2
      have HF : Hid _ := hF
      have HH2 : Hid _ := hC2
      have hbw2 := hbw.trans (hB12.mono hbw.size)
      obtain ⟨⟨f0, f1, f2, f3⟩, _⟩ := hF
      go_wp2
      have hq1 := HE.out.2 (pre ++ l.runes) w24 hz1 hbw2
      refine hq1.mono ?_
      rintro e w31 ⟨rfl, hb31⟩
      have hB13 := hB12.trans (hb31.mono hB12.size)
      have hF3 := counted_below HF.out hb31
      have hH3 := counted_below HH2.out hb31
      have hbw3 := hbw.trans (hB13.mono hbw.size)
      have e0 := cell_on hB13 c0
      have e5 := cell_on hB13 c5
      have e6 := cell_on hB13 c6
      have HF3 : Hid _ := hF3
      have HH3 : Hid _ := hH3
      have HB13 : Hid _ := hB13
      have HBW3 : Hid _ := hbw3
      clear f0 f1 f2 f3 hq1 hb31 hC1 hC2 hB1 hB2 hB12 hbw2 c0 c1 c2 c3 c4 c5 c6 hB13 hbw3 hbw hA
      obtain ⟨⟨f0, f1, f2, f3⟩, _⟩ := hF3
      obtain ⟨⟨h0, h1, h2, h3⟩, _⟩ := hH3
      cases hf1 : f (pre ++ l.runes) with
      | true =>
        clear h0 h1 h2 h3 f0 f1 f2 f3
        go_wp2
        go_roundw
        case rel => exact ⟨pl, l, pre, rfl, isTree_below HB13.out HL.out, HO.out.1, counted_below HA.out HB13.out, counted_below HRR.out HB13.out, HBW3.out, (by have := HZ.out; rw [List.append_assoc l.runes, ← List.append_assoc] at this; exact C1_left this), by rw [HFD.out, List.append_assoc, find_left hf1], (cellOn (HB13.out.block (w.heap.size + 1) (counted_lt HA.out)) 5).trans HN5.out⟩
        case measure =>
          show sizeAt _ _ < sizeAt _ _
          rw [sizeAt_tree (isTree_below HB13.out HL.out), sizeAt_tree HQ.out]
          simp only [T.size]
          omega
      | false =>
        go_wp2
        have hq2 := HE.out.2 (pre ++ (l.runes ++ c)) w31 (by rw [← List.append_assoc]; exact hz2) HBW3.out
        refine hq2.mono ?_
        rintro e w41 ⟨rfl, hb41⟩
        have hF4 := counted_below HF3.out hb41
        have hH4 := counted_below HH3.out hb41
        have hB14 := HB13.out.trans (hb41.mono HB13.out.size)
        have hbw4 := HBW3.out.trans (hb41.mono HBW3.out.size)
        have i0 := cell_on hb41 e0
        have i6 := cell_on hb41 e6
        have HB14 : Hid _ := hB14
        have HBW4 : Hid _ := hbw4
        have HF4 : Hid _ := hF4
        have HH4 : Hid _ := hH4
        clear hq2 hb41 f0 f1 f2 f3 h0 h1 h2 h3 e0 e5 e6
        obtain ⟨⟨f0, f1, f2, f3⟩, _⟩ := hF4
        obtain ⟨⟨h0, h1, h2, h3⟩, _⟩ := hH4
        cases hf2 : f (pre ++ (l.runes ++ c)) with
        | true =>
          go_wp2
          refine wp_region_rel 8 9 (by kernel_rfl) rfl ?_
          intro w51 hb51
          obtain ⟨G, hG⟩ := exists_growth w51
          have ga0 := hG.cell (cell_on hb51 f0)
          have ga1 := hG.cell (cell_on hb51 f1)
          have ga2 := hG.cell (cell_on hb51 f2)
          have ga3 := hG.cell (cell_on hb51 f3)
          have g0 := hG.cell (cell_on hb51 i0)
          have hbw5 := hbw4.trans (hb51.mono hbw4.size)
          have cW := fun x => within_any f F cap (pre ++ l.runes) c HO.out.2.2.2.2 (by have := HZ.out; rw [← List.append_assoc, ← List.append_assoc] at this; exact C1_left this) (G x) (Go.Proofs.Utf8Tabs_below HT.out (hbw5.trans ((hG.below x).mono hbw5.size))) (asks_below HE.out (hbw5.trans ((hG.below x).mono hbw5.size)))
          have HN : Hid (find f [] t.runes = (seek f (pre ++ l.runes) c).getD (pre ++ l.runes)) := by
            show _ = _
            rw [HFD.out, find_here hf hf1 (by rw [List.append_assoc]; exact hf2)]
          generalize (seek f (pre ++ l.runes) c).getD (pre ++ l.runes) = X at *
          unfold cntV at cW
          (refine anyG_step hG (i := 0) rfl (by kernel_rfl) (by kernel_rfl) (by kernel_rfl) (fun K hK => ?_); go_simp; refine hK _ ?_; clear hK K)
          (refine anyG_step hG (i := 1) rfl (by kernel_rfl) (by kernel_rfl) (by kernel_rfl) (fun K hK => ?_); go_simp; refine hK _ ?_; clear hK K)
          (refine anyG_step hG (i := 2) rfl (by kernel_rfl) (by kernel_rfl) (by kernel_rfl) (fun K hK => ?_); go_simp; refine hK _ ?_; clear hK K)
          (refine anyG_step hG (i := 3) rfl (by kernel_rfl) (by kernel_rfl) (by kernel_rfl) (fun K hK => ?_); go_simp; refine hK _ ?_; clear hK K)
          (refine anyG_step hG (i := 4) rfl (by kernel_rfl) (by kernel_rfl) (by kernel_rfl) (fun K hK => ?_); go_simp; refine hK _ ?_; clear hK K)
          (refine anyG_step hG (i := 5) rfl (by kernel_rfl) (by kernel_rfl) (by kernel_rfl) (fun K hK => ?_); go_simp; refine hK _ ?_; clear hK K)
          (refine anyG_step hG (i := 6) rfl (by kernel_rfl) (by kernel_rfl) (by kernel_rfl) (fun K hK => ?_); go_simp; refine hK _ ?_; clear hK K)
          (refine anyG_step hG (i := 7) rfl (by kernel_rfl) (by kernel_rfl) (by kernel_rfl) (fun K hK => ?_); go_simp; apply Exists.intro; refine ⟨fun _ => ?_, hK _ ?_⟩; exact cW _; clear hK K)
          clear ga0 ga1 ga2 ga3 g0 cW hG f0 f1 f2 f3 h0 h1 h2 h3 i0 i6
          refine anyG_late (i := 8) rfl (by kernel_rfl) (by kernel_rfl) ?_
          intro w53 hb53 K hK
          have hbw6 := hbw5.trans (hb53.mono hbw5.size)
          have hr6 := counted_below HRR.out (HB14.out.trans ((hb51.trans (hb53.mono hb51.size)).mono HB14.out.size))
          have HR6 : Hid _ := hr6
          obtain ⟨⟨z0, z1, z2, z3⟩, y0, y1, y2, y3⟩ := hr6
          go_simp
          refine hK _ _ ?_
          clear hK K
          refine anyG_end (by kernel_rfl) ?_
          intro w54 hb54
          have hset := counted_below (counted_set (m1 := C1 X) (m2 := C2 X) (m3 := C3 X) (m4 := C4 X) HR6.out) hb54
          have hbw7 := below_set4 hbw6 (Nat.le_refl _) (.int .i64 (C1 X)) (.int .i64 (C2 X)) (.int .i64 (C3 X)) (.int .i64 (C4 X))
          have hbw8 := hbw7.trans (hb54.mono hbw7.size)
          clear z0 z1 z2 z3 y0 y1 y2 y3 hb54
          obtain ⟨⟨x0, x1, x2, x3⟩, _⟩ := hset
          go_wp2
          refine bodyPost_ret (v := cntV X) (by simp [results, Tryz.results193, go_sem, x0, x1, x2, x3, cntV]) rfl ⟨by rw [HN.out], hbw8⟩
        | false =>
          go_wp2
          refine wp_region_but (w.heap.size + 1) 7 7 (by kernel_rfl) rfl ?_
          intro w51 hb51
          obtain ⟨G, hG⟩ := exists_growB (w.heap.size + 1) w51
          have hw0 := But.refl (w.heap.size + 1) w51
          have ga0 := hG.cell hne2 (cell_on hb51 h0)
          have ga1 := hG.cell hne2 (cell_on hb51 h1)
          have ga2 := hG.cell hne2 (cell_on hb51 h2)
          have ga3 := hG.cell hne2 (cell_on hb51 h3)
          have g6 := hG.cell hne1 (cell_on hb51 i6)
          (refine anyB_step hG hw0 (i := 0) rfl (by kernel_rfl) (by kernel_rfl) (by kernel_rfl) (fun K hK => ?_); go_simp; refine hK _ ?_; clear hK K)
          (refine anyB_step hG hw0 (i := 1) rfl (by kernel_rfl) (by kernel_rfl) (by kernel_rfl) (fun K hK => ?_); go_simp; refine hK _ ?_; clear hK K)
          (refine anyB_step hG hw0 (i := 2) rfl (by kernel_rfl) (by kernel_rfl) (by kernel_rfl) (fun K hK => ?_); go_simp; refine hK _ ?_; clear hK K)
          (refine anyB_step hG hw0 (i := 3) rfl (by kernel_rfl) (by kernel_rfl) (by kernel_rfl) (fun K hK => ?_); go_simp; refine hK _ ?_; clear hK K)
          (refine anyB_step hG hw0 (i := 4) rfl (by kernel_rfl) (by kernel_rfl) (by kernel_rfl) (fun K hK => ?_); go_simp; refine hK _ ?_; clear hK K)
          clear ga0 ga1 ga2 ga3 g6 hG f0 f1 f2 f3 h0 h1 h2 h3 i0 i6
          refine anyB_one (i := 5) (by kernel_rfl) ⟨_, rfl, ?_⟩
          intro w53 hb53 K hK
          have hb43 := hb51.trans (hb53.mono hb51.size)
          have hB15 := HB14.out.trans (hb43.mono HB14.out.size)
          have ha6 := counted_below HA.out hB15
          have HA6 : Hid _ := ha6
          have HB15 : Hid _ := hB15
          obtain ⟨⟨z0, z1, z2, z3⟩, y0, y1, y2, y3⟩ := ha6
          go_simp
          refine hK _ _ (fun h => (((h.setCell rfl _).setCell rfl _).setCell rfl _).setCell rfl _) ?_
          clear hK K z0 z1 z2 z3 y0 y1 y2 y3
          refine anyB_one (i := 6) (by kernel_rfl) ⟨_, rfl, ?_⟩
          intro w55 hb55 K hK
          go_simp
          refine hK _ _ (fun h => h) ?_
          clear hK K
          refine anyB_end (by kernel_rfl) ?_
          intro w56 hb56
          have hb57 := hb55.trans (hb56.mono hb55.size)
          have HN6 : Hid (w53.cell? ⟨w.heap.size + 1, 5, none⟩ = none) := (cellOn (HB15.out.block (w.heap.size + 1) (counted_lt HA.out)) 5).trans HN5.out
          have HBU : Hid _ := ((((But.refl (w.heap.size + 1) w53).setCell (p := ⟨w.heap.size + 1, 0, none⟩) rfl (.int .i64 (C1 (pre ++ (l.runes ++ c))))).setCell (p := ⟨w.heap.size + 1, 1, none⟩) rfl (.int .i64 (C2 (pre ++ (l.runes ++ c))))).setCell (p := ⟨w.heap.size + 1, 2, none⟩) rfl (.int .i64 (C3 (pre ++ (l.runes ++ c))))).setCell (p := ⟨w.heap.size + 1, 3, none⟩) rfl (.int .i64 (C4 (pre ++ (l.runes ++ c))))
          have hT6 := isTree_below hb57 (isTree_but HBU.out HN6.out (isTree_below HB15.out HRT.out))
          have hA7 := counted_below (counted_set (m1 := C1 (pre ++ (l.runes ++ c))) (m2 := C2 (pre ++ (l.runes ++ c))) (m3 := C3 (pre ++ (l.runes ++ c))) (m4 := C4 (pre ++ (l.runes ++ c))) HA6.out) hb57
          have hbw5 : Below w.heap.size w w53 := HBW4.out.trans (hb43.mono HBW4.out.size)
          have hbw6 := below_set4 hbw5 (B := w.heap.size + 1) (Nat.le_succ _) (.int .i64 (C1 (pre ++ (l.runes ++ c)))) (.int .i64 (C2 (pre ++ (l.runes ++ c)))) (.int .i64 (C3 (pre ++ (l.runes ++ c)))) (.int .i64 (C4 (pre ++ (l.runes ++ c))))
          have hbw7 := hbw6.trans (hb57.mono hbw6.size)
          have hR5 := counted_below HRR.out HB15.out
          have hR7 := counted_below (counted_on (HBU.out.block w.heap.size (counted_lt hR5) (by omega)) hR5) hb57
          have hlt5 : w.heap.size + 1 < w53.heap.size := Nat.lt_of_lt_of_le (counted_lt HA.out) HB15.out.size
          have hn7 := (cellOn (hb57.block (w.heap.size + 1) (by simpa [World.setCell] using hlt5)) 5).trans ((World.cell?_setCell_other _ _ ⟨w.heap.size + 1, 5, none⟩ _ (by simp)).trans ((World.cell?_setCell_other _ _ ⟨w.heap.size + 1, 5, none⟩ _ (by simp)).trans ((World.cell?_setCell_other _ _ ⟨w.heap.size + 1, 5, none⟩ _ (by simp)).trans ((World.cell?_setCell_other _ _ ⟨w.heap.size + 1, 5, none⟩ _ (by simp)).trans HN6.out))))
          have HG : Hid (find f [] t.runes = find f (pre ++ (l.runes ++ c)) r.runes) := by
            show _ = _
            rw [HFD.out, find_right hf hf2]
          clear hb43 hb51 hb53 hb55 hb56 hB14 hbw4 hbw5 hbw6 hB15 hR5 hlt5
          go_wp2
          go_roundw
          case rel => exact ⟨pr, r, pre ++ (l.runes ++ c), rfl, hT6, HO.out.2.1, hA7, hR7, hbw7, (by have := HZ.out; rwa [← List.append_assoc] at this), HG.out, hn7⟩
          case measure =>
            show sizeAt _ _ < sizeAt _ _
            rw [sizeAt_tree hT6, sizeAt_tree HQ.out]
            simp only [T.size]
            omega
end Go.Proofs.YtldhbjmillfjgabGreatDoor
