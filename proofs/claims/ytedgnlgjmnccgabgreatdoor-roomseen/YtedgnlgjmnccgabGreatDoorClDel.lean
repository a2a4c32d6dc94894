/-
  slices.Delete of the first operation of an own row.
-/
import Derived.Test.YtedgnlgjmnccgabGreatDoorClQueue
import Derived.Test.YtedgnlgjmnccgabGreatDoorSrvSmall
import Derived.Lib.SliceRun
namespace Go.Proofs.YtedgnlgjmnccgabGreatDoor
open Go.RowKit Go.Maps
set_option linter.unusedVariables false
attribute [local go_sem] Oper.semAt_some yieldsUpon okUpon

theorem info_opz : (Tryz.prog.info? 23).map (·.zero) = some (some (.slice none 0 0)) := by kernel_rfl
set_option maxRecDepth 100000 in
set_option maxHeartbeats 1000000 in
theorem del2 {lo g c n1 m1 : Nat} {p1 : Option Addr} {w : World} {x0 : Value} (h : w.ownsRow lo 23 1 (.slice (some ⟨g, 0, none⟩) 2 c) 2 [x0, .slice p1 n1 m1]) :
    Calls Tryz.prog 186 #[.slice (some ⟨g, 0, none⟩) 2 c, .int .i64 0, .int .i64 1] w fun e w' => e = .returned (.slice (some ⟨g, 0, none⟩) 1 c) ∧ w'.ownsRow lo 23 1 (.slice (some ⟨g, 0, none⟩) 1 c) 1 [.slice p1 n1 m1] ∧ w.grownBy w' (some g) := by
  have H : Hid _ := h
  have hc : 2 ≤ c ∧ c ≤ maxLen ∧ lo ≤ g ∧ ∃ cur, w.heap[g]? = some (.cells cur 23 (0, 0)) ∧ cur.size = c ∧ cur.toList.take 2 = [x0, .slice p1 n1 m1] := by
    rcases h.2 with ⟨e, _⟩ | ⟨g', cap, cur, e, e1, e2, e3, e4, e5, e6⟩
    · cases e
    · injection e with e7 e8 e9
      injection e7 with e7
      injection e7 with e7
      subst e7 e9
      exact ⟨e3, e4, e1, cur, e2, by simpa using e5, by simpa using e6⟩
  obtain ⟨c2, c3, hlg, cur, hcur, hsz, htk⟩ := hc
  unfold maxLen at c3
  have hc1 : ¬ c = 1 := by omega
  have k0 : w.cell? ⟨g, 0, none⟩ = some x0 := by have := World.ownsRow.cellAt h 0 (by omega); exact this
  have k1 : w.cell? ⟨g, 1, none⟩ = some (.slice p1 n1 m1) := by have := World.ownsRow.cellAt h 1 (by omega); exact this
  have z0 : w.frozen? ⟨g, 0, none⟩ = false := frozen_block hcur
  have z1 : w.frozen? ⟨g, 1, none⟩ = false := frozen_block hcur
  have HC : Hid _ := hcur
  have HSZ : Hid _ := hsz
  have HTK : Hid _ := htk
  clear h hcur hsz htk
  go_enter Tryz.func186, Tryz.ntmps186
  go_wp2
  refine wp_region_set (fun _ : World => True) 8 8 (by kernel_rfl) rfl ?_
  intro w30 hb30
  obtain ⟨G, hG⟩ := exists_growZ (Z := fun _ : World => True) (W := w) trivial (fun _ _ => trivial)
  (refine anyZ_step hG trivial (i := 0) rfl (by kernel_rfl) (by kernel_rfl) (by kernel_rfl) (fun K hK => ?_); go_simp; refine hK _ ?_; clear hK K)
  (refine anyZ_step hG trivial (i := 1) rfl (by kernel_rfl) (by kernel_rfl) (by kernel_rfl) (fun K hK => ?_); go_simp; refine hK _ ?_; clear hK K)
  (refine anyZ_step hG trivial (i := 2) rfl (by kernel_rfl) (by kernel_rfl) (by kernel_rfl) (fun K hK => ?_); go_simp; refine hK _ ?_; clear hK K)
  (refine anyZ_step hG trivial (i := 3) rfl (by kernel_rfl) (by kernel_rfl) (by kernel_rfl) (fun K hK => ?_); go_simp; refine hK _ ?_; clear hK K)
  (refine anyZ_step hG trivial (i := 4) rfl (by kernel_rfl) (by kernel_rfl) (by kernel_rfl) (fun K hK => ?_); go_simp; refine hK _ ?_; clear hK K)
  (refine anyZ_step hG trivial (i := 5) rfl (by kernel_rfl) (by kernel_rfl) (by kernel_rfl) (fun K hK => ?_); go_simp; refine hK _ ?_; clear hK K)
  clear hG
  refine anyZ_one (i := 6) (by kernel_rfl) ⟨_, rfl, ?_⟩
  intro w31 hb31 K hK
  have hbA := hb30.trans (hb31.mono hb30.size)
  have HBA : Hid (Below w.heap.size w w31) := hbA
  have hgl : g < w.heap.size := (Array.getElem?_eq_some_iff.1 HC.out).1
  have hcur' := (hbA.block g hgl).trans HC.out
  have HC1 : Hid _ := hcur'
  have y0 := (hbA.cell (p := ⟨g, 0, none⟩) hgl).trans k0
  have y1 := (hbA.cell (p := ⟨g, 1, none⟩) hgl).trans k1
  have f0 : w31.frozen? ⟨g, 0, none⟩ = false := frozen_block hcur'
  have h1c : 1 ≤ c := by omega
  clear hb30 hb31 hbA hcur' k0 k1 z0 z1
  go_simp
  refine hK _ _ (fun _ => trivial) ?_
  clear hK K
  refine anyZ_one (i := 7) (by kernel_rfl) ⟨_, rfl, ?_⟩
  intro w32 hb32 K hK
  go_simp
  refine hK _ _ (fun _ => trivial) ?_
  clear hK K
  refine anyZ_end (by kernel_rfl) ?_
  intro w33 hb33
  have hbS := hb32.trans (hb33.mono hb32.size)
  have hblk := heap_setCell_same w31 g 0 cur _ (.slice p1 n1 m1) HC1.out
  have hblk2 := (hbS.block g (Array.getElem?_eq_some_iff.1 hblk).1).trans hblk
  have HBL : Hid _ := hblk2
  have HBS : Hid _ := hbS
  have u1 : w33.cell? ⟨g, 1, none⟩ = some (.slice p1 n1 m1) := (hbS.cell (p := ⟨g, 1, none⟩) (Array.getElem?_eq_some_iff.1 hblk).1).trans ((World.cell?_setCell_other (w := w31) ⟨g, 0, none⟩ ⟨g, 1, none⟩ _ (by simp)).trans y1)
  have uf : w33.frozen? ⟨g, 1, none⟩ = false := frozen_block hblk2
  have hcl : ∀ ty, (Builtin.clear_ #[60] ty #[.slice (some ⟨g, 1, none⟩) 1 (c - 1)]).run Tryz.prog w33 = .ok (.tuple #[]) (w33.setCell ⟨g, 1, none⟩ (.slice none 0 0)) := fun ty => by
    have := Lib.run_clear_slice (P := Tryz.prog) w33 60 23 ty (.slice none 0 0) Tryz.underlying60 (fun w => zero_of info_opz w) rfl rfl g 1 1 (c - 1) (by omega) (fun j hj => by
      obtain rfl : j = 0 := by omega
      rw [u1]; rfl) (fun j hj => by
      obtain rfl : j = 0 := by omega
      exact uf)
    rw [this]
    rfl
  clear hb32 hb33 hbS hblk hblk2 y0 y1 f0
  go_wp2
  go_ret
  refine ⟨rfl, ?_, ?_⟩
  · have hb2 := heap_setCell_same w33 g 1 _ _ (.slice none 0 0) HBL.out
    refine ⟨rfl, .inr ⟨g, c, _, rfl, hlg, hb2, by omega, by unfold maxLen; omega, ?_, ?_⟩⟩
    · rw [Array.size_setIfInBounds, Array.size_setIfInBounds, HSZ.out, Nat.mul_one]
    · rw [Array.toList_setIfInBounds, Array.toList_setIfInBounds]
      have ht := HTK.out
      match hl : cur.toList, ht with
      | a :: b :: l, ht =>
        rfl
  · have h : sameBut w (w33.setCell ⟨g, 1, none⟩ (.slice none 0 0)) (fun k => k = g) := ((sameBut_below HBA.out _).trans (sameBut_set (b := g) (o := 0) (v := .slice p1 n1 m1) (S := fun k => k = g) rfl)).trans ((sameBut_below HBS.out _).trans (sameBut_set (S := fun k => k = g) rfl))
    exact ⟨h.os, h.tape, h.output, h.size, fun k hk hn => h.block k hk fun e => hn (by rw [e])⟩
set_option maxRecDepth 100000 in
set_option maxHeartbeats 1000000 in
theorem del1 {lo g c : Nat} {w : World} {x0 : Value} (h : w.ownsRow lo 23 1 (.slice (some ⟨g, 0, none⟩) 1 c) 1 [x0]) :
    Calls Tryz.prog 186 #[.slice (some ⟨g, 0, none⟩) 1 c, .int .i64 0, .int .i64 1] w fun e w' => e = .returned (.slice (some ⟨g, 0, none⟩) 0 c) ∧ w'.ownsRow lo 23 1 (.slice (some ⟨g, 0, none⟩) 0 c) 0 [] ∧ w.grownBy w' (some g) := by
  have hc : 1 ≤ c ∧ c ≤ maxLen ∧ lo ≤ g ∧ ∃ cur, w.heap[g]? = some (.cells cur 23 (0, 0)) ∧ cur.size = c := by
    rcases h.2 with ⟨e, _⟩ | ⟨g', cap, cur, e, e1, e2, e3, e4, e5, e6⟩
    · cases e
    · injection e with e7 e8 e9
      injection e7 with e7
      injection e7 with e7
      subst e7 e9
      exact ⟨e3, e4, e1, cur, e2, by simpa using e5⟩
  obtain ⟨c2, c3, hlg, cur, hcur, hsz⟩ := hc
  unfold maxLen at c3
  have k0 : w.cell? ⟨g, 0, none⟩ = some x0 := by have := World.ownsRow.cellAt h 0 (by omega); exact this
  have HC : Hid _ := hcur
  have HSZ : Hid _ := hsz
  clear h hcur hsz
  by_cases hc1 : c = 1
  all_goals
    go_enter Tryz.func186, Tryz.ntmps186
    go_wp2
    refine wp_region_set (fun _ : World => True) 8 8 (by kernel_rfl) rfl ?_
    intro w30 hb30
    obtain ⟨G, hG⟩ := exists_growZ (Z := fun _ : World => True) (W := w) trivial (fun _ _ => trivial)
    (refine anyZ_step hG trivial (i := 0) rfl (by kernel_rfl) (by kernel_rfl) (by kernel_rfl) (fun K hK => ?_); go_simp; refine hK _ ?_; clear hK K)
    (refine anyZ_step hG trivial (i := 1) rfl (by kernel_rfl) (by kernel_rfl) (by kernel_rfl) (fun K hK => ?_); go_simp; refine hK _ ?_; clear hK K)
    (refine anyZ_step hG trivial (i := 2) rfl (by kernel_rfl) (by kernel_rfl) (by kernel_rfl) (fun K hK => ?_); go_simp; refine hK _ ?_; clear hK K)
    (refine anyZ_step hG trivial (i := 3) rfl (by kernel_rfl) (by kernel_rfl) (by kernel_rfl) (fun K hK => ?_); go_simp; refine hK _ ?_; clear hK K)
    (refine anyZ_step hG trivial (i := 4) rfl (by kernel_rfl) (by kernel_rfl) (by kernel_rfl) (fun K hK => ?_); go_simp; refine hK _ ?_; clear hK K)
    (refine anyZ_step hG trivial (i := 5) rfl (by kernel_rfl) (by kernel_rfl) (by kernel_rfl) (fun K hK => ?_); go_simp; refine hK _ ?_; clear hK K)
    clear hG
    refine anyZ_one (i := 6) (by kernel_rfl) ⟨_, rfl, ?_⟩
    intro w31 hb31 K hK
    go_simp
    refine hK _ _ (fun _ => trivial) ?_
    clear hK K
    refine anyZ_one (i := 7) (by kernel_rfl) ⟨_, rfl, ?_⟩
    intro w32 hb32 K hK
    go_simp
    refine hK _ _ (fun _ => trivial) ?_
    clear hK K
    refine anyZ_end (by kernel_rfl) ?_
    intro w33 hb33
    have hbS := hb30.trans ((hb31.trans ((hb32.trans (hb33.mono hb32.size)).mono hb31.size)).mono hb30.size)
    have hgl : g < w.heap.size := (Array.getElem?_eq_some_iff.1 HC.out).1
    have hblk2 := (hbS.block g hgl).trans HC.out
    have HBL : Hid _ := hblk2
    have HBS : Hid _ := hbS
    have u1 : w33.cell? ⟨g, 0, none⟩ = some x0 := (hbS.cell (p := ⟨g, 0, none⟩) hgl).trans k0
    have uf : w33.frozen? ⟨g, 0, none⟩ = false := frozen_block hblk2
    have hcl : ∀ ty, (Builtin.clear_ #[60] ty #[.slice (some ⟨g, 0, none⟩) 1 c]).run Tryz.prog w33 = .ok (.tuple #[]) (w33.setCell ⟨g, 0, none⟩ (.slice none 0 0)) := fun ty => by
      have := Lib.run_clear_slice (P := Tryz.prog) w33 60 23 ty (.slice none 0 0) Tryz.underlying60 (fun w => zero_of info_opz w) rfl rfl g 0 1 c (by omega) (fun j hj => by
        obtain rfl : j = 0 := by omega
        rw [u1]; rfl) (fun j hj => by
        obtain rfl : j = 0 := by omega
        exact uf)
      rw [this]
      rfl
    clear hb30 hb31 hb32 hb33 hbS hblk2
    try rw [hc1] at hcl
    go_wp2
    go_ret
    refine ⟨by first | rfl | (rw [hc1]; rfl), ?_, ?_⟩
    · have hb2 := heap_setCell_same w33 g 0 _ _ (.slice none 0 0) HBL.out
      refine ⟨rfl, .inr ⟨g, _, _, rfl, hlg, hb2, by omega, by unfold maxLen; omega, ?_, rfl⟩⟩
      rw [Array.size_setIfInBounds, HSZ.out]
      omega
    · have h : sameBut w (w33.setCell ⟨g, 0, none⟩ (.slice none 0 0)) (fun k => k = g) := (sameBut_below HBS.out _).trans (sameBut_set (S := fun k => k = g) rfl)
      exact ⟨h.os, h.tape, h.output, h.size, fun k hk hn => h.block k hk fun e => hn (by rw [e])⟩
end Go.Proofs.YtedgnlgjmnccgabGreatDoor
