/-
  rope's New, tree, Counts: of a sound text.
-/
import Derived.Test.YtldhbjmillfjgabGreatDoorBetween
namespace Go.Proofs.YtldhbjmillfjgabGreatDoor
open Go.RowKit
set_option linter.unusedVariables false
attribute [local go_sem] Oper.semAt_some

/-- A document that lies in a block, of these runes. -/
def isRope (w : World) (b : Nat) (rs : List Nat) : Prop :=
  ∃ q t, w.cell? ⟨b, 0, none⟩ = some (.pointer q) ∧ w.frozen? ⟨b, 0, none⟩ = false ∧ w.cell? ⟨b, 5, none⟩ = none ∧ isTree w q t ∧ okT t ∧ t.runes = rs
theorem isRope_below {w w' : World} {b : Nat} {rs : List Nat} (h : isRope w b rs) (hb : Below w.heap.size w w') : isRope w' b rs := by
  obtain ⟨q, t, h1, h2, h3, h4, h5⟩ := h
  have hlt := World.block_lt_of_cell? w _ h1
  have e := hb.block b hlt
  exact ⟨q, t, (cellOn e 0).trans h1, (frozenOn e 0).trans h2, (cellOn e 5).trans h3, isTree_below hb h4, h5⟩

theorem counted_new (w : World) (n1 n2 n3 n4 : Int) (t : TypeId) : counted (w.alloc (.cells #[.int .i64 n1, .int .i64 n2, .int .i64 n3, .int .i64 n4] t)) w.heap.size n1 n2 n3 n4 := by
  refine ⟨⟨?_, ?_, ?_, ?_⟩, ?_, ?_, ?_, ?_⟩ <;> simp [go_sem]
theorem below_set4 {lo : Nat} {w W : World} {B : Nat} (hb : Below lo w W) (hlo : lo ≤ B) (u0 u1 u2 u3 : Value) :
    Below lo w ((((W.setCell ⟨B, 0, none⟩ u0).setCell ⟨B, 1, none⟩ u1).setCell ⟨B, 2, none⟩ u2).setCell ⟨B, 3, none⟩ u3) :=
  (((hb.setCell (p := ⟨B, 0, none⟩) hlo _).setCell (p := ⟨B, 1, none⟩) hlo _).setCell (p := ⟨B, 2, none⟩) hlo _).setCell (p := ⟨B, 3, none⟩) hlo _

set_option maxRecDepth 100000 in
set_option maxHeartbeats 2000000 in
theorem ropetree_any (b : Nat) (q : Option Addr) (w : World) (h : w.cell? ⟨b, 0, none⟩ = some (.pointer q)) :
    Calls Tryz.prog 66 #[.pointer (some ⟨b, 0, none⟩)] w fun e w' => e = .returned (.pointer q) ∧ w' = w := by
  go_enter Tryz.func66, Tryz.ntmps66
  go_wp2
  go_ret
  exact ⟨rfl, rfl⟩

set_option maxRecDepth 100000 in
set_option maxHeartbeats 2000000 in
theorem ropecounts_any (b : Nat) (rs : List Nat) (w : World) (h : isRope w b rs) :
    Calls Tryz.prog 20 #[.pointer (some ⟨b, 0, none⟩)] w fun e w' => e = .returned (.agg #[.int .i64 (C1 rs), .int .i64 (C2 rs), .int .i64 (C3 rs), .int .i64 (C4 rs)]) ∧ Below w.heap.size w w' := by
  obtain ⟨q, t, h1, _, _, h4, _, rfl⟩ := h
  have hb0 : ∀ o, Below w.heap.size w (w.alloc o) := fun o => (Below.refl _ w).alloc (Nat.le_refl _) o
  have cT := fun o => ropetree_any b q (w.alloc o) (cell_on (hb0 o) h1)
  have cC := fun o => ncounts_any q t (w.alloc o) (isTree_below (hb0 o) h4)
  generalize C1 t.runes = x1 at *
  generalize C2 t.runes = x2 at *
  generalize C3 t.runes = x3 at *
  generalize C4 t.runes = x4 at *
  clear h4
  go_enter Tryz.func20, Tryz.ntmps20
  go_wp2_with (first
    | (go_at_call 66; refine (cT _).mono ?_; rintro e w1 ⟨rfl, hw1⟩; obtain rfl := hw1.symm)
    | (go_at_call 67; refine (cC _).mono ?_; rintro e w2 ⟨rfl, hb2⟩; have hm := counted_below (counted_new w 0 0 0 0 25) hb2; have HM : Hid _ := hm; obtain ⟨⟨m0, m1, m2, m3⟩, n0, n1, n2, n3⟩ := hm)
    | fail)
  have hms := counted_set (m1 := x1) (m2 := x2) (m3 := x3) (m4 := x4) HM.out
  obtain ⟨⟨s0, s1, s2, s3⟩, _⟩ := hms
  have hbw := (hb0 (.cells #[.int .i64 0, .int .i64 0, .int .i64 0, .int .i64 0] 25)).trans (hb2.mono (hb0 (.cells #[.int .i64 0, .int .i64 0, .int .i64 0, .int .i64 0] 25)).size)
  refine bodyPost_ret (v := .agg #[.int .i64 x1, .int .i64 x2, .int .i64 x3, .int .i64 x4]) (by simp [results, Tryz.results20, go_sem, s0, s1, s2, s3]) rfl ⟨rfl, below_set4 hbw (Nat.le_refl _) _ _ _ _⟩

set_option maxRecDepth 100000 in
set_option maxHeartbeats 2000000 in
theorem new_good (rs : List Nat) (hr : ∀ r ∈ rs, isRune r) (hz : C1 rs ≤ 8000) (w : World) (hT : Lib.Utf8Tabs 2 3 w) :
    Calls Tryz.prog 9 #[.string (bytesOf rs)] w fun e w' => ∃ b, e = .returned (.tuple #[.pointer (some ⟨b, 0, none⟩), .nilIface]) ∧ w.heap.size ≤ b ∧ isRope w' b rs ∧ Below w.heap.size w w' := by
  have hsz : (bytesOf rs).size ≤ 8000 := by rw [bytesOf_size]; rw [C1_len] at hz; omega
  have c1 := count_of rs hr (by omega) w hT
  have c2 := fun wx (hb : Below w.heap.size w wx) => between_new rs hr (by rw [C1_len] at hz; omega) wx (Go.Proofs.Utf8Tabs_below hT hb)
  clear hr hz hT
  generalize C1 rs = x1 at *
  generalize C2 rs = x2 at *
  generalize C3 rs = x3 at *
  generalize C4 rs = x4 at *
  go_enter Tryz.func9, Tryz.ntmps9
  go_wp2_with (first
    | (go_at_call 59; refine c1.mono ?_; rintro e w1 ⟨rfl, hb1⟩; have hB1 : Below w.heap.size w (w1.alloc (.cells #[.int .i64 x1, .int .i64 x2, .int .i64 x3, .int .i64 x4] 25)) := hb1.alloc hb1.size _)
    | (go_at_call 60; refine (c2 _ hB1).mono ?_; rintro e w2 ⟨q, t, rfl, ht, ho, hrn, hb2⟩; have HT : Hid (isTree w2 q t ∧ okT t ∧ t.runes = rs) := ⟨ht, ho, hrn⟩; clear ht ho hrn)
    | fail)
  have hb2W : Below w2.heap.size w2 (w2.alloc (.cells #[.pointer q] 122)) := (Below.refl _ w2).alloc (Nat.le_refl _) _
  have hB2 := hB1.trans (hb2.mono hB1.size)
  have hR : isRope (w2.alloc (.cells #[.pointer q] 122)) w2.heap.size rs := ⟨q, t, by simp [go_sem], by simp [go_sem], by simp [go_sem], isTree_below hb2W HT.out.1, HT.out.2⟩
  refine bodyPost_ret (v := .tuple #[.pointer (some ⟨w2.heap.size, 0, none⟩), .nilIface]) (by simp [results, Tryz.results9, go_sem]) rfl ⟨_, rfl, hB2.size, hR, hB2.trans (hb2W.mono hB2.size)⟩

end Go.Proofs.YtldhbjmillfjgabGreatDoor
