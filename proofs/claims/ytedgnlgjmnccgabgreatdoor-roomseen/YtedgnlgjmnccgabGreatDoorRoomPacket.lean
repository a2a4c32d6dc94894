/-
  room.packet.
-/
import Derived.Test.YtedgnlgjmnccgabGreatDoorRoomSmall
import Derived.Test.YtedgnlgjmnccgabGreatDoorSrvPush
import Derived.Test.YtedgnlgjmnccgabGreatDoorClQueue
namespace Go.Proofs.YtedgnlgjmnccgabGreatDoor
open Go.RowKit Go.Maps
set_option linter.unusedVariables false
attribute [local go_sem] Oper.semAt_some

/-- A packet as a value. -/
def pkV (p : Pk) (v : Value) : Value := .agg #[.int .i64 p.kind, .int .i64 (p.c : Int), .int .i64 p.rev, .int .i64 p.id, .int .i64 p.x.c, .int .i64 p.x.i, v]
theorem box7 {w w1 : World} {β : Nat} {a0 a1 a2 a3 a4 a5 a6 : Value} {T : TypeId} (h : w.heap.size = β) (hb : Below (w.alloc (.cells #[a0, a1, a2, a3, a4, a5, a6] T)).heap.size (w.alloc (.cells #[a0, a1, a2, a3, a4, a5, a6] T)) w1) :
    w1.cell? ⟨β, 0, none⟩ = some a0 ∧ w1.cell? ⟨β, 1, none⟩ = some a1 ∧ w1.cell? ⟨β, 2, none⟩ = some a2 ∧ w1.cell? ⟨β, 3, none⟩ = some a3 ∧ w1.cell? ⟨β, 4, none⟩ = some a4 ∧ w1.cell? ⟨β, 5, none⟩ = some a5 ∧ w1.cell? ⟨β, 6, none⟩ = some a6 ∧ (∀ o, w1.frozen? ⟨β, o, none⟩ = false) ∧ w1.heap[β]? = some (.cells #[a0, a1, a2, a3, a4, a5, a6] T (0, 0)) := by
  subst h
  have hbox := (hb.block _ (by rw [World.size_alloc]; omega)).trans (heap_alloc_new w (.cells #[a0, a1, a2, a3, a4, a5, a6] T))
  exact ⟨Lib.cell_of_heap hbox 0, Lib.cell_of_heap hbox 1, Lib.cell_of_heap hbox 2, Lib.cell_of_heap hbox 3, Lib.cell_of_heap hbox 4, Lib.cell_of_heap hbox 5, Lib.cell_of_heap hbox 6, fun o => frozen_block hbox, hbox⟩
/-- Seven cells are stored. -/
def set7 (w : World) (β : Nat) (a0 a1 a2 a3 a4 a5 a6 : Value) : World := ((((((w.setCell ⟨β, 0, none⟩ a0).setCell ⟨β, 1, none⟩ a1).setCell ⟨β, 2, none⟩ a2).setCell ⟨β, 3, none⟩ a3).setCell ⟨β, 4, none⟩ a4).setCell ⟨β, 5, none⟩ a5).setCell ⟨β, 6, none⟩ a6
theorem set7_spec {w : World} {β : Nat} {T : TypeId} {c0 c1 c2 c3 c4 c5 c6 : Value} (a0 a1 a2 a3 a4 a5 a6 : Value) (h : w.heap[β]? = some (.cells #[c0, c1, c2, c3, c4, c5, c6] T (0, 0))) {lo : Nat} {w0 : World} (hb : Below lo w0 w) (hl : lo ≤ β) :
    (set7 w β a0 a1 a2 a3 a4 a5 a6).heap[β]? = some (.cells #[a0, a1, a2, a3, a4, a5, a6] T (0, 0)) ∧ Below lo w0 (set7 w β a0 a1 a2 a3 a4 a5 a6) := by
  have h1 : (w.setCell ⟨β, 0, none⟩ a0).heap[β]? = some (.cells #[a0, c1, c2, c3, c4, c5, c6] T (0, 0)) := heap_setCell_same w β 0 _ T a0 h
  have b1 : Below lo w0 (w.setCell ⟨β, 0, none⟩ a0) := hb.setCell (p := ⟨β, 0, none⟩) hl a0
  unfold set7
  generalize w.setCell ⟨β, 0, none⟩ a0 = w1 at *
  have h2 : (w1.setCell ⟨β, 1, none⟩ a1).heap[β]? = some (.cells #[a0, a1, c2, c3, c4, c5, c6] T (0, 0)) := heap_setCell_same w1 β 1 _ T a1 h1
  have b2 : Below lo w0 (w1.setCell ⟨β, 1, none⟩ a1) := b1.setCell (p := ⟨β, 1, none⟩) hl a1
  generalize w1.setCell ⟨β, 1, none⟩ a1 = w2 at *
  have h3 : (w2.setCell ⟨β, 2, none⟩ a2).heap[β]? = some (.cells #[a0, a1, a2, c3, c4, c5, c6] T (0, 0)) := heap_setCell_same w2 β 2 _ T a2 h2
  have b3 : Below lo w0 (w2.setCell ⟨β, 2, none⟩ a2) := b2.setCell (p := ⟨β, 2, none⟩) hl a2
  generalize w2.setCell ⟨β, 2, none⟩ a2 = w3 at *
  have h4 : (w3.setCell ⟨β, 3, none⟩ a3).heap[β]? = some (.cells #[a0, a1, a2, a3, c4, c5, c6] T (0, 0)) := heap_setCell_same w3 β 3 _ T a3 h3
  have b4 : Below lo w0 (w3.setCell ⟨β, 3, none⟩ a3) := b3.setCell (p := ⟨β, 3, none⟩) hl a3
  generalize w3.setCell ⟨β, 3, none⟩ a3 = w4 at *
  have h5 : (w4.setCell ⟨β, 4, none⟩ a4).heap[β]? = some (.cells #[a0, a1, a2, a3, a4, c5, c6] T (0, 0)) := heap_setCell_same w4 β 4 _ T a4 h4
  have b5 : Below lo w0 (w4.setCell ⟨β, 4, none⟩ a4) := b4.setCell (p := ⟨β, 4, none⟩) hl a4
  generalize w4.setCell ⟨β, 4, none⟩ a4 = w5 at *
  have h6 : (w5.setCell ⟨β, 5, none⟩ a5).heap[β]? = some (.cells #[a0, a1, a2, a3, a4, a5, c6] T (0, 0)) := heap_setCell_same w5 β 5 _ T a5 h5
  have b6 : Below lo w0 (w5.setCell ⟨β, 5, none⟩ a5) := b5.setCell (p := ⟨β, 5, none⟩) hl a5
  generalize w5.setCell ⟨β, 5, none⟩ a5 = w6 at *
  exact ⟨heap_setCell_same w6 β 6 _ T a6 h6, b6.setCell (p := ⟨β, 6, none⟩) hl a6⟩
set_option maxRecDepth 100000 in
set_option maxHeartbeats 1000000 in
theorem rmPacket_bad {lo : Nat} {w : World} {r bx bmx : Nat} {bs : List Nat} {R : Rm} (h : isRoom lo w r bx bmx bs R) (k : Int) (hk : k < 0 ∨ (R.fl.length : Int) ≤ k) :
    Calls Tryz.prog 131 #[.pointer (some ⟨r, 0, none⟩), .int .i64 k] w fun e w' => e = .returned (.tuple #[.agg #[.int .i64 0, .int .i64 0, .int .i64 0, .int .i64 0, .int .i64 0, .int .i64 0, .slice none 0 0], .iface 26 (.int .i64 2)]) ∧ Below w.heap.size w w' := by
  have C : Hid (∀ wx, Below w.heap.size w wx → Calls Tryz.prog 73 #[.pointer (some ⟨r, 0, none⟩)] wx fun e w' => e = .returned (.int .i64 (R.fl.length : Int)) ∧ Below wx.heap.size wx w') := fun wx hb => rmMany_any (isRoom_below h hb)
  clear h
  by_cases hk0 : k < 0
  · clear hk
    go_enter Tryz.func131, Tryz.ntmps131
    go_wp2
    refine bodyPost_ret (v := .tuple #[.agg #[.int .i64 0, .int .i64 0, .int .i64 0, .int .i64 0, .int .i64 0, .int .i64 0, .slice none 0 0], .iface 26 (.int .i64 2)]) (by simp [results, Tryz.results131, go_sem]) rfl ⟨rfl, ?_⟩
    exact (Below.refl _ _).alloc (Nat.le_refl _) _
  · have hk1 : (R.fl.length : Int) ≤ k := by omega
    obtain ⟨β, hβ⟩ : ∃ β, w.heap.size = β := ⟨_, rfl⟩
    have HBT : Hid (w.heap.size = β) := hβ
    clear hk
    go_enter Tryz.func131, Tryz.ntmps131
    go_wp2_with (first
      | (go_at_call 73; refine (C.out _ ((Below.refl _ _).alloc (Nat.le_refl _) _)).mono ?_; rintro e w1 ⟨rfl, hb1⟩
         have HB1 : Hid (Below w.heap.size w w1) := ((Below.refl _ _).alloc (Nat.le_refl _) _).trans (hb1.mono (by rw [World.size_alloc]; omega))
         obtain ⟨b0, b1, b2, b3, b4, b5, b6, bf, bh⟩ := box7 HBT.out hb1; have BH : Hid _ := bh
         have f0 := bf 0; have f1 := bf 1; have f2 := bf 2; have f3 := bf 3; have f4 := bf 4; have f5 := bf 5; have f6 := bf 6
         clear hb1 bf bh)
      | fail)
    obtain ⟨W, hW⟩ : ∃ W, W = set7 w1 β (.int .i64 0) (.int .i64 0) (.int .i64 0) (.int .i64 0) (.int .i64 0) (.int .i64 0) (.slice none 0 0) := ⟨_, rfl⟩
    have hs := set7_spec (.int .i64 0) (.int .i64 0) (.int .i64 0) (.int .i64 0) (.int .i64 0) (.int .i64 0) (.slice none 0 0) BH.out HB1.out (Nat.le_of_eq HBT.out)
    rw [← hW] at hs
    have HW : Hid (Below w.heap.size w W) := hs.2
    have d0 : W.cell? ⟨β, 0, none⟩ = some (.int .i64 0) := Lib.cell_of_heap hs.1 0
    have d1 : W.cell? ⟨β, 1, none⟩ = some (.int .i64 0) := Lib.cell_of_heap hs.1 1
    have d2 : W.cell? ⟨β, 2, none⟩ = some (.int .i64 0) := Lib.cell_of_heap hs.1 2
    have d3 : W.cell? ⟨β, 3, none⟩ = some (.int .i64 0) := Lib.cell_of_heap hs.1 3
    have d4 : W.cell? ⟨β, 4, none⟩ = some (.int .i64 0) := Lib.cell_of_heap hs.1 4
    have d5 : W.cell? ⟨β, 5, none⟩ = some (.int .i64 0) := Lib.cell_of_heap hs.1 5
    have d6 : W.cell? ⟨β, 6, none⟩ = some (.slice none 0 0) := Lib.cell_of_heap hs.1 6
    unfold set7 at hW
    rw [← hW]
    clear b0 b1 b2 b3 b4 b5 b6 f0 f1 f2 f3 f4 f5 f6 hs hW
    refine bodyPost_ret (v := .tuple #[.agg #[.int .i64 0, .int .i64 0, .int .i64 0, .int .i64 0, .int .i64 0, .int .i64 0, .slice none 0 0], .iface 26 (.int .i64 2)]) (by simp [results, Tryz.results131, go_sem, d0, d1, d2, d3, d4, d5, d6]) rfl ⟨rfl, HW.out⟩
set_option maxRecDepth 100000 in
set_option maxHeartbeats 1000000 in
theorem rmPacket_ok {lo : Nat} {w : World} {r bx bmx : Nat} {bs : List Nat} {R : Rm} (h : isRoom lo w r bx bmx bs R) (k : Nat) {p : Pk} (hp : R.fl[k]? = some p) (hfl : R.fl.length ≤ 400) :
    Calls Tryz.prog 131 #[.pointer (some ⟨r, 0, none⟩), .int .i64 (k : Int)] w fun e w' => ∃ v, e = .returned (.tuple #[pkV p v, .nilIface]) ∧ opX lo w' v p.x.op ∧ Below w.heap.size w w' := by
  have C : Hid (∀ wx, Below w.heap.size w wx → Calls Tryz.prog 73 #[.pointer (some ⟨r, 0, none⟩)] wx fun e w' => e = .returned (.int .i64 (R.fl.length : Int)) ∧ Below wx.heap.size wx w') := fun wx hb => rmMany_any (isRoom_below h hb)
  obtain ⟨pc, cc, pf, cf, h2, h3, h4⟩ := isRoom_cells h
  have hk : k < R.fl.length := (List.getElem?_eq_some_iff.1 hp).1
  have hne : R.fl ≠ [] := fun e => by rw [e] at hk; exact absurd hk (Nat.not_lt_zero _)
  obtain ⟨g, rfl, hgl, _, _, _, hat⟩ := isPks_at h4 hne
  obtain ⟨vp, a0, a1, a2, a3, a4, a5, a6, hop⟩ := hat k p hp
  obtain ⟨pv, cv, rfl⟩ := opX_shape hop
  have HOP : Hid _ := hop
  have HRL : Hid (r < w.heap.size) := isRoom_lt h
  have HGL : Hid (g < w.heap.size) := hgl
  have HX : Hid (w.cell? ⟨r, 2, none⟩ = some (.slice (some ⟨g, 0, none⟩) R.fl.length cf)) := Lib.cell_of_heap h2 2
  have A0 : Hid _ := a0; have A1 : Hid _ := a1; have A2 : Hid _ := a2; have A3 : Hid _ := a3; have A4 : Hid _ := a4; have A5 : Hid _ := a5; have A6 : Hid _ := a6
  have hk1 : ¬ (R.fl.length : Int) ≤ (k : Int) := by omega
  have hk2 : ¬ (k : Int) < 0 := by omega
  have hk3 : (k : Int) < (R.fl.length : Int) := by omega
  have hk4 : (R.fl.length : Int) ≤ 400 := by omega
  obtain ⟨β, hβ⟩ : ∃ β, w.heap.size = β := ⟨_, rfl⟩
  have HBT : Hid (w.heap.size = β) := hβ
  clear h h2 h3 h4 hat hop hgl a0 a1 a2 a3 a4 a5 a6 hp hfl hne
  go_enter Tryz.func131, Tryz.ntmps131
  go_wp2_with (first
    | (go_at_call 73; refine (C.out _ ((Below.refl _ _).alloc (Nat.le_refl _) _)).mono ?_; rintro e w1 ⟨rfl, hb1⟩
       have HB1 : Hid (Below w.heap.size w w1) := ((Below.refl _ _).alloc (Nat.le_refl _) _).trans (hb1.mono (by rw [World.size_alloc]; omega))
       obtain ⟨b0, b1, b2, b3, b4, b5, b6, bf, bh⟩ := box7 HBT.out hb1; have BH : Hid _ := bh
       have f0 := bf 0; have f1 := bf 1; have f2 := bf 2; have f3 := bf 3; have f4 := bf 4; have f5 := bf 5; have f6 := bf 6
       have x2 := (HB1.out.cell (p := ⟨r, 2, none⟩) HRL.out).trans HX.out
       have c0 := (HB1.out.cell (p := ⟨g, k * 7, none⟩) HGL.out).trans A0.out
       have c1 := (HB1.out.cell (p := ⟨g, k * 7 + 1, none⟩) HGL.out).trans A1.out
       have c2 := (HB1.out.cell (p := ⟨g, k * 7 + 2, none⟩) HGL.out).trans A2.out
       have c3 := (HB1.out.cell (p := ⟨g, k * 7 + 3, none⟩) HGL.out).trans A3.out
       have c4 := (HB1.out.cell (p := ⟨g, k * 7 + 4, none⟩) HGL.out).trans A4.out
       have c5 := (HB1.out.cell (p := ⟨g, k * 7 + 5, none⟩) HGL.out).trans A5.out
       have c6 := (HB1.out.cell (p := ⟨g, k * 7 + 6, none⟩) HGL.out).trans A6.out
       clear hb1 bf bh)
    | fail)
  obtain ⟨W, hW⟩ : ∃ W, W = set7 w1 β (.int .i64 p.kind) (.int .i64 (p.c : Int)) (.int .i64 p.rev) (.int .i64 p.id) (.int .i64 p.x.c) (.int .i64 p.x.i) (.slice pv p.x.op.length cv) := ⟨_, rfl⟩
  have hs := set7_spec (.int .i64 p.kind) (.int .i64 (p.c : Int)) (.int .i64 p.rev) (.int .i64 p.id) (.int .i64 p.x.c) (.int .i64 p.x.i) (.slice pv p.x.op.length cv) BH.out HB1.out (Nat.le_of_eq HBT.out)
  rw [← hW] at hs
  have HW : Hid (Below w.heap.size w W) := hs.2
  have d0 : W.cell? ⟨β, 0, none⟩ = some (.int .i64 p.kind) := Lib.cell_of_heap hs.1 0
  have d1 : W.cell? ⟨β, 1, none⟩ = some (.int .i64 (p.c : Int)) := Lib.cell_of_heap hs.1 1
  have d2 : W.cell? ⟨β, 2, none⟩ = some (.int .i64 p.rev) := Lib.cell_of_heap hs.1 2
  have d3 : W.cell? ⟨β, 3, none⟩ = some (.int .i64 p.id) := Lib.cell_of_heap hs.1 3
  have d4 : W.cell? ⟨β, 4, none⟩ = some (.int .i64 p.x.c) := Lib.cell_of_heap hs.1 4
  have d5 : W.cell? ⟨β, 5, none⟩ = some (.int .i64 p.x.i) := Lib.cell_of_heap hs.1 5
  have d6 : W.cell? ⟨β, 6, none⟩ = some (.slice pv p.x.op.length cv) := Lib.cell_of_heap hs.1 6
  unfold set7 at hW
  rw [← hW]
  clear b0 b1 b2 b3 b4 b5 b6 f0 f1 f2 f3 f4 f5 f6 hs hW
  refine bodyPost_ret (v := .tuple #[.agg #[.int .i64 p.kind, .int .i64 (p.c : Int), .int .i64 p.rev, .int .i64 p.id, .int .i64 p.x.c, .int .i64 p.x.i, .slice pv p.x.op.length cv], .nilIface]) (by simp [results, Tryz.results131, go_sem, d0, d1, d2, d3, d4, d5, d6]) rfl ⟨_, rfl, opX_grown HOP.out HW.out, HW.out⟩
end Go.Proofs.YtedgnlgjmnccgabGreatDoor
