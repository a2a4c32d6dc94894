/-
  A room's readers: now, Many, Lost, Text, Rev, Client, packet.
-/
import Derived.Test.YtedgnlgjmnccgabGreatDoorRoomMem
import Derived.Test.YtedgnlgjmnccgabGreatDoorSrvSmall
namespace Go.Proofs.YtedgnlgjmnccgabGreatDoor
open Go.RowKit Go.Maps
set_option linter.unusedVariables false
attribute [local go_sem] Oper.semAt_some

set_option maxRecDepth 100000 in
theorem rmNow_any {lo : Nat} {w : World} {r bx bmx : Nat} {bs : List Nat} {R : Rm} (h : isRoom lo w r bx bmx bs R) :
    Calls Tryz.prog 128 #[.pointer (some ⟨r, 0, none⟩)] w fun e w' => ∃ pc cc pf cf, e = .returned (.agg #[.pointer (some ⟨bx, 0, none⟩), .slice pc bs.length cc, .slice pf R.fl.length cf, .int .i64 (R.lost : Int)]) ∧ w.ownsRow lo 93 1 (.slice pc bs.length cc) bs.length (ptrs bs) ∧ isPks 219 lo w (.slice pf R.fl.length cf) R.fl ∧ Below w.heap.size w w' := by
  obtain ⟨pc, cc, pf, cf, h2, h3, h4⟩ := isRoom_cells h
  have H3 : Hid _ := h3
  have H4 : Hid _ := h4
  have x0 : w.cell? ⟨r, 0, none⟩ = some (.pointer (some ⟨bx, 0, none⟩)) := Lib.cell_of_heap h2 0
  have x1 : w.cell? ⟨r, 1, none⟩ = some (.slice pc bs.length cc) := Lib.cell_of_heap h2 1
  have x2 : w.cell? ⟨r, 2, none⟩ = some (.slice pf R.fl.length cf) := Lib.cell_of_heap h2 2
  have x3 : w.cell? ⟨r, 3, none⟩ = some (.int .i64 (R.lost : Int)) := Lib.cell_of_heap h2 3
  have hrl : r < w.heap.size := isRoom_lt h
  clear h h2 h3 h4
  go_enter Tryz.func128, Tryz.ntmps128
  go_wp2
  refine bodyPost_ret (v := .agg #[.pointer (some ⟨bx, 0, none⟩), .slice pc bs.length cc, .slice pf R.fl.length cf, .int .i64 (R.lost : Int)]) (by simp [results, Tryz.results128, go_sem]) rfl ⟨_, _, _, _, rfl, H3.out, H4.out, ?_⟩
  exact (Below.refl _ _).alloc (Nat.le_refl _) _
theorem rmF0 (a : Addr) (p q : Option Addr) (n m n' m' : Nat) (x : Int) (w : World) : (Instr.field 215 (.agg #[.pointer (some a), .slice p n m, .slice q n' m', .int .i64 x]) 0).run Tryz.prog w = .ok (.pointer (some a)) w := by kernel_rfl
theorem rmF1 (a : Addr) (p q : Option Addr) (n m n' m' : Nat) (x : Int) (w : World) : (Instr.field 215 (.agg #[.pointer (some a), .slice p n m, .slice q n' m', .int .i64 x]) 1).run Tryz.prog w = .ok (.slice p n m) w := by kernel_rfl
theorem rmF2 (a : Addr) (p q : Option Addr) (n m n' m' : Nat) (x : Int) (w : World) : (Instr.field 215 (.agg #[.pointer (some a), .slice p n m, .slice q n' m', .int .i64 x]) 2).run Tryz.prog w = .ok (.slice q n' m') w := by kernel_rfl
theorem rmF3 (a : Addr) (p q : Option Addr) (n m n' m' : Nat) (x : Int) (w : World) : (Instr.field 215 (.agg #[.pointer (some a), .slice p n m, .slice q n' m', .int .i64 x]) 3).run Tryz.prog w = .ok (.int .i64 x) w := by kernel_rfl
attribute [local go_sem] rmF0 rmF1 rmF2 rmF3
set_option maxRecDepth 100000 in
theorem rmMany_any {lo : Nat} {w : World} {r bx bmx : Nat} {bs : List Nat} {R : Rm} (h : isRoom lo w r bx bmx bs R) :
    Calls Tryz.prog 73 #[.pointer (some ⟨r, 0, none⟩)] w fun e w' => e = .returned (.int .i64 (R.fl.length : Int)) ∧ Below w.heap.size w w' := by
  have C : Hid _ := rmNow_any h
  clear h
  go_enter Tryz.func73, Tryz.ntmps73
  go_wp2_with (first | (go_at_call 128; refine Calls.mono C.out ?_; rintro e w1 ⟨pc, cc, pf, cf, rfl, _, _, hb1⟩; have HB1 : Hid (Below w.heap.size w w1) := hb1; clear hb1) | fail)
  go_ret
  exact ⟨rfl, HB1.out⟩
set_option maxRecDepth 100000 in
theorem rmText_any {lo : Nat} {w : World} {r bx bmx : Nat} {bs : List Nat} {R : Rm} (h : isRoom lo w r bx bmx bs R) :
    Calls Tryz.prog 75 #[.pointer (some ⟨r, 0, none⟩)] w fun e w' => e = .returned (.string ⟨R.t.toArray⟩) ∧ Below w.heap.size w w' := by
  have C : Hid _ := rmNow_any h
  have CT : Hid (∀ wx, Below w.heap.size w wx → Calls Tryz.prog 42 #[.pointer (some ⟨bx, 0, none⟩)] wx fun e w' => w' = wx ∧ e = .returned (.string ⟨R.t.toArray⟩)) := fun wx hb => srvText_any _ _ _ bx bmx R.t R.E R.M (isSrv_below h.srv hb)
  clear h
  go_enter Tryz.func75, Tryz.ntmps75
  go_wp2_with (first
    | (go_at_call 128; refine Calls.mono C.out ?_; rintro e w1 ⟨pc, cc, pf, cf, rfl, _, _, hb1⟩; have HB1 : Hid (Below w.heap.size w w1) := hb1; clear hb1)
    | (go_at_call 42; refine (CT.out _ HB1.out).mono ?_; rintro e w2 ⟨hw, rfl⟩; obtain rfl := hw.symm)
    | fail)
  go_ret
  exact ⟨rfl, HB1.out⟩
set_option maxRecDepth 100000 in
theorem rmRev_any {lo : Nat} {w : World} {r bx bmx : Nat} {bs : List Nat} {R : Rm} (h : isRoom lo w r bx bmx bs R) :
    Calls Tryz.prog 76 #[.pointer (some ⟨r, 0, none⟩)] w fun e w' => e = .returned (.int .i64 (R.E.length : Int)) ∧ Below w.heap.size w w' := by
  have C : Hid _ := rmNow_any h
  have CT : Hid (∀ wx, Below w.heap.size w wx → Calls Tryz.prog 41 #[.pointer (some ⟨bx, 0, none⟩)] wx fun e w' => w' = wx ∧ e = .returned (.int .i64 R.E.length)) := fun wx hb => srvRev_any _ _ _ bx bmx R.t R.E R.M (isSrv_below h.srv hb)
  clear h
  go_enter Tryz.func76, Tryz.ntmps76
  go_wp2_with (first
    | (go_at_call 128; refine Calls.mono C.out ?_; rintro e w1 ⟨pc, cc, pf, cf, rfl, _, _, hb1⟩; have HB1 : Hid (Below w.heap.size w w1) := hb1; clear hb1)
    | (go_at_call 41; refine (CT.out _ HB1.out).mono ?_; rintro e w2 ⟨hw, rfl⟩; obtain rfl := hw.symm)
    | fail)
  go_ret
  exact ⟨rfl, HB1.out⟩
theorem own_cell {lo e n m c : Nat} {w : World} {p : Option Addr} {xs : List Value} (h : w.ownsRow lo e 1 (.slice p m c) n xs) {k : Nat} {u : Value} (hk : xs[k]? = some u) : ∃ g, p = some ⟨g, 0, none⟩ ∧ g < w.heap.size ∧ w.cell? ⟨g, k, none⟩ = some u := by
  have hkl := (List.getElem?_eq_some_iff.1 hk).1
  obtain ⟨h0, hrow⟩ := id h
  rcases hrow with ⟨e, hz⟩ | ⟨g, cap, cur, e, h3, h4, _⟩
  · rw [hz] at h0; rw [h0] at hkl; exact absurd hkl (by omega)
  · injection e with e1 _ _
    subst e1
    refine ⟨g, rfl, (Array.getElem?_eq_some_iff.1 h4).1, ?_⟩
    have := World.ownsRow.cells (g := g) h rfl k u hk
    rw [Addr.add_lit, Nat.zero_add] at this
    exact this
theorem ptrs_get {bs : List Nat} {k b : Nat} (h : bs[k]? = some b) : (ptrs bs)[k]? = some (.pointer (some ⟨b, 0, none⟩)) := by unfold ptrs; rw [List.getElem?_map, h]; rfl
set_option maxRecDepth 100000 in
theorem rmClient_ok {lo : Nat} {w : World} {r bx bmx : Nat} {bs : List Nat} {R : Rm} (h : isRoom lo w r bx bmx bs R) {k b : Nat} (hb : bs[k]? = some b) (hm : bs.length ≤ 1000) :
    Calls Tryz.prog 62 #[.pointer (some ⟨r, 0, none⟩), .int .i64 (k : Int)] w fun e w' => e = .returned (.tuple #[.pointer (some ⟨b, 0, none⟩), .nilIface]) ∧ Below w.heap.size w w' := by
  have C : Hid _ := rmNow_any h
  have hk : k < bs.length := (List.getElem?_eq_some_iff.1 hb).1
  have HB0 : Hid (bs[k]? = some b) := hb
  have hk1 : (k : Int) < (bs.length : Int) := by omega
  have hk2 : ¬ (bs.length : Int) ≤ (k : Int) := by omega
  have hk3 : ¬ (k : Int) < 0 := by omega
  have hk4 : (bs.length : Int) ≤ 1000 := by omega
  clear h hb
  go_enter Tryz.func62, Tryz.ntmps62
  go_wp2_with (first
    | (go_at_call 128; refine Calls.mono C.out ?_
       rintro e w1 ⟨pc, cc, pf, cf, rfl, h3, _, hb1⟩
       have HB1 : Hid (Below w.heap.size w w1) := hb1
       obtain ⟨g, epc, hgl, hgc0⟩ := own_cell h3 (ptrs_get HB0.out)
       subst epc
       have hgc : w1.cell? ⟨g, k, none⟩ = some (.pointer (some ⟨b, 0, none⟩)) := (hb1.cell (p := ⟨g, k, none⟩) hgl).trans hgc0
       clear hb1 h3 hgc0)
    | fail)
  go_ret2
  exact ⟨rfl, HB1.out⟩
end Go.Proofs.YtedgnlgjmnccgabGreatDoor
