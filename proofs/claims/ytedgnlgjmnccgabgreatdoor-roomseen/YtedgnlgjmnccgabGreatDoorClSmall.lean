/-
  A client's readers: now, Text, Unit, Rev, Seen, Pending, Dropped.
-/
import Derived.Test.YtedgnlgjmnccgabGreatDoorClMem
namespace Go.Proofs.YtedgnlgjmnccgabGreatDoor
open Go.RowKit Go.Maps
set_option linter.unusedVariables false
attribute [local go_sem] Oper.semAt_some

set_option maxRecDepth 100000 in
theorem clNow_any {lo : Nat} {w : World} {b : Nat} {who u : Int} {S : Cl} (h : isCl lo w b who u S) :
    Calls Tryz.prog 127 #[.pointer (some ⟨b, 0, none⟩)] w fun e w' => ∃ p c, e = .returned (.agg #[.int .i64 who, .int .i64 u, .int .i64 S.rev, .string ⟨S.seen.toArray⟩, .slice p S.mine.length c, .string ⟨S.doc.toArray⟩, .int .i64 S.id, .int .i64 S.drops]) ∧ isMine lo w (.slice p S.mine.length c) S.mine ∧ Below w.heap.size w w' := by
  obtain ⟨_, vm, h3, h4⟩ := h
  obtain ⟨p, c, rfl⟩ := isMine_shape h4
  have H4 : Hid _ := h4
  have hbw : b < w.heap.size := (Array.getElem?_eq_some_iff.1 h3).1
  unfold clCells at h3
  have x0 : w.cell? ⟨b, 0, none⟩ = some (.int .i64 who) := Lib.cell_of_heap h3 0
  have x1 : w.cell? ⟨b, 1, none⟩ = some (.int .i64 u) := Lib.cell_of_heap h3 1
  have x2 : w.cell? ⟨b, 2, none⟩ = some (.int .i64 S.rev) := Lib.cell_of_heap h3 2
  have x3 : w.cell? ⟨b, 3, none⟩ = some (.string ⟨S.seen.toArray⟩) := Lib.cell_of_heap h3 3
  have x4 : w.cell? ⟨b, 4, none⟩ = some (.slice p S.mine.length c) := Lib.cell_of_heap h3 4
  have x5 : w.cell? ⟨b, 5, none⟩ = some (.string ⟨S.doc.toArray⟩) := Lib.cell_of_heap h3 5
  have x6 : w.cell? ⟨b, 6, none⟩ = some (.int .i64 S.id) := Lib.cell_of_heap h3 6
  have x7 : w.cell? ⟨b, 7, none⟩ = some (.int .i64 S.drops) := Lib.cell_of_heap h3 7
  clear h3 h4
  have HF : Hid (b < w.heap.size) := hbw
  go_enter Tryz.func127, Tryz.ntmps127
  go_wp2
  refine bodyPost_ret (v := .agg #[.int .i64 who, .int .i64 u, .int .i64 S.rev, .string ⟨S.seen.toArray⟩, .slice p S.mine.length c, .string ⟨S.doc.toArray⟩, .int .i64 S.id, .int .i64 S.drops]) (by simp [results, Tryz.results127, go_sem]) rfl ⟨_, _, rfl, H4.out, ?_⟩
  exact (Below.refl _ _).alloc (Nat.le_refl _) _
theorem clF1 (a b c d e : Int) (s t : ByteArray) (p : Option Addr) (n m : Nat) (w : World) : (Instr.field 203 (.agg #[.int .i64 a, .int .i64 b, .int .i64 c, .string s, .slice p n m, .string t, .int .i64 d, .int .i64 e]) 1).run Tryz.prog w = .ok (.int .i64 b) w := by kernel_rfl
theorem clF2 (a b c d e : Int) (s t : ByteArray) (p : Option Addr) (n m : Nat) (w : World) : (Instr.field 203 (.agg #[.int .i64 a, .int .i64 b, .int .i64 c, .string s, .slice p n m, .string t, .int .i64 d, .int .i64 e]) 2).run Tryz.prog w = .ok (.int .i64 c) w := by kernel_rfl
theorem clF3 (a b c d e : Int) (s t : ByteArray) (p : Option Addr) (n m : Nat) (w : World) : (Instr.field 203 (.agg #[.int .i64 a, .int .i64 b, .int .i64 c, .string s, .slice p n m, .string t, .int .i64 d, .int .i64 e]) 3).run Tryz.prog w = .ok (.string s) w := by kernel_rfl
theorem clF4 (a b c d e : Int) (s t : ByteArray) (p : Option Addr) (n m : Nat) (w : World) : (Instr.field 203 (.agg #[.int .i64 a, .int .i64 b, .int .i64 c, .string s, .slice p n m, .string t, .int .i64 d, .int .i64 e]) 4).run Tryz.prog w = .ok (.slice p n m) w := by kernel_rfl
theorem clF5 (a b c d e : Int) (s t : ByteArray) (p : Option Addr) (n m : Nat) (w : World) : (Instr.field 203 (.agg #[.int .i64 a, .int .i64 b, .int .i64 c, .string s, .slice p n m, .string t, .int .i64 d, .int .i64 e]) 5).run Tryz.prog w = .ok (.string t) w := by kernel_rfl
theorem clF7 (a b c d e : Int) (s t : ByteArray) (p : Option Addr) (n m : Nat) (w : World) : (Instr.field 203 (.agg #[.int .i64 a, .int .i64 b, .int .i64 c, .string s, .slice p n m, .string t, .int .i64 d, .int .i64 e]) 7).run Tryz.prog w = .ok (.int .i64 e) w := by kernel_rfl
attribute [local go_sem] clF1 clF2 clF3 clF4 clF5 clF7
set_option maxRecDepth 100000 in
theorem clText_any {lo : Nat} {w : World} {b : Nat} {who u : Int} {S : Cl} (h : isCl lo w b who u S) :
    Calls Tryz.prog 54 #[.pointer (some ⟨b, 0, none⟩)] w fun e w' => e = .returned (.string ⟨S.doc.toArray⟩) ∧ Below w.heap.size w w' := by
  have C : Hid _ := clNow_any h
  clear h
  go_enter Tryz.func54, Tryz.ntmps54
  go_wp2_with (first | (go_at_call 127; refine Calls.mono C.out ?_; rintro e w1 ⟨pm, cm, rfl, hm, hb1⟩; have HB1 : Hid (Below w.heap.size w w1) := hb1; clear hm hb1) | fail)
  go_ret
  exact ⟨rfl, HB1.out⟩
set_option maxRecDepth 100000 in
theorem clSeen_any {lo : Nat} {w : World} {b : Nat} {who u : Int} {S : Cl} (h : isCl lo w b who u S) :
    Calls Tryz.prog 55 #[.pointer (some ⟨b, 0, none⟩)] w fun e w' => e = .returned (.string ⟨S.seen.toArray⟩) ∧ Below w.heap.size w w' := by
  have C : Hid _ := clNow_any h
  clear h
  go_enter Tryz.func55, Tryz.ntmps55
  go_wp2_with (first | (go_at_call 127; refine Calls.mono C.out ?_; rintro e w1 ⟨pm, cm, rfl, hm, hb1⟩; have HB1 : Hid (Below w.heap.size w w1) := hb1; clear hm hb1) | fail)
  go_ret
  exact ⟨rfl, HB1.out⟩
set_option maxRecDepth 100000 in
theorem clUnit_any {lo : Nat} {w : World} {b : Nat} {who u : Int} {S : Cl} (h : isCl lo w b who u S) :
    Calls Tryz.prog 57 #[.pointer (some ⟨b, 0, none⟩)] w fun e w' => e = .returned (.int .i64 u) ∧ Below w.heap.size w w' := by
  have C : Hid _ := clNow_any h
  clear h
  go_enter Tryz.func57, Tryz.ntmps57
  go_wp2_with (first | (go_at_call 127; refine Calls.mono C.out ?_; rintro e w1 ⟨pm, cm, rfl, hm, hb1⟩; have HB1 : Hid (Below w.heap.size w w1) := hb1; clear hm hb1) | fail)
  go_ret
  exact ⟨rfl, HB1.out⟩
set_option maxRecDepth 100000 in
theorem clRev_any {lo : Nat} {w : World} {b : Nat} {who u : Int} {S : Cl} (h : isCl lo w b who u S) :
    Calls Tryz.prog 56 #[.pointer (some ⟨b, 0, none⟩)] w fun e w' => e = .returned (.int .i64 S.rev) ∧ Below w.heap.size w w' := by
  have C : Hid _ := clNow_any h
  clear h
  go_enter Tryz.func56, Tryz.ntmps56
  go_wp2_with (first | (go_at_call 127; refine Calls.mono C.out ?_; rintro e w1 ⟨pm, cm, rfl, hm, hb1⟩; have HB1 : Hid (Below w.heap.size w w1) := hb1; clear hm hb1) | fail)
  go_ret
  exact ⟨rfl, HB1.out⟩
set_option maxRecDepth 100000 in
theorem clPending_any {lo : Nat} {w : World} {b : Nat} {who u : Int} {S : Cl} (h : isCl lo w b who u S) :
    Calls Tryz.prog 58 #[.pointer (some ⟨b, 0, none⟩)] w fun e w' => e = .returned (.bool (decide (0 < S.mine.length))) ∧ Below w.heap.size w w' := by
  have C : Hid _ := clNow_any h
  clear h
  go_enter Tryz.func58, Tryz.ntmps58
  go_wp2_with (first | (go_at_call 127; refine Calls.mono C.out ?_; rintro e w1 ⟨pm, cm, rfl, hm, hb1⟩; have HB1 : Hid (Below w.heap.size w w1) := hb1; clear hm hb1) | fail)
  go_ret
  exact ⟨by simp, HB1.out⟩
end Go.Proofs.YtedgnlgjmnccgabGreatDoor
