/-
  rosettakeep's document and over: an operation in bytes that never cuts a rune of its text, or none.
-/
import Derived.Test.YtldhbjmillfjgabGreatDoorBridge
import Derived.Test.YtldhbjmillfjgabGreatDoorRope
import Derived.Test.YtldhbjmillfjgabGreatDoorOpsGoodT
import Derived.Test.YtldhbjmillfjgabGreatDoorBackPure
namespace Go.Proofs.YtldhbjmillfjgabGreatDoor
open Go.RowKit
set_option linter.unusedVariables false
attribute [local go_sem] Oper.semAt_some

set_option maxHeartbeats 1000000 in
theorem new_bad (s : List UInt8) (hs : s.length ≤ 100000) (hsc : (scan s).2 = false) (w : World) (hT : Lib.Utf8Tabs 2 3 w) :
    Calls Tryz.prog 9 #[.string ⟨s.toArray⟩] w fun e w' => ∃ bx, e = .returned (.tuple #[.pointer none, .iface 233 (.pointer (some ⟨bx, 0, none⟩))]) ∧ Below w.heap.size w w' := by
  have c := Count_any ⟨s.toArray⟩ (by simp [ByteArray.size]; omega) w hT
  have C : Hid (Calls Tryz.prog 59 #[.string ⟨s.toArray⟩] w fun e w' => ∃ n1 n2 n3 n4 bx, e = .returned (.tuple #[.agg #[.int .i64 n1, .int .i64 n2, .int .i64 n3, .int .i64 n4], .iface 233 (.pointer (some ⟨bx, 0, none⟩))]) ∧ Below w.heap.size w w') := Calls.mono c fun e w' h => by
    obtain ⟨v, x, rfl, hb, ⟨h0, _⟩ | ⟨_, rfl, bx, rfl, _⟩⟩ := h
    · rw [show (ByteArray.mk s.toArray).data.toList = s from rfl, hsc] at h0; cases h0
    · exact ⟨_, _, _, _, bx, rfl, hb⟩
  clear c hT hsc
  go_enter Tryz.func9, Tryz.ntmps9
  go_wp2_with (first
    | (go_at_call 59; refine Calls.mono C.out ?_; rintro e w1 ⟨n1, n2, n3, n4, bx, rfl, hb1⟩)
    | fail)
  go_ret2
  exact ⟨bx, rfl, hb1.alloc hb1.size _⟩

/-- A document of a text, or none. -/
def isDoc (s : List UInt8) : Prop := (scan s).2 = true ∧ s.length ≤ 1500
set_option maxHeartbeats 1000000 in
theorem document_none (s : List UInt8) (h : ¬ isDoc s) (w : World) (hT : Lib.Utf8Tabs 2 3 w) :
    Calls Tryz.prog 17 #[.string ⟨s.toArray⟩] w fun e w' => e = .returned (.pointer none) ∧ Below w.heap.size w w' := by
  have hz : (ByteArray.mk s.toArray).size = s.length := by simp [ByteArray.size]
  by_cases hs : 1500 < s.length
  · have hs' : (1500 : Int) < (s.length : Int) := by omega
    clear hT h
    go_enter Tryz.func17, Tryz.ntmps17
    go_wp2
    go_ret
    exact ⟨rfl, Below.refl _ _⟩
  · have hs' : ¬ (1500 : Int) < (s.length : Int) := by omega
    have hsc : (scan s).2 = false := Bool.eq_false_iff.2 fun e => h ⟨e, by omega⟩
    have C : Hid _ := new_bad s (by omega) hsc w hT
    clear hT h hsc
    go_enter Tryz.func17, Tryz.ntmps17
    go_wp2_with (first
      | (go_at_call 9; refine Calls.mono C.out ?_; rintro e w1 ⟨bx, rfl, hb1⟩)
      | fail)
    go_ret
    exact ⟨rfl, hb1⟩
set_option maxHeartbeats 1000000 in
theorem document_some (s : List UInt8) (h : isDoc s) (w : World) (hT : Lib.Utf8Tabs 2 3 w) :
    Calls Tryz.prog 17 #[.string ⟨s.toArray⟩] w fun e w' => ∃ b, e = .returned (.pointer (some ⟨b, 0, none⟩)) ∧ isRope w' b (runesOf s) ∧ Below w.heap.size w w' := by
  obtain ⟨h1, h2⟩ := h
  have hz : (ByteArray.mk s.toArray).size = s.length := by simp [ByteArray.size]
  have hs' : ¬ (1500 : Int) < (s.length : Int) := by omega
  have e1 : bytesOf (runesOf s) = ⟨s.toArray⟩ := by unfold bytesOf; rw [encs_runesOf h1]
  have hC1 : C1 (runesOf s) = s.length := by rw [C1_len, encs_runesOf h1]
  have c := new_good (runesOf s) (fun r hr => runesOf_rune hr) (by omega) w hT
  rw [e1] at c
  have C : Hid _ := c
  clear c hT h1 e1 hC1
  go_enter Tryz.func17, Tryz.ntmps17
  go_wp2_with (first
    | (go_at_call 9; refine Calls.mono C.out ?_; rintro e w1 ⟨b, rfl, hlo, hR, hb1⟩; have HR : Hid (isRope w1 b (runesOf s)) := hR; clear hR)
    | fail)
  go_ret
  exact ⟨b, rfl, HR.out, hb1⟩

theorem field2c (a b c d : Int) (w : World) : (Instr.field 25 (.agg #[.int .i64 a, .int .i64 b, .int .i64 c, .int .i64 d]) 2).run Tryz.prog w = .ok (.int .i64 c) w := by kernel_rfl
attribute [local go_sem] field2c
end Go.Proofs.YtldhbjmillfjgabGreatDoor
