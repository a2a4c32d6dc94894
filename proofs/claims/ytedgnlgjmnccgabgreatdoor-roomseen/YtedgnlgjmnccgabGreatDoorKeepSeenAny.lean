/-
  rosettakeep.RoomSeen at every argument.
-/
import Derived.Test.YtedgnlgjmnccgabGreatDoorKeepSeen
namespace Go.Proofs.YtedgnlgjmnccgabGreatDoor
open Go.RowKit Go.Maps
set_option linter.unusedVariables false

set_option maxRecDepth 100000 in
set_option maxHeartbeats 2000000 in
theorem seen_long (s : List UInt8) (v1 v2 : Value) (zs : List Int) (l : List Sa) (w : World) (h1 : intsAt w v1 zs) (h2 : saysAt w v2 l) (h : 500 < s.length ∨ 60 < l.length ∨ zs.length < 1 ∨ 5 < zs.length) :
    Calls Tryz.prog 9 #[.string ⟨s.toArray⟩, v1, v2] w fun e w' => e = .returned (.bool true) ∧ Below w.heap.size w w' := by
  have hz : (ByteArray.mk s.toArray).size = s.length := by simp [ByteArray.size]
  obtain ⟨p1, c1, rfl, a1, a2, _⟩ := h1
  obtain ⟨p2, c2, rfl, d1, d2, _⟩ := h2
  unfold maxLen at a2 d2
  by_cases q1 : 500 < s.length
  · have q1' : (500 : Int) < (s.length : Int) := by omega
    clear h q1
    go_enter Tryz.func9, Tryz.ntmps9
    go_wp2
    go_ret
    exact ⟨rfl, Below.refl _ _⟩
  have q1' : ¬ (500 : Int) < (s.length : Int) := by omega
  by_cases q2 : 60 < l.length
  · have q2' : (60 : Int) < (l.length : Int) := by omega
    clear h q1 q2
    go_enter Tryz.func9, Tryz.ntmps9
    go_wp2
    go_ret
    exact ⟨rfl, Below.refl _ _⟩
  have q2' : ¬ (60 : Int) < (l.length : Int) := by omega
  by_cases q3 : zs.length < 1
  · have q3' : (zs.length : Int) < 1 := by omega
    clear h q1 q2 q3
    go_enter Tryz.func9, Tryz.ntmps9
    go_wp2
    go_ret
    exact ⟨rfl, Below.refl _ _⟩
  · have q3' : ¬ (zs.length : Int) < 1 := by omega
    have q4' : (5 : Int) < (zs.length : Int) := by omega
    clear h q1 q2 q3
    go_enter Tryz.func9, Tryz.ntmps9
    go_wp2
    go_ret
    exact ⟨rfl, Below.refl _ _⟩
set_option maxRecDepth 100000 in
set_option maxHeartbeats 2000000 in
theorem seen_bad (s : List UInt8) (v1 v2 : Value) (zs : List Int) (l : List Sa) (w : World) (he : Env w.heap.size w) (h1 : intsAt w v1 zs) (h2 : saysAt w v2 l) (hs : s.length ≤ 500) (hz1 : 1 ≤ zs.length) (hz6 : zs.length ≤ 5) (hl : l.length ≤ 60) (hsc : (scan s).2 = false) :
    Calls Tryz.prog 9 #[.string ⟨s.toArray⟩, v1, v2] w fun e w' => e = .returned (.bool true) ∧ Below w.heap.size w w' := by
  have hz : (ByteArray.mk s.toArray).size = s.length := by simp [ByteArray.size]
  obtain ⟨p1, c1, rfl, a1, a2, _⟩ := h1
  obtain ⟨p2, c2, rfl, d1, d2, _⟩ := h2
  unfold maxLen at a2 d2
  have q1 : ¬ (500 : Int) < (s.length : Int) := by omega
  have q2 : ¬ (60 : Int) < (l.length : Int) := by omega
  have q3 : ¬ (zs.length : Int) < 1 := by omega
  have q4 : ¬ (5 : Int) < (zs.length : Int) := by omega
  have CM : Hid (Calls Tryz.prog 77 #[] w fun e w' => e = .returned (.bool true) ∧ Below w.heap.size w w') := met_any w he
  have CC : Hid (∀ wx, Below w.heap.size w wx → Calls Tryz.prog 78 #[.string ⟨s.toArray⟩] wx fun e w' => ∃ b, e = .returned (.tuple #[.agg #[.int .i64 0, .int .i64 0, .int .i64 0, .int .i64 0], .iface 273 (.pointer (some ⟨b, 0, none⟩))]) ∧ Below wx.heap.size wx w') := fun wx hb => count_badK s (by omega) hsc wx (he.below hb).tabs
  clear he hsc hs hl hz1 hz6
  go_enter Tryz.func9, Tryz.ntmps9
  go_wp2_with (first
    | (go_at_call 77; refine Calls.mono CM.out ?_; rintro e w1 ⟨rfl, hb1⟩; have HW1 : Hid (Below w.heap.size w w1) := hb1; clear hb1)
    | (go_at_call 78; refine (CC.out _ HW1.out).mono ?_; rintro e w2 ⟨b, rfl, hb2⟩; have HW2 : Hid (∀ o, Below w.heap.size w (w2.alloc o)) := fun o => (HW1.out.trans (hb2.mono HW1.out.size)).alloc (Nat.le_trans HW1.out.size hb2.size) o; clear hb2)
    | fail)
  go_ret
  exact ⟨rfl, HW2.out _⟩
theorem roomSeen_any (s : ByteArray) (v1 v2 : Value) (zs : List Int) (l : List Sa) (w : World) (hg : asLaid w) (hT : Lib.Utf8Tabs 2 3 w) (h1 : intsAt w v1 zs) (hzn : ∀ z ∈ zs, isNum z) (h2 : saysAt w v2 l) (hwf : ∀ q ∈ l, sayWf q) :
    Calls Tryz.prog 9 #[.string s, v1, v2] w fun e w' => e = .returned (.bool true) ∧ Below w.heap.size w w' := by
  have es : (ByteArray.mk s.data.toList.toArray) = s := by cases s; simp
  rw [← es]
  generalize s.data.toList = t
  by_cases h : 500 < t.length ∨ 60 < l.length ∨ zs.length < 1 ∨ 5 < zs.length
  · exact seen_long t v1 v2 zs l w h1 h2 h
  · have he := env_of w hg hT
    by_cases hsc : (scan t).2 = true
    · exact seen_good t v1 v2 zs l w he h1 hzn h2 hwf (by omega) (by omega) (by omega) (by omega) (V_of_scan hsc)
    · exact seen_bad t v1 v2 zs l w he h1 h2 (by omega) (by omega) (by omega) (by omega) (by simpa using hsc)
end Go.Proofs.YtedgnlgjmnccgabGreatDoor
