/-
  server.New.
-/
import Derived.Test.YtedgnlgjmnccgabGreatDoorSrvLog
import Derived.Test.YtedgnlgjmnccgabGreatDoorUtf
namespace Go.Proofs.YtedgnlgjmnccgabGreatDoor
open Go.RowKit Go.Maps
set_option linter.unusedVariables false
attribute [local go_sem] Oper.semAt_some
theorem srvMakeMap (t : TypeId) (w : World) : (Instr.makeMap t none).run Tryz.prog w = .ok (.map (some w.heap.size)) (w.alloc (.map #[] 0)) := rfl
attribute [local go_sem] srvMakeMap

theorem srvNew_count (s : List UInt8) (hs : s.length ≤ 1000000) (hsc : (scan s).2 = true) (w : World) (hT : Lib.Utf8Tabs 2 3 w) : Calls Tryz.prog 78 #[.string ⟨s.toArray⟩] w fun e w' => ∃ n1 n2 n3 n4, e = .returned (.tuple #[.agg #[.int .i64 n1, .int .i64 n2, .int .i64 n3, .int .i64 n4], .nilIface]) ∧ Below w.heap.size w w' :=
  (Count_any ⟨s.toArray⟩ (by simp [ByteArray.size]; omega) w hT).mono fun e w' ⟨v, x, h1, h2, h3⟩ => by
    have e0 : (ByteArray.mk s.toArray).data.toList = s := rfl
    rw [e0] at h3
    rcases h3 with ⟨_, rfl, rfl⟩ | ⟨h4, _⟩
    · exact ⟨_, _, _, _, h1, h2⟩
    · rw [hsc] at h4; cases h4
set_option maxRecDepth 100000 in
set_option maxHeartbeats 1000000 in
theorem srvNew_good (lo : Nat) (s : List UInt8) (hz : s.length ≤ 2000) (hsc : (scan s).2 = true) (w : World) (hlo : lo ≤ w.heap.size) (hT : Lib.Utf8Tabs 2 3 w) : Calls Tryz.prog 36 #[.string ⟨s.toArray⟩] w fun e w' => ∃ b bm, e = .returned (.tuple #[.pointer (some ⟨b, 0, none⟩), .nilIface]) ∧ isSrv lo 0 w' b bm s [] (fun _ => none) ∧ bm < w'.heap.size ∧ Below w.heap.size w w' := by
  have cC : Hid _ := srvNew_count s (by omega) hsc w hT
  have CL : Hid (∀ wx, Calls Tryz.prog 112 #[.string ⟨s.toArray⟩] wx fun e w' => e = .returned (.string ⟨s.toArray⟩) ∧ Below wx.heap.size wx w') := fun wx => cloneS_any s (by omega) wx
  have hz1 : (ByteArray.mk s.toArray).size = s.length := by simp [ByteArray.size]
  have hz2 : ¬ (2000 : Int) < (s.length : Int) := by omega
  have HLO : Hid (lo ≤ w.heap.size) := hlo
  clear hT hsc hz hlo
  go_enter Tryz.func36, Tryz.ntmps36
  go_wp2_with (first
    | (go_at_call 78; refine Calls.mono cC.out ?_; rintro e w1 ⟨n1, n2, n3, n4, rfl, hb1⟩; have HB1 : Hid (Below w.heap.size w w1) := hb1; clear hb1)
    | (go_at_call 112; refine (CL.out _).mono ?_; rintro e w2 ⟨rfl, hb2⟩; have HB2 : Hid (Below w.heap.size w w2) := (HB1.out.alloc HB1.out.size _).trans (hb2.mono (by rw [World.size_alloc]; have := HB1.out.size; omega)); clear hb2)
    | fail)
  go_ret2
  have hs2 := HB2.out.size
  have hl2 := HLO.out
  have hA : Below (w2.alloc (.map #[] 0)).heap.size (w2.alloc (.map #[] 0)) ((w2.alloc (.map #[] 0)).alloc (.cells #[.string ⟨s.toArray⟩, .slice none 0 0, .map (some w2.heap.size)] 196)) := (Below.refl _ _).alloc (Nat.le_refl _) _
  have hnew := heap_alloc_new (w2.alloc (.map #[] 0)) (.cells #[.string ⟨s.toArray⟩, .slice none 0 0, .map (some w2.heap.size)] 196)
  rw [World.size_alloc] at hnew
  exact ⟨w2.heap.size + 1, w2.heap.size, rfl, ⟨by omega, by omega, ⟨_, hnew, isLog_nil _ _ _ _⟩, isLast_but (S := fun _ => False) (isLast_made w2) (sameBut_below hA _) id⟩, by simp; omega, (HB2.out.alloc HB2.out.size _).alloc (by rw [World.size_alloc]; omega) _⟩
end Go.Proofs.YtedgnlgjmnccgabGreatDoor
