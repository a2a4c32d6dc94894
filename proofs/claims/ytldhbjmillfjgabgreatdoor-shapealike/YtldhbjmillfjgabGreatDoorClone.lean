/-
  strings.Clone: the same bytes: the library's contract for its one callee, met at this program; rope.chunkOf.
-/
import Derived.Test.YtldhbjmillfjgabGreatDoorJoin
import Derived.Test.YtldhbjmillfjgabGreatDoorUtf
import Derived.Shelf.Pu.Clone
namespace Go.Proofs.YtldhbjmillfjgabGreatDoor
open Go.RowKit
set_option linter.unusedVariables false
attribute [local go_sem] yieldsUpon okUpon

def cloneRen : Go.Shelf.Ren := ⟨fun | 25 => 140 | n => n, fun | 9 => 9 | 5 => 5 | 3 => 3 | 4 => 4 | 37 => 130 | 47 => 232 | 0 => 0 | n => n, fun | n => n⟩
theorem cloneLays : Go.Proofs.LaysPu.n25 Tryz.prog cloneRen := {
  mixed := by kernel_rfl
  f25 := Tryz.func140.trans (congrArg some (by kernel_rfl))
  t0 := by kernel_rfl
  a0 := fun _ => by kernel_rfl
  z0 := fun _ => by kernel_rfl
  v0 := fun _ => by kernel_rfl
  i0 := by kernel_rfl
  t3 := by kernel_rfl
  a3 := fun _ => by kernel_rfl
  z3 := fun _ => by kernel_rfl
  v3 := fun _ => by kernel_rfl
  i3 := by kernel_rfl
  t4 := by kernel_rfl
  a4 := fun _ => by kernel_rfl
  z4 := fun _ => by kernel_rfl
  v4 := fun _ => by kernel_rfl
  i4 := by kernel_rfl
  t5 := by kernel_rfl
  a5 := fun _ => by kernel_rfl
  z5 := fun _ => by kernel_rfl
  v5 := fun _ => by kernel_rfl
  i5 := by kernel_rfl
  t9 := by kernel_rfl
  a9 := fun _ => by kernel_rfl
  z9 := fun _ => by kernel_rfl
  v9 := fun _ => by kernel_rfl
  i9 := by kernel_rfl
  t37 := by kernel_rfl
  a37 := fun _ => by kernel_rfl
  z37 := fun _ => by kernel_rfl
  v37 := fun _ => by kernel_rfl
  i37 := by kernel_rfl
  t47 := by kernel_rfl
  a47 := fun _ => by kernel_rfl
  z47 := fun _ => by kernel_rfl
  v47 := fun _ => by kernel_rfl
  i47 := by kernel_rfl }

theorem Clone_any (s : ByteArray) (w : World) (hs : s.size ≤ 281474976710656) : Calls Tryz.prog 88 #[.string s] w fun e w' => e = .returned (.string s) ∧ Below w.heap.size w w' := by
  have c := Go.Proofs.AnyPu.stringslite_Clone cloneLays s w hs
  have c2 : Calls Tryz.prog 140 #[.string s] w fun e w' => e = .returned (.string s) ∧ Below w.heap.size w w' := c
  go_enter Tryz.func88, Tryz.ntmps88
  go_wp2_with (first | (go_at_call 140; refine c2.mono ?_; rintro e w1 ⟨rfl, hb1⟩) | fail)
  go_ret
  exact ⟨rfl, hb1⟩

theorem count_of (rs : List Nat) (hr : ∀ r ∈ rs, isRune r) (hz : C1 rs ≤ 300000000) (w : World) (hT : Lib.Utf8Tabs 2 3 w) :
    Calls Tryz.prog 59 #[.string (bytesOf rs)] w fun e w' => e = .returned (.tuple #[.agg #[.int .i64 (C1 rs), .int .i64 (C2 rs), .int .i64 (C3 rs), .int .i64 (C4 rs)], .nilIface]) ∧ Below w.heap.size w w' := by
  have hs : (bytesOf rs).size < 400000000 := by rw [bytesOf_size]; rw [C1_len] at hz; omega
  have hsc : scan (bytesOf rs).data.toList = (wide rs, true) := by rw [bytesOf_list]; exact scan_encs rs hr
  refine (Count_any _ hs w hT).mono ?_
  rintro e w' ⟨v, x, rfl, hb, ⟨_, rfl, rfl⟩ | ⟨h, _⟩⟩
  · refine ⟨?_, hb⟩
    rw [hsc]
    have e3 : ((wide rs).length : Int) = C3 rs := by simp [wide, C3]
    simp only [e3]
    rfl
  · rw [hsc] at h; cases h
end Go.Proofs.YtldhbjmillfjgabGreatDoor
