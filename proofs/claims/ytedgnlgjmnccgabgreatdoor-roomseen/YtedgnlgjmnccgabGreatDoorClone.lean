/-
  strings.Clone: the same bytes: the library's contract for its one callee, met at this program; rope.chunkOf.
-/
import Derived.Test.YtedgnlgjmnccgabGreatDoorTreePure
import Derived.Test.YtedgnlgjmnccgabGreatDoorUtf
import Derived.Shelf.Pu.Clone
namespace Go.Proofs.YtedgnlgjmnccgabGreatDoor
open Go.RowKit
set_option linter.unusedVariables false
attribute [local go_sem] yieldsUpon okUpon

theorem count_of (rs : List Nat) (hr : ∀ r ∈ rs, isRune r) (hz : C1 rs ≤ 300000000) (w : World) (hT : Lib.Utf8Tabs 2 3 w) :
    Calls Tryz.prog 78 #[.string (bytesOf rs)] w fun e w' => e = .returned (.tuple #[.agg #[.int .i64 (C1 rs), .int .i64 (C2 rs), .int .i64 (C3 rs), .int .i64 (C4 rs)], .nilIface]) ∧ Below w.heap.size w w' := by
  have hs : (bytesOf rs).size < 400000000 := by rw [bytesOf_size]; rw [C1_len] at hz; omega
  have hsc : scan (bytesOf rs).data.toList = (wide rs, true) := by rw [bytesOf_list]; exact scan_encs rs hr
  refine (Count_any _ hs w hT).mono ?_
  rintro e w' ⟨v, x, rfl, hb, ⟨_, rfl, rfl⟩ | ⟨h, _⟩⟩
  · refine ⟨?_, hb⟩
    rw [hsc]
    have e3 : ((wide rs).length : Int) = C3 rs := by simp [wide, C3]
    simp only [e3]
    rfl
  · rw [hsc] at h; cases h
end Go.Proofs.YtedgnlgjmnccgabGreatDoor
