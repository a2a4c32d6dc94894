/-
  rosettalaw.ShapePlays, at every argument.
-/
import Derived.Test.YtldhbjmillfjgabGreatDoorShapeGood
namespace Go.Proofs.YtldhbjmillfjgabGreatDoor
open Go.RowKit
set_option linter.unusedVariables false

theorem shapePlays_any (u : Int) (s : ByteArray) (v : Value) (l : List (List Pt)) (w : World) (hg : asLaid w) (hT : Lib.Utf8Tabs 2 3 w) (hr : opsAt w v l) (hwf : ∀ q ∈ l, smallWf q) :
    Calls Tryz.prog 5 #[.int .i64 u, .string s, v] w fun e w' => e = .returned (.bool true) ∧ Below w.heap.size w w' := by
  have es : (ByteArray.mk s.data.toList.toArray) = s := by cases s; simp
  rw [← es]
  generalize s.data.toList = t
  by_cases h : 400 < t.length ∨ 12 < l.length
  · exact shapeLaw_long u t v l w hr h
  · have h1 : t.length ≤ 400 := by omega
    have h2 : l.length ≤ 12 := by omega
    by_cases hu : unitOk u
    · obtain ⟨n, hn, hun⟩ : ∃ n : Nat, u = (n : Int) ∧ unitN n := by
        rcases hu with rfl | rfl | rfl
        · exact ⟨1, rfl, .inl rfl⟩
        · exact ⟨2, rfl, .inr (.inl rfl)⟩
        · exact ⟨3, rfl, .inr (.inr rfl)⟩
      subst hn
      by_cases hsc : (scan t).2 = true
      · have he : encs (runesOf t) = t := encs_runesOf hsc
        have hb : (ByteArray.mk t.toArray) = bytesOf (runesOf t) := by unfold bytesOf; rw [he]
        rw [hb]
        exact shapeLaw_good n hun (runesOf t) (fun r hr => runesOf_rune hr) (by rw [C1_len, he]; omega) v l w hg hT hr hwf h2
      · exact shapeLaw_text n hun t v l w hg hT hr h1 h2 (by simpa using hsc)
    · exact shapeLaw_unit u t v l w hg hr h1 h2 hu
end Go.Proofs.YtldhbjmillfjgabGreatDoor
