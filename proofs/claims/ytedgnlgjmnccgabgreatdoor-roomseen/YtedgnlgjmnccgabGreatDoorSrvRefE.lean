/-
  The document's server: Take.
-/
import Derived.Test.YtedgnlgjmnccgabGreatDoorSrvRefA
import Derived.Test.YtedgnlgjmnccgabGreatDoorSrvPush
import Derived.Test.YtedgnlgjmnccgabGreatDoorOpsGather
import Derived.Laws.EntriesVeiled
import Derived.Test.YtedgnlgjmnccgabGreatDoorOpsBoth
import Derived.Deep.LoopGhost
import Derived.Test.YtedgnlgjmnccgabGreatDoorOpsTransE
import Derived.Deep.Cut
import Derived.Test.YtedgnlgjmnccgabGreatDoorSrvDo2
namespace Go.Proofs.YtedgnlgjmnccgabGreatDoor
open Go.RowKit Go.Maps
set_option linter.unusedVariables false
attribute [local go_sem] Oper.semAt_some

def doD (l0 : Int) (t : List UInt8) (E : List SE) (D : List (List UInt8)) (rev : Int) (ps : List Pt) : List (List UInt8) := if doE l0 t E rev ps = 0 then D ++ [applyP (turnS ps (E.drop rev.toNat)) t] else D
/-- The documents that there were, and the one that comes. -/
theorem okD_next {l0 : Int} {t : List UInt8} {E : List SE} {D : List (List UInt8)} (h : okS l0 t E) (hD : okD l0 t E D) {ps : List Pt} {c i rev : Int} (hp : putsP ps ≤ 40000) : okS l0 (doT l0 t E rev ps) (doL l0 t E c i rev ps) ∧ okD l0 (doT l0 t E rev ps) (doL l0 t E c i rev ps) (doD l0 t E D rev ps) := by
  unfold doT doL doD
  by_cases hd : doE l0 t E rev ps = 0
  · rw [if_pos hd, if_pos hd, if_pos hd]
    have hn := do_next (c := c) (i := i) h hp hd
    refine ⟨hn, ⟨by simp [hD.len], fun k hk => ?_, ?_⟩⟩
    · rw [List.length_append, List.length_singleton] at hk
      rcases Nat.lt_or_ge k (E.length + 1) with hlt | hge
      · obtain ⟨d, h1, h2⟩ := hD.at_ k (by omega)
        refine ⟨d, by rw [List.getElem?_append_left (by rw [hD.len]; exact hlt)]; exact h1, ?_⟩
        rw [List.take_append_of_le_length (by omega)]
        exact h2
      · obtain rfl : k = E.length + 1 := by omega
        refine ⟨_, by rw [List.getElem?_append_right (by rw [hD.len]; exact Nat.le_refl _), hD.len, Nat.sub_self]; rfl, ?_⟩
        have e : (E ++ [(⟨c, i, turnS ps (E.drop rev.toNat)⟩ : SE)]).take (E.length + 1) = E ++ [⟨c, i, turnS ps (E.drop rev.toNat)⟩] := List.take_of_length_le (by simp)
        rw [e]
        exact hn.last.symm
    · rw [List.length_append, List.length_singleton, List.getElem?_append_right (by rw [hD.len]; exact Nat.le_refl _), hD.len, Nat.sub_self]
      rfl
  · rw [if_neg hd, if_neg hd, if_neg hd]
    exact ⟨h, hD⟩
end Go.Proofs.YtedgnlgjmnccgabGreatDoor
