/-
  Three operations (pure): composed alike in whichever order; and a third one sees no difference.
-/
import Derived.Test.YtldhbjmillfjgabGreatDoorOpsGoodT
namespace Go.Proofs.YtldhbjmillfjgabGreatDoor
set_option linter.unusedVariables false

theorem good.left {ps : List Pt} {t : List UInt8} (h : good ps t) : Left ps t := ⟨h.one, h.long, h.al⟩

/-- Which bytes an operation drops. -/
def flagsP : List Pt → List Bool
  | [] => []
  | p :: ps => List.replicate p.drop.toNat true ++ (List.replicate p.keep.toNat false ++ flagsP ps)
theorem flags_unit (d : Bool) (n : Nat) (ps : List Pt) : flagsP (unitK d n :: ps) = List.replicate n d ++ flagsP ps := by
  cases d <;> simp [flagsP, unitK]
theorem flags_put (u : List UInt8) (ps : List Pt) : flagsP (⟨0, 0, u⟩ :: ps) = flagsP ps := by simp [flagsP]
theorem puts_cons (p : Pt) (ps : List Pt) : putsP (p :: ps) = p.put.length + putsP ps := by simp [putsP]
/-- How much is made: what is put and what is kept. -/
theorem apply_len2 : ∀ (ps : List Pt) (t : List UInt8), Left ps t → (applyP ps t).length = putsP ps + (flagsP ps).count false
  | [], t, _ => rfl
  | p :: ps, t, h => by
    obtain ⟨hl, _, _, hlen⟩ := left_cons h
    have ih := apply_len2 ps _ hl
    rcases one_cases (h.one p (by simp)) with ⟨u, hu, rfl⟩ | ⟨d, m, rfl⟩
    · have e0 : (lenP (⟨0, 0, u⟩ : Pt)).toNat = 0 := rfl
      rw [e0, List.drop_zero] at ih
      rw [apply_put, flags_put, puts_cons, List.length_append, ih]
      show u.length + _ = u.length + _ + _
      omega
    · rw [lenP_unit] at hlen ih
      have e2 : ((m + 1 : Nat) : Int).toNat = m + 1 := by omega
      rw [e2] at hlen ih
      rw [apply_unit, flags_unit, puts_cons, put_unit, List.length_append, List.count_append, ih]
      cases d with
      | true => simp [List.count_replicate]
      | false =>
        rw [if_neg (by decide), List.length_take, List.count_replicate]
        simp
        omega
end Go.Proofs.YtldhbjmillfjgabGreatDoor
