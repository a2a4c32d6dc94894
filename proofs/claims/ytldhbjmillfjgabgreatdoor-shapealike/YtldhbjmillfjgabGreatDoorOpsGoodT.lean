/-
  Transform and Compose of operations that never cut a rune (pure): neither do what they tell; and what these make.
-/
import Derived.Test.YtldhbjmillfjgabGreatDoorOpsGood
namespace Go.Proofs.YtldhbjmillfjgabGreatDoor
set_option linter.unusedVariables false

/-- What was added so far: D of the text T is behind, R is ahead, o was made. -/
structure St (T D R o : List UInt8) (s : NSt) : Prop where
  cut : CutS (edgeV T) s
  eq : T = D ++ R
  here : V D
  long : longS s = D.length
  act : (tellP s).foldl actA ([], T) = (o, R)
theorem St.none {T D R o : List UInt8} {s : NSt} (h : St T D R o s) : St T D R (o ++ []) s := by rw [List.append_nil]; exact h
theorem St.put {T D R o : List UInt8} {s : NSt} (h : St T D R o s) {u : List UInt8} (hu : V u) : St T D R (o ++ u) (addP s ⟨0, 0, u⟩) := by
  have hl := add_long s ⟨0, 0, u⟩
  have e0 : lenP ⟨0, 0, u⟩ = 0 := rfl
  rw [e0, Int.add_zero] at hl
  refine ⟨cut_add h.cut _ (Int.le_refl _) (Int.le_refl _) (.inl rfl) hu ?_, h.eq, h.here, by rw [hl]; exact h.long, ?_⟩
  · rw [e0, Int.add_zero]; exact h.cut.here
  · rw [act_add actA_ok s _ h.cut.one.drop (Int.le_refl _) (Int.le_refl _), h.act]
    simp [actA]
theorem St.keep {T D R o x : List UInt8} {s : NSt} (h : St T D (x ++ R) o s) (hx : V x) : St T (D ++ x) R (o ++ x) (addP s ⟨x.length, 0, []⟩) := by
  have hl := add_long s ⟨x.length, 0, []⟩
  have e0 : lenP ⟨x.length, 0, []⟩ = x.length := by simp [lenP]
  rw [e0] at hl
  have h0 : (0 : Int) ≤ x.length := by omega
  refine ⟨cut_add h.cut _ h0 (Int.le_refl _) (.inr ⟨rfl, rfl⟩) V_nil ?_, by rw [List.append_assoc]; exact h.eq, V_append h.here hx, by rw [hl, h.long, List.length_append]; push_cast; rfl, ?_⟩
  · rw [e0, h.long]
    unfold edgeV
    rw [show ((D.length : Int) + x.length).toNat = (D ++ x).length by rw [List.length_append]; omega, h.eq, ← List.append_assoc, List.take_left']
    · exact V_append h.here hx
    · rfl
  · rw [act_add actA_ok s _ h.cut.one.drop h0 (Int.le_refl _), h.act]
    simp [actA]
theorem St.drop {T D R o x : List UInt8} {s : NSt} (h : St T D (x ++ R) o s) (hx : V x) : St T (D ++ x) R o (addP s ⟨0, x.length, []⟩) := by
  have hl := add_long s ⟨0, x.length, []⟩
  have e0 : lenP ⟨0, x.length, []⟩ = x.length := by simp [lenP]
  rw [e0] at hl
  have h0 : (0 : Int) ≤ x.length := by omega
  refine ⟨cut_add h.cut _ (Int.le_refl _) h0 (.inl rfl) V_nil ?_, by rw [List.append_assoc]; exact h.eq, V_append h.here hx, by rw [hl, h.long, List.length_append]; push_cast; rfl, ?_⟩
  · rw [e0, h.long]
    unfold edgeV
    rw [show ((D.length : Int) + x.length).toNat = (D ++ x).length by rw [List.length_append]; omega, h.eq, ← List.append_assoc, List.take_left']
    · exact V_append h.here hx
    · rfl
  · rw [act_add actA_ok s _ h.cut.one.drop (Int.le_refl _) h0, h.act]
    simp [actA]
theorem St.good {T o : List UInt8} {s : NSt} (h : St T T [] o s) : good (tellP s) T ∧ applyP (tellP s) T = o := by
  have hg := good_of_cut h.cut h.long
  refine ⟨hg, ?_⟩
  have e := h.act
  rw [actA_apply _ hg.one] at e
  simpa using congrArg Prod.fst e

theorem lenP_unit (d : Bool) (n : Nat) : lenP (unitK d n) = (n : Int) := by cases d <;> simp [lenP, unitK]
theorem put_unit (d : Bool) (n : Nat) : (unitK d n).put = [] := by cases d <;> rfl
theorem made_unit (d : Bool) (n : Nat) (x : List UInt8) : madeP (unitK d (n + 1), x) = if d then [] else x := by
  cases d <;> simp [madeP, unitK]
theorem apply_unit (d : Bool) (n : Nat) (ps : List Pt) (r : List UInt8) : applyP (unitK d (n + 1) :: ps) r = (if d then [] else r.take (n + 1)) ++ applyP ps (r.drop (n + 1)) := by
  rw [apply_cons, made_unit, lenP_unit]; rfl
/-- What is left behind a cut. -/
structure Left (X : List Pt) (r : List UInt8) : Prop where
  one : ∀ p ∈ X, oneP p
  long : longP X = r.length
  al : al X r
theorem Left.good {X : List Pt} {r : List UInt8} (h : Left X r) : good X r := ⟨h.one, h.long, h.al⟩
theorem left_cons {p : Pt} {ps : List Pt} {r : List UInt8} (h : Left (p :: ps) r) : Left ps (r.drop (lenP p).toNat) ∧ V p.put ∧ V (r.take (lenP p).toNat) ∧ (lenP p).toNat ≤ r.length := by
  have hl := h.long
  rw [long_cons] at hl
  have h0 := long_pos fun q hq => h.one q (List.mem_cons_of_mem _ hq)
  have h1 := one_len (h.one p (by simp))
  exact ⟨⟨fun q hq => h.one q (by simp [hq]), by rw [List.length_drop]; omega, h.al.2.2⟩, h.al.1, h.al.2.1, by omega⟩
end Go.Proofs.YtldhbjmillfjgabGreatDoor
