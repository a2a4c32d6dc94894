/-
  Compose, pure: the cells' gaps, as the document builds them; and that a least form makes the same cells.
-/
import Derived.Test.YtldhbjmillfjgabGreatDoorOpsCompP
namespace Go.Proofs.YtldhbjmillfjgabGreatDoor
set_option linter.unusedVariables false

/-- What a reading of parts must keep, that a least form is read alike. -/
structure ActP {X : Type} (act : X → Pt → X) : Prop where
  none : ∀ x, act x ⟨0, 0, []⟩ = x
  puts : ∀ x u v, act (act x ⟨0, 0, u⟩) ⟨0, 0, v⟩ = act x ⟨0, 0, u ++ v⟩
  drops : ∀ x (a b : Int), 0 ≤ a → 0 ≤ b → act (act x ⟨0, a, []⟩) ⟨0, b, []⟩ = act x ⟨0, a + b, []⟩
  keeps : ∀ x (a b : Int), 0 < a → 0 < b → act (act x ⟨a, 0, []⟩) ⟨b, 0, []⟩ = act x ⟨a + b, 0, []⟩
  split : ∀ x k d u, act x ⟨k, d, u⟩ = act (act (act x ⟨0, 0, u⟩) ⟨0, d, []⟩) ⟨k, 0, []⟩
  swap : ∀ x d u, act (act x ⟨0, d, []⟩) ⟨0, 0, u⟩ = act (act x ⟨0, 0, u⟩) ⟨0, d, []⟩
theorem act_tell {X : Type} {act : X → Pt → X} (h : ActP act) (s : NSt) (x : X) : (tellP s).foldl act x = act (act (s.out.foldl act x) ⟨0, 0, s.put⟩) ⟨0, s.drop, []⟩ := by
  unfold tellP
  rw [List.foldl_append, List.foldl_append]
  by_cases hp : s.put = [] <;> by_cases hd : s.drop = 0 <;> simp [hp, hd, h.none]
theorem act_push {X : Type} {act : X → Pt → X} (h : ActP act) (l : List Pt) (k : Int) (hk : 0 < k) (x : X) : (pushKeep l k).foldl act x = act (l.foldl act x) ⟨k, 0, []⟩ := by
  unfold pushKeep
  cases hq : l.getLast? with
  | none => simp
  | some q =>
    simp only
    split
    · rename_i hq0
      obtain ⟨init, rfl⟩ : ∃ init, l = init ++ [q] := List.getLast?_eq_some_iff.1 hq
      rw [List.dropLast_concat, List.foldl_append, List.foldl_append]
      simp only [List.foldl_cons, List.foldl_nil]
      rw [h.split _ (q.keep + k), h.split _ q.keep q.drop q.put, h.keeps _ _ _ hq0 hk]
    · simp
theorem act_add {X : Type} {act : X → Pt → X} (h : ActP act) (s : NSt) (p : Pt) (hs : 0 ≤ s.drop) (hk : 0 ≤ p.keep) (hd : 0 ≤ p.drop) (x : X) : (tellP (addP s p)).foldl act x = act ((tellP s).foldl act x) p := by
  have e1 : act ((tellP s).foldl act x) p = act (act (act (s.out.foldl act x) ⟨0, 0, s.put ++ p.put⟩) ⟨0, s.drop + p.drop, []⟩) ⟨p.keep, 0, []⟩ := by
    rw [act_tell h, h.split _ p.keep p.drop p.put, h.swap, h.puts, h.drops _ _ _ hs hd]
  rw [e1]
  unfold addP
  split
  · rename_i h0
    rw [act_tell h, h0, h.none]
  · rw [tellP_done, act_push h _ _ (by omega), act_tell h]
theorem ones_sound {ps : List Pt} (h : ∀ p ∈ ps, oneP p) : ∀ p ∈ ps, 0 ≤ p.keep ∧ 0 ≤ p.drop := by
  intro p hp
  rcases h p hp with ⟨h1, h2, h3⟩ | ⟨h1, h2, h3⟩ | ⟨h1, h2, h3⟩ <;> exact ⟨by omega, by omega⟩
end Go.Proofs.YtldhbjmillfjgabGreatDoor
