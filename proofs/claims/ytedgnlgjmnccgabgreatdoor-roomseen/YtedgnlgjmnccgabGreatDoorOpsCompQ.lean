/-
  Compose, pure: the cells' gaps, as the document builds them; and that a least form makes the same cells.
-/
import Derived.Test.YtedgnlgjmnccgabGreatDoorOpsCompP
namespace Go.Proofs.YtedgnlgjmnccgabGreatDoor
set_option linter.unusedVariables false

/-- What a reading of parts must keep, that a least form is read alike. -/
structure ActP {X : Type} (act : X → Pt → X) : Prop where
  none : ∀ x, act x ⟨0, 0, []⟩ = x
  puts : ∀ x u v, act (act x ⟨0, 0, u⟩) ⟨0, 0, v⟩ = act x ⟨0, 0, u ++ v⟩
  drops : ∀ x (a b : Int), 0 ≤ a → 0 ≤ b → act (act x ⟨0, a, []⟩) ⟨0, b, []⟩ = act x ⟨0, a + b, []⟩
  keeps : ∀ x (a b : Int), 0 < a → 0 < b → act (act x ⟨a, 0, []⟩) ⟨b, 0, []⟩ = act x ⟨a + b, 0, []⟩
  split : ∀ x k d u, act x ⟨k, d, u⟩ = act (act (act x ⟨0, 0, u⟩) ⟨0, d, []⟩) ⟨k, 0, []⟩
  swap : ∀ x d u, act (act x ⟨0, d, []⟩) ⟨0, 0, u⟩ = act (act x ⟨0, 0, u⟩) ⟨0, d, []⟩
theorem act_tell {X : Type} {act : X → Pt → X} (h : ActP act) (s : NSt) (x : X) : (tellP s).foldl act x = act (act (s.out.foldl act x) ⟨0, 0, s.put⟩) ⟨0, s.drop, []⟩ := by
  unfold tellP
  rw [List.foldl_append, List.foldl_append]
  by_cases hp : s.put = [] <;> by_cases hd : s.drop = 0 <;> simp [hp, hd, h.none]
theorem act_push {X : Type} {act : X → Pt → X} (h : ActP act) (l : List Pt) (k : Int) (hk : 0 < k) (x : X) : (pushKeep l k).foldl act x = act (l.foldl act x) ⟨k, 0, []⟩ := by
  unfold pushKeep
  cases hq : l.getLast? with
  | none => simp
  | some q =>
    simp only
    split
    · rename_i hq0
      obtain ⟨init, rfl⟩ : ∃ init, l = init ++ [q] := List.getLast?_eq_some_iff.1 hq
      rw [List.dropLast_concat, List.foldl_append, List.foldl_append]
      simp only [List.foldl_cons, List.foldl_nil]
      rw [h.split _ (q.keep + k), h.split _ q.keep q.drop q.put, h.keeps _ _ _ hq0 hk]
    · simp
theorem act_add {X : Type} {act : X → Pt → X} (h : ActP act) (s : NSt) (p : Pt) (hs : 0 ≤ s.drop) (hk : 0 ≤ p.keep) (hd : 0 ≤ p.drop) (x : X) : (tellP (addP s p)).foldl act x = act ((tellP s).foldl act x) p := by
  have e1 : act ((tellP s).foldl act x) p = act (act (act (s.out.foldl act x) ⟨0, 0, s.put ++ p.put⟩) ⟨0, s.drop + p.drop, []⟩) ⟨p.keep, 0, []⟩ := by
    rw [act_tell h, h.split _ p.keep p.drop p.put, h.swap, h.puts, h.drops _ _ _ hs hd]
  rw [e1]
  unfold addP
  split
  · rename_i h0
    rw [act_tell h, h0, h.none]
  · rw [tellP_done, act_push h _ _ (by omega), act_tell h]
theorem act_norm {X : Type} {act : X → Pt → X} (h : ActP act) (ps : List Pt) (hs : ∀ p ∈ ps, 0 ≤ p.keep ∧ 0 ≤ p.drop) (x : X) : (normP ps).foldl act x = ps.foldl act x := by
  have key : ∀ (ps : List Pt), (∀ p ∈ ps, 0 ≤ p.keep ∧ 0 ≤ p.drop) → ∀ s, OneS s → (tellP (ps.foldl addP s)).foldl act x = ps.foldl act ((tellP s).foldl act x) := by
    intro ps
    induction ps with
    | nil => intros; rfl
    | cons p ps ih =>
      intro hs s h1
      have hp := hs p (by simp)
      rw [List.foldl_cons, ih (fun q hq => hs q (by simp [hq])) _ (add_one h1 p hp.1 hp.2), act_add h s p h1.drop hp.1 hp.2]
      rfl
  exact key ps hs nst0 ⟨by simp [nst0], by simp [nst0]⟩

def actM (x : List Cel × Int) (p : Pt) : List Cel × Int := (x.1 ++ (putC p.put ++ fromC (x.2 + p.drop) p.keep.toNat), x.2 + p.drop + p.keep)
theorem actM_ok : ActP actM := by
  constructor
  · intro x; simp [actM, putC, fromC]
  · intro x u v; simp [actM, putC_append, fromC]
  · intro x a b _ _; simp [actM, fromC, putC]; omega
  · intro x a b ha hb
    simp only [actM, putC, List.map_nil, List.nil_append, Int.add_zero]
    rw [show (a + b).toNat = a.toNat + b.toNat by omega, fromC_append, List.append_assoc, show x.2 + (a.toNat : Int) = x.2 + a by omega]
    simp; omega
  · intro x k d u; simp [actM, fromC, putC]
  · intro x d u; simp [actM, fromC, putC]
theorem actM_mid : ∀ (ps : List Pt), (∀ p ∈ ps, oneP p) → ∀ (l : List Cel) (i : Int), ps.foldl actM (l, i) = (l ++ midP i ps, i + longP ps)
  | [], _, l, i => by simp [midP, longP]
  | p :: ps, h, l, i => by
    have ih := actM_mid ps (fun q hq => h q (by simp [hq]))
    rw [List.foldl_cons, actM, ih]
    have hL : longP (p :: ps) = lenP p + longP ps := by simp [longP]
    rw [hL]
    rcases one_three (h p (by simp)) with ⟨u, hu, rfl⟩ | ⟨m, rfl⟩ | ⟨m, rfl⟩
    · simp [midP, fromC, lenP, putC]
    · simp [midP, lenP, putC]; omega
    · simp [midP, fromC, lenP, putC]; omega
theorem ones_sound {ps : List Pt} (h : ∀ p ∈ ps, oneP p) : ∀ p ∈ ps, 0 ≤ p.keep ∧ 0 ≤ p.drop := by
  intro p hp
  rcases h p hp with ⟨h1, h2, h3⟩ | ⟨h1, h2, h3⟩ | ⟨h1, h2, h3⟩ <;> exact ⟨by omega, by omega⟩
theorem mid_norm (ps : List Pt) (h : ∀ p ∈ ps, oneP p) : midP 0 (normP ps) = midP 0 ps := by
  have e := act_norm actM_ok ps (ones_sound h) ([], 0)
  rw [actM_mid ps h, actM_mid _ (norm_one ps (ones_sound h))] at e
  simpa using congrArg Prod.fst e
end Go.Proofs.YtedgnlgjmnccgabGreatDoor
