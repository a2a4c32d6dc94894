/-
  Compose and Invert of operations that never cut a rune (pure); three in one, in whichever order.
-/
import Derived.Test.YtedgnlgjmnccgabGreatDoorOpsGoodT
namespace Go.Proofs.YtedgnlgjmnccgabGreatDoor
set_option linter.unusedVariables false

theorem put_cut (u : List UInt8) (j : Nat) (hj : j + 1 ≤ u.length) (ps : List Pt) (r : List UInt8) (h : Left (⟨0, 0, u⟩ :: ps) r) (hv : V (u.take (j + 1))) :
    (cutP ⟨0, 0, u⟩ ((j : Int) + 1)).1 = ⟨0, 0, u.take (j + 1)⟩ ∧ Left ((cutP ⟨0, 0, u⟩ ((j : Int) + 1)).2 ++ ps) r ∧ applyP (⟨0, 0, u⟩ :: ps) r = u.take (j + 1) ++ applyP ((cutP ⟨0, 0, u⟩ ((j : Int) + 1)).2 ++ ps) r ∧ weight ((cutP ⟨0, 0, u⟩ ((j : Int) + 1)).2 ++ ps) + (j + 1) = weight (⟨0, 0, u⟩ :: ps) := by
  obtain ⟨hl, hV⟩ := left_put h
  have h2 : ((j : Int) + 1).toNat = j + 1 := by omega
  have hw : weight (⟨0, 0, u⟩ :: ps) = u.length + weight ps := by rw [weight_cons, len_put]; omega
  rw [hw, apply_put]
  by_cases e : u.length = j + 1
  · have e1 : cutP ⟨0, 0, u⟩ ((j : Int) + 1) = (⟨0, 0, u⟩, []) := by unfold cutP; rw [if_pos (by rw [len_put]; omega)]
    rw [e1, List.take_of_length_le (by omega)]
    exact ⟨rfl, hl, rfl, by show weight ps + (j + 1) = _; omega⟩
  · have e1 : cutP ⟨0, 0, u⟩ ((j : Int) + 1) = (⟨0, 0, u.take (j + 1)⟩, [⟨0, 0, u.drop (j + 1)⟩]) := by
      unfold cutP
      rw [if_neg (by rw [len_put]; omega), if_neg (show ¬ 0 < (⟨0, 0, u⟩ : Pt).keep from Int.lt_irrefl 0), if_neg (show ¬ 0 < (⟨0, 0, u⟩ : Pt).drop from Int.lt_irrefl 0), h2]
    have e2 : u = u.take (j + 1) ++ u.drop (j + 1) := (List.take_append_drop _ _).symm
    have h3 : V (u.drop (j + 1)) := V_take hV hv
    have h4 : u.drop (j + 1) ≠ [] := fun e' => by have := congrArg List.length e'; rw [List.length_drop] at this; simp at this; omega
    rw [e1]
    refine ⟨rfl, ⟨?_, ?_, h3, ?_, ?_⟩, ?_, ?_⟩
    · intro p hp
      rcases List.mem_cons.1 hp with rfl | hp
      · exact .inr (.inr ⟨rfl, rfl, h4⟩)
      · exact hl.one p hp
    · have := hl.long
      simp only [List.cons_append, List.nil_append]
      rw [long_cons]
      show (0 : Int) + 0 + _ = _
      omega
    · show V (r.take 0); rw [List.take_zero]; exact V_nil
    · exact hl.al
    · show u ++ applyP ps r = u.take (j + 1) ++ applyP (⟨0, 0, u.drop (j + 1)⟩ :: ps) r
      rw [apply_put, ← List.append_assoc, ← e2]
    · show weight (⟨0, 0, u.drop (j + 1)⟩ :: ps) + (j + 1) = _
      rw [weight_cons, len_put, List.length_drop]; omega

theorem drop_unit (d : Bool) (n : Nat) : isDropP (unitK d (n + 1)) = d := by
  have h0 : (0 : Int) < ((n : Int) + 1) := by omega
  cases d <;> simp [isDropP, unitK, h0]
theorem keep_unit (d : Bool) (n : Nat) : isKeepP (unitK d (n + 1)) = !d := by
  have h0 : (0 : Int) < ((n : Int) + 1) := by omega
  cases d <;> simp [isKeepP, unitK, h0]

theorem comp_st : ∀ (f : Nat) (A B : List Pt) (r T D o : List UInt8) (s : NSt), Left A r → Left B (applyP A r) → weight A + weight B ≤ f → St T D r o s →
    St T T [] (o ++ applyP B (applyP A r)) (runS compP (sideP isDropP isPutP f A B) s) := by
  have base : ∀ (T D o : List UInt8) (s : NSt) (g : Nat), St T D [] o s → St T T [] (o ++ applyP [] (applyP [] [])) (runS compP (sideP isDropP isPutP g [] []) s) := by
    intro T D o s g h
    have e : sideP isDropP isPutP g [] [] = [] := by cases g <;> rfl
    rw [e]
    exact h.full.none
  have nil_of : ∀ {l : List Pt} {r : List UInt8}, Left l r → weight l = 0 → l = [] := by
    intro l r h hw
    cases l with
    | nil => rfl
    | cons p l => have := one_weight (h.one p (by simp)) l; omega
  intro f
  induction f with
  | zero =>
    intro A B r T D o s hA hB hw h
    obtain rfl := nil_of hA (by omega)
    obtain rfl := nil_of hB (by omega)
    obtain rfl := left_nil hA
    exact base T D o s 0 h
  | succ f ih =>
    intro A B r T D o s hA hB hw h
    have stepB : ∀ (v : List UInt8) (B' : List Pt), v ≠ [] → B = ⟨0, 0, v⟩ :: B' → sideP isDropP isPutP (f + 1) A B = (noP, ⟨0, 0, v⟩) :: sideP isDropP isPutP f A B' → St T T [] (o ++ applyP B (applyP A r)) (runS compP (sideP isDropP isPutP (f + 1) A B) s) := by
      intro v B' hv e es
      subst e
      obtain ⟨hB', hV⟩ := left_put hB
      have hw' := one_weight (hB.one ⟨0, 0, v⟩ (by simp)) B'
      rw [es, runS_cons, apply_put, ← List.append_assoc]
      refine ih A B' r T D (o ++ v) _ hA hB' (by omega) ?_
      have e : compP (noP, ⟨0, 0, v⟩) = [⟨0, 0, v⟩] := by simp [compP, isDropP, isKeepP, isPutP, noP, hv]
      rw [e]
      exact h.put hV
    cases A with
    | nil =>
      obtain rfl := left_nil hA
      cases B with
      | nil => exact base T D o s (f + 1) h
      | cons q B' =>
        rcases one_cases (hB.one q (by simp)) with ⟨v, hv, rfl⟩ | ⟨e, k, rfl⟩
        · exact stepB v B' hv rfl (by
            have h2 := put_isPut hv
            simp only [sideP, h2, if_true])
        · exact absurd hB left_unit_ne
    | cons p A' =>
      rcases one_cases (hA.one p (by simp)) with ⟨u, hu, rfl⟩ | ⟨d, m, rfl⟩
      · have hdu : isDropP ⟨0, 0, u⟩ = false := by simp [isDropP]
        cases B with
        | nil =>
          have := left_nil hB
          rw [apply_put] at this
          simp [hu] at this
        | cons q B' =>
          rcases one_cases (hB.one q (by simp)) with ⟨v, hv, rfl⟩ | ⟨e, k, rfl⟩
          · exact stepB v B' hv rfl (by
              have h2 := put_isPut hv
              simp only [sideP, hdu, h2, Bool.false_eq_true, if_false, if_true])
          · obtain ⟨m, hm⟩ : ∃ m, u.length = m + 1 := ⟨u.length - 1, by have := List.length_pos_iff.2 hu; omega⟩
            have hmin : min (lengthP ⟨0, 0, u⟩) (lengthP (unitK e (k + 1))) = ((min m k : Nat) : Int) + 1 := by rw [len_put, len_unit]; omega
            obtain ⟨j, hj⟩ : ∃ j, min m k = j := ⟨_, rfl⟩
            rw [hj] at hmin
            have hj1 : j ≤ m := by omega
            have hj2 : j ≤ k := by omega
            have huv := (left_put hA).2
            have hmid := apply_put u A' r
            have hv : V (u.take (j + 1)) := by
              have v2 := (left_cons hB).2.2.1
              rw [lenP_unit, hmid] at v2
              by_cases hc : m ≤ k
              · rw [List.take_of_length_le (by omega)]; exact huv
              · obtain rfl : k = j := by omega
                have e2 : ((k + 1 : Nat) : Int).toNat = k + 1 := by omega
                rw [e2, List.take_append_of_le_length (by omega)] at v2
                exact v2
            obtain ⟨c1, lA, aA, wA⟩ := put_cut u j (by omega) A' r hA hv
            have hx : (u.take (j + 1)).length = j + 1 := by rw [List.length_take]; omega
            have hvm : V ((applyP (⟨0, 0, u⟩ :: A') r).take (j + 1)) := by rw [aA, List.take_left' hx]; exact hv
            obtain ⟨lB, aB, _⟩ := unit_cut e k j hj2 B' _ hB hvm
            rw [aB]
            rw [aA, List.drop_left' hx, List.take_left' hx] at *
            have wB := cut_weight e k j hj2
            have es : sideP isDropP isPutP (f + 1) (⟨0, 0, u⟩ :: A') (unitK e (k + 1) :: B') = (⟨0, 0, u.take (j + 1)⟩, unitK e (j + 1)) :: sideP isDropP isPutP f ((cutP ⟨0, 0, u⟩ ((j : Int) + 1)).2 ++ A') ((cutP (unitK e (k + 1)) ((j : Int) + 1)).2 ++ B') := by
              have h2 := unit_isPut e (k + 1)
              simp only [sideP, hdu, h2, hmin, c1, (cut_unit e k j hj2).1, Bool.false_eq_true, if_false]
            have hw2 : weight ((cutP ⟨0, 0, u⟩ ((j : Int) + 1)).2 ++ A') + weight ((cutP (unitK e (k + 1)) ((j : Int) + 1)).2 ++ B') ≤ f := by
              rw [weight_append (cutP (unitK e (k + 1)) ((j : Int) + 1)).2, wB]
              rw [weight_cons (unitK e (k + 1)), len_unit] at hw
              omega
            rw [es, runS_cons, ← List.append_assoc]
            refine ih _ _ r T D _ _ lA lB hw2 ?_
            have hune : u.take (j + 1) ≠ [] := fun e' => by rw [e'] at hx; simp at hx
            cases e with
            | true =>
              have ec : compP (⟨0, 0, u.take (j + 1)⟩, unitK true (j + 1)) = [] := by
                have h1 := keep_unit true j
                have h2 := unit_isPut true (j + 1)
                simp [compP, isDropP, h2, isKeepP]
                simp [unitK]
              rw [ec, if_pos rfl]
              exact h.none
            | false =>
              have ec : compP (⟨0, 0, u.take (j + 1)⟩, unitK false (j + 1)) = [⟨0, 0, u.take (j + 1)⟩] := by
                have h1 := keep_unit false j
                simp [compP, h1]
              rw [ec, if_neg (by decide)]
              exact h.put hv
      · cases d with
        | true =>
          obtain ⟨lA, _, hv, hlen⟩ := left_cons hA
          rw [lenP_unit] at lA hv hlen
          have e2 : ((m + 1 : Nat) : Int).toNat = m + 1 := by omega
          rw [e2] at lA hv hlen
          have hap : applyP (unitK true (m + 1) :: A') r = applyP A' (r.drop (m + 1)) := by rw [apply_unit]; simp
          rw [hap] at hB ⊢
          have hw' := one_weight (hA.one (unitK true (m + 1)) (by simp)) A'
          have es : sideP isDropP isPutP (f + 1) (unitK true (m + 1) :: A') B = (unitK true (m + 1), noP) :: sideP isDropP isPutP f A' B := by
            have h1 := drop_unit true m
            cases B <;> simp only [sideP, h1, if_true]
          have ec : compP (unitK true (m + 1), noP) = [unitK true (m + 1)] := by
            have h1 := drop_unit true m
            simp [compP, h1]
          rw [es, runS_cons, ec]
          refine ih A' B (r.drop (m + 1)) T (D ++ r.take (m + 1)) o _ lA hB (by omega) ?_
          have h' : St T D (r.take (m + 1) ++ r.drop (m + 1)) o s := by rw [List.take_append_drop]; exact h
          have := h'.unit hv true (m + 1) (by rw [List.length_take]; omega)
          rw [if_pos rfl, List.append_nil] at this
          exact this
        | false =>
          cases B with
          | nil =>
            have := left_nil hB
            rw [apply_unit] at this
            have hlen := (left_cons hA).2.2.2
            rw [lenP_unit] at hlen
            have := congrArg List.length this
            rw [if_neg (by decide), List.length_append, List.length_take, List.length_nil] at this
            omega
          | cons q B' =>
            rcases one_cases (hB.one q (by simp)) with ⟨v, hv, rfl⟩ | ⟨e, k, rfl⟩
            · exact stepB v B' hv rfl (by
                have h1 := drop_unit false m
                have h2 := put_isPut hv
                simp only [sideP, h1, h2, Bool.false_eq_true, if_false, if_true])
            · have hmin : min (lengthP (unitK false (m + 1))) (lengthP (unitK e (k + 1))) = ((min m k : Nat) : Int) + 1 := by rw [len_unit, len_unit]; omega
              obtain ⟨j, hj⟩ : ∃ j, min m k = j := ⟨_, rfl⟩
              rw [hj] at hmin
              have hj1 : j ≤ m := by omega
              have hj2 : j ≤ k := by omega
              have hlenA := (left_cons hA).2.2.2
              rw [lenP_unit] at hlenA
              have hv : V (r.take (j + 1)) := by
                have v1 := (left_cons hA).2.2.1
                have v2 := (left_cons hB).2.2.1
                rw [lenP_unit] at v1 v2
                by_cases hc : m ≤ k
                · obtain rfl : m = j := by omega
                  exact v1
                · obtain rfl : k = j := by omega
                  have e2 : ((k + 1 : Nat) : Int).toNat = k + 1 := by omega
                  rw [e2, apply_unit, if_neg (by decide), List.take_append_of_le_length (by rw [List.length_take]; omega), List.take_take, show min (k + 1) (m + 1) = k + 1 by omega] at v2
                  exact v2
              obtain ⟨lA, aA, hlen⟩ := unit_cut false m j hj1 A' r hA hv
              rw [if_neg (by decide)] at aA
              have hx : (r.take (j + 1)).length = j + 1 := by rw [List.length_take]; omega
              have hvm : V ((applyP (unitK false (m + 1) :: A') r).take (j + 1)) := by rw [aA, List.take_left' hx]; exact hv
              obtain ⟨lB, aB, _⟩ := unit_cut e k j hj2 B' _ hB hvm
              rw [aB]
              rw [aA, List.drop_left' hx, List.take_left' hx] at *
              have wA := cut_weight false m j hj1
              have wB := cut_weight e k j hj2
              have es : sideP isDropP isPutP (f + 1) (unitK false (m + 1) :: A') (unitK e (k + 1) :: B') = (unitK false (j + 1), unitK e (j + 1)) :: sideP isDropP isPutP f ((cutP (unitK false (m + 1)) ((j : Int) + 1)).2 ++ A') ((cutP (unitK e (k + 1)) ((j : Int) + 1)).2 ++ B') := by
                have h1 := drop_unit false m
                have h2 := unit_isPut e (k + 1)
                simp only [sideP, h1, h2, hmin, (cut_unit false m j hj1).1, (cut_unit e k j hj2).1, Bool.false_eq_true, if_false]
              have hw2 : weight ((cutP (unitK false (m + 1)) ((j : Int) + 1)).2 ++ A') + weight ((cutP (unitK e (k + 1)) ((j : Int) + 1)).2 ++ B') ≤ f := by
                rw [weight_append, weight_append, wA, wB]
                rw [weight_cons, weight_cons, len_unit, len_unit] at hw
                omega
              rw [es, runS_cons, ← List.append_assoc]
              refine ih _ _ (r.drop (j + 1)) T (D ++ r.take (j + 1)) _ _ lA lB hw2 ?_
              have ec : compP (unitK false (j + 1), unitK e (j + 1)) = [unitK e (j + 1)] := by
                have h1 := keep_unit e j
                have h2 := keep_unit false j
                have h3 := drop_unit false j
                cases e <;> simp [compP, h1, h2, h3]
              rw [ec]
              have h' : St T D (r.take (j + 1) ++ r.drop (j + 1)) o s := by rw [List.take_append_drop]; exact h
              exact h'.unit hv e (j + 1) hx

/-- What Compose tells, and what it makes. -/
theorem good_comp {a b : List Pt} {t : List UInt8} (ha : good a t) (hb : good b (applyP a t)) :
    good (tellP (compS a b)) t ∧ applyP (tellP (compS a b)) t = applyP b (applyP a t) := by
  have na := ha.norm
  have nb := hb.norm
  have la : Left (normP a) t := ⟨na.one, na.long, na.al⟩
  have ea := apply_norm ha.one t
  have eb := apply_norm hb.one (applyP a t)
  have lb : Left (normP b) (applyP (normP a) t) := by rw [ea]; exact ⟨nb.one, nb.long, nb.al⟩
  have := (comp_st _ (normP a) (normP b) t t [] [] nst0 la lb (Nat.le_refl _) (St0 t)).good
  rw [List.nil_append, ea, eb] at this
  exact this

end Go.Proofs.YtedgnlgjmnccgabGreatDoor
