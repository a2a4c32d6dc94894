/-
  Transform and Compose of operations that never cut a rune (pure): neither do what they tell; and what these make.
-/
import Derived.Test.YtedgnlgjmnccgabGreatDoorOpsGood
namespace Go.Proofs.YtedgnlgjmnccgabGreatDoor
set_option linter.unusedVariables false

/-- What was added so far: D of the text T is behind, R is ahead, o was made. -/
structure St (T D R o : List UInt8) (s : NSt) : Prop where
  cut : CutS (edgeV T) s
  eq : T = D ++ R
  here : V D
  long : longS s = D.length
  act : (tellP s).foldl actA ([], T) = (o, R)
theorem St0 (T : List UInt8) : St T [] T [] nst0 := ⟨cut0 T, rfl, V_nil, by simp [longS, nst0, longP], rfl⟩
theorem St.none {T D R o : List UInt8} {s : NSt} (h : St T D R o s) : St T D R (o ++ []) s := by rw [List.append_nil]; exact h
theorem St.put {T D R o : List UInt8} {s : NSt} (h : St T D R o s) {u : List UInt8} (hu : V u) : St T D R (o ++ u) (addP s ⟨0, 0, u⟩) := by
  have hl := add_long s ⟨0, 0, u⟩
  have e0 : lenP ⟨0, 0, u⟩ = 0 := rfl
  rw [e0, Int.add_zero] at hl
  refine ⟨cut_add h.cut _ (Int.le_refl _) (Int.le_refl _) (.inl rfl) hu ?_, h.eq, h.here, by rw [hl]; exact h.long, ?_⟩
  · rw [e0, Int.add_zero]; exact h.cut.here
  · rw [act_add actA_ok s _ h.cut.one.drop (Int.le_refl _) (Int.le_refl _), h.act]
    simp [actA]
theorem St.keep {T D R o x : List UInt8} {s : NSt} (h : St T D (x ++ R) o s) (hx : V x) : St T (D ++ x) R (o ++ x) (addP s ⟨x.length, 0, []⟩) := by
  have hl := add_long s ⟨x.length, 0, []⟩
  have e0 : lenP ⟨x.length, 0, []⟩ = x.length := by simp [lenP]
  rw [e0] at hl
  have h0 : (0 : Int) ≤ x.length := by omega
  refine ⟨cut_add h.cut _ h0 (Int.le_refl _) (.inr ⟨rfl, rfl⟩) V_nil ?_, by rw [List.append_assoc]; exact h.eq, V_append h.here hx, by rw [hl, h.long, List.length_append]; push_cast; rfl, ?_⟩
  · rw [e0, h.long]
    unfold edgeV
    rw [show ((D.length : Int) + x.length).toNat = (D ++ x).length by rw [List.length_append]; omega, h.eq, ← List.append_assoc, List.take_left']
    · exact V_append h.here hx
    · rfl
  · rw [act_add actA_ok s _ h.cut.one.drop h0 (Int.le_refl _), h.act]
    simp [actA]
theorem St.drop {T D R o x : List UInt8} {s : NSt} (h : St T D (x ++ R) o s) (hx : V x) : St T (D ++ x) R o (addP s ⟨0, x.length, []⟩) := by
  have hl := add_long s ⟨0, x.length, []⟩
  have e0 : lenP ⟨0, x.length, []⟩ = x.length := by simp [lenP]
  rw [e0] at hl
  have h0 : (0 : Int) ≤ x.length := by omega
  refine ⟨cut_add h.cut _ (Int.le_refl _) h0 (.inl rfl) V_nil ?_, by rw [List.append_assoc]; exact h.eq, V_append h.here hx, by rw [hl, h.long, List.length_append]; push_cast; rfl, ?_⟩
  · rw [e0, h.long]
    unfold edgeV
    rw [show ((D.length : Int) + x.length).toNat = (D ++ x).length by rw [List.length_append]; omega, h.eq, ← List.append_assoc, List.take_left']
    · exact V_append h.here hx
    · rfl
  · rw [act_add actA_ok s _ h.cut.one.drop (Int.le_refl _) h0, h.act]
    simp [actA]
theorem St.full {T D o : List UInt8} {s : NSt} (h : St T D [] o s) : St T T [] o s := by
  have e := h.eq
  rw [List.append_nil] at e
  subst e; exact h
theorem St.good {T o : List UInt8} {s : NSt} (h : St T T [] o s) : good (tellP s) T ∧ applyP (tellP s) T = o := by
  have hg := good_of_cut h.cut h.long
  refine ⟨hg, ?_⟩
  have e := h.act
  rw [actA_apply _ hg.one] at e
  simpa using congrArg Prod.fst e

theorem lenP_unit (d : Bool) (n : Nat) : lenP (unitK d n) = (n : Int) := by cases d <;> simp [lenP, unitK]
theorem put_unit (d : Bool) (n : Nat) : (unitK d n).put = [] := by cases d <;> rfl
theorem one_unit (d : Bool) (n : Nat) : oneP (unitK d (n + 1)) := by
  cases d with
  | true => exact .inr (.inl ⟨rfl, by show (0 : Int) < ((n + 1 : Nat) : Int); omega, rfl⟩)
  | false => exact .inl ⟨by show (0 : Int) < ((n + 1 : Nat) : Int); omega, rfl, rfl⟩
theorem made_unit (d : Bool) (n : Nat) (x : List UInt8) : madeP (unitK d (n + 1), x) = if d then [] else x := by
  cases d <;> simp [madeP, unitK]
theorem apply_unit (d : Bool) (n : Nat) (ps : List Pt) (r : List UInt8) : applyP (unitK d (n + 1) :: ps) r = (if d then [] else r.take (n + 1)) ++ applyP ps (r.drop (n + 1)) := by
  rw [apply_cons, made_unit, lenP_unit]; rfl
theorem cut2_unit (d : Bool) (m j : Nat) (hj : j ≤ m) : (m = j ∧ (cutP (unitK d (m + 1)) ((j : Int) + 1)).2 = []) ∨ ∃ i, m = j + i + 1 ∧ (cutP (unitK d (m + 1)) ((j : Int) + 1)).2 = [unitK d (i + 1)] := by
  have hl : lengthP (unitK d (m + 1)) = (m : Int) + 1 := by rw [len_unit]; push_cast; rfl
  by_cases e : m = j
  · exact .inl ⟨e, by unfold cutP; rw [if_pos (by rw [hl, e])]⟩
  · right
    refine ⟨m - j - 1, by omega, ?_⟩
    unfold cutP
    rw [if_neg (by rw [hl]; omega)]
    have e1 : ((m + 1 : Nat) : Int) - ((j : Int) + 1) = ((m - j - 1 + 1 : Nat) : Int) := by omega
    cases d with
    | true =>
      rw [if_neg (show ¬ 0 < (unitK true (m + 1)).keep from Int.lt_irrefl 0), if_pos (show 0 < (unitK true (m + 1)).drop by show (0 : Int) < ((m + 1 : Nat) : Int); omega)]
      show [(⟨0, ((m + 1 : Nat) : Int) - ((j : Int) + 1), []⟩ : Pt)] = [⟨0, ((m - j - 1 + 1 : Nat) : Int), []⟩]
      rw [e1]
    | false =>
      rw [if_pos (show 0 < (unitK false (m + 1)).keep by show (0 : Int) < ((m + 1 : Nat) : Int); omega)]
      show [(⟨((m + 1 : Nat) : Int) - ((j : Int) + 1), 0, []⟩ : Pt)] = [⟨((m - j - 1 + 1 : Nat) : Int), 0, []⟩]
      rw [e1]

/-- What is left behind a cut. -/
structure Left (X : List Pt) (r : List UInt8) : Prop where
  one : ∀ p ∈ X, oneP p
  long : longP X = r.length
  al : al X r
theorem Left.good {X : List Pt} {r : List UInt8} (h : Left X r) : good X r := ⟨h.one, h.long, h.al⟩
theorem unit_cut (d : Bool) (m j : Nat) (hj : j ≤ m) (ps : List Pt) (r : List UInt8) (h : Left (unitK d (m + 1) :: ps) r) (hv : V (r.take (j + 1))) :
    Left ((cutP (unitK d (m + 1)) ((j : Int) + 1)).2 ++ ps) (r.drop (j + 1)) ∧ applyP (unitK d (m + 1) :: ps) r = (if d then [] else r.take (j + 1)) ++ applyP ((cutP (unitK d (m + 1)) ((j : Int) + 1)).2 ++ ps) (r.drop (j + 1)) ∧ j + 1 ≤ r.length := by
  have hl := h.long
  rw [long_cons, lenP_unit] at hl
  have h0 := long_pos fun q hq => h.one q (List.mem_cons_of_mem _ hq)
  have ha := h.al.2.2
  have hq := h.al.2.1
  rw [lenP_unit] at ha hq
  have ht : ((m + 1 : Nat) : Int).toNat = m + 1 := by omega
  rw [ht] at ha hq
  have hlen : j + 1 ≤ r.length := by omega
  rcases cut2_unit d m j hj with ⟨rfl, e⟩ | ⟨i, rfl, e⟩
  · rw [e, List.nil_append]
    refine ⟨⟨fun p hp => h.one p (by simp [hp]), by rw [List.length_drop]; omega, ha⟩, apply_unit d m ps r, hlen⟩
  · rw [e]
    have e1 : r.take (j + i + 1 + 1) = r.take (j + 1) ++ (r.drop (j + 1)).take (i + 1) := by rw [← List.take_add]; congr 1; omega
    have e2 : r.drop (j + i + 1 + 1) = (r.drop (j + 1)).drop (i + 1) := by rw [List.drop_drop]; congr 1; omega
    rw [e1] at hq
    rw [e2] at ha
    refine ⟨⟨?_, ?_, ?_, ?_, ?_⟩, ?_, hlen⟩
    · intro p hp
      rcases List.mem_cons.1 hp with rfl | hp
      · exact one_unit d i
      · exact h.one p (by simp at hp; simp [hp])
    · show longP (unitK d (i + 1) :: ps) = _
      rw [long_cons, lenP_unit, List.length_drop]; omega
    · rw [put_unit]; exact V_nil
    · rw [lenP_unit]; exact V_rest hv hq
    · rw [lenP_unit]; exact ha
    · show _ = _ ++ applyP (unitK d (i + 1) :: ps) _
      rw [apply_unit, apply_unit, e1, e2]
      cases d <;> simp

/-- What is made of a text by two that are side by side. -/
def outL : List (Pt × Pt) → List UInt8 → List UInt8
  | [], _ => []
  | (p, q) :: l, r => p.put ++ (q.put ++ ((if 0 < p.keep ∧ 0 < q.keep then r.take p.keep.toNat else []) ++ outL l (r.drop (lenP p).toNat)))
def tF (F : Bool) (x : Pt × Pt) : List Pt := if F then turnP x else turnP (x.2, x.1)
theorem runS_cons (t : Pt × Pt → List Pt) (x : Pt × Pt) (l : List (Pt × Pt)) (s : NSt) : runS t (x :: l) s = runS t l ((t x).foldl addP s) := rfl
theorem outL_puts (u : List UInt8) (l : List (Pt × Pt)) (r : List UInt8) : outL ((⟨0, 0, u⟩, noP) :: l) r = u ++ outL l r ∧ outL ((noP, ⟨0, 0, u⟩) :: l) r = u ++ outL l r := by
  simp [outL, noP, lenP]
theorem outL_units (d e : Bool) (j : Nat) (l : List (Pt × Pt)) (r : List UInt8) : outL ((unitK d (j + 1), unitK e (j + 1)) :: l) r = (if d || e then [] else r.take (j + 1)) ++ outL l (r.drop (j + 1)) := by
  have h0 : (0 : Int) < ((j : Int) + 1) := by omega
  have h1 : ((j : Int) + 1).toNat = j + 1 := by omega
  cases d <;> cases e <;> simp [outL, unitK, lenP, h0, h1]
theorem tF_own (F : Bool) (u : List UInt8) (hu : u ≠ []) : tF F (if F then (⟨0, 0, u⟩, noP) else (noP, ⟨0, 0, u⟩)) = [⟨0, 0, u⟩] := by
  cases F <;> simp [tF, turnP, isPutP, noP, hu]
theorem tF_other (F : Bool) (u : List UInt8) (hu : u ≠ []) : tF F (if F then (noP, ⟨0, 0, u⟩) else (⟨0, 0, u⟩, noP)) = [⟨u.length, 0, []⟩] := by
  cases F <;> simp [tF, turnP, isPutP, noP, hu]
theorem tF_units (F d e : Bool) (j : Nat) : tF F (unitK d (j + 1), unitK e (j + 1)) = if (if F then e else d) then [] else [unitK (if F then d else e) (j + 1)] := by
  have h1 := unit_isPut d (j + 1)
  have h2 := unit_isPut e (j + 1)
  have h3 : ∀ b, isKeepP (unitK b (j + 1)) = !b := by
    intro b
    have h0 : (0 : Int) < ((j : Int) + 1) := by omega
    cases b <;> simp [isKeepP, unitK, h0]
  cases F <;> cases d <;> cases e <;> simp [tF, turnP, h1, h2, h3]
theorem St.unit {T D R o x : List UInt8} {s : NSt} (h : St T D (x ++ R) o s) (hx : V x) (d : Bool) (n : Nat) (hn : x.length = n) : St T (D ++ x) R (o ++ if d then [] else x) (addP s (unitK d n)) := by
  subst hn
  cases d with
  | true => rw [if_pos rfl, List.append_nil]; exact h.drop hx
  | false => rw [if_neg (by decide)]; exact h.keep hx

theorem left_cons {p : Pt} {ps : List Pt} {r : List UInt8} (h : Left (p :: ps) r) : Left ps (r.drop (lenP p).toNat) ∧ V p.put ∧ V (r.take (lenP p).toNat) ∧ (lenP p).toNat ≤ r.length := by
  have hl := h.long
  rw [long_cons] at hl
  have h0 := long_pos fun q hq => h.one q (List.mem_cons_of_mem _ hq)
  have h1 := one_len (h.one p (by simp))
  exact ⟨⟨fun q hq => h.one q (by simp [hq]), by rw [List.length_drop]; omega, h.al.2.2⟩, h.al.1, h.al.2.1, by omega⟩
theorem left_nil {r : List UInt8} (h : Left [] r) : r = [] := by
  have := h.long
  simp [longP] at this
  exact List.eq_nil_of_length_eq_zero (by omega)
theorem left_put {u : List UInt8} {ps : List Pt} {r : List UInt8} (h : Left (⟨0, 0, u⟩ :: ps) r) : Left ps r ∧ V u := by
  obtain ⟨h1, h2, _⟩ := left_cons h
  exact ⟨by simpa [lenP] using h1, h2⟩
theorem left_unit_ne {d : Bool} {n : Nat} {ps : List Pt} (h : Left (unitK d (n + 1) :: ps) []) : False := by
  have := (left_cons h).2.2.2
  rw [lenP_unit] at this
  simp at this
theorem one_weight {p : Pt} (h : oneP p) (ps : List Pt) : weight ps + 1 ≤ weight (p :: ps) := by
  have := length_pos h
  rw [weight_cons]; omega

theorem trans_st (F : Bool) : ∀ (f : Nat) (A B : List Pt) (r T D o : List UInt8) (s : NSt), Left A r → Left B r → weight A + weight B ≤ f → St T D (applyP (if F then B else A) r) o s →
    St T T [] (o ++ outL (sideP isPutP isPutP f A B) r) (runS (tF F) (sideP isPutP isPutP f A B) s) := by
  have base : ∀ (T D o : List UInt8) (s : NSt) (g : Nat), St T D (applyP (if F then [] else []) []) o s → St T T [] (o ++ outL (sideP isPutP isPutP g [] []) []) (runS (tF F) (sideP isPutP isPutP g [] []) s) := by
    intro T D o s g h
    have e : sideP isPutP isPutP g [] [] = [] := by cases g <;> rfl
    rw [e]
    have h2 : St T D [] o s := by cases F <;> exact h
    exact h2.full.none
  have nil_of : ∀ {l : List Pt} {r : List UInt8}, Left l r → weight l = 0 → l = [] := by
    intro l r h hw
    cases l with
    | nil => rfl
    | cons p l => have := one_weight (h.one p (by simp)) l; omega
  intro f
  induction f with
  | zero =>
    intro A B r T D o s hA hB hw h
    obtain rfl := nil_of hA (by omega)
    obtain rfl := nil_of hB (by omega)
    obtain rfl := left_nil hA
    exact base T D o s 0 h
  | succ f ih =>
    intro A B r T D o s hA hB hw h
    have stepB : ∀ (v : List UInt8) (B' : List Pt), v ≠ [] → B = ⟨0, 0, v⟩ :: B' → sideP isPutP isPutP (f + 1) A B = (noP, ⟨0, 0, v⟩) :: sideP isPutP isPutP f A B' → St T T [] (o ++ outL (sideP isPutP isPutP (f + 1) A B) r) (runS (tF F) (sideP isPutP isPutP (f + 1) A B) s) := by
      intro v B' hv e es
      subst e
      obtain ⟨hB', hV⟩ := left_put hB
      have hw' := one_weight (hB.one ⟨0, 0, v⟩ (by simp)) B'
      rw [es, (outL_puts v _ r).2, runS_cons, ← List.append_assoc]
      refine ih A B' r T (if F then D ++ v else D) (o ++ v) _ hA hB' (by omega) ?_
      cases F with
      | true =>
        have e := tF_other true v hv
        rw [if_pos rfl] at e
        rw [e]
        rw [if_pos rfl, apply_put] at h
        exact h.keep hV
      | false =>
        have e := tF_own false v hv
        rw [if_neg (by decide)] at e
        rw [e]
        rw [if_neg (by decide)] at h
        exact h.put hV
    cases A with
    | nil =>
      obtain rfl := left_nil hA
      cases B with
      | nil => exact base T D o s (f + 1) h
      | cons q B' =>
        rcases one_cases (hB.one q (by simp)) with ⟨v, hv, rfl⟩ | ⟨e, k, rfl⟩
        · exact stepB v B' hv rfl (by rw [sideP, if_pos (put_isPut hv)])
        · exact absurd hB left_unit_ne
    | cons p A' =>
      rcases one_cases (hA.one p (by simp)) with ⟨u, hu, rfl⟩ | ⟨d, m, rfl⟩
      · obtain ⟨hA', hV⟩ := left_put hA
        have hw' := one_weight (hA.one ⟨0, 0, u⟩ (by simp)) A'
        have es : sideP isPutP isPutP (f + 1) (⟨0, 0, u⟩ :: A') B = (⟨0, 0, u⟩, noP) :: sideP isPutP isPutP f A' B := by
          have h1 := put_isPut hu
          cases B <;> simp only [sideP, h1, if_true]
        rw [es, (outL_puts u _ r).1, runS_cons, ← List.append_assoc]
        refine ih A' B r T (if F then D else D ++ u) (o ++ u) _ hA' hB (by omega) ?_
        cases F with
        | true =>
          have e := tF_own true u hu
          rw [if_pos rfl] at e
          rw [e]
          rw [if_pos rfl] at h
          exact h.put hV
        | false =>
          have e := tF_other false u hu
          rw [if_neg (by decide)] at e
          rw [e]
          rw [if_neg (by decide), apply_put] at h
          exact h.keep hV
      · cases B with
        | nil =>
          obtain rfl := left_nil hB
          exact absurd hA left_unit_ne
        | cons q B' =>
          rcases one_cases (hB.one q (by simp)) with ⟨v, hv, rfl⟩ | ⟨e, k, rfl⟩
          · exact stepB v B' hv rfl (by
              have h1 := unit_isPut d (m + 1)
              have h2 := put_isPut hv
              simp only [sideP, h1, h2, Bool.false_eq_true, if_false, if_true])
          · have hmin : min (lengthP (unitK d (m + 1))) (lengthP (unitK e (k + 1))) = ((min m k : Nat) : Int) + 1 := by rw [len_unit, len_unit]; omega
            obtain ⟨j, hj⟩ : ∃ j, min m k = j := ⟨_, rfl⟩
            rw [hj] at hmin
            have hj1 : j ≤ m := by omega
            have hj2 : j ≤ k := by omega
            have es : sideP isPutP isPutP (f + 1) (unitK d (m + 1) :: A') (unitK e (k + 1) :: B') = (unitK d (j + 1), unitK e (j + 1)) :: sideP isPutP isPutP f ((cutP (unitK d (m + 1)) ((j : Int) + 1)).2 ++ A') ((cutP (unitK e (k + 1)) ((j : Int) + 1)).2 ++ B') := by
              rw [sideP, if_neg (by rw [unit_isPut]; decide), if_neg (by rw [unit_isPut]; decide), hmin, (cut_unit d m j hj1).1, (cut_unit e k j hj2).1]
            have hv : V (r.take (j + 1)) := by
              have v1 := (left_cons hA).2.2.1
              have v2 := (left_cons hB).2.2.1
              rw [lenP_unit] at v1 v2
              by_cases hc : m ≤ k
              · obtain rfl : m = j := by omega
                exact v1
              · obtain rfl : k = j := by omega
                exact v2
            obtain ⟨lA, aA, hlen⟩ := unit_cut d m j hj1 A' r hA hv
            obtain ⟨lB, aB, _⟩ := unit_cut e k j hj2 B' r hB hv
            have wA := cut_weight d m j hj1
            have wB := cut_weight e k j hj2
            have hx : (r.take (j + 1)).length = j + 1 := by rw [List.length_take]; omega
            have hw2 : weight ((cutP (unitK d (m + 1)) ((j : Int) + 1)).2 ++ A') + weight ((cutP (unitK e (k + 1)) ((j : Int) + 1)).2 ++ B') ≤ f := by
              rw [weight_append, weight_append, wA, wB]
              rw [weight_cons, weight_cons, len_unit, len_unit] at hw
              omega
            rw [es, outL_units, runS_cons, tF_units, ← List.append_assoc]
            refine ih _ _ (r.drop (j + 1)) T (if (if F then e else d) then D else D ++ r.take (j + 1)) _ _ lA lB hw2 ?_
            cases F with
            | true =>
              rw [if_pos rfl, aB] at h
              simp only [if_true]
              cases e with
              | true =>
                simp only [Bool.or_true, if_true, List.append_nil, List.foldl_nil]
                exact h
              | false =>
                simp only [Bool.or_false, Bool.false_eq_true, if_false, List.foldl_cons, List.foldl_nil] at h ⊢
                exact h.unit hv d (j + 1) hx
            | false =>
              rw [if_neg (by decide), aA] at h
              simp only [Bool.false_eq_true, if_false]
              cases d with
              | true =>
                simp only [Bool.true_or, if_true, List.append_nil, List.foldl_nil]
                exact h
              | false =>
                simp only [Bool.false_or, Bool.false_eq_true, if_false, List.foldl_cons, List.foldl_nil] at h ⊢
                exact h.unit hv e (j + 1) hx

/-- What Transform tells, and what it makes. -/
theorem good_trans (F : Bool) {a b : List Pt} {t : List UInt8} (ha : good a t) (hb : good b t) :
    good (tellP (transS F a b)) (applyP b t) ∧ applyP (tellP (transS F a b)) (applyP b t) = outL (if F then sideP isPutP isPutP (weight (normP a) + weight (normP b)) (normP a) (normP b) else sideP isPutP isPutP (weight (normP b) + weight (normP a)) (normP b) (normP a)) t := by
  have na := ha.norm
  have nb := hb.norm
  have la : Left (normP a) t := ⟨na.one, na.long, na.al⟩
  have lb : Left (normP b) t := ⟨nb.one, nb.long, nb.al⟩
  have eb := apply_norm hb.one t
  unfold transS
  cases F with
  | true =>
    have := trans_st true _ (normP a) (normP b) t (applyP b t) [] [] nst0 la lb (Nat.le_refl _) (by rw [if_pos rfl, eb]; exact St0 _)
    exact this.good
  | false =>
    have := trans_st false _ (normP b) (normP a) t (applyP b t) [] [] nst0 lb la (Nat.le_refl _) (by rw [if_neg (by decide), eb]; exact St0 _)
    exact this.good
/-- Who comes first is not seen. -/
theorem trans_meets (F : Bool) {a b : List Pt} {t : List UInt8} (ha : good a t) (hb : good b t) :
    applyP (tellP (transS (!F) b a)) (applyP a t) = applyP (tellP (transS F a b)) (applyP b t) := by
  rw [(good_trans F ha hb).2, (good_trans (!F) hb ha).2]
  cases F <;> simp
end Go.Proofs.YtedgnlgjmnccgabGreatDoor
