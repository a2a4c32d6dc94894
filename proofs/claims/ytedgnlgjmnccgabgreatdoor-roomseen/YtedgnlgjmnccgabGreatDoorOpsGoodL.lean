/-
  Three operations (pure): composed alike in whichever order; and a third one sees no difference.
-/
import Derived.Test.YtedgnlgjmnccgabGreatDoorOpsGoodC
namespace Go.Proofs.YtedgnlgjmnccgabGreatDoor
set_option linter.unusedVariables false

theorem apply_len : ∀ (ps : List Pt) (t : List UInt8), Left ps t → ((applyP ps t).length : Int) = (ps.map isP).sum
  | [], t, _ => rfl
  | p :: ps, t, h => by
    obtain ⟨hl, _, _, hlen⟩ := left_cons h
    have ih := apply_len ps _ hl
    rw [List.map_cons, List.sum_cons, ← ih]
    rcases one_cases (h.one p (by simp)) with ⟨u, hu, rfl⟩ | ⟨d, m, rfl⟩
    · rw [apply_put, List.length_append]; simp [isP, lenP]
    · rw [lenP_unit] at hlen ⊢
      have e2 : ((m + 1 : Nat) : Int).toNat = m + 1 := by omega
      rw [e2] at hlen ⊢
      rw [apply_unit, List.length_append]
      cases d with
      | true => simp [isP, unitK]
      | false =>
        rw [if_neg (by decide), List.length_take]
        simp only [isP, unitK, List.length_nil, Bool.false_eq_true, if_false]
        omega
theorem good.left {ps : List Pt} {t : List UInt8} (h : good ps t) : Left ps t := ⟨h.one, h.long, h.al⟩

/-- Which bytes an operation drops. -/
def flagsP : List Pt → List Bool
  | [] => []
  | p :: ps => List.replicate p.drop.toNat true ++ (List.replicate p.keep.toNat false ++ flagsP ps)
theorem flags_append : ∀ (a b : List Pt), flagsP (a ++ b) = flagsP a ++ flagsP b
  | [], b => rfl
  | p :: a, b => by rw [List.cons_append, flagsP, flagsP, flags_append a b]; simp
def actF (x : List Bool) (p : Pt) : List Bool := x ++ (List.replicate p.drop.toNat true ++ List.replicate p.keep.toNat false)
theorem actF_ok : ActP actF := by
  constructor
  · intro x; simp [actF]
  · intro x u v; simp [actF]
  · intro x a b ha hb
    simp only [actF, Int.toNat_zero, List.replicate_zero, List.append_nil, List.append_assoc]
    rw [show (a + b).toNat = a.toNat + b.toNat by omega, ← List.replicate_append_replicate]
  · intro x a b ha hb
    simp only [actF, Int.toNat_zero, List.replicate_zero, List.nil_append, List.append_assoc]
    rw [show (a + b).toNat = a.toNat + b.toNat by omega, ← List.replicate_append_replicate]
  · intro x k d u; simp [actF]
  · intro x d u; simp [actF]
theorem actF_flags : ∀ (ps : List Pt) (x : List Bool), ps.foldl actF x = x ++ flagsP ps
  | [], x => by simp [flagsP]
  | p :: ps, x => by rw [List.foldl_cons, actF_flags ps, actF, flagsP]; simp
theorem flags_norm {ps : List Pt} (h : ∀ p ∈ ps, 0 ≤ p.keep ∧ 0 ≤ p.drop) : flagsP (normP ps) = flagsP ps := by
  have e := act_norm actF_ok ps h []
  rw [actF_flags, actF_flags] at e
  simpa using e
theorem puts_norm {ps : List Pt} (h : ∀ p ∈ ps, 0 ≤ p.keep ∧ 0 ≤ p.drop) : putsP (normP ps) = putsP ps := by
  have ok : ActP (fun (x : Nat) (p : Pt) => x + p.put.length) := by
    constructor
    · intro x; simp
    · intro x u v; simp; omega
    · intro x a b _ _; simp
    · intro x a b _ _; simp
    · intro x k d u; simp
    · intro x d u; simp
  have key : ∀ (l : List Pt) (x : Nat), l.foldl (fun x p => x + p.put.length) x = x + putsP l := by
    intro l
    induction l with
    | nil => intro x; simp [putsP]
    | cons p l ih => intro x; rw [List.foldl_cons, ih]; simp [putsP]; omega
  have e := act_norm ok ps h 0
  rw [key, key] at e
  omega
theorem flags_unit (d : Bool) (n : Nat) (ps : List Pt) : flagsP (unitK d n :: ps) = List.replicate n d ++ flagsP ps := by
  cases d <;> simp [flagsP, unitK]
theorem flags_put (u : List UInt8) (ps : List Pt) : flagsP (⟨0, 0, u⟩ :: ps) = flagsP ps := by simp [flagsP]
theorem puts_cons (p : Pt) (ps : List Pt) : putsP (p :: ps) = p.put.length + putsP ps := by simp [putsP]
theorem puts_append (a b : List Pt) : putsP (a ++ b) = putsP a + putsP b := by simp [putsP]
/-- How much is made: what is put and what is kept. -/
theorem apply_len2 : ∀ (ps : List Pt) (t : List UInt8), Left ps t → (applyP ps t).length = putsP ps + (flagsP ps).count false
  | [], t, _ => rfl
  | p :: ps, t, h => by
    obtain ⟨hl, _, _, hlen⟩ := left_cons h
    have ih := apply_len2 ps _ hl
    rcases one_cases (h.one p (by simp)) with ⟨u, hu, rfl⟩ | ⟨d, m, rfl⟩
    · have e0 : (lenP (⟨0, 0, u⟩ : Pt)).toNat = 0 := rfl
      rw [e0, List.drop_zero] at ih
      rw [apply_put, flags_put, puts_cons, List.length_append, ih]
      show u.length + _ = u.length + _ + _
      omega
    · rw [lenP_unit] at hlen ih
      have e2 : ((m + 1 : Nat) : Int).toNat = m + 1 := by omega
      rw [e2] at hlen ih
      rw [apply_unit, flags_unit, puts_cons, put_unit, List.length_append, List.count_append, ih]
      cases d with
      | true => simp [List.count_replicate]
      | false =>
        rw [if_neg (by decide), List.length_take, List.count_replicate]
        simp
        omega
/-- Whether a cell's byte is dropped. -/
def dflC (F : List Bool) (x : Cel) : Bool := if x.1 < 0 then false else F[x.1.toNat]?.getD false
theorem dfl_put (F : List Bool) (u : List UInt8) : (putC u).map (dflC F) = List.replicate u.length false := by
  unfold putC
  rw [List.map_map]
  induction u with
  | nil => rfl
  | cons c u ih => rw [List.map_cons, ih]; rfl
theorem dfl_from (F : List Bool) (d : Bool) (rest : List Bool) : ∀ (k i : Nat), F.drop i = List.replicate k d ++ rest → (fromC i k).map (dflC F) = List.replicate k d
  | 0, i, _ => rfl
  | k + 1, i, h => by
    have h1 : F[i]? = some d := by
      have : (F.drop i)[0]? = some d := by rw [h]; simp [List.replicate_succ]
      rw [List.getElem?_drop, Nat.add_zero] at this
      exact this
    have h2 : F.drop (i + 1) = List.replicate k d ++ rest := by
      have := congrArg (List.drop 1) h
      rw [List.drop_drop, List.replicate_succ, List.cons_append, List.drop_succ_cons, List.drop_zero] at this
      exact this
    have e : dflC F ((i : Int), 0) = d := by unfold dflC; rw [if_neg (by show ¬ (i : Int) < 0; omega)]; simp [h1]
    have ih := dfl_from F d rest k (i + 1) h2
    rw [fromC, List.map_cons, e, List.replicate_succ]
    congr 1
theorem unit_cut2 (d : Bool) (m j : Nat) (hj : j ≤ m) (ps : List Pt) (i : Int) :
    flagsP (unitK d (m + 1) :: ps) = List.replicate (j + 1) d ++ flagsP ((cutP (unitK d (m + 1)) ((j : Int) + 1)).2 ++ ps) ∧ putsP ((cutP (unitK d (m + 1)) ((j : Int) + 1)).2 ++ ps) = putsP ps ∧
    midP i (unitK d (m + 1) :: ps) = (if d then [] else fromC i (j + 1)) ++ midP (i + (j + 1 : Nat)) ((cutP (unitK d (m + 1)) ((j : Int) + 1)).2 ++ ps) := by
  have hmu : ∀ (d : Bool) (n : Nat) (i : Int) (ps : List Pt), midP i (unitK d n :: ps) = (if d then [] else fromC i n) ++ midP (i + n) ps := by
    intro d n i ps
    cases d
    · simp [midP, unitK, putC]
    · simp [midP, unitK, putC, fromC]
  rcases cut2_unit d m j hj with ⟨rfl, e⟩ | ⟨k, rfl, e⟩
  · rw [e, List.nil_append, flags_unit, hmu]
    exact ⟨rfl, rfl, rfl⟩
  · rw [e]
    have e1 : j + k + 1 + 1 = (j + 1) + (k + 1) := by omega
    refine ⟨?_, ?_, ?_⟩
    · show _ = _ ++ flagsP (unitK d (k + 1) :: ps)
      rw [flags_unit, flags_unit, ← List.append_assoc, e1, List.replicate_append_replicate]
    · show putsP (unitK d (k + 1) :: ps) = _
      rw [puts_cons, put_unit]; simp
    · show _ = _ ++ midP _ (unitK d (k + 1) :: ps)
      rw [hmu, hmu, e1]
      cases d with
      | true => simp only [if_true, List.nil_append]; congr 1; push_cast; omega
      | false =>
        simp only [Bool.false_eq_true, if_false]
        rw [fromC_append, List.append_assoc]
        congr 3
        push_cast; omega

theorem trans_flags (F : Bool) : ∀ (f : Nat) (A B : List Pt) (r : List UInt8) (FO : List Bool) (pos : Nat), Left A r → Left B r → weight A + weight B ≤ f → FO.drop pos = flagsP (if F then A else B) →
    flagsP ((sideP isPutP isPutP f A B).flatMap (tF F)) = (midP pos (if F then B else A)).map (dflC FO) ∧ putsP ((sideP isPutP isPutP f A B).flatMap (tF F)) = putsP (if F then A else B) := by
  have nil_of : ∀ {l : List Pt} {r : List UInt8}, Left l r → weight l = 0 → l = [] := by
    intro l r h hw
    cases l with
    | nil => rfl
    | cons p l => have := one_weight (h.one p (by simp)) l; omega
  have base : ∀ (FO : List Bool) (pos g : Nat), flagsP ((sideP isPutP isPutP g [] []).flatMap (tF F)) = (midP pos (if F then [] else [])).map (dflC FO) ∧ putsP ((sideP isPutP isPutP g [] []).flatMap (tF F)) = putsP (if F then [] else []) := by
    intro FO pos g
    have e : sideP isPutP isPutP g [] [] = [] := by cases g <;> rfl
    rw [e]
    cases F <;> exact ⟨rfl, rfl⟩
  have midput : ∀ (u : List UInt8) (i : Int) (ps : List Pt), midP i (⟨0, 0, u⟩ :: ps) = putC u ++ midP i ps := by
    intro u i ps; simp [midP, fromC]
  have flkeep : ∀ (n : Nat) (l : List Pt), flagsP (⟨(n : Int), 0, []⟩ :: l) = List.replicate n false ++ flagsP l := by
    intro n l; simp [flagsP]
  intro f
  induction f with
  | zero =>
    intro A B r FO pos hA hB hw h
    obtain rfl := nil_of hA (by omega)
    obtain rfl := nil_of hB (by omega)
    exact base FO pos 0
  | succ f ih =>
    intro A B r FO pos hA hB hw h
    have stepB : ∀ (v : List UInt8) (B' : List Pt), v ≠ [] → B = ⟨0, 0, v⟩ :: B' → sideP isPutP isPutP (f + 1) A B = (noP, ⟨0, 0, v⟩) :: sideP isPutP isPutP f A B' →
        flagsP ((sideP isPutP isPutP (f + 1) A B).flatMap (tF F)) = (midP pos (if F then B else A)).map (dflC FO) ∧ putsP ((sideP isPutP isPutP (f + 1) A B).flatMap (tF F)) = putsP (if F then A else B) := by
      intro v B' hv e es
      subst e
      obtain ⟨hB', hV⟩ := left_put hB
      have hw' := one_weight (hB.one ⟨0, 0, v⟩ (by simp)) B'
      have h' : FO.drop pos = flagsP (if F then A else B') := by
        rw [h]
        cases F with
        | true => rfl
        | false => exact flags_put v B'
      obtain ⟨i1, i2⟩ := ih A B' r FO pos hA hB' (by omega) h'
      rw [es, List.flatMap_cons, flags_append, puts_append, i1, i2]
      cases F with
      | true =>
        have e := tF_other true v hv
        rw [if_pos rfl] at e
        rw [e, if_pos rfl, if_pos rfl, if_pos rfl, midput, List.map_append, dfl_put, flkeep]
        exact ⟨by simp [flagsP], by simp [putsP]⟩
      | false =>
        have e := tF_own false v hv
        rw [if_neg (by decide)] at e
        rw [e, if_neg (by decide), if_neg (by decide), if_neg (by decide), puts_cons, flags_put]
        exact ⟨rfl, by simp [putsP]⟩
    cases A with
    | nil =>
      obtain rfl := left_nil hA
      cases B with
      | nil => exact base FO pos (f + 1)
      | cons q B' =>
        rcases one_cases (hB.one q (by simp)) with ⟨v, hv, rfl⟩ | ⟨e, k, rfl⟩
        · exact stepB v B' hv rfl (by
            have h2 := put_isPut hv
            simp only [sideP, h2, if_true])
        · exact absurd hB left_unit_ne
    | cons p A' =>
      rcases one_cases (hA.one p (by simp)) with ⟨u, hu, rfl⟩ | ⟨d, m, rfl⟩
      · obtain ⟨hA', hV⟩ := left_put hA
        have hw' := one_weight (hA.one ⟨0, 0, u⟩ (by simp)) A'
        have es : sideP isPutP isPutP (f + 1) (⟨0, 0, u⟩ :: A') B = (⟨0, 0, u⟩, noP) :: sideP isPutP isPutP f A' B := by
          have h1 := put_isPut hu
          cases B <;> simp only [sideP, h1, if_true]
        have h' : FO.drop pos = flagsP (if F then A' else B) := by
          rw [h]
          cases F with
          | true => exact flags_put u A'
          | false => rfl
        obtain ⟨i1, i2⟩ := ih A' B r FO pos hA' hB (by omega) h'
        rw [es, List.flatMap_cons, flags_append, puts_append, i1, i2]
        cases F with
        | true =>
          have e := tF_own true u hu
          rw [if_pos rfl] at e
          rw [e, if_pos rfl, if_pos rfl, if_pos rfl, puts_cons, flags_put]
          exact ⟨rfl, by simp [putsP]⟩
        | false =>
          have e := tF_other false u hu
          rw [if_neg (by decide)] at e
          rw [e, if_neg (by decide), if_neg (by decide), if_neg (by decide), midput, List.map_append, dfl_put, flkeep]
          exact ⟨by simp [flagsP], by simp [putsP]⟩
      · cases B with
        | nil =>
          obtain rfl := left_nil hB
          exact absurd hA left_unit_ne
        | cons q B' =>
          rcases one_cases (hB.one q (by simp)) with ⟨v, hv, rfl⟩ | ⟨e, k, rfl⟩
          · exact stepB v B' hv rfl (by
              have h1 := unit_isPut d (m + 1)
              have h2 := put_isPut hv
              simp only [sideP, h1, h2, Bool.false_eq_true, if_false, if_true])
          · have hmin : min (lengthP (unitK d (m + 1))) (lengthP (unitK e (k + 1))) = ((min m k : Nat) : Int) + 1 := by rw [len_unit, len_unit]; omega
            obtain ⟨j, hj⟩ : ∃ j, min m k = j := ⟨_, rfl⟩
            rw [hj] at hmin
            have hj1 : j ≤ m := by omega
            have hj2 : j ≤ k := by omega
            have es : sideP isPutP isPutP (f + 1) (unitK d (m + 1) :: A') (unitK e (k + 1) :: B') = (unitK d (j + 1), unitK e (j + 1)) :: sideP isPutP isPutP f ((cutP (unitK d (m + 1)) ((j : Int) + 1)).2 ++ A') ((cutP (unitK e (k + 1)) ((j : Int) + 1)).2 ++ B') := by
              rw [sideP, if_neg (by rw [unit_isPut]; decide), if_neg (by rw [unit_isPut]; decide), hmin, (cut_unit d m j hj1).1, (cut_unit e k j hj2).1]
            have hv : V (r.take (j + 1)) := by
              have v1 := (left_cons hA).2.2.1
              have v2 := (left_cons hB).2.2.1
              rw [lenP_unit] at v1 v2
              by_cases hc : m ≤ k
              · obtain rfl : m = j := by omega
                exact v1
              · obtain rfl : k = j := by omega
                exact v2
            obtain ⟨lA, _, _⟩ := unit_cut d m j hj1 A' r hA hv
            obtain ⟨lB, _, _⟩ := unit_cut e k j hj2 B' r hB hv
            obtain ⟨fA, pA, mA⟩ := unit_cut2 d m j hj1 A' pos
            obtain ⟨fB, pB, mB⟩ := unit_cut2 e k j hj2 B' pos
            have wA := cut_weight d m j hj1
            have wB := cut_weight e k j hj2
            have hw2 : weight ((cutP (unitK d (m + 1)) ((j : Int) + 1)).2 ++ A') + weight ((cutP (unitK e (k + 1)) ((j : Int) + 1)).2 ++ B') ≤ f := by
              rw [weight_append, weight_append, wA, wB]
              rw [weight_cons, weight_cons, len_unit, len_unit] at hw
              omega
            have hcast : (pos : Int) + ((j + 1 : Nat) : Int) = ((pos + (j + 1) : Nat) : Int) := by push_cast; rfl
            rw [hcast] at mA mB
            have dropR : ∀ (b : Bool) (l : List Bool), FO.drop pos = List.replicate (j + 1) b ++ l → FO.drop (pos + (j + 1)) = l := by
              intro b l hl
              have := congrArg (List.drop (j + 1)) hl
              rw [List.drop_drop, List.drop_left' (by simp)] at this
              exact this
            rw [es, List.flatMap_cons, flags_append, puts_append, tF_units]
            cases F with
            | true =>
              rw [if_pos rfl] at h ⊢
              rw [if_pos rfl, if_pos rfl, if_pos rfl]
              rw [fA] at h
              obtain ⟨i1, i2⟩ := ih _ _ (r.drop (j + 1)) FO (pos + (j + 1)) lA lB hw2 (by rw [if_pos rfl]; exact dropR d _ h)
              rw [if_pos rfl] at i1 i2
              rw [i1, i2, mB, puts_cons, put_unit, pA, List.map_append]
              cases e with
              | true => simp [flagsP, putsP]
              | false =>
                rw [if_neg (by decide), if_neg (by decide), dfl_from FO d _ (j + 1) pos h, flags_unit]
                simp [flagsP, putsP, put_unit]
            | false =>
              simp only [Bool.false_eq_true, if_false] at h ⊢
              rw [fB] at h
              obtain ⟨i1, i2⟩ := ih _ _ (r.drop (j + 1)) FO (pos + (j + 1)) lA lB hw2 (by rw [if_neg (by decide)]; exact dropR e _ h)
              rw [if_neg (by decide)] at i1 i2
              rw [i1, i2, mA, puts_cons, put_unit, pB, List.map_append]
              cases d with
              | true => simp [flagsP, putsP]
              | false =>
                rw [if_neg (by decide), if_neg (by decide), dfl_from FO e _ (j + 1) pos h, flags_unit]
                simp [flagsP, putsP, put_unit]
end Go.Proofs.YtedgnlgjmnccgabGreatDoor
