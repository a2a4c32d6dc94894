/-
  Operations in other units: what comes of them (pure).
-/
import Derived.Test.YtedgnlgjmnccgabGreatDoorConvE
import Derived.Test.YtedgnlgjmnccgabGreatDoorOpsNormP
namespace Go.Proofs.YtedgnlgjmnccgabGreatDoor
set_option linter.unusedVariables false

/-- A part in another unit. -/
def unit1 (n : Int) (q : Pt) : Pt := if 0 < q.keep then ⟨n, 0, []⟩ else if 0 < q.drop then ⟨0, n, []⟩ else ⟨0, 0, q.put⟩
/-- How much is ahead of a place, as runes. -/
def upTo (rs : List Nat) (u a : Int) : List Nat := find (reachesBy u a) [] rs
def onEdge (rs : List Nat) (u a : Int) : Bool := decide (by_ u (upTo rs u a) = a)
/-- The parts in another unit, and whether all end between two runes. -/
def turnZ (rs : List Nat) (u v : Int) : Int → List Pt → List Pt × Bool
  | _, [] => ([], true)
  | a, q :: qs => if onEdge rs u (a + lenP q) then
      (unit1 (by_ v (upTo rs u (a + lenP q)) - by_ v (upTo rs u a)) q :: (turnZ rs u v (a + lenP q) qs).1, (turnZ rs u v (a + lenP q) qs).2)
    else ([], false)
theorem C2_one (r : Nat) : 1 ≤ C2 [r] := by
  unfold C2 sum2 wide
  simp only [List.map_cons, List.map_nil, List.sum_cons, List.sum_nil, Int.add_zero]
  unfold cH
  split <;> omega
theorem by_one {u : Int} (hu : unitOk u) (r : Nat) : 1 ≤ by_ u [r] := by
  unfold by_
  rcases hu with rfl | rfl | rfl
  · rw [if_pos rfl, C1_len]
    have := List.length_pos_iff.2 (enc_ne r)
    have e : encs [r] = enc r := by simp [encs]
    rw [e]; omega
  · rw [if_neg (by decide), if_pos rfl]
    exact C2_one r
  · rw [if_neg (by decide), if_neg (by decide), if_pos rfl]
    show (1 : Int) ≤ ((1 : Nat) : Int); omega
/-- More runes, more of each unit. -/
theorem by_mono {u : Int} (hu : unitOk u) : ∀ (rs : List Nat) (i j : Nat), i < j → j ≤ rs.length → by_ u (rs.take i) < by_ u (rs.take j)
  | rs, i, j, h, hj => by
    have e : rs.take j = rs.take i ++ (rs.drop i).take (j - i) := by rw [← List.take_add]; congr 1; omega
    rw [e, by_append]
    have hne : (rs.drop i).take (j - i) ≠ [] := fun e => by
      have := congrArg List.length e
      rw [List.length_take, List.length_drop, List.length_nil] at this
      omega
    cases hx : (rs.drop i).take (j - i) with
    | nil => exact absurd hx hne
    | cons r x =>
      have e2 : r :: x = [r] ++ x := rfl
      rw [e2, by_append]
      have := by_one hu r
      have := by_pos u x
      omega
/-- What is ahead of a place: as few runes as reach it. -/
theorem find_least (u a : Int) : ∀ (rs pre : List Nat), a ≤ by_ u (pre ++ rs) → ∃ k, k ≤ rs.length ∧ find (reachesBy u a) pre rs = pre ++ rs.take k ∧ a ≤ by_ u (pre ++ rs.take k) ∧ ∀ i, i < k → by_ u (pre ++ rs.take i) < a
  | [], pre, h => by
    refine ⟨0, Nat.le_refl _, ?_, by simpa using h, fun i hi => absurd hi (Nat.not_lt_zero _)⟩
    have : reachesBy u a pre = true := decide_eq_true (by simpa using h)
    unfold find
    rw [if_pos this]; simp
  | r :: rs, pre, h => by
    by_cases h0 : a ≤ by_ u pre
    · refine ⟨0, Nat.zero_le _, ?_, by simpa using h0, fun i hi => absurd hi (Nat.not_lt_zero _)⟩
      have : reachesBy u a pre = true := decide_eq_true h0
      unfold find
      rw [if_pos this]; simp
    · obtain ⟨k, k1, k2, k3, k4⟩ := find_least u a rs (pre ++ [r]) (by simpa using h)
      have e : ∀ i, pre ++ (r :: rs).take (i + 1) = (pre ++ [r]) ++ rs.take i := fun i => by simp
      refine ⟨k + 1, by simp; omega, ?_, by rw [e]; exact k3, fun i hi => ?_⟩
      · rw [e, ← k2]
        have hf : reachesBy u a pre = false := decide_eq_false h0
        conv => lhs; unfold find
        rw [hf, if_neg (by decide), seek]
        conv => rhs; unfold find
        split
        · rfl
        · simp
      · cases i with
        | zero => rw [List.take_zero, List.append_nil]; omega
        | succ i => rw [e]; exact k4 i (by omega)
/-- What is ahead, as the first runes. -/
theorem upTo_least (rs : List Nat) (u a : Int) (h : a ≤ by_ u rs) : ∃ k, k ≤ rs.length ∧ upTo rs u a = rs.take k ∧ a ≤ by_ u (rs.take k) ∧ ∀ i, i < k → by_ u (rs.take i) < a := by
  obtain ⟨k, h1, h2, h3, h4⟩ := find_least u a rs [] (by simpa using h)
  exact ⟨k, h1, by unfold upTo; simpa using h2, by simpa using h3, fun i hi => by simpa using h4 i hi⟩
/-- The first of the places at which it is just so much; there is one where what is ahead is so much. -/
theorem edge_first {u : Int} (hu : unitOk u) {rs : List Nat} {a : Int} (h : a ≤ by_ u rs) :
    (onEdge rs u a = true → ∃ k, k ≤ rs.length ∧ upTo rs u a = rs.take k ∧ by_ u (rs.take k) = a ∧ ∀ i, i < k → by_ u (rs.take i) ≠ a) ∧
    (onEdge rs u a = false → ∀ i, i ≤ rs.length → by_ u (rs.take i) ≠ a) := by
  obtain ⟨k, h1, h2, h3, h4⟩ := upTo_least rs u a h
  unfold onEdge
  rw [h2]
  refine ⟨fun e => ⟨k, h1, h2 ▸ rfl, of_decide_eq_true e, fun i hi => by have := h4 i hi; omega⟩, fun e i hi e2 => ?_⟩
  have hne : by_ u (rs.take k) ≠ a := of_decide_eq_false e
  by_cases hik : i < k
  · have := h4 i hik; omega
  · by_cases hke : k = i
    · subst hke; exact hne e2
    · have := by_mono hu rs k i (by omega) hi
      omega
theorem upTo_zero (rs : List Nat) (u : Int) : upTo rs u 0 = [] := find_zero u rs
end Go.Proofs.YtedgnlgjmnccgabGreatDoor
