/-
  Compose, pure: what comes of two operations as cells, and what the pairs that are side by side add up to.
-/
import Derived.Test.YtedgnlgjmnccgabGreatDoorOpsTurnQ
import Derived.Test.YtedgnlgjmnccgabGreatDoorOpsNormP
import Derived.Test.YtedgnlgjmnccgabGreatDoorOpsSpread
namespace Go.Proofs.YtedgnlgjmnccgabGreatDoor
set_option linter.unusedVariables false

/-- A byte of what comes: of the text, or put. -/
abbrev Cel := Int × UInt8
def putC (u : List UInt8) : List Cel := u.map fun c => (-1, c)
def fromC (at' : Int) : Nat → List Cel
  | 0 => []
  | k + 1 => (at', 0) :: fromC (at' + 1) k
def midP (at' : Int) : List Pt → List Cel
  | [] => []
  | p :: ps => fromC at' p.keep.toNat ++ (putC p.put ++ midP (at' + p.keep + p.drop) ps)
theorem putC_append (u v : List UInt8) : putC (u ++ v) = putC u ++ putC v := by simp [putC]
theorem fromC_append : ∀ (a b : Nat) (i : Int), fromC i (a + b) = fromC i a ++ fromC (i + a) b
  | 0, b, i => by simp [fromC]
  | a + 1, b, i => by
    rw [show a + 1 + b = (a + b) + 1 by omega, fromC, fromC, fromC_append a b]
    simp only [List.cons_append]
    congr 3
    omega
/-- A first part, told apart. -/
theorem one_three {p : Pt} (h : oneP p) : (∃ u, u ≠ [] ∧ p = ⟨0, 0, u⟩) ∨ (∃ n : Nat, p = ⟨(n : Int) + 1, 0, []⟩) ∨ ∃ n : Nat, p = ⟨0, (n : Int) + 1, []⟩ := by
  rcases one_cases h with h | ⟨d, n, rfl⟩
  · exact .inl h
  · cases d with
    | true => exact .inr (.inr ⟨n, rfl⟩)
    | false => exact .inr (.inl ⟨n, rfl⟩)
theorem len_put (u : List UInt8) : lengthP ⟨0, 0, u⟩ = (u.length : Int) := by simp [lengthP]
theorem cut_weigh {p : Pt} (h : oneP p) {n : Nat} (h0 : 0 < n) (hn : (n : Int) ≤ lengthP p) (ps : List Pt) : weight (p :: ps) = n + weight ((cutP p n).2 ++ ps) ∧ (p.put = [] → longP (p :: ps) = n + longP ((cutP p n).2 ++ ps)) ∧ (p.put ≠ [] → longP (p :: ps) = longP ((cutP p n).2 ++ ps)) := by
  rw [weight_cons, weight_append]
  have hL : ∀ l, longP (l ++ ps) = longP l + longP ps := fun l => long_append l ps
  have hL1 : longP (p :: ps) = lenP p + longP ps := by simp [longP]
  rw [hL, hL1]
  obtain ⟨c1, c2, c3, c4⟩ := cut_one h (n := n) (by omega) hn
  have hlen : lengthP p = lenP p + p.put.length := rfl
  by_cases e : lengthP p = n
  · have e2 := c4.2 e
    rw [e2]
    refine ⟨by simp [weight]; omega, fun hp => ?_, fun hp => ?_⟩
    · rw [hp] at hlen; simp only [longP, List.map_nil, List.sum_nil]; simp at hlen; omega
    · have : lenP p = 0 := by rcases h with ⟨h1, h2, h3⟩ | ⟨h1, h2, h3⟩ | ⟨h1, h2, h3⟩ <;> simp_all [lenP]
      simp only [longP, List.map_nil, List.sum_nil]; omega
  · have hne : (cutP p n).2 ≠ [] := fun h => e (c4.1 h)
    have h1 : ∃ q, (cutP p n).2 = [q] ∧ q.put.length = (p.put.length - if p.put = [] then 0 else n) := by
      unfold cutP
      rw [if_neg e]
      rcases h with ⟨h1, h2, h3⟩ | ⟨h1, h2, h3⟩ | ⟨h1, h2, h3⟩
      · rw [if_pos h1]; exact ⟨_, rfl, by simp [h3]⟩
      · rw [if_neg (by omega), if_pos h2]; exact ⟨_, rfl, by simp [h3]⟩
      · rw [if_neg (by omega), if_neg (by omega)]; exact ⟨_, rfl, by simp [h3]⟩
    obtain ⟨q, hq, hq2⟩ := h1
    obtain ⟨d1, d2⟩ := c3 q (by rw [hq]; simp)
    rw [hq]
    have hlq : lengthP q = lenP q + q.put.length := rfl
    refine ⟨by simp [weight]; omega, fun hp => ?_, fun hp => ?_⟩
    · rw [if_pos hp, hp] at hq2
      rw [hp] at hlen
      simp only [List.length_nil] at hlen hq2
      simp only [longP, List.map_cons, List.map_nil, List.sum_cons, List.sum_nil]
      omega
    · rw [if_neg hp] at hq2
      have : lenP p = 0 := by rcases h with ⟨h1, h2, h3⟩ | ⟨h1, h2, h3⟩ | ⟨h1, h2, h3⟩ <;> simp_all [lenP]
      simp only [longP, List.map_cons, List.map_nil, List.sum_cons, List.sum_nil]
      omega

end Go.Proofs.YtedgnlgjmnccgabGreatDoor
