/-
  Two operations side by side: the model of what Compose and Transform go through (pure).
-/
import Derived.Test.YtedgnlgjmnccgabGreatDoorOpsPure
namespace Go.Proofs.YtedgnlgjmnccgabGreatDoor
set_option linter.unusedVariables false

def lengthP (p : Pt) : Int := p.keep + p.drop + p.put.length
def noP : Pt := ⟨0, 0, []⟩
/-- So much off a first part; what is left of it. -/
def cutP (p : Pt) (n : Int) : Pt × List Pt :=
  if lengthP p = n then (p, [])
  else if 0 < p.keep then (⟨n, 0, []⟩, [⟨p.keep - n, p.drop, p.put⟩])
  else if 0 < p.drop then (⟨0, n, []⟩, [⟨p.keep, p.drop - n, p.put⟩])
  else (⟨0, 0, p.put.take n.toNat⟩, [⟨p.keep, p.drop, p.put.drop n.toNat⟩])
/-- The pairs that are taken, from the left on. -/
def sideP (la lb : Pt → Bool) : Nat → List Pt → List Pt → List (Pt × Pt)
  | 0, _, _ => []
  | f + 1, p :: a, b => if la p then (p, noP) :: sideP la lb f a b else match b with
    | q :: b => if lb q then (noP, q) :: sideP la lb f (p :: a) b else
      ((cutP p (min (lengthP p) (lengthP q))).1, (cutP q (min (lengthP p) (lengthP q))).1) :: sideP la lb f ((cutP p (min (lengthP p) (lengthP q))).2 ++ a) ((cutP q (min (lengthP p) (lengthP q))).2 ++ b)
    | [] => []
  | f + 1, [], q :: b => if lb q then (noP, q) :: sideP la lb f [] b else []
  | f + 1, [], [] => []

def isDropP (p : Pt) : Bool := decide (0 < p.drop)
def isKeepP (p : Pt) : Bool := decide (0 < p.keep)
def isPutP (p : Pt) : Bool := decide (p.put ≠ [])
/-- What Compose adds of a pair. -/
def compP (x : Pt × Pt) : List Pt := if isDropP x.1 || isKeepP x.2 then [x.1] else if isPutP x.2 || isKeepP x.1 then [x.2] else []
/-- What Transform adds of a pair. -/
def turnP (x : Pt × Pt) : List Pt := if isPutP x.2 then [⟨x.2.put.length, 0, []⟩] else if isPutP x.1 || isKeepP x.2 then [x.1] else []

/-- A part that is one thing, and not nothing. -/
def oneP (p : Pt) : Prop := (0 < p.keep ∧ p.drop = 0 ∧ p.put = []) ∨ (p.keep = 0 ∧ 0 < p.drop ∧ p.put = []) ∨ (p.keep = 0 ∧ p.drop = 0 ∧ p.put ≠ [])
theorem length_pos {p : Pt} (h : oneP p) : 0 < lengthP p := by
  unfold lengthP
  rcases h with ⟨h1, h2, h3⟩ | ⟨h1, h2, h3⟩ | ⟨h1, h2, h3⟩
  · rw [h2, h3]; simp; omega
  · rw [h1, h3]; simp; omega
  · have := List.length_pos_iff.2 h3; omega
theorem cut_one {p : Pt} (h : oneP p) {n : Int} (h0 : 0 < n) (hn : n ≤ lengthP p) : oneP (cutP p n).1 ∧ lengthP (cutP p n).1 = n ∧ (∀ q ∈ (cutP p n).2, oneP q ∧ lengthP q = lengthP p - n) ∧ ((cutP p n).2 = [] ↔ lengthP p = n) := by
  unfold cutP
  by_cases e : lengthP p = n
  · rw [if_pos e]; exact ⟨h, e, by simp, by simp [e]⟩
  · rw [if_neg e]
    obtain ⟨K, D, U⟩ := p
    have e' : ¬ K + D + (U.length : Int) = n := e
    have hn' : n ≤ K + D + (U.length : Int) := hn
    clear e hn
    rcases h with ⟨h1, h2, h3⟩ | ⟨h1, h2, h3⟩ | ⟨h1, h2, h3⟩
    · replace h1 : 0 < K := h1
      obtain rfl : D = 0 := h2
      obtain rfl : U = [] := h3
      have hl : (([] : List UInt8).length : Int) = 0 := rfl
      rw [hl] at e' hn'
      rw [if_pos (show 0 < (⟨K, 0, []⟩ : Pt).keep from h1)]
      refine ⟨.inl ⟨h0, rfl, rfl⟩, by simp [lengthP], ?_, ⟨fun h => (by cases h), fun h => absurd h (by simp only [lengthP, List.length_nil]; omega)⟩⟩
      intro q hq
      obtain rfl := List.mem_singleton.1 hq
      exact ⟨.inl ⟨by show 0 < K - n; omega, rfl, rfl⟩, by simp only [lengthP, List.length_nil]; omega⟩
    · obtain rfl : K = 0 := h1
      replace h2 : 0 < D := h2
      obtain rfl : U = [] := h3
      have hl : (([] : List UInt8).length : Int) = 0 := rfl
      rw [hl] at e' hn'
      rw [if_neg (show ¬ 0 < (⟨0, D, []⟩ : Pt).keep from Int.lt_irrefl 0), if_pos (show 0 < (⟨0, D, []⟩ : Pt).drop from h2)]
      refine ⟨.inr (.inl ⟨rfl, h0, rfl⟩), by simp [lengthP], ?_, ⟨fun h => (by cases h), fun h => absurd h (by simp only [lengthP, List.length_nil]; omega)⟩⟩
      intro q hq
      obtain rfl := List.mem_singleton.1 hq
      exact ⟨.inr (.inl ⟨rfl, by show 0 < D - n; omega, rfl⟩), by simp only [lengthP, List.length_nil]; omega⟩
    · obtain rfl : K = 0 := h1
      obtain rfl : D = 0 := h2
      replace h3 : U ≠ [] := h3
      rw [if_neg (show ¬ 0 < (⟨0, 0, U⟩ : Pt).keep from Int.lt_irrefl 0), if_neg (show ¬ 0 < (⟨0, 0, U⟩ : Pt).drop from Int.lt_irrefl 0)]
      have hl : (U.take n.toNat).length = n.toNat := by rw [List.length_take]; omega
      have hd : (U.drop n.toNat).length = U.length - n.toNat := List.length_drop
      refine ⟨.inr (.inr ⟨rfl, rfl, ?_⟩), by simp only [lengthP, hl]; omega, ?_, ⟨fun h => (by cases h), fun h => absurd h (by simp only [lengthP]; omega)⟩⟩
      · intro e'
        have := congrArg List.length e'
        rw [hl, List.length_nil] at this
        omega
      · intro q hq
        obtain rfl := List.mem_singleton.1 hq
        refine ⟨.inr (.inr ⟨rfl, rfl, ?_⟩), by simp only [lengthP, hd]; omega⟩
        intro e'
        have := congrArg List.length e'
        rw [hd, List.length_nil] at this
        omega
end Go.Proofs.YtedgnlgjmnccgabGreatDoor
