/-
  Plain mathematics, and memory: the rows of the document's Edges against what Walk hands over.
-/
import Derived.Test.YtldhbjmillfjgabGreatDoorRefEdges
import Derived.Test.YtldhbjmillfjgabGreatDoorWalkIter
import Derived.Test.YtldhbjmillfjgabGreatDoorRoundGrow
namespace Go.Proofs.YtldhbjmillfjgabGreatDoor
open Go.RowKit

theorem edges_len (rs : List Nat) (m : Nat) : (edges rs m).length = m * 4 := by
  induction m with
  | zero => rfl
  | succ m ih => rw [edges_succ, List.length_append, ih]; simp [edge]; omega
theorem edges_get (rs : List Nat) (m i j : Nat) (hi : i < m) (hj : j < 4) : (edges rs m)[i * 4 + j]? = (edge rs i)[j]? := by
  induction m with
  | zero => omega
  | succ m ih =>
    rw [edges_succ]
    by_cases h : i < m
    · rw [List.getElem?_append_left (by rw [edges_len]; omega)]
      exact ih h
    · have : i = m := by omega
      subst this
      rw [List.getElem?_append_right (by rw [edges_len]; omega), edges_len]
      congr 1
      omega

/-- The cells of an edge in memory. -/
theorem edge_cell {w : World} {B m g c : Nat} {rs : List Nat} (h : w.ownsRow B 25 4 (.slice (some ⟨g, 0, none⟩) m c) m (edges rs m)) (i j : Nat) (hi : i < m) (hj : j < 4) {v : Value} (hv : (edge rs i)[j]? = some v) :
    w.cell? ⟨g, i * 4 + j, none⟩ = some v := by
  obtain ⟨h0, hrow⟩ := h
  rcases hrow with ⟨h1, h2⟩ | ⟨g', cap, cur, h1, h2, h3, h4, h5, h6, h7⟩
  · omega
  · cases h1
    have hlt : i * 4 + j < m * 4 := by omega
    have hc : cur[i * 4 + j]? = some v := by
      rw [← Array.getElem?_toList]
      have := congrArg (·[i * 4 + j]?) h7
      simp only [List.getElem?_take, hlt, if_true] at this
      rw [this, edges_get rs m i j hi hj, hv]
    unfold World.cell?
    simp [h3, hc]

theorem own_pos {w : World} {B e size n : Nat} {v : Value} {xs : List Value} (h : w.ownsRow B e size v n xs) (hn : 0 < n) : ∃ g c, v = .slice (some ⟨g, 0, none⟩) n c ∧ B ≤ g ∧ g < w.heap.size := by
  rcases h.2 with ⟨_, h2⟩ | ⟨g, cap, cur, h1, h2, h3, _⟩
  · omega
  · exact ⟨g, cap, h1, h2, (Array.getElem?_eq_some_iff.1 h3).1⟩

end Go.Proofs.YtldhbjmillfjgabGreatDoor
