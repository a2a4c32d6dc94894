/-
  Plain mathematics, and memory: the rows of the document's Edges against what Walk hands over.
-/
import Derived.Test.YtdgpkbgmpdmiaaaDoorRefEdges
import Derived.Test.YtdgpkbgmpdmiaaaDoorWalkIter
import Derived.Test.YtdgpkbgmpdmiaaaDoorRoundGrow
namespace Go.Proofs.YtdgpkbgmpdmiaaaDoor
open Go.RowKit

/-- An edge, by what is counted ahead of it. -/
theorem edge_sums {rs : List Nat} (hr : ∀ r ∈ rs, isRune r) {pre rest : List (Nat × Nat)} (h : wide rs = pre ++ rest) :
    edge rs pre.length = [.int .i64 (sum1 pre), .int .i64 (sum2 pre), .int .i64 pre.length, .int .i64 (sum4 pre)] := by
  have hp : pre = wide (rs.take pre.length) := by
    have := congrArg (List.take pre.length) h
    rw [List.take_left] at this
    unfold wide at this ⊢
    rw [List.map_take]
    exact this.symm
  have hrt : ∀ r ∈ rs.take pre.length, isRune r := fun r hm => hr r (List.mem_of_mem_take hm)
  have e1 := sum1_wide (rs.take pre.length)
  have e2 := sum2_wide (rs.take pre.length)
  have e4 := sum4_wide hrt
  rw [← hp] at e1 e2 e4
  unfold edge edge1 edge2 edge4
  rw [e1, e2, e4]

theorem sums_snoc (pre : List (Nat × Nat)) (x : Nat × Nat) : sum1 (pre ++ [x]) = sum1 pre + x.2 ∧ sum2 (pre ++ [x]) = sum2 pre + cH x.1 ∧ sum4 (pre ++ [x]) = sum4 pre + cL x.1 := by
  simp [sum1, sum2, sum4]

theorem edges_len (rs : List Nat) (m : Nat) : (edges rs m).length = m * 4 := by
  induction m with
  | zero => rfl
  | succ m ih => rw [edges_succ, List.length_append, ih]; simp [edge]; omega
theorem edges_get (rs : List Nat) (m i j : Nat) (hi : i < m) (hj : j < 4) : (edges rs m)[i * 4 + j]? = (edge rs i)[j]? := by
  induction m with
  | zero => omega
  | succ m ih =>
    rw [edges_succ]
    by_cases h : i < m
    · rw [List.getElem?_append_left (by rw [edges_len]; omega)]
      exact ih h
    · have : i = m := by omega
      subst this
      rw [List.getElem?_append_right (by rw [edges_len]; omega), edges_len]
      congr 1
      omega

/-- The cells of an edge in memory. -/
theorem edge_cell {w : World} {B m g c : Nat} {rs : List Nat} (h : w.ownsRow B 36 4 (.slice (some ⟨g, 0, none⟩) m c) m (edges rs m)) (i j : Nat) (hi : i < m) (hj : j < 4) {v : Value} (hv : (edge rs i)[j]? = some v) :
    w.cell? ⟨g, i * 4 + j, none⟩ = some v := by
  obtain ⟨h0, hrow⟩ := h
  rcases hrow with ⟨h1, h2⟩ | ⟨g', cap, cur, h1, h2, h3, h4, h5, h6, h7⟩
  · omega
  · cases h1
    have hlt : i * 4 + j < m * 4 := by omega
    have hc : cur[i * 4 + j]? = some v := by
      rw [← Array.getElem?_toList]
      have := congrArg (·[i * 4 + j]?) h7
      simp only [List.getElem?_take, hlt, if_true] at this
      rw [this, edges_get rs m i j hi hj, hv]
    unfold World.cell?
    simp [h3, hc]

theorem own_pos {w : World} {B e size n : Nat} {v : Value} {xs : List Value} (h : w.ownsRow B e size v n xs) (hn : 0 < n) : ∃ g c, v = .slice (some ⟨g, 0, none⟩) n c ∧ B ≤ g ∧ g < w.heap.size := by
  rcases h.2 with ⟨_, h2⟩ | ⟨g, cap, cur, h1, h2, h3, _⟩
  · omega
  · exact ⟨g, cap, h1, h2, (Array.getElem?_eq_some_iff.1 h3).1⟩

/-- A variable in the one but last of three new blocks is written. -/
theorem below_turn {A W : World} {o1 o3 : Obj} {x y : Value} {t : TypeId} (h : Below (A.heap.size + 3) (((A.alloc o1).alloc (.cells #[x] t)).alloc o3) W) :
    Below (A.heap.size + 3) (((A.alloc o1).alloc (.cells #[y] t)).alloc o3) (W.setCell ⟨A.heap.size + 1, 0, none⟩ y) := by
  refine ⟨h.os, h.tape, h.output, by have := h.size; simp at this ⊢; omega, fun k hk => ?_⟩
  have hb := h.block k hk
  by_cases e : k = A.heap.size + 1
  · subst e
    have e1 : ∀ z, (((A.alloc o1).alloc (.cells #[z] t)).alloc o3).heap[A.heap.size + 1]? = some (.cells #[z] t) := fun z => by
      rw [Below.heap_alloc _ _ _ (by simp)]
      have := World.alloc_heap_new (A.alloc o1) (.cells #[z] t)
      rwa [World.size_alloc] at this
    rw [e1] at hb ⊢
    obtain ⟨hlt, hb'⟩ := Array.getElem?_eq_some_iff.1 hb
    simp only [World.setCell, Array.getElem?_modify, if_true, hb]
    rfl
  · rw [Below.heap_setCell _ _ _ _ e, hb]
    have e2 : ∀ z z', k ≠ A.heap.size + 1 → (((A.alloc o1).alloc (.cells #[z] t)).alloc o3).heap[k]? = (((A.alloc o1).alloc (.cells #[z'] t)).alloc o3).heap[k]? := fun z z' hne => by
      by_cases h2 : k = A.heap.size + 2
      · subst h2
        have e3 : ∀ z, (((A.alloc o1).alloc (.cells #[z] t)).alloc o3).heap[A.heap.size + 2]? = some o3 := fun z => by
          have := World.alloc_heap_new ((A.alloc o1).alloc (.cells #[z] t)) o3
          rwa [World.size_alloc, World.size_alloc] at this
        rw [e3, e3]
      · have e4 : ∀ z, (((A.alloc o1).alloc (.cells #[z] t)).alloc o3).heap[k]? = (A.alloc o1).heap[k]? := fun z =>
          (Below.heap_alloc _ _ _ (by rw [World.size_alloc, World.size_alloc]; omega)).trans (Below.heap_alloc _ _ _ (by rw [World.size_alloc]; omega))
        rw [e4, e4]
    exact e2 _ _ e

/-- The runes ahead of the first bad byte are a sound text's. -/
theorem scan_place (s : ByteArray) (_h : (scan s.data.toList).2 = false) : place s.data.toList ≤ s.size ∧ (scan (s.extract 0 (place s.data.toList)).data.toList).2 = true ∧ runesOf (s.extract 0 (place s.data.toList)).data.toList = runesOf s.data.toList := by
  obtain ⟨h0, t, h1, _, _⟩ := scan_spec s.data.toList.length s.data.toList (Nat.le_refl _)
  have hl : (encs (runesOf s.data.toList)).length = place s.data.toList := by
    have e := sum1_wide (runesOf s.data.toList)
    rw [← scan_wide] at e
    unfold place
    have : ∀ l : List (Nat × Nat), sum1 l = (((l.map (·.2)).sum : Nat) : Int) := fun l => by
      induction l with
      | nil => rfl
      | cons p l ih => unfold sum1 at ih ⊢; rw [List.map_cons, List.sum_cons, ih, List.map_cons, List.sum_cons]; push_cast; rfl
    rw [this] at e
    omega
  have h1' : s.data.toList = encs (runesOf s.data.toList) ++ t := h1
  have hle : place s.data.toList ≤ s.size := by
    have := congrArg List.length h1'
    rw [List.length_append, hl, ← Lib.size_eq] at this
    omega
  have hx : (s.extract 0 (place s.data.toList)).data.toList = encs (runesOf s.data.toList) := by
    rw [take_extract, ← hl]
    have := congrArg (List.take (encs (runesOf s.data.toList)).length) h1'
    rw [List.take_left] at this
    exact this
  have hsc := scan_encs (runesOf s.data.toList) fun r hr => runesOf_rune hr
  rw [hx]
  refine ⟨hle, by rw [hsc], ?_⟩
  generalize runesOf s.data.toList = R at hsc
  show (scan (encs R)).1.map (·.1) = R
  rw [hsc]
  simp [wide, Function.comp_def]
end Go.Proofs.YtdgpkbgmpdmiaaaDoor
