/-
  What Transform and Compose go through side by side: ready, and how heavy (pure, and worlds).
-/
import Derived.Test.YtedgnlgjmnccgabGreatDoorOpsSideK
import Derived.Test.YtedgnlgjmnccgabGreatDoorOpsSideA
import Derived.Test.YtedgnlgjmnccgabGreatDoorOpsSideB
import Derived.Test.YtedgnlgjmnccgabGreatDoorOpsSideC
namespace Go.Proofs.YtedgnlgjmnccgabGreatDoor
open Go.RowKit
set_option linter.unusedVariables false

theorem side_ready {w4 X5 w5 w6 : World} {a : Nat} {v1 v2 : Value} {N1 N2 : List Pt} (bx : List (Nat × Obj)) (hG : ∀ M w2, Below w4.heap.size w4 w2 → a + 4 ≤ M → M ≤ w2.heap.size → gath M w2 a nst0) (hz : w4.heap.size = a + 4)
    (hb : boxesP bx X5) (hk : ∀ x ∈ bx, a + 4 ≤ x.1 ∧ (∀ c fz, x.2 ≠ .cells c 5 fz) ∧ ∀ c fz, x.2 ≠ .cells c 50 fz) (h45 : Below w4.heap.size w4 X5)
    (o1 : w5.ownsRow X5.heap.size 50 3 v1 N1.length (cellsP N1)) (b5 : Below X5.heap.size X5 w5) (s5 : X5.heap.size + 4 ≤ w5.heap.size)
    (o2 : w6.ownsRow w5.heap.size 50 3 v2 N2.length (cellsP N2)) (b6 : Below w5.heap.size w5 w6) (s6 : w5.heap.size + 4 ≤ w6.heap.size) :
    ∃ g1 g2, sideI w6.heap.size a g1 g2 bx w6 v1 v2 N1 N2 nst0 w6 ∧ boxesOk a g1 g2 bx ∧ a + 4 ≤ g1 ∧ g1 < w6.heap.size ∧ a + 4 ≤ g2 ∧ g2 < w6.heap.size ∧ g1 ≠ g2 := by
  have s4 := h45.size
  obtain ⟨g1, hg1, r1⟩ := winP_own o1
  obtain ⟨g2, hg2, r2⟩ := winP_own o2
  have b46 : Below w4.heap.size w4 w6 := (h45.trans (b5.mono s4)).trans (b6.mono (by omega))
  have b56 : Below X5.heap.size X5 w6 := b5.trans (b6.mono (by omega))
  refine ⟨g1, g2, ⟨.refl _ _, hG _ _ b46 (by omega) (Nat.le_refl _), winP_below r1 b6, r2, fun x hx => (b56.block _ (heap_lt (hb x hx))).trans (hb x hx)⟩, fun x hx => ?_, by omega, by omega, by omega, by omega, by omega⟩
  obtain ⟨k1, k2, k3⟩ := hk x hx
  have := heap_lt (hb x hx)
  exact ⟨k1, by omega, by omega, k2, k3⟩

theorem act_sum (f : Pt → Int) (l : List Pt) : ∀ x : Int, l.foldl (fun x p => x + f p) x = x + (l.map f).sum := by
  induction l with
  | nil => intro x; simp
  | cons p l ih => intro x; rw [List.foldl_cons, ih, List.map_cons, List.sum_cons]; omega
theorem norm_wts (ps : List Pt) (h : ∀ p ∈ ps, 0 ≤ p.keep ∧ 0 ≤ p.drop) : wts (normP ps) = wts ps := by
  have ok : ActP (fun (x : Int) p => x + wtP p) := by
    constructor
    · intro x; simp [wtP]
    · intro x u v; simp only [wtP, List.length_append]; push_cast; omega
    · intro x a b _ _; simp only [wtP, List.length_nil]; omega
    · intro x a b _ _; simp only [wtP, List.length_nil]; omega
    · intro x k d u; simp only [wtP, List.length_nil]; omega
    · intro x d u; simp only [wtP, List.length_nil]; omega
  have := act_norm ok ps h 0
  rw [act_sum, act_sum] at this
  simpa [wts] using this
theorem norm_isP (ps : List Pt) (h : ∀ p ∈ ps, 0 ≤ p.keep ∧ 0 ≤ p.drop) : ((normP ps).map isP).sum = (ps.map isP).sum := by
  have ok : ActP (fun (x : Int) p => x + isP p) := by
    constructor
    · intro x; simp [isP]
    · intro x u v; simp only [isP, List.length_append]; push_cast; omega
    · intro x a b _ _; simp only [isP, List.length_nil]; omega
    · intro x a b _ _; simp only [isP, List.length_nil]; omega
    · intro x k d u; simp only [isP, List.length_nil]; omega
    · intro x d u; simp only [isP, List.length_nil]; omega
  have := act_norm ok ps h 0
  rw [act_sum, act_sum] at this
  simpa using this
theorem weight_wts : ∀ (A : List Pt), (∀ p ∈ A, oneP p) → (weight A : Int) = wts A
  | [], _ => by simp [weight, wts]
  | p :: A, h => by
    have ih := weight_wts A fun q hq => h q (by simp [hq])
    have h1 := length_pos (h p (by simp))
    have e : wts (p :: A) = wtP p + wts A := by simp [wts]
    have e2 : wtP p = lengthP p := rfl
    rw [weight_cons, e, e2]
    omega
theorem meas_put : ∀ (A : List Pt), (∀ p ∈ A, oneP p) → measP isPutP A = longP A
  | [], _ => by simp [measP, longP]
  | p :: A, h => by
    have ih := meas_put A fun q hq => h q (by simp [hq])
    have e : longP (p :: A) = lenP p + longP A := by simp [longP]
    rw [meas_cons, ih, e]
    rcases h p (by simp) with ⟨h1, h2, h3⟩ | ⟨h1, h2, h3⟩ | ⟨h1, h2, h3⟩
    · simp [isPutP, h3, lengthP, lenP]
    · simp [isPutP, h3, lengthP, lenP]
    · simp [isPutP, h3, lenP, h1, h2]
theorem meas_drop : ∀ (A : List Pt), (∀ p ∈ A, oneP p) → measP isDropP A = (A.map isP).sum
  | [], _ => by simp [measP]
  | p :: A, h => by
    have ih := meas_drop A fun q hq => h q (by simp [hq])
    rw [meas_cons, ih, List.map_cons, List.sum_cons]
    rcases h p (by simp) with ⟨h1, h2, h3⟩ | ⟨h1, h2, h3⟩ | ⟨h1, h2, h3⟩
    · simp [isDropP, h2, h3, lengthP, isP]
    · simp [isDropP, h2, h3, isP, h1]
    · simp [isDropP, h2, lengthP, isP]
theorem run_flat (t : Pt × Pt → List Pt) (l : List (Pt × Pt)) : ∀ s, runS t l s = (l.flatMap t).foldl addP s := by
  induction l with
  | nil => intro s; rfl
  | cons x l ih => intro s; rw [List.flatMap_cons, List.foldl_append]; exact ih _
/-- What is gathered at the end is small. -/
theorem run_small {t : Pt × Pt → List Pt} {l : List (Pt × Pt)} (hB : BdS t l nst0 0 0) : (runS t l nst0).out.length < 1000000000 ∧ (runS t l nst0).put.length < 1000000000 := by
  rw [run_flat]
  have hb := bds (l.flatMap t) fun p hp => by
    obtain ⟨x, hx, hp⟩ := List.mem_flatMap.1 hp
    exact hB.sound x hx p hp
  have h1 : (l.flatMap t).length ≤ l.length := by
    have key : ∀ (l : List (Pt × Pt)), (∀ x ∈ l, (t x).length ≤ 1) → (l.flatMap t).length ≤ l.length := by
      intro l
      induction l with
      | nil => intro _; simp
      | cons x l ih =>
        intro h
        have h1 := h x (by simp)
        have h2 := ih fun y hy => h y (by simp [hy])
        rw [List.flatMap_cons, List.length_append, List.length_cons]
        omega
    exact key l hB.one
  have h2 := hb.len
  have h3 := hb.put
  have h4 := hB.w
  have h5 := hB.n
  exact ⟨by omega, by omega⟩
/-- An operation that may be, and is not too great. -/
structure fineP (ps : List Pt) : Prop where
  one : ∀ p ∈ ps, oneP p
  w : wts ps < 2000000
  len : ps.length < 10000000
theorem fine_norm {ps : List Pt} (h : fineP ps) : (∀ p ∈ normP ps, oneP p ∧ lengthP p < 1000000000) ∧ weight (normP ps) < 2000000 ∧ longP (normP ps) = longP ps ∧ ((normP ps).map isP).sum = (ps.map isP).sum := by
  have hs := ones_sound h.one
  have h1 := norm_one ps hs
  have h2 := weight_wts _ h1
  rw [norm_wts ps hs] at h2
  have h3 := h.w
  refine ⟨fun p hp => ⟨h1 p hp, ?_⟩, by omega, norm_long ps, norm_isP ps hs⟩
  obtain ⟨l1, l2, e⟩ := List.append_of_mem hp
  have h4 := weight_wts _ h1
  rw [e, weight_append, weight_cons] at h4
  rw [e] at h2
  have h5 := length_pos (h1 p hp)
  rw [weight_append, weight_cons] at h2
  omega
theorem fine_lens {ps : List Pt} (h : fineP ps) : (lensW ps).1 = longP ps ∧ (lensW ps).2 = (ps.map isP).sum := by
  have hs := ones_sound h.one
  obtain ⟨h1, h2, _, _⟩ := lens_plain ps (fun p hp => hs p hp) (by have := h.w; omega)
  refine ⟨?_, h2⟩
  rw [h1, spreads_eq]
  exact lensU_long ps hs
end Go.Proofs.YtedgnlgjmnccgabGreatDoor
