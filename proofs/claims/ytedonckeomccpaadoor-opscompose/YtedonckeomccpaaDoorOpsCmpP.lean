/-
  The document's Compose: its cells as rows, and what its loops have made so far (pure).
-/
import Derived.Test.YtedonckeomccpaaDoorOpsRefTr
namespace Go.Proofs.YtedonckeomccpaaDoor
open Go.RowKit
set_option linter.unusedVariables false

theorem cell_set_at {w : World} {b b' i j : Nat} {x : Value} (h : b' ≠ b) : (w.setCell ⟨b, i, none⟩ x).cell? ⟨b', j, none⟩ = w.cell? ⟨b', j, none⟩ := World.cell?_setCell_other _ _ _ _ (by intro e; simp only [Addr.mk.injEq] at e; exact h e.1.symm)
def celCells (x : Cel) : List Value := [.int .i64 x.1, .int .u8 (x.2.toNat : Int)]
def cellsC (l : List Cel) : List Value := l.flatMap celCells
theorem cellsC_append (l m : List Cel) : cellsC (l ++ m) = cellsC l ++ cellsC m := by simp [cellsC]
theorem cellsC_len (l : List Cel) : (cellsC l).length = l.length * 2 := by
  induction l with
  | nil => rfl
  | cons x l ih =>
    have : cellsC (x :: l) = celCells x ++ cellsC l := rfl
    rw [this, List.length_append, ih, List.length_cons]
    show 2 + _ = _
    omega
theorem info_cel : (Tryd.prog.info? 163).map (fun i => (i.zero, i.size, i.bytes)) = some (some (.agg #[.int .i64 0, .int .u8 0]), 2, 16) := by kernel_rfl
theorem celCells_one (x : Cel) : ∀ u ∈ celCells x, u.oneCell' = true := by
  intro u hu
  simp only [celCells, List.mem_cons, List.not_mem_nil, or_false] at hu
  rcases hu with rfl | rfl <;> rfl
theorem cellsC_one (l : List Cel) : ∀ u ∈ cellsC l, u.oneCell' = true := by
  intro u hu
  obtain ⟨x, _, hx⟩ := List.mem_flatMap.1 hu
  exact celCells_one x u hx
theorem cellsC_get (l : List Cel) (i : Nat) (x : Cel) (hi : l[i]? = some x) : (cellsC l)[i * 2]? = some (.int .i64 x.1) ∧ (cellsC l)[i * 2 + 1]? = some (.int .u8 (x.2.toNat : Int)) := by
  induction l generalizing i with
  | nil => simp at hi
  | cons y l ih =>
    have e : cellsC (y :: l) = .int .i64 y.1 :: .int .u8 (y.2.toNat : Int) :: cellsC l := rfl
    cases i with
    | zero =>
      obtain rfl : y = x := by simpa using hi
      rw [e]; exact ⟨rfl, rfl⟩
    | succ i =>
      obtain ⟨h1, h2⟩ := ih i (by simpa using hi)
      rw [e, show (i + 1) * 2 = i * 2 + 1 + 1 by omega]
      exact ⟨by simpa using h1, by simpa using h2⟩

theorem mid_snoc : ∀ (l : List Pt) (p : Pt) (i : Int), midP i (l ++ [p]) = midP i l ++ (fromC (i + longP l) p.keep.toNat ++ putC p.put)
  | [], p, i => by simp [midP, longP]
  | q :: l, p, i => by
    have ih := mid_snoc l p (i + q.keep + q.drop)
    rw [List.cons_append, midP, midP, ih]
    have e : longP (q :: l) = q.keep + q.drop + longP l := by simp [longP, lenP]
    rw [e, show i + q.keep + q.drop + longP l = i + (q.keep + q.drop + longP l) by omega]
    simp
theorem end_snoc : ∀ (l : List Pt) (p : Pt) (mid : List Cel), (∀ q ∈ l, 0 ≤ q.keep ∧ 0 ≤ q.drop) → endP mid (l ++ [p]) = endP mid l ++ ((mid.drop (longP l).toNat).take p.keep.toNat ++ putC p.put)
  | [], p, mid, _ => by simp [endP, longP]
  | q :: l, p, mid, h => by
    have h1 := h q (by simp)
    have h2 : 0 ≤ longP l := by
      have hl := fun x hx => h x (List.mem_cons_of_mem q hx)
      clear h h1
      induction l with
      | nil => simp [longP]
      | cons x l ih =>
        have h3 := hl x (by simp)
        have h4 := ih fun y hy => hl y (by simp [hy])
        have e : longP (x :: l) = x.keep + x.drop + longP l := by simp [longP, lenP]
        omega
    have ih := end_snoc l p (mid.drop (q.keep + q.drop).toNat) fun x hx => h x (by simp [hx])
    rw [List.cons_append, endP, endP, ih, List.drop_drop]
    have e : longP (q :: l) = q.keep + q.drop + longP l := by simp [longP, lenP]
    rw [e, show (q.keep + q.drop + longP l).toNat = (q.keep + q.drop).toNat + (longP l).toNat by omega]
    simp
theorem long_snoc (l : List Pt) (p : Pt) : longP (l ++ [p]) = longP l + (p.keep + p.drop) := by simp [longP, lenP]
theorem fromC_snoc (i : Int) (t : Nat) : fromC i (t + 1) = fromC i t ++ [(i + t, 0)] := by
  rw [fromC_append]; simp [fromC]
theorem putC_snoc (u : List UInt8) (t : Nat) (h : t < u.length) : putC (u.take (t + 1)) = putC (u.take t) ++ [(-1, u[t])] := by
  rw [List.take_succ_eq_append_getElem h, putC_append]; rfl
theorem long_nonneg : ∀ (l : List Pt), (∀ q ∈ l, 0 ≤ q.keep ∧ 0 ≤ q.drop) → 0 ≤ longP l
  | [], _ => by simp [longP]
  | x :: l, h => by
    have h3 := h x (by simp)
    have h4 := long_nonneg l fun y hy => h y (by simp [hy])
    have e : longP (x :: l) = x.keep + x.drop + longP l := by simp [longP, lenP]
    omega

theorem isP_take {ps : List Pt} (h : fineP ps) (j : Nat) : (((ps.take j).map isP).sum : Int) ≤ wts ps := by
  have hs := ones_sound h.one
  have key : ∀ (l : List Pt), (∀ q ∈ l, 0 ≤ q.keep ∧ 0 ≤ q.drop) → 0 ≤ (l.map isP).sum ∧ (l.map isP).sum ≤ wts l := by
    intro l
    induction l with
    | nil => intro _; simp [wts]
    | cons x l ih =>
      intro hl
      have h1 := hl x (by simp)
      obtain ⟨h2, h3⟩ := ih fun y hy => hl y (by simp [hy])
      have e : wts (x :: l) = wtP x + wts l := by simp [wts]
      have e2 : isP x = x.keep + x.put.length := rfl
      have e3 : wtP x = x.keep + x.drop + x.put.length := rfl
      rw [List.map_cons, List.sum_cons, e]
      omega
  have h1 := (key (ps.take j) fun q hq => hs q (List.mem_of_mem_take hq)).2
  have h2 := (key (ps.drop j) fun q hq => hs q (List.mem_of_mem_drop hq))
  have e : wts ps = wts (ps.take j) + wts (ps.drop j) := by
    have := wts_append (ps.take j) (ps.drop j)
    rwa [List.take_append_drop] at this
  omega
theorem mid_small {ps : List Pt} (h : fineP ps) (j : Nat) : (midP 0 (ps.take j)).length < 2000000 := by
  have h1 := mid_len (ps.take j) 0 fun q hq => (ones_sound h.one q (List.mem_of_mem_take hq)).1
  have h2 := isP_take h j
  have h3 := h.w
  omega

theorem end_len_le : ∀ (l : List Pt) (mid : List Cel), (∀ q ∈ l, 0 ≤ q.keep ∧ 0 ≤ q.drop) → ((endP mid l).length : Int) ≤ (l.map isP).sum
  | [], _, _ => by simp [endP]
  | q :: l, mid, h => by
    have h1 := h q (by simp)
    have ih := end_len_le l (mid.drop (q.keep + q.drop).toNat) fun x hx => h x (by simp [hx])
    simp only [endP, List.length_append, List.length_take, putC_len, List.map_cons, List.sum_cons, isP]
    omega
theorem end_small {ps : List Pt} (h : fineP ps) (M : List Cel) (j : Nat) : (endP M (ps.take j)).length < 2000000 := by
  have h1 := end_len_le (ps.take j) M fun q hq => ones_sound h.one q (List.mem_of_mem_take hq)
  have h2 := isP_take h j
  have h3 := h.w
  omega

theorem cellsC_window (M : List Cel) (A K j : Nat) (u : Value) (h : (cellsC ((M.drop A).take K))[j]? = some u) : (cellsC M)[A * 2 + j]? = some u := by
  by_cases hA : A ≤ M.length
  · have e1 : M = M.take A ++ ((M.drop A).take K ++ (M.drop A).drop K) := by rw [List.take_append_drop, List.take_append_drop]
    have hlt := (List.getElem?_eq_some_iff.1 h).1
    rw [e1, cellsC_append, cellsC_append]
    have hl : (cellsC (M.take A)).length = A * 2 := by rw [cellsC_len, List.length_take]; omega
    rw [List.getElem?_append_right (by omega), hl, Nat.add_sub_cancel_left, List.getElem?_append_left hlt]
    exact h
  · rw [List.drop_of_length_le (by omega)] at h
    simp [cellsC] at h

/-- A row of cells grows by one. -/
theorem grown_box {w w' : World} {b : Nat} {o : Obj} {v : Value} {N n : Nat} {xs : List Value} (h : w.heap[b]? = some o) (hr : w.ownsRow N 163 2 v n xs) (hg : w.grownBy w' v.ownBlock) (ho : ∀ c fz, o ≠ .cells c 163 fz) : w'.heap[b]? = some o := by
  refine (hg.block b (heap_lt h) ?_).trans h
  intro e
  rcases hr.2 with ⟨hx, _⟩ | ⟨g, cap, cur, rfl, _, hgg, _⟩
  · rw [hx] at e; cases e
  · have e2 : some b = some g := e
    obtain rfl := Option.some.inj e2
    rw [h] at hgg
    exact ho _ _ (Option.some.inj hgg)

theorem okC_mem (n : Int) : ∀ (E : List Cel) (pos : Int), 0 ≤ pos → okC n E pos → ∀ x ∈ E, x.1 < 0 ∨ (0 ≤ x.1 ∧ x.1 < n)
  | [], _, _, _, _, hx => by cases hx
  | (i, c) :: E, pos, h0, h, x, hx => by
    rw [okC] at h
    by_cases hi : i < 0
    · rw [if_pos hi] at h
      rcases List.mem_cons.1 hx with rfl | hx
      · exact .inl hi
      · exact okC_mem n E pos h0 h x hx
    · rw [if_neg hi] at h
      rcases List.mem_cons.1 hx with rfl | hx
      · exact .inr ⟨by show 0 ≤ i; omega, h.2.1⟩
      · exact okC_mem n E (i + 1) (by omega) h.2.2 x hx
structure CInv (n j : Nat) (s : CSt) : Prop where
  put : s.put.length = n + 1
  drop : s.drop.length = n
  last : s.last ≤ n
  small : ∀ u ∈ s.put, u.length ≤ j
theorem CInv.step {n j : Nat} {s : CSt} {x : Cel} (h : CInv n j s) (hx : x.1 < 0 ∨ (0 ≤ x.1 ∧ x.1 < (n : Int))) : CInv n (j + 1) (stepC s x) := by
  obtain ⟨h1, h2, h3, h4⟩ := h
  unfold stepC
  split
  · refine ⟨by simpa using h1, h2, h3, fun u hu => ?_⟩
    rcases List.mem_or_eq_of_mem_set hu with hu | rfl
    · have := h4 u hu; omega
    · have : (s.put[s.last]?.getD []).length ≤ j := by
        cases hq : s.put[s.last]? with
        | none => simp
        | some v => exact h4 v (List.mem_of_getElem? hq)
      rw [List.length_append]; simp; omega
  · refine ⟨h1, by simpa using h2, by show (x.1 + 1).toNat ≤ n; omega, fun u hu => by have := h4 u hu; omega⟩
def cst0 (n : Nat) : CSt := ⟨List.replicate (n + 1) [], List.replicate n true, 0⟩
theorem cinv0 (n : Nat) : CInv n 0 (cst0 n) := ⟨by simp [cst0], by simp [cst0], Nat.zero_le _, fun u hu => by rw [List.eq_of_mem_replicate hu]; simp⟩
theorem cinvs (n : Nat) (E : List Cel) (h : ∀ x ∈ E, x.1 < 0 ∨ (0 ≤ x.1 ∧ x.1 < (n : Int))) (j : Nat) (hj : j ≤ E.length) : CInv n j ((E.take j).foldl stepC (cst0 n)) := by
  induction j with
  | zero => exact cinv0 n
  | succ j ih =>
    rw [List.take_succ_eq_append_getElem (by omega), List.foldl_append]
    exact (ih (by omega)).step (h _ (List.getElem_mem _))
/-- The rows of gaps that the third and the fourth loop write. -/
structure gapR (w0 : World) (N g1 g2 q n : Nat) (P : List (List UInt8)) (D : List Bool) (wr : World) : Prop where
  r1 : wr.ownsRow N 9 1 (.slice (some ⟨g1, 0, none⟩) (n + 1) (n + 1)) (n + 1) (P.map strV)
  r2 : wr.ownsRow N 4 1 (.slice (some ⟨g2, 0, none⟩) n n) n (D.map Value.bool)
  c0 : wr.cell? ⟨q, 0, none⟩ = some (.slice (some ⟨g1, 0, none⟩) (n + 1) (n + 1))
  c1 : wr.cell? ⟨q, 1, none⟩ = some (.slice (some ⟨g2, 0, none⟩) n n)
  ne : g1 ≠ g2 ∧ q ≠ g1 ∧ q ≠ g2
  below : Below N w0 wr
theorem gapR_alloc {w0 wr : World} {N g1 g2 q n : Nat} {P : List (List UInt8)} {D : List Bool} (h : gapR w0 N g1 g2 q n P D wr) (hN : N ≤ wr.heap.size) (o : Obj) : gapR w0 N g1 g2 q n P D (wr.alloc o) := by
  have hb : Below wr.heap.size wr (wr.alloc o) := (Below.refl _ _).alloc (Nat.le_refl _) _
  exact ⟨h.r1.alloc o, h.r2.alloc o, (hb.cell (World.block_lt_of_cell? wr _ h.c0)).trans h.c0, (hb.cell (World.block_lt_of_cell? wr _ h.c1)).trans h.c1, h.ne, h.below.alloc hN o⟩
theorem gapR_drop {w0 wr : World} {N g1 g2 q n : Nat} {P : List (List UInt8)} {D : List Bool} (h : gapR w0 N g1 g2 q n P D wr) (i : Nat) (d : Bool) : gapR w0 N g1 g2 q n P (D.set i d) (wr.setCell ⟨g2, i, none⟩ (.bool d)) := by
  obtain ⟨s1, s2⟩ := h.r2.stored i (.bool d)
  have hlt := h.r2.lt g2 rfl
  have k1 := h.r1.kept s2 (.inr (by simp only [Value.ownBlock]; intro e; exact h.ne.1 (Option.some.inj e)))
  have e : (D.set i d).map Value.bool = (D.map Value.bool).set i (.bool d) := by rw [List.map_set]
  refine ⟨k1, by rw [e]; exact s1, ?_, ?_, h.ne, h.below.setCell (by show N ≤ g2; exact hlt.1) _⟩
  · rw [cell_set_at h.ne.2.2]; exact h.c0
  · rw [cell_set_at h.ne.2.2]; exact h.c1
theorem gapR_put {w0 wr : World} {N g1 g2 q n : Nat} {P : List (List UInt8)} {D : List Bool} (h : gapR w0 N g1 g2 q n P D wr) (i : Nat) (u : List UInt8) : gapR w0 N g1 g2 q n (P.set i u) D (wr.setCell ⟨g1, i, none⟩ (.string ⟨u.toArray⟩)) := by
  obtain ⟨s1, s2⟩ := h.r1.stored i (.string ⟨u.toArray⟩)
  have hlt := h.r1.lt g1 rfl
  have k2 := h.r2.kept s2 (.inr (by simp only [Value.ownBlock]; intro e; exact h.ne.1 (Option.some.inj e).symm))
  have e : (P.set i u).map strV = (P.map strV).set i (.string ⟨u.toArray⟩) := by rw [List.map_set]; rfl
  refine ⟨by rw [e]; exact s1, k2, ?_, ?_, h.ne, h.below.setCell (by show N ≤ g1; exact hlt.1) _⟩
  · rw [cell_set_at h.ne.2.1]; exact h.c0
  · rw [cell_set_at h.ne.2.1]; exact h.c1

theorem gapR_drew {w0 wr : World} {N g1 g2 q n : Nat} {P : List (List UInt8)} {D : List Bool} (h : gapR w0 N g1 g2 q n P D wr) : gapR w0 N g1 g2 q n P D wr.drew := ⟨h.r1.drew, h.r2.drew, h.c0, h.c1, h.ne, h.below.drew⟩
theorem bytes_snoc (u : List UInt8) (c : UInt8) : ByteArray.mk u.toArray ++ ByteArray.mk #[c] = ByteArray.mk (u ++ [c]).toArray := by
  apply ByteArray.ext
  rw [ByteArray.data_append]
  simp
def putsN (g : GSt) : Nat := putsK g.1 + g.2.length
theorem puts_dropG (f : List UInt8 → GSt) (X : Nat) (hf : ∀ acc, putsN (f acc) ≤ acc.length + X) : ∀ (m : Nat) (acc : List UInt8), putsN (dropG acc m f) ≤ acc.length + X
  | 0, acc => hf acc
  | m + 1, acc => by
    have ih := puts_dropG f X hf m []
    have e : putsN (dropG acc (m + 1) f) = acc.length + putsN (dropG [] m f) := by
      show putsK ((acc, true) :: (dropG [] m f).1) + _ = _
      unfold putsN putsK
      simp only [List.map_cons, List.sum_cons]
      show _ + (dropG [] m f).2.length = _
      omega
    rw [e]
    simp only [List.length_nil] at ih
    omega
theorem puts_gapN (n : Int) : ∀ (E : List Cel) (acc : List UInt8) (pos : Int), putsN (gapE n E acc pos) ≤ acc.length + E.length
  | [], acc, pos => by
    rw [gapE]
    exact puts_dropG _ 0 (fun acc => by simp [putsN, putsK]) _ acc
  | (i, c) :: E, acc, pos => by
    rw [gapE]
    by_cases hi : i < 0
    · rw [if_pos hi]
      have := puts_gapN n E (acc ++ [c]) pos
      simp only [List.length_append, List.length_cons, List.length_nil] at this ⊢
      omega
    · rw [if_neg hi]
      have ih := puts_gapN n E [] (i + 1)
      have := puts_dropG (fun acc => ((acc, false) :: (gapE n E [] (i + 1)).1, (gapE n E [] (i + 1)).2)) E.length (fun acc => by
        unfold putsN putsK at ih ⊢
        simp only [List.map_cons, List.sum_cons, List.length_nil] at ih ⊢
        omega) (i - pos).toNat acc
      simp only [List.length_cons]
      omega
theorem puts_gapE (n : Int) (E : List Cel) (acc : List UInt8) (pos : Int) : putsK (gapE n E acc pos).1 + (gapE n E acc pos).2.length ≤ acc.length + E.length := puts_gapN n E acc pos

/-- What the third loop has made. -/
def cmpD (w0 : World) (N g1 g2 q n : Nat) (k : Nat) (i : Value) (wr : World) : Prop :=
  ∃ j : Nat, i = .int .i64 j ∧ j + k = n ∧ gapR w0 N g1 g2 q n (List.replicate (n + 1) []) (List.replicate j true ++ List.replicate (n - j) false) wr
/-- What the fourth loop has made. -/
def cmpG (w0 : World) (N g1 g2 q n : Nat) (E : List Cel) (k : Nat) (u22 i : Value) (wr : World) : Prop :=
  ∃ j : Nat, i = .int .i64 j ∧ j + k = E.length ∧ u22 = .int .i64 (((E.take j).foldl stepC (cst0 n)).last : Nat) ∧ gapR w0 N g1 g2 q n ((E.take j).foldl stepC (cst0 n)).put ((E.take j).foldl stepC (cst0 n)).drop wr
/-- What the first loop has made. -/
def cmpA (w0 : World) (N : Nat) (a : List Pt) (k : Nat) (u11 u12 u46 : Value) (wr : World) : Prop :=
  ∃ j : Nat, u46 = .int .i64 j ∧ j + k = a.length ∧ u12 = .int .i64 (longP (a.take j)) ∧ wr.ownsRow N 163 2 u11 (midP 0 (a.take j)).length (cellsC (midP 0 (a.take j))) ∧ Below N w0 wr
/-- What the second loop has made. -/
def cmpE (w0 : World) (N : Nat) (M : List Cel) (b : List Pt) (k : Nat) (u16 u12 u84 : Value) (wr : World) : Prop :=
  ∃ j : Nat, u84 = .int .i64 j ∧ j + k = b.length ∧ u12 = .int .i64 (longP (b.take j)) ∧ wr.ownsRow N 163 2 u16 (endP M (b.take j)).length (cellsC (endP M (b.take j))) ∧ Below N w0 wr
/-- What a loop over places has made. -/
def cmpK (w0 : World) (N : Nat) (M : List Cel) (A0 : Int) (K : Nat) (b : Nat) (o : Obj) (k : Nat) (u11 u12 u52 : Value) (wr : World) : Prop :=
  ∃ t : Nat, u52 = .int .i64 t ∧ t + k = K ∧ u12 = .int .i64 (A0 + t) ∧ wr.ownsRow N 163 2 u11 (M ++ fromC A0 t).length (cellsC (M ++ fromC A0 t)) ∧ Below N w0 wr ∧ wr.heap[b]? = some o
/-- What a loop over bytes has made. -/
def cmpU (w0 : World) (N : Nat) (M : List Cel) (U : List UInt8) (b : Nat) (o : Obj) (k : Nat) (u11 u65 : Value) (wr : World) : Prop :=
  ∃ t : Nat, u65 = .int .i64 t ∧ t + k = U.length ∧ wr.ownsRow N 163 2 u11 (M ++ putC (U.take t)).length (cellsC (M ++ putC (U.take t))) ∧ Below N w0 wr ∧ wr.heap[b]? = some o
end Go.Proofs.YtedonckeomccpaaDoor
