/-
  A document in its own form (pure): its rows, their pieces, and what an operation makes of it.
-/
import Derived.Test.YtedgnlgjmnccgabGreatDoorBridgeZ
import Derived.Test.YtedgnlgjmnccgabGreatDoorOpsGoodT
import Derived.Test.YtedgnlgjmnccgabGreatDoorBackPure
namespace Go.Proofs.YtedgnlgjmnccgabGreatDoor
set_option linter.unusedVariables false

def byZ (l : List UInt8) : List Int := l.map fun b => (b.toNat : Int)
/-- A text's runes in a unit. -/
def rowZ (u : Int) (rs : List Nat) : List Int := if u = 1 then byZ (encs rs) else if u = 2 then toI (hals rs) else toI rs
theorem rowZ_nil (u : Int) : rowZ u [] = [] := by
  unfold rowZ; split
  · rfl
  · split <;> rfl
theorem hals_app (a b : List Nat) : hals (a ++ b) = hals a ++ hals b := by simp [hals]
theorem rowZ_append (u : Int) (a b : List Nat) : rowZ u (a ++ b) = rowZ u a ++ rowZ u b := by
  unfold rowZ; split
  · rw [encs_append]; simp [byZ]
  · split
    · rw [hals_app, toI_append]
    · rw [toI_append]
theorem hals_C2 : ∀ (rs : List Nat), ((hals rs).length : Int) = C2 rs
  | [] => rfl
  | r :: rs => by
    have ih := hals_C2 rs
    rw [hals_cons, List.length_append]
    have e : C2 (r :: rs) = cH r + C2 rs := by simp [C2, sum2, wide]
    rw [e]
    have : ((hal r).length : Int) = cH r := by unfold hal cH; split <;> rfl
    omega
theorem rowZ_len {u : Int} (hu : unitOk u) (rs : List Nat) : ((rowZ u rs).length : Int) = by_ u rs := by
  unfold rowZ by_
  rcases hu with rfl | rfl | rfl
  · rw [if_pos rfl, if_pos rfl, C1_len]; simp [byZ]
  · rw [if_neg (by decide), if_pos rfl, if_neg (by decide), if_pos rfl, ← hals_C2]; simp [toI]
  · rw [if_neg (by decide), if_neg (by decide), if_neg (by decide), if_neg (by decide), if_pos rfl]; simp [toI, C3]
theorem byZ_inj : ∀ {a b : List UInt8}, byZ a = byZ b → a = b
  | [], [], _ => rfl
  | [], _ :: _, h => by simp [byZ] at h
  | _ :: _, [], h => by simp [byZ] at h
  | x :: a, y :: b, h => by
    simp only [byZ, List.map_cons, List.cons.injEq] at h
    have hx : x = y := by
      apply UInt8.toNat_inj.1
      omega
    rw [hx, byZ_inj (a := a) (b := b) h.2]
/-- The first rune of a row is told by the row. -/
theorem row_head {u : Int} (hu : unitOk u) {x y : Nat} (hx : isRune x) (hy : isRune y) {a b : List Int} (ha : u = 1 → ∃ l, a = byZ l) (hb : u = 1 → ∃ l, b = byZ l) (h : rowZ u [x] ++ a = rowZ u [y] ++ b) : x = y ∧ a = b := by
  have hxy : x = y := by
    rcases hu with rfl | rfl | rfl
    · obtain ⟨la, rfl⟩ := ha rfl
      obtain ⟨lb, rfl⟩ := hb rfl
      have e : ∀ (r : Nat) (l : List UInt8), rowZ 1 [r] ++ byZ l = byZ (enc r ++ l) := fun r l => by simp [rowZ, byZ, encs]
      rw [e, e] at h
      have h := byZ_inj h
      have h1 := (dec_enc hx la).1
      rw [h, (dec_enc hy lb).1] at h1
      exact (Prod.mk.inj h1).1.symm
    · have e : ∀ r : Nat, rowZ 2 [r] = toI (hal r) := fun r => by simp [rowZ, hals]
      rw [e, e] at h
      have h1 := lead_hal hx a
      rw [h, lead_hal hy b] at h1
      have := (Prod.mk.inj h1).1
      omega
    · have e : ∀ r : Nat, rowZ 3 [r] = [(r : Int)] := fun r => by simp [rowZ, toI]
      rw [e, e] at h
      simp only [List.cons_append, List.nil_append, List.cons.injEq] at h
      omega
  subst hxy
  exact ⟨rfl, List.append_cancel_left h⟩
theorem row_ne {u : Int} (hu : unitOk u) (r : Nat) : rowZ u [r] ≠ [] := fun e => by
  have h1 := rowZ_len hu [r]
  have h2 := by_one hu r
  rw [e] at h1
  simp at h1; omega
theorem row_bytes {u : Int} (hu : u = 1) (rs : List Nat) : ∃ l, rowZ u rs = byZ l := ⟨encs rs, by subst hu; rfl⟩
theorem row_cons (u : Int) (r : Nat) (rs : List Nat) : rowZ u (r :: rs) = rowZ u [r] ++ rowZ u rs := by
  rw [← rowZ_append]; rfl
/-- Runes whose row begins another row begin its runes. -/
theorem row_pre {u : Int} (hu : unitOk u) : ∀ (xs ys : List Nat) (t : List Int), (∀ r ∈ xs, isRune r) → (∀ r ∈ ys, isRune r) → (u = 1 → ∃ l, t = byZ l) → rowZ u xs ++ t = rowZ u ys → ∃ zs, ys = xs ++ zs ∧ t = rowZ u zs
  | [], ys, t, _, _, _, h => ⟨ys, rfl, by rw [rowZ_nil] at h; exact h⟩
  | x :: xs, [], t, _, _, _, h => by
    rw [row_cons, rowZ_nil, List.append_assoc] at h
    exact absurd (List.append_eq_nil_iff.1 h).1 (row_ne hu x)
  | x :: xs, y :: ys, t, hx, hy, ht, h => by
    rw [row_cons, row_cons u y, List.append_assoc] at h
    obtain ⟨rfl, h2⟩ := row_head hu (hx x (by simp)) (hy y (by simp)) (fun e => by
      obtain ⟨l, hl⟩ := ht e; obtain ⟨m, hm⟩ := row_bytes e xs
      exact ⟨m ++ l, by rw [hl, hm]; simp [byZ]⟩) (fun e => row_bytes e ys) h
    obtain ⟨zs, e1, e2⟩ := row_pre hu xs ys t (fun r hr => hx r (by simp [hr])) (fun r hr => hy r (by simp [hr])) ht h2
    exact ⟨zs, by rw [e1]; rfl, e2⟩

/-- What is behind a place. -/
def restZ (u : Int) (R : List Nat) (n : Int) : List Nat := R.drop (upTo R u n).length
theorem edge_at {u : Int} (hu : unitOk u) {R : List Nat} {n : Int} (h1 : n ≤ by_ u R) (he : onEdge R u n = true) : R = upTo R u n ++ restZ u R n ∧ by_ u (upTo R u n) = n := by
  obtain ⟨k, k1, k2, k3, _⟩ := (edge_first hu h1).1 he
  unfold restZ
  rw [k2, List.length_take, Nat.min_eq_left k1]
  exact ⟨(List.take_append_drop k R).symm, k3⟩
theorem edge_of {u : Int} (hu : unitOk u) {R X Y : List Nat} (h : R = X ++ Y) : onEdge R u (by_ u X) = true ∧ upTo R u (by_ u X) = X ∧ restZ u R (by_ u X) = Y := by
  have hle : by_ u X ≤ by_ u R := by rw [h, by_append]; have := by_pos u Y; omega
  have hx : R.take X.length = X := by rw [h, List.take_left' rfl]
  have he : onEdge R u (by_ u X) = true := by
    cases e : onEdge R u (by_ u X) with
    | true => rfl
    | false => exact absurd (by rw [hx]) ((edge_first hu hle).2 e X.length (by rw [h]; simp))
  obtain ⟨k, k1, k2, k3, _⟩ := (edge_first hu hle).1 he
  have hk : k = X.length := by
    have hXl : X.length ≤ R.length := by rw [h]; simp
    rcases Nat.lt_trichotomy k X.length with hlt | rfl | hlt
    · have := by_mono hu R k X.length hlt hXl
      rw [hx, k3] at this; omega
    · rfl
    · have := by_mono hu R X.length k hlt k1
      rw [hx, k3] at this; omega
  subst hk
  refine ⟨he, by rw [k2, hx], ?_⟩
  unfold restZ
  rw [k2, hx, h, List.drop_left' rfl]
theorem piece_row {u : Int} (hu : unitOk u) {R : List Nat} {n : Int} (h0 : 0 ≤ n) (h1 : n ≤ by_ u R) (he : onEdge R u n = true) :
    (rowZ u R).take n.toNat = rowZ u (upTo R u n) ∧ (rowZ u R).drop n.toNat = rowZ u (restZ u R n) := by
  obtain ⟨e1, e2⟩ := edge_at hu h1 he
  have hl : n.toNat = (rowZ u (upTo R u n)).length := by have := rowZ_len hu (upTo R u n); omega
  have e3 : rowZ u R = rowZ u (upTo R u n) ++ rowZ u (restZ u R n) := by
    rw [← rowZ_append]; exact congrArg _ e1
  rw [e3, hl]
  exact ⟨List.take_left' rfl, List.drop_left' rfl⟩
theorem piece_bad {u : Int} (hu : unitOk u) {R : List Nat} (hR : ∀ r ∈ R, isRune r) {n : Int} (h0 : 0 ≤ n) (h1 : n ≤ by_ u R) (he : onEdge R u n = false) (xs : List Nat) (hx : ∀ r ∈ xs, isRune r) : (rowZ u R).take n.toNat ≠ rowZ u xs := by
  intro e
  have hlen := rowZ_len hu R
  have h2 : rowZ u xs ++ (rowZ u R).drop n.toNat = rowZ u R := by rw [← e, List.take_append_drop]
  obtain ⟨zs, e1, _⟩ := row_pre hu xs R _ hx hR (fun e => by subst e; exact ⟨(encs R).drop n.toNat, by simp [rowZ, byZ]⟩) h2
  have hl : by_ u xs = n := by
    rw [← rowZ_len hu, ← e, List.length_take]; omega
  have := (edge_of hu e1).1
  rw [hl, he] at this
  cases this

/-- Whether all parts end between two runes; the parts in another unit; what comes. -/
def okZ (u : Int) : List Nat → List Pt → Bool
  | _, [] => true
  | R, q :: qs => onEdge R u (lenP q) && okZ u (restZ u R (lenP q)) qs
def inZ (u v : Int) : List Nat → List Pt → List Pt
  | _, [] => []
  | R, q :: qs => unit1 (by_ v (upTo R u (lenP q))) q :: inZ u v (restZ u R (lenP q)) qs
def comesZ (u : Int) : List Nat → List Pt → List Nat
  | _, [] => []
  | R, q :: qs => ((if 0 < q.keep then upTo R u (lenP q) else []) ++ runesOf q.put) ++ comesZ u (restZ u R (lenP q)) qs

theorem shift_edge {u : Int} (hu : unitOk u) (pre R : List Nat) (n : Int) (h0 : 0 ≤ n) (h1 : n ≤ by_ u R) :
    onEdge (pre ++ R) u (by_ u pre + n) = onEdge R u n ∧ (onEdge R u n = true → upTo (pre ++ R) u (by_ u pre + n) = pre ++ upTo R u n) := by
  have key : onEdge R u n = true → onEdge (pre ++ R) u (by_ u pre + n) = true ∧ upTo (pre ++ R) u (by_ u pre + n) = pre ++ upTo R u n := fun he => by
    obtain ⟨e1, e2⟩ := edge_at hu h1 he
    have e3 : pre ++ R = (pre ++ upTo R u n) ++ restZ u R n := by rw [List.append_assoc, ← e1]
    have := edge_of hu e3
    rw [by_append, e2] at this
    exact ⟨this.1, this.2.1⟩
  refine ⟨?_, fun he => (key he).2⟩
  cases he : onEdge R u n with
  | true => exact (key he).1
  | false =>
    cases e : onEdge (pre ++ R) u (by_ u pre + n) with
    | false => rfl
    | true =>
      exfalso
      have hle : by_ u pre + n ≤ by_ u (pre ++ R) := by rw [by_append]; omega
      obtain ⟨k, k1, k2, k3, _⟩ := (edge_first hu hle).1 e
      have hk : pre.length ≤ k := by
        by_cases h : pre.length ≤ k
        · exact h
        · have := by_mono hu (pre ++ R) k pre.length (by omega) (by simp)
          rw [k3, List.take_left' rfl] at this; omega
      have e4 : (pre ++ R).take k = pre ++ R.take (k - pre.length) := by
        rw [List.take_append, List.take_of_length_le hk]
      rw [e4, by_append] at k3
      exact (edge_first hu h1).2 he (k - pre.length) (by rw [List.length_append] at k1; omega) (by omega)

theorem turn_inZ {u : Int} (hu : unitOk u) (v : Int) : ∀ (qs : List Pt) (pre R : List Nat), (∀ q ∈ qs, 0 ≤ lenP q) → longP qs ≤ by_ u R →
    (turnZ (pre ++ R) u v (by_ u pre) qs).2 = okZ u R qs ∧ (okZ u R qs = true → (turnZ (pre ++ R) u v (by_ u pre) qs).1 = inZ u v R qs)
  | [], _, _, _, _ => ⟨rfl, fun _ => rfl⟩
  | q :: qs, pre, R, h, hl => by
    have h0 := h q (by simp)
    have h3 : ∀ x ∈ qs, 0 ≤ lenP x := fun x hx => h x (by simp [hx])
    have hp := sum_pos h3
    have hl2 : longP (q :: qs) = lenP q + longP qs := by simp [longP]
    rw [hl2] at hl
    obtain ⟨s1, s2⟩ := shift_edge hu pre R (lenP q) h0 (by omega)
    obtain ⟨t1, t2⟩ := shift_edge hu pre R 0 (Int.le_refl _) (by_pos u R)
    have hz : upTo R u 0 = [] := upTo_zero R u
    have hz2 : onEdge R u 0 = true := by unfold onEdge; rw [hz, by_nil]; rfl
    have t2 := t2 hz2
    rw [Int.add_zero, hz, List.append_nil] at t2
    have hunf : turnZ (pre ++ R) u v (by_ u pre) (q :: qs) = if onEdge (pre ++ R) u (by_ u pre + lenP q) then
      (unit1 (by_ v (upTo (pre ++ R) u (by_ u pre + lenP q)) - by_ v (upTo (pre ++ R) u (by_ u pre))) q :: (turnZ (pre ++ R) u v (by_ u pre + lenP q) qs).1, (turnZ (pre ++ R) u v (by_ u pre + lenP q) qs).2)
      else ([], false) := rfl
    have hoz : okZ u R (q :: qs) = (onEdge R u (lenP q) && okZ u (restZ u R (lenP q)) qs) := rfl
    rw [hunf, hoz, s1]
    cases he : onEdge R u (lenP q) with
    | false => exact ⟨rfl, fun h => by cases h⟩
    | true =>
      obtain ⟨e1, e2⟩ := edge_at hu (by omega) he
      have hR : pre ++ R = (pre ++ upTo R u (lenP q)) ++ restZ u R (lenP q) := by rw [List.append_assoc, ← e1]
      have hby : by_ u pre + lenP q = by_ u (pre ++ upTo R u (lenP q)) := by rw [by_append, e2]
      have hle : longP qs ≤ by_ u (restZ u R (lenP q)) := by
        have : by_ u R = by_ u (upTo R u (lenP q)) + by_ u (restZ u R (lenP q)) := by rw [← by_append]; exact congrArg _ e1
        omega
      obtain ⟨i1, i2⟩ := turn_inZ hu v qs (pre ++ upTo R u (lenP q)) (restZ u R (lenP q)) h3 hle
      rw [if_pos rfl, s2 he, t2, hby, Bool.true_and]
      rw [← hR] at i1 i2
      refine ⟨i1, fun ho => ?_⟩
      have ev : by_ v (pre ++ upTo R u (lenP q)) - by_ v pre = by_ v (upTo R u (lenP q)) := by rw [by_append]; omega
      rw [i2 ho, ev]
      rfl
/-- The parts in another unit, and whether there are such. -/
theorem turn_in {u : Int} (hu : unitOk u) (v : Int) (qs : List Pt) (R : List Nat) (h : ∀ q ∈ qs, 0 ≤ lenP q) (hl : longP qs ≤ by_ u R) :
    turnX R u v qs = (if okZ u R qs then 0 else 10) ∧ turnO R u v qs = if okZ u R qs then inZ u v R qs else [] := by
  obtain ⟨h1, h2⟩ := turn_inZ hu v qs [] R h hl
  rw [List.nil_append, by_nil] at h1 h2
  unfold turnX turnO
  rw [h1]
  refine ⟨rfl, ?_⟩
  split
  · rename_i ho; exact h2 ho
  · rfl
theorem rest_rune {u : Int} {R : List Nat} {n : Int} (h : ∀ r ∈ R, isRune r) : ∀ r ∈ restZ u R n, isRune r := fun r hr => h r (List.mem_of_mem_drop hr)
theorem upTo_rune {u : Int} (hu : unitOk u) {R : List Nat} {n : Int} (hn : n ≤ by_ u R) (h : ∀ r ∈ R, isRune r) : ∀ r ∈ upTo R u n, isRune r := fun r hr => by
  obtain ⟨k, _, h2, _⟩ := upTo_least R u n hn
  rw [h2] at hr
  exact h r (List.mem_of_mem_take hr)
theorem comes_rune {u : Int} (hu : unitOk u) : ∀ (qs : List Pt) (R : List Nat), (∀ q ∈ qs, 0 ≤ lenP q) → longP qs ≤ by_ u R → okZ u R qs = true → (∀ r ∈ R, isRune r) → ∀ r ∈ comesZ u R qs, isRune r
  | [], R, _, _, _, _, r, hr => by cases hr
  | q :: qs, R, h, hl, ho, hR, r, hr => by
    have h3 : ∀ x ∈ qs, 0 ≤ lenP x := fun x hx => h x (by simp [hx])
    have hp := sum_pos h3
    have h0 := h q (by simp)
    have hl2 : longP (q :: qs) = lenP q + longP qs := by simp [longP]
    rw [hl2] at hl
    have ho : (onEdge R u (lenP q) && okZ u (restZ u R (lenP q)) qs) = true := ho
    rw [Bool.and_eq_true] at ho
    obtain ⟨e1, e2⟩ := edge_at hu (by omega) ho.1
    have hle : longP qs ≤ by_ u (restZ u R (lenP q)) := by
      have : by_ u R = by_ u (upTo R u (lenP q)) + by_ u (restZ u R (lenP q)) := by rw [← by_append]; exact congrArg _ e1
      omega
    have hr : r ∈ ((if 0 < q.keep then upTo R u (lenP q) else []) ++ runesOf q.put) ++ comesZ u (restZ u R (lenP q)) qs := hr
    rcases List.mem_append.1 hr with hr | hr
    · rcases List.mem_append.1 hr with hr | hr
      · split at hr
        · exact upTo_rune hu (by omega) hR r hr
        · cases hr
      · exact runesOf_rune hr
    · exact comes_rune hu qs _ h3 hle ho.2 (rest_rune hR) r hr

theorem unit_len {q : Pt} (h : oneB q = true) (n : Int) (hn : lenP q = 0 → n = 0) : lenP (unit1 n q) = n := by
  unfold unit1
  rcases oneB_shapes h with ⟨h1, h2, h3⟩ | ⟨h1, h2, h3⟩ | ⟨h1, h2, h3⟩
  · rw [if_pos h1]; simp [lenP]
  · rw [if_neg (by omega), if_pos h2]; simp [lenP]
  · rw [if_neg (by omega), if_neg (by omega)]
    rw [hn (by unfold lenP; omega)]; simp [lenP]
theorem unit_one {q : Pt} (h : oneB q = true) {n : Int} (hn : 0 < lenP q → 0 < n) : oneP (unit1 n q) := by
  unfold unit1
  rcases oneB_shapes h with ⟨h1, h2, h3⟩ | ⟨h1, h2, h3⟩ | ⟨h1, h2, h3⟩
  · rw [if_pos h1]; exact .inl ⟨hn (by unfold lenP; omega), rfl, rfl⟩
  · rw [if_neg (by omega), if_pos h2]; exact .inr (.inl ⟨rfl, hn (by unfold lenP; omega), rfl⟩)
  · rw [if_neg (by omega), if_neg (by omega)]; exact .inr (.inr ⟨rfl, rfl, h3⟩)
theorem unit_put {q : Pt} (h : oneB q = true) (n : Int) : (unit1 n q).put = q.put := by
  unfold unit1
  rcases oneB_shapes h with ⟨h1, h2, h3⟩ | ⟨h1, h2, h3⟩ | ⟨h1, h2, h3⟩
  · rw [if_pos h1, h3]
  · rw [if_neg (by omega), if_pos h2, h3]
  · rw [if_neg (by omega), if_neg (by omega)]
theorem unit_keep {q : Pt} (h : oneB q = true) {n : Int} (hn : 0 < lenP q → 0 < n) : (0 < (unit1 n q).keep) ↔ 0 < q.keep := by
  unfold unit1
  rcases oneB_shapes h with ⟨h1, h2, h3⟩ | ⟨h1, h2, h3⟩ | ⟨h1, h2, h3⟩
  · rw [if_pos h1]; exact ⟨fun _ => h1, fun _ => hn (by unfold lenP; omega)⟩
  · rw [if_neg (by omega), if_pos h2]; exact ⟨fun h => absurd h (Int.lt_irrefl 0), fun h => by omega⟩
  · rw [if_neg (by omega), if_neg (by omega)]; exact ⟨fun h => absurd h (Int.lt_irrefl 0), fun h => by omega⟩
/-- So many of one unit are some of any. -/
theorem by_pos_of {u v : Int} (hu : unitOk u) (hv : unitOk v) {X : List Nat} (h : 0 < by_ u X) : 0 < by_ v X := by
  cases X with
  | nil => rw [by_nil] at h; omega
  | cons r X =>
    have e : r :: X = [r] ++ X := rfl
    rw [e, by_append]
    have := by_one hv r; have := by_pos v X; omega
theorem by_zero_of {u : Int} (hu : unitOk u) {X : List Nat} (h : by_ u X = 0) : X = [] := by
  cases X with
  | nil => rfl
  | cons r X =>
    have e : r :: X = [r] ++ X := rfl
    rw [e, by_append] at h
    have := by_one hu r; have := by_pos u X; omega
/-- What comes in bytes is what the operation in bytes makes; and it fits. -/
theorem in_left {u : Int} (hu : unitOk u) : ∀ (qs : List Pt) (R : List Nat), (∀ q ∈ qs, oneB q = true ∧ (scan q.put).2 = true) → longP qs = by_ u R → (∀ r ∈ R, isRune r) → okZ u R qs = true →
    Left (inZ u 1 R qs) (encs R) ∧ applyP (inZ u 1 R qs) (encs R) = encs (comesZ u R qs)
  | [], R, _, hl, _, _ => by
    have : R = [] := by_zero_of hu (by rw [← hl]; simp [longP])
    subst this
    exact ⟨⟨by simp [inZ], by simp [inZ, longP, encs], trivial⟩, rfl⟩
  | q :: qs, R, h, hl, hr, ho => by
    have hq := h q (by simp)
    have hs := (one_sound hq.1).1
    have hl2 : longP (q :: qs) = lenP q + longP qs := by simp [longP]
    have hp3 : ∀ x ∈ qs, 0 ≤ lenP x := fun x hx => by
      have := (one_sound (h x (by simp [hx])).1).1
      unfold soundP at this; unfold lenP; omega
    have hp := sum_pos hp3
    have hq0 : 0 ≤ lenP q := by unfold soundP at hs; unfold lenP; omega
    rw [hl2] at hl
    have ho : (onEdge R u (lenP q) && okZ u (restZ u R (lenP q)) qs) = true := ho
    rw [Bool.and_eq_true] at ho
    obtain ⟨e1, e2⟩ := edge_at hu (by omega) ho.1
    have hby : by_ u R = by_ u (upTo R u (lenP q)) + by_ u (restZ u R (lenP q)) := by rw [← by_append]; exact congrArg _ e1
    obtain ⟨il, ia⟩ := in_left hu qs (restZ u R (lenP q)) (fun x hx => h x (by simp [hx])) (by omega) (rest_rune hr) ho.2
    have hur := upTo_rune (n := lenP q) hu (by omega) hr
    have hX : encs R = encs (upTo R u (lenP q)) ++ encs (restZ u R (lenP q)) := by rw [← encs_append]; exact congrArg _ e1
    have hunf : inZ u 1 R (q :: qs) = unit1 (by_ 1 (upTo R u (lenP q))) q :: inZ u 1 (restZ u R (lenP q)) qs := rfl
    have hc : comesZ u R (q :: qs) = ((if 0 < q.keep then upTo R u (lenP q) else []) ++ runesOf q.put) ++ comesZ u (restZ u R (lenP q)) qs := rfl
    have h1 : by_ 1 (upTo R u (lenP q)) = (encs (upTo R u (lenP q))).length := by unfold by_; rw [if_pos rfl, C1_len]
    have hz0 : lenP q = 0 → by_ 1 (upTo R u (lenP q)) = 0 := fun e => by rw [by_zero_of hu (e2.trans e), by_nil]
    have hzp : 0 < lenP q → 0 < by_ 1 (upTo R u (lenP q)) := fun e => by_pos_of hu (.inl rfl) (by omega)
    have hul := unit_len hq.1 _ hz0
    rw [hunf, hc, hX]
    have hto : (lenP (unit1 (by_ 1 (upTo R u (lenP q))) q)).toNat = (encs (upTo R u (lenP q))).length := by rw [hul, h1]; simp
    have htake : (encs (upTo R u (lenP q)) ++ encs (restZ u R (lenP q))).take (lenP (unit1 (by_ 1 (upTo R u (lenP q))) q)).toNat = encs (upTo R u (lenP q)) := by rw [hto, List.take_left' rfl]
    have hdrop : (encs (upTo R u (lenP q)) ++ encs (restZ u R (lenP q))).drop (lenP (unit1 (by_ 1 (upTo R u (lenP q))) q)).toNat = encs (restZ u R (lenP q)) := by rw [hto, List.drop_left' rfl]
    refine ⟨⟨?_, ?_, ?_⟩, ?_⟩
    · intro p hp
      rcases List.mem_cons.1 hp with rfl | hp
      · exact unit_one hq.1 hzp
      · exact il.one p hp
    · rw [long_cons, il.long, hul, h1, List.length_append]; omega
    · refine ⟨?_, ?_, ?_⟩
      · rw [unit_put hq.1]; exact V_of_scan hq.2
      · rw [htake]; exact ⟨_, hur, rfl⟩
      · rw [hdrop]; exact il.al
    · rw [apply_cons, htake, hdrop, ia, encs_append, encs_append]
      congr 1
      unfold madeP
      have hk := unit_keep hq.1 hzp
      rw [unit_put hq.1, encs_runesOf hq.2]
      congr 1
      by_cases hkk : 0 < q.keep
      · rw [if_pos hkk, if_pos (hk.2 hkk)]
      · rw [if_neg hkk, if_neg (fun e => hkk (hk.1 e))]; rfl
end Go.Proofs.YtedgnlgjmnccgabGreatDoor
