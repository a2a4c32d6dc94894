/-
  The document's Transform.
-/
import Derived.Test.YtedonckeomccpaaDoorPartC
import Derived.Test.YtedonckeomccpaaDoorPartG
import Derived.Test.YtedonckeomccpaaDoorPartK
import Derived.Deep.Cut
namespace Go.Proofs.YtedonckeomccpaaDoor
open Go.RowKit
set_option linter.unusedVariables false
attribute [local go_sem] Oper.semAt_some

/-- What a gap comes to: what is put there, and what the other one puts; then its byte. -/
def pairO (first : Bool) (u v : List UInt8) : List Pt := if first then putO u ++ keepO v.length else keepO v.length ++ putO u
def unitO (e d : Bool) : List Pt := if e then [] else [unitP d]
def gapO (first : Bool) (z : (List UInt8 × Bool) × (List UInt8 × Bool)) : List Pt := pairO first z.1.1 z.2.1 ++ unitO z.2.2 z.1.2
/-- What has come when j gaps are gone through. -/
def outJ (first : Bool) (x y : GSt) (j : Nat) : List Pt := ((x.1.zip y.1).take j).flatMap (gapO first) ++ if x.1.length < j then pairO first x.2 y.2 else []
theorem putO_fold (u : List UInt8) (s : NSt) : (putO u).foldl addP s = addP s ⟨0, 0, u⟩ := by
  unfold putO
  split
  · rfl
  · rename_i h
    rw [Classical.not_not.1 h, addP_none]; rfl
theorem keepO_fold (v : List UInt8) (s : NSt) : (keepO v.length).foldl addP s = addP s ⟨v.length, 0, []⟩ := by
  unfold keepO
  split
  · rfl
  · rename_i h
    have : (v.length : Int) = 0 := by omega
    rw [this, addP_none]; rfl
theorem pairO_fold (first : Bool) (u v : List UInt8) (s : NSt) : (pairO first u v).foldl addP s = (if first then [⟨0, 0, u⟩, ⟨v.length, 0, []⟩] else [⟨v.length, 0, []⟩, ⟨0, 0, u⟩] : List Pt).foldl addP s := by
  unfold pairO
  cases first
  · simp only [Bool.false_eq_true, if_false, List.foldl_append, putO_fold, keepO_fold]; rfl
  · simp only [if_true, List.foldl_append, putO_fold, keepO_fold]; rfl
theorem out_fold (first : Bool) : ∀ (x y : List (List UInt8 × Bool)) (xl yl : List UInt8) (s : NSt), x.length = y.length → ((x.zip y).flatMap (gapO first) ++ pairO first xl yl).foldl addP s = (docT first x xl y yl).foldl addP s
  | [], [], xl, yl, s, _ => by
    simp only [List.zip_nil_left, List.flatMap_nil, List.nil_append, pairO_fold]; rfl
  | [], _ :: _, _, _, _, h => by simp at h
  | _ :: _, [], _, _, _, h => by simp at h
  | (u, d) :: x, (v, e) :: y, xl, yl, s, h => by
    have ih := out_fold first x y xl yl
    rw [List.zip_cons_cons, List.flatMap_cons, List.append_assoc, List.foldl_append, ih _ (by simpa using h), docT, List.foldl_append, List.foldl_append]
    congr 1
    unfold gapO unitO
    rw [List.foldl_append, pairO_fold]
theorem pairO_len (first : Bool) (u v : List UInt8) : (pairO first u v).length ≤ 2 := by
  have h1 : (putO u).length ≤ 1 := by unfold putO; split <;> simp
  have h2 : (keepO v.length).length ≤ 1 := by unfold keepO; split <;> simp
  unfold pairO
  split <;> (rw [List.length_append]; omega)
theorem gapO_len (first : Bool) (z : (List UInt8 × Bool) × (List UInt8 × Bool)) : (gapO first z).length ≤ 3 := by
  have h1 := pairO_len first z.1.1 z.2.1
  have h2 : (unitO z.2.2 z.1.2).length ≤ 1 := by unfold unitO; split <;> simp
  unfold gapO
  rw [List.length_append]; omega
theorem outJ_len (first : Bool) (x y : GSt) (j : Nat) : (outJ first x y j).length ≤ 3 * j + 2 := by
  have key : ∀ (l : List ((List UInt8 × Bool) × (List UInt8 × Bool))), (l.flatMap (gapO first)).length ≤ 3 * l.length := by
    intro l
    induction l with
    | nil => simp
    | cons z l ih =>
      have := gapO_len first z
      rw [List.flatMap_cons, List.length_append, List.length_cons]; omega
  have h1 := key ((x.1.zip y.1).take j)
  have h2 : ((x.1.zip y.1).take j).length ≤ j := by rw [List.length_take]; omega
  have h3 := pairO_len first x.2 y.2
  unfold outJ
  rw [List.length_append]
  split
  · omega
  · simp only [List.length_nil]; omega
theorem outJ_step {first : Bool} {x y : GSt} {j : Nat} (hl : x.1.length = y.1.length) (hj : j < x.1.length) {u v : List UInt8} {d e : Bool} (hx : x.1[j]? = some (u, d)) (hy : y.1[j]? = some (v, e)) : outJ first x y (j + 1) = outJ first x y j ++ (pairO first u v ++ unitO e d) := by
  have hz : (x.1.zip y.1)[j]? = some ((u, d), (v, e)) := by rw [List.getElem?_zip_eq_some]; exact ⟨hx, hy⟩
  unfold outJ
  rw [if_neg (by omega), if_neg (by omega), List.append_nil, List.append_nil, List.take_add_one, hz, List.flatMap_append]
  simp [gapO]
theorem outJ_last {first : Bool} {x y : GSt} (hl : x.1.length = y.1.length) : outJ first x y (x.1.length + 1) = outJ first x y x.1.length ++ pairO first x.2 y.2 := by
  have hz : (x.1.zip y.1).length = x.1.length := by rw [List.length_zip]; omega
  unfold outJ
  rw [if_pos (by omega), if_neg (by omega), List.append_nil, List.take_of_length_le (by omega), List.take_of_length_le (by omega)]

theorem keepO_ok (k : Nat) : (∀ p ∈ keepO k, soundP p) ∧ wts (keepO k) = k := by
  unfold keepO
  split
  · refine ⟨fun p hp => ?_, by simp [wts, wtP]⟩
    obtain rfl := List.mem_singleton.1 hp
    exact ⟨by simp, by simp⟩
  · exact ⟨by simp, by simp [wts]; omega⟩
theorem putO_ok (u : List UInt8) : (∀ p ∈ putO u, soundP p) ∧ wts (putO u) = u.length := by
  unfold putO
  split
  · refine ⟨fun p hp => ?_, by simp [wts, wtP]⟩
    obtain rfl := List.mem_singleton.1 hp
    exact ⟨by simp, by simp⟩
  · rename_i h
    rw [Classical.not_not.1 h]
    exact ⟨by simp, by simp [wts]⟩
theorem wts_append (l m : List Pt) : wts (l ++ m) = wts l + wts m := by simp [wts]
theorem pairO_ok (first : Bool) (u v : List UInt8) : (∀ p ∈ pairO first u v, soundP p) ∧ wts (pairO first u v) = u.length + v.length := by
  obtain ⟨h1, h2⟩ := keepO_ok v.length
  obtain ⟨h3, h4⟩ := putO_ok u
  unfold pairO
  split
  · refine ⟨fun p hp => ?_, by rw [wts_append]; omega⟩
    rcases List.mem_append.1 hp with hp | hp
    · exact h3 p hp
    · exact h1 p hp
  · refine ⟨fun p hp => ?_, by rw [wts_append]; omega⟩
    rcases List.mem_append.1 hp with hp | hp
    · exact h1 p hp
    · exact h3 p hp
theorem unitO_ok (e d : Bool) : (∀ p ∈ unitO e d, soundP p) ∧ wts (unitO e d) ≤ 1 := by
  cases e <;> cases d <;> simp [unitO, unitP, soundP, wts, wtP]
theorem outJ_sound (first : Bool) (x y : GSt) (j : Nat) : ∀ p ∈ outJ first x y j, soundP p := by
  intro p hp
  unfold outJ at hp
  rcases List.mem_append.1 hp with hp | hp
  · obtain ⟨z, _, hp⟩ := List.mem_flatMap.1 hp
    unfold gapO at hp
    rcases List.mem_append.1 hp with hp | hp
    · exact (pairO_ok _ _ _).1 p hp
    · exact (unitO_ok _ _).1 p hp
  · split at hp
    · exact (pairO_ok _ _ _).1 p hp
    · cases hp
theorem outZ_wts (first : Bool) : ∀ (x y : List (List UInt8 × Bool)) (j : Nat), wts (((x.zip y).take j).flatMap (gapO first)) ≤ putsK x + putsK y + j
  | [], y, j => by simp [wts]; omega
  | _ :: _, [], j => by simp [wts]; omega
  | (u, d) :: x, (v, e) :: y, 0 => by simp [wts]; omega
  | (u, d) :: x, (v, e) :: y, j + 1 => by
    have ih := outZ_wts first x y j
    have h1 := (pairO_ok first u v).2
    have h2 := (unitO_ok e d).2
    have e1 : putsK ((u, d) :: x) = u.length + putsK x := by simp [putsK]
    have e2 : putsK ((v, e) :: y) = v.length + putsK y := by simp [putsK]
    rw [List.zip_cons_cons, List.take_succ_cons, List.flatMap_cons, wts_append, e1, e2]
    have h3 : wts (gapO first ((u, d), (v, e))) = wts (pairO first u v) + wts (unitO e d) := wts_append _ _
    omega
theorem outJ_wts (first : Bool) (x y : GSt) (j : Nat) : wts (outJ first x y j) ≤ putsK x.1 + x.2.length + (putsK y.1 + y.2.length) + j := by
  have h1 := outZ_wts first x.1 y.1 j
  have h2 := (pairO_ok first x.2 y.2).2
  unfold outJ
  rw [wts_append]
  split
  · omega
  · simp only [wts, List.map_nil, List.sum_nil] at h1 ⊢; omega

def trR (first : Bool) (x y : GSt) (n OB : Nat) (W0 : World) (k : Nat) (i : Value) (wr : World) : Prop := ∃ j : Nat, i = .int .i64 j ∧ j + k = n + 1 ∧ outAt wr OB (outJ first x y j) ∧ Below OB W0 wr
/-- What the two spread operations hold. -/
structure gapsAt (W : World) (q gx1 gx2 gy1 gy2 n : Nat) (x y : GSt) : Prop where
  a0 : W.cell? ⟨q, 0, none⟩ = some (.slice (some ⟨gx1, 0, none⟩) (n + 1) (n + 1))
  a1 : W.cell? ⟨q, 1, none⟩ = some (.slice (some ⟨gx2, 0, none⟩) n n)
  b0 : W.cell? ⟨q + 1, 0, none⟩ = some (.slice (some ⟨gy1, 0, none⟩) (n + 1) (n + 1))
  b1 : W.cell? ⟨q + 1, 1, none⟩ = some (.slice (some ⟨gy2, 0, none⟩) n n)
  x1 : ∀ j u d, x.1[j]? = some (u, d) → W.cell? ⟨gx1, j, none⟩ = some (.string ⟨u.toArray⟩) ∧ W.cell? ⟨gx2, j, none⟩ = some (.bool d)
  y1 : ∀ j u d, y.1[j]? = some (u, d) → W.cell? ⟨gy1, j, none⟩ = some (.string ⟨u.toArray⟩) ∧ W.cell? ⟨gy2, j, none⟩ = some (.bool d)
  x2 : W.cell? ⟨gx1, n, none⟩ = some (.string ⟨x.2.toArray⟩)
  y2 : W.cell? ⟨gy1, n, none⟩ = some (.string ⟨y.2.toArray⟩)
  lt : gx1 < q ∧ gx2 < q ∧ gy1 < q ∧ gy2 < q
theorem gapsAt_below {W W' : World} {q gx1 gx2 gy1 gy2 n : Nat} {x y : GSt} (h : gapsAt W q gx1 gx2 gy1 gy2 n x y) {B : Nat} (hb : Below B W W') (hB : q + 2 ≤ B) : gapsAt W' q gx1 gx2 gy1 gy2 n x y := by
  obtain ⟨l1, l2, l3, l4⟩ := h.lt
  exact ⟨(hb.cell (p := ⟨q, 0, none⟩) (by show q < B; omega)).trans h.a0, (hb.cell (p := ⟨q, 1, none⟩) (by show q < B; omega)).trans h.a1, (hb.cell (p := ⟨q + 1, 0, none⟩) (by show q + 1 < B; omega)).trans h.b0, (hb.cell (p := ⟨q + 1, 1, none⟩) (by show q + 1 < B; omega)).trans h.b1,
    fun j u d hj => ⟨(hb.cell (p := ⟨gx1, j, none⟩) (by show gx1 < B; omega)).trans (h.x1 j u d hj).1, (hb.cell (p := ⟨gx2, j, none⟩) (by show gx2 < B; omega)).trans (h.x1 j u d hj).2⟩,
    fun j u d hj => ⟨(hb.cell (p := ⟨gy1, j, none⟩) (by show gy1 < B; omega)).trans (h.y1 j u d hj).1, (hb.cell (p := ⟨gy2, j, none⟩) (by show gy2 < B; omega)).trans (h.y1 j u d hj).2⟩,
    (hb.cell (p := ⟨gx1, n, none⟩) (by show gx1 < B; omega)).trans h.x2, (hb.cell (p := ⟨gy1, n, none⟩) (by show gy1 < B; omega)).trans h.y2, h.lt⟩
theorem rows_gaps {W6 W8 W0 : World} {B6 B8 q gx1 gx2 gy1 gy2 n : Nat} {x y : GSt} (hx : x.1.length = n) (hy : y.1.length = n)
    (X1 : W6.ownsRow B6 9 1 (.slice (some ⟨gx1, 0, none⟩) (n + 1) (n + 1)) (n + 1) ((strsP n x).map strV)) (X2 : W6.ownsRow B6 4 1 (.slice (some ⟨gx2, 0, none⟩) n n) n ((boolsP n x).map Value.bool))
    (Y1 : W8.ownsRow B8 9 1 (.slice (some ⟨gy1, 0, none⟩) (n + 1) (n + 1)) (n + 1) ((strsP n y).map strV)) (Y2 : W8.ownsRow B8 4 1 (.slice (some ⟨gy2, 0, none⟩) n n) n ((boolsP n y).map Value.bool))
    (b6 : Below W6.heap.size W6 W0) (b8 : Below W8.heap.size W8 W0) (s6 : W6.heap.size ≤ q) (s8 : W8.heap.size ≤ q)
    (a0 : W0.cell? ⟨q, 0, none⟩ = some (.slice (some ⟨gx1, 0, none⟩) (n + 1) (n + 1))) (a1 : W0.cell? ⟨q, 1, none⟩ = some (.slice (some ⟨gx2, 0, none⟩) n n)) (b0 : W0.cell? ⟨q + 1, 0, none⟩ = some (.slice (some ⟨gy1, 0, none⟩) (n + 1) (n + 1))) (b1 : W0.cell? ⟨q + 1, 1, none⟩ = some (.slice (some ⟨gy2, 0, none⟩) n n)) :
    gapsAt W0 q gx1 gx2 gy1 gy2 n x y := by
  have lx1 := (X1.lt gx1 rfl).2
  have lx2 := (X2.lt gx2 rfl).2
  have ly1 := (Y1.lt gy1 rfl).2
  have ly2 := (Y2.lt gy2 rfl).2
  have key : ∀ (x : GSt), x.1.length = n → (∀ (j : Nat) (u : List UInt8) (d : Bool), x.1[j]? = some (u, d) → ((strsP n x).map strV)[j]? = some (Value.string ⟨u.toArray⟩) ∧ ((boolsP n x).map Value.bool)[j]? = some (Value.bool d)) ∧ ((strsP n x).map strV)[n]? = some (Value.string ⟨x.2.toArray⟩) := by
    intro x hx
    refine ⟨fun j u d hj => ?_, ?_⟩
    · have hlt := (List.getElem?_eq_some_iff.1 hj).1
      have e1 : (strsP n x)[j]? = some u := by
        unfold strsP
        rw [List.getElem?_append_left (by simpa using hlt), List.getElem?_map, hj]; rfl
      have e2 : (boolsP n x)[j]? = some d := by
        unfold boolsP
        rw [List.getElem?_append_left (by simpa using hlt), List.getElem?_map, hj]; rfl
      rw [List.getElem?_map, e1, List.getElem?_map, e2]
      exact ⟨rfl, rfl⟩
    · have e1 : (strsP n x)[n]? = some x.2 := by
        unfold strsP
        rw [List.getElem?_append_right (by simp [hx])]
        simp [hx]
      rw [List.getElem?_map, e1]; rfl
  obtain ⟨kx1, kx2⟩ := key x hx
  obtain ⟨ky1, ky2⟩ := key y hy
  refine ⟨a0, a1, b0, b1, fun j u d hj => ?_, fun j u d hj => ?_, ?_, ?_, by omega, by omega, by omega, by omega⟩
  · have hlt := (List.getElem?_eq_some_iff.1 hj).1
    obtain ⟨k1, k2⟩ := kx1 j u d hj
    exact ⟨(b6.cell (p := ⟨gx1, j, none⟩) lx1).trans ((X1.cellAt j (by omega)).trans k1), (b6.cell (p := ⟨gx2, j, none⟩) lx2).trans ((X2.cellAt j (by omega)).trans k2)⟩
  · have hlt := (List.getElem?_eq_some_iff.1 hj).1
    obtain ⟨k1, k2⟩ := ky1 j u d hj
    exact ⟨(b8.cell (p := ⟨gy1, j, none⟩) ly1).trans ((Y1.cellAt j (by omega)).trans k1), (b8.cell (p := ⟨gy2, j, none⟩) ly2).trans ((Y2.cellAt j (by omega)).trans k2)⟩
  · exact (b6.cell (p := ⟨gx1, n, none⟩) lx1).trans ((X1.cellAt n (by omega)).trans kx2)
  · exact (b8.cell (p := ⟨gy1, n, none⟩) ly1).trans ((Y1.cellAt n (by omega)).trans ky2)

set_option maxRecDepth 100000 in
set_option maxHeartbeats 2000000 in
theorem refTrans_err (v1 v2 : Value) (first : Bool) (a b : List Pt) (w : World) (h1 : opAt w v1 a) (h2 : opAt w v2 b) (w1 : ∀ p ∈ a, wfP p) (w2 : ∀ p ∈ b, wfP p) (s1 : ∀ p ∈ a, p.put.length < 100000000) (s2 : ∀ p ∈ b, p.put.length < 100000000) (l1 : a.length < 10000000) (l2 : b.length < 10000000) (he : bothE a b ≠ 0) :
    Calls Tryd.prog 59 #[v1, v2, .bool first] w fun e w' => e = .returned (.tuple #[.slice none 0 0, .int .i64 (bothE a b)]) ∧ Below w.heap.size w w' := by
  have cB : Hid _ := refBoth_any v1 v2 a b w h1 h2 w1 w2 s1 s2 l1 l2
  have hne : ¬ bothE a b = 0 := he
  generalize bothE a b = E at *
  obtain ⟨p1, c1, rfl, _⟩ := h1
  obtain ⟨p2, c2, rfl, _⟩ := h2
  clear w1 w2 s1 s2 he
  go_enter Tryd.func59, Tryd.ntmps59
  go_wp2_with (first
    | (go_at_call 103; refine Calls.mono cB.out ?_; rintro e w1 ⟨rfl, hb1⟩)
    | fail)
  go_ret2
  exact ⟨rfl, hb1⟩
set_option maxRecDepth 100000 in
set_option maxHeartbeats 2000000 in
theorem refTrans_len (v1 v2 : Value) (first : Bool) (a b : List Pt) (w : World) (h1 : opAt w v1 a) (h2 : opAt w v2 b) (w1 : ∀ p ∈ a, wfP p) (w2 : ∀ p ∈ b, wfP p) (s1 : ∀ p ∈ a, p.put.length < 100000000) (s2 : ∀ p ∈ b, p.put.length < 100000000) (l1 : a.length < 10000000) (l2 : b.length < 10000000) (he : bothE a b = 0) (hl : (lensW b).1 ≠ (lensW a).1) :
    Calls Tryd.prog 59 #[v1, v2, .bool first] w fun e w' => e = .returned (.tuple #[.slice none 0 0, .int .i64 (2)]) ∧ Below w.heap.size w w' := by
  have cB : Hid _ := refBoth_any v1 v2 a b w h1 h2 w1 w2 s1 s2 l1 l2
  rw [he] at cB
  have cL1 : Hid (∀ wx, Below w.heap.size w wx → Calls Tryd.prog 47 #[v1] wx fun e w' => e = .returned (.tuple #[.int .i64 (lensW a).1, .int .i64 (lensW a).2]) ∧ Below wx.heap.size wx w') := fun wx hb => refLens_any v1 a wx (opAt_grown h1 hb) l1
  have cL2 : Hid (∀ wx, Below w.heap.size w wx → Calls Tryd.prog 47 #[v2] wx fun e w' => e = .returned (.tuple #[.int .i64 (lensW b).1, .int .i64 (lensW b).2]) ∧ Below wx.heap.size wx w') := fun wx hb => refLens_any v2 b wx (opAt_grown h2 hb) l2
  generalize (lensW a).1 = A1 at *
  generalize (lensW a).2 = A2 at *
  generalize (lensW b).1 = B1 at *
  generalize (lensW b).2 = B2 at *
  obtain ⟨p1, c1, rfl, _⟩ := h1
  obtain ⟨p2, c2, rfl, _⟩ := h2
  clear w1 w2 s1 s2 he
  go_enter Tryd.func59, Tryd.ntmps59
  go_wp2_with (first
    | (have _ := HB2; go_at_call 47; refine (cL2.out _ HB2.out).mono ?_; rintro e w3 ⟨rfl, hb3⟩; have HB3 : Hid (Below w.heap.size w w3) := HB2.out.trans (hb3.mono HB2.out.size); clear hb3)
    | (go_at_call 47; refine (cL1.out _ HB1.out).mono ?_; rintro e w2 ⟨rfl, hb2⟩; have HB2 : Hid (Below w.heap.size w w2) := HB1.out.trans (hb2.mono HB1.out.size); clear hb2)
    | (go_at_call 103; refine Calls.mono cB.out ?_; rintro e w1 ⟨rfl, hb1⟩; have HB1 : Hid (Below w.heap.size w w1) := hb1; clear hb1)
    | fail)
  go_ret2
  exact ⟨rfl, HB3.out⟩
end Go.Proofs.YtedonckeomccpaaDoor
