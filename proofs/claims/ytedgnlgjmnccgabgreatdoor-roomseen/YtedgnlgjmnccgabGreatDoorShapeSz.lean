/-
  How many bytes come of an operation over a document in its own form: what sizeOf's loop keeps (pure, but for the rest's row).
-/
import Derived.Test.YtedgnlgjmnccgabGreatDoorShapeTx
import Derived.Test.YtedgnlgjmnccgabGreatDoorErrNum
namespace Go.Proofs.YtedgnlgjmnccgabGreatDoor
open Go.RowKit
set_option linter.unusedVariables false

def szV (u : Int) (R : List Nat) (qs : List Pt) : Int := if okZ u R qs then C1 (comesZ u R qs) else 0
def szE (u : Int) (R : List Nat) (qs : List Pt) : Int := if okZ u R qs then 0 else 10
def szI (w : World) (u : Int) (k : IntKind) (R : List Nat) (qs : List Pt) (x : Nat) (v8 v9 : Value) (wr : World) : Prop :=
  ∃ (S : Int) (p : Option Addr) (n c : Nat) (R' : List Nat), v8 = .int .i64 S ∧ v9 = .slice p n c ∧ sl wr k p n c (rowZ u R') ∧ (∀ r ∈ R', isRune r) ∧ longP (qs.drop x) = by_ u R' ∧
    okZ u R qs = okZ u R' (qs.drop x) ∧ (okZ u R qs = true → S + C1 (comesZ u R' (qs.drop x)) = C1 (comesZ u R qs)) ∧ 0 ≤ S ∧ S ≤ 2000000 * (x : Int) ∧ C1 R' ≤ 1000000 ∧ x ≤ qs.length ∧ Below w.heap.size w wr
theorem szI_start {w : World} {u : Int} {k : IntKind} {R : List Nat} {qs : List Pt} {p : Option Addr} {n c : Nat} (hz : C1 R ≤ 1000000) (hsl : sl w k p n c (rowZ u R)) (hR : ∀ r ∈ R, isRune r) (hl : longP qs = by_ u R) : szI w u k R qs 0 (.int .i64 0) (.slice p n c) w :=
  ⟨0, p, n, c, R, rfl, rfl, hsl, hR, hl, rfl, fun _ => Int.zero_add _, Int.le_refl _, Int.le_refl _, hz, Nat.zero_le _, Below.refl _ _⟩
/-- What is known of a part at its place. -/
structure szStep (u : Int) (R' : List Nat) (q : Pt) (qs' : List Pt) (n : Nat) : Prop where
  k0 : 0 ≤ q.keep
  d0 : 0 ≤ q.drop
  le : q.keep + q.drop ≤ (n : Int)
  len : (n : Int) = by_ u R'
  one : oneB q = true ∧ (scan q.put).2 = true
  long : lenP q + longP qs' = by_ u R'
  rest : 0 ≤ longP qs'
theorem sz_step {w : World} {u : Int} {k : IntKind} {R' : List Nat} {qs : List Pt} {q : Pt} {x : Nat} {p : Option Addr} {n c : Nat} (hu : unitOk u) (hd : qs.drop x = q :: qs.drop (x + 1)) (hq : oneB q = true ∧ (scan q.put).2 = true) (hrest : ∀ y ∈ qs.drop (x + 1), oneB y = true ∧ (scan y.put).2 = true)
    (hsl : sl w k p n c (rowZ u R')) (hR : ∀ r ∈ R', isRune r) (hl : longP (qs.drop x) = by_ u R') (hz : C1 R' ≤ 1000000) : szStep u R' q (qs.drop (x + 1)) n := by
  have hs := (one_sound hq.1).1
  have hp := sum_pos (l := qs.drop (x + 1)) fun y hy => by
    have := (one_sound (hrest y hy).1).1
    unfold soundP at this; unfold lenP; omega
  have hlen : (n : Int) = by_ u R' := by rw [hsl.1, rowZ_len hu]
  have hl2 : longP (q :: qs.drop (x + 1)) = lenP q + longP (qs.drop (x + 1)) := by simp [longP]
  rw [hd, hl2] at hl
  refine ⟨hs.1, hs.2, ?_, hlen, hq, hl, hp⟩
  have : lenP q = q.keep + q.drop := rfl
  omega
theorem C1_part {A B : List Nat} {R : List Nat} (h : R = A ++ B) : C1 A ≤ C1 R ∧ C1 B ≤ C1 R := by
  rw [h, C1_append]
  have := C1_pos A; have := C1_pos B
  omega
theorem szStep_good {u : Int} {R' : List Nat} {K D : Int} {U : List UInt8} {qs' : List Pt} {n : Nat} (hu : unitOk u) (h : szStep u R' ⟨K, D, U⟩ qs' n) (hR : ∀ r ∈ R', isRune r) (hz : C1 R' ≤ 1000000) (he : onEdge R' u (K + D) = true) :
    (rowZ u R').take (K + D).toNat = rowZ u (upTo R' u (K + D)) ∧ C1 (upTo R' u (K + D)) ≤ 1000000 ∧ (∀ r ∈ upTo R' u (K + D), isRune r) ∧
    ((rowZ u R').drop (K + D).toNat = rowZ u (restZ u R' (K + D)) ∧ (∀ r ∈ restZ u R' (K + D), isRune r) ∧ longP qs' = by_ u (restZ u R' (K + D)) ∧ C1 (restZ u R' (K + D)) ≤ 1000000 ∧
      okZ u R' (⟨K, D, U⟩ :: qs') = okZ u (restZ u R' (K + D)) qs' ∧ C1 (comesZ u R' (⟨K, D, U⟩ :: qs')) = ((if 0 < K then C1 (upTo R' u (K + D)) else 0) + (U.length : Int)) + C1 (comesZ u (restZ u R' (K + D)) qs')) := by
  have hl : lenP ⟨K, D, U⟩ = K + D := rfl
  have h0 : 0 ≤ K + D := by have := h.k0; have := h.d0; simp only at *; omega
  have hle : K + D ≤ by_ u R' := by have := h.le; have := h.len; simp only at *; omega
  obtain ⟨e1, e2⟩ := edge_at hu hle he
  obtain ⟨e3, e4⟩ := piece_row hu h0 hle he
  have hc := C1_part e1
  have hby : by_ u R' = by_ u (upTo R' u (K + D)) + by_ u (restZ u R' (K + D)) := by rw [← by_append]; exact congrArg _ e1
  have hlong := h.long
  rw [hl] at hlong
  refine ⟨e3, by omega, upTo_rune hu hle hR, e4, rest_rune hR, by omega, by omega, ?_, ?_⟩
  · show (onEdge R' u (lenP ⟨K, D, U⟩) && okZ u (restZ u R' (lenP ⟨K, D, U⟩)) qs') = _
    rw [hl, he]; rfl
  · show C1 (((if 0 < K then upTo R' u (lenP ⟨K, D, U⟩) else []) ++ runesOf U) ++ comesZ u (restZ u R' (lenP ⟨K, D, U⟩)) qs') = _
    rw [hl, C1_append, C1_append]
    have e5 : C1 (runesOf U) = (U.length : Int) := by rw [C1_len, encs_runesOf h.one.2]
    rw [e5]
    split
    · rfl
    · rfl
theorem szStep_bad {u : Int} {R' : List Nat} {K D : Int} {U : List UInt8} {qs' : List Pt} {n : Nat} (hu : unitOk u) (h : szStep u R' ⟨K, D, U⟩ qs' n) (hR : ∀ r ∈ R', isRune r) (he : onEdge R' u (K + D) = false) :
    ∀ X, (∀ r ∈ X, isRune r) → (rowZ u R').take (K + D).toNat ≠ rowZ u X :=
  piece_bad hu hR (by have := h.k0; have := h.d0; simp only at *; omega) (by have := h.le; have := h.len; simp only at *; omega) he
theorem sz_bad {u : Int} {R : List Nat} {qs : List Pt} (h : okZ u R qs = false) : szV u R qs = 0 ∧ szE u R qs = 10 := by
  unfold szV szE
  rw [h]
  exact ⟨rfl, rfl⟩
theorem sz_good {u : Int} {R R' : List Nat} {qs : List Pt} {S : Int} (h : okZ u R qs = okZ u R' []) (hc : okZ u R qs = true → S + C1 (comesZ u R' []) = C1 (comesZ u R qs)) : szV u R qs = S ∧ szE u R qs = 0 := by
  have h1 : okZ u R qs = true := h
  have h2 := hc h1
  unfold szV szE
  rw [h1, if_pos rfl, if_pos rfl]
  have e : C1 (comesZ u R' []) = 0 := rfl
  exact ⟨by omega, rfl⟩
/-- A part is done. -/
theorem szI_next {w wn : World} {u : Int} {k : IntKind} {R R' R2 : List Nat} {qs : List Pt} {x : Nat} {K D S A : Int} {U : List UInt8} {p : Option Addr} {n c : Nat}
    (hx : x < qs.length) (hok : okZ u R qs = okZ u R' (⟨K, D, U⟩ :: qs.drop (x + 1))) (hcome : okZ u R qs = true → S + C1 (comesZ u R' (⟨K, D, U⟩ :: qs.drop (x + 1))) = C1 (comesZ u R qs))
    (hs : (∀ r ∈ R2, isRune r) ∧ longP (qs.drop (x + 1)) = by_ u R2 ∧ C1 R2 ≤ 1000000 ∧ okZ u R' (⟨K, D, U⟩ :: qs.drop (x + 1)) = okZ u R2 (qs.drop (x + 1)) ∧ C1 (comesZ u R' (⟨K, D, U⟩ :: qs.drop (x + 1))) = (A + (U.length : Int)) + C1 (comesZ u R2 (qs.drop (x + 1))))
    (hsl : sl wn k p n c (rowZ u R2)) (h0 : 0 ≤ S) (h1 : S ≤ 2000000 * (x : Int)) (hA0 : 0 ≤ A) (hA : A ≤ 1000000) (hU : U.length ≤ 1000000) (hb : Below w.heap.size w wn) : szI w u k R qs (x + 1) (.int .i64 (S + A + U.length)) (.slice p n c) wn := by
  obtain ⟨s1, s2, s3, s4, s5⟩ := hs
  refine ⟨_, p, n, c, R2, rfl, rfl, hsl, s1, s2, hok.trans s4, fun h => ?_, by omega, by rw [Int.natCast_add]; omega, s3, hx, hb⟩
  have := hcome h
  omega
end Go.Proofs.YtedgnlgjmnccgabGreatDoor
