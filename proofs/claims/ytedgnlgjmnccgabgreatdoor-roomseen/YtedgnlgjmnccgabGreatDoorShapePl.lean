/-
  What play's loop keeps.
-/
import Derived.Test.YtedgnlgjmnccgabGreatDoorShapeSz
namespace Go.Proofs.YtedgnlgjmnccgabGreatDoor
open Go.RowKit
set_option linter.unusedVariables false

def plE (u : Int) (R : List Nat) (qs : List Pt) : Int := if okZ u R qs then (if C1 (comesZ u R qs) ≤ 8000 then 0 else 12) else 10
theorem errV_0 : errV 0 = .nilIface := rfl
theorem errV_10 : errV 10 = .iface 26 (.int .i64 10) := rfl
theorem pl_no {u : Int} {R : List Nat} {qs : List Pt} (h : plE u R qs ≠ 0) : (szV u R qs = 0 ∧ szE u R qs = 10 ∧ plE u R qs = 10) ∨ (szV u R qs = C1 (comesZ u R qs) ∧ szE u R qs = 0 ∧ plE u R qs = 12 ∧ 8000 < C1 (comesZ u R qs)) := by
  unfold plE at h
  unfold szV szE plE
  split at h
  · split at h
    · exact absurd rfl h
    · rename_i h1 h2
      right
      rw [h1, if_pos rfl, if_pos rfl, if_pos rfl, if_neg h2]
      exact ⟨rfl, rfl, rfl, by omega⟩
  · rename_i h1
    left
    rw [if_neg h1, if_neg h1, if_neg h1]
    exact ⟨rfl, rfl, rfl⟩
theorem grown_boxT {w w' : World} {b : Nat} {o : Obj} {v : Value} {N n e : Nat} {xs : List Value} (h : w.heap[b]? = some o) (hr : w.ownsRow N e 1 v n xs) (hg : w.grownBy w' v.ownBlock) (ho : ∀ c fz, o ≠ .cells c e fz) : w'.heap[b]? = some o := by
  refine (hg.block b (Array.getElem?_eq_some_iff.1 h).1 ?_).trans h
  intro e
  rcases hr.2 with ⟨hx, _⟩ | ⟨g, cap, cur, rfl, _, hgg, _⟩
  · rw [hx] at e; cases e
  · have e2 : some b = some g := e
    obtain rfl := Option.some.inj e2
    rw [h] at hgg
    exact ho _ _ (Option.some.inj hgg)
def plI (w : World) (e : TypeId) (u : Int) (k : IntKind) (R : List Nat) (qs : List Pt) (x : Nat) (v11 v12 : Value) (wr : World) : Prop :=
  ∃ (L : List Nat) (p : Option Addr) (n c : Nat) (R' : List Nat), wr.ownsRow w.heap.size e 1 v11 (rowZ u L).length ((rowZ u L).map (Value.int k)) ∧ v12 = .slice p n c ∧ sl w k p n c (rowZ u R') ∧ (∀ r ∈ R', isRune r) ∧ longP (qs.drop x) = by_ u R' ∧
    okZ u R' (qs.drop x) = true ∧ comesZ u R qs = L ++ comesZ u R' (qs.drop x) ∧ C1 R' ≤ 1000000 ∧ x ≤ qs.length ∧ Below w.heap.size w wr ∧ w.heap.size ≤ wr.heap.size
theorem plI_start {w w1 : World} {e : TypeId} {u : Int} {k : IntKind} {R : List Nat} {qs : List Pt} {p : Option Addr} {n c : Nat} (hz : C1 R ≤ 1000000) (hsl : sl w k p n c (rowZ u R)) (hR : ∀ r ∈ R, isRune r) (hl : longP qs = by_ u R) (hok : okZ u R qs = true) (hb : Below w.heap.size w w1) : plI w e u k R qs 0 (.slice none 0 0) (.slice p n c) w1 :=
  ⟨[], p, n, c, R, by rw [rowZ_nil]; exact World.ownsRow_nil _ _ _ _, rfl, hsl, hR, hl, hok, rfl, hz, Nat.zero_le _, hb, hb.size⟩
theorem pl_kept {u : Int} {R' : List Nat} {Kn M : Nat} {D : Int} {U : List UInt8} {Y : List Nat} (h : oneB ⟨(Kn : Int), D, U⟩ = true) (hM : (Kn : Int) + D = (M : Int)) (hY : (if 0 < (Kn : Int) then upTo R' u ((Kn : Int) + D) else []) = Y) (hp : (rowZ u R').take M = rowZ u (upTo R' u ((Kn : Int) + D))) : (rowZ u R').take Kn = rowZ u Y := by
  rcases oneB_shapes h with ⟨h1, h2, h3⟩ | ⟨h1, h2, h3⟩ | ⟨h1, h2, h3⟩
  · have h1 : 0 < (Kn : Int) := h1
    have h2 : D = 0 := h2
    rw [if_pos h1] at hY
    have : Kn = M := by omega
    rw [this, hp, hY]
  · have h1 : (Kn : Int) = 0 := h1
    rw [if_neg (by omega)] at hY
    have : Kn = 0 := by omega
    rw [this, ← hY, rowZ_nil]; rfl
  · have h1 : (Kn : Int) = 0 := h1
    rw [if_neg (by omega)] at hY
    have : Kn = 0 := by omega
    rw [this, ← hY, rowZ_nil]; rfl
theorem by_le3 {u : Int} (hu : unitOk u) (rs : List Nat) : by_ u rs ≤ 2 * C1 rs := by
  have h1 := C1_pos rs
  have h2 := C2_le rs
  have h3 : C3 rs ≤ C1 rs := by
    have := encs_len rs
    rw [C1_len]; unfold C3; omega
  unfold by_
  rcases hu with rfl | rfl | rfl
  · rw [if_pos rfl]; omega
  · rw [if_neg (by decide), if_pos rfl]; omega
  · rw [if_neg (by decide), if_neg (by decide), if_pos rfl]; omega
theorem pl_lens {u : Int} (hu : unitOk u) {R L Y V T : List Nat} {qs : List Pt} (h : C1 (comesZ u R qs) ≤ 8000) (e : comesZ u R qs = (L ++ Y ++ V) ++ T) : (rowZ u L).length ≤ 16000 ∧ (rowZ u Y).length ≤ 16000 ∧ (rowZ u V).length ≤ 16000 := by
  rw [e, C1_append, C1_append, C1_append] at h
  have h1 := C1_pos L; have h2 := C1_pos Y; have h3 := C1_pos V; have h4 := C1_pos T
  have k1 := by_le3 hu L; have k2 := by_le3 hu Y; have k3 := by_le3 hu V
  have l1 := rowZ_len hu L; have l2 := rowZ_len hu Y; have l3 := rowZ_len hu V
  omega
end Go.Proofs.YtedgnlgjmnccgabGreatDoor
