/-
  bridge.To by runes: what Check tells; else each part in bytes.
-/
import Derived.Test.YtedgnlgjmnccgabGreatDoorSteps
import Derived.Test.YtedgnlgjmnccgabGreatDoorOpsChk
import Derived.Test.YtedgnlgjmnccgabGreatDoorOpsNormP
import Derived.Test.YtedgnlgjmnccgabGreatDoorFit
import Derived.Test.YtedgnlgjmnccgabGreatDoorShelfK
namespace Go.Proofs.YtedgnlgjmnccgabGreatDoor
open Go.RowKit
set_option linter.unusedVariables false
attribute [local go_sem] Oper.semAt_some

theorem sum_pos {l : List Pt} (hl : ∀ q ∈ l, 0 ≤ lenP q) : 0 ≤ longP l := by
  induction l with
  | nil => simp [longP]
  | cons p l ih =>
    have := hl p (by simp)
    have := ih fun x hx => hl x (by simp [hx])
    simp only [longP, List.map_cons, List.sum_cons] at this ⊢
    omega
theorem chk2_long : ∀ {ps : List Pt} {N : Int}, (∀ q ∈ ps, 0 ≤ lenP q) → chk2 ps N = 0 → longP ps = N
  | [], N, _, h => by
    unfold chk2 at h
    split at h
    · rename_i e; simp [longP, e]
    · cases h
  | p :: ps, N, hl, h => by
    unfold chk2 at h
    split at h
    · cases h
    · have := chk2_long (fun q hq => hl q (by simp [hq])) h
      have e : longP (p :: ps) = lenP p + longP ps := by simp [longP]
      rw [e, this]; unfold lenP; omega
theorem chkE_parts {ps : List Pt} {N : Int} (h : chkE ps N = 0) : (∀ p ∈ ps, oneB p = true ∧ (scan p.put).2 = true) ∧ longP ps = N ∧ ∀ q ∈ ps, 0 ≤ lenP q := by
  unfold chkE at h
  split at h
  · rename_i h1
    have h2 := chk1_ones h1
    have h3 : ∀ q ∈ ps, 0 ≤ lenP q := fun q hq => by
      have := (one_sound (h2 q hq).1).1
      unfold soundP at this; unfold lenP; omega
    exact ⟨h2, chk2_long h3 h, h3⟩
  · rename_i h1; exact absurd h h1
theorem oneB_shapes {q : Pt} (h : oneB q = true) : (0 < q.keep ∧ q.drop = 0 ∧ q.put = []) ∨ (q.keep = 0 ∧ 0 < q.drop ∧ q.put = []) ∨ (q.keep = 0 ∧ q.drop = 0 ∧ q.put ≠ []) := by
  unfold oneB at h
  split at h
  · rename_i h1; exact .inl ⟨of_decide_eq_true h, h1.1, h1.2⟩
  · split at h
    · rename_i h1 h2; exact .inr (.inl ⟨h2.1, of_decide_eq_true h, h2.2⟩)
    · rename_i h1 h2
      have h3 := of_decide_eq_true h
      exact .inr (.inr ⟨h3.1, h3.2, fun e => h1 ⟨h3.2, e⟩⟩)
end Go.Proofs.YtedgnlgjmnccgabGreatDoor
