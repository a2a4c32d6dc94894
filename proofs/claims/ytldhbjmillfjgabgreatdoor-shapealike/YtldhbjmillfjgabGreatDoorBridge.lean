/-
  bridge.To by runes: what Check tells; else each part in bytes.
-/
import Derived.Test.YtldhbjmillfjgabGreatDoorSteps
import Derived.Test.YtldhbjmillfjgabGreatDoorOpsChk
import Derived.Test.YtldhbjmillfjgabGreatDoorOpsNormP
import Derived.Test.YtldhbjmillfjgabGreatDoorFit
import Derived.Test.YtldhbjmillfjgabGreatDoorShelfK
namespace Go.Proofs.YtldhbjmillfjgabGreatDoor
open Go.RowKit
set_option linter.unusedVariables false
attribute [local go_sem] Oper.semAt_some

theorem clone_any (u : List UInt8) (hu : u.length ≤ 10000000) (w : World) : Calls Tryz.prog 88 #[.string ⟨u.toArray⟩] w fun e w' => e = .returned (.string ⟨u.toArray⟩) ∧ Below w.heap.size w w' := by
  have c := Tryz.stringslite_Clone ⟨u.toArray⟩ w (by simp [ByteArray.size]; omega)
  have C : Hid _ := c
  clear c
  go_enter Tryz.func88, Tryz.ntmps88
  go_wp2_with (first | (go_at_call 140; refine Calls.mono C.out ?_; rintro e w1 ⟨rfl, hb1⟩) | fail)
  go_ret
  exact ⟨rfl, hb1⟩

theorem sum_pos {l : List Pt} (hl : ∀ q ∈ l, 0 ≤ lenP q) : 0 ≤ longP l := by
  induction l with
  | nil => simp [longP]
  | cons p l ih =>
    have := hl p (by simp)
    have := ih fun x hx => hl x (by simp [hx])
    simp only [longP, List.map_cons, List.sum_cons] at this ⊢
    omega
theorem chk2_long : ∀ {ps : List Pt} {N : Int}, (∀ q ∈ ps, 0 ≤ lenP q) → chk2 ps N = 0 → longP ps = N
  | [], N, _, h => by
    unfold chk2 at h
    split at h
    · rename_i e; simp [longP, e]
    · cases h
  | p :: ps, N, hl, h => by
    unfold chk2 at h
    split at h
    · cases h
    · have := chk2_long (fun q hq => hl q (by simp [hq])) h
      have e : longP (p :: ps) = lenP p + longP ps := by simp [longP]
      rw [e, this]; unfold lenP; omega
theorem chkE_parts {ps : List Pt} {N : Int} (h : chkE ps N = 0) : (∀ p ∈ ps, oneB p = true ∧ (scan p.put).2 = true) ∧ longP ps = N ∧ ∀ q ∈ ps, 0 ≤ lenP q := by
  unfold chkE at h
  split at h
  · rename_i h1
    have h2 := chk1_ones h1
    have h3 : ∀ q ∈ ps, 0 ≤ lenP q := fun q hq => by
      have := (one_sound (h2 q hq).1).1
      unfold soundP at this; unfold lenP; omega
    exact ⟨h2, chk2_long h3 h, h3⟩
  · rename_i h1; exact absurd h h1
theorem stp_grown {W W' : World} {s b : Nat} {u v a h : Int} {row : Option Nat} (k : stp W s b u v a h) (hg : W.grownBy W' row) (hr : ∀ j, row = some j → s + 5 ≤ j) : stp W' s b u v a h := by
  have l0 := World.block_lt_of_cell? W _ k.r
  have l1 := World.block_lt_of_cell? W _ k.u
  have l2 := World.block_lt_of_cell? W _ k.v
  have l3 := World.block_lt_of_cell? W _ k.a
  have l4 := World.block_lt_of_cell? W _ k.h
  have nb : ∀ j, j < s + 5 → some j ≠ row := fun j hj e => by have := hr j e.symm; omega
  have e0 := hg.block s l0 (nb s (by omega))
  have e1 := hg.block (s + 1) l1 (nb (s + 1) (by omega))
  have e2 := hg.block (s + 2) l2 (nb (s + 2) (by omega))
  have e3 := hg.block (s + 3) l3 (nb (s + 3) (by omega))
  have e4 := hg.block (s + 4) l4 (nb (s + 4) (by omega))
  exact ⟨(cellOn e0 0).trans k.r, (cellOn e1 0).trans k.u, (cellOn e2 0).trans k.v, (cellOn e3 0).trans k.a, (frozenOn e3 0).trans k.af, (cellOn e4 0).trans k.h, (frozenOn e4 0).trans k.hf⟩
theorem sz_le {w w2 : World} {o : Obj} (h : (w.alloc o).heap.size ≤ w2.heap.size) : w.heap.size + 1 ≤ w2.heap.size := by
  rw [World.size_alloc] at h
  exact h
theorem oneB_shapes {q : Pt} (h : oneB q = true) : (0 < q.keep ∧ q.drop = 0 ∧ q.put = []) ∨ (q.keep = 0 ∧ 0 < q.drop ∧ q.put = []) ∨ (q.keep = 0 ∧ q.drop = 0 ∧ q.put ≠ []) := by
  unfold oneB at h
  split at h
  · rename_i h1; exact .inl ⟨of_decide_eq_true h, h1.1, h1.2⟩
  · split at h
    · rename_i h1 h2; exact .inr (.inl ⟨h2.1, of_decide_eq_true h, h2.2⟩)
    · rename_i h1 h2
      have h3 := of_decide_eq_true h
      exact .inr (.inr ⟨h3.1, h3.2, fun e => h1 ⟨h3.2, e⟩⟩)
end Go.Proofs.YtldhbjmillfjgabGreatDoor
