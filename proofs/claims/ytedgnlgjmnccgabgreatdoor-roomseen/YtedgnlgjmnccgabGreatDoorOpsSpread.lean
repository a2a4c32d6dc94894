/-
  The document's Spread: an operation as gaps.
-/
import Derived.Test.YtedgnlgjmnccgabGreatDoorOpsLens
import Derived.Test.YtedgnlgjmnccgabGreatDoorRegionRel
import Derived.Test.YtedgnlgjmnccgabGreatDoorHalves
import Derived.Test.YtedgnlgjmnccgabGreatDoorBackPure
import Derived.Deep.RegionWith
namespace Go.Proofs.YtedgnlgjmnccgabGreatDoor
open Go.RowKit
set_option linter.unusedVariables false

theorem info_str : (Tryz.prog.info? 9).map (fun i => (i.zero, i.size, i.bytes)) = some (some (.string ⟨#[]⟩), 1, 16) := by kernel_rfl
theorem spreads_snoc (ps : List Pt) (p : Pt) : spreads (ps ++ [p]) = spreadP (spreads ps) p := by simp [spreads]
theorem spreadP_nat (g : GSt) (p : Pt) : (spreadP g p).1.length = g.1.length + p.drop.toNat + p.keep.toNat := by
  unfold spreadP
  rw [ticks_len, ticks_len]
/-- How long an operation is, where nothing wraps round. -/
def isP (p : Pt) : Int := p.keep + p.put.length
theorem lens_plain (ps : List Pt) (h : ∀ p ∈ ps, soundP p) (hw : wts ps < 4611686018427387904) : (lensW ps).1 = (spreads ps).1.length ∧ (lensW ps).2 = (ps.map isP).sum ∧ ((spreads ps).1.length : Int) ≤ wts ps ∧ (ps.map isP).sum ≤ wts ps := by
  have key : ∀ k, k ≤ ps.length → (lensW (ps.take k)).1 = (spreads (ps.take k)).1.length ∧ (lensW (ps.take k)).2 = ((ps.take k).map isP).sum ∧ ((spreads (ps.take k)).1.length : Int) ≤ wts (ps.take k) ∧ ((ps.take k).map isP).sum ≤ wts (ps.take k) ∧ 0 ≤ ((ps.take k).map isP).sum := by
    intro k
    induction k with
    | zero => intro _; simp [lensW, spreads, wts]
    | succ k ih =>
      intro hk
      obtain ⟨h1, h2, h3, h4, h5⟩ := ih (by omega)
      have hp := h _ (List.getElem_mem (show k < ps.length by omega))
      have ht := wts_take h (k + 1)
      have hts : ps.take (k + 1) = ps.take k ++ [ps[k]] := List.take_succ_eq_append_getElem (by omega)
      have hls : lensW (ps.take (k + 1)) = lenW (lensW (ps.take k)) ps[k] := by
        unfold lensW
        rw [hts, List.foldl_append]; rfl
      rw [hls, hts, spreads_snoc, spreadP_nat, wts_snoc, List.map_append, List.sum_append]
      rw [hts, wts_snoc] at ht
      generalize ps[k] = q at *
      obtain ⟨q1, q2⟩ := hp
      have hwq : wtP q = q.keep + q.drop + q.put.length := rfl
      have hiq : ([q].map isP).sum = q.keep + q.put.length := by simp [isP]
      rw [hiq]
      unfold lenW
      simp only
      rw [h1, h2]
      have w1 : IntKind.i64.wrap (q.keep + q.drop) = q.keep + q.drop := by rw [IntKind.wrap_i64]; omega
      have w2 : IntKind.i64.wrap (q.keep + (q.put.length : Int)) = q.keep + q.put.length := by rw [IntKind.wrap_i64]; omega
      rw [w1, w2]
      have w3 : IntKind.i64.wrap (((spreads (ps.take k)).1.length : Int) + (q.keep + q.drop)) = ((spreads (ps.take k)).1.length : Int) + (q.keep + q.drop) := by rw [IntKind.wrap_i64]; omega
      have w4 : IntKind.i64.wrap (((ps.take k).map isP).sum + (q.keep + (q.put.length : Int))) = ((ps.take k).map isP).sum + (q.keep + q.put.length) := by rw [IntKind.wrap_i64]; omega
      rw [w3, w4]
      refine ⟨by omega, rfl, by omega, by omega, by omega⟩
  have := key ps.length (Nat.le_refl _)
  rw [List.take_length] at this
  exact ⟨this.1, this.2.1, this.2.2.1, this.2.2.2.1⟩

end Go.Proofs.YtedgnlgjmnccgabGreatDoor
