/-
  The document's own In, of counts.
-/
import Derived.Test.YtldhbjmillfjgabGreatDoorUnits
import Derived.Test.YtldhbjmillfjgabGreatDoorRefCnt
import Derived.Test.YtldhbjmillfjgabGreatDoorRefEdges
import Derived.Test.YtldhbjmillfjgabGreatDoorReadsEdge
import Derived.Maps.OwnOps
namespace Go.Proofs.YtldhbjmillfjgabGreatDoor
open Go.RowKit
open Go.Maps (Keyed int_keyed keyOf_int_mk)
set_option linter.unusedVariables false

theorem keyed_int : Keyed Tryz.prog 3 := int_keyed Tryz.underlying3
theorem zero_int (w : World) : (zeroValue 3).run Tryz.prog w = .ok (.int .i64 0) w := by kernel_rfl
def inC (u a b c : Int) : Int := if u = 1 then a else if u = 2 then b else if u = 3 then c else 0
theorem at_in (u a b c : Int) : (((((DataW.map (H := Unit) []).put (.int .i64 1) (.lit (.int .i64 a))).put (.int .i64 2) (.lit (.int .i64 b))).put (.int .i64 3) (.lit (.int .i64 c))).atKey (.int .i64 u) (.lit (.int .i64 0))) = .lit (.int .i64 (inC u a b c)) := by
  simp [DataW.put, DataW.insert, DataW.atKey, Lit.sameKey, Lit.before, inC]
  by_cases h1 : u = 1
  · subst h1; rfl
  by_cases h2 : u = 2
  · subst h2; rfl
  by_cases h3 : u = 3
  · subst h3; rfl
  simp [List.find?, h1, h2, h3, Ne.symm h1, Ne.symm h2, Ne.symm h3]

set_option maxHeartbeats 1000000 in
theorem refinc_any (a1 a2 a3 a4 u : Int) (v1 : (Lit.int .i64 a1).wf = true) (v2 : (Lit.int .i64 a2).wf = true) (v3 : (Lit.int .i64 a3).wf = true) (vu : (Lit.int .i64 u).wf = true) (w : World) :
    Calls Tryz.prog 30 #[.agg #[.int .i64 a1, .int .i64 a2, .int .i64 a3, .int .i64 a4], .int .i64 u] w
      fun e w' => e = .returned (.int .i64 (inC u a1 a2 a3)) ∧ Below w.heap.size w w' := by
  have wf1 : (Lit.int .i64 1).wf = true := by decide
  have wf2 : (Lit.int .i64 2).wf = true := by decide
  have wf3 : (Lit.int .i64 3).wf = true := by decide
  have hb0 : Below (w.heap.size + 1) (w.alloc (.cells #[.int .i64 a1, .int .i64 a2, .int .i64 a3, .int .i64 a4] 25)) ((w.alloc (.cells #[.int .i64 a1, .int .i64 a2, .int .i64 a3, .int .i64 a4] 25)).alloc (.map #[] 0)) :=
    (Below.refl _ _).alloc (by simp) _
  have h0 := World.ownsMap_made (H := Unit) (w.alloc (.cells #[.int .i64 a1, .int .i64 a2, .int .i64 a3, .int .i64 a4] 25)) Tryz.prog 3 (plainElem Tryz.prog 3)
  rw [World.size_alloc] at h0
  obtain ⟨w1, r1, h1, g1⟩ := h0.update keyed_int Tryz.underlying165 (by unfold maxLen; omega) (keyOf_int_mk Tryz.underlying3 wf1) (plainElem_int Tryz.underlying3 v1)
  have hb1 := hb0.grown g1 (by simp) (by intro k hk; cases hk; omega)
  obtain ⟨w2, r2, h2, g2⟩ := h1.update keyed_int Tryz.underlying165 (by unfold maxLen; omega) (keyOf_int_mk Tryz.underlying3 wf2) (plainElem_int Tryz.underlying3 v2)
  have hb2 := hb1.grown g2 (by have := hb1.size; simp at this; omega) (by intro k hk; cases hk; omega)
  obtain ⟨w3, r3, h3, g3⟩ := h2.update keyed_int Tryz.underlying165 (by unfold maxLen; omega) (keyOf_int_mk Tryz.underlying3 wf3) (plainElem_int Tryz.underlying3 v3)
  have hb3 := hb2.grown g3 (by have := hb2.size; simp at this; omega) (by intro k hk; cases hk; omega)
  obtain ⟨c, r4, h4, _⟩ := h3.lookup_int keyed_int Tryz.underlying165 Tryz.underlying3 (zero_int _) (keyOf_int_mk Tryz.underlying3 vu)
  rw [at_in] at h4
  injection h4 with h4; injection h4 with _ h4
  have c1 : w1.cell? ⟨w.heap.size, 1, none⟩ = some (.int .i64 a2) := by rw [hb1.cell (p := ⟨w.heap.size, 1, none⟩) (by simp)]; simp [go_sem]
  have c2 : w2.cell? ⟨w.heap.size, 2, none⟩ = some (.int .i64 a3) := by rw [hb2.cell (p := ⟨w.heap.size, 2, none⟩) (by simp)]; simp [go_sem]
  have hb : Below w.heap.size w w3 := (((Below.refl _ w).alloc (Nat.le_refl _) _)).trans (hb3.mono (by omega))
  clear hb0 hb1 hb2 hb3 h0 h1 h2 h3 g1 g2 g3
  subst h4
  have hmm := @run_makeMap Tryz.prog
  go_enter Tryz.func30, Tryz.ntmps30
  go_wp2
  go_ret
  exact ⟨rfl, hb⟩
theorem wf_small {n : Int} (h0 : -9223372036854775808 ≤ n) (h1 : n < 9223372036854775808) : (Lit.int .i64 n).wf = true := by
  simp [Lit.wf, IntKind.min, IntKind.max, IntKind.signed, IntKind.bits]; omega
/-- How many of a unit. -/
theorem refIn_any (u : Int) (rs : List Nat) (hu0 : -9223372036854775808 ≤ u) (hu1 : u < 9223372036854775808) (hz : C1 rs ≤ 100000000) (w : World) :
    Calls Tryz.prog 30 #[cntV rs, .int .i64 u] w fun e w' => e = .returned (.int .i64 (by_ u rs)) ∧ Below w.heap.size w w' := by
  have h1 := C1_pos rs
  have h2 := C2_le rs
  have h3 := C3_le rs
  exact refinc_any (C1 rs) (C2 rs) (C3 rs) (C4 rs) u (wf_small (by omega) (by omega)) (wf_small (by omega) (by omega)) (wf_small (by omega) (by omega)) (wf_small hu0 hu1) w

/-- The places as the program counts them. -/
theorem edge_cnt {rs : List Nat} (hr : ∀ r ∈ rs, isRune r) {i : Nat} (hi : i ≤ rs.length) : edge rs i = [.int .i64 (C1 (rs.take i)), .int .i64 (C2 (rs.take i)), .int .i64 (C3 (rs.take i)), .int .i64 (C4 (rs.take i))] := by
  have h1 : edge1 rs i = C1 (rs.take i) := by unfold edge1; rw [C1_len]
  have h2 : edge2 rs i = C2 (rs.take i) := by unfold edge2 C2; rw [sum2_wide]
  have h3 : C3 (rs.take i) = (i : Int) := by show ((rs.take i).length : Int) = _; rw [List.length_take]; omega
  have h4 : edge4 rs i = C4 (rs.take i) := by unfold edge4 C4; rw [sum4_wide fun r h => hr r (List.mem_of_mem_take h)]
  unfold edge
  rw [h1, h2, h3, h4]
end Go.Proofs.YtldhbjmillfjgabGreatDoor
