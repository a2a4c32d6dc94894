/-
  The rope's tree, as memory holds it; what its nodes' counts, height and size tell.
-/
import Derived.Test.YtedgnlgjmnccgabGreatDoorRegionRel
import Derived.Test.YtedgnlgjmnccgabGreatDoorReadsFacts
namespace Go.Proofs.YtedgnlgjmnccgabGreatDoor
open Go.RowKit
set_option linter.unusedVariables false

/-! ### What runes count -/
def C1 (rs : List Nat) : Int := sum1 (wide rs)
def C2 (rs : List Nat) : Int := sum2 (wide rs)
def C3 (rs : List Nat) : Int := rs.length
def C4 (rs : List Nat) : Int := sum4 (wide rs)
theorem wide_append (a b : List Nat) : wide (a ++ b) = wide a ++ wide b := by simp [wide]
theorem C1_append (a b : List Nat) : C1 (a ++ b) = C1 a + C1 b := by unfold C1 sum1; rw [wide_append, List.map_append, List.sum_append]
theorem C2_append (a b : List Nat) : C2 (a ++ b) = C2 a + C2 b := by unfold C2 sum2; rw [wide_append, List.map_append, List.sum_append]
theorem C3_append (a b : List Nat) : C3 (a ++ b) = C3 a + C3 b := by unfold C3; rw [List.length_append]; push_cast; rfl
theorem C4_append (a b : List Nat) : C4 (a ++ b) = C4 a + C4 b := by unfold C4 sum4; rw [wide_append, List.map_append, List.sum_append]
theorem C1_len (rs : List Nat) : C1 rs = (encs rs).length := sum1_wide rs
theorem C3_le (rs : List Nat) : 0 ≤ C3 rs ∧ C3 rs ≤ C1 rs := by
  have := encs_len rs
  rw [C1_len]; unfold C3; omega
theorem C4_le (rs : List Nat) : 0 ≤ C4 rs ∧ C4 rs ≤ C1 rs := by
  have h := sum4_le (wide rs)
  have h3 := C3_le rs
  have e : (wide rs).length = rs.length := by simp [wide]
  rw [e] at h
  unfold C4
  unfold C3 at h3
  omega
theorem C2_le (rs : List Nat) : 0 ≤ C2 rs ∧ C2 rs ≤ 2 * C1 rs := by
  have h := sum2_le (wide rs)
  have h3 := C3_le rs
  have e : (wide rs).length = rs.length := by simp [wide]
  rw [e] at h
  unfold C2
  unfold C3 at h3
  omega

/-- Runes' bytes. -/
def bytesOf (rs : List Nat) : ByteArray := ⟨(encs rs).toArray⟩
theorem bytesOf_size (rs : List Nat) : (bytesOf rs).size = (encs rs).length := by simp [bytesOf, ByteArray.size]
theorem bytesOf_list (rs : List Nat) : (bytesOf rs).data.toList = encs rs := rfl
/-- The chunks' tree. -/
inductive T where
  | nil
  | node (l : T) (rs : List Nat) (r : T)
def T.size : T → Nat
  | .nil => 0
  | .node l _ r => 1 + l.size + r.size

theorem cell_on {W W' : World} (hb : Below W.heap.size W W') {b o : Nat} {v : Value} (h : W.cell? ⟨b, o, none⟩ = some v) : W'.cell? ⟨b, o, none⟩ = some v :=
  (hb.cell (p := ⟨b, o, none⟩) (World.block_lt_of_cell? W _ h)).trans h
end Go.Proofs.YtedgnlgjmnccgabGreatDoor
