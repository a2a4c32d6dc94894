/-
  The rope's tree, as memory holds it; what its nodes' counts, height and size tell.
-/
import Derived.Test.YtldhbjmillfjgabGreatDoorRegionRel
import Derived.Test.YtldhbjmillfjgabGreatDoorReadsFacts
namespace Go.Proofs.YtldhbjmillfjgabGreatDoor
open Go.RowKit
set_option linter.unusedVariables false

/-! ### What runes count -/
def C1 (rs : List Nat) : Int := sum1 (wide rs)
def C2 (rs : List Nat) : Int := sum2 (wide rs)
def C3 (rs : List Nat) : Int := rs.length
def C4 (rs : List Nat) : Int := sum4 (wide rs)
theorem wide_append (a b : List Nat) : wide (a ++ b) = wide a ++ wide b := by simp [wide]
theorem C1_append (a b : List Nat) : C1 (a ++ b) = C1 a + C1 b := by unfold C1 sum1; rw [wide_append, List.map_append, List.sum_append]
theorem C2_append (a b : List Nat) : C2 (a ++ b) = C2 a + C2 b := by unfold C2 sum2; rw [wide_append, List.map_append, List.sum_append]
theorem C3_append (a b : List Nat) : C3 (a ++ b) = C3 a + C3 b := by unfold C3; rw [List.length_append]; push_cast; rfl
theorem C4_append (a b : List Nat) : C4 (a ++ b) = C4 a + C4 b := by unfold C4 sum4; rw [wide_append, List.map_append, List.sum_append]
theorem C1_len (rs : List Nat) : C1 rs = (encs rs).length := sum1_wide rs
theorem C3_le (rs : List Nat) : 0 ≤ C3 rs ∧ C3 rs ≤ C1 rs := by
  have := encs_len rs
  rw [C1_len]; unfold C3; omega
theorem C4_le (rs : List Nat) : 0 ≤ C4 rs ∧ C4 rs ≤ C1 rs := by
  have h := sum4_le (wide rs)
  have h3 := C3_le rs
  have e : (wide rs).length = rs.length := by simp [wide]
  rw [e] at h
  unfold C4
  unfold C3 at h3
  omega
theorem C2_le (rs : List Nat) : 0 ≤ C2 rs ∧ C2 rs ≤ 2 * C1 rs := by
  have h := sum2_le (wide rs)
  have h3 := C3_le rs
  have e : (wide rs).length = rs.length := by simp [wide]
  rw [e] at h
  unfold C2
  unfold C3 at h3
  omega

/-- Runes' bytes. -/
def bytesOf (rs : List Nat) : ByteArray := ⟨(encs rs).toArray⟩
theorem bytesOf_size (rs : List Nat) : (bytesOf rs).size = (encs rs).length := by simp [bytesOf, ByteArray.size]
theorem bytesOf_list (rs : List Nat) : (bytesOf rs).data.toList = encs rs := rfl
theorem bytesOf_append (a b : List Nat) : bytesOf a ++ bytesOf b = bytesOf (a ++ b) := by
  apply ByteArray.ext
  rw [ByteArray.data_append]
  unfold bytesOf
  rw [encs_append]
  simp

/-- The chunks' tree. -/
inductive T where
  | nil
  | node (l : T) (rs : List Nat) (r : T)
def T.runes : T → List Nat
  | .nil => []
  | .node l rs r => l.runes ++ rs ++ r.runes
def T.height : T → Nat
  | .nil => 0
  | .node l _ r => 1 + max l.height r.height
def T.size : T → Nat
  | .nil => 0
  | .node l _ r => 1 + l.size + r.size

/-- The tree at p in memory. -/
def isTree (w : World) : Option Addr → T → Prop
  | p, .nil => p = none
  | p, .node l rs r => ∃ b pl pr, p = some ⟨b, 0, none⟩ ∧
      (w.cell? ⟨b, 0, none⟩ = some (.string (bytesOf rs)) ∧ w.cell? ⟨b, 1, none⟩ = some (.int .i64 (C1 rs)) ∧ w.cell? ⟨b, 2, none⟩ = some (.int .i64 (C2 rs)) ∧ w.cell? ⟨b, 3, none⟩ = some (.int .i64 (C3 rs)) ∧ w.cell? ⟨b, 4, none⟩ = some (.int .i64 (C4 rs))) ∧
      (w.cell? ⟨b, 5, none⟩ = some (.pointer pl) ∧ w.cell? ⟨b, 6, none⟩ = some (.pointer pr)) ∧
      (w.cell? ⟨b, 7, none⟩ = some (.int .i64 (C1 (T.node l rs r).runes)) ∧ w.cell? ⟨b, 8, none⟩ = some (.int .i64 (C2 (T.node l rs r).runes)) ∧ w.cell? ⟨b, 9, none⟩ = some (.int .i64 (C3 (T.node l rs r).runes)) ∧ w.cell? ⟨b, 10, none⟩ = some (.int .i64 (C4 (T.node l rs r).runes))) ∧
      (w.cell? ⟨b, 11, none⟩ = some (.int .i64 (T.node l rs r).height) ∧ w.cell? ⟨b, 12, none⟩ = some (.int .i64 (T.node l rs r).size)) ∧
      isTree w pl l ∧ isTree w pr r
theorem cell_on {W W' : World} (hb : Below W.heap.size W W') {b o : Nat} {v : Value} (h : W.cell? ⟨b, o, none⟩ = some v) : W'.cell? ⟨b, o, none⟩ = some v :=
  (hb.cell (p := ⟨b, o, none⟩) (World.block_lt_of_cell? W _ h)).trans h
theorem isTree_below {w w' : World} (hb : Below w.heap.size w w') : ∀ {t : T} {p : Option Addr}, isTree w p t → isTree w' p t
  | .nil, _, h => h
  | .node l rs r, _, ⟨b, pl, pr, e, ⟨a0, a1, a2, a3, a4⟩, ⟨a5, a6⟩, ⟨a7, a8, a9, a10⟩, ⟨a11, a12⟩, hl, hr⟩ =>
    ⟨b, pl, pr, e, ⟨cell_on hb a0, cell_on hb a1, cell_on hb a2, cell_on hb a3, cell_on hb a4⟩, ⟨cell_on hb a5, cell_on hb a6⟩, ⟨cell_on hb a7, cell_on hb a8, cell_on hb a9, cell_on hb a10⟩, ⟨cell_on hb a11, cell_on hb a12⟩, isTree_below hb hl, isTree_below hb hr⟩

set_option maxHeartbeats 1000000 in
theorem ncounts_any (p : Option Addr) (t : T) (w : World) (h : isTree w p t) :
    Calls Tryz.prog 67 #[.pointer p] w fun e w' => e = .returned (.agg #[.int .i64 (C1 t.runes), .int .i64 (C2 t.runes), .int .i64 (C3 t.runes), .int .i64 (C4 t.runes)]) ∧ Below w.heap.size w w' := by
  cases t with
  | nil =>
    obtain rfl : p = none := h
    have e1 : C1 T.nil.runes = 0 := rfl
    have e2 : C2 T.nil.runes = 0 := rfl
    have e3 : C3 T.nil.runes = 0 := rfl
    have e4 : C4 T.nil.runes = 0 := rfl
    rw [e1, e2, e3, e4]
    clear e1 e2 e3 e4
    go_enter Tryz.func67, Tryz.ntmps67
    go_wp2
    refine bodyPost_ret (v := .agg #[.int .i64 0, .int .i64 0, .int .i64 0, .int .i64 0]) (by simp [results, Tryz.results67, go_sem]) rfl ⟨rfl, ?_⟩
    exact (Below.refl _ _).alloc (Nat.le_refl _) _
  | node l rs r =>
    obtain ⟨b, pl, pr, rfl, _, _, ⟨a7, a8, a9, a10⟩, _, _, _⟩ := h
    have hlt := World.block_lt_of_cell? w _ a7
    have hne : ¬ b = w.heap.size := by show ¬ _; intro e; subst e; exact absurd hlt (Nat.lt_irrefl _)
    generalize (T.node l rs r).runes = R at *
    generalize C1 R = x1 at *
    generalize C2 R = x2 at *
    generalize C3 R = x3 at *
    generalize C4 R = x4 at *
    go_enter Tryz.func67, Tryz.ntmps67
    go_wp2
    refine bodyPost_ret (v := .agg #[.int .i64 x1, .int .i64 x2, .int .i64 x3, .int .i64 x4]) (by simp [results, Tryz.results67, go_sem]) rfl ⟨rfl, ?_⟩
    exact (Below.refl _ _).alloc (Nat.le_refl _) _

set_option maxHeartbeats 1000000 in
theorem nheight_any (p : Option Addr) (t : T) (w : World) (h : isTree w p t) :
    Calls Tryz.prog 189 #[.pointer p] w fun e w' => e = .returned (.int .i64 t.height) ∧ w' = w := by
  cases t with
  | nil =>
    obtain rfl : p = none := h
    go_enter Tryz.func189, Tryz.ntmps189
    go_wp2
    go_ret
    exact ⟨rfl, rfl⟩
  | node l rs r =>
    obtain ⟨b, pl, pr, rfl, _, _, _, ⟨a11, _⟩, _, _⟩ := h
    generalize ((T.node l rs r).height : Int) = x1 at *
    go_enter Tryz.func189, Tryz.ntmps189
    go_wp2
    go_ret
    exact ⟨rfl, rfl⟩
set_option maxHeartbeats 1000000 in
theorem nsize_any (p : Option Addr) (t : T) (w : World) (h : isTree w p t) :
    Calls Tryz.prog 191 #[.pointer p] w fun e w' => e = .returned (.int .i64 t.size) ∧ w' = w := by
  cases t with
  | nil =>
    obtain rfl : p = none := h
    go_enter Tryz.func191, Tryz.ntmps191
    go_wp2
    go_ret
    exact ⟨rfl, rfl⟩
  | node l rs r =>
    obtain ⟨b, pl, pr, rfl, _, _, _, ⟨_, a12⟩, _, _⟩ := h
    generalize ((T.node l rs r).size : Int) = x1 at *
    go_enter Tryz.func191, Tryz.ntmps191
    go_wp2
    go_ret
    exact ⟨rfl, rfl⟩
end Go.Proofs.YtldhbjmillfjgabGreatDoor
