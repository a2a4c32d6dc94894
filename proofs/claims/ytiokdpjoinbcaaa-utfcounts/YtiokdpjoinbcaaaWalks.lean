/-
  Walks of the counts: what utf.Plus, utf.In and the document's own In do, call by call.
-/
import Derived.Test.YtiokdpjoinbcaaaRows
import Derived.WalkKit
import Derived.WalkSpells
import Derived.WalkLawsBesides
import Derived.Maps.OwnOps
namespace Go.Proofs.Ytiokdpjoinbcaaa
open Go.RowKit
open Go.Maps (Keyed int_keyed keyOf_int_mk)

/-- Which count a unit takes. -/
def inC (u a b c : Int) : Int := if u = 1 then a else if u = 2 then b else if u = 3 then c else 0
theorem inC_1 (a b c : Int) : inC 1 a b c = a := rfl
theorem inC_2 (a b c : Int) : inC 2 a b c = b := rfl
theorem inC_3 (a b c : Int) : inC 3 a b c = c := rfl
theorem inC_no {u : Int} (a b c : Int) (h1 : (u == 1) = false) (h2 : (u == 2) = false) (h3 : (u == 3) = false) : inC u a b c = 0 := by
  simp at h1 h2 h3; simp [inC, h1, h2, h3]

set_option maxHeartbeats 400000 in
theorem plus_any (a1 a2 a3 a4 b1 b2 b3 b4 : Int) (w : World) :
    Calls Try.prog 4 #[.agg #[.int .i64 a1, .int .i64 a2, .int .i64 a3, .int .i64 a4], .agg #[.int .i64 b1, .int .i64 b2, .int .i64 b3, .int .i64 b4]] w
      fun e w' => e = .returned (.agg #[.int .i64 (wrap64 (a1 + b1)), .int .i64 (wrap64 (a2 + b2)), .int .i64 (wrap64 (a3 + b3)), .int .i64 (wrap64 (a4 + b4))]) ∧ Below w.heap.size w w' := by
  go_enter Try.func4, Try.ntmps4
  go_wp2
  refine bodyPost_ret (v := .agg #[.int .i64 (wrap64 (a1 + b1)), .int .i64 (wrap64 (a2 + b2)), .int .i64 (wrap64 (a3 + b3)), .int .i64 (wrap64 (a4 + b4))]) (by simp [results, Try.results4, go_sem]) rfl ⟨rfl, ?_⟩
  exact (((Below.refl _ _).alloc (Nat.le_refl _) _).alloc (by simp) _).alloc (by simp [Nat.le_add_right, Nat.add_assoc]) _

set_option maxHeartbeats 400000 in
theorem in_any (a1 a2 a3 a4 u : Int) (w : World) :
    Calls Try.prog 5 #[.agg #[.int .i64 a1, .int .i64 a2, .int .i64 a3, .int .i64 a4], .int .i64 u] w
      fun e w' => e = .returned (.int .i64 (inC u a1 a2 a3)) ∧ Below w.heap.size w w' := by
  by_cases h1 : u = 1
  · subst h1
    rw [inC_1]
    go_enter Try.func5, Try.ntmps5
    go_wp2
    go_ret
    exact ⟨rfl, (Below.refl _ _).alloc (Nat.le_refl _) _⟩
  by_cases h2 : u = 2
  · subst h2
    rw [inC_2]
    go_enter Try.func5, Try.ntmps5
    go_wp2
    go_ret
    exact ⟨rfl, (Below.refl _ _).alloc (Nat.le_refl _) _⟩
  by_cases h3 : u = 3
  · subst h3
    rw [inC_3]
    go_enter Try.func5, Try.ntmps5
    go_wp2
    go_ret
    exact ⟨rfl, (Below.refl _ _).alloc (Nat.le_refl _) _⟩
  have e1 : (u == 1) = false := by simpa using h1
  have e2 : (u == 2) = false := by simpa using h2
  have e3 : (u == 3) = false := by simpa using h3
  rw [inC_no _ _ _ e1 e2 e3]
  clear h1 h2 h3
  go_enter Try.func5, Try.ntmps5
  go_wp2
  go_ret
  exact ⟨rfl, (Below.refl _ _).alloc (Nat.le_refl _) _⟩

theorem law : Keyed Try.prog 3 := int_keyed Try.underlying3

theorem zeroE (w : World) : (zeroValue 3).run Try.prog w = .ok (.int .i64 0) w := by kernel_rfl

theorem at_in (u a b c : Int) : (((((DataW.map (H := Unit) []).put (.int .i64 1) (.lit (.int .i64 a))).put (.int .i64 2) (.lit (.int .i64 b))).put (.int .i64 3) (.lit (.int .i64 c))).atKey (.int .i64 u) (.lit (.int .i64 0))) = .lit (.int .i64 (inC u a b c)) := by
  simp [DataW.put, DataW.insert, DataW.atKey, Lit.sameKey, Lit.before, inC]
  by_cases h1 : u = 1
  · subst h1; rfl
  by_cases h2 : u = 2
  · subst h2; rfl
  by_cases h3 : u = 3
  · subst h3; rfl
  simp [List.find?, h1, h2, h3, Ne.symm h1, Ne.symm h2, Ne.symm h3]

set_option maxHeartbeats 400000 in
theorem refin_any (a1 a2 a3 a4 u : Int) (v1 : (Lit.int .i64 a1).wf = true) (v2 : (Lit.int .i64 a2).wf = true) (v3 : (Lit.int .i64 a3).wf = true) (vu : (Lit.int .i64 u).wf = true) (w : World) :
    Calls Try.prog 6 #[.agg #[.int .i64 a1, .int .i64 a2, .int .i64 a3, .int .i64 a4], .int .i64 u] w
      fun e w' => e = .returned (.int .i64 (inC u a1 a2 a3)) ∧ Below w.heap.size w w' := by
  have wf1 : (Lit.int .i64 1).wf = true := by decide
  have wf2 : (Lit.int .i64 2).wf = true := by decide
  have wf3 : (Lit.int .i64 3).wf = true := by decide
  have hb0 : Below (w.heap.size + 1) (w.alloc (.cells #[.int .i64 a1, .int .i64 a2, .int .i64 a3, .int .i64 a4] 23)) ((w.alloc (.cells #[.int .i64 a1, .int .i64 a2, .int .i64 a3, .int .i64 a4] 23)).alloc (.map #[] 0)) :=
    (Below.refl _ _).alloc (by simp) _
  have h0 := World.ownsMap_made (H := Unit) (w.alloc (.cells #[.int .i64 a1, .int .i64 a2, .int .i64 a3, .int .i64 a4] 23)) Try.prog 3 (plainElem Try.prog 3)
  rw [World.size_alloc] at h0
  obtain ⟨w1, r1, h1, g1⟩ := h0.update law Try.underlying27 (by unfold maxLen; omega) (keyOf_int_mk Try.underlying3 wf1) (plainElem_int Try.underlying3 v1)
  have hb1 := hb0.grown g1 (by simp) (by intro k hk; cases hk; omega)
  obtain ⟨w2, r2, h2, g2⟩ := h1.update law Try.underlying27 (by unfold maxLen; omega) (keyOf_int_mk Try.underlying3 wf2) (plainElem_int Try.underlying3 v2)
  have hb2 := hb1.grown g2 (by have := hb1.size; simp at this; omega) (by intro k hk; cases hk; omega)
  obtain ⟨w3, r3, h3, g3⟩ := h2.update law Try.underlying27 (by unfold maxLen; omega) (keyOf_int_mk Try.underlying3 wf3) (plainElem_int Try.underlying3 v3)
  have hb3 := hb2.grown g3 (by have := hb2.size; simp at this; omega) (by intro k hk; cases hk; omega)
  obtain ⟨c, r4, h4, _⟩ := h3.lookup_int law Try.underlying27 Try.underlying3 (zeroE _) (keyOf_int_mk Try.underlying3 vu)
  rw [at_in] at h4
  injection h4 with h4; injection h4 with _ h4
  have c1 : w1.cell? ⟨w.heap.size, 1, none⟩ = some (.int .i64 a2) := by rw [hb1.cell (p := ⟨w.heap.size, 1, none⟩) (by simp)]; simp [go_sem]
  have c2 : w2.cell? ⟨w.heap.size, 2, none⟩ = some (.int .i64 a3) := by rw [hb2.cell (p := ⟨w.heap.size, 2, none⟩) (by simp)]; simp [go_sem]
  have hb : Below w.heap.size w w3 := (((Below.refl _ w).alloc (Nat.le_refl _) _)).trans (hb3.mono (by omega))
  clear hb0 hb1 hb2 hb3 h0 h1 h2 h3 g1 g2 g3
  subst h4
  have hmm := @run_makeMap Try.prog
  go_enter Try.func6, Try.ntmps6
  go_wp2
  go_ret
  exact ⟨rfl, hb⟩
end Go.Proofs.Ytiokdpjoinbcaaa
