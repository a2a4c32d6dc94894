/-
  Lens, the program's and the document's; whether an operation is small; whether two are the same.
-/
import Derived.Test.YtldhbjmillfjgabGreatDoorOpsNorm
namespace Go.Proofs.YtldhbjmillfjgabGreatDoor
open Go.RowKit
set_option linter.unusedVariables false

set_option maxRecDepth 100000 in
set_option maxHeartbeats 2000000 in
theorem Same_any (v v' : Value) (ps : List Pt) (w : World) (h1 : opAt w v ps) (h2 : opAt w v' ps) (hl : ps.length < 10000000) :
    Calls Tryz.prog 14 #[v, v'] w fun e w' => e = .returned (.bool true) ∧ Below w.heap.size w w' := by
  obtain ⟨p1, c1, rfl, a1, a2, a3⟩ := h1
  obtain ⟨p2, c2, rfl, b1, b2, b3⟩ := h2
  obtain ⟨n, hn⟩ : ∃ n, n = ps.length := ⟨_, rfl⟩
  rw [← hn] at a1 b1 hl ⊢
  have HN : Hid (n = ps.length) := hn
  clear hn
  have A3 : Hid (ps ≠ [] → ∃ b o, p1 = some ⟨b, o, none⟩ ∧ b < w.heap.size ∧ ∀ i q, ps[i]? = some q →
    w.cell? ⟨b, o + i * 3, none⟩ = some (.int .i64 q.keep) ∧ w.cell? ⟨b, o + i * 3 + 1, none⟩ = some (.int .i64 q.drop) ∧ w.cell? ⟨b, o + i * 3 + 2, none⟩ = some (.string ⟨q.put.toArray⟩)) := a3
  have B3 : Hid (ps ≠ [] → ∃ b o, p2 = some ⟨b, o, none⟩ ∧ b < w.heap.size ∧ ∀ i q, ps[i]? = some q →
    w.cell? ⟨b, o + i * 3, none⟩ = some (.int .i64 q.keep) ∧ w.cell? ⟨b, o + i * 3 + 1, none⟩ = some (.int .i64 q.drop) ∧ w.cell? ⟨b, o + i * 3 + 2, none⟩ = some (.string ⟨q.put.toArray⟩)) := b3
  clear a3 b3
  go_enter Tryz.func14, Tryz.ntmps14
  go_wp2
  go_loopw [13] (fun i wr => ∃ k : Nat, k ≤ n ∧ i = .int .i64 k ∧ Below w.heap.size w wr) (fun i _ => n - (intOf i).toNat)
  case atStart => exact ⟨0, Nat.zero_le _, rfl, Below.refl _ _⟩
  case round =>
    obtain ⟨k, hk, rfl, hwr⟩ := hrel
    by_cases hlt : k < n
    · have hkr : k < ps.length := by rw [← HN.out]; exact hlt
      have hne : ps ≠ [] := by intro e; rw [e] at hkr; exact absurd hkr (Nat.not_lt_zero _)
      obtain ⟨x1, o1, rfl, hx1, hc1⟩ := A3.out hne
      obtain ⟨x2, o2, rfl, hx2, hc2⟩ := B3.out hne
      obtain ⟨d0, d1, d2⟩ := hc1 k ps[k] (List.getElem?_eq_getElem hkr)
      obtain ⟨e0, e1, e2⟩ := hc2 k ps[k] (List.getElem?_eq_getElem hkr)
      have g0 := (hwr.cell (p := ⟨x1, o1 + k * 3, none⟩) hx1).trans d0
      have g1 := (hwr.cell (p := ⟨x1, o1 + k * 3 + 1, none⟩) hx1).trans d1
      have g2 := (hwr.cell (p := ⟨x1, o1 + k * 3 + 2, none⟩) hx1).trans d2
      have g3 := (hwr.cell (p := ⟨x2, o2 + k * 3, none⟩) hx2).trans e0
      have g4 := (hwr.cell (p := ⟨x2, o2 + k * 3 + 1, none⟩) hx2).trans e1
      have g5 := (hwr.cell (p := ⟨x2, o2 + k * 3 + 2, none⟩) hx2).trans e2
      generalize ps[k] = q at *
      obtain ⟨K, D, U⟩ := q
      simp only at g0 g1 g2 g3 g4 g5
      clear hc1 hc2 A3 B3 hne d0 d1 d2 e0 e1 e2
      go_wp2
      go_region
      all_goals
        go_wp2
        go_roundw
        case rel => exact ⟨k + 1, by omega, by go_num, hwr.drew⟩
        case measure => simp [intOf]; omega
    · clear A3 B3
      go_wp2
      go_ret
      exact ⟨rfl, hwr⟩
end Go.Proofs.YtldhbjmillfjgabGreatDoor
