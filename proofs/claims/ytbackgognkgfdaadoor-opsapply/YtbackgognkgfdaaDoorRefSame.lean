/-
  rosettalaw.sameRunes, sameHalves: two lists that read alike are told alike.
-/
import Derived.Test.YtbackgognkgfdaaDoorRefRunes
namespace Go.Proofs.YtbackgognkgfdaaDoor
open Go.RowKit
set_option linter.unusedVariables false

set_option maxHeartbeats 1000000 in
theorem sameRunes_same (v1 v2 : Value) (zs : List Int) (w : World) (h1 : reads w .i32 v1 zs) (h2 : reads w .i32 v2 zs) (hl : zs.length < 1000000000) :
    Calls Tryd.prog 18 #[v1, v2] w fun e w' => e = .returned (.bool true) ∧ Below w.heap.size w w' := by
  obtain ⟨p1, c1, rfl, a1, a2, a3⟩ := h1
  obtain ⟨p2, c2, rfl, b1, b2, b3⟩ := h2
  obtain ⟨n, hn⟩ : ∃ n, n = zs.length := ⟨_, rfl⟩
  rw [← hn] at a1 a3 b1 b3 hl ⊢
  have HN : Hid (n = zs.length) := hn
  clear hn
  have A3 : Hid (zs ≠ [] → ∃ b o, p1 = some ⟨b, o, none⟩ ∧ b < w.heap.size ∧ ∀ i, i < n → w.cell? ⟨b, o + i, none⟩ = some (.int .i32 (zs.getD i 0))) := a3
  have B3 : Hid (zs ≠ [] → ∃ b o, p2 = some ⟨b, o, none⟩ ∧ b < w.heap.size ∧ ∀ i, i < n → w.cell? ⟨b, o + i, none⟩ = some (.int .i32 (zs.getD i 0))) := b3
  clear a3 b3
  go_enter Tryd.func18, Tryd.ntmps18
  go_wp2
  go_loopw [5] (fun i wr => ∃ k : Nat, k ≤ n ∧ i = .int .i64 k ∧ Below w.heap.size w wr) (fun i _ => n - (intOf i).toNat)
  case atStart => exact ⟨0, Nat.zero_le _, rfl, Below.refl _ _⟩
  case round =>
    obtain ⟨k, hk, rfl, hwr⟩ := hrel
    by_cases hlt : k < n
    · have hne : zs ≠ [] := by intro e; rw [HN.out, e] at hlt; exact absurd hlt (Nat.not_lt_zero _)
      obtain ⟨x1, o1, rfl, hx1, hc1⟩ := A3.out hne
      obtain ⟨x2, o2, rfl, hx2, hc2⟩ := B3.out hne
      have g1 := (hwr.cell (p := ⟨x1, o1 + k, none⟩) hx1).trans (hc1 k hlt)
      have g2 := (hwr.cell (p := ⟨x2, o2 + k, none⟩) hx2).trans (hc2 k hlt)
      generalize zs.getD k 0 = z at g1 g2
      clear hc1 hc2 A3 B3 hne
      go_wp2
      go_region
      all_goals
        go_wp2
        go_roundw
        case rel => exact ⟨k + 1, by omega, by go_num, hwr.drew⟩
        case measure => simp [intOf]; omega
    · clear A3 B3
      go_wp2
      go_ret
      exact ⟨rfl, hwr⟩

set_option maxHeartbeats 1000000 in
theorem sameHalves_same (v1 v2 : Value) (zs : List Int) (w : World) (h1 : reads w .u16 v1 zs) (h2 : reads w .u16 v2 zs) (hl : zs.length < 1000000000) :
    Calls Tryd.prog 19 #[v1, v2] w fun e w' => e = .returned (.bool true) ∧ Below w.heap.size w w' := by
  obtain ⟨p1, c1, rfl, a1, a2, a3⟩ := h1
  obtain ⟨p2, c2, rfl, b1, b2, b3⟩ := h2
  obtain ⟨n, hn⟩ : ∃ n, n = zs.length := ⟨_, rfl⟩
  rw [← hn] at a1 a3 b1 b3 hl ⊢
  have HN : Hid (n = zs.length) := hn
  clear hn
  have A3 : Hid (zs ≠ [] → ∃ b o, p1 = some ⟨b, o, none⟩ ∧ b < w.heap.size ∧ ∀ i, i < n → w.cell? ⟨b, o + i, none⟩ = some (.int .u16 (zs.getD i 0))) := a3
  have B3 : Hid (zs ≠ [] → ∃ b o, p2 = some ⟨b, o, none⟩ ∧ b < w.heap.size ∧ ∀ i, i < n → w.cell? ⟨b, o + i, none⟩ = some (.int .u16 (zs.getD i 0))) := b3
  clear a3 b3
  go_enter Tryd.func19, Tryd.ntmps19
  go_wp2
  go_loopw [5] (fun i wr => ∃ k : Nat, k ≤ n ∧ i = .int .i64 k ∧ Below w.heap.size w wr) (fun i _ => n - (intOf i).toNat)
  case atStart => exact ⟨0, Nat.zero_le _, rfl, Below.refl _ _⟩
  case round =>
    obtain ⟨k, hk, rfl, hwr⟩ := hrel
    by_cases hlt : k < n
    · have hne : zs ≠ [] := by intro e; rw [HN.out, e] at hlt; exact absurd hlt (Nat.not_lt_zero _)
      obtain ⟨x1, o1, rfl, hx1, hc1⟩ := A3.out hne
      obtain ⟨x2, o2, rfl, hx2, hc2⟩ := B3.out hne
      have g1 := (hwr.cell (p := ⟨x1, o1 + k, none⟩) hx1).trans (hc1 k hlt)
      have g2 := (hwr.cell (p := ⟨x2, o2 + k, none⟩) hx2).trans (hc2 k hlt)
      generalize zs.getD k 0 = z at g1 g2
      clear hc1 hc2 A3 B3 hne
      go_wp2
      go_region
      all_goals
        go_wp2
        go_roundw
        case rel => exact ⟨k + 1, by omega, by go_num, hwr.drew⟩
        case measure => simp [intOf]; omega
    · clear A3 B3
      go_wp2
      go_ret
      exact ⟨rfl, hwr⟩

end Go.Proofs.YtbackgognkgfdaaDoor
