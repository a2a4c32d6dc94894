/-
  Lens, the program's and the document's; whether an operation is small; whether two are the same.
-/
import Derived.Test.YtedgnlgjmnccgabGreatDoorOpsNorm
namespace Go.Proofs.YtedgnlgjmnccgabGreatDoor
open Go.RowKit
set_option linter.unusedVariables false

def lenW (s : Int × Int) (p : Pt) : Int × Int := (IntKind.i64.wrap (s.1 + IntKind.i64.wrap (p.keep + p.drop)), IntKind.i64.wrap (s.2 + IntKind.i64.wrap (p.keep + p.put.length)))
def lensW (ps : List Pt) : Int × Int := ps.foldl lenW (0, 0)

set_option maxRecDepth 100000 in
set_option maxHeartbeats 2000000 in
theorem Lens_any (v : Value) (ps : List Pt) (w : World) (hr : opAt w v ps) (hl : ps.length < 10000000) :
    Calls Tryz.prog 120 #[v] w fun e w' => e = .returned (.tuple #[.int .i64 (lensW ps).1, .int .i64 (lensW ps).2]) ∧ Below w.heap.size w w' := by
  obtain ⟨p, c, rfl, r1, r2, r3⟩ := hr
  obtain ⟨n, hn⟩ : ∃ n, n = ps.length := ⟨_, rfl⟩
  rw [← hn] at r1 hl ⊢
  have HN : Hid (n = ps.length) := hn
  clear hn
  have R3 : Hid (ps ≠ [] → ∃ b o, p = some ⟨b, o, none⟩ ∧ b < w.heap.size ∧ ∀ i q, ps[i]? = some q →
    w.cell? ⟨b, o + i * 3, none⟩ = some (.int .i64 q.keep) ∧ w.cell? ⟨b, o + i * 3 + 1, none⟩ = some (.int .i64 q.drop) ∧ w.cell? ⟨b, o + i * 3 + 2, none⟩ = some (.string ⟨q.put.toArray⟩)) := r3
  clear r3
  go_enter Tryz.func120, Tryz.ntmps120
  go_wp2
  go_loopw [2, 3, 8] (fun x y i wr => ∃ (k : Nat), k ≤ n ∧ i = .int .i64 k ∧ x = .int .i64 (lensW (ps.take k)).1 ∧ y = .int .i64 (lensW (ps.take k)).2 ∧ Below w.heap.size w wr) (fun _ _ i _ => n - (intOf i).toNat)
  case atStart => exact ⟨0, Nat.zero_le _, rfl, rfl, rfl, Below.refl _ _⟩
  case round =>
    obtain ⟨k, hk, rfl, rfl, rfl, hwr⟩ := hrel
    by_cases hlt : k < n
    · have hkr : k < ps.length := by rw [← HN.out]; exact hlt
      have hne : ps ≠ [] := by intro e; rw [e] at hkr; exact absurd hkr (Nat.not_lt_zero _)
      obtain ⟨b, o, rfl, hbw, hcell⟩ := R3.out hne
      obtain ⟨c0, c1, c2⟩ := hcell k ps[k] (List.getElem?_eq_getElem hkr)
      have g0 := (hwr.cell (p := ⟨b, o + k * 3, none⟩) hbw).trans c0
      have g1 := (hwr.cell (p := ⟨b, o + k * 3 + 1, none⟩) hbw).trans c1
      have g2 := (hwr.cell (p := ⟨b, o + k * 3 + 2, none⟩) hbw).trans c2
      have hts : lensW (ps.take (k + 1)) = lenW (lensW (ps.take k)) ps[k] := by
        unfold lensW
        rw [List.take_succ_eq_append_getElem hkr, List.foldl_append]; rfl
      generalize ps[k] = q at *
      generalize lensW (ps.take k) = AB at *
      obtain ⟨A, B⟩ := AB
      obtain ⟨K, D, U⟩ := q
      unfold lenW at hts
      simp only at hts g0 g1 g2 ⊢
      obtain ⟨x1, h1⟩ : ∃ x, IntKind.i64.wrap (K + D) = x := ⟨_, rfl⟩
      obtain ⟨x2, h2⟩ : ∃ x, IntKind.i64.wrap (K + (U.length : Int)) = x := ⟨_, rfl⟩
      obtain ⟨y1, h3⟩ : ∃ x, IntKind.i64.wrap (A + x1) = x := ⟨_, rfl⟩
      obtain ⟨y2, h4⟩ : ∃ x, IntKind.i64.wrap (B + x2) = x := ⟨_, rfl⟩
      rw [h1, h2, h3, h4] at hts
      have HTS : Hid (lensW (ps.take (k + 1)) = (y1, y2)) := hts
      have HWR : Hid (Below w.heap.size w wr) := hwr
      clear hcell c0 c1 c2 hts hwr
      go_wp2
      go_roundw
      case rel => exact ⟨k + 1, by omega, by go_num, by rw [HTS.out], by rw [HTS.out], HWR.out.alloc HWR.out.size _⟩
      case measure => simp [intOf]; omega
    · have e : ps.take k = ps := List.take_of_length_le (by rw [← HN.out]; omega)
      rw [e]
      obtain ⟨A, hA⟩ : ∃ A, (lensW ps).1 = A := ⟨_, rfl⟩
      obtain ⟨B, hB⟩ : ∃ B, (lensW ps).2 = B := ⟨_, rfl⟩
      have HA : Hid ((lensW ps).1 = A) := hA
      have HB : Hid ((lensW ps).2 = B) := hB
      rw [hA, hB]
      clear e hA hB R3
      go_wp2
      go_ret2
      exact ⟨by rw [HA.out, HB.out]; rfl, hwr⟩
end Go.Proofs.YtedgnlgjmnccgabGreatDoor
