/-
  Lens, the program's and the document's; whether an operation is small; whether two are the same.
-/
import Derived.Test.YtedonckeomccpaaDoorOpsNorm
namespace Go.Proofs.YtedonckeomccpaaDoor
open Go.RowKit
set_option linter.unusedVariables false

def lenW (s : Int × Int) (p : Pt) : Int × Int := (IntKind.i64.wrap (s.1 + IntKind.i64.wrap (p.keep + p.drop)), IntKind.i64.wrap (s.2 + IntKind.i64.wrap (p.keep + p.put.length)))
def lensW (ps : List Pt) : Int × Int := ps.foldl lenW (0, 0)

set_option maxRecDepth 100000 in
set_option maxHeartbeats 2000000 in
theorem Lens_any (v : Value) (ps : List Pt) (w : World) (hr : opAt w v ps) (hl : ps.length < 10000000) :
    Calls Tryd.prog 46 #[v] w fun e w' => e = .returned (.tuple #[.int .i64 (lensW ps).1, .int .i64 (lensW ps).2]) ∧ Below w.heap.size w w' := by
  obtain ⟨p, c, rfl, r1, r2, r3⟩ := hr
  obtain ⟨n, hn⟩ : ∃ n, n = ps.length := ⟨_, rfl⟩
  rw [← hn] at r1 hl ⊢
  have HN : Hid (n = ps.length) := hn
  clear hn
  have R3 : Hid (ps ≠ [] → ∃ b o, p = some ⟨b, o, none⟩ ∧ b < w.heap.size ∧ ∀ i q, ps[i]? = some q →
    w.cell? ⟨b, o + i * 3, none⟩ = some (.int .i64 q.keep) ∧ w.cell? ⟨b, o + i * 3 + 1, none⟩ = some (.int .i64 q.drop) ∧ w.cell? ⟨b, o + i * 3 + 2, none⟩ = some (.string ⟨q.put.toArray⟩)) := r3
  clear r3
  go_enter Tryd.func46, Tryd.ntmps46
  go_wp2
  go_loopw [2, 3, 8] (fun x y i wr => ∃ (k : Nat), k ≤ n ∧ i = .int .i64 k ∧ x = .int .i64 (lensW (ps.take k)).1 ∧ y = .int .i64 (lensW (ps.take k)).2 ∧ Below w.heap.size w wr) (fun _ _ i _ => n - (intOf i).toNat)
  case atStart => exact ⟨0, Nat.zero_le _, rfl, rfl, rfl, Below.refl _ _⟩
  case round =>
    obtain ⟨k, hk, rfl, rfl, rfl, hwr⟩ := hrel
    by_cases hlt : k < n
    · have hkr : k < ps.length := by rw [← HN.out]; exact hlt
      have hne : ps ≠ [] := by intro e; rw [e] at hkr; exact absurd hkr (Nat.not_lt_zero _)
      obtain ⟨b, o, rfl, hbw, hcell⟩ := R3.out hne
      obtain ⟨c0, c1, c2⟩ := hcell k ps[k] (List.getElem?_eq_getElem hkr)
      have g0 := (hwr.cell (p := ⟨b, o + k * 3, none⟩) hbw).trans c0
      have g1 := (hwr.cell (p := ⟨b, o + k * 3 + 1, none⟩) hbw).trans c1
      have g2 := (hwr.cell (p := ⟨b, o + k * 3 + 2, none⟩) hbw).trans c2
      have hts : lensW (ps.take (k + 1)) = lenW (lensW (ps.take k)) ps[k] := by
        unfold lensW
        rw [List.take_succ_eq_append_getElem hkr, List.foldl_append]; rfl
      generalize ps[k] = q at *
      generalize lensW (ps.take k) = AB at *
      obtain ⟨A, B⟩ := AB
      obtain ⟨K, D, U⟩ := q
      unfold lenW at hts
      simp only at hts g0 g1 g2 ⊢
      obtain ⟨x1, h1⟩ : ∃ x, IntKind.i64.wrap (K + D) = x := ⟨_, rfl⟩
      obtain ⟨x2, h2⟩ : ∃ x, IntKind.i64.wrap (K + (U.length : Int)) = x := ⟨_, rfl⟩
      obtain ⟨y1, h3⟩ : ∃ x, IntKind.i64.wrap (A + x1) = x := ⟨_, rfl⟩
      obtain ⟨y2, h4⟩ : ∃ x, IntKind.i64.wrap (B + x2) = x := ⟨_, rfl⟩
      rw [h1, h2, h3, h4] at hts
      have HTS : Hid (lensW (ps.take (k + 1)) = (y1, y2)) := hts
      have HWR : Hid (Below w.heap.size w wr) := hwr
      clear hcell c0 c1 c2 hts hwr
      go_wp2
      go_roundw
      case rel => exact ⟨k + 1, by omega, by go_num, by rw [HTS.out], by rw [HTS.out], HWR.out.alloc HWR.out.size _⟩
      case measure => simp [intOf]; omega
    · have e : ps.take k = ps := List.take_of_length_le (by rw [← HN.out]; omega)
      rw [e]
      obtain ⟨A, hA⟩ : ∃ A, (lensW ps).1 = A := ⟨_, rfl⟩
      obtain ⟨B, hB⟩ : ∃ B, (lensW ps).2 = B := ⟨_, rfl⟩
      have HA : Hid ((lensW ps).1 = A) := hA
      have HB : Hid ((lensW ps).2 = B) := hB
      rw [hA, hB]
      clear e hA hB R3
      go_wp2
      go_ret2
      exact ⟨by rw [HA.out, HB.out]; rfl, hwr⟩
set_option maxRecDepth 100000 in
set_option maxHeartbeats 2000000 in
theorem refLens_any (v : Value) (ps : List Pt) (w : World) (hr : opAt w v ps) (hl : ps.length < 10000000) :
    Calls Tryd.prog 47 #[v] w fun e w' => e = .returned (.tuple #[.int .i64 (lensW ps).1, .int .i64 (lensW ps).2]) ∧ Below w.heap.size w w' := by
  obtain ⟨p, c, rfl, r1, r2, r3⟩ := hr
  obtain ⟨n, hn⟩ : ∃ n, n = ps.length := ⟨_, rfl⟩
  rw [← hn] at r1 hl ⊢
  have HN : Hid (n = ps.length) := hn
  clear hn
  have R3 : Hid (ps ≠ [] → ∃ b o, p = some ⟨b, o, none⟩ ∧ b < w.heap.size ∧ ∀ i q, ps[i]? = some q →
    w.cell? ⟨b, o + i * 3, none⟩ = some (.int .i64 q.keep) ∧ w.cell? ⟨b, o + i * 3 + 1, none⟩ = some (.int .i64 q.drop) ∧ w.cell? ⟨b, o + i * 3 + 2, none⟩ = some (.string ⟨q.put.toArray⟩)) := r3
  clear r3
  go_enter Tryd.func47, Tryd.ntmps47
  go_wp2
  go_loopw [4, 5, 10] (fun x y i wr => ∃ (k : Nat), k ≤ n ∧ i = .int .i64 k ∧ x = .int .i64 (lensW (ps.take k)).1 ∧ y = .int .i64 (lensW (ps.take k)).2 ∧ Below w.heap.size w wr) (fun _ _ i _ => n - (intOf i).toNat)
  case atStart => exact ⟨0, Nat.zero_le _, rfl, rfl, rfl, Below.refl _ _⟩
  case round =>
    obtain ⟨k, hk, rfl, rfl, rfl, hwr⟩ := hrel
    by_cases hlt : k < n
    · have hkr : k < ps.length := by rw [← HN.out]; exact hlt
      have hne : ps ≠ [] := by intro e; rw [e] at hkr; exact absurd hkr (Nat.not_lt_zero _)
      obtain ⟨b, o, rfl, hbw, hcell⟩ := R3.out hne
      obtain ⟨c0, c1, c2⟩ := hcell k ps[k] (List.getElem?_eq_getElem hkr)
      have g0 := (hwr.cell (p := ⟨b, o + k * 3, none⟩) hbw).trans c0
      have g1 := (hwr.cell (p := ⟨b, o + k * 3 + 1, none⟩) hbw).trans c1
      have g2 := (hwr.cell (p := ⟨b, o + k * 3 + 2, none⟩) hbw).trans c2
      have hts : lensW (ps.take (k + 1)) = lenW (lensW (ps.take k)) ps[k] := by
        unfold lensW
        rw [List.take_succ_eq_append_getElem hkr, List.foldl_append]; rfl
      generalize ps[k] = q at *
      generalize lensW (ps.take k) = AB at *
      obtain ⟨A, B⟩ := AB
      obtain ⟨K, D, U⟩ := q
      unfold lenW at hts
      simp only at hts g0 g1 g2 ⊢
      obtain ⟨x1, h1⟩ : ∃ x, IntKind.i64.wrap (K + D) = x := ⟨_, rfl⟩
      obtain ⟨x2, h2⟩ : ∃ x, IntKind.i64.wrap (K + (U.length : Int)) = x := ⟨_, rfl⟩
      obtain ⟨y1, h3⟩ : ∃ x, IntKind.i64.wrap (A + x1) = x := ⟨_, rfl⟩
      obtain ⟨y2, h4⟩ : ∃ x, IntKind.i64.wrap (B + x2) = x := ⟨_, rfl⟩
      rw [h1, h2, h3, h4] at hts
      have HTS : Hid (lensW (ps.take (k + 1)) = (y1, y2)) := hts
      have HWR : Hid (Below w.heap.size w wr) := hwr
      clear hcell c0 c1 c2 hts hwr
      go_wp2
      go_roundw
      case rel => exact ⟨k + 1, by omega, by go_num, by rw [HTS.out], by rw [HTS.out], HWR.out.alloc HWR.out.size _⟩
      case measure => simp [intOf]; omega
    · have e : ps.take k = ps := List.take_of_length_le (by rw [← HN.out]; omega)
      rw [e]
      obtain ⟨A, hA⟩ : ∃ A, (lensW ps).1 = A := ⟨_, rfl⟩
      obtain ⟨B, hB⟩ : ∃ B, (lensW ps).2 = B := ⟨_, rfl⟩
      have HA : Hid ((lensW ps).1 = A) := hA
      have HB : Hid ((lensW ps).2 = B) := hB
      rw [hA, hB]
      clear e hA hB R3
      go_wp2
      go_ret2
      exact ⟨by rw [HA.out, HB.out]; rfl, hwr⟩

def fewP (p : Pt) : Bool := !(decide (300 < (p.put.length : Int)) || decide (5000 < p.keep) || decide (5000 < p.drop))
def fewB (ps : List Pt) : Bool := decide (ps.length ≤ 100) && ps.all fewP

set_option maxRecDepth 100000 in
set_option maxHeartbeats 2000000 in
theorem few_any (v : Value) (ps : List Pt) (w : World) (hr : opAt w v ps) (hl : ps.length < 10000000) :
    Calls Tryd.prog 56 #[v] w fun e w' => e = .returned (.bool (fewB ps)) ∧ Below w.heap.size w w' := by
  obtain ⟨p, c, rfl, r1, r2, r3⟩ := hr
  by_cases hm : 100 < ps.length
  · have hb : fewB ps = false := by unfold fewB; rw [decide_eq_false (by omega)]; rfl
    rw [hb]
    have hm' : (100 : Int) < (ps.length : Int) := by omega
    clear r3
    go_enter Tryd.func56, Tryd.ntmps56
    go_wp2
    go_ret
    exact ⟨rfl, Below.refl _ _⟩
  have hb : fewB ps = ps.all fewP := by unfold fewB; rw [decide_eq_true (by omega)]; rfl
  rw [hb]
  obtain ⟨n, hn⟩ : ∃ n, n = ps.length := ⟨_, rfl⟩
  rw [← hn] at r1 hl hm ⊢
  have HN : Hid (n = ps.length) := hn
  have hm' : ¬ (100 : Int) < (n : Int) := by omega
  clear hn hb hm
  have R3 : Hid (ps ≠ [] → ∃ b o, p = some ⟨b, o, none⟩ ∧ b < w.heap.size ∧ ∀ i q, ps[i]? = some q →
    w.cell? ⟨b, o + i * 3, none⟩ = some (.int .i64 q.keep) ∧ w.cell? ⟨b, o + i * 3 + 1, none⟩ = some (.int .i64 q.drop) ∧ w.cell? ⟨b, o + i * 3 + 2, none⟩ = some (.string ⟨q.put.toArray⟩)) := r3
  clear r3
  obtain ⟨R, hR⟩ : ∃ R, ps.all fewP = R := ⟨_, rfl⟩
  have HR : Hid (ps.all fewP = R) := hR
  rw [hR]
  clear hR
  go_enter Tryd.func56, Tryd.ntmps56
  go_wp2
  go_loopw [3] (fun i wr => ∃ (k : Nat), k ≤ n ∧ i = .int .i64 k ∧ (ps.drop k).all fewP = R ∧ Below w.heap.size w wr) (fun i _ => n - (intOf i).toNat)
  case atStart => exact ⟨0, Nat.zero_le _, rfl, HR.out, Below.refl _ _⟩
  case round =>
    obtain ⟨k, hk, rfl, hch, hwr⟩ := hrel
    by_cases hlt : k < n
    · have hkr : k < ps.length := by rw [← HN.out]; exact hlt
      have hne : ps ≠ [] := by intro e; rw [e] at hkr; exact absurd hkr (Nat.not_lt_zero _)
      obtain ⟨b, o, rfl, hbw, hcell⟩ := R3.out hne
      obtain ⟨c0, c1, c2⟩ := hcell k ps[k] (List.getElem?_eq_getElem hkr)
      have g0 := (hwr.cell (p := ⟨b, o + k * 3, none⟩) hbw).trans c0
      have g1 := (hwr.cell (p := ⟨b, o + k * 3 + 1, none⟩) hbw).trans c1
      have g2 := (hwr.cell (p := ⟨b, o + k * 3 + 2, none⟩) hbw).trans c2
      rw [List.drop_eq_getElem_cons hkr, List.all_cons] at hch
      generalize ps[k] = q at *
      obtain ⟨K, D, U⟩ := q
      unfold fewP at hch
      simp only at hch g0 g1 g2
      by_cases h1 : (300 : Int) < (U.length : Int)
      · have hRf : R = false := by rw [← hch, decide_eq_true h1]; rfl
        subst hRf
        clear hcell c0 c1 c2 hch HR
        go_wp2
        go_ret
        exact ⟨rfl, hwr⟩
      · by_cases h2 : (5000 : Int) < K
        · have hRf : R = false := by rw [← hch, decide_eq_true h2, decide_eq_false h1]; rfl
          subst hRf
          clear hcell c0 c1 c2 hch HR
          go_wp2
          go_ret
          exact ⟨rfl, hwr⟩
        · by_cases h3 : (5000 : Int) < D
          · have hRf : R = false := by rw [← hch, decide_eq_true h3, decide_eq_false h1, decide_eq_false h2]; rfl
            subst hRf
            clear hcell c0 c1 c2 hch HR
            go_wp2
            go_ret
            exact ⟨rfl, hwr⟩
          · have HCH : Hid ((ps.drop (k + 1)).all fewP = R) := by
              show _ = _
              rw [decide_eq_false h1, decide_eq_false h2, decide_eq_false h3] at hch
              exact hch
            clear hcell c0 c1 c2 hch HR
            go_wp2
            go_roundw
            case rel => exact ⟨k + 1, by omega, by go_num, HCH.out, hwr⟩
            case measure => simp [intOf]; omega
    · have e : ps.drop k = [] := List.drop_of_length_le (by rw [← HN.out]; omega)
      rw [e] at hch
      have hRf : R = true := by rw [← hch]; rfl
      subst hRf
      clear e R3 hch HR
      go_wp2
      go_ret
      exact ⟨rfl, hwr⟩

set_option maxRecDepth 100000 in
set_option maxHeartbeats 2000000 in
theorem Same_any (v v' : Value) (ps : List Pt) (w : World) (h1 : opAt w v ps) (h2 : opAt w v' ps) (hl : ps.length < 10000000) :
    Calls Tryd.prog 48 #[v, v'] w fun e w' => e = .returned (.bool true) ∧ Below w.heap.size w w' := by
  obtain ⟨p1, c1, rfl, a1, a2, a3⟩ := h1
  obtain ⟨p2, c2, rfl, b1, b2, b3⟩ := h2
  obtain ⟨n, hn⟩ : ∃ n, n = ps.length := ⟨_, rfl⟩
  rw [← hn] at a1 b1 hl ⊢
  have HN : Hid (n = ps.length) := hn
  clear hn
  have A3 : Hid (ps ≠ [] → ∃ b o, p1 = some ⟨b, o, none⟩ ∧ b < w.heap.size ∧ ∀ i q, ps[i]? = some q →
    w.cell? ⟨b, o + i * 3, none⟩ = some (.int .i64 q.keep) ∧ w.cell? ⟨b, o + i * 3 + 1, none⟩ = some (.int .i64 q.drop) ∧ w.cell? ⟨b, o + i * 3 + 2, none⟩ = some (.string ⟨q.put.toArray⟩)) := a3
  have B3 : Hid (ps ≠ [] → ∃ b o, p2 = some ⟨b, o, none⟩ ∧ b < w.heap.size ∧ ∀ i q, ps[i]? = some q →
    w.cell? ⟨b, o + i * 3, none⟩ = some (.int .i64 q.keep) ∧ w.cell? ⟨b, o + i * 3 + 1, none⟩ = some (.int .i64 q.drop) ∧ w.cell? ⟨b, o + i * 3 + 2, none⟩ = some (.string ⟨q.put.toArray⟩)) := b3
  clear a3 b3
  go_enter Tryd.func48, Tryd.ntmps48
  go_wp2
  go_loopw [13] (fun i wr => ∃ k : Nat, k ≤ n ∧ i = .int .i64 k ∧ Below w.heap.size w wr) (fun i _ => n - (intOf i).toNat)
  case atStart => exact ⟨0, Nat.zero_le _, rfl, Below.refl _ _⟩
  case round =>
    obtain ⟨k, hk, rfl, hwr⟩ := hrel
    by_cases hlt : k < n
    · have hkr : k < ps.length := by rw [← HN.out]; exact hlt
      have hne : ps ≠ [] := by intro e; rw [e] at hkr; exact absurd hkr (Nat.not_lt_zero _)
      obtain ⟨x1, o1, rfl, hx1, hc1⟩ := A3.out hne
      obtain ⟨x2, o2, rfl, hx2, hc2⟩ := B3.out hne
      obtain ⟨d0, d1, d2⟩ := hc1 k ps[k] (List.getElem?_eq_getElem hkr)
      obtain ⟨e0, e1, e2⟩ := hc2 k ps[k] (List.getElem?_eq_getElem hkr)
      have g0 := (hwr.cell (p := ⟨x1, o1 + k * 3, none⟩) hx1).trans d0
      have g1 := (hwr.cell (p := ⟨x1, o1 + k * 3 + 1, none⟩) hx1).trans d1
      have g2 := (hwr.cell (p := ⟨x1, o1 + k * 3 + 2, none⟩) hx1).trans d2
      have g3 := (hwr.cell (p := ⟨x2, o2 + k * 3, none⟩) hx2).trans e0
      have g4 := (hwr.cell (p := ⟨x2, o2 + k * 3 + 1, none⟩) hx2).trans e1
      have g5 := (hwr.cell (p := ⟨x2, o2 + k * 3 + 2, none⟩) hx2).trans e2
      generalize ps[k] = q at *
      obtain ⟨K, D, U⟩ := q
      simp only at g0 g1 g2 g3 g4 g5
      clear hc1 hc2 A3 B3 hne d0 d1 d2 e0 e1 e2
      go_wp2
      go_region
      all_goals
        go_wp2
        go_roundw
        case rel => exact ⟨k + 1, by omega, by go_num, hwr.drew⟩
        case measure => simp [intOf]; omega
    · clear A3 B3
      go_wp2
      go_ret
      exact ⟨rfl, hwr⟩
end Go.Proofs.YtedonckeomccpaaDoor
