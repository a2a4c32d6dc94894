/-
  Lens, the program's and the document's; whether an operation is small; whether two are the same.
-/
import Derived.Test.YtldhbjmillfjgabGreatDoorOpsNorm
namespace Go.Proofs.YtldhbjmillfjgabGreatDoor
open Go.RowKit
set_option linter.unusedVariables false

def fewP (p : Pt) : Bool := !(decide (300 < (p.put.length : Int)) || decide (5000 < p.keep) || decide (5000 < p.drop))
def fewB (ps : List Pt) : Bool := decide (ps.length ≤ 100) && ps.all fewP

set_option maxRecDepth 100000 in
set_option maxHeartbeats 2000000 in
theorem few_any (v : Value) (ps : List Pt) (w : World) (hr : opAt w v ps) (hl : ps.length < 10000000) :
    Calls Tryz.prog 27 #[v] w fun e w' => e = .returned (.bool (fewB ps)) ∧ Below w.heap.size w w' := by
  obtain ⟨p, c, rfl, r1, r2, r3⟩ := hr
  by_cases hm : 100 < ps.length
  · have hb : fewB ps = false := by unfold fewB; rw [decide_eq_false (by omega)]; rfl
    rw [hb]
    have hm' : (100 : Int) < (ps.length : Int) := by omega
    clear r3
    go_enter Tryz.func27, Tryz.ntmps27
    go_wp2
    go_ret
    exact ⟨rfl, Below.refl _ _⟩
  have hb : fewB ps = ps.all fewP := by unfold fewB; rw [decide_eq_true (by omega)]; rfl
  rw [hb]
  obtain ⟨n, hn⟩ : ∃ n, n = ps.length := ⟨_, rfl⟩
  rw [← hn] at r1 hl hm ⊢
  have HN : Hid (n = ps.length) := hn
  have hm' : ¬ (100 : Int) < (n : Int) := by omega
  clear hn hb hm
  have R3 : Hid (ps ≠ [] → ∃ b o, p = some ⟨b, o, none⟩ ∧ b < w.heap.size ∧ ∀ i q, ps[i]? = some q →
    w.cell? ⟨b, o + i * 3, none⟩ = some (.int .i64 q.keep) ∧ w.cell? ⟨b, o + i * 3 + 1, none⟩ = some (.int .i64 q.drop) ∧ w.cell? ⟨b, o + i * 3 + 2, none⟩ = some (.string ⟨q.put.toArray⟩)) := r3
  clear r3
  obtain ⟨R, hR⟩ : ∃ R, ps.all fewP = R := ⟨_, rfl⟩
  have HR : Hid (ps.all fewP = R) := hR
  rw [hR]
  clear hR
  go_enter Tryz.func27, Tryz.ntmps27
  go_wp2
  go_loopw [3] (fun i wr => ∃ (k : Nat), k ≤ n ∧ i = .int .i64 k ∧ (ps.drop k).all fewP = R ∧ Below w.heap.size w wr) (fun i _ => n - (intOf i).toNat)
  case atStart => exact ⟨0, Nat.zero_le _, rfl, HR.out, Below.refl _ _⟩
  case round =>
    obtain ⟨k, hk, rfl, hch, hwr⟩ := hrel
    by_cases hlt : k < n
    · have hkr : k < ps.length := by rw [← HN.out]; exact hlt
      have hne : ps ≠ [] := by intro e; rw [e] at hkr; exact absurd hkr (Nat.not_lt_zero _)
      obtain ⟨b, o, rfl, hbw, hcell⟩ := R3.out hne
      obtain ⟨c0, c1, c2⟩ := hcell k ps[k] (List.getElem?_eq_getElem hkr)
      have g0 := (hwr.cell (p := ⟨b, o + k * 3, none⟩) hbw).trans c0
      have g1 := (hwr.cell (p := ⟨b, o + k * 3 + 1, none⟩) hbw).trans c1
      have g2 := (hwr.cell (p := ⟨b, o + k * 3 + 2, none⟩) hbw).trans c2
      rw [List.drop_eq_getElem_cons hkr, List.all_cons] at hch
      generalize ps[k] = q at *
      obtain ⟨K, D, U⟩ := q
      unfold fewP at hch
      simp only at hch g0 g1 g2
      by_cases h1 : (300 : Int) < (U.length : Int)
      · have hRf : R = false := by rw [← hch, decide_eq_true h1]; rfl
        subst hRf
        clear hcell c0 c1 c2 hch HR
        go_wp2
        go_ret
        exact ⟨rfl, hwr⟩
      · by_cases h2 : (5000 : Int) < K
        · have hRf : R = false := by rw [← hch, decide_eq_true h2, decide_eq_false h1]; rfl
          subst hRf
          clear hcell c0 c1 c2 hch HR
          go_wp2
          go_ret
          exact ⟨rfl, hwr⟩
        · by_cases h3 : (5000 : Int) < D
          · have hRf : R = false := by rw [← hch, decide_eq_true h3, decide_eq_false h1, decide_eq_false h2]; rfl
            subst hRf
            clear hcell c0 c1 c2 hch HR
            go_wp2
            go_ret
            exact ⟨rfl, hwr⟩
          · have HCH : Hid ((ps.drop (k + 1)).all fewP = R) := by
              show _ = _
              rw [decide_eq_false h1, decide_eq_false h2, decide_eq_false h3] at hch
              exact hch
            clear hcell c0 c1 c2 hch HR
            go_wp2
            go_roundw
            case rel => exact ⟨k + 1, by omega, by go_num, HCH.out, hwr⟩
            case measure => simp [intOf]; omega
    · have e : ps.drop k = [] := List.drop_of_length_le (by rw [← HN.out]; omega)
      rw [e] at hch
      have hRf : R = true := by rw [← hch]; rfl
      subst hRf
      clear e R3 hch HR
      go_wp2
      go_ret
      exact ⟨rfl, hwr⟩

end Go.Proofs.YtldhbjmillfjgabGreatDoor
