/-
  room.settle, Send, Quiet.
-/
import Derived.Test.YtedgnlgjmnccgabGreatDoorRoomDeliv
import Derived.Test.YtedgnlgjmnccgabGreatDoorRoomN
namespace Go.Proofs.YtedgnlgjmnccgabGreatDoor
open Go.RowKit Go.Maps
set_option linter.unusedVariables false
attribute [local go_sem] Oper.semAt_some yieldsUpon okUpon

/-- How much is under way, read in memory. -/
def kindW (w : World) (g i : Nat) : Nat := match w.cell? ⟨g, i * 7, none⟩ with
  | some (.int _ k) => if k = 1 ∨ k = 2 then 400 else 1
  | _ => 1
def weightW (w : World) (r : Nat) : Nat := match w.cell? ⟨r, 2, none⟩ with
  | some (.slice (some a) n _) => ((List.range n).map (kindW w a.block)).sum
  | _ => 0
theorem weightW_of {lo : Nat} {w : World} {r bx bmx : Nat} {bs : List Nat} {R : Rm} (h : isRoom lo w r bx bmx bs R) : weightW w r = weightR R.fl := by
  obtain ⟨pc, cc, pf, cf, h2, h3, h4⟩ := isRoom_cells h
  have x2 : w.cell? ⟨r, 2, none⟩ = some (.slice pf R.fl.length cf) := Lib.cell_of_heap h2 2
  unfold weightW
  rw [x2]
  by_cases hne : R.fl = []
  · rw [hne]
    cases pf <;> simp [weightR]
  · obtain ⟨g, rfl, _, _, _, _, hat⟩ := isPks_at h4 hne
    show ((List.range R.fl.length).map (kindW w g)).sum = _
    have e : (List.range R.fl.length).map (kindW w g) = R.fl.map wP := by
      apply List.ext_getElem
      · simp
      · intro i h1 h2
        rw [List.getElem_map, List.getElem_map, List.getElem_range]
        have hi : i < R.fl.length := by simpa using h2
        obtain ⟨v, a0, _⟩ := hat i _ (List.getElem?_eq_getElem hi)
        unfold kindW wP
        rw [a0]
    rw [e]
    rfl
set_option maxRecDepth 100000 in
set_option maxHeartbeats 1000000 in
theorem rmSettle_any {lo : Nat} {w : World} {r bx bmx : Nat} {bs : List Nat} {R : Rm} {l0 n : Int} {D : List (List UInt8)} (he : Env lo w) (h : isRoom lo w r bx bmx bs R) (hi : Inv l0 n D R) (hn : n ≤ 100000) (hbl : bs.length ≤ 1000) (hpot : potR R ≤ 100000000) :
    Calls Tryz.prog 134 #[.pointer (some ⟨r, 0, none⟩)] w fun e w' => e = .returned (.tuple #[]) ∧ isRoom lo w' r bx bmx bs (settleR l0 R) ∧ sameBut w w' (touchM lo w bmx) := by
  have HE : Hid (Env lo w) := he
  have HPOT : Hid (potR R ≤ 100000000) := hpot
  have H0 : Hid (∃ R' D', isRoom lo w r bx bmx bs R' ∧ Inv l0 n D' R' ∧ settleR l0 R' = settleR l0 R ∧ potR R' ≤ potR R ∧ sameBut w w (touchM lo w bmx)) := ⟨R, D, h, hi, rfl, Nat.le_refl _, sameBut_refl _ _⟩
  clear he h hi hpot
  go_enter Tryz.func134, Tryz.ntmps134
  go_wp2
  go_loopw [] (fun wr => ∃ R' D', isRoom lo wr r bx bmx bs R' ∧ Inv l0 n D' R' ∧ settleR l0 R' = settleR l0 R ∧ potR R' ≤ potR R ∧ sameBut w wr (touchM lo w bmx)) (fun wr => weightW wr r)
  case atStart => exact H0.out
  case round =>
    obtain ⟨R', D', h1, h2, h3, h4, h5⟩ := hrel
    have CM : Hid _ := rmMany_any h1
    have H1 : Hid _ := h1
    have H2 : Hid _ := h2
    have H5 : Hid _ := h5
    have H34 : Hid (settleR l0 R' = settleR l0 R ∧ potR R' ≤ potR R) := ⟨h3, h4⟩
    have HW : Hid (weightW wr r = weightR R'.fl) := weightW_of h1
    by_cases hne : R'.fl = []
    · have hz : ¬ (0 : Int) < (R'.fl.length : Int) := by rw [hne]; decide
      have HN : Hid (R'.fl = []) := hne
      clear h1 h2 h3 h4 h5 hne H0
      go_wp2_with (first
        | (go_at_call 73; refine Calls.mono CM.out ?_; rintro e w1 ⟨rfl, hb1⟩; have HB1 : Hid (Below wr.heap.size wr w1) := hb1; clear hb1)
        | fail)
      go_end0
      rw [← H34.out.1, settleR_nil HN.out]
      exact ⟨rfl, isRoom_below H1.out HB1.out, touchM_after H5.out HB1.out⟩
    · have hlen : 0 < R'.fl.length := List.length_pos_iff.2 hne
      have hz : (0 : Int) < (R'.fl.length : Int) := by omega
      obtain ⟨p, hp⟩ : ∃ p, R'.fl[0]? = some p := ⟨_, List.getElem?_eq_getElem hlen⟩
      have HST : Hid _ := h2.stepM hne
      have HDV : Hid _ := h2.deliv 0
      have HQ : Hid (∀ D2, Inv l0 n D2 (delivR l0 R' 0) → potR (delivR l0 R' 0) ≤ potR R') := fun D2 hi2 => by
        cases hfl : R'.fl with
        | nil => exact absurd hfl hne
        | cons p fl =>
          have e := deliv_head (l0 := l0) hfl
          have hf := hi2.few
          rw [e] at hf ⊢
          obtain ⟨q1, q2⟩ := pot_comes l0 { R' with fl := fl } p hf
          have e1 : potR ({ R' with fl := fl } : Rm) + wP p = potR R' := by
            unfold potR
            show R'.n + R'.lost + weightR fl + wP p = R'.n + R'.lost + weightR R'.fl
            rw [hfl]
            simp [weightR]; omega
          split at q1 <;> omega
      have CD : Hid (∀ wx, Below wr.heap.size wr wx → Calls Tryz.prog 67 #[.pointer (some ⟨r, 0, none⟩), .int .i64 0] wx fun e w' => e = .returned .nilIface ∧ isRoom lo w' r bx bmx bs (delivR l0 R' 0) ∧ sameBut wx w' (touchM lo wx bmx)) := fun wx hb => by
        have hh := h5
        have := rmDeliver_ok (i := 0) ((HE.out.room hh).below hb) (isRoom_below h1 hb) h2 hn hp hbl (Nat.le_trans h4 HPOT.out)
        exact this
      clear h1 h2 h3 h4 h5 hne H0 hlen hp
      go_wp2_with (first
        | (go_at_call 73; refine Calls.mono CM.out ?_; rintro e w1 ⟨rfl, hb1⟩; have HB1 : Hid (Below wr.heap.size wr w1) := hb1; clear hb1)
        | (go_at_call 67; refine (CD.out _ HB1.out).mono ?_; rintro e w2 ⟨rfl, h2, hs2⟩; have HH2 : Hid _ := h2; have HS2 : Hid _ := touchM_trans (touchM_after H5.out HB1.out) hs2; clear h2 hs2)
        | fail)
      go_roundw
      case rel =>
        obtain ⟨D2, i1, _, _, _⟩ := HDV.out
        exact ⟨_, D2, HH2.out, i1, HST.out.1.trans H34.out.1, Nat.le_trans (HQ.out D2 i1) H34.out.2, HS2.out⟩
      case measure =>
        rw [weightW_of HH2.out, HW.out]
        exact HST.out.2
end Go.Proofs.YtedgnlgjmnccgabGreatDoor
