/-
  room.drop, Lose, Twice.
-/
import Derived.Test.YtedgnlgjmnccgabGreatDoorPkDel
namespace Go.Proofs.YtedgnlgjmnccgabGreatDoor
open Go.RowKit Go.Maps
set_option linter.unusedVariables false
attribute [local go_sem] Oper.semAt_some yieldsUpon okUpon

set_option maxRecDepth 100000 in
set_option maxHeartbeats 1000000 in
theorem rmDrop_any {lo : Nat} {w : World} {r bx bmx : Nat} {bs : List Nat} {R : Rm} (h : isRoom lo w r bx bmx bs R) {i : Nat} (hi : i < R.fl.length) (hfl : R.fl.length ≤ 400) :
    Calls Tryz.prog 132 #[.pointer (some ⟨r, 0, none⟩), .int .i64 (i : Int)] w fun e w' => e = .returned (.tuple #[]) ∧ isRoom lo w' r bx bmx bs (outR R i) ∧ keptF w w' r := by
  obtain ⟨pc, cc, pf, cf, h2, h3, h4⟩ := isRoom_cells h
  have hne : R.fl ≠ [] := fun e => by rw [e] at hi; exact absurd hi (Nat.not_lt_zero _)
  obtain ⟨g, _, epf, _⟩ := pks_row h4 hne
  have CD : Hid _ := delPk h4 hi (by omega)
  have hown := fun k => isPks_own (k := k) h4
  have hrg : r ≠ g := fun e => by
    obtain ⟨_, _, cs, hc⟩ := hown g (by rw [epf]; rfl)
    rw [← e] at hc
    have := not_type h2 hc
    revert this; decide
  have x2 : w.cell? ⟨r, 2, none⟩ = some (.slice pf R.fl.length cf) := Lib.cell_of_heap h2 2
  have FIN : Hid (∀ w1, isPks 219 lo w1 (.slice pf (R.fl.length - 1) cf) (R.fl.eraseIdx i) → w.grownBy w1 (Value.slice pf R.fl.length cf).ownBlock → w1.cell? ⟨r, 2, none⟩ = some (.slice pf R.fl.length cf) ∧ w1.frozen? ⟨r, 2, none⟩ = false ∧ isRoom lo (w1.setCell ⟨r, 2, none⟩ (.slice pf (R.fl.length - 1) cf)) r bx bmx bs (outR R i) ∧ keptF w (w1.setCell ⟨r, 2, none⟩ (.slice pf (R.fl.length - 1) cf)) r) := fun w1 hp hg => by
    have hlow := h.low
    have hb6 : w1.heap[r]? = some (.cells #[.pointer (some ⟨bx, 0, none⟩), .slice pc bs.length cc, .slice pf R.fl.length cf, .int .i64 (R.lost : Int)] 215 (0, 0)) := (hg.block r (Array.getElem?_eq_some_iff.1 h2).1 (by rw [epf]; exact fun e => hrg (Option.some.inj e))).trans h2
    have hS : sameBut w (w1.setCell ⟨r, 2, none⟩ (.slice pf (R.fl.length - 1) cf)) (fun k => k = r ∨ (Value.slice pf R.fl.length cf).ownBlock = some k) := (sameBut_grown (S := fun k => k = r ∨ (Value.slice pf R.fl.length cf).ownBlock = some k) hg fun k e => .inr e).comp (sameBut_set (S := fun k => k = r ∨ (Value.slice pf R.fl.length cf).ownBlock = some k) (.inl rfl)) fun k _ h => h
    have hfin := heap_setCell_same w1 r 2 _ _ (.slice pf (R.fl.length - 1) cf) hb6
    refine ⟨Lib.cell_of_heap hb6 2, frozen_block hb6, ?_, hS.mono fun k _ e => e.imp id fun e => ⟨_, x2, e⟩, fun k hk => ?_⟩
    case refine_2 =>
      rcases hk with rfl | ⟨v, e, hk⟩
      · exact .inl (.inl rfl)
      · have y2 : (w1.setCell ⟨r, 2, none⟩ (.slice pf (R.fl.length - 1) cf)).cell? ⟨r, 2, none⟩ = some (.slice pf (R.fl.length - 1) cf) := Lib.cell_of_heap hfin 2
        rw [y2] at e
        obtain rfl := Option.some.inj e
        refine .inl (.inr ⟨_, x2, ?_⟩)
        rw [epf] at hk ⊢
        exact hk
    refine isRoom_flight (R' := outR R i) (X := fun k => k = r ∨ (Value.slice pf R.fl.length cf).ownBlock = some k) (vc := .slice pc bs.length cc) (vf := .slice pf (R.fl.length - 1) cf) h (heap_setCell_same w1 r 2 _ _ _ hb6) ⟨_, _, _, h2⟩ ?_ hS (fun k hk e => ?_) rfl rfl rfl rfl rfl
    · refine isPks_but (S := fun k => k = r) hp (sameBut_set rfl) fun k hk e => ?_
      subst e
      exact ⟨hlow, noPart_of hb6 (by decide), fun cs fz hc => by have := not_type hb6 hc; revert this; decide⟩
    · rcases e with rfl | e
      · exact ⟨hlow, _, _, h2, .inl rfl⟩
      · obtain ⟨a, _, cs, hc⟩ := hown k e
        exact ⟨a, cs, _, hc, .inr rfl⟩
  have hw1 : wrap64 ((i : Int) + 1) = (i : Int) + 1 := wrap64_small (by omega) (by omega)
  generalize R.fl.length = n at *
  clear h h2 h3 h4 hne hown epf
  go_enter Tryz.func132, Tryz.ntmps132
  go_wp2_with (first
    | (go_at_call 191; refine Calls.mono CD.out ?_; rintro e w1 ⟨rfl, hp, hg⟩; obtain ⟨u1, u2, u3, u4⟩ := FIN.out w1 hp hg; have U3 : Hid _ := u3; have U4 : Hid _ := u4; clear hp hg u3 u4)
    | fail)
  go_end0
  exact ⟨rfl, U3.out, U4.out⟩
end Go.Proofs.YtedgnlgjmnccgabGreatDoor
