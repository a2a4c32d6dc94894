/-
  client.Refused, Edit.
-/
import Derived.Test.YtedgnlgjmnccgabGreatDoorClTurn
import Derived.Test.YtedgnlgjmnccgabGreatDoorClIn
namespace Go.Proofs.YtedgnlgjmnccgabGreatDoor
open Go.RowKit Go.Maps
set_option linter.unusedVariables false
attribute [local go_sem] Oper.semAt_some yieldsUpon okUpon

set_option maxRecDepth 100000 in
set_option maxHeartbeats 1000000 in
theorem clRefuse_any {lo : Nat} {w : World} {b : Nat} {who u : Int} {S : Cl} (h : isCl lo w b who u S) (i : Int) (hd : 0 ≤ S.drops ∧ S.drops ≤ 1000000) :
    Calls Tryz.prog 51 #[.pointer (some ⟨b, 0, none⟩), .int .i64 i] w fun e w' => e = .returned (.tuple #[]) ∧ isCl lo w' b who u (rfS S i) ∧ keptC w w' b := by
  have hlt := isCl_lt h
  have HC : Hid (isCl lo w b who u S) := h
  have CP : Hid _ := clPending_any h
  by_cases hm : S.mine = []
  · have e : decide (0 < S.mine.length) = false := by rw [hm]; rfl
    rw [e] at CP
    have HR : Hid (rfS S i = S) := if_neg fun h => h.1 hm
    clear h hm e hd
    go_enter Tryz.func51, Tryz.ntmps51
    go_wp2_with (first
      | (go_at_call 58; refine Calls.mono CP.out ?_; rintro e w2 ⟨rfl, hb2⟩; have HB2 : Hid _ := hb2; clear hb2)
      | fail)
    (try simp only [Exit.inBlock, Exit.then]); refine bodyPost_ret (results_none rfl _ _ _) rfl ?_
    rw [HR.out]
    exact ⟨rfl, isCl_below HC.out HB2.out, keptC_below HB2.out hlt⟩
  · have e : decide (0 < S.mine.length) = true := decide_eq_true (List.length_pos_iff.2 hm)
    rw [e] at CP
    obtain ⟨hlo, vm, h3, h4⟩ := h
    obtain ⟨p, c, rfl⟩ := isMine_shape h4
    have H3 : Hid _ := h3
    have H4 : Hid _ := h4
    have HLO : Hid (lo ≤ b) := hlo
    by_cases hi : i = S.id
    · have HR : Hid (rfS S i = { S with mine := [], doc := S.seen, drops := S.drops + 1 }) := if_pos ⟨hm, hi⟩
      have hid1 : wrap64 (S.drops + 1) = S.drops + 1 := wrap64_small (by omega) (by omega)
      obtain ⟨d0, d1⟩ := hd
      subst hi
      clear h3 h4 hm e hlo
      generalize S.mine.length = n at *
      go_enter Tryz.func51, Tryz.ntmps51
      go_wp2_with (first
        | (go_at_call 58; refine Calls.mono CP.out ?_; rintro e w2 ⟨rfl, hb2⟩; have HB2 : Hid _ := hb2; have hbk := (hb2.block b hlt).trans H3.out; have HBK : Hid _ := hbk; obtain ⟨_, _, _, y3, y4, y5, y6, y7, yf⟩ := cl_cells hbk; have f4 := yf 4; have f5 := yf 5; have f7 := yf 7; clear hb2 hbk yf)
        | fail)
      go_end0
      rw [HR.out]
      refine ⟨rfl, ?_⟩
      have b1 := heap_setCell_same w2 b 4 _ _ (.slice none 0 0) HBK.out
      have b2 := heap_setCell_same _ b 5 _ _ (.string ⟨S.seen.toArray⟩) b1
      have b3 := heap_setCell_same _ b 7 _ _ (.int .i64 (S.drops + 1)) b2
      refine isCl_mk HLO.out H3.out b3 (isMine_nil _ _) ?_ fun k hk => by cases hk
      exact (sameBut_below HB2.out _).trans (((sameBut_set (S := fun k => k = b ∨ (Value.slice p n c).ownBlock = some k) (.inl rfl)).trans (sameBut_set (S := fun k => k = b ∨ (Value.slice p n c).ownBlock = some k) (.inl rfl))).trans (sameBut_set (S := fun k => k = b ∨ (Value.slice p n c).ownBlock = some k) (.inl rfl)))
    · have HR : Hid (rfS S i = S) := if_neg fun h => hi h.2
      have hi2 : ¬ i = S.id := hi
      clear h3 h4 hm e hd hlo
      go_enter Tryz.func51, Tryz.ntmps51
      go_wp2_with (first
        | (go_at_call 58; refine Calls.mono CP.out ?_; rintro e w2 ⟨rfl, hb2⟩; have HB2 : Hid _ := hb2; have y6 := (cl_cells ((hb2.block b hlt).trans H3.out)).2.2.2.2.2.2.1; clear hb2)
        | fail)
      (try simp only [Exit.inBlock, Exit.then]); refine bodyPost_ret (results_none rfl _ _ _) rfl ?_
      rw [HR.out]
      exact ⟨rfl, isCl_below HC.out HB2.out, keptC_below HB2.out hlt⟩

theorem clQueue_any {lo : Nat} {w : World} {b : Nat} {who u : Int} {S : Cl} (h : isCl lo w b who u S) (v : Value) (o : List Pt) (hx : opX lo w v o) (hT : Lib.Utf8Tabs 2 3 w) (htw : S.mine.length ≤ 2) (hid : 0 ≤ S.id ∧ S.id ≤ 1000000)
    (hg : ∀ m1 m2, S.mine = [m1, m2] → ∃ t, good m2 t ∧ good o (applyP m2 t) ∧ t.length + putsP m2 < 1000000 ∧ (applyP m2 t).length + putsP o < 1000000) :
    Calls Tryz.prog 121 #[.pointer (some ⟨b, 0, none⟩), v] w fun e w' => e = .returned (.tuple #[]) ∧ isCl lo w' b who u { S with mine := addM o S.mine, id := if S.mine = [] then S.id + 1 else S.id } ∧ keptC w w' b := by
  rcases hm : S.mine with _ | ⟨m1, _ | ⟨m2, _ | ⟨m3, ms⟩⟩⟩
  · rw [if_pos rfl]
    exact clQueue0 h hm v o hx hid
  · rw [if_neg (by simp)]
    have := clQueue1 h (by rw [hm]; rfl) v o hx
    rw [hm] at this
    exact this
  · rw [if_neg (by simp)]
    obtain ⟨t, g1, g2, g3, g4⟩ := hg m1 m2 hm
    exact clQueue2 h hm v o hx hT g1 g2 g3 g4
  · rw [hm] at htw; simp at htw
end Go.Proofs.YtedgnlgjmnccgabGreatDoor
