/-
  room.tell: what is sent of the log.
-/
import Derived.Test.YtedgnlgjmnccgabGreatDoorRoomLose
import Derived.Test.YtedgnlgjmnccgabGreatDoorRoomQ
import Derived.Test.YtedgnlgjmnccgabGreatDoorSrvLog
namespace Go.Proofs.YtedgnlgjmnccgabGreatDoor
open Go.RowKit Go.Maps
set_option linter.unusedVariables false
attribute [local go_sem] Oper.semAt_some yieldsUpon okUpon

theorem send_lost (R : Rm) (p : Pk) (h : R.fl.length ≤ 400) : (sendR R p).lost ≤ R.lost + 1 ∧ (sendR R p).fl.length ≤ 400 := by
  unfold sendR
  split
  · exact ⟨Nat.le_refl _, h⟩
  · exact ⟨Nat.le_succ _, by show (R.fl ++ [p]).length ≤ 400; rw [List.length_append, List.length_singleton]; omega⟩
theorem tellL_lost (k : Nat) : ∀ (xs : List SE) (f : Int) (R : Rm), R.fl.length ≤ 400 → (tellL k f xs R).lost ≤ R.lost + xs.length ∧ (tellL k f xs R).fl.length ≤ 400
  | [], _, _, h => ⟨Nat.le_refl _, h⟩
  | x :: xs, f, R, h => by
    obtain ⟨a, b⟩ := send_lost R ⟨3, k, f, 0, x⟩ h
    obtain ⟨c, d⟩ := tellL_lost k xs (f + 1) _ b
    rw [List.length_cons]
    exact ⟨by show (tellL k (f + 1) xs (sendR R ⟨3, k, f, 0, x⟩)).lost ≤ _; omega, d⟩
theorem isLog_F {lo base : Nat} {w w' : World} {v1 : Value} {E : List SE} (h : isLog 105 lo base w v1 E) (hs : sameBut w w' (touchF lo w)) : isLog 105 lo base w' v1 E :=
  isLog_but h hs fun k ⟨a, cs, T, hc, hT⟩ => ⟨a, noPart_of hc (by rcases hT with rfl | rfl <;> decide), fun cs' fz hc' => by
    have := not_type hc hc'
    subst this
    rcases hT with e | e <;> revert e <;> decide⟩
theorem touchM_trans {lo bmx : Nat} {w w1 w2 : World} (h : sameBut w w1 (touchM lo w bmx)) (h' : sameBut w1 w2 (touchM lo w1 bmx)) : sameBut w w2 (touchM lo w bmx) := h.comp h' fun k hk e => by
  by_cases hc : touchM lo w bmx k
  · exact hc
  · obtain ⟨a, e | ⟨cs, T, hb, hT⟩⟩ := e
    · exact absurd ⟨a, .inl e⟩ hc
    · rw [h.2 k hk hc] at hb
      exact ⟨a, .inr ⟨cs, T, hb, hT⟩⟩
theorem tell_next {k : Nat} {f : Int} {xs : List SE} {R R' : Rm} {i : Nat} {x : SE} (h : tellL k (f + (i : Int)) (xs.drop i) R' = tellL k f xs R) (hx : xs[i]? = some x) : tellL k (f + ((i + 1 : Nat) : Int)) (xs.drop (i + 1)) (sendR R' ⟨3, k, f + (i : Int), 0, x⟩) = tellL k f xs R := by
  have hi : i < xs.length := (List.getElem?_eq_some_iff.1 hx).1
  rw [List.drop_eq_getElem_cons hi] at h
  rw [List.getElem?_eq_getElem hi] at hx
  rw [Option.some.inj hx] at h
  rw [← h, show f + ((i + 1 : Nat) : Int) = f + (i : Int) + 1 by omega]
  rfl
set_option maxRecDepth 100000 in
set_option maxHeartbeats 2000000 in
theorem rmTell_ok {lo : Nat} {w : World} {r bx bmx : Nat} {bs : List Nat} {R : Rm} {l0 : Int} (h : isRoom lo w r bx bmx bs R) (hok : okS l0 R.t R.E) (hE : R.E.length ≤ 300) (K m : Nat) (hm : m ≤ R.E.length) (hlost : R.lost ≤ 100000000000) (hfl : R.fl.length ≤ 400) :
    Calls Tryz.prog 192 #[.pointer (some ⟨r, 0, none⟩), .int .i64 (K : Int), .int .i64 (m : Int)] w fun e w' => e = .returned (.tuple #[]) ∧ isRoom lo w' r bx bmx bs (tellR R K (m : Int)) ∧ keptF w w' r := by
  have hlo : lo ≤ w.heap.size := Nat.le_of_lt (Nat.lt_of_le_of_lt h.low (isRoom_lt h))
  have CL : Hid _ := srvLog_ok h.srv hok m hm (by omega)
  have HT : Hid (tellR R K (m : Int) = tellL K (m : Int) (R.E.drop m) R) := by
    show tellR R K (m : Int) = _
    unfold tellR
    rw [if_neg (by omega), Int.toNat_natCast]
  have HR : Hid (∀ w1, Below w.heap.size w w1 → isRoom lo w1 r bx bmx bs R) := fun w1 hb => isRoom_below h hb
  have x0 : w.cell? ⟨r, 0, none⟩ = some (.pointer (some ⟨bx, 0, none⟩)) := by
    obtain ⟨pc, cc, pf, cf, h2, _⟩ := isRoom_cells h
    exact Lib.cell_of_heap h2 0
  obtain ⟨xs, hxs⟩ : ∃ xs, R.E.drop m = xs := ⟨_, rfl⟩
  have hxl : xs.length ≤ 300 := by rw [← hxs, List.length_drop]; omega
  rw [hxs] at CL HT
  have HLO : Hid (lo ≤ w.heap.size) := hlo
  have hm1 : (m : Int) ≤ 300 := by omega
  have hxi : (xs.length : Int) ≤ 300 := by omega
  have HLOST : Hid (R.lost ≤ 100000000000) := hlost
  have HRL : Hid (r < w.heap.size) := isRoom_lt h
  have HFL : Hid (R.fl.length ≤ 400) := hfl
  clear h hok hE hm hlost hfl hxs hlo
  rw [HT.out]
  go_enter Tryz.func192, Tryz.ntmps192
  go_wp2_with (first
    | (go_at_call 44; refine Calls.mono CL.out ?_; rintro e w1 ⟨v1, rfl, hl1, hb1⟩; obtain ⟨pl, cl, rfl⟩ := isLog_shape hl1; have HL1 : Hid _ := hl1; have HB1 : Hid (Below w.heap.size w w1) := hb1; clear hl1 hb1)
    | fail)
  go_loopw [21] (fun i wr => ∃ k : Nat, i = .int .i64 k ∧ k ≤ xs.length ∧ ∃ R', tellL K ((m : Int) + (k : Int)) (xs.drop k) R' = tellL K (m : Int) xs R ∧ isRoom lo wr r bx bmx bs R' ∧ keptF w1 wr r ∧ R'.lost ≤ R.lost + k ∧ R'.fl.length ≤ 400) (fun i _ => xs.length - (intOf i).toNat)
  case atStart => exact ⟨0, rfl, Nat.zero_le _, R, by simp, HR.out _ HB1.out, keptF_below (isRoom_lt (HR.out _ HB1.out)) (Below.refl _ _), Nat.le_refl _, HFL.out⟩
  case round =>
    obtain ⟨k, rfl, hk, R', e1, e2, e3, e4, e5⟩ := hrel
    have E1 : Hid _ := e1
    have E2 : Hid _ := e2
    have E3 : Hid _ := e3
    have E4 : Hid (R'.lost ≤ R.lost + k ∧ R'.fl.length ≤ 400) := ⟨e4, e5⟩
    have hki : (k : Int) ≤ 300 := by omega
    clear e1 e2 e3 e4 e5
    by_cases hlt : k < xs.length
    · have hx : xs[k]? = some xs[k] := List.getElem?_eq_getElem hlt
      have hne : xs ≠ [] := by intro e; rw [e] at hlt; exact absurd hlt (Nat.not_lt_zero _)
      have hl2 := isLog_F HL1.out (keptF.touch E3.out (HR.out _ HB1.out))
      obtain ⟨g, rfl, hgl, _, hc1, hc2, hat⟩ := isLog_at hl2 hne
      obtain ⟨vx, a0, a1, a2, hop⟩ := hat k _ hx
      obtain ⟨pv, cv, rfl⟩ := opX_shape hop
      have HX : Hid (xs[k]? = some xs[k]) := hx
      generalize xs[k] = x at *
      have HOP : Hid _ := hop
      have hwr : wrap64 ((m : Int) + (k : Int)) = (m : Int) + (k : Int) := wrap64_small (by omega) (by omega)
      have hki2 : (k : Int) < (xs.length : Int) := by omega
      have CS : Hid (∀ o, Calls Tryz.prog 130 #[.pointer (some ⟨r, 0, none⟩), pkV ⟨3, K, (m : Int) + (k : Int), 0, x⟩ (.slice pv x.op.length cv)] (wr.alloc o) fun e w' => e = .returned (.tuple #[]) ∧ isRoom lo w' r bx bmx bs (sendR R' ⟨3, K, (m : Int) + (k : Int), 0, x⟩) ∧ keptF (wr.alloc o) w' r) := fun o => rmSend_any (isRoom_below E2.out ((Below.refl _ _).alloc (Nat.le_refl _) o)) _ _ (opX_grown HOP.out ((Below.refl _ _).alloc (Nat.le_refl _) o)) (by have := E4.out.1; have := HLOST.out; omega) E4.out.2
      unfold pkV at CS
      clear hat hop hx hl2 hne hc1 hc2
      go_wp2_with (first
        | (go_at_call 130; refine (CS.out _).mono ?_; rintro e w2 ⟨rfl, h2, hs2⟩; have H2 : Hid _ := h2; have HS2 : Hid _ := keptF.trans (keptF.trans E3.out (keptF_below (isRoom_lt E2.out) ((Below.refl _ _).alloc (Nat.le_refl _) _))) hs2; clear h2 hs2)
        | fail)
      go_roundw
      case rel =>
        obtain ⟨s1, s2⟩ := send_lost R' ⟨3, K, (m : Int) + (k : Int), 0, x⟩ E4.out.2
        exact ⟨k + 1, by go_num, by omega, _, tell_next E1.out HX.out, H2.out, HS2.out, by have := E4.out.1; omega, s2⟩
      case measure => simp [intOf]; omega
    · obtain rfl : k = xs.length := by omega
      have hki2 : ¬ ((xs.length : Int) < (xs.length : Int)) := by omega
      go_wp2
      go_end0
      have e := E1.out
      rw [List.drop_length] at e
      rw [← e]
      exact ⟨rfl, E2.out, keptF.trans (keptF_below HRL.out HB1.out) E3.out⟩
end Go.Proofs.YtedgnlgjmnccgabGreatDoor
