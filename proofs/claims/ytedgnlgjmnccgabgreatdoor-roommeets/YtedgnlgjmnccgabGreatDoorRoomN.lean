/-
  A room (pure): behind three quiet rounds all see the same.
-/
import Derived.Test.YtedgnlgjmnccgabGreatDoorRoomM
namespace Go.Proofs.YtedgnlgjmnccgabGreatDoor
set_option linter.unusedVariables false

theorem Inv2.settleM {l0 n : Int} : ∀ (m : Nat) (D : List (List UInt8)) (R : Rm), Inv l0 n D R → Inv2 R → Inv2 (settleN l0 m R)
  | 0, D, R, _, h => h
  | m + 1, D, R, hi, h => by
    cases hf : R.fl with
    | nil => rw [settle_nil l0 (m + 1) R hf]; exact h
    | cons p fl =>
      have hp := hi.pks p (by rw [hf]; simp)
      have hq := h.pq p (by rw [hf]; simp)
      have ho := hi.out 0
      have ho2 := h.out 0
      rw [out_head hf] at ho ho2
      obtain ⟨D1, i1, _⟩ := ho.comes (p := p) hp
      rw [settle_step l0 m R p fl hf]
      exact Inv2.settleM m D1 _ i1 (ho2.comes ho hp hq)
theorem Inv2.settle {l0 n : Int} {D : List (List UInt8)} {R : Rm} (hi : Inv l0 n D R) (h : Inv2 R) : Inv2 (settleR l0 R) := Inv2.settleM _ D R hi h
theorem Inv2.deliv {l0 n : Int} {D : List (List UInt8)} {R : Rm} (hi : Inv l0 n D R) (h : Inv2 R) (i : Nat) : Inv2 (delivR l0 R i) := by
  unfold delivR
  cases hp : R.fl[i]? with
  | none => exact h
  | some p => exact (h.out i).comes (hi.out i) (p := p) (hi.pks p (List.mem_of_getElem? hp)) (h.pq p (List.mem_of_getElem? hp))
theorem Inv2.twice {R : Rm} (h : Inv2 R) {i : Nat} {p : Pk} (hp : R.fl[i]? = some p) : Inv2 (sendR R p) := h.send (h.pq p (List.mem_of_getElem? hp))
theorem Inv2.quietM {l0 n : Int} : ∀ (m k : Nat) (D : List (List UInt8)) (R : Rm), Inv l0 n D R → Inv2 R → k + m = R.cl.length → Inv2 (quietK l0 m k R)
  | 0, k, D, R, _, h, _ => h
  | m + 1, k, D, R, hi, h, hk => by
    have h1 := hi.sendK (k := k) (by omega)
    have h2 := h.sendK hi (k := k) (by omega)
    have hc : (sendC R k).cl.length = R.cl.length := by unfold sendC; rw [(send_keeps _ _).2.2.2.2]
    obtain ⟨D1, i1, i2, i3, i4, i5⟩ := h1.settle
    exact Inv2.quietM m (k + 1) D1 _ i1 (h2.settle h1) (by rw [i3, hc]; omega)
theorem Inv2.quiet {l0 n : Int} {D : List (List UInt8)} {R : Rm} (hi : Inv l0 n D R) (h : Inv2 R) : Inv2 (quietR l0 R) := by
  obtain ⟨D1, i1, i2, i3, i4, i5⟩ := hi.settle
  exact Inv2.quietM R.cl.length 0 D1 _ i1 (h.settle hi) (by rw [i3]; omega)

/-! one client sends, and all comes -/
def toldL (k : Nat) : Int → List SE → List Pk
  | _, [] => []
  | f, x :: xs => ⟨3, k, f, 0, x⟩ :: toldL k (f + 1) xs
theorem send_room {R : Rm} {p : Pk} (h : R.fl.length < 400) : sendR R p = { R with fl := R.fl ++ [p] } := by unfold sendR; rw [if_neg (by omega)]
theorem tellL_room (k : Nat) : ∀ (xs : List SE) (f : Int) (R : Rm), R.fl.length + xs.length ≤ 400 → tellL k f xs R = { R with fl := R.fl ++ toldL k f xs }
  | [], f, R, _ => by simp [tellL, toldL]
  | x :: xs, f, R, h => by
    rw [List.length_cons] at h
    show tellL k (f + 1) xs (sendR R ⟨3, k, f, 0, x⟩) = _
    rw [send_room (by omega), tellL_room k xs (f + 1) _ (by simp; omega)]
    simp [toldL]
theorem with_fl (R : Rm) (h : R.fl = []) : ({ R with fl := [] } : Rm) = R := by rw [← h]
theorem settleR_nil {l0 : Int} {R : Rm} (h : R.fl = []) : settleR l0 R = R := settle_nil l0 _ R h
/-- What is sent to one client comes, one behind the other. -/
theorem told_settle {l0 n : Int} {D : List (List UInt8)} {k : Nat} {tl : List Pk} : ∀ (xs : List SE) (R : Rm), Inv l0 n D R → Inv2 R → k < R.cl.length → R.E.drop (clK R k).2.rev.toNat = xs → R.fl = toldL k (clK R k).2.rev xs ++ tl →
    ∃ R', settleR l0 R = settleR l0 R' ∧ Inv l0 n D R' ∧ Inv2 R' ∧ R'.fl = tl ∧ R'.E = R.E ∧ R'.t = R.t ∧ R'.M = R.M ∧ R'.cl.length = R.cl.length ∧ (∀ j, j ≠ k → clK R' j = clK R j) ∧ (clK R' k).2.rev = (R.E.length : Int) ∧
      ((clK R' k).2.id = (clK R k).2.id ∧ (clK R' k).2.mine.length = (clK R k).2.mine.length ∨ (clK R' k).2.mine.length + 1 ≤ (clK R k).2.mine.length)
  | [], R, hi, h2, hk, hd, hf => by
    obtain ⟨_, hc⟩ := hi.clk hk
    have h1 := hc.revle hi.lk
    have h0 := hc.rev
    have hl := congrArg List.length hd
    rw [List.length_drop, List.length_nil] at hl
    exact ⟨R, rfl, hi, h2, by simpa [toldL] using hf, rfl, rfl, rfl, rfl, fun _ _ => rfl, by omega, .inl ⟨rfl, rfl⟩⟩
  | x :: xs, R, hi, h2, hk, hd, hf => by
    obtain ⟨hq, hc⟩ := hi.clk hk
    have h0 := hc.rev
    have hlt : (clK R k).2.rev.toNat < R.E.length := by
      rcases Nat.lt_or_ge (clK R k).2.rev.toNat R.E.length with h | h
      · exact h
      · rw [List.drop_eq_nil_of_le h] at hd; cases hd
    have hd' := hd
    rw [List.drop_eq_getElem_cons hlt] at hd'
    injection hd' with hd1 hd2
    have hx : R.E[(clK R k).2.rev.toNat]? = some x := by rw [List.getElem?_eq_getElem hlt, hd1]
    have hfl : R.fl = ⟨3, k, (clK R k).2.rev, 0, x⟩ :: (toldL k ((clK R k).2.rev + 1) xs ++ tl) := by rw [hf]; rfl
    obtain ⟨s1, s2⟩ := hi.stepM (by rw [hfl]; simp)
    have hdv := deliv_head (l0 := l0) hfl
    have hi1 := hi.out 0
    have hi2 := h2.out 0
    rw [out_head hfl] at hi1 hi2
    have hcm : comesR l0 { R with fl := toldL k ((clK R k).2.rev + 1) xs ++ tl } ⟨3, k, (clK R k).2.rev, 0, x⟩ = setC { R with fl := toldL k ((clK R k).2.rev + 1) xs ++ tl } k (tkS k (clK R k).2 (clK R k).2.rev x.c x.i x.op) := by
      unfold comesR
      rw [if_neg (by show ¬ (3 : Int) = 1; decide), if_neg (by show ¬ (3 : Int) = 2; decide), if_pos rfl]
      rfl
    have hcl0 : ∀ j, clK ({ R with fl := toldL k ((clK R k).2.rev + 1) xs ++ tl } : Rm) j = clK R j := fun j => rfl
    have hp := hi.pks ⟨3, k, (clK R k).2.rev, 0, x⟩ (by rw [hfl]; simp)
    have hpq := h2.pq ⟨3, k, (clK R k).2.rev, 0, x⟩ (by rw [hfl]; simp)
    have hi3 : Inv l0 n D (delivR l0 R 0) := by
      rw [hdv, hcm]
      exact hi1.setK (Int.le_refl _) (okCl_take hc hi.lk k hx)
    have hi4 : Inv2 (delivR l0 R 0) := by
      rw [hdv]
      exact hi2.comes hi1 hp hpq
    have hpr := h2.pr k _ hq
    have hcl : ∀ j, clK (delivR l0 R 0) j = if k = j then ((clK R k).1, tkS k (clK R k).2 (clK R k).2.rev x.c x.i x.op) else clK R j := fun j => by
      rw [hdv, hcm, clK_set (R := { R with fl := toldL k ((clK R k).2.rev + 1) xs ++ tl }) hk]
      rfl
    have hclk : clK (delivR l0 R 0) k = ((clK R k).1, tkS k (clK R k).2 (clK R k).2.rev x.c x.i x.op) := by rw [hcl, if_pos rfl]
    have hE : (delivR l0 R 0).E = R.E := by rw [hdv, hcm]; rfl
    have ht : (delivR l0 R 0).t = R.t := by rw [hdv, hcm]; rfl
    have hM : (delivR l0 R 0).M = R.M := by rw [hdv, hcm]; rfl
    have hfl' : (delivR l0 R 0).fl = toldL k ((clK R k).2.rev + 1) xs ++ tl := by rw [hdv, hcm]; rfl
    have hlen : (delivR l0 R 0).cl.length = R.cl.length := by rw [hdv, hcm]; exact List.length_set
    have hnx : (clK (delivR l0 R 0) k).2.rev = (clK R k).2.rev + 1 ∧ ((clK (delivR l0 R 0) k).2.id = (clK R k).2.id ∧ (clK (delivR l0 R 0) k).2.mine.length = (clK R k).2.mine.length ∨ (clK (delivR l0 R 0) k).2.mine.length + 1 ≤ (clK R k).2.mine.length) := by
      rw [hclk]
      rcases tk_next (u := (clK R k).1) (S := (clK R k).2) hc hi.lk hpr hx with ⟨_, e⟩ | ⟨_, hm, _, e⟩
      · rw [e]; exact ⟨rfl, .inl ⟨rfl, turnM_len _ _⟩⟩
      · rw [e]
        refine ⟨rfl, .inr ?_⟩
        show (clK R k).2.mine.tail.length + 1 ≤ (clK R k).2.mine.length
        have := List.length_pos_iff.2 hm
        rw [List.length_tail]; omega
    obtain ⟨hn1, hn2⟩ := hnx
    have hr1 : ((clK R k).2.rev + 1).toNat = (clK R k).2.rev.toNat + 1 := by omega
    obtain ⟨R', a1, a2, a3, a4, a5, a6, a7, a8, a9, a10, a11⟩ := told_settle (tl := tl) xs (delivR l0 R 0) hi3 hi4 (by rw [hlen]; exact hk) (by rw [hn1, hr1, hE]; exact hd2) (by rw [hfl', hn1])
    refine ⟨R', by rw [← s1, a1], a2, a3, a4, a5.trans hE, a6.trans ht, a7.trans hM, a8.trans hlen, fun j hj => ?_, by rw [a10, hE], ?_⟩
    · rw [a9 j hj, hcl, if_neg (Ne.symm hj)]
    · rcases a11 with ⟨b1, b2⟩ | b
      · rcases hn2 with ⟨c1, c2⟩ | c
        · exact .inl ⟨b1.trans c1, b2.trans c2⟩
        · exact .inr (by omega)
      · rcases hn2 with ⟨c1, c2⟩ | c
        · exact .inr (by omega)
        · exact .inr (by omega)
theorem round_one {l0 n : Int} {D : List (List UInt8)} {R : Rm} (hi : Inv l0 n D R) (h2 : Inv2 R) (hf : R.fl = []) {k : Nat} (hk : k < R.cl.length) :
    (settleR l0 (sendC R k)).cl.length = R.cl.length ∧ (∀ j, j ≠ k → clK (settleR l0 (sendC R k)) j = clK R j) ∧ (clK (settleR l0 (sendC R k)) k).2.rev = ((settleR l0 (sendC R k)).E.length : Int) ∧
      (clK (settleR l0 (sendC R k)) k).2.mine.length ≤ (clK R k).2.mine.length - 1 ∧ ((clK R k).2.mine = [] → (settleR l0 (sendC R k)).E = R.E ∧ (settleR l0 (sendC R k)).t = R.t) := by
  obtain ⟨hq, hc⟩ := hi.clk hk
  have h0 := hc.rev
  have hrl := hc.revle hi.lk
  have hpr := h2.pr k _ hq
  have his := hi.sendK hk
  have his2 := h2.sendK hi hk
  have hfs : (sendC R k).fl = [askP R k] := by unfold sendC; rw [send_room (by rw [hf]; simp), hf]; rfl
  have hsc : sendC R k = { R with fl := [askP R k] } := by unfold sendC; rw [send_room (by rw [hf]; simp), hf]; rfl
  obtain ⟨s1, _⟩ := his.stepM (by rw [hfs]; simp)
  have hdv := deliv_head (l0 := l0) hfs
  rw [← s1, hdv]
  have hR0 : ({ sendC R k with fl := [] } : Rm) = R := by rw [hsc]; exact with_fl R hf
  rw [hR0]
  have hp := hi.askK hk
  have hpq := h2.askK hi hk
  have hcomes := h2.comes hi hp hpq
  obtain ⟨D1, i1, i2, i3, i4, i5⟩ := hi.comes hp
  by_cases hm : (clK R k).2.mine = []
  · have ha : askP R k = ⟨2, k, (clK R k).2.rev, 0, noSE⟩ := by unfold askP; rw [if_pos hm]
    rw [ha] at hcomes i1 ⊢
    have hcm : comesR l0 R ⟨2, k, (clK R k).2.rev, 0, noSE⟩ = { R with fl := toldL k (clK R k).2.rev (R.E.drop (clK R k).2.rev.toNat) } := by
      unfold comesR
      rw [if_neg (by show ¬ (2 : Int) = 1; decide), if_pos rfl]
      show tellR R k (clK R k).2.rev = _
      unfold tellR
      rw [if_neg (by omega), tellL_room k _ _ R (by rw [hf, List.length_drop]; have := hi.few; simp; omega), hf, List.nil_append]
    rw [hcm] at hcomes i1 ⊢
    obtain ⟨R', a1, a2, a3, a4, a5, a6, a7, a8, a9, a10, a11⟩ := told_settle (k := k) (tl := []) _ _ i1 hcomes hk rfl (by rw [List.append_nil]; rfl)
    rw [a1, settleR_nil a4]
    refine ⟨a8, a9, by rw [a10, a5], ?_, fun _ => ⟨a5, a6⟩⟩
    have h0 : (clK R k).2.mine.length = 0 := by rw [hm]; rfl
    have hcc : clK ({ R with fl := toldL k (clK R k).2.rev (R.E.drop (clK R k).2.rev.toNat) } : Rm) k = clK R k := rfl
    rw [hcc, h0] at a11
    omega
  · have ha : askP R k = ⟨1, k, (clK R k).2.rev, (clK R k).2.id, ⟨k, (clK R k).2.id, headM (clK R k).2⟩⟩ := by unfold askP; rw [if_neg hm]
    rw [ha] at hcomes i1 i3 hp hpq ⊢
    generalize hpe : (⟨1, k, (clK R k).2.rev, (clK R k).2.id, ⟨k, (clK R k).2.id, headM (clK R k).2⟩⟩ : Pk) = p at *
    have pk : p.kind = 1 := by rw [← hpe]
    have pc : p.c = k := by rw [← hpe]
    have prv : p.rev = (clK R k).2.rev := by rw [← hpe]
    have pid : p.id = (clK R k).2.id := by rw [← hpe]
    obtain ⟨v1, v2, v3, v4⟩ := h2.srv hi hp pk hpq
    rw [pc] at v2 v3 v4
    have hg1 : (got (srvR l0 R p).M k).1 = (clK R k).2.id := by rw [v2, pid]; have := hpr.le; omega
    have he := v4 (by rw [hg1, pid])
    have hpr1 := v1.pr k (clK R k) hq
    have he8 : srvE l0 R p ≠ 8 := by rw [he]; exact hpr1.no8
    have hcm0 : comesR l0 R p = askR l0 R p := by unfold comesR; rw [if_pos pk]
    obtain ⟨k1, k2, k3, k4, k5⟩ := askR_keeps l0 R p
    have hEfew : (srvR l0 R p).E.length ≤ 300 := by rw [← k2, ← hcm0]; exact i1.few
    have hElen : R.E.length ≤ (srvR l0 R p).E.length := by
      rcases i5 with ⟨_, e, _⟩ | ⟨_, e⟩
      · rw [ha, hcm0, k2] at e; rw [e]; exact Nat.le_refl _
      · rw [ha, hcm0, k2] at e; omega
    have htl : tellR (srvR l0 R p) p.c p.rev = { srvR l0 R p with fl := toldL k (clK R k).2.rev ((srvR l0 R p).E.drop (clK R k).2.rev.toNat) } := by
      rw [pc, prv]
      unfold tellR
      rw [if_neg (by omega), tellL_room k _ _ (srvR l0 R p) (by rw [show (srvR l0 R p).fl = [] from hf, List.length_drop]; simp; omega), show (srvR l0 R p).fl = [] from hf, List.nil_append]
    by_cases hz : srvE l0 R p = 0
    · have hcm : comesR l0 R p = { srvR l0 R p with fl := toldL k (clK R k).2.rev ((srvR l0 R p).E.drop (clK R k).2.rev.toNat) } := by
        rw [hcm0]; unfold askR; rw [if_neg (fun e => e.1 hz), htl]
      rw [hcm] at hcomes i1 i3 ⊢
      have hcc : ∀ j, clK ({ srvR l0 R p with fl := toldL k (clK R k).2.rev ((srvR l0 R p).E.drop (clK R k).2.rev.toNat) } : Rm) j = clK R j := fun j => rfl
      obtain ⟨R', a1, a2, a3, a4, a5, a6, a7, a8, a9, a10, a11⟩ := told_settle (k := k) (tl := []) _ _ i1 hcomes hk rfl (by rw [List.append_nil]; rfl)
      rw [a1, settleR_nil a4]
      refine ⟨a8, a9, by rw [a10, a5], ?_, fun e => absurd e hm⟩
      rw [hcc] at a11
      rcases a11 with ⟨b1, b2⟩ | b
      · exfalso
        have hk' : k < R'.cl.length := by rw [a8]; exact hk
        obtain ⟨hq', _⟩ := a2.clk hk'
        have hm' : (clK R' k).2.mine ≠ [] := fun e => by
          rw [e] at b2
          exact hm (List.eq_nil_of_length_eq_zero (by rw [← b2]; rfl))
        have hgg : got R'.M k = ((clK R' k).2.id, 0) := by
          rw [a7, b1]
          show got (srvR l0 R p).M k = _
          rw [← hg1, ← hz, he]
        obtain ⟨j, y, c1, c2, _⟩ := (a3.pr k _ hq').has hm' hgg
        have := (List.getElem?_eq_some_iff.1 c2).1
        rw [a10] at c1
        rw [a5] at this
        simp only at this c1
        omega
      · omega
    · have hcm : comesR l0 R p = { srvR l0 R p with fl := toldL k (clK R k).2.rev ((srvR l0 R p).E.drop (clK R k).2.rev.toNat) ++ [refuseP p] } := by
        rw [hcm0]; unfold askR; rw [if_pos ⟨hz, he8⟩, htl, send_room ?_]
        show (toldL k (clK R k).2.rev ((srvR l0 R p).E.drop (clK R k).2.rev.toNat)).length < 400
        have htlen : ∀ (xs : List SE) (f : Int), (toldL k f xs).length = xs.length := fun xs => by
          induction xs with
          | nil => intro f; rfl
          | cons x xs ih => intro f; simp [toldL, ih]
        rw [htlen, List.length_drop]; omega
      rw [hcm] at hcomes i1 i3 ⊢
      have hcc : ∀ j, clK ({ srvR l0 R p with fl := toldL k (clK R k).2.rev ((srvR l0 R p).E.drop (clK R k).2.rev.toNat) ++ [refuseP p] } : Rm) j = clK R j := fun j => rfl
      obtain ⟨R', a1, a2, a3, a4, a5, a6, a7, a8, a9, a10, a11⟩ := told_settle (k := k) (tl := [refuseP p]) _ _ i1 hcomes hk rfl rfl
      rw [a1]
      have hk' : k < R'.cl.length := by rw [a8]; exact hk
      obtain ⟨t1, _⟩ := a2.stepM (by rw [a4]; simp)
      rw [← t1, deliv_head (l0 := l0) a4]
      have hcf : comesR l0 { R' with fl := [] } (refuseP p) = setC { R' with fl := [] } k (rfS (clK R' k).2 p.id) := by
        unfold comesR
        rw [if_neg (by show ¬ (4 : Int) = 1; decide), if_neg (by show ¬ (4 : Int) = 2; decide), if_neg (by show ¬ (4 : Int) = 3; decide), if_pos (show (refuseP p).kind = 4 from rfl)]
        rw [show (refuseP p).c = k from pc]
        rfl
      rw [hcf, settleR_nil rfl]
      have hcl : ∀ j, clK (setC { R' with fl := [] } k (rfS (clK R' k).2 p.id)) j = if k = j then ((clK R' k).1, rfS (clK R' k).2 p.id) else clK R' j := fun j => by
        rw [clK_set (R := { R' with fl := [] }) hk']
        rfl
      have hrr : (rfS (clK R' k).2 p.id).rev = (clK R' k).2.rev := by unfold rfS; split <;> rfl
      refine ⟨by show (R'.cl.set k _).length = _; rw [List.length_set, a8]; rfl, fun j hj => by rw [hcl, if_neg (Ne.symm hj), a9 j hj, hcc], ?_, ?_, fun e => absurd e hm⟩
      · rw [hcl, if_pos rfl]
        show (rfS (clK R' k).2 p.id).rev = (R'.E.length : Int)
        rw [hrr, a10, a5]
      · rw [hcl, if_pos rfl]
        show (rfS (clK R' k).2 p.id).mine.length ≤ _
        rw [hcc] at a11
        have hle : (rfS (clK R' k).2 p.id).mine.length ≤ (clK R' k).2.mine.length := by unfold rfS; split <;> simp
        rcases a11 with ⟨b1, b2⟩ | b
        · have hm' : (clK R' k).2.mine ≠ [] := fun e => by
            rw [e] at b2
            exact hm (List.eq_nil_of_length_eq_zero (by rw [← b2]; rfl))
          have : rfS (clK R' k).2 p.id = { (clK R' k).2 with mine := [], doc := (clK R' k).2.seen, drops := (clK R' k).2.drops + 1 } := if_pos ⟨hm', by rw [pid, b1]⟩
          rw [this]
          exact Nat.zero_le _
        · omega
theorem round_all {l0 n : Int} : ∀ (m k : Nat) (D : List (List UInt8)) (R : Rm), Inv l0 n D R → Inv2 R → R.fl = [] → k + m = R.cl.length →
    (∀ j, j < k → clK (quietK l0 m k R) j = clK R j) ∧ (∀ j, k ≤ j → j < R.cl.length → (clK (quietK l0 m k R) j).2.mine.length ≤ (clK R j).2.mine.length - 1) ∧
      ((∀ j, k ≤ j → j < R.cl.length → (clK R j).2.mine = []) → (quietK l0 m k R).E = R.E ∧ (quietK l0 m k R).t = R.t ∧ ∀ j, k ≤ j → j < R.cl.length → (clK (quietK l0 m k R) j).2.rev = (R.E.length : Int))
  | 0, k, D, R, hi, h2, hf, hk => ⟨fun _ _ => rfl, fun j h1 h2 => by omega, fun _ => ⟨rfl, rfl, fun j h1 h2 => by omega⟩⟩
  | m + 1, k, D, R, hi, h2, hf, hk => by
    have hkl : k < R.cl.length := by omega
    obtain ⟨r1, r2, r3, r4, r5⟩ := round_one hi h2 hf hkl
    have his := hi.sendK hkl
    have his2 := h2.sendK hi hkl
    obtain ⟨D1, i1, i2, i3, i4, i5⟩ := his.settle
    have i6 := his2.settle his
    obtain ⟨j1, j2, j3⟩ := round_all m (k + 1) D1 _ i1 i6 i4 (by rw [r1]; omega)
    have hq : quietK l0 (m + 1) k R = quietK l0 m (k + 1) (settleR l0 (sendC R k)) := rfl
    rw [hq]
    refine ⟨fun j hj => ?_, fun j hj hjl => ?_, fun hall => ?_⟩
    · rw [j1 j (by omega), r2 j (by omega)]
    · by_cases hjk : j = k
      · subst hjk
        rw [j1 j (by omega)]; exact r4
      · have := j2 j (by omega) (by rw [r1]; exact hjl)
        rw [r2 j hjk] at this
        exact this
    · obtain ⟨e1, e2⟩ := r5 (hall k (Nat.le_refl _) hkl)
      obtain ⟨a, b, c⟩ := j3 fun j hj hjl => by
        rw [r2 j (by omega)]
        exact hall j (by omega) (by rw [r1] at hjl; exact hjl)
      refine ⟨a.trans e1, b.trans e2, fun j hj hjl => ?_⟩
      by_cases hjk : j = k
      · subst hjk
        rw [j1 j (by omega), r3, e1]
      · rw [c j (by omega) (by rw [r1]; exact hjl), e1]
/-- All see the same. -/
theorem meets {l0 n : Int} {D : List (List UInt8)} {R : Rm} (hi : Inv l0 n D R) (h2 : Inv2 R) :
    ∃ D', Inv l0 n D' (quietR l0 (quietR l0 (quietR l0 R))) ∧ (quietR l0 (quietR l0 (quietR l0 R))).fl = [] ∧ (quietR l0 (quietR l0 (quietR l0 R))).cl.length = R.cl.length ∧
      ∀ k, k < R.cl.length → (clK (quietR l0 (quietR l0 (quietR l0 R))) k).2.mine = [] ∧ (clK (quietR l0 (quietR l0 (quietR l0 R))) k).2.doc = (quietR l0 (quietR l0 (quietR l0 R))).t ∧
        (clK (quietR l0 (quietR l0 (quietR l0 R))) k).2.seen = (quietR l0 (quietR l0 (quietR l0 R))).t ∧ (clK (quietR l0 (quietR l0 (quietR l0 R))) k).2.rev = ((quietR l0 (quietR l0 (quietR l0 R))).E.length : Int) := by
  obtain ⟨D0, a1, a2, a3, a4, a5⟩ := hi.settle
  have a6 := h2.settle hi
  obtain ⟨D1, b1, b2, b3, b4, b5⟩ := hi.quiet
  have b6 := h2.quiet hi
  obtain ⟨D2, c1, c2, c3, c4, c5⟩ := b1.quiet
  have c6 := b6.quiet b1
  obtain ⟨D3, d1, d2, d3, d4, d5⟩ := c1.quiet
  have lens : ∀ k, k < R.cl.length → (clK (quietR l0 R) k).2.mine.length ≤ 1 := fun k hk => by
    have h := (round_all R.cl.length 0 D0 _ a1 a6 a4 (by rw [a3]; omega)).2.1 k (Nat.zero_le _) (by rw [a3]; exact hk)
    have h3 := (a1.clk (k := k) (by rw [a3]; exact hk)).2.ok.two
    show (clK (quietK l0 R.cl.length 0 (settleR l0 R)) k).2.mine.length ≤ 1
    omega
  have lens2 : ∀ k, k < R.cl.length → (clK (quietR l0 (quietR l0 R)) k).2.mine.length = 0 := fun k hk => by
    have h := (round_all (quietR l0 R).cl.length 0 D1 _ b1 b6 b4 (by omega)).2.1 k (Nat.zero_le _) (by rw [b3]; exact hk)
    have h3 := lens k hk
    have e : quietR l0 (quietR l0 R) = quietK l0 (quietR l0 R).cl.length 0 (quietR l0 R) := by
      show quietK l0 (quietR l0 R).cl.length 0 (settleR l0 (quietR l0 R)) = _
      rw [settleR_nil b4]
    rw [e]; omega
  have hnil : ∀ k, k < R.cl.length → (clK (quietR l0 (quietR l0 R)) k).2.mine = [] := fun k hk => List.eq_nil_of_length_eq_zero (lens2 k hk)
  generalize quietR l0 (quietR l0 R) = R2 at *
  have e : quietR l0 R2 = quietK l0 R2.cl.length 0 R2 := by
    show quietK l0 R2.cl.length 0 (settleR l0 R2) = _
    rw [settleR_nil c4]
  have hlen2 : R2.cl.length = R.cl.length := c3.trans b3
  obtain ⟨_, r2, r3⟩ := round_all R2.cl.length 0 D2 _ c1 c6 c4 (by omega)
  obtain ⟨s1, s2, s3⟩ := r3 fun j _ hj => hnil j (by rw [← hlen2]; exact hj)
  refine ⟨D3, d1, d4, by rw [d3, hlen2], fun k hk => ?_⟩
  have hk2 : k < R2.cl.length := by rw [hlen2]; exact hk
  have hmine : (clK (quietR l0 R2) k).2.mine = [] := by
    have h := r2 k (Nat.zero_le _) hk2
    rw [← e] at h
    rw [hnil k hk] at h
    exact List.eq_nil_of_length_eq_zero (by simpa using h)
  have hrev : (clK (quietR l0 R2) k).2.rev = ((quietR l0 R2).E.length : Int) := by rw [e, s3 k (Nat.zero_le _) hk2, s1]
  obtain ⟨_, hc⟩ := d1.clk (k := k) (by rw [d3]; exact hk2)
  have hseen : (clK (quietR l0 R2) k).2.seen = (quietR l0 R2).t := by
    have h := hc.seen
    rw [hrev, Int.toNat_natCast, d1.docs.last] at h
    exact (Option.some.inj h).symm
  refine ⟨hmine, ?_, hseen, hrev⟩
  rw [hc.ok.doc, hmine, ← hseen]
  rfl
end Go.Proofs.YtedgnlgjmnccgabGreatDoor
