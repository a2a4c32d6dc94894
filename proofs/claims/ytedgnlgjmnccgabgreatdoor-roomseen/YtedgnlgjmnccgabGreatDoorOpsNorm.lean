/-
  ops.Norm of any operation that is not too great: its least form.
-/
import Derived.Test.YtedgnlgjmnccgabGreatDoorOpsAdd
namespace Go.Proofs.YtedgnlgjmnccgabGreatDoor
open Go.RowKit
set_option linter.unusedVariables false

/-- The slice v reads as the parts ps. -/
def opAt (w : World) (v : Value) (ps : List Pt) : Prop :=
  ∃ p c, v = .slice p ps.length c ∧ ps.length ≤ c ∧ c ≤ maxLen ∧ (ps ≠ [] → ∃ b o, p = some ⟨b, o, none⟩ ∧ b < w.heap.size ∧ ∀ i q, ps[i]? = some q →
    w.cell? ⟨b, o + i * 3, none⟩ = some (.int .i64 q.keep) ∧ w.cell? ⟨b, o + i * 3 + 1, none⟩ = some (.int .i64 q.drop) ∧ w.cell? ⟨b, o + i * 3 + 2, none⟩ = some (.string ⟨q.put.toArray⟩))
theorem opAt_below {w w' : World} {v : Value} {ps : List Pt} (h : opAt w v ps) {B : Nat} (hb : Below B w w') (hB : w.heap.size ≤ B) : opAt w' v ps := by
  obtain ⟨p, c, rfl, h1, h2, h3⟩ := h
  refine ⟨p, c, rfl, h1, h2, fun hne => ?_⟩
  obtain ⟨b, o, e1, e2, e3⟩ := h3 hne
  refine ⟨b, o, e1, Nat.lt_of_lt_of_le e2 hb.size, fun i q hi => ?_⟩
  obtain ⟨f1, f2, f3⟩ := e3 i q hi
  exact ⟨(hb.cell (p := ⟨b, o + i * 3, none⟩) (Nat.lt_of_lt_of_le e2 hB)).trans f1, (hb.cell (p := ⟨b, o + i * 3 + 1, none⟩) (Nat.lt_of_lt_of_le e2 hB)).trans f2, (hb.cell (p := ⟨b, o + i * 3 + 2, none⟩) (Nat.lt_of_lt_of_le e2 hB)).trans f3⟩

theorem cellsP_get (ps : List Pt) (i : Nat) (q : Pt) (hi : ps[i]? = some q) : ∀ j, j < 3 → (cellsP ps)[i * 3 + j]? = (partCells q)[j]? := by
  induction ps generalizing i with
  | nil => simp at hi
  | cons p ps ih =>
    intro j hj
    have e : cellsP (p :: ps) = partCells p ++ cellsP ps := rfl
    have hl : (partCells p).length = 3 := rfl
    rw [e]
    cases i with
    | zero =>
      simp only [List.getElem?_cons_zero, Option.some.injEq] at hi
      subst hi
      rw [Nat.zero_mul, Nat.zero_add, List.getElem?_append_left (by rw [hl]; exact hj)]
    | succ i =>
      rw [List.getElem?_append_right (by rw [hl]; omega), hl, ← ih i (by simpa using hi) j hj]
      congr 1
      omega

/-- A row of parts reads as them. -/
theorem opAt_own {w : World} {B : Nat} {v : Value} {ps : List Pt} (h : w.ownsRow B 50 3 v ps.length (cellsP ps)) : opAt w v ps := by
  have h' := h
  rcases h.2 with ⟨rfl, h2⟩ | ⟨g, cap, cur, rfl, h2, h3, h4, h5, h6, h7⟩
  · obtain rfl : ps = [] := List.eq_nil_of_length_eq_zero h2
    exact ⟨none, 0, rfl, Nat.le_refl _, Nat.zero_le _, fun h => absurd rfl h⟩
  · refine ⟨_, cap, rfl, h4, h5, fun _ => ⟨g, 0, rfl, (Array.getElem?_eq_some_iff.1 h3).1, fun i q hi => ?_⟩⟩
    have hlt := (List.getElem?_eq_some_iff.1 hi).1
    have hc := cellsP_get ps i q hi
    refine ⟨?_, ?_, ?_⟩
    · rw [Nat.zero_add, h'.cellAt _ (by omega)]; exact hc 0 (by omega)
    · rw [Nat.zero_add, h'.cellAt _ (by omega)]; exact hc 1 (by omega)
    · rw [Nat.zero_add, h'.cellAt _ (by omega)]; exact hc 2 (by omega)

/-- .. in new memory, in a row of parts. -/
def opN (B : Nat) (w : World) (v : Value) (ps : List Pt) : Prop := opAt w v ps ∧ ∀ k, v.ownBlock = some k → B ≤ k ∧ ∃ cs fz, w.heap[k]? = some (.cells cs 50 fz)
theorem opN_own {w : World} {B C : Nat} {v : Value} {ps : List Pt} (hB : C ≤ B) (h : w.ownsRow B 50 3 v ps.length (cellsP ps)) : opN C w v ps := by
  refine ⟨opAt_own h, fun k hk => ⟨Nat.le_trans hB (h.lt k hk).1, ?_⟩⟩
  rcases h.2 with ⟨rfl, _⟩ | ⟨g, cap, cur, rfl, _, hg, _⟩
  · cases hk
  · obtain rfl : g = k := Option.some.inj hk
    exact ⟨cur, _, hg⟩
theorem opN_none (B : Nat) (w : World) : opN B w (.slice none 0 0) [] := ⟨⟨none, 0, rfl, Nat.le_refl _, Nat.zero_le _, fun h => absurd rfl h⟩, fun k hk => by cases hk⟩
theorem opN.mono {B C : Nat} {w : World} {v : Value} {ps : List Pt} (h : opN B w v ps) (hB : C ≤ B) : opN C w v ps := ⟨h.1, fun k hk => ⟨Nat.le_trans hB (h.2 k hk).1, (h.2 k hk).2⟩⟩
def soundP (p : Pt) : Prop := 0 ≤ p.keep ∧ 0 ≤ p.drop
def wtP (p : Pt) : Int := p.keep + p.drop + p.put.length
def wts (ps : List Pt) : Int := (ps.map wtP).sum
theorem wts_snoc (ps : List Pt) (p : Pt) : wts (ps ++ [p]) = wts ps + wtP p := by simp [wts]
theorem wts_nonneg {ps : List Pt} (h : ∀ p ∈ ps, soundP p) : 0 ≤ wts ps := by
  induction ps with
  | nil => simp [wts]
  | cons p ps ih =>
    have h1 := h p (List.mem_cons_self ..)
    have h2 := ih fun q hq => h q (List.mem_cons_of_mem _ hq)
    unfold wts at h2 ⊢
    rw [List.map_cons, List.sum_cons]
    unfold soundP at h1
    have : 0 ≤ wtP p := by unfold wtP; omega
    omega
theorem wts_take {ps : List Pt} (h : ∀ p ∈ ps, soundP p) (k : Nat) : wts (ps.take k) ≤ wts ps := by
  have h1 : wts ps = wts (ps.take k) + wts (ps.drop k) := by
    unfold wts
    rw [← List.sum_append, ← List.map_append, List.take_append_drop]
  have h2 := wts_nonneg (ps := ps.drop k) fun q hq => h q (List.mem_of_mem_drop hq)
  omega

/-- What a gathering's numbers are at most. -/
structure Bd (s : NSt) (T : Int) (n : Nat) : Prop where
  put : (s.put.length : Int) ≤ T
  d0 : 0 ≤ s.drop
  dT : s.drop ≤ T
  keep : ∀ q ∈ s.out, 0 ≤ q.keep ∧ q.keep ≤ T
  len : s.out.length ≤ 3 * n
theorem bd0 : Bd nst0 0 0 := ⟨by simp [nst0], by simp [nst0], by simp [nst0], by simp [nst0], by simp [nst0]⟩
theorem Bd.add {s : NSt} {T : Int} {n : Nat} (h : Bd s T n) (p : Pt) (hp : soundP p) : Bd (addP s p) (T + wtP p) (n + 1) := by
  obtain ⟨k, d, q⟩ := p
  obtain ⟨p1, p2⟩ := hp
  obtain ⟨h1, h2, h3, h4, h5⟩ := h
  have hw : wtP ⟨k, d, q⟩ = k + d + q.length := rfl
  have e1 : (0 : Int) ≤ k := p1
  have e2 : (0 : Int) ≤ d := p2
  have hT : 0 ≤ T := Int.le_trans h2 h3
  rw [hw]
  unfold addP
  by_cases hk : k = 0
  · rw [if_pos hk]
    refine ⟨?_, ?_, ?_, ?_, ?_⟩
    · show ((s.put ++ q).length : Int) ≤ _
      rw [List.length_append]
      omega
    · show 0 ≤ s.drop + d; omega
    · show s.drop + d ≤ _; omega
    · intro x hx
      have := h4 x hx
      omega
    · show s.out.length ≤ _; omega
  · rw [if_neg hk]
    obtain ⟨L, hL⟩ : ∃ L, tellP ⟨s.out, s.put ++ q, s.drop + d⟩ = L := ⟨_, rfl⟩
    have hm : ∀ x ∈ L, 0 ≤ x.keep ∧ x.keep ≤ T := by
      intro x hx
      rw [← hL, tellP] at hx
      simp only [List.mem_append] at hx
      rcases hx with hx | hx | hx
      · exact h4 x hx
      · split at hx
        · simp at hx
        · rw [List.mem_singleton.1 hx]; exact ⟨by simp, hT⟩
      · split at hx
        · simp at hx
        · rw [List.mem_singleton.1 hx]; exact ⟨by simp, hT⟩
    have hl : L.length ≤ s.out.length + 2 := by
      rw [← hL, tellP]
      simp only [List.length_append]
      split <;> split <;> simp
    have key : (∀ x ∈ pushKeep L k, 0 ≤ x.keep ∧ x.keep ≤ T + k) ∧ (pushKeep L k).length ≤ L.length + 1 := by
      have hsnoc : (∀ x ∈ L ++ [⟨k, 0, []⟩], 0 ≤ x.keep ∧ x.keep ≤ T + k) ∧ (L ++ [(⟨k, 0, []⟩ : Pt)]).length ≤ L.length + 1 := by
        refine ⟨fun x hx => ?_, by simp⟩
        rcases List.mem_append.1 hx with hx | hx
        · have := hm x hx; omega
        · rw [List.mem_singleton.1 hx]; exact ⟨e1, by show k ≤ _; omega⟩
      unfold pushKeep
      split
      · rename_i q0 hq0
        split
        · rename_i hq1
          have hin : q0 ∈ L := List.mem_of_getLast? hq0
          have := hm q0 hin
          refine ⟨fun x hx => ?_, by simp⟩
          rcases List.mem_append.1 hx with hx | hx
          · have := hm x (List.dropLast_subset _ hx); omega
          · rw [List.mem_singleton.1 hx]; exact ⟨by show 0 ≤ q0.keep + k; omega, by show q0.keep + k ≤ _; omega⟩
        · exact hsnoc
      · exact hsnoc
    rw [hL]
    refine ⟨?_, by simp, ?_, ?_, ?_⟩
    · show ((0 : Nat) : Int) ≤ _; omega
    · show (0 : Int) ≤ _; omega
    · intro x hx
      have := key.1 x hx
      show 0 ≤ x.keep ∧ x.keep ≤ T + (k + d + q.length)
      omega
    · have := key.2
      show (pushKeep L k).length ≤ _
      omega
theorem bds (ps : List Pt) (h : ∀ p ∈ ps, soundP p) : Bd (ps.foldl addP nst0) (wts ps) ps.length := by
  have key : ∀ n, n ≤ ps.length → Bd ((ps.take n).foldl addP nst0) (wts (ps.take n)) n := by
    intro n
    induction n with
    | zero => intro _; exact bd0
    | succ n ih =>
      intro hn
      have := ih (by omega)
      rw [List.take_succ_eq_append_getElem (by omega), List.foldl_append, wts_snoc]
      exact this.add _ (h _ (List.getElem_mem _))
  have := key ps.length (Nat.le_refl _)
  rwa [List.take_length] at this

set_option maxRecDepth 100000 in
set_option maxHeartbeats 2000000 in
theorem Norm_any4 (v : Value) (ps : List Pt) (w : World) (hr : opAt w v ps) (hs : ∀ p ∈ ps, soundP p) (hw : wts ps < 1000000000) (hl : ps.length < 10000000) :
    Calls Tryz.prog 224 #[v] w fun e w' => ∃ v', e = .returned v' ∧ w'.ownsRow w.heap.size 50 3 v' (normP ps).length (cellsP (normP ps)) ∧ Below w.heap.size w w' ∧ w.heap.size + 4 ≤ w'.heap.size := by
  obtain ⟨p, c, rfl, r1, r2, r3⟩ := hr
  obtain ⟨n, hn⟩ : ∃ n, n = ps.length := ⟨_, rfl⟩
  rw [← hn] at r1 hl ⊢
  have HN : Hid (n = ps.length) := hn
  clear hn
  have R3 : Hid (ps ≠ [] → ∃ b o, p = some ⟨b, o, none⟩ ∧ b < w.heap.size ∧ ∀ i q, ps[i]? = some q →
    w.cell? ⟨b, o + i * 3, none⟩ = some (.int .i64 q.keep) ∧ w.cell? ⟨b, o + i * 3 + 1, none⟩ = some (.int .i64 q.drop) ∧ w.cell? ⟨b, o + i * 3 + 2, none⟩ = some (.string ⟨q.put.toArray⟩)) := r3
  have HS : Hid (∀ p ∈ ps, soundP p) := hs
  have HW : Hid (wts ps < 1000000000) := hw
  clear r3 hs hw
  go_enter Tryz.func224, Tryz.ntmps224
  go_wp2_with (first | (go_at_call 222; refine (gather_any w).mono ?_; rintro e w1 ⟨rfl, hG1, hz1, hb1⟩; have HG1 : Hid (gath (w.heap.size + 4) w1 w.heap.size nst0) := hG1 _ _ (Below.refl _ _) (Nat.le_refl _) (by omega); clear hz1; have HB1 : Hid (Below w.heap.size w w1) := hb1; clear hG1 hb1) | fail)
  go_loopw [13] (fun i wr => ∃ (k : Nat), k ≤ n ∧ i = .int .i64 k ∧ gath (w.heap.size + 4) wr w.heap.size ((ps.take k).foldl addP nst0) ∧ Below w.heap.size w wr) (fun i _ => n - (intOf i).toNat)
  case atStart => exact ⟨0, Nat.zero_le _, rfl, HG1.out, HB1.out⟩
  case round =>
    obtain ⟨k, hk, rfl, hg, hwr⟩ := hrel
    by_cases hlt : k < n
    · have hkr : k < ps.length := by rw [← HN.out]; exact hlt
      have hne : ps ≠ [] := by intro e; rw [e] at hkr; exact absurd hkr (Nat.not_lt_zero _)
      obtain ⟨b, o, rfl, hbw, hcell⟩ := R3.out hne
      obtain ⟨c0, c1, c2⟩ := hcell k ps[k] (List.getElem?_eq_getElem hkr)
      have g0 := (hwr.cell (p := ⟨b, o + k * 3, none⟩) hbw).trans c0
      have g1 := (hwr.cell (p := ⟨b, o + k * 3 + 1, none⟩) hbw).trans c1
      have g2 := (hwr.cell (p := ⟨b, o + k * 3 + 2, none⟩) hbw).trans c2
      have hB := bds (ps.take k) fun q hq => HS.out q (List.mem_of_mem_take hq)
      have hB1 := bds (ps.take (k + 1)) fun q hq => HS.out q (List.mem_of_mem_take hq)
      have hT1 := wts_take HS.out (k + 1)
      have hT0 := wts_take HS.out k
      have hT2 := HW.out
      have hsp := HS.out ps[k] (List.getElem_mem _)
      have hts : ps.take (k + 1) = ps.take k ++ [ps[k]] := List.take_succ_eq_append_getElem hkr
      have hlk : (ps.take k).length ≤ k := by rw [List.length_take]; omega
      rw [hts, wts_snoc] at hT1
      have hnx : (ps.take (k + 1)).foldl addP nst0 = addP ((ps.take k).foldl addP nst0) ps[k] := by rw [hts, List.foldl_append]; rfl
      have hwp : wtP ps[k] = ps[k].keep + ps[k].drop + ps[k].put.length := rfl
      have HNX : Hid ((ps.take (k + 1)).foldl addP nst0 = addP ((ps.take k).foldl addP nst0) ps[k]) := hnx
      clear hcell c0 c1 c2 hts hnx hB1
      generalize ps[k] = q at *
      obtain ⟨s, hse⟩ : ∃ s, s = (ps.take k).foldl addP nst0 := ⟨_, rfl⟩
      rw [← hse] at hg hB HNX
      obtain ⟨sp1, sp2⟩ := hsp
      have hsize := hwr.size
      have CA : Hid (∀ wx, Below wr.heap.size wr wx → Calls Tryz.prog 265 #[partV q, .pointer (some ⟨w.heap.size + 1, 0, none⟩), .pointer (some ⟨w.heap.size + 2, 0, none⟩), .pointer (some ⟨w.heap.size + 3, 0, none⟩), .pointer (some ⟨w.heap.size, 0, none⟩)] wx fun e w' => (∃ v, e = .returned v) ∧ gath (w.heap.size + 4) w' w.heap.size (addP s q) ∧ Below w.heap.size wx w') := by
        intro wx hbx
        have h1 := hB.put
        have h2 := hB.d0
        have h3 := hB.dT
        have h5 := hB.len
        exact addO_any w.heap.size s q wx (gath_below hg hbx) (by omega) h2 (by omega) sp2 sp1 (by omega) (fun x hx => by have := hB.keep x hx; omega) (by omega)
      have HWR : Hid (Below w.heap.size w wr) := hwr
      unfold partV at CA
      clear hg hB hT1 hT0 hT2 hlk hwp hse sp1 sp2 hwr HG1 HB1
      go_wp2_with (first | (go_at_call 265; refine (CA.out _ ((Below.refl _ wr).alloc (Nat.le_refl _) _)).mono ?_; rintro e w2 ⟨⟨v2, rfl⟩, hg2, hb2⟩; have HG2 : Hid (gath (w.heap.size + 4) w2 w.heap.size (addP s q)) := hg2; have HB2 : Hid (Below w.heap.size w w2) := (HWR.out.alloc hsize _).trans hb2; clear hg2 hb2) | fail)
      go_roundw
      case rel => exact ⟨k + 1, by omega, by go_num, by rw [HNX.out]; exact HG2.out, HB2.out⟩
      case measure => simp [intOf]; omega
    · have e : ps.take k = ps := List.take_of_length_le (by rw [← HN.out]; omega)
      rw [e] at hg
      have hB := bds ps HS.out
      have hT2 := HW.out
      have cD : Hid (Calls Tryz.prog 266 #[.pointer (some ⟨w.heap.size + 3, 0, none⟩), .pointer (some ⟨w.heap.size, 0, none⟩)] wr fun e w' => ∃ v, e = .returned v ∧ w'.ownsRow (w.heap.size + 4) 50 3 v (normP ps).length (cellsP (normP ps)) ∧ Below w.heap.size wr w') :=
        done_any w.heap.size _ wr hg (by have := hB.len; have := HN.out; omega) (by have := hB.put; omega)
      have hlt4 := gath_lt hg
      clear e hg hB hT2 R3 HS HW HG1 HB1
      go_wp2_with (first | (go_at_call 266; refine cD.out.mono ?_; rintro e w2 ⟨v2, rfl, ho2, hb2⟩) | fail)
      obtain ⟨p2, q2, rfl⟩ := own_slice ho2
      go_ret
      exact ⟨_, rfl, own_mono ho2 (by omega), hwr.trans hb2, by have := hb2.size; omega⟩
end Go.Proofs.YtedgnlgjmnccgabGreatDoor
