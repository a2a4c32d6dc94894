/-
  server.turn: an operation over what came meanwhile.
-/
import Derived.Test.YtedgnlgjmnccgabGreatDoorSrvOwn
namespace Go.Proofs.YtedgnlgjmnccgabGreatDoor
open Go.RowKit
set_option linter.unusedVariables false
attribute [local go_sem] Oper.semAt_some

/-- An operation without an error over so many bytes. -/
structure okOp (ps : List Pt) (len : Int) : Prop where
  one : ∀ p ∈ ps, oneP p
  put : ∀ p ∈ ps, V p.put
  long : longP ps = len
theorem wts_eqS : ∀ (ps : List Pt), wts ps = longP ps + putsP ps
  | [] => by simp [wts, longP, putsP]
  | p :: ps => by
    have ih := wts_eqS ps
    have e1 : wts (p :: ps) = wtP p + wts ps := by simp [wts]
    have e2 : putsP (p :: ps) = p.put.length + putsP ps := by simp [putsP]
    rw [e1, e2, long_cons, ih]; unfold wtP lenP; omega
theorem len_wtsS : ∀ (ps : List Pt), (∀ p ∈ ps, oneP p) → (ps.length : Int) ≤ wts ps
  | [], _ => by simp [wts]
  | p :: ps, h => by
    have ih := len_wtsS ps fun q hq => h q (by simp [hq])
    have e1 : wts (p :: ps) = wtP p + wts ps := by simp [wts]
    have h1 := length_pos (h p (by simp))
    have e2 : lengthP p = wtP p := rfl
    rw [e1, List.length_cons]; omega
theorem put_le_putsS (p : Pt) : ∀ (qs : List Pt), p ∈ qs → p.put.length ≤ putsP qs
  | [], h => by cases h
  | q :: qs, h => by
    have e : putsP (q :: qs) = q.put.length + putsP qs := by simp [putsP]
    rw [e]
    rcases List.mem_cons.1 h with rfl | h
    · omega
    · have := put_le_putsS p qs h; omega
theorem okOp.fine {ps : List Pt} {len : Int} (h : okOp ps len) (hb : len + putsP ps < 1000000) : fineP ps := by
  have h1 := wts_eqS ps
  have h2 := len_wtsS ps h.one
  have h3 := h.long
  exact ⟨h.one, by omega, by omega⟩
theorem okOp.chk {ps : List Pt} {len : Int} (h : okOp ps len) : chkE ps len = 0 := chk_of h.one h.put h.long
theorem okOp.wf {ps : List Pt} {len : Int} (h : okOp ps len) (hb : len + putsP ps < 1000000) : ∀ p ∈ ps, wfP p := fun p hp => by
  have h1 := one_kind (h.one p hp)
  have h2 := put_le_putsS p ps hp
  have h3 : lenP p ≤ longP ps := by
    have := h.one
    clear hb h2 h1
    revert hp this
    generalize h.long = hl
    clear hl
    intro hp hone
    clear h
    induction ps with
    | nil => cases hp
    | cons q ps ih =>
      rw [long_cons]
      have hq := one_len (hone q (by simp))
      have hr := long_pos (ps := ps) fun x hx => hone x (by simp [hx])
      rcases List.mem_cons.1 hp with rfl | hp
      · omega
      · have := ih hp (fun x hx => hone x (by simp [hx])); omega
  have h4 := h.long
  unfold lenP at h3
  exact ⟨by omega, by omega, by omega, by omega, by omega⟩
theorem okOp.lens {ps : List Pt} {len : Int} (h : okOp ps len) (hb : len + putsP ps < 1000000) : (lensW ps).1 = len := by
  have hs := ones_sound h.one
  have h1 := (lens_plain ps hs (by have := wts_eqS ps; have := h.long; omega)).1
  have h2 := lensU_long ps hs
  rw [h1, spreads_eq]
  have h3 := h.long
  have h4 : ((gapsR [] ps).1.length : Int) = lensU ps := rfl
  rw [h4, h2, h3]
theorem okOp.turn {a b : List Pt} {len : Int} (ha : okOp a len) (hb : okOp b len) (h1 : len + putsP a < 1000000) (h2 : len + putsP b < 1000000) : bothE a b = 0 ∧ turnE a b = 0 := by
  have e1 : bothE a b = 0 := by
    unfold bothE
    rw [ha.lens h1, hb.lens h2, if_pos ha.chk, hb.chk]
  refine ⟨e1, ?_⟩
  unfold turnE
  rw [if_pos e1, if_pos (by rw [ha.lens h1, hb.lens h2])]
theorem okOp.trans {a b : List Pt} {len : Int} (ha : okOp a len) (hb : okOp b len) (h1 : len + putsP a < 1000000) (h2 : len + putsP b < 1000000) : okOp (tellP (transS false a b)) ((b.map isP).sum) ∧ putsP (tellP (transS false a b)) = putsP a := by
  obtain ⟨k1, k2, k3, k4⟩ := trans_inv false (ha.fine h1) (hb.fine h2) ha.put (ha.long.trans hb.long.symm)
  exact ⟨⟨k1, k2, k3⟩, k4⟩
theorem okOp_of_chk {ps : List Pt} {len : Int} (h : chkE ps len = 0) : okOp ps len := by
  obtain ⟨h1, h2, h3⟩ := chk_sound2 h
  exact ⟨fun p hp => one_ofB (h1 p hp).1, fun p hp => V_of_scan (h1 p hp).2, h2⟩

/-- One operation behind the other, from so many bytes on. -/
def chainE : Int → List SE → Prop
  | _, [] => True
  | len, x :: E => okOp x.op len ∧ putsP x.op ≤ 40000 ∧ 0 ≤ (x.op.map isP).sum ∧ (x.op.map isP).sum ≤ 3000 ∧ chainE ((x.op.map isP).sum) E
def endE : Int → List SE → Int
  | len, [] => len
  | _, x :: E => endE ((x.op.map isP).sum) E
def turnS (ps : List Pt) (E : List SE) : List Pt := E.foldl (fun a x => tellP (transS false a x.op)) ps
theorem turnS_ok : ∀ (E : List SE) (ps : List Pt) (len : Int), okOp ps len → putsP ps ≤ 40000 → len ≤ 3000 → chainE len E → okOp (turnS ps E) (endE len E) ∧ putsP (turnS ps E) = putsP ps
  | [], ps, len, h, _, _, _ => ⟨h, rfl⟩
  | x :: E, ps, len, h, hp, hl, hc => by
    obtain ⟨c1, c2, c3, c4, c5⟩ := hc
    obtain ⟨k1, k2⟩ := h.trans c1 (by omega) (by omega)
    obtain ⟨i1, i2⟩ := turnS_ok E _ _ k1 (by omega) c4 c5
    exact ⟨i1, i2.trans k2⟩
theorem turnS_take (ps : List Pt) (E : List SE) (k : Nat) (hk : k < E.length) : turnS ps (E.take (k + 1)) = tellP (transS false (turnS ps (E.take k)) E[k].op) := by
  unfold turnS
  rw [List.take_succ_eq_append_getElem hk, List.foldl_append]
  rfl
theorem chain_at : ∀ (E : List SE) (len : Int) (k : Nat) (hk : k < E.length), chainE len E → len ≤ 3000 → chainE len (E.take k) ∧ okOp E[k].op (endE len (E.take k)) ∧ putsP E[k].op ≤ 40000 ∧ endE len (E.take k) ≤ 3000 ∧ ((0 ≤ len) → 0 ≤ endE len (E.take k))
  | [], _, k, hk, _, _ => by simp at hk
  | x :: E, len, 0, _, h, hl => ⟨trivial, h.1, h.2.1, hl, fun h => h⟩
  | x :: E, len, k + 1, hk, h, hl => by
    obtain ⟨c1, c2, c3, c4, c5⟩ := h
    obtain ⟨i1, i2, i3, i4, i5⟩ := chain_at E _ k (by simpa using hk) c5 c4
    exact ⟨⟨c1, c2, c3, c4, i1⟩, i2, i3, i4, fun _ => i5 c3⟩

/-- A log, or the end of one, that is read. -/
def logAt (lo : Nat) (w : World) (p : Option Addr) (n c : Nat) (E : List SE) : Prop :=
  n = E.length ∧ n ≤ c ∧ c ≤ maxLen ∧ (E ≠ [] → ∃ g o, p = some ⟨g, o, none⟩ ∧ g < w.heap.size ∧ ∀ (i : Nat) (x : SE), E[i]? = some x → ∃ v, w.cell? ⟨g, o + i * 3, none⟩ = some (.int .i64 x.c) ∧ w.cell? ⟨g, o + i * 3 + 1, none⟩ = some (.int .i64 x.i) ∧ w.cell? ⟨g, o + i * 3 + 2, none⟩ = some v ∧ opX lo w v x.op)
theorem logAt_of {e lo base : Nat} {w : World} {p : Option Addr} {n c : Nat} {E : List SE} (h : isLog e lo base w (.slice p n c) E) : logAt lo w p n c E := by
  by_cases hne : E = []
  · subst hne
    obtain ⟨vs, _, ⟨_, hrow⟩, _⟩ := h
    rcases hrow with ⟨hv, _⟩ | ⟨g, cap, cur, hv, _, _, h6, h7, _⟩
    · injection hv with h1 h2 h3
      subst h2 h3
      exact ⟨rfl, Nat.le_refl _, Nat.zero_le _, fun h => absurd rfl h⟩
    · injection hv with h1 h2 h3
      subst h2 h3
      exact ⟨rfl, h6, h7, fun h => absurd rfl h⟩
  · obtain ⟨g, h1, h2, h3, h4, h5, h6⟩ := isLog_at h hne
    exact ⟨h3, h4, h5, fun _ => ⟨g, 0, h1, h2, fun i x hx => by
      obtain ⟨v, k0, k1, k2, k3⟩ := h6 i x hx
      rw [Nat.zero_add]
      exact ⟨v, k0, k1, k2, k3⟩⟩⟩
theorem logAt_below {lo : Nat} {w w' : World} {p : Option Addr} {n c : Nat} {E : List SE} (h : logAt lo w p n c E) (hb : Below w.heap.size w w') : logAt lo w' p n c E := by
  obtain ⟨h1, h2, h3, h4⟩ := h
  refine ⟨h1, h2, h3, fun hne => ?_⟩
  obtain ⟨g, o, k1, k2, k3⟩ := h4 hne
  refine ⟨g, o, k1, Nat.lt_of_lt_of_le k2 hb.size, fun i x hx => ?_⟩
  obtain ⟨v, j0, j1, j2, j3⟩ := k3 i x hx
  exact ⟨v, (hb.cell (p := ⟨g, o + i * 3, none⟩) k2).trans j0, (hb.cell (p := ⟨g, o + i * 3 + 1, none⟩) k2).trans j1, (hb.cell (p := ⟨g, o + i * 3 + 2, none⟩) k2).trans j2, opX_grown j3 hb⟩
/-- The end of a log, as the walk writes it. -/
theorem logAt_cut {lo : Nat} {w : World} {p : Option Addr} {n c m : Nat} {E : List SE} (h : logAt lo w p n c E) (hm : m ≤ n) : logAt lo w (if c = m then p else Option.map (fun x => x.add (m * 3)) p) (n - m) (c - m) (E.drop m) := by
  obtain ⟨rfl, h2, h3, h4⟩ := h
  refine ⟨by rw [List.length_drop], by omega, by omega, fun hne => ?_⟩
  have hlt : m < E.length := by
    rcases Nat.lt_or_ge m E.length with h | h
    · exact h
    · exact absurd (List.drop_eq_nil_of_le h) hne
  obtain ⟨g, o, rfl, k2, k3⟩ := h4 (fun e => by subst e; simp at hlt)
  rw [if_neg (by omega)]
  refine ⟨g, o + m * 3, by simp [Addr.add_lit], k2, fun i x hx => ?_⟩
  rw [List.getElem?_drop] at hx
  obtain ⟨v, j0, j1, j2, j3⟩ := k3 (m + i) x hx
  have e : o + m * 3 + i * 3 = o + (m + i) * 3 := by omega
  rw [e]
  exact ⟨v, j0, j1, j2, j3⟩

set_option maxRecDepth 100000 in
set_option maxHeartbeats 2000000 in
theorem turnSv_any (lo : Nat) (v : Value) (ps : List Pt) (p : Option Addr) (n c : Nat) (E : List SE) (len : Int) (w : World) (hT : Lib.Utf8Tabs 2 3 w) (hr : opAt w v ps) (hE : logAt lo w p n c E) (hok : okOp ps len) (hpu : putsP ps ≤ 40000) (hl0 : 0 ≤ len) (hl : len ≤ 3000) (hch : chainE len E) (hn : n ≤ 1000) :
    Calls Tryz.prog 178 #[v, .slice p n c] w fun e w' => ∃ v', e = .returned (.tuple #[v', .nilIface]) ∧ opN w.heap.size w' v' (turnS ps E) ∧ Below w.heap.size w w' := by
  have hlen : ps.length ≤ 100000 := by have := wts_eqS ps; have := len_wtsS ps hok.one; have := hok.long; omega
  have CO : Hid _ := own_any v ps w hr (fun q hq => by have := put_le_putsS q ps hq; omega) (by omega)
  have HE : Hid (logAt lo w p n c E) := hE
  have HT : Hid _ := hT
  have HCH : Hid (okOp ps len ∧ putsP ps ≤ 40000 ∧ 0 ≤ len ∧ len ≤ 3000 ∧ chainE len E) := ⟨hok, hpu, hl0, hl, hch⟩
  obtain ⟨h1, h2, h3, _⟩ := hE
  have HN : Hid (n = E.length) := h1
  unfold maxLen at h3
  obtain ⟨pv, cv, rfl, _⟩ := hr
  have hni : (n : Int) ≤ 1000 := by omega
  clear hT hok hpu hl0 hl hch h1 hlen
  go_enter Tryz.func178, Tryz.ntmps178
  go_wp2_with (first
    | (go_at_call 116; refine Calls.mono CO.out ?_; rintro e w1 ⟨v1, rfl, ho1, hb1⟩; have HO1 : Hid (opN w.heap.size w1 v1 ps) := opN_own (Nat.le_refl _) ho1; have HB1 : Hid (Below w.heap.size w w1) := hb1; clear ho1 hb1)
    | fail)
  go_loopw [0, 14] (fun v0 i wr => ∃ k : Nat, i = .int .i64 k ∧ k ≤ n ∧ opN w.heap.size wr v0 (turnS ps (E.take k)) ∧ Below w.heap.size w wr) (fun _ i _ => n - (intOf i).toNat)
  case atStart => exact ⟨0, rfl, Nat.zero_le _, HO1.out, HB1.out⟩
  case round =>
    obtain ⟨k, rfl, hk, hop', hbw⟩ := hrel
    obtain ⟨L0, hL0⟩ : ∃ L, (turnS ps (E.take k)).length = L := ⟨_, rfl⟩
    have hop := hop'
    obtain ⟨⟨p0, c0, rfl, _⟩, _⟩ := hop'
    have HOP : Hid (opN w.heap.size wr (.slice p0 (turnS ps (E.take k)).length c0) (turnS ps (E.take k))) := hop
    have HBW : Hid (Below w.heap.size w wr) := hbw
    rw [hL0]
    by_cases hlt : k < n
    · have hkr : k < E.length := by rw [← HN.out]; exact hlt
      have hne : E ≠ [] := by intro e; rw [e] at hkr; exact absurd hkr (Nat.not_lt_zero _)
      have hcell := HE.out.2.2.2
      obtain ⟨g, o, rfl, hg, hcell⟩ := hcell hne
      obtain ⟨ve, f0, f1, f2, f3⟩ := hcell k E[k] (List.getElem?_eq_getElem hkr)
      have g0 := (HBW.out.cell (p := ⟨g, o + k * 3, none⟩) hg).trans f0
      have g1 := (HBW.out.cell (p := ⟨g, o + k * 3 + 1, none⟩) hg).trans f1
      have g2 := (HBW.out.cell (p := ⟨g, o + k * 3 + 2, none⟩) hg).trans f2
      have HX : Hid (opAt wr ve E[k].op) := opAt_below f3.1 HBW.out (Nat.le_refl _)
      have hki : (k : Int) < (n : Int) := by omega
      obtain ⟨c1, c2, c3, c4, c5⟩ := HCH.out
      obtain ⟨t1, t2, t3, t4, t5⟩ := chain_at E len k hkr c5 c4
      obtain ⟨s1, s2⟩ := turnS_ok (E.take k) ps len c1 c2 c4 t1
      have b1 : endE len (E.take k) + putsP (turnS ps (E.take k)) < 1000000 := by omega
      have b2 : endE len (E.take k) + putsP E[k].op < 1000000 := by omega
      obtain ⟨e1, e2⟩ := s1.turn t2 b1 b2
      have HTK : Hid (turnS ps (E.take (k + 1)) = tellP (transS false (turnS ps (E.take k)) E[k].op)) := turnS_take ps E k hkr
      have CT : Hid (∀ wx, Below wr.heap.size wr wx → Calls Tryz.prog 187 #[.slice p0 (turnS ps (E.take k)).length c0, ve, .bool false] wx fun e w' => ∃ v', e = .returned (.tuple #[v', .nilIface]) ∧ opN wx.heap.size w' v' (turnS ps (E.take (k + 1))) ∧ Below wx.heap.size wx w') := fun wx hb => by
        have f1 := s1.fine b1
        have f2 := t2.fine b2
        have := trans_allN _ ve false (turnS ps (E.take k)) E[k].op wx (Go.Proofs.Utf8Tabs_below HT.out (HBW.out.trans (hb.mono HBW.out.size))) (opAt_below HOP.out.1 hb (Nat.le_refl _)) (opAt_below HX.out hb (Nat.le_refl _)) (s1.wf b1) (t2.wf b2) f1.len f2.len fun _ => ⟨f1, f2⟩
        rw [e2, if_pos rfl] at this
        rw [HTK.out]
        exact this
      have hsh : ∃ p c, ve = .slice p E[k].op.length c := by obtain ⟨p, c, e, _⟩ := HX.out; exact ⟨p, c, e⟩
      obtain ⟨pe, ce, rfl⟩ := hsh
      rw [hL0] at CT HOP
      generalize E[k].op.length = L1 at *
      generalize E[k] = x at *
      obtain ⟨xc, xi, xo⟩ := x
      simp only at g0 g1
      clear hcell f0 f1 f2 f3 hne c1 c2 c3 c4 c5 t1 t2 t3 t4 t5 s1 s2 b1 b2 e1 e2 hop hbw
      go_wp2_with (first
        | (go_at_call 187; refine (CT.out _ ((Below.refl _ _).alloc (Nat.le_refl _) _)).mono ?_; rintro e w3 ⟨v3, rfl, ho3, hb3⟩; have HB3 : Hid (Below w.heap.size w w3) := (HBW.out.alloc HBW.out.size _).trans (hb3.mono (by rw [World.size_alloc]; have := HBW.out.size; omega)); have HO3 : Hid (opN w.heap.size w3 v3 (turnS ps (E.take (k + 1)))) := ho3.mono (by rw [World.size_alloc]; have := HBW.out.size; omega); clear hb3 ho3)
        | fail)
      exact ⟨⟨k + 1, by go_num, by omega, HO3.out, HB3.out⟩, by simp [intOf]; omega⟩
    · obtain rfl : k = n := by omega
      have hki : ¬ ((k : Int) < (k : Int)) := by omega
      have HTK : Hid (E.take k = E) := show _ = _ by rw [HN.out]; exact List.take_length
      clear hop hbw
      go_wp2
      go_ret2
      have := HOP.out
      rw [hL0, HTK.out] at this
      exact ⟨_, rfl, this, HBW.out⟩
end Go.Proofs.YtedgnlgjmnccgabGreatDoor
