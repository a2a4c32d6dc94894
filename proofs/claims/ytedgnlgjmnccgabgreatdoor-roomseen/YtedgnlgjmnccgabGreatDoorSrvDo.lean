/-
  server.do.
-/
import Derived.Test.YtedgnlgjmnccgabGreatDoorSrvSmall
import Derived.Test.YtedgnlgjmnccgabGreatDoorOpsApp
namespace Go.Proofs.YtedgnlgjmnccgabGreatDoor
open Go.RowKit Go.Maps
set_option linter.unusedVariables false
attribute [local go_sem] Oper.semAt_some

theorem info_sentry : (Tryz.prog.info? 105).map (fun i => (i.zero, i.size, i.bytes)) = some (some (.agg #[.int .i64 0, .int .i64 0, .slice none 0 0]), 3, 40) := by kernel_rfl
theorem errV_ne {n : Int} (h : n ≠ 0) : errV n = .iface 26 (.int .i64 n) := if_neg h
/-- What comes of it. -/
def doT (l0 : Int) (t : List UInt8) (E : List SE) (rev : Int) (ps : List Pt) : List UInt8 := if doE l0 t E rev ps = 0 then applyP (turnS ps (E.drop rev.toNat)) t else t
def doL (l0 : Int) (t : List UInt8) (E : List SE) (c i rev : Int) (ps : List Pt) : List SE := if doE l0 t E rev ps = 0 then E ++ [⟨c, i, turnS ps (E.drop rev.toNat)⟩] else E
/-- Nothing is done. -/
theorem do_none {lo n : Nat} {w w' : World} {b bm : Nat} {t : List UInt8} {E : List SE} {M : Told} {l0 : Int} {c i rev : Int} {ps : List Pt} (h : isSrv lo n w b bm t E M) (hb : Below w.heap.size w w') (hd : doE l0 t E rev ps ≠ 0) :
    isSrv lo n w' b bm (doT l0 t E rev ps) (doL l0 t E c i rev ps) M ∧ sameBut w w' (touchS lo w bm) := by
  unfold doT doL
  rw [if_neg hd, if_neg hd]
  exact ⟨isSrv_below h hb, sameBut_below hb _⟩

set_option maxHeartbeats 1000000 in
theorem srvDo_range {lo n : Nat} {w : World} {b bm : Nat} {t : List UInt8} {E : List SE} {M : Told} (h : isSrv lo n w b bm t E M) (c i rev : Int) (v : Value) (hr : rev < 0 ∨ (E.length : Int) < rev) :
    Calls Tryz.prog 113 #[.pointer (some ⟨b, 0, none⟩), .int .i64 c, .int .i64 i, .int .i64 rev, v] w fun e w' => e = .returned (errV 2) ∧ Below w.heap.size w w' := by
  obtain ⟨_, _, ⟨v1, h3, h4⟩, _⟩ := h
  obtain ⟨p, c1, rfl⟩ := isLog_shape h4
  have x1 : w.cell? ⟨b, 1, none⟩ = some (.slice p E.length c1) := Lib.cell_of_heap h3 1
  have hV : errV 2 = .iface 26 (.int .i64 2) := rfl
  rw [hV]
  clear h3 h4 hV
  by_cases h0 : rev < 0
  · clear hr
    go_enter Tryz.func113, Tryz.ntmps113
    go_wp2
    go_ret
    exact ⟨rfl, Below.refl _ _⟩
  · have h1 : (E.length : Int) < rev := by omega
    clear hr
    go_enter Tryz.func113, Tryz.ntmps113
    go_wp2
    go_ret
    exact ⟨rfl, Below.refl _ _⟩

set_option maxHeartbeats 1000000 in
theorem srvDo_check {lo n : Nat} {w : World} {b bm : Nat} {t : List UInt8} {E : List SE} {M : Told} (h : isSrv lo n w b bm t E M) {l0 : Int} (hk : okS l0 t E) (c i : Int) (k : Nat) (v : Value) (ps : List Pt) (hT : Lib.Utf8Tabs 2 3 w) (hr : opAt w v ps) (hwf : ∀ p ∈ ps, wfP p) (hl : ps.length ≤ 1000000) (hkl : k ≤ E.length) (hn : E.length < 300) (hc : chkE ps (endE l0 (E.take k)) ≠ 0) :
    Calls Tryz.prog 113 #[.pointer (some ⟨b, 0, none⟩), .int .i64 c, .int .i64 i, .int .i64 (k : Int), v] w fun e w' => e = .returned (errV (chkE ps (endE l0 (E.take k)))) ∧ Below w.heap.size w w' := by
  have CS : Hid _ := srvSize_any lo n w b bm t E M h hk k hkl (by omega)
  have hle := end_take_le E l0 k hk.chain hk.pos hk.top
  have CC : Hid (∀ wx, Below w.heap.size w wx → Calls Tryz.prog 92 #[v, .int .i64 (endE l0 (E.take k))] wx fun e w' => e = .returned (errV (chkE ps (endE l0 (E.take k)))) ∧ Below wx.heap.size wx w') := fun wx hb =>
    Check_any v ps _ wx (Go.Proofs.Utf8Tabs_below hT hb) (opAt_below hr hb (Nat.le_refl _)) hwf (by omega) (by omega)
  obtain ⟨_, _, ⟨v1, h3, h4⟩, _⟩ := h
  obtain ⟨p, c1, rfl⟩ := isLog_shape h4
  have x1 : w.cell? ⟨b, 1, none⟩ = some (.slice p E.length c1) := Lib.cell_of_heap h3 1
  rw [errV_ne hc] at CC ⊢
  have hk0 : ¬ (k : Int) < 0 := by omega
  have hk1 : ¬ (E.length : Int) < (k : Int) := by omega
  have hk2 : ¬ (300 : Int) ≤ (E.length : Int) := by omega
  obtain ⟨pv, cv, rfl, _⟩ := hr
  generalize chkE ps (endE l0 (E.take k)) = X at *
  generalize endE l0 (E.take k) = R at *
  clear h3 h4 hk hT hwf hle hc
  go_enter Tryz.func113, Tryz.ntmps113
  go_wp2_with (first
    | (go_at_call 177; refine Calls.mono CS.out ?_; rintro e w1 ⟨rfl, hb1⟩; have HB1 : Hid (Below w.heap.size w w1) := hb1; clear hb1)
    | (go_at_call 92; refine (CC.out _ HB1.out).mono ?_; rintro e w2 ⟨rfl, hb2⟩; have HB2 : Hid (Below w.heap.size w w2) := HB1.out.trans (hb2.mono HB1.out.size); clear hb2)
    | fail)
  go_ret
  exact ⟨rfl, HB2.out⟩
/-- No room in the log. -/
theorem srvDo_log {lo n : Nat} {w : World} {b bm : Nat} {t : List UInt8} {E : List SE} {M : Told} (h : isSrv lo n w b bm t E M) (c i : Int) (k : Nat) (v : Value) (hkl : k ≤ E.length) (hn : 300 ≤ E.length) (hn2 : E.length ≤ 1000) :
    Calls Tryz.prog 113 #[.pointer (some ⟨b, 0, none⟩), .int .i64 c, .int .i64 i, .int .i64 (k : Int), v] w fun e w' => e = .returned (errV 4) ∧ Below w.heap.size w w' := by
  obtain ⟨_, _, ⟨v1, h3, h4⟩, _⟩ := h
  obtain ⟨p, c1, rfl⟩ := isLog_shape h4
  have x1 : w.cell? ⟨b, 1, none⟩ = some (.slice p E.length c1) := Lib.cell_of_heap h3 1
  have hV : errV 4 = .iface 26 (.int .i64 4) := rfl
  rw [hV]
  have hk0 : ¬ (k : Int) < 0 := by omega
  have hk1 : ¬ (E.length : Int) < (k : Int) := by omega
  have hk2 : (300 : Int) ≤ (E.length : Int) := by omega
  clear h3 h4 hV
  go_enter Tryz.func113, Tryz.ntmps113
  go_wp2
  go_ret
  exact ⟨rfl, Below.refl _ _⟩
/-- The two calls behind the check. -/
def TurnC (w : World) (l0 : Int) (E : List SE) (k : Nat) (p : Option Addr) (c1 : Nat) (v : Value) (ps : List Pt) : Prop := ∀ wx, Below w.heap.size w wx → Calls Tryz.prog 178 #[v, .slice (if c1 = k then p else Option.map (fun x => x.add (k * 3)) p) (E.length - k) (c1 - k)] wx fun e w' => ∃ p' c', e = .returned (.tuple #[.slice p' (turnS ps (E.drop k)).length c', .nilIface]) ∧ opN wx.heap.size w' (.slice p' (turnS ps (E.drop k)).length c') (turnS ps (E.drop k)) ∧ Below wx.heap.size wx w'
def ApplyC (w : World) (t : List UInt8) (q : List Pt) : Prop := ∀ wx v', Below w.heap.size w wx → opAt wx v' q → Calls Tryz.prog 29 #[v', .string ⟨t.toArray⟩] wx fun e w' => e = .returned (.tuple #[.string ⟨(if ordE q t = 0 then applyP q t else []).toArray⟩, errV (ordE q t)]) ∧ Below wx.heap.size wx w'
theorem do_C {lo : Nat} {w : World} {t : List UInt8} {E : List SE} {l0 : Int} (hk : okS l0 t E) (k : Nat) {p : Option Addr} {c1 : Nat} (hlog : logAt lo w p E.length c1 E) {v : Value} {ps : List Pt} (hT : Lib.Utf8Tabs 2 3 w) (hr : opAt w v ps) (hpu : putsP ps ≤ 40000) (hkl : k ≤ E.length) (hn : E.length < 300) (hc : chkE ps (endE l0 (E.take k)) = 0) : TurnC w l0 E k p c1 v ps ∧ ApplyC w t (turnS ps (E.drop k)) := by
  have hle := end_take_le E l0 k hk.chain hk.pos hk.top
  obtain ⟨q1, q2⟩ := do_turned hk hpu hc
  have hrm := hk.room
  have hb1 : (t.length : Int) + putsP (turnS ps (E.drop k)) < 1000000 := by omega
  have hlen := (q1.fine hb1).len
  refine ⟨fun wx hb => ?_, fun wx v' hb ho => Apply_any v' _ t wx (Go.Proofs.Utf8Tabs_below hT hb) ho (q1.wf hb1) (by omega) hlen (by omega)⟩
  refine (turnSv_any lo v ps _ _ _ (E.drop k) (endE l0 (E.take k)) wx (Go.Proofs.Utf8Tabs_below hT hb) (opAt_below hr hb (Nat.le_refl _)) (logAt_cut (logAt_below hlog hb) hkl) (okOp_of_chk hc) hpu hle.1 hle.2 (chain_drop E l0 k hk.chain).1 (by omega)).mono ?_
  rintro e w' ⟨v', rfl, ho, hb'⟩
  obtain ⟨p', c', rfl, _⟩ := ho.1
  exact ⟨p', c', rfl, ho, hb'⟩

/-- What all three ends of it start with. -/
structure DoStart (lo n : Nat) (w : World) (b bm : Nat) (t : List UInt8) (E : List SE) (M : Told) (l0 : Int) (k : Nat) (v : Value) (ps : List Pt) (p : Option Addr) (c1 : Nat) : Prop where
  size : Calls Tryz.prog 177 #[.pointer (some ⟨b, 0, none⟩), .int .i64 k] w fun e w' => e = .returned (.int .i64 (endE l0 (E.take k))) ∧ Below w.heap.size w w'
  check : ∀ wx, Below w.heap.size w wx → Calls Tryz.prog 92 #[v, .int .i64 (endE l0 (E.take k))] wx fun e w' => e = .returned .nilIface ∧ Below wx.heap.size wx w'
  turn : TurnC w l0 E k p c1 v ps
  apply : ApplyC w t (turnS ps (E.drop k))
  block : w.heap[b]? = some (.cells #[.string ⟨t.toArray⟩, .slice p E.length c1, .map (some bm)] 196 (0, 0))
theorem do_start {lo n : Nat} {w : World} {b bm : Nat} {t : List UInt8} {E : List SE} {M : Told} (h : isSrv lo n w b bm t E M) {l0 : Int} (hk : okS l0 t E) (k : Nat) (v : Value) (ps : List Pt) (hT : Lib.Utf8Tabs 2 3 w) (hr : opAt w v ps) (hwf : ∀ p ∈ ps, wfP p) (hl : ps.length ≤ 1000000) (hpu : putsP ps ≤ 40000) (hkl : k ≤ E.length) (hn : E.length < 300) (hc : chkE ps (endE l0 (E.take k)) = 0) :
    ∃ p c1, DoStart lo n w b bm t E M l0 k v ps p c1 ∧ isLog 105 lo lo w (.slice p E.length c1) E := by
  have cs := srvSize_any lo n w b bm t E M h hk k hkl (by omega)
  have hle := end_take_le E l0 k hk.chain hk.pos hk.top
  obtain ⟨_, _, ⟨v1, h3, h4⟩, _⟩ := h
  obtain ⟨p, c1, rfl⟩ := isLog_shape h4
  obtain ⟨k1, k2⟩ := do_C hk k (logAt_of h4) hT hr hpu hkl hn hc
  refine ⟨p, c1, ⟨cs, fun wx hb => ?_, k1, k2, h3⟩, h4⟩
  have := Check_any v ps (endE l0 (E.take k)) wx (Go.Proofs.Utf8Tabs_below hT hb) (opAt_below hr hb (Nat.le_refl _)) hwf (by omega) (by omega)
  rw [hc] at this
  exact this

set_option maxRecDepth 100000 in
set_option maxHeartbeats 2000000 in
theorem srvDo_apply {lo n : Nat} {w : World} {b bm : Nat} {t : List UInt8} {E : List SE} {M : Told} {l0 : Int} (c i : Int) (k : Nat) (v : Value) (ps : List Pt) {p : Option Addr} {c1 : Nat} (hr : opAt w v ps) (hkl : k ≤ E.length) (hn : E.length < 300) (hc1 : E.length ≤ c1) (S : DoStart lo n w b bm t E M l0 k v ps p c1) (ho : ordE (turnS ps (E.drop k)) t ≠ 0) :
    Calls Tryz.prog 113 #[.pointer (some ⟨b, 0, none⟩), .int .i64 c, .int .i64 i, .int .i64 (k : Int), v] w fun e w' => e = .returned (errV (ordE (turnS ps (E.drop k)) t)) ∧ Below w.heap.size w w' := by
  obtain ⟨s1, s2, s3, s4, h3⟩ := S
  have CS : Hid _ := s1
  have CC : Hid (∀ wx, Below w.heap.size w wx → Calls Tryz.prog 92 #[v, .int .i64 (endE l0 (E.take k))] wx fun e w' => e = .returned .nilIface ∧ Below wx.heap.size wx w') := s2
  have CT : Hid (TurnC w l0 E k p c1 v ps) := s3
  have CA : Hid (ApplyC w t (turnS ps (E.drop k))) := s4
  have hbl := (Array.getElem?_eq_some_iff.1 h3).1
  have x0 : w.cell? ⟨b, 0, none⟩ = some (.string ⟨t.toArray⟩) := Lib.cell_of_heap h3 0
  have x1 : w.cell? ⟨b, 1, none⟩ = some (.slice p E.length c1) := Lib.cell_of_heap h3 1
  have HB : Hid (b < w.heap.size) := hbl
  have X0 : Hid (w.cell? ⟨b, 0, none⟩ = some (.string ⟨t.toArray⟩)) := x0
  have X1 : Hid (w.cell? ⟨b, 1, none⟩ = some (.slice p E.length c1)) := x1
  unfold TurnC at CT
  unfold ApplyC at CA
  rw [if_neg ho, errV_ne ho] at CA
  rw [errV_ne ho]
  have hk0 : ¬ (k : Int) < 0 := by omega
  have hk1 : ¬ (E.length : Int) < (k : Int) := by omega
  have hk2 : ¬ (300 : Int) ≤ (E.length : Int) := by omega
  have hk3 : (k : Int) ≤ (E.length : Int) := by omega
  obtain ⟨pv, cv, rfl, _⟩ := hr
  generalize ordE (turnS ps (E.drop k)) t = X at *
  generalize endE l0 (E.take k) = R at *
  generalize turnS ps (E.drop k) = q at *
  obtain ⟨qn, hqn⟩ : ∃ m, q.length = m := ⟨_, rfl⟩
  rw [hqn] at CT
  have en : (ByteArray.mk [].toArray) = ⟨#[]⟩ := rfl
  rw [en] at CA
  clear h3 s1 s2 s3 s4 ho hbl en
  go_enter Tryz.func113, Tryz.ntmps113
  go_wp2_with (first
    | (go_at_call 177; refine Calls.mono CS.out ?_; rintro e w1 ⟨rfl, hb1⟩; have HB1 : Hid (Below w.heap.size w w1) := hb1; clear hb1)
    | (go_at_call 92; refine (CC.out _ HB1.out).mono ?_; rintro e w2 ⟨rfl, hb2⟩; have HB2 : Hid (Below w.heap.size w w2) := HB1.out.trans (hb2.mono HB1.out.size); have y1 : w2.cell? ⟨b, 1, none⟩ = some (.slice p E.length c1) := (HB2.out.cell (p := ⟨b, 1, none⟩) HB.out).trans X1.out; clear hb2)
    | (go_at_call 178; refine (CT.out _ HB2.out).mono ?_; rintro e w3 ⟨p', c', rfl, ho3, hb3⟩; have HO3 : Hid (opAt w3 (.slice p' qn c') q) := ho3.1; have HB3 : Hid (Below w.heap.size w w3) := HB2.out.trans (hb3.mono HB2.out.size); have y0 : w3.cell? ⟨b, 0, none⟩ = some (.string ⟨t.toArray⟩) := (HB3.out.cell (p := ⟨b, 0, none⟩) HB.out).trans X0.out; clear hb3 ho3)
    | (go_at_call 29; refine (CA.out _ _ HB3.out HO3.out).mono ?_; rintro e w4 ⟨rfl, hb4⟩; have HB4 : Hid (Below w.heap.size w w4) := HB3.out.trans (hb4.mono HB3.out.size); clear hb4)
    | fail)
  all_goals
    go_ret
    exact ⟨rfl, HB4.out⟩
end Go.Proofs.YtedgnlgjmnccgabGreatDoor
