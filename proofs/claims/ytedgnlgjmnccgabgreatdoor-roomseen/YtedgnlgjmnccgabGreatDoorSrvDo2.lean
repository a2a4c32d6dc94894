/-
  server.do where its text would be too great, and where it is done.
-/
import Derived.Test.YtedgnlgjmnccgabGreatDoorSrvDo
import Derived.Test.YtedgnlgjmnccgabGreatDoorSrvPush
namespace Go.Proofs.YtedgnlgjmnccgabGreatDoor
open Go.RowKit Go.Maps
set_option linter.unusedVariables false
attribute [local go_sem] Oper.semAt_some

theorem entry_one (a b : Int) (p : Option Addr) (n c : Nat) : ∀ u ∈ [Value.int .i64 a, .int .i64 b, .slice p n c], u.oneCell' = true := fun u hu => by
  simp only [List.mem_cons, List.mem_nil_iff, or_false] at hu
  rcases hu with rfl | rfl | rfl <;> rfl
set_option maxRecDepth 100000 in
set_option maxHeartbeats 2000000 in
theorem srvDo_full {lo n : Nat} {w : World} {b bm : Nat} {t : List UInt8} {E : List SE} {M : Told} {l0 : Int} (c i : Int) (k : Nat) (v : Value) (ps : List Pt) {p : Option Addr} {c1 : Nat} (hr : opAt w v ps) (hkl : k ≤ E.length) (hn : E.length < 300) (hc1 : E.length ≤ c1) (S : DoStart lo n w b bm t E M l0 k v ps p c1) (ho : ordE (turnS ps (E.drop k)) t = 0) (hz : 2000 < (applyP (turnS ps (E.drop k)) t).length) :
    Calls Tryz.prog 113 #[.pointer (some ⟨b, 0, none⟩), .int .i64 c, .int .i64 i, .int .i64 (k : Int), v] w fun e w' => e = .returned (errV 12) ∧ Below w.heap.size w w' := by
  obtain ⟨s1, s2, s3, s4, h3⟩ := S
  have CS : Hid _ := s1
  have CC : Hid (∀ wx, Below w.heap.size w wx → Calls Tryz.prog 92 #[v, .int .i64 (endE l0 (E.take k))] wx fun e w' => e = .returned .nilIface ∧ Below wx.heap.size wx w') := s2
  have CT : Hid (TurnC w l0 E k p c1 v ps) := s3
  have CA : Hid (ApplyC w t (turnS ps (E.drop k))) := s4
  have hbl := (Array.getElem?_eq_some_iff.1 h3).1
  have x0 : w.cell? ⟨b, 0, none⟩ = some (.string ⟨t.toArray⟩) := Lib.cell_of_heap h3 0
  have x1 : w.cell? ⟨b, 1, none⟩ = some (.slice p E.length c1) := Lib.cell_of_heap h3 1
  have HB : Hid (b < w.heap.size) := hbl
  have X0 : Hid (w.cell? ⟨b, 0, none⟩ = some (.string ⟨t.toArray⟩)) := x0
  have X1 : Hid (w.cell? ⟨b, 1, none⟩ = some (.slice p E.length c1)) := x1
  unfold TurnC at CT
  unfold ApplyC at CA
  rw [if_pos ho, ho, show errV 0 = .nilIface from rfl] at CA
  have hV : errV 12 = .iface 26 (.int .i64 12) := rfl
  rw [hV]
  have hk0 : ¬ (k : Int) < 0 := by omega
  have hk1 : ¬ (E.length : Int) < (k : Int) := by omega
  have hk2 : ¬ (300 : Int) ≤ (E.length : Int) := by omega
  have hk3 : (k : Int) ≤ (E.length : Int) := by omega
  obtain ⟨pv, cv, rfl, _⟩ := hr
  generalize endE l0 (E.take k) = R at *
  generalize turnS ps (E.drop k) = q at *
  generalize applyP q t = s' at *
  have hz1 : (ByteArray.mk s'.toArray).size = s'.length := by simp [ByteArray.size]
  have hz2 : (2000 : Int) < (s'.length : Int) := by omega
  obtain ⟨qn, hqn⟩ : ∃ m, q.length = m := ⟨_, rfl⟩
  rw [hqn] at CT
  clear h3 s1 s2 s3 s4 ho hbl hV hz
  go_enter Tryz.func113, Tryz.ntmps113
  go_wp2_with (first
    | (go_at_call 177; refine Calls.mono CS.out ?_; rintro e w1 ⟨rfl, hb1⟩; have HB1 : Hid (Below w.heap.size w w1) := hb1; clear hb1)
    | (go_at_call 92; refine (CC.out _ HB1.out).mono ?_; rintro e w2 ⟨rfl, hb2⟩; have HB2 : Hid (Below w.heap.size w w2) := HB1.out.trans (hb2.mono HB1.out.size); have y1 : w2.cell? ⟨b, 1, none⟩ = some (.slice p E.length c1) := (HB2.out.cell (p := ⟨b, 1, none⟩) HB.out).trans X1.out; clear hb2)
    | (go_at_call 178; refine (CT.out _ HB2.out).mono ?_; rintro e w3 ⟨p', c', rfl, ho3, hb3⟩; have HO3 : Hid (opAt w3 (.slice p' qn c') q) := ho3.1; have HB3 : Hid (Below w.heap.size w w3) := HB2.out.trans (hb3.mono HB2.out.size); have y0 : w3.cell? ⟨b, 0, none⟩ = some (.string ⟨t.toArray⟩) := (HB3.out.cell (p := ⟨b, 0, none⟩) HB.out).trans X0.out; clear hb3 ho3)
    | (go_at_call 29; refine (CA.out _ _ HB3.out HO3.out).mono ?_; rintro e w4 ⟨rfl, hb4⟩; have HB4 : Hid (Below w.heap.size w w4) := HB3.out.trans (hb4.mono HB3.out.size); clear hb4)
    | fail)
  all_goals
    go_ret
    exact ⟨rfl, HB4.out⟩
set_option maxRecDepth 100000 in
set_option maxHeartbeats 2000000 in
theorem srvDo_ok {lo n : Nat} {w : World} {b bm : Nat} {t : List UInt8} {E : List SE} {M : Told} {l0 : Int} (c i : Int) (k : Nat) (v : Value) (ps : List Pt) {p : Option Addr} {c1 : Nat} (hr : opAt w v ps) (hkl : k ≤ E.length) (hn : E.length < 300) (hc1 : E.length ≤ c1) (S : DoStart lo n w b bm t E M l0 k v ps p c1) (ho : ordE (turnS ps (E.drop k)) t = 0) (hz : (applyP (turnS ps (E.drop k)) t).length ≤ 2000) (hs : isSrv lo n w b bm t E M) (hlg : isLog 105 lo lo w (.slice p E.length c1) E) :
    Calls Tryz.prog 113 #[.pointer (some ⟨b, 0, none⟩), .int .i64 c, .int .i64 i, .int .i64 (k : Int), v] w fun e w' => e = .returned .nilIface ∧ isSrv lo n w' b bm (applyP (turnS ps (E.drop k)) t) (E ++ [⟨c, i, turnS ps (E.drop k)⟩]) M ∧ sameBut w w' (touchS lo w bm) := by
  obtain ⟨s1, s2, s3, s4, h3⟩ := S
  have CS : Hid _ := s1
  have CC : Hid (∀ wx, Below w.heap.size w wx → Calls Tryz.prog 92 #[v, .int .i64 (endE l0 (E.take k))] wx fun e w' => e = .returned .nilIface ∧ Below wx.heap.size wx w') := s2
  have CT : Hid (TurnC w l0 E k p c1 v ps) := s3
  have CA : Hid (ApplyC w t (turnS ps (E.drop k))) := s4
  have hbl := (Array.getElem?_eq_some_iff.1 h3).1
  have x0 : w.cell? ⟨b, 0, none⟩ = some (.string ⟨t.toArray⟩) := Lib.cell_of_heap h3 0
  have x1 : w.cell? ⟨b, 1, none⟩ = some (.slice p E.length c1) := Lib.cell_of_heap h3 1
  have HB : Hid (b < w.heap.size) := hbl
  have X0 : Hid (w.cell? ⟨b, 0, none⟩ = some (.string ⟨t.toArray⟩)) := x0
  have X1 : Hid (w.cell? ⟨b, 1, none⟩ = some (.slice p E.length c1)) := x1
  unfold TurnC at CT
  unfold ApplyC at CA
  rw [if_pos ho, ho, show errV 0 = .nilIface from rfl] at CA
  have hk0 : ¬ (k : Int) < 0 := by omega
  have hk1 : ¬ (E.length : Int) < (k : Int) := by omega
  have hk2 : ¬ (300 : Int) ≤ (E.length : Int) := by omega
  have hk3 : (k : Int) ≤ (E.length : Int) := by omega
  obtain ⟨i0, hi, hq0, hq1, hq2⟩ := info_parts info_sentry
  have PUSH : Hid (∀ (q : List Pt) (s' : List UInt8) w4 v', Below w.heap.size w w4 → opX lo w4 v' q → w4.frozen? ⟨b, 0, none⟩ = false ∧ (w4.setCell ⟨b, 0, none⟩ (.string ⟨s'.toArray⟩)).cell? ⟨b, 1, none⟩ = some (.slice p E.length c1) ∧ ∃ vs, vs.length = E.length ∧ ((w4.setCell ⟨b, 0, none⟩ (.string ⟨s'.toArray⟩)).alloc (.cells #[.int .i64 c, .int .i64 i, v'] 105)).ownsRow lo 105 3 (.slice p E.length c1) E.length (logC E vs) ∧ ∀ w6 v2, w6.ownsRow lo 105 3 v2 (E.length + 1) (logC E vs ++ [.int .i64 c, .int .i64 i, v']) → ((w4.setCell ⟨b, 0, none⟩ (.string ⟨s'.toArray⟩)).alloc (.cells #[.int .i64 c, .int .i64 i, v'] 105)).grownBy w6 (Value.slice p E.length c1).ownBlock →
      w6.cell? ⟨b, 1, none⟩ = some (.slice p E.length c1) ∧ w6.frozen? ⟨b, 1, none⟩ = false ∧ isSrv lo n (w6.setCell ⟨b, 1, none⟩ v2) b bm s' (E ++ [⟨c, i, q⟩]) M ∧ sameBut w (w6.setCell ⟨b, 1, none⟩ v2) (touchS lo w bm)) := fun q s' w4 v' hb4 hx => by
    obtain ⟨g1, g2, _, g4⟩ := hs
    have hb4' : w4.heap[b]? = some (.cells #[.string ⟨t.toArray⟩, .slice p E.length c1, .map (some bm)] 196 (0, 0)) := (hb4.block b hbl).trans h3
    obtain ⟨t1, t2, t3⟩ := text_set (e := 105) (by decide) (by decide) g1 hb4' (isLog_below hlg hb4) (.string ⟨s'.toArray⟩)
    obtain ⟨vs, u1, u2, u3⟩ := log_push (x := ⟨c, i, q⟩) (vx := v') (by decide) (by decide) (by decide) g1 t2 t3 (opX_same hx (sameBut_set (S := fun k => k = b) rfl) fun k _ hk => by obtain rfl := hk; exact ⟨g1, noPart_of hb4' (by decide)⟩)
    refine ⟨t1, Lib.cell_of_heap t2 1, vs, u1, u2, fun w6 v2 hn6 hg6 => ?_⟩
    obtain ⟨y1, y2, y3, y4, y5⟩ := u3 w6 v2 hn6 hg6
    have hS : sameBut w (w6.setCell ⟨b, 1, none⟩ v2) (fun k => k = b ∨ (Value.slice p E.length c1).ownBlock = some k) := ((sameBut_below hb4 _).comp (sameBut_set (S := fun k => k = b ∨ (Value.slice p E.length c1).ownBlock = some k) (.inl rfl)) fun k _ h => h).comp y5 fun k _ h => h
    have hcell : ∀ k, (k = b ∨ (Value.slice p E.length c1).ownBlock = some k) → lo ≤ k ∧ ∃ cs T, w.heap[k]? = some (.cells cs T (0, 0)) ∧ (T = 196 ∨ T = 105) := fun k hk => by
      rcases hk with rfl | hk
      · exact ⟨g1, _, _, h3, .inl rfl⟩
      · obtain ⟨a1, _, cs, a2⟩ := log_own hlg hk
        exact ⟨a1, cs, _, a2, .inr rfl⟩
    refine ⟨y1, y2, ⟨g1, g2, ⟨v2, y3, y4⟩, isLast_but g4 hS fun hk => ?_⟩, hS.mono fun k _ hk => ⟨(hcell k hk).1, .inr (hcell k hk).2⟩⟩
    obtain ⟨_, cs, T, hc, _⟩ := hcell bm hk
    exact noCells_map g4 _ _ _ hc
  obtain ⟨pv, cv, rfl, _⟩ := hr
  generalize endE l0 (E.take k) = R at *
  generalize turnS ps (E.drop k) = q at *
  generalize applyP q t = s' at *
  have hz1 : (ByteArray.mk s'.toArray).size = s'.length := by simp [ByteArray.size]
  have hz2 : ¬ (2000 : Int) < (s'.length : Int) := by omega
  obtain ⟨qn, hqn⟩ : ∃ m, q.length = m := ⟨_, rfl⟩
  rw [hqn] at CT
  have HLO : Hid (lo ≤ b) := hs.1
  clear h3 s1 s2 s3 s4 ho hbl hz hs hlg
  go_enter Tryz.func113, Tryz.ntmps113
  go_wp2_with (first
    | (go_at_call 177; refine Calls.mono CS.out ?_; rintro e w1 ⟨rfl, hb1⟩; have HB1 : Hid (Below w.heap.size w w1) := hb1; clear hb1)
    | (go_at_call 92; refine (CC.out _ HB1.out).mono ?_; rintro e w2 ⟨rfl, hb2⟩; have HB2 : Hid (Below w.heap.size w w2) := HB1.out.trans (hb2.mono HB1.out.size); have y1 : w2.cell? ⟨b, 1, none⟩ = some (.slice p E.length c1) := (HB2.out.cell (p := ⟨b, 1, none⟩) HB.out).trans X1.out; clear hb2)
    | (go_at_call 178; refine (CT.out _ HB2.out).mono ?_; rintro e w3 ⟨p', c', rfl, ho3, hb3⟩; have HO3 : Hid (opAt w3 (.slice p' qn c') q) := ho3.1; have HX3 : Hid (opX lo w3 (.slice p' qn c') q) := opX_of_new ho3; have HB3 : Hid (Below w.heap.size w w3) := HB2.out.trans (hb3.mono HB2.out.size); have y0 : w3.cell? ⟨b, 0, none⟩ = some (.string ⟨t.toArray⟩) := (HB3.out.cell (p := ⟨b, 0, none⟩) HB.out).trans X0.out; clear hb3 ho3)
    | (go_at_call 29; refine (CA.out _ _ HB3.out HO3.out).mono ?_; rintro e w4 ⟨rfl, hb4⟩; have HB4 : Hid (Below w.heap.size w w4) := HB3.out.trans (hb4.mono HB3.out.size); obtain ⟨zf, z1, vs, z2, z3, z4⟩ := PUSH.out q s' w4 _ HB4.out (opX_grown HX3.out hb4); have Z3 : Hid _ := z3; have Z4 : Hid _ := z4; have z0 : w4.cell? ⟨b, 0, none⟩ = some (.string ⟨t.toArray⟩) := (HB4.out.cell (p := ⟨b, 0, none⟩) HB.out).trans X0.out; have HLS : Hid (lo ≤ b ∧ b < w4.heap.size) := ⟨HLO.out, Nat.lt_of_lt_of_le HB.out HB4.out.size⟩; clear hb4 z3 z4)
    | (at_builtin; refine wpList_append_own _ rfl _ _ 87 rfl lo 105 i0 (.agg #[.int .i64 0, .int .i64 0, .slice none 0 0]) 3 40 Tryz.underlying87 hi hq0 hq1 hq2 rfl (by decide) _ _ _ rfl Z3.out ⟨w4.heap.size, 0, none⟩ 1 1 [.int .i64 c, .int .i64 i, .slice p' qn c'] rfl rfl (cells_newS _ _ (by first | rfl | simp) _ _) (entry_one _ _ _ _ _) (by unfold maxLen; omega) (by omega) (by have := HLS.out; simp; omega) ?_)
    | fail)
  all_goals
    intro v2 w6 hown' hg' _
    have hg2 : ((w4.setCell ⟨b, 0, none⟩ (.string ⟨s'.toArray⟩)).alloc (.cells #[.int .i64 c, .int .i64 i, .slice p' qn c'] 105)).grownBy w6 (Value.slice p E.length c1).ownBlock := by
      first
        | exact hg'
        | (have e : c1 = k := by assumption
           rw [e]; exact hg')
    obtain ⟨y1, y2, y3, y4⟩ := Z4.out w6 v2 hown' hg2
    have Y3 : Hid _ := y3
    have Y4 : Hid _ := y4
    obtain ⟨p6, c6, rfl⟩ := own_slice hown'
    clear hown' hg' hg2 y3 y4
    go_wp2
    go_ret
    exact ⟨rfl, Y3.out, Y4.out⟩
end Go.Proofs.YtedgnlgjmnccgabGreatDoor
