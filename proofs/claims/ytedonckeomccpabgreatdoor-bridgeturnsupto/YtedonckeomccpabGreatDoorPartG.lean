/-
  The document's own Turn.
  bridge.To and From, and the document's Turn, of any operation by any units.
  The document's Gather: its closure.
  The document's Gather: gaps in least form.
  rosettalaw.OpsCheck: the law's own walk.
  rosettalaw.BridgeTurns: the law's own walk.
-/
import Derived.Test.YtedonckeomccpabGreatDoorPartE
import Derived.Test.YtedonckeomccpabGreatDoorPartF
import Derived.Laws.EntriesVeiled
import Derived.Test.YtedonckeomccpabGreatDoorPartC
import Derived.Test.YtedonckeomccpabGreatDoorPartB
namespace Go.Proofs.YtedonckeomccpabGreatDoor
open Go.RowKit
set_option linter.unusedVariables false
attribute [local go_sem] Oper.semAt_some

/-- A part that lies in a box. -/
structure Pcell (w : World) (β : Nat) (K D : Int) (U : List UInt8) : Prop where
  c0 : w.cell? ⟨β, 0, none⟩ = some (.int .i64 K)
  c1 : w.cell? ⟨β, 1, none⟩ = some (.int .i64 D)
  c2 : w.cell? ⟨β, 2, none⟩ = some (.string ⟨U.toArray⟩)
  f0 : w.frozen? ⟨β, 0, none⟩ = false
  f1 : w.frozen? ⟨β, 1, none⟩ = false
theorem Pcell.below {w w' : World} {β : Nat} {K D : Int} {U : List UInt8} (h : Pcell w β K D U) (hb : Below w.heap.size w w') : Pcell w' β K D U := by
  have l := World.block_lt_of_cell? w _ h.c0
  exact ⟨cell_on hb h.c0, cell_on hb h.c1, cell_on hb h.c2, (hb.frozen (p := ⟨β, 0, none⟩) l).trans h.f0, (hb.frozen (p := ⟨β, 1, none⟩) l).trans h.f1⟩

set_option maxHeartbeats 1000000 in
theorem refTurn_unit (s : ByteArray) (u v : Int) (val : Value) (hu : ¬ (unitOk u ∧ unitOk v)) (w : World) :
    Calls Tryz.prog 8 #[.string s, .int .i64 u, .int .i64 v, val] w fun e w' => e = .returned (.tuple #[.slice none 0 0, .int .i64 1]) ∧ Below w.heap.size w w' := by
  have cU := fun wx => in_any u 1 3 wx
  have cV := fun wx => in_any v 1 3 wx
  by_cases h1 : unitOk u
  · have h2 : ¬ unitOk v := fun h => hu ⟨h1, h⟩
    rw [(inB_unit u).2 h1] at cU
    rw [Bool.eq_false_iff.2 fun e => h2 ((inB_unit v).1 e)] at cV
    have CU : Hid _ := cU
    have CV : Hid _ := cV
    clear hu h1 h2 cU cV
    go_enter Tryz.func8, Tryz.ntmps8
    go_wp2_with (first
      | (have _ := hfirst; go_at_call 35; refine (CV.out _).mono ?_; rintro e w1 ⟨rfl, hw1⟩; obtain rfl := hw1.symm)
      | (go_at_call 35; refine (CU.out _).mono ?_; rintro e w1 ⟨rfl, hw1⟩; obtain rfl := hw1.symm; have hfirst := trivial)
      | fail)
    go_ret2
    exact ⟨rfl, Below.refl _ _⟩
  · rw [Bool.eq_false_iff.2 fun e => h1 ((inB_unit u).1 e)] at cU
    have CU : Hid _ := cU
    clear hu h1 cU cV
    go_enter Tryz.func8, Tryz.ntmps8
    go_wp2_with (first
      | (go_at_call 35; refine (CU.out _).mono ?_; rintro e w1 ⟨rfl, hw1⟩; obtain rfl := hw1.symm)
      | fail)
    go_ret2
    exact ⟨rfl, Below.refl _ _⟩

set_option maxRecDepth 100000 in
set_option maxHeartbeats 4000000 in
theorem refTurn_chk (s : ByteArray) (rs : List Nat) (u v : Int) (qs : List Pt) (val : Value) (w : World) (hr : ∀ r ∈ rs, isRune r) (he : encs rs = s.data.toList) (hs : s.size < 1000000) (hu : unitOk u) (hv : unitOk v) (ho : opAt w val qs) (hwf : ∀ q ∈ qs, wfP q) (hsm : ∀ q ∈ qs, q.put.length < 100000000) (hl : qs.length ≤ 1000) (hc : chkE qs (by_ u rs) ≠ 0) :
    Calls Tryz.prog 8 #[.string s, .int .i64 u, .int .i64 v, val] w fun e w' => e = .returned (.tuple #[.slice none 0 0, .int .i64 (chkE qs (by_ u rs))]) ∧ Below w.heap.size w w' := by
  have hC1 : C1 rs = s.size := by rw [C1_len, he, ← Lib.size_eq]
  have hu0 : -9223372036854775808 ≤ u ∧ u < 9223372036854775808 := by unfold unitOk at hu; omega
  have hub : by_ u rs ≤ 3000000 := by
    have h2 := C2_le rs; have h3 := C3_le rs
    unfold by_; split <;> (try split) <;> (try split) <;> omega
  have hup := by_pos u rs
  have cU := fun wx => in_any u 1 3 wx
  have cV := fun wx => in_any v 1 3 wx
  rw [(inB_unit u).2 hu] at cU
  rw [(inB_unit v).2 hv] at cV
  have CU : Hid _ := cU
  have CV : Hid _ := cV
  have cC : Hid (∀ wx, Calls Tryz.prog 6 #[.string s] wx fun e w' => e = .returned (.tuple #[cntV rs, .agg #[.int .i64 0, .int .i64 (-1)]]) ∧ Below wx.heap.size wx w') := fun wx => refCount_of s rs hr he (by omega) wx
  have cN : Hid (∀ wx, Calls Tryz.prog 28 #[cntV rs, .int .i64 u] wx fun e w' => e = .returned (.int .i64 (by_ u rs)) ∧ Below wx.heap.size wx w') := fun wx => refIn_any u rs hu0.1 hu0.2 (by omega) wx
  have cK : Hid (∀ wx, Below w.heap.size w wx → Calls Tryz.prog 36 #[val, .int .i64 (by_ u rs)] wx fun e w' => e = .returned (.int .i64 (chkE qs (by_ u rs))) ∧ Below wx.heap.size wx w') := fun wx hb => refCheck_any val qs (by_ u rs) wx (opAt_below ho hb (Nat.le_refl _)) hwf hsm (by omega) (by omega)
  obtain ⟨p, c, rfl, _⟩ := ho
  obtain ⟨E, hE⟩ : ∃ E, chkE qs (by_ u rs) = E := ⟨_, rfl⟩
  rw [hE] at cK hc ⊢
  have hne : (E == 0) = false := beq_eq_false_iff_ne.2 hc
  obtain ⟨Bu, hBu⟩ : ∃ Bu, by_ u rs = Bu := ⟨_, rfl⟩
  rw [hBu] at cN cK
  unfold cntV at cC cN
  clear cU cV hr he hs hu hv hwf hsm hC1 hu0 hub hup hE hBu
  go_enter Tryz.func8, Tryz.ntmps8
  go_wp2_with (first
    | (have _ := hfirst; go_at_call 35; refine (CV.out _).mono ?_; rintro e w1 ⟨rfl, hw1⟩; obtain rfl := hw1.symm)
    | (go_at_call 35; refine (CU.out _).mono ?_; rintro e w1 ⟨rfl, hw1⟩; obtain rfl := hw1.symm; have hfirst := trivial)
    | (go_at_call 6; refine (cC.out _).mono ?_; rintro e w1 ⟨rfl, hb1⟩; have hbx := (Below.refl w1.heap.size w1).alloc (Nat.le_refl _) (.cells #[.int .i64 (C1 rs), .int .i64 (C2 rs), .int .i64 (C3 rs), .int .i64 (C4 rs)] 25); have hby := hbx.alloc hbx.size (.cells #[.int .i64 0, .int .i64 (-1)] 28); have HB1 : Hid (Below w.heap.size w ((w1.alloc (.cells #[.int .i64 (C1 rs), .int .i64 (C2 rs), .int .i64 (C3 rs), .int .i64 (C4 rs)] 25)).alloc (.cells #[.int .i64 0, .int .i64 (-1)] 28))) := hb1.trans (hby.mono hb1.size); clear hb1 hbx hby)
    | (go_at_call 28; refine (cN.out _).mono ?_; rintro e w2 ⟨rfl, hb2⟩; have HB2 : Hid (Below w.heap.size w w2) := HB1.out.trans (hb2.mono HB1.out.size); clear hb2)
    | (go_at_call 36; refine (cK.out _ HB2.out).mono ?_; rintro e w3 ⟨rfl, hb3⟩; have HB3 : Hid (Below w.heap.size w w3) := HB2.out.trans (hb3.mono HB2.out.size); clear hb3)
    | fail)
  go_ret2
  exact ⟨rfl, HB3.out⟩
theorem own_setNe {w : World} {B e size n b o : Nat} {v : Value} {xs : List Value} (h : w.ownsRow B e size v n xs) (hb : ∀ j, v.ownBlock = some j → j < b) (u : Value) : (w.setCell ⟨b, o, none⟩ u).ownsRow B e size v n xs := by
  obtain ⟨h0, hrow⟩ := h
  refine ⟨h0, ?_⟩
  rcases hrow with hn | ⟨g, cap, cur, rfl, hg, hgg, rest⟩
  · exact .inl hn
  · exact .inr ⟨g, cap, cur, rfl, hg, (Below.heap_setCell _ _ _ _ (by show g ≠ b; have := hb g rfl; omega)).trans hgg, rest⟩
theorem pset0 {w : World} {β : Nat} {K D : Int} {U : List UInt8} (h : Pcell w β K D U) (M : Int) : Pcell (w.setCell ⟨β, 0, none⟩ (.int .i64 M)) β M D U := by
  obtain ⟨h0, h1, h2, h3, h4⟩ := h
  refine ⟨?_, ?_, ?_, ?_, ?_⟩ <;> simp [go_sem, h0, h1, h2, h3, h4]
theorem pset1 {w : World} {β : Nat} {K D : Int} {U : List UInt8} (h : Pcell w β K D U) (M : Int) : Pcell (w.setCell ⟨β, 1, none⟩ (.int .i64 M)) β K M U := by
  obtain ⟨h0, h1, h2, h3, h4⟩ := h
  refine ⟨?_, ?_, ?_, ?_, ?_⟩ <;> simp [go_sem, h0, h1, h2, h3, h4]

set_option maxRecDepth 100000 in
set_option maxHeartbeats 8000000 in
theorem refTurn_fine (s : ByteArray) (rs : List Nat) (u v : Int) (qs : List Pt) (val : Value) (w : World) (hr : ∀ r ∈ rs, isRune r) (he : encs rs = s.data.toList) (hs : s.size < 1000000) (hu : unitOk u) (hv : unitOk v) (ho : opAt w val qs) (hwf : ∀ q ∈ qs, wfP q) (hsm : ∀ q ∈ qs, q.put.length < 100000000) (hl : qs.length ≤ 1000) (hc : chkE qs (by_ u rs) = 0) :
    Calls Tryz.prog 8 #[.string s, .int .i64 u, .int .i64 v, val] w fun e w' => ∃ v', e = .returned (.tuple #[v', .int .i64 (turnX rs u v qs)]) ∧ opAt w' v' (turnO rs u v qs) ∧ Below w.heap.size w w' := by
  obtain ⟨hp1, hp2, hp3⟩ := chkE_parts hc
  have hC1 : C1 rs = s.size := by rw [C1_len, he, ← Lib.size_eq]
  have hu0 : -9223372036854775808 ≤ u ∧ u < 9223372036854775808 := by unfold unitOk at hu; omega
  have hv0 : -9223372036854775808 ≤ v ∧ v < 9223372036854775808 := by unfold unitOk at hv; omega
  have hub : ∀ x : Int, by_ x rs ≤ 3000000 := fun x => by
    have h2 := C2_le rs; have h3 := C3_le rs; have h1 := C1_pos rs
    unfold by_; split <;> (try split) <;> (try split) <;> omega
  have hup := by_pos u rs
  have cU := fun wx => in_any u 1 3 wx
  have cV := fun wx => in_any v 1 3 wx
  rw [(inB_unit u).2 hu] at cU
  rw [(inB_unit v).2 hv] at cV
  have CU : Hid _ := cU
  have CV : Hid _ := cV
  have cC : Hid (∀ wx, Calls Tryz.prog 6 #[.string s] wx fun e w' => e = .returned (.tuple #[cntV rs, .agg #[.int .i64 0, .int .i64 (-1)]]) ∧ Below wx.heap.size wx w') := fun wx => refCount_of s rs hr he (by omega) wx
  have cN : Hid (∀ wx, Calls Tryz.prog 28 #[cntV rs, .int .i64 u] wx fun e w' => e = .returned (.int .i64 (by_ u rs)) ∧ Below wx.heap.size wx w') := fun wx => refIn_any u rs hu0.1 hu0.2 (by omega) wx
  have hub1 := hub u
  have cK : Hid (∀ wx, Below w.heap.size w wx → Calls Tryz.prog 36 #[val, .int .i64 (by_ u rs)] wx fun e w' => e = .returned (.int .i64 0) ∧ Below wx.heap.size wx w') := fun wx hb => by
    have := refCheck_any val qs (by_ u rs) wx (opAt_below ho hb (Nat.le_refl _)) hwf hsm (by omega) (by omega)
    rw [hc] at this
    exact this
  have CAH : Hid (∀ a wx, 0 ≤ a → a ≤ by_ u rs → Calls Tryz.prog 37 #[.string s, .int .i64 u, .int .i64 a] wx fun e w' => e = .returned (.tuple #[cntV (if onEdge rs u a then upTo rs u a else []), .int .i64 (if onEdge rs u a then 0 else 10)]) ∧ Below wx.heap.size wx w') := fun a wx h0 h1 => refAhead_any s rs u a hr he hs hu h0 h1 wx
  have CIH : Hid (∀ X wx, C1 X ≤ 100000000 → Calls Tryz.prog 28 #[cntV X, .int .i64 v] wx fun e w' => e = .returned (.int .i64 (by_ v X)) ∧ Below wx.heap.size wx w') := fun X wx h => refIn_any v X hv0.1 hv0.2 h wx
  have HP1 : Hid (∀ p ∈ qs, oneB p = true ∧ (scan p.put).2 = true) := hp1
  have HP2 : Hid (longP qs = by_ u rs) := hp2
  have HP3 : Hid (∀ q ∈ qs, 0 ≤ lenP q) := hp3
  have HUB : Hid (∀ x : Int, by_ x rs ≤ 3000000) := hub
  have HC1 : Hid (C1 rs ≤ 3000000) := by show C1 rs ≤ 3000000; omega
  have HOP : Hid (opAt w val qs) := ho
  obtain ⟨p, c, rfl, r1, r2, r3⟩ := ho
  obtain ⟨n, hn⟩ : ∃ n, qs.length = n := ⟨_, rfl⟩
  have HN : Hid (qs.length = n) := hn
  rw [hn] at r1 hl cK ⊢
  obtain ⟨i0, hi, hz0, hz1, hz2⟩ := info_parts info_part
  obtain ⟨RL, hRL⟩ : ∃ RL : Int, by_ u rs = RL := ⟨_, rfl⟩
  rw [hRL] at cN cK hub1 hup
  have HRL : Hid (by_ u rs = RL) := hRL
  unfold cntV at cC cN
  unfold maxLen at r2
  clear cU cV hr he hs hu hv hwf hsm hC1 hu0 hv0 hub hp1 hp2 hp3 hc hn r3 hRL
  go_enter Tryz.func8, Tryz.ntmps8
  go_wp2_with (first
    | (have _ := hfirst; go_at_call 35; refine (CV.out _).mono ?_; rintro e w1 ⟨rfl, hw1⟩; obtain rfl := hw1.symm)
    | (go_at_call 35; refine (CU.out _).mono ?_; rintro e w1 ⟨rfl, hw1⟩; obtain rfl := hw1.symm; have hfirst := trivial)
    | (go_at_call 6; refine (cC.out _).mono ?_; rintro e w1 ⟨rfl, hb1⟩; have hbx := (Below.refl w1.heap.size w1).alloc (Nat.le_refl _) (.cells #[.int .i64 (C1 rs), .int .i64 (C2 rs), .int .i64 (C3 rs), .int .i64 (C4 rs)] 25); have hby := hbx.alloc hbx.size (.cells #[.int .i64 0, .int .i64 (-1)] 28); have HB1 : Hid (Below w.heap.size w ((w1.alloc (.cells #[.int .i64 (C1 rs), .int .i64 (C2 rs), .int .i64 (C3 rs), .int .i64 (C4 rs)] 25)).alloc (.cells #[.int .i64 0, .int .i64 (-1)] 28))) := hb1.trans (hby.mono hb1.size); clear hb1 hbx hby)
    | (go_at_call 28; refine (cN.out _).mono ?_; rintro e w2 ⟨rfl, hb2⟩; have HB2 : Hid (Below w.heap.size w w2) := HB1.out.trans (hb2.mono HB1.out.size); clear hb2)
    | (go_at_call 36; refine (cK.out _ HB2.out).mono ?_; rintro e w3 ⟨rfl, hb3⟩; have HB3 : Hid (Below w.heap.size w w3) := HB2.out.trans (hb3.mono HB2.out.size); clear hb3)
    | fail)
  clear HB1 HB2 CU CV cC cN cK
  go_loopw [13, 14, 15, 43] (fun v13 v14 v15 i wr => ∃ k : Nat, i = .int .i64 k ∧ v14 = .int .i64 (longP (qs.take k)) ∧ v15 = .int .i64 (by_ v (upTo rs u (longP (qs.take k)))) ∧ ∃ L : List Pt, L.length = k ∧ turnZ rs u v 0 qs = (L ++ (turnZ rs u v (longP (qs.take k)) (qs.drop k)).1, (turnZ rs u v (longP (qs.take k)) (qs.drop k)).2) ∧ k ≤ n ∧ wr.ownsRow w.heap.size 50 3 v13 k (cellsP L) ∧ Below w.heap.size w wr) (fun _ _ _ i _ => n - (intOf i).toNat)
  case atStart =>
    have e1 : longP (qs.take 0) = 0 := by simp [longP]
    refine ⟨0, rfl, by rw [e1], by rw [e1, upTo_zero, by_nil], [], rfl, by rw [e1]; rfl, Nat.zero_le _, World.ownsRow_nil _ _ _ _, HB3.out⟩
  case round =>
    obtain ⟨k, rfl, rfl, rfl, L, hLk, htz, hk, hown, hbw'⟩ := hrel
    obtain ⟨pv, cv, rfl⟩ := own_slice hown
    clear HB3
    by_cases hlt : k < n
    · have hkr : k < qs.length := by rw [HN.out]; exact hlt
      have hne : qs ≠ [] := by intro e; rw [e] at hkr; exact absurd hkr (Nat.not_lt_zero _)
      obtain ⟨p0, c0, hvv, _, _, hcell⟩ := HOP.out
      obtain ⟨b0, o, rfl, hb0, hcell⟩ := hcell hne
      obtain ⟨f0, f1, f2⟩ := hcell k qs[k] (List.getElem?_eq_getElem hkr)
      have g0 := (hbw'.cell (p := ⟨b0, o + k * 3, none⟩) hb0).trans f0
      have g1 := (hbw'.cell (p := ⟨b0, o + k * 3 + 1, none⟩) hb0).trans f1
      have g2 := (hbw'.cell (p := ⟨b0, o + k * 3 + 2, none⟩) hb0).trans f2
      obtain rfl : p = some ⟨b0, o, none⟩ := by injection hvv
      clear hvv hcell f0 f1 f2 hne
      have hqm : qs[k] ∈ qs := List.getElem_mem _
      have hob := (HP1.out _ hqm).1
      have hts : qs.take (k + 1) = qs.take k ++ [qs[k]] := List.take_succ_eq_append_getElem hkr
      have hA1' : longP (qs.take (k + 1)) = longP (qs.take k) + lenP qs[k] := by rw [hts, long_append]; simp [longP]
      have hA0 : 0 ≤ longP (qs.take k) := sum_pos fun q hq => HP3.out q (List.mem_of_mem_take hq)
      have hAN : longP (qs.take (k + 1)) ≤ RL := by
        have e2 : longP qs = longP (qs.take (k + 1)) + longP (qs.drop (k + 1)) := by rw [← long_append, List.take_append_drop]
        have := sum_pos fun q hq => HP3.out q (List.mem_of_mem_drop (i := k + 1) hq)
        have := HP2.out; have := HRL.out
        omega
      have hdk : qs.drop k = qs[k] :: qs.drop (k + 1) := List.drop_eq_getElem_cons hkr
      rw [hdk] at htz
      generalize qs[k] = q at *
      obtain ⟨K, D, U⟩ := q
      obtain ⟨A, hA⟩ : ∃ A, longP (qs.take k) = A := ⟨_, rfl⟩
      rw [hA] at hA1' hA0 htz ⊢
      have hld : lenP ⟨K, D, U⟩ = K + D := rfl
      rw [hld] at hA1'
      have hsnd := (one_sound hob).1
      obtain ⟨s1, s2⟩ := hsnd
      have s1 : 0 ≤ K := s1
      have s2 : 0 ≤ D := s2
      have hRLe := HRL.out
      have hw0 : IntKind.i64.wrap (K + D) = K + D := by rw [IntKind.wrap_i64]; omega
      have hw3 : IntKind.i64.wrap (A + (K + D)) = A + (K + D) := by rw [IntKind.wrap_i64]; omega
      have hj : (k : Int) < (n : Int) := by omega
      have HOP' : Hid ((wr.alloc (.cells #[.int .i64 K, .int .i64 D, .string ⟨U.toArray⟩] 50)).ownsRow w.heap.size 50 3 (.slice pv k cv) k (cellsP L)) := hown.alloc _
      have HLT : Hid (∀ j, (Value.slice pv k cv).ownBlock = some j → j < wr.heap.size) := fun j hj => (hown.lt j hj).2
      have HBP : Hid (Below w.heap.size w (wr.alloc (.cells #[.int .i64 K, .int .i64 D, .string ⟨U.toArray⟩] 50))) := hbw'.alloc hbw'.size _
      have hwlt := hbw'.size
      have hltw : wr.heap.size < (wr.alloc (.cells #[.int .i64 K, .int .i64 D, .string ⟨U.toArray⟩] 50)).heap.size := by simp
      have x0 : (wr.alloc (.cells #[.int .i64 K, .int .i64 D, .string ⟨U.toArray⟩] 50)).cell? ⟨wr.heap.size, 0, none⟩ = some (.int .i64 K) := by simp [go_sem]
      have x1 : (wr.alloc (.cells #[.int .i64 K, .int .i64 D, .string ⟨U.toArray⟩] 50)).cell? ⟨wr.heap.size, 1, none⟩ = some (.int .i64 D) := by simp [go_sem]
      have x2 : (wr.alloc (.cells #[.int .i64 K, .int .i64 D, .string ⟨U.toArray⟩] 50)).cell? ⟨wr.heap.size, 2, none⟩ = some (.string ⟨U.toArray⟩) := by simp [go_sem]
      have xf : (wr.alloc (.cells #[.int .i64 K, .int .i64 D, .string ⟨U.toArray⟩] 50)).frozen? ⟨wr.heap.size, 0, none⟩ = false := by simp [go_sem]
      have xg : (wr.alloc (.cells #[.int .i64 K, .int .i64 D, .string ⟨U.toArray⟩] 50)).frozen? ⟨wr.heap.size, 1, none⟩ = false := by simp [go_sem]
      have cA := CAH.out (A + (K + D)) (wr.alloc (.cells #[.int .i64 K, .int .i64 D, .string ⟨U.toArray⟩] 50)) (by omega) (by omega)
      obtain ⟨h, hh⟩ : ∃ h, by_ v (upTo rs u A) = h := ⟨_, rfl⟩
      by_cases hed : onEdge rs u (A + (K + D)) = true
      · rw [if_pos hed, if_pos hed] at cA
        rw [turnZ, if_pos (by rw [hld]; exact hed)] at htz
        have hXle1 := upTo_le (v := 1) rs (u := u) (a := A + (K + D)) (by omega)
        have hXle := upTo_le (v := v) rs (u := u) (a := A + (K + D)) (by omega)
        have hmono := upTo_mono (u := u) (v := v) rs (a := A) (b := A + (K + D)) (by omega) (by omega)
        have hp0 := by_pos v (upTo rs u A)
        have hHU := HUB.out v
        have hHC := HC1.out
        have hby1 : ∀ y, by_ 1 y = C1 y := fun _ => rfl
        rw [hby1, hby1] at hXle1
        rw [hld] at htz
        obtain ⟨X, hX⟩ : ∃ X, upTo rs u (A + (K + D)) = X := ⟨_, rfl⟩
        rw [hX] at cA htz hXle hXle1 hmono
        have cI := fun wx => CIH.out X wx (by omega)
        obtain ⟨XV, hXV⟩ : ∃ XV, by_ v X = XV := ⟨_, rfl⟩
        rw [hXV] at cI htz hXle hmono
        rw [hh] at htz hmono hp0 ⊢
        obtain ⟨M, hM⟩ : ∃ M, XV - h = M := ⟨_, rfl⟩
        rw [hM] at htz
        have hwM : IntKind.i64.wrap (XV - h) = M := by rw [IntKind.wrap_i64]; omega
        have HTK0 : Hid (turnZ rs u v 0 qs = ((L ++ [unit1 M ⟨K, D, U⟩]) ++ (turnZ rs u v (longP (qs.take (k + 1))) (qs.drop (k + 1))).1, (turnZ rs u v (longP (qs.take (k + 1))) (qs.drop (k + 1))).2)) := by
          show turnZ rs u v 0 qs = _
          rw [htz, hA1']; simp
        have HA1 : Hid (longP (qs.take (k + 1)) = A + (K + D)) := hA1'
        have HXV : Hid (by_ v (upTo rs u (A + (K + D))) = XV) := by show by_ v (upTo rs u (A + (K + D))) = XV; rw [hX, hXV]
        have HLL : Hid (L.length = k) := hLk
        unfold cntV at cA cI
        have CA : Hid _ := cA
        have CI : Hid _ := cI
        have HOPX := HOP'
        clear hown hbw' htz hA1' hAN hts hqm hkr hXle hXle1 hmono hp0 hHU hHC hby1 hX hXV hh hM hed cA cI hRLe hLk hdk hA HOP
        have HOP := HOP'
        rcases oneB_shapes hob with ⟨o1, o2, o3⟩ | ⟨o1, o2, o3⟩ | ⟨o1, o2, o3⟩
        · replace o1 : 0 < K := o1
          replace o2 : D = 0 := o2
          replace o3 : U = [] := o3
          have hUe : U.isEmpty = true := by rw [o3]; rfl
          have HTK := HTK0
          have e1 : unit1 M ⟨K, D, U⟩ = ⟨M, D, U⟩ := by unfold unit1; rw [if_pos o1]; show (⟨M, 0, []⟩ : Pt) = ⟨M, D, U⟩; rw [o2, o3]
          rw [e1] at HTK
          clear e1 HTK0 o2 o3 s2 hob
          go_wp2_with (first
            | (go_at_call 37; refine Calls.mono CA.out ?_; rintro e w5 ⟨rfl, hb5⟩; have HB5 : Hid (Below w.heap.size w w5) := HBP.out.trans (hb5.mono HBP.out.size); have HO5 : Hid (w5.ownsRow w.heap.size 50 3 (.slice pv k cv) k (cellsP L)) := own_below HOP'.out hb5; have y0 := cell_on hb5 x0; have y1 := cell_on hb5 x1; have y2 := cell_on hb5 x2; have yf := (hb5.frozen (p := ⟨wr.heap.size, 0, none⟩) hltw).trans xf; have yg := (hb5.frozen (p := ⟨wr.heap.size, 1, none⟩) hltw).trans xg; have hba : Below w5.heap.size w5 (w5.alloc (.cells #[.int .i64 (C1 X), .int .i64 (C2 X), .int .i64 (C3 X), .int .i64 (C4 X)] 25)) := (Below.refl _ _).alloc (Nat.le_refl _) _; have HBA : Hid (Below w5.heap.size w5 (w5.alloc (.cells #[.int .i64 (C1 X), .int .i64 (C2 X), .int .i64 (C3 X), .int .i64 (C4 X)] 25))) := hba; have z0 := cell_on hba y0; have z1 := cell_on hba y1; have z2 := cell_on hba y2; have hlt5 : wr.heap.size < w5.heap.size := Nat.lt_of_lt_of_le hltw hb5.size; have HB6 : Hid (Below w.heap.size w (w5.alloc (.cells #[.int .i64 (C1 X), .int .i64 (C2 X), .int .i64 (C3 X), .int .i64 (C4 X)] 25))) := HB5.out.alloc HB5.out.size _; have HO6 : Hid ((w5.alloc (.cells #[.int .i64 (C1 X), .int .i64 (C2 X), .int .i64 (C3 X), .int .i64 (C4 X)] 25)).ownsRow w.heap.size 50 3 (.slice pv k cv) k (cellsP L)) := HO5.out.alloc _; have HCX : Hid (counted (w5.alloc (.cells #[.int .i64 (C1 X), .int .i64 (C2 X), .int .i64 (C3 X), .int .i64 (C4 X)] 25)) w5.heap.size (C1 X) (C2 X) (C3 X) (C4 X)) := counted_new w5 _ _ _ _ _; have HY0 : Hid (Pcell w5 wr.heap.size K D U) := ⟨y0, y1, y2, yf, yg⟩; clear hb5)
            | (have _ := HM7; go_at_call 28; refine (CI.out _).mono ?_; rintro e w8 ⟨rfl, hb8⟩; have HB7s : Below w.heap.size w (w7.setCell ⟨wr.heap.size, 0, none⟩ (.int .i64 M)) := HB7.out.setCell (p := ⟨wr.heap.size, 0, none⟩) hwlt _; have HB8 : Hid (Below w.heap.size w w8) := HB7s.trans (hb8.mono HB7s.size); have HO8 : Hid (w8.ownsRow w.heap.size 50 3 (.slice pv k cv) k (cellsP L)) := own_below (own_setNe HO7.out HLT.out _) hb8; obtain ⟨q0, q1, q2, q3, q4⟩ := (pset0 HP7.out M).below hb8; have hs8 := HB8.out.size; clear hb8 HB7s)
            | (go_at_call 28; refine (CI.out _).mono ?_; rintro e w7 ⟨rfl, hb7⟩; have HB7 : Hid (Below w.heap.size w w7) := HB6.out.trans (hb7.mono HB6.out.size); have HO7 : Hid (w7.ownsRow w.heap.size 50 3 (.slice pv k cv) k (cellsP L)) := own_below HO6.out hb7; have HP7 : Hid (Pcell w7 wr.heap.size K D U) := (HY0.out.below HBA.out).below hb7; obtain ⟨n0, n1, n2, n3, n4⟩ := (HY0.out.below HBA.out).below hb7; have hc7 := counted_below HCX.out hb7; obtain ⟨⟨c0', c1', c2', c3'⟩, _⟩ := hc7; have HM7 := trivial; clear hb7)
            | (at_builtin; refine wpList_append_own _ rfl _ _ 23 rfl w.heap.size 50 i0 (.agg #[.int .i64 0, .int .i64 0, .string ⟨#[]⟩]) 3 32 Tryz.underlying23 hi hz0 hz1 hz2 rfl (by decide) _ _ _ rfl (HO8.out.alloc _) ⟨w8.heap.size, 0, none⟩ 1 1 (partCells ⟨M, D, U⟩) rfl rfl (cells_newN _ _ (by first | rfl | simp) _ _) (partCells_one _) (by unfold maxLen; omega) (by omega) (by first | omega | (simp; omega)) ?_)
            | fail)
          intro v' w' hown' hg' _
          obtain ⟨p', c', rfl⟩ := own_slice hown'
          have HB9 : Hid (Below w.heap.size w w') := (HB8.out.alloc HB8.out.size _).grown hg' (by simp; omega) fun k hk => (HO8.out.lt k hk).1
          have HO9 : Hid (w'.ownsRow w.heap.size 50 3 (.slice p' (k + 1) c') (k + 1) (cellsP L ++ partCells ⟨M, D, U⟩)) := hown'
          clear hown' hg'
          go_wp2
          go_roundw
          case rel =>
            refine ⟨k + 1, by go_num, HA1.out.symm ▸ rfl, by first | rfl | (rw [HA1.out, HXV.out]), L ++ [⟨M, D, U⟩], by rw [List.length_append, HLL.out]; rfl, HTK.out, by have := HN.out; omega, ?_, HB9.out⟩
            rw [cellsP_snoc]
            exact HO9.out
          case measure => simp [intOf]; omega
        · replace o1 : K = 0 := o1
          replace o2 : 0 < D := o2
          replace o3 : U = [] := o3
          have hUe : U.isEmpty = true := by rw [o3]; rfl
          have HTK := HTK0
          have hK0 : ¬ 0 < K := by omega
          have e1 : unit1 M ⟨K, D, U⟩ = ⟨K, M, U⟩ := by unfold unit1; rw [if_neg (show ¬ 0 < (⟨K, D, U⟩ : Pt).keep from hK0), if_pos o2]; show (⟨0, M, []⟩ : Pt) = ⟨K, M, U⟩; rw [o1, o3]
          rw [e1] at HTK
          clear e1 HTK0 o1 o3 s1 hob
          go_wp2_with (first
            | (go_at_call 37; refine Calls.mono CA.out ?_; rintro e w5 ⟨rfl, hb5⟩; have HB5 : Hid (Below w.heap.size w w5) := HBP.out.trans (hb5.mono HBP.out.size); have HO5 : Hid (w5.ownsRow w.heap.size 50 3 (.slice pv k cv) k (cellsP L)) := own_below HOP'.out hb5; have y0 := cell_on hb5 x0; have y1 := cell_on hb5 x1; have y2 := cell_on hb5 x2; have yf := (hb5.frozen (p := ⟨wr.heap.size, 0, none⟩) hltw).trans xf; have yg := (hb5.frozen (p := ⟨wr.heap.size, 1, none⟩) hltw).trans xg; have hba : Below w5.heap.size w5 (w5.alloc (.cells #[.int .i64 (C1 X), .int .i64 (C2 X), .int .i64 (C3 X), .int .i64 (C4 X)] 25)) := (Below.refl _ _).alloc (Nat.le_refl _) _; have HBA : Hid (Below w5.heap.size w5 (w5.alloc (.cells #[.int .i64 (C1 X), .int .i64 (C2 X), .int .i64 (C3 X), .int .i64 (C4 X)] 25))) := hba; have z0 := cell_on hba y0; have z1 := cell_on hba y1; have z2 := cell_on hba y2; have hlt5 : wr.heap.size < w5.heap.size := Nat.lt_of_lt_of_le hltw hb5.size; have HB6 : Hid (Below w.heap.size w (w5.alloc (.cells #[.int .i64 (C1 X), .int .i64 (C2 X), .int .i64 (C3 X), .int .i64 (C4 X)] 25))) := HB5.out.alloc HB5.out.size _; have HO6 : Hid ((w5.alloc (.cells #[.int .i64 (C1 X), .int .i64 (C2 X), .int .i64 (C3 X), .int .i64 (C4 X)] 25)).ownsRow w.heap.size 50 3 (.slice pv k cv) k (cellsP L)) := HO5.out.alloc _; have HCX : Hid (counted (w5.alloc (.cells #[.int .i64 (C1 X), .int .i64 (C2 X), .int .i64 (C3 X), .int .i64 (C4 X)] 25)) w5.heap.size (C1 X) (C2 X) (C3 X) (C4 X)) := counted_new w5 _ _ _ _ _; have HY0 : Hid (Pcell w5 wr.heap.size K D U) := ⟨y0, y1, y2, yf, yg⟩; clear hb5)
            | (have _ := HM7; go_at_call 28; refine (CI.out _).mono ?_; rintro e w8 ⟨rfl, hb8⟩; have HB7s : Below w.heap.size w (w7.setCell ⟨wr.heap.size, 1, none⟩ (.int .i64 M)) := HB7.out.setCell (p := ⟨wr.heap.size, 1, none⟩) hwlt _; have HB8 : Hid (Below w.heap.size w w8) := HB7s.trans (hb8.mono HB7s.size); have HO8 : Hid (w8.ownsRow w.heap.size 50 3 (.slice pv k cv) k (cellsP L)) := own_below (own_setNe HO7.out HLT.out _) hb8; obtain ⟨q0, q1, q2, q3, q4⟩ := (pset1 HP7.out M).below hb8; have hs8 := HB8.out.size; clear hb8 HB7s)
            | (go_at_call 28; refine (CI.out _).mono ?_; rintro e w7 ⟨rfl, hb7⟩; have HB7 : Hid (Below w.heap.size w w7) := HB6.out.trans (hb7.mono HB6.out.size); have HO7 : Hid (w7.ownsRow w.heap.size 50 3 (.slice pv k cv) k (cellsP L)) := own_below HO6.out hb7; have HP7 : Hid (Pcell w7 wr.heap.size K D U) := (HY0.out.below HBA.out).below hb7; obtain ⟨n0, n1, n2, n3, n4⟩ := (HY0.out.below HBA.out).below hb7; have hc7 := counted_below HCX.out hb7; obtain ⟨⟨c0', c1', c2', c3'⟩, _⟩ := hc7; have HM7 := trivial; clear hb7)
            | (at_builtin; refine wpList_append_own _ rfl _ _ 23 rfl w.heap.size 50 i0 (.agg #[.int .i64 0, .int .i64 0, .string ⟨#[]⟩]) 3 32 Tryz.underlying23 hi hz0 hz1 hz2 rfl (by decide) _ _ _ rfl (HO8.out.alloc _) ⟨w8.heap.size, 0, none⟩ 1 1 (partCells ⟨K, M, U⟩) rfl rfl (cells_newN _ _ (by first | rfl | simp) _ _) (partCells_one _) (by unfold maxLen; omega) (by omega) (by first | omega | (simp; omega)) ?_)
            | fail)
          intro v' w' hown' hg' _
          obtain ⟨p', c', rfl⟩ := own_slice hown'
          have HB9 : Hid (Below w.heap.size w w') := (HB8.out.alloc HB8.out.size _).grown hg' (by simp; omega) fun k hk => (HO8.out.lt k hk).1
          have HO9 : Hid (w'.ownsRow w.heap.size 50 3 (.slice p' (k + 1) c') (k + 1) (cellsP L ++ partCells ⟨K, M, U⟩)) := hown'
          clear hown' hg'
          go_wp2
          go_roundw
          case rel =>
            refine ⟨k + 1, by go_num, HA1.out.symm ▸ rfl, by first | rfl | (rw [HA1.out, HXV.out]), L ++ [⟨K, M, U⟩], by rw [List.length_append, HLL.out]; rfl, HTK.out, by have := HN.out; omega, ?_, HB9.out⟩
            rw [cellsP_snoc]
            exact HO9.out
          case measure => simp [intOf]; omega
        · replace o1 : K = 0 := o1
          replace o2 : D = 0 := o2
          have hUe : U.isEmpty = false := by cases U with | nil => exact absurd rfl o3 | cons x U => rfl
          have HTK := HTK0
          have e1 : unit1 M ⟨K, D, U⟩ = ⟨K, D, U⟩ := by unfold unit1; rw [if_neg (show ¬ 0 < (⟨K, D, U⟩ : Pt).keep by show ¬ 0 < K; omega), if_neg (show ¬ 0 < (⟨K, D, U⟩ : Pt).drop by show ¬ 0 < D; omega)]; show (⟨0, 0, U⟩ : Pt) = ⟨K, D, U⟩; rw [o1, o2]
          rw [e1] at HTK
          clear e1 HTK0 o1 o2 s1 s2 hob
          go_wp2_with (first
            | (go_at_call 37; refine Calls.mono CA.out ?_; rintro e w5 ⟨rfl, hb5⟩; have HB5 : Hid (Below w.heap.size w w5) := HBP.out.trans (hb5.mono HBP.out.size); have HO5 : Hid (w5.ownsRow w.heap.size 50 3 (.slice pv k cv) k (cellsP L)) := own_below HOP'.out hb5; have y0 := cell_on hb5 x0; have y1 := cell_on hb5 x1; have y2 := cell_on hb5 x2; have yf := (hb5.frozen (p := ⟨wr.heap.size, 0, none⟩) hltw).trans xf; have yg := (hb5.frozen (p := ⟨wr.heap.size, 1, none⟩) hltw).trans xg; have hba : Below w5.heap.size w5 (w5.alloc (.cells #[.int .i64 (C1 X), .int .i64 (C2 X), .int .i64 (C3 X), .int .i64 (C4 X)] 25)) := (Below.refl _ _).alloc (Nat.le_refl _) _; have HBA : Hid (Below w5.heap.size w5 (w5.alloc (.cells #[.int .i64 (C1 X), .int .i64 (C2 X), .int .i64 (C3 X), .int .i64 (C4 X)] 25))) := hba; have z0 := cell_on hba y0; have z1 := cell_on hba y1; have z2 := cell_on hba y2; have hlt5 : wr.heap.size < w5.heap.size := Nat.lt_of_lt_of_le hltw hb5.size; have HB6 : Hid (Below w.heap.size w (w5.alloc (.cells #[.int .i64 (C1 X), .int .i64 (C2 X), .int .i64 (C3 X), .int .i64 (C4 X)] 25))) := HB5.out.alloc HB5.out.size _; have HO6 : Hid ((w5.alloc (.cells #[.int .i64 (C1 X), .int .i64 (C2 X), .int .i64 (C3 X), .int .i64 (C4 X)] 25)).ownsRow w.heap.size 50 3 (.slice pv k cv) k (cellsP L)) := HO5.out.alloc _; have HCX : Hid (counted (w5.alloc (.cells #[.int .i64 (C1 X), .int .i64 (C2 X), .int .i64 (C3 X), .int .i64 (C4 X)] 25)) w5.heap.size (C1 X) (C2 X) (C3 X) (C4 X)) := counted_new w5 _ _ _ _ _; have HY0 : Hid (Pcell w5 wr.heap.size K D U) := ⟨y0, y1, y2, yf, yg⟩; clear hb5)
            | (go_at_call 28; refine (CI.out _).mono ?_; rintro e w8 ⟨rfl, hb8⟩; have HB8 : Hid (Below w.heap.size w w8) := HB6.out.trans (hb8.mono HB6.out.size); have HO8 : Hid (w8.ownsRow w.heap.size 50 3 (.slice pv k cv) k (cellsP L)) := own_below HO6.out hb8; have q0 := cell_on hb8 z0; have q1 := cell_on hb8 z1; have q2 := cell_on hb8 z2; have hs8 := HB8.out.size; clear hb8)
            | (at_builtin; refine wpList_append_own _ rfl _ _ 23 rfl w.heap.size 50 i0 (.agg #[.int .i64 0, .int .i64 0, .string ⟨#[]⟩]) 3 32 Tryz.underlying23 hi hz0 hz1 hz2 rfl (by decide) _ _ _ rfl (HO8.out.alloc _) ⟨w8.heap.size, 0, none⟩ 1 1 (partCells ⟨K, D, U⟩) rfl rfl (cells_newN _ _ (by first | rfl | simp) _ _) (partCells_one _) (by unfold maxLen; omega) (by omega) (by first | omega | (simp; omega)) ?_)
            | fail)
          intro v' w' hown' hg' _
          obtain ⟨p', c', rfl⟩ := own_slice hown'
          have HB9 : Hid (Below w.heap.size w w') := (HB8.out.alloc HB8.out.size _).grown hg' (by simp; omega) fun k hk => (HO8.out.lt k hk).1
          have HO9 : Hid (w'.ownsRow w.heap.size 50 3 (.slice p' (k + 1) c') (k + 1) (cellsP L ++ partCells ⟨K, D, U⟩)) := hown'
          clear hown' hg'
          go_wp2
          go_roundw
          case rel =>
            refine ⟨k + 1, by go_num, HA1.out.symm ▸ rfl, by first | rfl | (rw [HA1.out, HXV.out]), L ++ [⟨K, D, U⟩], by rw [List.length_append, HLL.out]; rfl, HTK.out, by have := HN.out; omega, ?_, HB9.out⟩
            rw [cellsP_snoc]
            exact HO9.out
          case measure => simp [intOf]; omega
      · have hed : onEdge rs u (A + (K + D)) = false := Bool.eq_false_iff.2 hed
        rw [if_neg (by rw [hed]; decide), if_neg (by rw [hed]; decide)] at cA
        rw [turnZ, if_neg (by rw [hld, hed]; decide)] at htz
        have e2 : (turnZ rs u v 0 qs).2 = false := by rw [htz]
        have HRX : Hid (turnX rs u v qs = 10 ∧ turnO rs u v qs = []) := by
          show turnX rs u v qs = 10 ∧ turnO rs u v qs = []
          unfold turnX turnO
          rw [e2]; exact ⟨rfl, rfl⟩
        rw [hh]
        unfold cntV at cA
        have CA : Hid _ := cA
        clear hown hbw' htz hA1' hAN hts hqm hkr hh hed cA hRLe hLk hdk hA e2 hob
        go_wp2_with (first
          | (go_at_call 37; refine Calls.mono CA.out ?_; rintro e w5 ⟨rfl, hb5⟩; have HB5 : Hid (Below w.heap.size w w5) := HBP.out.trans (hb5.mono HBP.out.size); have HB6 : Hid (Below w.heap.size w (w5.alloc (.cells #[.int .i64 (C1 []), .int .i64 (C2 []), .int .i64 (C3 []), .int .i64 (C4 [])] 25))) := HB5.out.alloc HB5.out.size _; clear hb5)
          | fail)
        go_ret2
        refine ⟨.slice none 0 0, ?_, ?_, HB6.out⟩
        · rw [HRX.out.1]; rfl
        · rw [HRX.out.2]; exact ⟨none, 0, rfl, Nat.le_refl _, Nat.zero_le _, fun h => absurd rfl h⟩
    · obtain rfl : k = n := by omega
      have e : qs.drop k = [] := List.drop_of_length_le (by rw [HN.out]; exact Nat.le_refl _)
      rw [e] at htz
      have htz2 : turnZ rs u v 0 qs = (L, true) := by rw [htz]; simp [turnZ]
      have HRX : Hid (turnX rs u v qs = 0 ∧ turnO rs u v qs = L) := by
        show turnX rs u v qs = 0 ∧ turnO rs u v qs = L
        unfold turnX turnO
        rw [htz2]; exact ⟨rfl, rfl⟩
      have HB : Hid (Below w.heap.size w wr) := hbw'
      have hop : opAt wr (.slice pv k cv) L := by
        have := hown
        rw [← hLk] at this ⊢
        exact opAt_own this
      have HOPW : Hid (opAt wr (.slice pv k cv) L) := hop
      clear hop hown e hbw' htz htz2 hLk
      go_wp2
      go_ret2
      refine ⟨.slice pv k cv, ?_, ?_, HB.out⟩
      · rw [HRX.out.1]; rfl
      · rw [HRX.out.2]; exact HOPW.out
end Go.Proofs.YtedonckeomccpabGreatDoor

namespace Go.Proofs.YtedonckeomccpabGreatDoor
open Go.RowKit
set_option linter.unusedVariables false
attribute [local go_sem] Oper.semAt_some

def uB (u : Int) : Bool := decide (u = 1 ∨ u = 2 ∨ u = 3)
theorem uB_iff (u : Int) : uB u = true ↔ unitOk u := by unfold uB unitOk; exact decide_eq_true_iff
def tzE (rs : List Nat) (u v : Int) (qs : List Pt) : Int := if (uB u && uB v) = true then (if chkE qs (by_ u rs) = 0 then turnX rs u v qs else chkE qs (by_ u rs)) else 1
def tzO (rs : List Nat) (u v : Int) (qs : List Pt) : List Pt := if (uB u && uB v) = true then (if chkE qs (by_ u rs) = 0 then turnO rs u v qs else []) else []
theorem opAt_none (w : World) : opAt w (.slice none 0 0) [] := ⟨none, 0, rfl, Nat.le_refl _, Nat.zero_le _, fun h => absurd rfl h⟩
theorem tzO_len (rs : List Nat) (u v : Int) (qs : List Pt) : (tzO rs u v qs).length ≤ qs.length := by
  unfold tzO
  split
  · split
    · unfold turnO
      split
      · exact turnZ_len qs rs u v 0
      · exact Nat.zero_le _
    · exact Nat.zero_le _
  · exact Nat.zero_le _

set_option maxRecDepth 100000 in
set_option maxHeartbeats 2000000 in
theorem turn_unit (b : Nat) (u v : Int) (val : Value) (w : World) (hC : Calls Tryz.prog 77 #[.pointer (some ⟨b, 0, none⟩), .int .i64 u, .int .i64 v, .int .i64 0] w fun e w' => e = .returned (.tuple #[.int .i64 0, errV 1]) ∧ Below w.heap.size w w') :
    Calls Tryz.prog 38 #[.pointer (some ⟨b, 0, none⟩), .int .i64 u, .int .i64 v, val] w fun e w' => e = .returned (.tuple #[.slice none 0 0, errV 1]) ∧ Below w.heap.size w w' := by
  have hV : errV 1 = .iface 26 (.int .i64 1) := rfl
  rw [hV] at hC ⊢
  have CC : Hid _ := hC
  clear hC hV
  go_enter Tryz.func38, Tryz.ntmps38
  go_wp2_with (first
    | (go_at_call 77; refine Calls.mono CC.out ?_; rintro e w1 ⟨rfl, hb1⟩)
    | fail)
  go_ret2
  exact ⟨rfl, hb1⟩
set_option maxRecDepth 100000 in
set_option maxHeartbeats 4000000 in
theorem turn_no (b : Nat) (rs : List Nat) (u v : Int) (qs : List Pt) (val : Value) (w : World) (hu : unitOk u) (hv : unitOk v) (hT : Lib.Utf8Tabs 2 3 w) (hR : isRope w b rs) (hr : opAt w val qs) (hwf : ∀ q ∈ qs, wfP q) (hl : qs.length ≤ 1000) (hz : C1 rs ≤ 1000000) (hbu : by_ u rs ≤ 10000000) (hc : chkE qs (by_ u rs) ≠ 0) :
    Calls Tryz.prog 38 #[.pointer (some ⟨b, 0, none⟩), .int .i64 u, .int .i64 v, val] w fun e w' => e = .returned (.tuple #[.slice none 0 0, errV (chkE qs (by_ u rs))]) ∧ Below w.heap.size w w' := by
  have hup := by_pos u rs
  have cV : Hid (Calls Tryz.prog 77 #[.pointer (some ⟨b, 0, none⟩), .int .i64 u, .int .i64 v, .int .i64 0] w fun e w' => e = .returned (.tuple #[.int .i64 0, .nilIface]) ∧ Below w.heap.size w w') := by
    have := convert_any b rs u v 0 hu hv (Int.le_refl _) (by_pos u rs) w hT hR (by omega) [] (find_zero u rs) (by_nil u)
    rw [by_nil] at this
    exact this
  have cN : Hid (∀ wx, Below w.heap.size w wx → Calls Tryz.prog 18 #[.pointer (some ⟨b, 0, none⟩)] wx fun e w' => e = .returned (cntV rs) ∧ Below wx.heap.size wx w') := fun wx hb => ropecounts_any b rs wx (isRope_below hR hb)
  have cI : Hid (∀ wx, Calls Tryz.prog 17 #[cntV rs, .int .i64 u] wx fun e w' => e = .returned (.int .i64 (by_ u rs)) ∧ Below wx.heap.size wx w') := fun wx => In_any u rs wx
  have hV : errV (chkE qs (by_ u rs)) = .iface 26 (.int .i64 (chkE qs (by_ u rs))) := by unfold errV; rw [if_neg hc]
  have cK : Hid (∀ wx, Below w.heap.size w wx → Calls Tryz.prog 42 #[val, .int .i64 (by_ u rs)] wx fun e w' => e = .returned (.iface 26 (.int .i64 (chkE qs (by_ u rs)))) ∧ Below wx.heap.size wx w') := fun wx hb => by
    have := Check_any val qs (by_ u rs) wx (Go.Proofs.Utf8Tabs_below hT hb) (opAt_below hr hb (Nat.le_refl _)) hwf (by omega) (by omega)
    rw [hV] at this
    exact this
  rw [hV]
  obtain ⟨p, c, rfl, _⟩ := hr
  generalize chkE qs (by_ u rs) = E at *
  generalize by_ u rs = Bu at *
  unfold cntV at cN cI
  clear hT hR hwf hc hV hu hv hz hbu hup
  go_enter Tryz.func38, Tryz.ntmps38
  go_wp2_with (first
    | (go_at_call 77; refine Calls.mono cV.out ?_; rintro e w1 ⟨rfl, hb1⟩; have HB1 : Hid (Below w.heap.size w w1) := hb1; clear hb1)
    | (go_at_call 18; refine (cN.out _ HB1.out).mono ?_; rintro e w2 ⟨rfl, hb2⟩; have HB2 : Hid (Below w.heap.size w w2) := HB1.out.trans (hb2.mono HB1.out.size); clear hb2)
    | (go_at_call 17; refine (cI.out _).mono ?_; rintro e w3 ⟨rfl, hb3⟩; have HB3 : Hid (Below w.heap.size w w3) := HB2.out.trans (hb3.mono HB2.out.size); clear hb3)
    | (go_at_call 42; refine (cK.out _ HB3.out).mono ?_; rintro e w4 ⟨rfl, hb4⟩; have HB4 : Hid (Below w.heap.size w w4) := HB3.out.trans (hb4.mono HB3.out.size); clear hb4)
    | fail)
  go_ret2
  exact ⟨rfl, HB4.out⟩

theorem by_small (rs : List Nat) (h : C1 rs ≤ 1000000) (x : Int) : by_ x rs ≤ 3000000 := by
  have h2 := C2_le rs; have h3 := C3_le rs; have h1 := C1_pos rs
  unfold by_; split <;> (try split) <;> (try split) <;> omega
theorem turn_all (b : Nat) (rs : List Nat) (u v : Int) (qs : List Pt) (val : Value) (w : World) (hT : Lib.Utf8Tabs 2 3 w) (hR : isRope w b rs) (hr : opAt w val qs) (hwf : ∀ q ∈ qs, wfP q) (hl : qs.length ≤ 1000) (hpl : ∀ q ∈ qs, q.put.length ≤ 10000000) (hz : C1 rs ≤ 1000000) :
    Calls Tryz.prog 38 #[.pointer (some ⟨b, 0, none⟩), .int .i64 u, .int .i64 v, val] w fun e w' => ∃ v', e = .returned (.tuple #[v', errV (tzE rs u v qs)]) ∧ opAt w' v' (tzO rs u v qs) ∧ Below w.heap.size w w' := by
  have hbw : b < w.heap.size := by obtain ⟨q, t, h5, _⟩ := hR; exact World.block_lt_of_cell? w _ h5
  unfold tzE tzO
  by_cases hv : unitOk v
  · by_cases hu : unitOk u
    · rw [(uB_iff u).2 hu, (uB_iff v).2 hv, Bool.and_self, if_pos rfl, if_pos rfl]
      by_cases hc : chkE qs (by_ u rs) = 0
      · rw [if_pos hc, if_pos hc]
        exact turnz_chk b rs u v qs val w hu hv hT hR hr hwf hl hpl hz (by have := by_small rs hz u; omega) (by have := by_small rs hz v; omega) hc hbw
      · rw [if_neg hc, if_neg hc]
        exact (turn_no b rs u v qs val w hu hv hT hR hr hwf hl hz (by have := by_small rs hz u; omega) hc).mono fun e w' h => ⟨_, h.1, opAt_none w', h.2⟩
    · have e : uB u = false := Bool.eq_false_iff.2 fun e => hu ((uB_iff u).1 e)
      rw [e, Bool.false_and, if_neg (by decide), if_neg (by decide)]
      exact (turn_unit b u v val w (convert_from b rs u v 0 hv hu w hT hR (by omega))).mono fun e w' h => ⟨_, h.1, opAt_none w', h.2⟩
  · have e : uB v = false := Bool.eq_false_iff.2 fun e => hv ((uB_iff v).1 e)
    rw [e, Bool.and_false, if_neg (by decide), if_neg (by decide)]
    exact (turn_unit b u v val w (convert_to b u v 0 hv w)).mono fun e w' h => ⟨_, h.1, opAt_none w', h.2⟩
set_option maxHeartbeats 1000000 in
theorem to_all (b : Nat) (rs : List Nat) (u : Int) (qs : List Pt) (val : Value) (w : World) (hT : Lib.Utf8Tabs 2 3 w) (hR : isRope w b rs) (hr : opAt w val qs) (hwf : ∀ q ∈ qs, wfP q) (hl : qs.length ≤ 1000) (hpl : ∀ q ∈ qs, q.put.length ≤ 10000000) (hz : C1 rs ≤ 1000000) :
    Calls Tryz.prog 9 #[.pointer (some ⟨b, 0, none⟩), .int .i64 u, val] w fun e w' => ∃ v', e = .returned (.tuple #[v', errV (tzE rs u 1 qs)]) ∧ opAt w' v' (tzO rs u 1 qs) ∧ Below w.heap.size w w' := by
  have cC : Hid _ := turn_all b rs u 1 qs val w hT hR hr hwf hl hpl hz
  obtain ⟨p, c, rfl, _⟩ := hr
  generalize errV (tzE rs u 1 qs) = E at *
  clear hT hR hwf hpl hz
  go_enter Tryz.func9, Tryz.ntmps9
  go_wp2_with (first
    | (go_at_call 38; refine Calls.mono cC.out ?_; rintro e w1 ⟨v1, rfl, h1, hb1⟩; have H1 : Hid _ := h1; clear h1)
    | fail)
  go_ret2
  exact ⟨v1, rfl, H1.out, hb1⟩
set_option maxHeartbeats 1000000 in
theorem from_all (b : Nat) (rs : List Nat) (u : Int) (qs : List Pt) (val : Value) (w : World) (hT : Lib.Utf8Tabs 2 3 w) (hR : isRope w b rs) (hr : opAt w val qs) (hwf : ∀ q ∈ qs, wfP q) (hl : qs.length ≤ 1000) (hpl : ∀ q ∈ qs, q.put.length ≤ 10000000) (hz : C1 rs ≤ 1000000) :
    Calls Tryz.prog 10 #[.pointer (some ⟨b, 0, none⟩), .int .i64 u, val] w fun e w' => ∃ v', e = .returned (.tuple #[v', errV (tzE rs 1 u qs)]) ∧ opAt w' v' (tzO rs 1 u qs) ∧ Below w.heap.size w w' := by
  have cC : Hid _ := turn_all b rs 1 u qs val w hT hR hr hwf hl hpl hz
  obtain ⟨p, c, rfl, _⟩ := hr
  generalize errV (tzE rs 1 u qs) = E at *
  clear hT hR hwf hpl hz
  go_enter Tryz.func10, Tryz.ntmps10
  go_wp2_with (first
    | (go_at_call 38; refine Calls.mono cC.out ?_; rintro e w1 ⟨v1, rfl, h1, hb1⟩; have H1 : Hid _ := h1; clear h1)
    | fail)
  go_ret2
  exact ⟨v1, rfl, H1.out, hb1⟩
theorem refTurn_all (s : ByteArray) (rs : List Nat) (u v : Int) (qs : List Pt) (val : Value) (w : World) (hr : ∀ r ∈ rs, isRune r) (he : encs rs = s.data.toList) (hs : s.size < 1000000) (ho : opAt w val qs) (hwf : ∀ q ∈ qs, wfP q) (hsm : ∀ q ∈ qs, q.put.length < 100000000) (hl : qs.length ≤ 1000) :
    Calls Tryz.prog 8 #[.string s, .int .i64 u, .int .i64 v, val] w fun e w' => ∃ v', e = .returned (.tuple #[v', .int .i64 (tzE rs u v qs)]) ∧ opAt w' v' (tzO rs u v qs) ∧ Below w.heap.size w w' := by
  unfold tzE tzO
  by_cases hu : unitOk u ∧ unitOk v
  · rw [(uB_iff u).2 hu.1, (uB_iff v).2 hu.2, Bool.and_self, if_pos rfl, if_pos rfl]
    by_cases hc : chkE qs (by_ u rs) = 0
    · rw [if_pos hc, if_pos hc]
      exact refTurn_fine s rs u v qs val w hr he hs hu.1 hu.2 ho hwf hsm hl hc
    · rw [if_neg hc, if_neg hc]
      exact (refTurn_chk s rs u v qs val w hr he hs hu.1 hu.2 ho hwf hsm hl hc).mono fun e w' h => ⟨_, h.1, opAt_none w', h.2⟩
  · have e : (uB u && uB v) = false := Bool.eq_false_iff.2 fun e => hu (by rw [Bool.and_eq_true] at e; exact ⟨(uB_iff u).1 e.1, (uB_iff v).1 e.2⟩)
    rw [e, if_neg (by decide), if_neg (by decide)]
    exact (refTurn_unit s u v val hu w).mono fun e w' h => ⟨_, h.1, opAt_none w', h.2⟩
end Go.Proofs.YtedonckeomccpabGreatDoor

namespace Go.Proofs.YtedonckeomccpabGreatDoor
open Go.RowKit
set_option linter.unusedVariables false

/-- The variables of the document's gathering: out in block a, put and drop behind it. -/
structure rgath (w : World) (a : Nat) (s : NSt) : Prop where
  out : ∃ p c, w.cell? ⟨a, 0, none⟩ = some (.slice p s.out.length c) ∧ w.ownsRow (a + 3) 50 3 (.slice p s.out.length c) s.out.length (cellsP s.out)
  outF : w.frozen? ⟨a, 0, none⟩ = false
  put : w.cell? ⟨a + 1, 0, none⟩ = some (.string ⟨s.put.toArray⟩)
  putF : w.frozen? ⟨a + 1, 0, none⟩ = false
  drop : w.cell? ⟨a + 2, 0, none⟩ = some (.int .i64 s.drop)
  dropF : w.frozen? ⟨a + 2, 0, none⟩ = false

theorem rgath_lt {w : World} {a : Nat} {s : NSt} (h : rgath w a s) : a + 2 < w.heap.size := World.block_lt_of_cell? w _ h.drop
theorem rgath_below {w w' : World} {a : Nat} {s : NSt} (h : rgath w a s) (hb : Below w.heap.size w w') : rgath w' a s := by
  have hlt := rgath_lt h
  obtain ⟨⟨p, c, h1, h2⟩, h3, h4, h6, h7, h8⟩ := h
  exact ⟨⟨p, c, (hb.cell (p := ⟨a, 0, none⟩) (by show a < _; omega)).trans h1, own_below h2 hb⟩, (hb.frozen (p := ⟨a, 0, none⟩) (by show a < _; omega)).trans h3,
    (hb.cell (p := ⟨a + 1, 0, none⟩) (by show a + 1 < _; omega)).trans h4, (hb.frozen (p := ⟨a + 1, 0, none⟩) (by show a + 1 < _; omega)).trans h6,
    (hb.cell (p := ⟨a + 2, 0, none⟩) (by show a + 2 < _; omega)).trans h7, (hb.frozen (p := ⟨a + 2, 0, none⟩) (by show a + 2 < _; omega)).trans h8⟩

theorem rgath_push {w w1 : World} {a : Nat} {s : NSt} {p : Option Addr} {c : Nat} {o : Obj} {v' : Value} {q : Pt} (h : rgath w a s) (hc : w.cell? ⟨a, 0, none⟩ = some (.slice p s.out.length c))
    (hown1 : w1.ownsRow (a + 3) 50 3 v' (s.out.length + 1) (cellsP s.out ++ partCells q)) (hg : (w.alloc o).grownBy w1 (Value.slice p s.out.length c).ownBlock) :
    rgath (w1.setCell ⟨a, 0, none⟩ v') a ⟨s.out ++ [q], s.put, s.drop⟩ ∧ Below a w (w1.setCell ⟨a, 0, none⟩ v') ∧ Below (a + 3) w w1 ∧ w1.cell? ⟨a, 0, none⟩ = some (.slice p s.out.length c) ∧ w1.frozen? ⟨a, 0, none⟩ = false := by
  have hlt := rgath_lt h
  obtain ⟨⟨p1, c1, h1, h2⟩, h3, h4, h6, h7, h8⟩ := h
  rw [hc] at h1
  simp only [Option.some.injEq, Value.slice.injEq, true_and] at h1
  obtain ⟨rfl, rfl⟩ := h1
  have hrow : ∀ k, (Value.slice p s.out.length c).ownBlock = some k → a + 3 ≤ k := fun k hk => (h2.lt k hk).1
  have hb1 : Below (a + 3) w w1 := ((Below.refl (a + 3) w).alloc (by omega) o).grown hg (by rw [World.size_alloc]; omega) hrow
  have hc1 : w1.cell? ⟨a, 0, none⟩ = some (.slice p s.out.length c) := by rw [hb1.cell (p := ⟨a, 0, none⟩) (by show a < _; omega)]; exact hc
  have hf1 : w1.frozen? ⟨a, 0, none⟩ = false := by rw [hb1.frozen (p := ⟨a, 0, none⟩) (by show a < _; omega)]; exact h3
  obtain ⟨pv, cv, rfl⟩ := own_slice hown1
  refine ⟨⟨⟨pv, cv, ?_, ?_⟩, ?_, ?_, ?_, ?_, ?_⟩, (hb1.mono (show a ≤ a + 3 by omega)).setCell (Nat.le_refl _) _, hb1, hc1, hf1⟩
  · show _ = some (Value.slice pv (s.out ++ [q]).length cv)
    rw [List.length_append]; exact World.cell?_setCell_same _ _ _ hc1
  · show World.ownsRow _ _ _ _ (.slice pv (s.out ++ [q]).length cv) (s.out ++ [q]).length (cellsP (s.out ++ [q]))
    rw [List.length_append, cellsP_snoc]; exact own_set hown1 (by omega) _
  · rw [World.frozen?_setCell]; exact hf1
  · rw [cell_set_ne (by omega)]; exact (hb1.cell (p := ⟨a + 1, 0, none⟩) (by show a + 1 < _; omega)).trans h4
  · rw [World.frozen?_setCell]; exact (hb1.frozen (p := ⟨a + 1, 0, none⟩) (by show a + 1 < _; omega)).trans h6
  · rw [cell_set_ne (by omega)]; exact (hb1.cell (p := ⟨a + 2, 0, none⟩) (by show a + 2 < _; omega)).trans h7
  · rw [World.frozen?_setCell]; exact (hb1.frozen (p := ⟨a + 2, 0, none⟩) (by show a + 2 < _; omega)).trans h8

theorem rgath_put {w : World} {a : Nat} {s : NSt} (h : rgath w a s) (q : List UInt8) : rgath (w.setCell ⟨a + 1, 0, none⟩ (.string ⟨q.toArray⟩)) a ⟨s.out, q, s.drop⟩ ∧ Below a w (w.setCell ⟨a + 1, 0, none⟩ (.string ⟨q.toArray⟩)) := by
  have hlt := rgath_lt h
  obtain ⟨⟨p, c, h1, h2⟩, h3, h4, h6, h7, h8⟩ := h
  refine ⟨⟨⟨p, c, ?_, own_set h2 (by omega) _⟩, ?_, World.cell?_setCell_same _ _ _ h4, ?_, ?_, ?_⟩, (Below.refl a w).setCell (by show a ≤ a + 1; omega) _⟩
  · rw [cell_set_ne (by omega)]; exact h1
  · rw [World.frozen?_setCell]; exact h3
  · rw [World.frozen?_setCell]; exact h6
  · rw [cell_set_ne (by omega)]; exact h7
  · rw [World.frozen?_setCell]; exact h8
theorem rgath_drop {w : World} {a : Nat} {s : NSt} (h : rgath w a s) (d : Int) : rgath (w.setCell ⟨a + 2, 0, none⟩ (.int .i64 d)) a ⟨s.out, s.put, d⟩ ∧ Below a w (w.setCell ⟨a + 2, 0, none⟩ (.int .i64 d)) := by
  have hlt := rgath_lt h
  obtain ⟨⟨p, c, h1, h2⟩, h3, h4, h6, h7, h8⟩ := h
  refine ⟨⟨⟨p, c, ?_, own_set h2 (by omega) _⟩, ?_, ?_, ?_, World.cell?_setCell_same _ _ _ h7, ?_⟩, (Below.refl a w).setCell (by show a ≤ a + 2; omega) _⟩
  · rw [cell_set_ne (by omega)]; exact h1
  · rw [World.frozen?_setCell]; exact h3
  · rw [cell_set_ne (by omega)]; exact h4
  · rw [World.frozen?_setCell]; exact h6
  · rw [World.frozen?_setCell]; exact h8

end Go.Proofs.YtedonckeomccpabGreatDoor

namespace Go.Proofs.YtedonckeomccpabGreatDoor
open Go.RowKit
set_option linter.unusedVariables false

/-- What the document's gathering keeps is at most so much. -/
structure BdK (s : KSt) (T k : Nat) : Prop where
  put : s.put.length ≤ T
  d0 : 0 ≤ s.drop
  dk : s.drop ≤ k
  k0 : 0 ≤ s.keep
  kk : s.keep ≤ k
  len : s.out.length ≤ 3 * k
theorem bdk0 : BdK kst0 0 0 := ⟨by simp [kst0], by simp [kst0], by simp [kst0], by simp [kst0], by simp [kst0], by simp [kst0]⟩
theorem tellP_len (s : NSt) : (tellP s).length ≤ s.out.length + 2 := by
  unfold tellP
  simp only [List.length_append]
  split <;> split <;> simp
theorem BdK.step {s : KSt} {T k : Nat} (h : BdK s T k) (x : List UInt8 × Bool) : BdK (stepK s x) (T + x.1.length) (k + 1) := by
  obtain ⟨q, d⟩ := x
  obtain ⟨h1, h2, h3, h4, h5, h6⟩ := h
  have hf : (flushK s q d).put.length ≤ T + q.length ∧ (flushK s q d).drop = s.drop ∧ 0 ≤ (flushK s q d).keep ∧ (flushK s q d).keep ≤ k ∧ (flushK s q d).out.length ≤ 3 * k + 1 := by
    unfold flushK
    split
    · refine ⟨by show (s.put ++ q).length ≤ _; rw [List.length_append]; omega, rfl, ?_, ?_, ?_⟩
      · show 0 ≤ if 0 < s.keep then 0 else s.keep; split <;> omega
      · show (if 0 < s.keep then 0 else s.keep) ≤ _; split <;> omega
      · show (if 0 < s.keep then s.out ++ [⟨s.keep, 0, []⟩] else s.out).length ≤ _
        split
        · rw [List.length_append, List.length_singleton]; omega
        · omega
    · exact ⟨by omega, rfl, h4, h5, by omega⟩
  obtain ⟨f1, f2, f3, f4, f5⟩ := hf
  show BdK (byteK (flushK s q d) d) (T + q.length) (k + 1)
  generalize flushK s q d = t at *
  unfold byteK
  cases d with
  | true => exact ⟨f1, by show 0 ≤ t.drop + 1; omega, by show t.drop + 1 ≤ _; omega, f3, by show t.keep ≤ _; omega, by show t.out.length ≤ _; omega⟩
  | false =>
    have : (tellP ⟨t.out, t.put, t.drop⟩).length ≤ t.out.length + 2 := tellP_len _
    exact ⟨Nat.zero_le _, Int.le_refl _, by show (0 : Int) ≤ _; omega, by show 0 ≤ t.keep + 1; omega, by show t.keep + 1 ≤ _; omega, by show (tellP ⟨t.out, t.put, t.drop⟩).length ≤ _; omega⟩
def putsK (l : List (List UInt8 × Bool)) : Nat := (l.map fun x => x.1.length).sum
theorem putsK_snoc (l : List (List UInt8 × Bool)) (x : List UInt8 × Bool) : putsK (l ++ [x]) = putsK l + x.1.length := by simp [putsK]
theorem bdks (l : List (List UInt8 × Bool)) (k : Nat) (hk : k ≤ l.length) : BdK ((l.take k).foldl stepK kst0) (putsK (l.take k)) k := by
  induction k with
  | zero => exact bdk0
  | succ k ih =>
    have := ih (by omega)
    rw [List.take_succ_eq_append_getElem (by omega), List.foldl_append]
    rw [putsK_snoc]
    exact this.step _
theorem putsK_take (l : List (List UInt8 × Bool)) (k : Nat) : putsK (l.take k) ≤ putsK l := by
  have h1 : putsK l = putsK (l.take k) + putsK (l.drop k) := by
    unfold putsK
    rw [← List.sum_append, ← List.map_append, List.take_append_drop]
  omega

end Go.Proofs.YtedonckeomccpabGreatDoor

namespace Go.Proofs.YtedonckeomccpabGreatDoor
open Go.RowKit
set_option linter.unusedVariables false

theorem opAt_grown {w w' : World} {v : Value} {ps : List Pt} (h : opAt w v ps) (hb : Below w.heap.size w w') : opAt w' v ps := opAt_below h hb (Nat.le_refl _)

def fineB (ps : List Pt) : Bool := fewB ps && (chkE ps (lensW ps).1 == 0)

theorem lensW_range (ps : List Pt) : -9223372036854775808 ≤ (lensW ps).1 ∧ (lensW ps).1 < 9223372036854775808 := by
  unfold lensW
  rcases List.eq_nil_or_concat ps with rfl | ⟨l, p, rfl⟩
  · simp
  · rw [List.concat_eq_append, List.foldl_append]
    show -9223372036854775808 ≤ IntKind.i64.wrap _ ∧ IntKind.i64.wrap _ < _
    rw [IntKind.wrap_i64]
    omega

theorem chkE_sound {ps : List Pt} {n : Int} (h : chkE ps n = 0) : ∀ p ∈ ps, soundP p := by
  unfold chkE at h
  split at h
  · rename_i h1
    exact fun p hp => (one_sound (chk1_ones h1 p hp).1).1
  · rename_i h1
    exact absurd h h1

theorem few_wts {ps : List Pt} (h : fewB ps = true) (hs : ∀ p ∈ ps, soundP p) : wts ps ≤ 1030000 ∧ ps.length ≤ 100 := by
  unfold fewB at h
  rw [Bool.and_eq_true] at h
  have hl := of_decide_eq_true h.1
  have hall := List.all_eq_true.1 h.2
  have key : ∀ (l : List Pt), (∀ p ∈ l, fewP p = true) → wts l ≤ 10300 * l.length := by
    intro l
    induction l with
    | nil => intro _; simp [wts]
    | cons p l ih =>
      intro hl
      have h1 := ih fun q hq => hl q (List.mem_cons_of_mem _ hq)
      have h2 := hl p (List.mem_cons_self ..)
      unfold fewP at h2
      simp only [Bool.not_eq_true', Bool.or_eq_false_iff, decide_eq_false_iff_not] at h2
      have h3 : wtP p = p.keep + p.drop + p.put.length := rfl
      have h4 : wts (p :: l) = wtP p + wts l := by simp [wts]
      rw [h4, List.length_cons]
      omega
  have := key ps hall
  omega

theorem putsK_ticks (d : Bool) : ∀ (n : Nat) (g : GSt), putsK (ticks d n g).1 + (ticks d n g).2.length = putsK g.1 + g.2.length
  | 0, _ => rfl
  | n + 1, g => by
    rw [ticks, putsK_ticks d n]
    show putsK (g.1 ++ [(g.2, d)]) + 0 = _
    rw [putsK_snoc]
    rfl
theorem putsK_spreads (ps : List Pt) (h : ∀ p ∈ ps, soundP p) : ((putsK (spreads ps).1 + (spreads ps).2.length : Nat) : Int) ≤ wts ps := by
  have key : ∀ k, k ≤ ps.length → ((putsK (spreads (ps.take k)).1 + (spreads (ps.take k)).2.length : Nat) : Int) ≤ wts (ps.take k) := by
    intro k
    induction k with
    | zero => intro _; simp [spreads, putsK, wts]
    | succ k ih =>
      intro hk
      have h1 := ih (by omega)
      have hp := h _ (List.getElem_mem (show k < ps.length by omega))
      rw [List.take_succ_eq_append_getElem (by omega), spreads_snoc, wts_snoc]
      generalize ps[k] = q at *
      generalize spreads (ps.take k) = g at *
      obtain ⟨q1, q2⟩ := hp
      have hwq : wtP q = q.keep + q.drop + q.put.length := rfl
      have e : putsK (spreadP g q).1 + (spreadP g q).2.length = putsK g.1 + (g.2.length + q.put.length) := by
        unfold spreadP
        rw [putsK_ticks, putsK_ticks]
        show putsK g.1 + (g.2 ++ q.put).length = _
        rw [List.length_append]
      rw [e]
      omega
  have := key ps.length (Nat.le_refl _)
  rwa [List.take_length] at this

end Go.Proofs.YtedonckeomccpabGreatDoor

namespace Go.Proofs.YtedonckeomccpabGreatDoor
open Go.RowKit
set_option linter.unusedVariables false
attribute [local go_sem] Oper.semAt_some

set_option maxRecDepth 100000 in
set_option maxHeartbeats 4000000 in
theorem bridgeTurns_any (s : List UInt8) (u : Int) (val : Value) (ps : List Pt) (w : World) (hg : asLaid w) (hT : Lib.Utf8Tabs 2 3 w) (hr : opAt w val ps) (hwf : ∀ p ∈ ps, wfP p) (hsm : ∀ p ∈ ps, p.put.length ≤ 10000000) :
    Calls Tryz.prog 3 #[.string ⟨s.toArray⟩, .int .i64 u, val] w fun e w' => e = .returned (.bool true) ∧ Below w.heap.size w w' := by
  have hz : (ByteArray.mk s.toArray).size = s.length := by simp [ByteArray.size]
  by_cases hs : 400 < s.length
  · obtain ⟨p, c, rfl, r1, r2, _⟩ := hr
    have h2 : (400 : Int) < (s.length : Int) := by omega
    clear hT hg hwf hsm
    go_enter Tryz.func3, Tryz.ntmps3
    go_wp2
    go_ret
    exact ⟨rfl, Below.refl _ _⟩
  have hs2 : ¬ (400 : Int) < (s.length : Int) := by omega
  by_cases hl : 60 < ps.length
  · obtain ⟨p, c, rfl, r1, r2, _⟩ := hr
    unfold maxLen at r2
    have h2 : (60 : Int) < (ps.length : Int) := by omega
    clear hT hg hwf hsm
    go_enter Tryz.func3, Tryz.ntmps3
    go_wp2
    go_ret
    exact ⟨rfl, Below.refl _ _⟩
  have hl2 : ¬ (60 : Int) < (ps.length : Int) := by omega
  by_cases hok : (scan s).2 = true
  case neg =>
    have cN := refCount_bad ⟨s.toArray⟩ (by rw [hz]; omega) w (Bool.eq_false_iff.2 hok)
    generalize place (ByteArray.mk s.toArray).data.toList = PL at cN
    unfold cnt fault at cN
    obtain ⟨p, c, rfl, r1, r2, _⟩ := hr
    clear hT hg hwf hsm hok
    go_enter Tryz.func3, Tryz.ntmps3
    go_wp2_with (first | (go_at_call 6; refine Calls.mono cN ?_; rintro e w1 ⟨hb1, rfl⟩) | fail)
    go_ret
    exact ⟨rfl, (hb1.alloc hb1.size _).alloc (Nat.le_trans hb1.size (by simp)) _⟩
  case pos =>
    obtain ⟨rs, hrs⟩ : ∃ rs, runesOf s = rs := ⟨_, rfl⟩
    have he : encs rs = s := by rw [← hrs]; exact encs_runesOf hok
    have hrun : ∀ r ∈ rs, isRune r := fun r h => runesOf_rune (by rw [hrs]; exact h)
    have hC1 : C1 rs = s.length := by rw [C1_len, he]
    have heb : bytesOf rs = ⟨s.toArray⟩ := by unfold bytesOf; rw [he]
    have hd : (ByteArray.mk s.toArray).data.toList = s := rfl
    have cC : Hid (Calls Tryz.prog 6 #[.string ⟨s.toArray⟩] w fun e w' => e = .returned (.tuple #[cntV rs, .agg #[.int .i64 0, .int .i64 (-1)]]) ∧ Below w.heap.size w w') := refCount_of ⟨s.toArray⟩ rs hrun (by rw [hd]; exact he) (by rw [hz]; omega) w
    have cN : Hid (∀ wx, Below w.heap.size w wx → Calls Tryz.prog 7 #[.string ⟨s.toArray⟩] wx fun e w' => ∃ b, e = .returned (.tuple #[.pointer (some ⟨b, 0, none⟩), .nilIface]) ∧ isRope w' b rs ∧ Below wx.heap.size wx w') := fun wx hb => by
      have := new_good rs hrun (by omega) wx (Go.Proofs.Utf8Tabs_below hT hb)
      rw [heb] at this
      exact this.mono fun e w' h => by obtain ⟨b, h1, _, h2, h3⟩ := h; exact ⟨b, h1, h2, h3⟩
    have cT1 : Hid (∀ wx, Below w.heap.size w wx → Calls Tryz.prog 8 #[.string ⟨s.toArray⟩, .int .i64 u, .int .i64 1, val] wx fun e w' => ∃ v', e = .returned (.tuple #[v', .int .i64 (tzE rs u 1 ps)]) ∧ opAt w' v' (tzO rs u 1 ps) ∧ Below wx.heap.size wx w') := fun wx hb => refTurn_all ⟨s.toArray⟩ rs u 1 ps val wx hrun (by rw [hd]; exact he) (by rw [hz]; omega) (opAt_below hr hb (Nat.le_refl _)) hwf (fun q hq => by have := hsm q hq; omega) (by omega)
    have cT2 : Hid (∀ wx, Below w.heap.size w wx → Calls Tryz.prog 8 #[.string ⟨s.toArray⟩, .int .i64 1, .int .i64 u, val] wx fun e w' => ∃ v', e = .returned (.tuple #[v', .int .i64 (tzE rs 1 u ps)]) ∧ opAt w' v' (tzO rs 1 u ps) ∧ Below wx.heap.size wx w') := fun wx hb => refTurn_all ⟨s.toArray⟩ rs 1 u ps val wx hrun (by rw [hd]; exact he) (by rw [hz]; omega) (opAt_below hr hb (Nat.le_refl _)) hwf (fun q hq => by have := hsm q hq; omega) (by omega)
    have cTo : Hid (∀ b wx, Below w.heap.size w wx → isRope wx b rs → Calls Tryz.prog 9 #[.pointer (some ⟨b, 0, none⟩), .int .i64 u, val] wx fun e w' => ∃ v', e = .returned (.tuple #[v', errV (tzE rs u 1 ps)]) ∧ opAt w' v' (tzO rs u 1 ps) ∧ Below wx.heap.size wx w') := fun b wx hb h => to_all b rs u ps val wx (Go.Proofs.Utf8Tabs_below hT hb) h (opAt_below hr hb (Nat.le_refl _)) hwf (by omega) hsm (by omega)
    have cFr : Hid (∀ b wx, Below w.heap.size w wx → isRope wx b rs → Calls Tryz.prog 10 #[.pointer (some ⟨b, 0, none⟩), .int .i64 u, val] wx fun e w' => ∃ v', e = .returned (.tuple #[v', errV (tzE rs 1 u ps)]) ∧ opAt w' v' (tzO rs 1 u ps) ∧ Below wx.heap.size wx w') := fun b wx hb h => from_all b rs u ps val wx (Go.Proofs.Utf8Tabs_below hT hb) h (opAt_below hr hb (Nat.le_refl _)) hwf (by omega) hsm (by omega)
    have cB1 : Hid (∀ wx, Below w.heap.size w wx → Calls Tryz.prog 11 #[errV (tzE rs u 1 ps), .int .i64 (tzE rs u 1 ps)] wx fun e w' => e = .returned (.bool true) ∧ Below wx.heap.size wx w') := fun wx hb => bare_any _ wx (asLaid_below hg hb)
    have cB2 : Hid (∀ wx, Below w.heap.size w wx → Calls Tryz.prog 11 #[errV (tzE rs 1 u ps), .int .i64 (tzE rs 1 u ps)] wx fun e w' => e = .returned (.bool true) ∧ Below wx.heap.size wx w') := fun wx hb => bare_any _ wx (asLaid_below hg hb)
    have HL1 : Hid ((tzO rs u 1 ps).length < 10000000) := by show (tzO rs u 1 ps).length < 10000000; have := tzO_len rs u 1 ps; omega
    have HL2 : Hid ((tzO rs 1 u ps).length < 10000000) := by show (tzO rs 1 u ps).length < 10000000; have := tzO_len rs 1 u ps; omega
    obtain ⟨A1, hA1⟩ : ∃ A1, tzO rs u 1 ps = A1 := ⟨_, rfl⟩
    obtain ⟨A2, hA2⟩ : ∃ A2, tzO rs 1 u ps = A2 := ⟨_, rfl⟩
    obtain ⟨E1, hE1⟩ : ∃ E1, tzE rs u 1 ps = E1 := ⟨_, rfl⟩
    obtain ⟨E2, hE2⟩ : ∃ E2, tzE rs 1 u ps = E2 := ⟨_, rfl⟩
    rw [hA1] at cT1 cTo HL1
    rw [hA2] at cT2 cFr HL2
    rw [hE1] at cT1 cTo cB1
    rw [hE2] at cT2 cFr cB2
    obtain ⟨V1, hV1⟩ : ∃ V1, errV E1 = V1 := ⟨_, rfl⟩
    obtain ⟨V2, hV2⟩ : ∃ V2, errV E2 = V2 := ⟨_, rfl⟩
    rw [hV1] at cTo cB1
    rw [hV2] at cFr cB2
    unfold cntV at cC
    obtain ⟨p, c, rfl, r1, r2, _⟩ := hr
    clear hT hg hwf hsm hok hrs he hrun hC1 heb hd hA1 hA2 hE1 hE2 hV1 hV2
    go_enter Tryz.func3, Tryz.ntmps3
    go_wp2_with (first
      | (go_at_call 6; refine Calls.mono cC.out ?_; rintro e w1 ⟨rfl, hb1⟩; have hbx := (Below.refl w1.heap.size w1).alloc (Nat.le_refl _) (.cells #[.int .i64 (C1 rs), .int .i64 (C2 rs), .int .i64 (C3 rs), .int .i64 (C4 rs)] 25); have hby := hbx.alloc hbx.size (.cells #[.int .i64 0, .int .i64 (-1)] 28); have HB1 : Hid (Below w.heap.size w ((w1.alloc (.cells #[.int .i64 (C1 rs), .int .i64 (C2 rs), .int .i64 (C3 rs), .int .i64 (C4 rs)] 25)).alloc (.cells #[.int .i64 0, .int .i64 (-1)] 28))) := hb1.trans (hby.mono hb1.size); clear hb1 hbx hby)
      | (go_at_call 7; refine (cN.out _ HB1.out).mono ?_; rintro e w2 ⟨b, rfl, hR2, hb2⟩; have HB2 : Hid (Below w.heap.size w w2) := HB1.out.trans (hb2.mono HB1.out.size); have HR2 : Hid (isRope w2 b rs) := hR2; clear hb2 hR2)
      | (have _ := HB4; go_at_call 8; refine (cT2.out _ HB4.out).mono ?_; rintro e w5 ⟨x5, rfl, ho5, hb5⟩; have HB5 : Hid (Below w.heap.size w w5) := HB4.out.trans (hb5.mono HB4.out.size); have HR5 : Hid (isRope w5 b rs) := isRope_below HR4.out hb5; have HX5 : Hid (opAt w5 x3 A1) := opAt_grown HX4.out hb5; have HY5 : Hid (opAt w5 x4 A1) := opAt_grown HY4.out hb5; have HZ5 : Hid (opAt w5 x5 A2) := ho5; clear ho5 hb5)
      | (go_at_call 8; refine (cT1.out _ HB2.out).mono ?_; rintro e w3 ⟨x3, rfl, ho3, hb3⟩; have HB3 : Hid (Below w.heap.size w w3) := HB2.out.trans (hb3.mono HB2.out.size); have HR3 : Hid (isRope w3 b rs) := isRope_below HR2.out hb3; have HX3 : Hid (opAt w3 x3 A1) := ho3; clear ho3 hb3)
      | (go_at_call 9; refine (cTo.out _ _ HB3.out HR3.out).mono ?_; rintro e w4 ⟨x4, rfl, ho4, hb4⟩; have HB4 : Hid (Below w.heap.size w w4) := HB3.out.trans (hb4.mono HB3.out.size); have HR4 : Hid (isRope w4 b rs) := isRope_below HR3.out hb4; have HX4 : Hid (opAt w4 x3 A1) := opAt_grown HX3.out hb4; have HY4 : Hid (opAt w4 x4 A1) := ho4; clear ho4 hb4)
      | (go_at_call 10; refine (cFr.out _ _ HB5.out HR5.out).mono ?_; rintro e w6 ⟨x6, rfl, ho6, hb6⟩; have HB6 : Hid (Below w.heap.size w w6) := HB5.out.trans (hb6.mono HB5.out.size); have HX6 : Hid (opAt w6 x3 A1) := opAt_grown HX5.out hb6; have HY6 : Hid (opAt w6 x4 A1) := opAt_grown HY5.out hb6; have HZ6 : Hid (opAt w6 x5 A2) := opAt_grown HZ5.out hb6; have HV6 : Hid (opAt w6 x6 A2) := ho6; clear ho6 hb6)
      | (have _ := HB8; go_at_call 11; refine (cB2.out _ HB8.out).mono ?_; rintro e w9 ⟨rfl, hb9⟩; have HB9 : Hid (Below w.heap.size w w9) := HB8.out.trans (hb9.mono HB8.out.size); have HZ9 : Hid (opAt w9 x5 A2) := opAt_grown HZ8.out hb9; have HV9 : Hid (opAt w9 x6 A2) := opAt_grown HV8.out hb9; clear hb9)
      | (go_at_call 11; refine (cB1.out _ HB6.out).mono ?_; rintro e w7 ⟨rfl, hb7⟩; have HB7 : Hid (Below w.heap.size w w7) := HB6.out.trans (hb7.mono HB6.out.size); have HX7 : Hid (opAt w7 x3 A1) := opAt_grown HX6.out hb7; have HY7 : Hid (opAt w7 x4 A1) := opAt_grown HY6.out hb7; have HZ7 : Hid (opAt w7 x5 A2) := opAt_grown HZ6.out hb7; have HV7 : Hid (opAt w7 x6 A2) := opAt_grown HV6.out hb7; clear hb7)
      | (have _ := HB9; go_at_call 12; refine (Same_any _ _ A2 w9 HV9.out HZ9.out HL2.out).mono ?_; rintro e w10 ⟨rfl, hb10⟩; have HB10 : Hid (Below w.heap.size w w10) := HB9.out.trans (hb10.mono HB9.out.size); clear hb10)
      | (go_at_call 12; refine (Same_any _ _ A1 w7 HY7.out HX7.out HL1.out).mono ?_; rintro e w8 ⟨rfl, hb8⟩; have HB8 : Hid (Below w.heap.size w w8) := HB7.out.trans (hb8.mono HB7.out.size); have HZ8 : Hid (opAt w8 x5 A2) := opAt_grown HZ7.out hb8; have HV8 : Hid (opAt w8 x6 A2) := opAt_grown HV7.out hb8; clear hb8)
      | fail)
    go_ret
    exact ⟨rfl, HB10.out⟩
end Go.Proofs.YtedonckeomccpabGreatDoor
