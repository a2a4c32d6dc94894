/-
  The document's own Turn.
-/
import Derived.Test.YtldhbjmillfjgabGreatDoorRefAhead
import Derived.Test.YtldhbjmillfjgabGreatDoorBridgeZ
import Derived.Test.YtldhbjmillfjgabGreatDoorOpsRefChk
namespace Go.Proofs.YtldhbjmillfjgabGreatDoor
open Go.RowKit
set_option linter.unusedVariables false
attribute [local go_sem] Oper.semAt_some

/-- A part that lies in a box. -/
structure Pcell (w : World) (β : Nat) (K D : Int) (U : List UInt8) : Prop where
  c0 : w.cell? ⟨β, 0, none⟩ = some (.int .i64 K)
  c1 : w.cell? ⟨β, 1, none⟩ = some (.int .i64 D)
  c2 : w.cell? ⟨β, 2, none⟩ = some (.string ⟨U.toArray⟩)
  f0 : w.frozen? ⟨β, 0, none⟩ = false
  f1 : w.frozen? ⟨β, 1, none⟩ = false
theorem Pcell.below {w w' : World} {β : Nat} {K D : Int} {U : List UInt8} (h : Pcell w β K D U) (hb : Below w.heap.size w w') : Pcell w' β K D U := by
  have l := World.block_lt_of_cell? w _ h.c0
  exact ⟨cell_on hb h.c0, cell_on hb h.c1, cell_on hb h.c2, (hb.frozen (p := ⟨β, 0, none⟩) l).trans h.f0, (hb.frozen (p := ⟨β, 1, none⟩) l).trans h.f1⟩

set_option maxHeartbeats 1000000 in
theorem refTurn_unit (s : ByteArray) (u v : Int) (val : Value) (hu : ¬ (unitOk u ∧ unitOk v)) (w : World) :
    Calls Tryz.prog 10 #[.string s, .int .i64 u, .int .i64 v, val] w fun e w' => e = .returned (.tuple #[.slice none 0 0, .int .i64 1]) ∧ Below w.heap.size w w' := by
  have cU := fun wx => in_any u 1 3 wx
  have cV := fun wx => in_any v 1 3 wx
  by_cases h1 : unitOk u
  · have h2 : ¬ unitOk v := fun h => hu ⟨h1, h⟩
    rw [(inB_unit u).2 h1] at cU
    rw [Bool.eq_false_iff.2 fun e => h2 ((inB_unit v).1 e)] at cV
    have CU : Hid _ := cU
    have CV : Hid _ := cV
    clear hu h1 h2 cU cV
    go_enter Tryz.func10, Tryz.ntmps10
    go_wp2_with (first
      | (have _ := hfirst; go_at_call 61; refine (CV.out _).mono ?_; rintro e w1 ⟨rfl, hw1⟩; obtain rfl := hw1.symm)
      | (go_at_call 61; refine (CU.out _).mono ?_; rintro e w1 ⟨rfl, hw1⟩; obtain rfl := hw1.symm; have hfirst := trivial)
      | fail)
    go_ret2
    exact ⟨rfl, Below.refl _ _⟩
  · rw [Bool.eq_false_iff.2 fun e => h1 ((inB_unit u).1 e)] at cU
    have CU : Hid _ := cU
    clear hu h1 cU cV
    go_enter Tryz.func10, Tryz.ntmps10
    go_wp2_with (first
      | (go_at_call 61; refine (CU.out _).mono ?_; rintro e w1 ⟨rfl, hw1⟩; obtain rfl := hw1.symm)
      | fail)
    go_ret2
    exact ⟨rfl, Below.refl _ _⟩

set_option maxRecDepth 100000 in
set_option maxHeartbeats 4000000 in
theorem refTurn_chk (s : ByteArray) (rs : List Nat) (u v : Int) (qs : List Pt) (val : Value) (w : World) (hr : ∀ r ∈ rs, isRune r) (he : encs rs = s.data.toList) (hs : s.size < 1000000) (hu : unitOk u) (hv : unitOk v) (ho : opAt w val qs) (hwf : ∀ q ∈ qs, wfP q) (hsm : ∀ q ∈ qs, q.put.length < 100000000) (hl : qs.length ≤ 1000) (hc : chkE qs (by_ u rs) ≠ 0) :
    Calls Tryz.prog 10 #[.string s, .int .i64 u, .int .i64 v, val] w fun e w' => e = .returned (.tuple #[.slice none 0 0, .int .i64 (chkE qs (by_ u rs))]) ∧ Below w.heap.size w w' := by
  have hC1 : C1 rs = s.size := by rw [C1_len, he, ← Lib.size_eq]
  have hu0 : -9223372036854775808 ≤ u ∧ u < 9223372036854775808 := by unfold unitOk at hu; omega
  have hub : by_ u rs ≤ 3000000 := by
    have h2 := C2_le rs; have h3 := C3_le rs
    unfold by_; split <;> (try split) <;> (try split) <;> omega
  have hup := by_pos u rs
  have cU := fun wx => in_any u 1 3 wx
  have cV := fun wx => in_any v 1 3 wx
  rw [(inB_unit u).2 hu] at cU
  rw [(inB_unit v).2 hv] at cV
  have CU : Hid _ := cU
  have CV : Hid _ := cV
  have cC : Hid (∀ wx, Calls Tryz.prog 8 #[.string s] wx fun e w' => e = .returned (.tuple #[cntV rs, .agg #[.int .i64 0, .int .i64 (-1)]]) ∧ Below wx.heap.size wx w') := fun wx => refCount_of s rs hr he (by omega) wx
  have cN : Hid (∀ wx, Calls Tryz.prog 30 #[cntV rs, .int .i64 u] wx fun e w' => e = .returned (.int .i64 (by_ u rs)) ∧ Below wx.heap.size wx w') := fun wx => refIn_any u rs hu0.1 hu0.2 (by omega) wx
  have cK : Hid (∀ wx, Below w.heap.size w wx → Calls Tryz.prog 62 #[val, .int .i64 (by_ u rs)] wx fun e w' => e = .returned (.int .i64 (chkE qs (by_ u rs))) ∧ Below wx.heap.size wx w') := fun wx hb => refCheck_any val qs (by_ u rs) wx (opAt_below ho hb (Nat.le_refl _)) hwf hsm (by omega) (by omega)
  obtain ⟨p, c, rfl, _⟩ := ho
  obtain ⟨E, hE⟩ : ∃ E, chkE qs (by_ u rs) = E := ⟨_, rfl⟩
  rw [hE] at cK hc ⊢
  have hne : (E == 0) = false := beq_eq_false_iff_ne.2 hc
  obtain ⟨Bu, hBu⟩ : ∃ Bu, by_ u rs = Bu := ⟨_, rfl⟩
  rw [hBu] at cN cK
  unfold cntV at cC cN
  clear cU cV hr he hs hu hv hwf hsm hC1 hu0 hub hup hE hBu
  go_enter Tryz.func10, Tryz.ntmps10
  go_wp2_with (first
    | (have _ := hfirst; go_at_call 61; refine (CV.out _).mono ?_; rintro e w1 ⟨rfl, hw1⟩; obtain rfl := hw1.symm)
    | (go_at_call 61; refine (CU.out _).mono ?_; rintro e w1 ⟨rfl, hw1⟩; obtain rfl := hw1.symm; have hfirst := trivial)
    | (go_at_call 8; refine (cC.out _).mono ?_; rintro e w1 ⟨rfl, hb1⟩; have hbx := (Below.refl w1.heap.size w1).alloc (Nat.le_refl _) (.cells #[.int .i64 (C1 rs), .int .i64 (C2 rs), .int .i64 (C3 rs), .int .i64 (C4 rs)] 25); have hby := hbx.alloc hbx.size (.cells #[.int .i64 0, .int .i64 (-1)] 28); have HB1 : Hid (Below w.heap.size w ((w1.alloc (.cells #[.int .i64 (C1 rs), .int .i64 (C2 rs), .int .i64 (C3 rs), .int .i64 (C4 rs)] 25)).alloc (.cells #[.int .i64 0, .int .i64 (-1)] 28))) := hb1.trans (hby.mono hb1.size); clear hb1 hbx hby)
    | (go_at_call 30; refine (cN.out _).mono ?_; rintro e w2 ⟨rfl, hb2⟩; have HB2 : Hid (Below w.heap.size w w2) := HB1.out.trans (hb2.mono HB1.out.size); clear hb2)
    | (go_at_call 62; refine (cK.out _ HB2.out).mono ?_; rintro e w3 ⟨rfl, hb3⟩; have HB3 : Hid (Below w.heap.size w w3) := HB2.out.trans (hb3.mono HB2.out.size); clear hb3)
    | fail)
  go_ret2
  exact ⟨rfl, HB3.out⟩
theorem own_setNe {w : World} {B e size n b o : Nat} {v : Value} {xs : List Value} (h : w.ownsRow B e size v n xs) (hb : ∀ j, v.ownBlock = some j → j < b) (u : Value) : (w.setCell ⟨b, o, none⟩ u).ownsRow B e size v n xs := by
  obtain ⟨h0, hrow⟩ := h
  refine ⟨h0, ?_⟩
  rcases hrow with hn | ⟨g, cap, cur, rfl, hg, hgg, rest⟩
  · exact .inl hn
  · exact .inr ⟨g, cap, cur, rfl, hg, (Below.heap_setCell _ _ _ _ (by show g ≠ b; have := hb g rfl; omega)).trans hgg, rest⟩
theorem pset0 {w : World} {β : Nat} {K D : Int} {U : List UInt8} (h : Pcell w β K D U) (M : Int) : Pcell (w.setCell ⟨β, 0, none⟩ (.int .i64 M)) β M D U := by
  obtain ⟨h0, h1, h2, h3, h4⟩ := h
  refine ⟨?_, ?_, ?_, ?_, ?_⟩ <;> simp [go_sem, h0, h1, h2, h3, h4]
theorem pset1 {w : World} {β : Nat} {K D : Int} {U : List UInt8} (h : Pcell w β K D U) (M : Int) : Pcell (w.setCell ⟨β, 1, none⟩ (.int .i64 M)) β K M U := by
  obtain ⟨h0, h1, h2, h3, h4⟩ := h
  refine ⟨?_, ?_, ?_, ?_, ?_⟩ <;> simp [go_sem, h0, h1, h2, h3, h4]

set_option maxRecDepth 100000 in
set_option maxHeartbeats 8000000 in
theorem refTurn_fine (s : ByteArray) (rs : List Nat) (u v : Int) (qs : List Pt) (val : Value) (w : World) (hr : ∀ r ∈ rs, isRune r) (he : encs rs = s.data.toList) (hs : s.size < 1000000) (hu : unitOk u) (hv : unitOk v) (ho : opAt w val qs) (hwf : ∀ q ∈ qs, wfP q) (hsm : ∀ q ∈ qs, q.put.length < 100000000) (hl : qs.length ≤ 1000) (hc : chkE qs (by_ u rs) = 0) :
    Calls Tryz.prog 10 #[.string s, .int .i64 u, .int .i64 v, val] w fun e w' => ∃ v', e = .returned (.tuple #[v', .int .i64 (turnX rs u v qs)]) ∧ opAt w' v' (turnO rs u v qs) ∧ Below w.heap.size w w' := by
  obtain ⟨hp1, hp2, hp3⟩ := chkE_parts hc
  have hC1 : C1 rs = s.size := by rw [C1_len, he, ← Lib.size_eq]
  have hu0 : -9223372036854775808 ≤ u ∧ u < 9223372036854775808 := by unfold unitOk at hu; omega
  have hv0 : -9223372036854775808 ≤ v ∧ v < 9223372036854775808 := by unfold unitOk at hv; omega
  have hub : ∀ x : Int, by_ x rs ≤ 3000000 := fun x => by
    have h2 := C2_le rs; have h3 := C3_le rs; have h1 := C1_pos rs
    unfold by_; split <;> (try split) <;> (try split) <;> omega
  have hup := by_pos u rs
  have cU := fun wx => in_any u 1 3 wx
  have cV := fun wx => in_any v 1 3 wx
  rw [(inB_unit u).2 hu] at cU
  rw [(inB_unit v).2 hv] at cV
  have CU : Hid _ := cU
  have CV : Hid _ := cV
  have cC : Hid (∀ wx, Calls Tryz.prog 8 #[.string s] wx fun e w' => e = .returned (.tuple #[cntV rs, .agg #[.int .i64 0, .int .i64 (-1)]]) ∧ Below wx.heap.size wx w') := fun wx => refCount_of s rs hr he (by omega) wx
  have cN : Hid (∀ wx, Calls Tryz.prog 30 #[cntV rs, .int .i64 u] wx fun e w' => e = .returned (.int .i64 (by_ u rs)) ∧ Below wx.heap.size wx w') := fun wx => refIn_any u rs hu0.1 hu0.2 (by omega) wx
  have hub1 := hub u
  have cK : Hid (∀ wx, Below w.heap.size w wx → Calls Tryz.prog 62 #[val, .int .i64 (by_ u rs)] wx fun e w' => e = .returned (.int .i64 0) ∧ Below wx.heap.size wx w') := fun wx hb => by
    have := refCheck_any val qs (by_ u rs) wx (opAt_below ho hb (Nat.le_refl _)) hwf hsm (by omega) (by omega)
    rw [hc] at this
    exact this
  have CAH : Hid (∀ a wx, 0 ≤ a → a ≤ by_ u rs → Calls Tryz.prog 63 #[.string s, .int .i64 u, .int .i64 a] wx fun e w' => e = .returned (.tuple #[cntV (if onEdge rs u a then upTo rs u a else []), .int .i64 (if onEdge rs u a then 0 else 10)]) ∧ Below wx.heap.size wx w') := fun a wx h0 h1 => refAhead_any s rs u a hr he hs hu h0 h1 wx
  have CIH : Hid (∀ X wx, C1 X ≤ 100000000 → Calls Tryz.prog 30 #[cntV X, .int .i64 v] wx fun e w' => e = .returned (.int .i64 (by_ v X)) ∧ Below wx.heap.size wx w') := fun X wx h => refIn_any v X hv0.1 hv0.2 h wx
  have HP1 : Hid (∀ p ∈ qs, oneB p = true ∧ (scan p.put).2 = true) := hp1
  have HP2 : Hid (longP qs = by_ u rs) := hp2
  have HP3 : Hid (∀ q ∈ qs, 0 ≤ lenP q) := hp3
  have HUB : Hid (∀ x : Int, by_ x rs ≤ 3000000) := hub
  have HC1 : Hid (C1 rs ≤ 3000000) := by show C1 rs ≤ 3000000; omega
  have HOP : Hid (opAt w val qs) := ho
  obtain ⟨p, c, rfl, r1, r2, r3⟩ := ho
  obtain ⟨n, hn⟩ : ∃ n, qs.length = n := ⟨_, rfl⟩
  have HN : Hid (qs.length = n) := hn
  rw [hn] at r1 hl cK ⊢
  obtain ⟨i0, hi, hz0, hz1, hz2⟩ := info_parts info_part
  obtain ⟨RL, hRL⟩ : ∃ RL : Int, by_ u rs = RL := ⟨_, rfl⟩
  rw [hRL] at cN cK hub1 hup
  have HRL : Hid (by_ u rs = RL) := hRL
  unfold cntV at cC cN
  unfold maxLen at r2
  clear cU cV hr he hs hu hv hwf hsm hC1 hu0 hv0 hub hp1 hp2 hp3 hc hn r3 hRL
  go_enter Tryz.func10, Tryz.ntmps10
  go_wp2_with (first
    | (have _ := hfirst; go_at_call 61; refine (CV.out _).mono ?_; rintro e w1 ⟨rfl, hw1⟩; obtain rfl := hw1.symm)
    | (go_at_call 61; refine (CU.out _).mono ?_; rintro e w1 ⟨rfl, hw1⟩; obtain rfl := hw1.symm; have hfirst := trivial)
    | (go_at_call 8; refine (cC.out _).mono ?_; rintro e w1 ⟨rfl, hb1⟩; have hbx := (Below.refl w1.heap.size w1).alloc (Nat.le_refl _) (.cells #[.int .i64 (C1 rs), .int .i64 (C2 rs), .int .i64 (C3 rs), .int .i64 (C4 rs)] 25); have hby := hbx.alloc hbx.size (.cells #[.int .i64 0, .int .i64 (-1)] 28); have HB1 : Hid (Below w.heap.size w ((w1.alloc (.cells #[.int .i64 (C1 rs), .int .i64 (C2 rs), .int .i64 (C3 rs), .int .i64 (C4 rs)] 25)).alloc (.cells #[.int .i64 0, .int .i64 (-1)] 28))) := hb1.trans (hby.mono hb1.size); clear hb1 hbx hby)
    | (go_at_call 30; refine (cN.out _).mono ?_; rintro e w2 ⟨rfl, hb2⟩; have HB2 : Hid (Below w.heap.size w w2) := HB1.out.trans (hb2.mono HB1.out.size); clear hb2)
    | (go_at_call 62; refine (cK.out _ HB2.out).mono ?_; rintro e w3 ⟨rfl, hb3⟩; have HB3 : Hid (Below w.heap.size w w3) := HB2.out.trans (hb3.mono HB2.out.size); clear hb3)
    | fail)
  clear HB1 HB2 CU CV cC cN cK
  go_loopw [13, 14, 15, 43] (fun v13 v14 v15 i wr => ∃ k : Nat, i = .int .i64 k ∧ v14 = .int .i64 (longP (qs.take k)) ∧ v15 = .int .i64 (by_ v (upTo rs u (longP (qs.take k)))) ∧ ∃ L : List Pt, L.length = k ∧ turnZ rs u v 0 qs = (L ++ (turnZ rs u v (longP (qs.take k)) (qs.drop k)).1, (turnZ rs u v (longP (qs.take k)) (qs.drop k)).2) ∧ k ≤ n ∧ wr.ownsRow w.heap.size 50 3 v13 k (cellsP L) ∧ Below w.heap.size w wr) (fun _ _ _ i _ => n - (intOf i).toNat)
  case atStart =>
    have e1 : longP (qs.take 0) = 0 := by simp [longP]
    refine ⟨0, rfl, by rw [e1], by rw [e1, upTo_zero, by_nil], [], rfl, by rw [e1]; rfl, Nat.zero_le _, World.ownsRow_nil _ _ _ _, HB3.out⟩
  case round =>
    obtain ⟨k, rfl, rfl, rfl, L, hLk, htz, hk, hown, hbw'⟩ := hrel
    obtain ⟨pv, cv, rfl⟩ := own_slice hown
    clear HB3
    by_cases hlt : k < n
    · have hkr : k < qs.length := by rw [HN.out]; exact hlt
      have hne : qs ≠ [] := by intro e; rw [e] at hkr; exact absurd hkr (Nat.not_lt_zero _)
      obtain ⟨p0, c0, hvv, _, _, hcell⟩ := HOP.out
      obtain ⟨b0, o, rfl, hb0, hcell⟩ := hcell hne
      obtain ⟨f0, f1, f2⟩ := hcell k qs[k] (List.getElem?_eq_getElem hkr)
      have g0 := (hbw'.cell (p := ⟨b0, o + k * 3, none⟩) hb0).trans f0
      have g1 := (hbw'.cell (p := ⟨b0, o + k * 3 + 1, none⟩) hb0).trans f1
      have g2 := (hbw'.cell (p := ⟨b0, o + k * 3 + 2, none⟩) hb0).trans f2
      obtain rfl : p = some ⟨b0, o, none⟩ := by injection hvv
      clear hvv hcell f0 f1 f2 hne
      have hqm : qs[k] ∈ qs := List.getElem_mem _
      have hob := (HP1.out _ hqm).1
      have hts : qs.take (k + 1) = qs.take k ++ [qs[k]] := List.take_succ_eq_append_getElem hkr
      have hA1' : longP (qs.take (k + 1)) = longP (qs.take k) + lenP qs[k] := by rw [hts, long_append]; simp [longP]
      have hA0 : 0 ≤ longP (qs.take k) := sum_pos fun q hq => HP3.out q (List.mem_of_mem_take hq)
      have hAN : longP (qs.take (k + 1)) ≤ RL := by
        have e2 : longP qs = longP (qs.take (k + 1)) + longP (qs.drop (k + 1)) := by rw [← long_append, List.take_append_drop]
        have := sum_pos fun q hq => HP3.out q (List.mem_of_mem_drop (i := k + 1) hq)
        have := HP2.out; have := HRL.out
        omega
      have hdk : qs.drop k = qs[k] :: qs.drop (k + 1) := List.drop_eq_getElem_cons hkr
      rw [hdk] at htz
      generalize qs[k] = q at *
      obtain ⟨K, D, U⟩ := q
      obtain ⟨A, hA⟩ : ∃ A, longP (qs.take k) = A := ⟨_, rfl⟩
      rw [hA] at hA1' hA0 htz ⊢
      have hld : lenP ⟨K, D, U⟩ = K + D := rfl
      rw [hld] at hA1'
      have hsnd := (one_sound hob).1
      obtain ⟨s1, s2⟩ := hsnd
      have s1 : 0 ≤ K := s1
      have s2 : 0 ≤ D := s2
      have hRLe := HRL.out
      have hw0 : IntKind.i64.wrap (K + D) = K + D := by rw [IntKind.wrap_i64]; omega
      have hw3 : IntKind.i64.wrap (A + (K + D)) = A + (K + D) := by rw [IntKind.wrap_i64]; omega
      have hj : (k : Int) < (n : Int) := by omega
      have HOP' : Hid ((wr.alloc (.cells #[.int .i64 K, .int .i64 D, .string ⟨U.toArray⟩] 50)).ownsRow w.heap.size 50 3 (.slice pv k cv) k (cellsP L)) := hown.alloc _
      have HLT : Hid (∀ j, (Value.slice pv k cv).ownBlock = some j → j < wr.heap.size) := fun j hj => (hown.lt j hj).2
      have HBP : Hid (Below w.heap.size w (wr.alloc (.cells #[.int .i64 K, .int .i64 D, .string ⟨U.toArray⟩] 50))) := hbw'.alloc hbw'.size _
      have hwlt := hbw'.size
      have hltw : wr.heap.size < (wr.alloc (.cells #[.int .i64 K, .int .i64 D, .string ⟨U.toArray⟩] 50)).heap.size := by simp
      have x0 : (wr.alloc (.cells #[.int .i64 K, .int .i64 D, .string ⟨U.toArray⟩] 50)).cell? ⟨wr.heap.size, 0, none⟩ = some (.int .i64 K) := by simp [go_sem]
      have x1 : (wr.alloc (.cells #[.int .i64 K, .int .i64 D, .string ⟨U.toArray⟩] 50)).cell? ⟨wr.heap.size, 1, none⟩ = some (.int .i64 D) := by simp [go_sem]
      have x2 : (wr.alloc (.cells #[.int .i64 K, .int .i64 D, .string ⟨U.toArray⟩] 50)).cell? ⟨wr.heap.size, 2, none⟩ = some (.string ⟨U.toArray⟩) := by simp [go_sem]
      have xf : (wr.alloc (.cells #[.int .i64 K, .int .i64 D, .string ⟨U.toArray⟩] 50)).frozen? ⟨wr.heap.size, 0, none⟩ = false := by simp [go_sem]
      have xg : (wr.alloc (.cells #[.int .i64 K, .int .i64 D, .string ⟨U.toArray⟩] 50)).frozen? ⟨wr.heap.size, 1, none⟩ = false := by simp [go_sem]
      have cA := CAH.out (A + (K + D)) (wr.alloc (.cells #[.int .i64 K, .int .i64 D, .string ⟨U.toArray⟩] 50)) (by omega) (by omega)
      obtain ⟨h, hh⟩ : ∃ h, by_ v (upTo rs u A) = h := ⟨_, rfl⟩
      by_cases hed : onEdge rs u (A + (K + D)) = true
      · rw [if_pos hed, if_pos hed] at cA
        rw [turnZ, if_pos (by rw [hld]; exact hed)] at htz
        have hXle1 := upTo_le (v := 1) rs (u := u) (a := A + (K + D)) (by omega)
        have hXle := upTo_le (v := v) rs (u := u) (a := A + (K + D)) (by omega)
        have hmono := upTo_mono (u := u) (v := v) rs (a := A) (b := A + (K + D)) (by omega) (by omega)
        have hp0 := by_pos v (upTo rs u A)
        have hHU := HUB.out v
        have hHC := HC1.out
        have hby1 : ∀ y, by_ 1 y = C1 y := fun _ => rfl
        rw [hby1, hby1] at hXle1
        rw [hld] at htz
        obtain ⟨X, hX⟩ : ∃ X, upTo rs u (A + (K + D)) = X := ⟨_, rfl⟩
        rw [hX] at cA htz hXle hXle1 hmono
        have cI := fun wx => CIH.out X wx (by omega)
        obtain ⟨XV, hXV⟩ : ∃ XV, by_ v X = XV := ⟨_, rfl⟩
        rw [hXV] at cI htz hXle hmono
        rw [hh] at htz hmono hp0 ⊢
        obtain ⟨M, hM⟩ : ∃ M, XV - h = M := ⟨_, rfl⟩
        rw [hM] at htz
        have hwM : IntKind.i64.wrap (XV - h) = M := by rw [IntKind.wrap_i64]; omega
        have HTK0 : Hid (turnZ rs u v 0 qs = ((L ++ [unit1 M ⟨K, D, U⟩]) ++ (turnZ rs u v (longP (qs.take (k + 1))) (qs.drop (k + 1))).1, (turnZ rs u v (longP (qs.take (k + 1))) (qs.drop (k + 1))).2)) := by
          show turnZ rs u v 0 qs = _
          rw [htz, hA1']; simp
        have HA1 : Hid (longP (qs.take (k + 1)) = A + (K + D)) := hA1'
        have HXV : Hid (by_ v (upTo rs u (A + (K + D))) = XV) := by show by_ v (upTo rs u (A + (K + D))) = XV; rw [hX, hXV]
        have HLL : Hid (L.length = k) := hLk
        unfold cntV at cA cI
        have CA : Hid _ := cA
        have CI : Hid _ := cI
        have HOPX := HOP'
        clear hown hbw' htz hA1' hAN hts hqm hkr hXle hXle1 hmono hp0 hHU hHC hby1 hX hXV hh hM hed cA cI hRLe hLk hdk hA HOP
        have HOP := HOP'
        rcases oneB_shapes hob with ⟨o1, o2, o3⟩ | ⟨o1, o2, o3⟩ | ⟨o1, o2, o3⟩
        · replace o1 : 0 < K := o1
          replace o2 : D = 0 := o2
          replace o3 : U = [] := o3
          have hUe : U.isEmpty = true := by rw [o3]; rfl
          have HTK := HTK0
          have e1 : unit1 M ⟨K, D, U⟩ = ⟨M, D, U⟩ := by unfold unit1; rw [if_pos o1]; show (⟨M, 0, []⟩ : Pt) = ⟨M, D, U⟩; rw [o2, o3]
          rw [e1] at HTK
          clear e1 HTK0 o2 o3 s2 hob
          go_wp2_with (first
            | (go_at_call 63; refine Calls.mono CA.out ?_; rintro e w5 ⟨rfl, hb5⟩; have HB5 : Hid (Below w.heap.size w w5) := HBP.out.trans (hb5.mono HBP.out.size); have HO5 : Hid (w5.ownsRow w.heap.size 50 3 (.slice pv k cv) k (cellsP L)) := own_below HOP'.out hb5; have y0 := cell_on hb5 x0; have y1 := cell_on hb5 x1; have y2 := cell_on hb5 x2; have yf := (hb5.frozen (p := ⟨wr.heap.size, 0, none⟩) hltw).trans xf; have yg := (hb5.frozen (p := ⟨wr.heap.size, 1, none⟩) hltw).trans xg; have hba : Below w5.heap.size w5 (w5.alloc (.cells #[.int .i64 (C1 X), .int .i64 (C2 X), .int .i64 (C3 X), .int .i64 (C4 X)] 25)) := (Below.refl _ _).alloc (Nat.le_refl _) _; have HBA : Hid (Below w5.heap.size w5 (w5.alloc (.cells #[.int .i64 (C1 X), .int .i64 (C2 X), .int .i64 (C3 X), .int .i64 (C4 X)] 25))) := hba; have z0 := cell_on hba y0; have z1 := cell_on hba y1; have z2 := cell_on hba y2; have hlt5 : wr.heap.size < w5.heap.size := Nat.lt_of_lt_of_le hltw hb5.size; have HB6 : Hid (Below w.heap.size w (w5.alloc (.cells #[.int .i64 (C1 X), .int .i64 (C2 X), .int .i64 (C3 X), .int .i64 (C4 X)] 25))) := HB5.out.alloc HB5.out.size _; have HO6 : Hid ((w5.alloc (.cells #[.int .i64 (C1 X), .int .i64 (C2 X), .int .i64 (C3 X), .int .i64 (C4 X)] 25)).ownsRow w.heap.size 50 3 (.slice pv k cv) k (cellsP L)) := HO5.out.alloc _; have HCX : Hid (counted (w5.alloc (.cells #[.int .i64 (C1 X), .int .i64 (C2 X), .int .i64 (C3 X), .int .i64 (C4 X)] 25)) w5.heap.size (C1 X) (C2 X) (C3 X) (C4 X)) := counted_new w5 _ _ _ _ _; have HY0 : Hid (Pcell w5 wr.heap.size K D U) := ⟨y0, y1, y2, yf, yg⟩; clear hb5)
            | (have _ := HM7; go_at_call 30; refine (CI.out _).mono ?_; rintro e w8 ⟨rfl, hb8⟩; have HB7s : Below w.heap.size w (w7.setCell ⟨wr.heap.size, 0, none⟩ (.int .i64 M)) := HB7.out.setCell (p := ⟨wr.heap.size, 0, none⟩) hwlt _; have HB8 : Hid (Below w.heap.size w w8) := HB7s.trans (hb8.mono HB7s.size); have HO8 : Hid (w8.ownsRow w.heap.size 50 3 (.slice pv k cv) k (cellsP L)) := own_below (own_setNe HO7.out HLT.out _) hb8; obtain ⟨q0, q1, q2, q3, q4⟩ := (pset0 HP7.out M).below hb8; have hs8 := HB8.out.size; clear hb8 HB7s)
            | (go_at_call 30; refine (CI.out _).mono ?_; rintro e w7 ⟨rfl, hb7⟩; have HB7 : Hid (Below w.heap.size w w7) := HB6.out.trans (hb7.mono HB6.out.size); have HO7 : Hid (w7.ownsRow w.heap.size 50 3 (.slice pv k cv) k (cellsP L)) := own_below HO6.out hb7; have HP7 : Hid (Pcell w7 wr.heap.size K D U) := (HY0.out.below HBA.out).below hb7; obtain ⟨n0, n1, n2, n3, n4⟩ := (HY0.out.below HBA.out).below hb7; have hc7 := counted_below HCX.out hb7; obtain ⟨⟨c0', c1', c2', c3'⟩, _⟩ := hc7; have HM7 := trivial; clear hb7)
            | (at_builtin; refine wpList_append_own _ rfl _ _ 23 rfl w.heap.size 50 i0 (.agg #[.int .i64 0, .int .i64 0, .string ⟨#[]⟩]) 3 32 Tryz.underlying23 hi hz0 hz1 hz2 rfl (by decide) _ _ _ rfl (HO8.out.alloc _) ⟨w8.heap.size, 0, none⟩ 1 1 (partCells ⟨M, D, U⟩) rfl rfl (cells_newN _ _ (by first | rfl | simp) _ _) (partCells_one _) (by unfold maxLen; omega) (by omega) (by first | omega | (simp; omega)) ?_)
            | fail)
          intro v' w' hown' hg' _
          obtain ⟨p', c', rfl⟩ := own_slice hown'
          have HB9 : Hid (Below w.heap.size w w') := (HB8.out.alloc HB8.out.size _).grown hg' (by simp; omega) fun k hk => (HO8.out.lt k hk).1
          have HO9 : Hid (w'.ownsRow w.heap.size 50 3 (.slice p' (k + 1) c') (k + 1) (cellsP L ++ partCells ⟨M, D, U⟩)) := hown'
          clear hown' hg'
          go_wp2
          go_roundw
          case rel =>
            refine ⟨k + 1, by go_num, HA1.out.symm ▸ rfl, by first | rfl | (rw [HA1.out, HXV.out]), L ++ [⟨M, D, U⟩], by rw [List.length_append, HLL.out]; rfl, HTK.out, by have := HN.out; omega, ?_, HB9.out⟩
            rw [cellsP_snoc]
            exact HO9.out
          case measure => simp [intOf]; omega
        · replace o1 : K = 0 := o1
          replace o2 : 0 < D := o2
          replace o3 : U = [] := o3
          have hUe : U.isEmpty = true := by rw [o3]; rfl
          have HTK := HTK0
          have hK0 : ¬ 0 < K := by omega
          have e1 : unit1 M ⟨K, D, U⟩ = ⟨K, M, U⟩ := by unfold unit1; rw [if_neg (show ¬ 0 < (⟨K, D, U⟩ : Pt).keep from hK0), if_pos o2]; show (⟨0, M, []⟩ : Pt) = ⟨K, M, U⟩; rw [o1, o3]
          rw [e1] at HTK
          clear e1 HTK0 o1 o3 s1 hob
          go_wp2_with (first
            | (go_at_call 63; refine Calls.mono CA.out ?_; rintro e w5 ⟨rfl, hb5⟩; have HB5 : Hid (Below w.heap.size w w5) := HBP.out.trans (hb5.mono HBP.out.size); have HO5 : Hid (w5.ownsRow w.heap.size 50 3 (.slice pv k cv) k (cellsP L)) := own_below HOP'.out hb5; have y0 := cell_on hb5 x0; have y1 := cell_on hb5 x1; have y2 := cell_on hb5 x2; have yf := (hb5.frozen (p := ⟨wr.heap.size, 0, none⟩) hltw).trans xf; have yg := (hb5.frozen (p := ⟨wr.heap.size, 1, none⟩) hltw).trans xg; have hba : Below w5.heap.size w5 (w5.alloc (.cells #[.int .i64 (C1 X), .int .i64 (C2 X), .int .i64 (C3 X), .int .i64 (C4 X)] 25)) := (Below.refl _ _).alloc (Nat.le_refl _) _; have HBA : Hid (Below w5.heap.size w5 (w5.alloc (.cells #[.int .i64 (C1 X), .int .i64 (C2 X), .int .i64 (C3 X), .int .i64 (C4 X)] 25))) := hba; have z0 := cell_on hba y0; have z1 := cell_on hba y1; have z2 := cell_on hba y2; have hlt5 : wr.heap.size < w5.heap.size := Nat.lt_of_lt_of_le hltw hb5.size; have HB6 : Hid (Below w.heap.size w (w5.alloc (.cells #[.int .i64 (C1 X), .int .i64 (C2 X), .int .i64 (C3 X), .int .i64 (C4 X)] 25))) := HB5.out.alloc HB5.out.size _; have HO6 : Hid ((w5.alloc (.cells #[.int .i64 (C1 X), .int .i64 (C2 X), .int .i64 (C3 X), .int .i64 (C4 X)] 25)).ownsRow w.heap.size 50 3 (.slice pv k cv) k (cellsP L)) := HO5.out.alloc _; have HCX : Hid (counted (w5.alloc (.cells #[.int .i64 (C1 X), .int .i64 (C2 X), .int .i64 (C3 X), .int .i64 (C4 X)] 25)) w5.heap.size (C1 X) (C2 X) (C3 X) (C4 X)) := counted_new w5 _ _ _ _ _; have HY0 : Hid (Pcell w5 wr.heap.size K D U) := ⟨y0, y1, y2, yf, yg⟩; clear hb5)
            | (have _ := HM7; go_at_call 30; refine (CI.out _).mono ?_; rintro e w8 ⟨rfl, hb8⟩; have HB7s : Below w.heap.size w (w7.setCell ⟨wr.heap.size, 1, none⟩ (.int .i64 M)) := HB7.out.setCell (p := ⟨wr.heap.size, 1, none⟩) hwlt _; have HB8 : Hid (Below w.heap.size w w8) := HB7s.trans (hb8.mono HB7s.size); have HO8 : Hid (w8.ownsRow w.heap.size 50 3 (.slice pv k cv) k (cellsP L)) := own_below (own_setNe HO7.out HLT.out _) hb8; obtain ⟨q0, q1, q2, q3, q4⟩ := (pset1 HP7.out M).below hb8; have hs8 := HB8.out.size; clear hb8 HB7s)
            | (go_at_call 30; refine (CI.out _).mono ?_; rintro e w7 ⟨rfl, hb7⟩; have HB7 : Hid (Below w.heap.size w w7) := HB6.out.trans (hb7.mono HB6.out.size); have HO7 : Hid (w7.ownsRow w.heap.size 50 3 (.slice pv k cv) k (cellsP L)) := own_below HO6.out hb7; have HP7 : Hid (Pcell w7 wr.heap.size K D U) := (HY0.out.below HBA.out).below hb7; obtain ⟨n0, n1, n2, n3, n4⟩ := (HY0.out.below HBA.out).below hb7; have hc7 := counted_below HCX.out hb7; obtain ⟨⟨c0', c1', c2', c3'⟩, _⟩ := hc7; have HM7 := trivial; clear hb7)
            | (at_builtin; refine wpList_append_own _ rfl _ _ 23 rfl w.heap.size 50 i0 (.agg #[.int .i64 0, .int .i64 0, .string ⟨#[]⟩]) 3 32 Tryz.underlying23 hi hz0 hz1 hz2 rfl (by decide) _ _ _ rfl (HO8.out.alloc _) ⟨w8.heap.size, 0, none⟩ 1 1 (partCells ⟨K, M, U⟩) rfl rfl (cells_newN _ _ (by first | rfl | simp) _ _) (partCells_one _) (by unfold maxLen; omega) (by omega) (by first | omega | (simp; omega)) ?_)
            | fail)
          intro v' w' hown' hg' _
          obtain ⟨p', c', rfl⟩ := own_slice hown'
          have HB9 : Hid (Below w.heap.size w w') := (HB8.out.alloc HB8.out.size _).grown hg' (by simp; omega) fun k hk => (HO8.out.lt k hk).1
          have HO9 : Hid (w'.ownsRow w.heap.size 50 3 (.slice p' (k + 1) c') (k + 1) (cellsP L ++ partCells ⟨K, M, U⟩)) := hown'
          clear hown' hg'
          go_wp2
          go_roundw
          case rel =>
            refine ⟨k + 1, by go_num, HA1.out.symm ▸ rfl, by first | rfl | (rw [HA1.out, HXV.out]), L ++ [⟨K, M, U⟩], by rw [List.length_append, HLL.out]; rfl, HTK.out, by have := HN.out; omega, ?_, HB9.out⟩
            rw [cellsP_snoc]
            exact HO9.out
          case measure => simp [intOf]; omega
        · replace o1 : K = 0 := o1
          replace o2 : D = 0 := o2
          have hUe : U.isEmpty = false := by cases U with | nil => exact absurd rfl o3 | cons x U => rfl
          have HTK := HTK0
          have e1 : unit1 M ⟨K, D, U⟩ = ⟨K, D, U⟩ := by unfold unit1; rw [if_neg (show ¬ 0 < (⟨K, D, U⟩ : Pt).keep by show ¬ 0 < K; omega), if_neg (show ¬ 0 < (⟨K, D, U⟩ : Pt).drop by show ¬ 0 < D; omega)]; show (⟨0, 0, U⟩ : Pt) = ⟨K, D, U⟩; rw [o1, o2]
          rw [e1] at HTK
          clear e1 HTK0 o1 o2 s1 s2 hob
          go_wp2_with (first
            | (go_at_call 63; refine Calls.mono CA.out ?_; rintro e w5 ⟨rfl, hb5⟩; have HB5 : Hid (Below w.heap.size w w5) := HBP.out.trans (hb5.mono HBP.out.size); have HO5 : Hid (w5.ownsRow w.heap.size 50 3 (.slice pv k cv) k (cellsP L)) := own_below HOP'.out hb5; have y0 := cell_on hb5 x0; have y1 := cell_on hb5 x1; have y2 := cell_on hb5 x2; have yf := (hb5.frozen (p := ⟨wr.heap.size, 0, none⟩) hltw).trans xf; have yg := (hb5.frozen (p := ⟨wr.heap.size, 1, none⟩) hltw).trans xg; have hba : Below w5.heap.size w5 (w5.alloc (.cells #[.int .i64 (C1 X), .int .i64 (C2 X), .int .i64 (C3 X), .int .i64 (C4 X)] 25)) := (Below.refl _ _).alloc (Nat.le_refl _) _; have HBA : Hid (Below w5.heap.size w5 (w5.alloc (.cells #[.int .i64 (C1 X), .int .i64 (C2 X), .int .i64 (C3 X), .int .i64 (C4 X)] 25))) := hba; have z0 := cell_on hba y0; have z1 := cell_on hba y1; have z2 := cell_on hba y2; have hlt5 : wr.heap.size < w5.heap.size := Nat.lt_of_lt_of_le hltw hb5.size; have HB6 : Hid (Below w.heap.size w (w5.alloc (.cells #[.int .i64 (C1 X), .int .i64 (C2 X), .int .i64 (C3 X), .int .i64 (C4 X)] 25))) := HB5.out.alloc HB5.out.size _; have HO6 : Hid ((w5.alloc (.cells #[.int .i64 (C1 X), .int .i64 (C2 X), .int .i64 (C3 X), .int .i64 (C4 X)] 25)).ownsRow w.heap.size 50 3 (.slice pv k cv) k (cellsP L)) := HO5.out.alloc _; have HCX : Hid (counted (w5.alloc (.cells #[.int .i64 (C1 X), .int .i64 (C2 X), .int .i64 (C3 X), .int .i64 (C4 X)] 25)) w5.heap.size (C1 X) (C2 X) (C3 X) (C4 X)) := counted_new w5 _ _ _ _ _; have HY0 : Hid (Pcell w5 wr.heap.size K D U) := ⟨y0, y1, y2, yf, yg⟩; clear hb5)
            | (go_at_call 30; refine (CI.out _).mono ?_; rintro e w8 ⟨rfl, hb8⟩; have HB8 : Hid (Below w.heap.size w w8) := HB6.out.trans (hb8.mono HB6.out.size); have HO8 : Hid (w8.ownsRow w.heap.size 50 3 (.slice pv k cv) k (cellsP L)) := own_below HO6.out hb8; have q0 := cell_on hb8 z0; have q1 := cell_on hb8 z1; have q2 := cell_on hb8 z2; have hs8 := HB8.out.size; clear hb8)
            | (at_builtin; refine wpList_append_own _ rfl _ _ 23 rfl w.heap.size 50 i0 (.agg #[.int .i64 0, .int .i64 0, .string ⟨#[]⟩]) 3 32 Tryz.underlying23 hi hz0 hz1 hz2 rfl (by decide) _ _ _ rfl (HO8.out.alloc _) ⟨w8.heap.size, 0, none⟩ 1 1 (partCells ⟨K, D, U⟩) rfl rfl (cells_newN _ _ (by first | rfl | simp) _ _) (partCells_one _) (by unfold maxLen; omega) (by omega) (by first | omega | (simp; omega)) ?_)
            | fail)
          intro v' w' hown' hg' _
          obtain ⟨p', c', rfl⟩ := own_slice hown'
          have HB9 : Hid (Below w.heap.size w w') := (HB8.out.alloc HB8.out.size _).grown hg' (by simp; omega) fun k hk => (HO8.out.lt k hk).1
          have HO9 : Hid (w'.ownsRow w.heap.size 50 3 (.slice p' (k + 1) c') (k + 1) (cellsP L ++ partCells ⟨K, D, U⟩)) := hown'
          clear hown' hg'
          go_wp2
          go_roundw
          case rel =>
            refine ⟨k + 1, by go_num, HA1.out.symm ▸ rfl, by first | rfl | (rw [HA1.out, HXV.out]), L ++ [⟨K, D, U⟩], by rw [List.length_append, HLL.out]; rfl, HTK.out, by have := HN.out; omega, ?_, HB9.out⟩
            rw [cellsP_snoc]
            exact HO9.out
          case measure => simp [intOf]; omega
      · have hed : onEdge rs u (A + (K + D)) = false := Bool.eq_false_iff.2 hed
        rw [if_neg (by rw [hed]; decide), if_neg (by rw [hed]; decide)] at cA
        rw [turnZ, if_neg (by rw [hld, hed]; decide)] at htz
        have e2 : (turnZ rs u v 0 qs).2 = false := by rw [htz]
        have HRX : Hid (turnX rs u v qs = 10 ∧ turnO rs u v qs = []) := by
          show turnX rs u v qs = 10 ∧ turnO rs u v qs = []
          unfold turnX turnO
          rw [e2]; exact ⟨rfl, rfl⟩
        rw [hh]
        unfold cntV at cA
        have CA : Hid _ := cA
        clear hown hbw' htz hA1' hAN hts hqm hkr hh hed cA hRLe hLk hdk hA e2 hob
        go_wp2_with (first
          | (go_at_call 63; refine Calls.mono CA.out ?_; rintro e w5 ⟨rfl, hb5⟩; have HB5 : Hid (Below w.heap.size w w5) := HBP.out.trans (hb5.mono HBP.out.size); have HB6 : Hid (Below w.heap.size w (w5.alloc (.cells #[.int .i64 (C1 []), .int .i64 (C2 []), .int .i64 (C3 []), .int .i64 (C4 [])] 25))) := HB5.out.alloc HB5.out.size _; clear hb5)
          | fail)
        go_ret2
        refine ⟨.slice none 0 0, ?_, ?_, HB6.out⟩
        · rw [HRX.out.1]; rfl
        · rw [HRX.out.2]; exact ⟨none, 0, rfl, Nat.le_refl _, Nat.zero_le _, fun h => absurd rfl h⟩
    · obtain rfl : k = n := by omega
      have e : qs.drop k = [] := List.drop_of_length_le (by rw [HN.out]; exact Nat.le_refl _)
      rw [e] at htz
      have htz2 : turnZ rs u v 0 qs = (L, true) := by rw [htz]; simp [turnZ]
      have HRX : Hid (turnX rs u v qs = 0 ∧ turnO rs u v qs = L) := by
        show turnX rs u v qs = 0 ∧ turnO rs u v qs = L
        unfold turnX turnO
        rw [htz2]; exact ⟨rfl, rfl⟩
      have HB : Hid (Below w.heap.size w wr) := hbw'
      have hop : opAt wr (.slice pv k cv) L := by
        have := hown
        rw [← hLk] at this ⊢
        exact opAt_own this
      have HOPW : Hid (opAt wr (.slice pv k cv) L) := hop
      clear hop hown e hbw' htz htz2 hLk
      go_wp2
      go_ret2
      refine ⟨.slice pv k cv, ?_, ?_, HB.out⟩
      · rw [HRX.out.1]; rfl
      · rw [HRX.out.2]; exact HOPW.out
end Go.Proofs.YtldhbjmillfjgabGreatDoor
