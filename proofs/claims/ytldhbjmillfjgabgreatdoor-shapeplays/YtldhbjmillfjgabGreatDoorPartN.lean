/-
  The document's own Turn.
  bridge.To and From, and the document's Turn, of any operation by any units.
  rosettalaw.ShapePlays: the law's own walk.
  rosettakeep's document and over: an operation in bytes that never cuts a rune of its text, or none.
  Compose and Invert of operations that never cut a rune (pure); three in one, in whichever order.
  Three operations (pure): composed alike in whichever order; and a third one sees no difference.
  ops' functions at operations that never cut a rune of their text, as rosettakeep calls them.
-/
import Derived.Test.YtldhbjmillfjgabGreatDoorPartM
import Derived.Test.YtldhbjmillfjgabGreatDoorPartG
import Derived.Test.YtldhbjmillfjgabGreatDoorPartL
import Derived.Test.YtldhbjmillfjgabGreatDoorPartC
import Derived.Test.YtldhbjmillfjgabGreatDoorPartJ
import Derived.Test.YtldhbjmillfjgabGreatDoorPartA
import Derived.Test.YtldhbjmillfjgabGreatDoorPartH
namespace Go.Proofs.YtldhbjmillfjgabGreatDoor
open Go.RowKit
set_option linter.unusedVariables false
attribute [local go_sem] Oper.semAt_some

/-- A part that lies in a box. -/
structure Pcell (w : World) (β : Nat) (K D : Int) (U : List UInt8) : Prop where
  c0 : w.cell? ⟨β, 0, none⟩ = some (.int .i64 K)
  c1 : w.cell? ⟨β, 1, none⟩ = some (.int .i64 D)
  c2 : w.cell? ⟨β, 2, none⟩ = some (.string ⟨U.toArray⟩)
  f0 : w.frozen? ⟨β, 0, none⟩ = false
  f1 : w.frozen? ⟨β, 1, none⟩ = false
theorem Pcell.below {w w' : World} {β : Nat} {K D : Int} {U : List UInt8} (h : Pcell w β K D U) (hb : Below w.heap.size w w') : Pcell w' β K D U := by
  have l := World.block_lt_of_cell? w _ h.c0
  exact ⟨cell_on hb h.c0, cell_on hb h.c1, cell_on hb h.c2, (hb.frozen (p := ⟨β, 0, none⟩) l).trans h.f0, (hb.frozen (p := ⟨β, 1, none⟩) l).trans h.f1⟩

set_option maxHeartbeats 1000000 in
theorem refTurn_unit (s : ByteArray) (u v : Int) (val : Value) (hu : ¬ (unitOk u ∧ unitOk v)) (w : World) :
    Calls Tryz.prog 10 #[.string s, .int .i64 u, .int .i64 v, val] w fun e w' => e = .returned (.tuple #[.slice none 0 0, .int .i64 1]) ∧ Below w.heap.size w w' := by
  have cU := fun wx => in_any u 1 3 wx
  have cV := fun wx => in_any v 1 3 wx
  by_cases h1 : unitOk u
  · have h2 : ¬ unitOk v := fun h => hu ⟨h1, h⟩
    rw [(inB_unit u).2 h1] at cU
    rw [Bool.eq_false_iff.2 fun e => h2 ((inB_unit v).1 e)] at cV
    have CU : Hid _ := cU
    have CV : Hid _ := cV
    clear hu h1 h2 cU cV
    go_enter Tryz.func10, Tryz.ntmps10
    go_wp2_with (first
      | (have _ := hfirst; go_at_call 61; refine (CV.out _).mono ?_; rintro e w1 ⟨rfl, hw1⟩; obtain rfl := hw1.symm)
      | (go_at_call 61; refine (CU.out _).mono ?_; rintro e w1 ⟨rfl, hw1⟩; obtain rfl := hw1.symm; have hfirst := trivial)
      | fail)
    go_ret2
    exact ⟨rfl, Below.refl _ _⟩
  · rw [Bool.eq_false_iff.2 fun e => h1 ((inB_unit u).1 e)] at cU
    have CU : Hid _ := cU
    clear hu h1 cU cV
    go_enter Tryz.func10, Tryz.ntmps10
    go_wp2_with (first
      | (go_at_call 61; refine (CU.out _).mono ?_; rintro e w1 ⟨rfl, hw1⟩; obtain rfl := hw1.symm)
      | fail)
    go_ret2
    exact ⟨rfl, Below.refl _ _⟩

set_option maxRecDepth 100000 in
set_option maxHeartbeats 4000000 in
theorem refTurn_chk (s : ByteArray) (rs : List Nat) (u v : Int) (qs : List Pt) (val : Value) (w : World) (hr : ∀ r ∈ rs, isRune r) (he : encs rs = s.data.toList) (hs : s.size < 1000000) (hu : unitOk u) (hv : unitOk v) (ho : opAt w val qs) (hwf : ∀ q ∈ qs, wfP q) (hsm : ∀ q ∈ qs, q.put.length < 100000000) (hl : qs.length ≤ 1000) (hc : chkE qs (by_ u rs) ≠ 0) :
    Calls Tryz.prog 10 #[.string s, .int .i64 u, .int .i64 v, val] w fun e w' => e = .returned (.tuple #[.slice none 0 0, .int .i64 (chkE qs (by_ u rs))]) ∧ Below w.heap.size w w' := by
  have hC1 : C1 rs = s.size := by rw [C1_len, he, ← Lib.size_eq]
  have hu0 : -9223372036854775808 ≤ u ∧ u < 9223372036854775808 := by unfold unitOk at hu; omega
  have hub : by_ u rs ≤ 3000000 := by
    have h2 := C2_le rs; have h3 := C3_le rs
    unfold by_; split <;> (try split) <;> (try split) <;> omega
  have hup := by_pos u rs
  have cU := fun wx => in_any u 1 3 wx
  have cV := fun wx => in_any v 1 3 wx
  rw [(inB_unit u).2 hu] at cU
  rw [(inB_unit v).2 hv] at cV
  have CU : Hid _ := cU
  have CV : Hid _ := cV
  have cC : Hid (∀ wx, Calls Tryz.prog 8 #[.string s] wx fun e w' => e = .returned (.tuple #[cntV rs, .agg #[.int .i64 0, .int .i64 (-1)]]) ∧ Below wx.heap.size wx w') := fun wx => refCount_of s rs hr he (by omega) wx
  have cN : Hid (∀ wx, Calls Tryz.prog 30 #[cntV rs, .int .i64 u] wx fun e w' => e = .returned (.int .i64 (by_ u rs)) ∧ Below wx.heap.size wx w') := fun wx => refIn_any u rs hu0.1 hu0.2 (by omega) wx
  have cK : Hid (∀ wx, Below w.heap.size w wx → Calls Tryz.prog 62 #[val, .int .i64 (by_ u rs)] wx fun e w' => e = .returned (.int .i64 (chkE qs (by_ u rs))) ∧ Below wx.heap.size wx w') := fun wx hb => refCheck_any val qs (by_ u rs) wx (opAt_below ho hb (Nat.le_refl _)) hwf hsm (by omega) (by omega)
  obtain ⟨p, c, rfl, _⟩ := ho
  obtain ⟨E, hE⟩ : ∃ E, chkE qs (by_ u rs) = E := ⟨_, rfl⟩
  rw [hE] at cK hc ⊢
  have hne : (E == 0) = false := beq_eq_false_iff_ne.2 hc
  obtain ⟨Bu, hBu⟩ : ∃ Bu, by_ u rs = Bu := ⟨_, rfl⟩
  rw [hBu] at cN cK
  unfold cntV at cC cN
  clear cU cV hr he hs hu hv hwf hsm hC1 hu0 hub hup hE hBu
  go_enter Tryz.func10, Tryz.ntmps10
  go_wp2_with (first
    | (have _ := hfirst; go_at_call 61; refine (CV.out _).mono ?_; rintro e w1 ⟨rfl, hw1⟩; obtain rfl := hw1.symm)
    | (go_at_call 61; refine (CU.out _).mono ?_; rintro e w1 ⟨rfl, hw1⟩; obtain rfl := hw1.symm; have hfirst := trivial)
    | (go_at_call 8; refine (cC.out _).mono ?_; rintro e w1 ⟨rfl, hb1⟩; have hbx := (Below.refl w1.heap.size w1).alloc (Nat.le_refl _) (.cells #[.int .i64 (C1 rs), .int .i64 (C2 rs), .int .i64 (C3 rs), .int .i64 (C4 rs)] 25); have hby := hbx.alloc hbx.size (.cells #[.int .i64 0, .int .i64 (-1)] 28); have HB1 : Hid (Below w.heap.size w ((w1.alloc (.cells #[.int .i64 (C1 rs), .int .i64 (C2 rs), .int .i64 (C3 rs), .int .i64 (C4 rs)] 25)).alloc (.cells #[.int .i64 0, .int .i64 (-1)] 28))) := hb1.trans (hby.mono hb1.size); clear hb1 hbx hby)
    | (go_at_call 30; refine (cN.out _).mono ?_; rintro e w2 ⟨rfl, hb2⟩; have HB2 : Hid (Below w.heap.size w w2) := HB1.out.trans (hb2.mono HB1.out.size); clear hb2)
    | (go_at_call 62; refine (cK.out _ HB2.out).mono ?_; rintro e w3 ⟨rfl, hb3⟩; have HB3 : Hid (Below w.heap.size w w3) := HB2.out.trans (hb3.mono HB2.out.size); clear hb3)
    | fail)
  go_ret2
  exact ⟨rfl, HB3.out⟩
theorem own_setNe {w : World} {B e size n b o : Nat} {v : Value} {xs : List Value} (h : w.ownsRow B e size v n xs) (hb : ∀ j, v.ownBlock = some j → j < b) (u : Value) : (w.setCell ⟨b, o, none⟩ u).ownsRow B e size v n xs := by
  obtain ⟨h0, hrow⟩ := h
  refine ⟨h0, ?_⟩
  rcases hrow with hn | ⟨g, cap, cur, rfl, hg, hgg, rest⟩
  · exact .inl hn
  · exact .inr ⟨g, cap, cur, rfl, hg, (Below.heap_setCell _ _ _ _ (by show g ≠ b; have := hb g rfl; omega)).trans hgg, rest⟩
theorem pset0 {w : World} {β : Nat} {K D : Int} {U : List UInt8} (h : Pcell w β K D U) (M : Int) : Pcell (w.setCell ⟨β, 0, none⟩ (.int .i64 M)) β M D U := by
  obtain ⟨h0, h1, h2, h3, h4⟩ := h
  refine ⟨?_, ?_, ?_, ?_, ?_⟩ <;> simp [go_sem, h0, h1, h2, h3, h4]
theorem pset1 {w : World} {β : Nat} {K D : Int} {U : List UInt8} (h : Pcell w β K D U) (M : Int) : Pcell (w.setCell ⟨β, 1, none⟩ (.int .i64 M)) β K M U := by
  obtain ⟨h0, h1, h2, h3, h4⟩ := h
  refine ⟨?_, ?_, ?_, ?_, ?_⟩ <;> simp [go_sem, h0, h1, h2, h3, h4]

set_option maxRecDepth 100000 in
set_option maxHeartbeats 8000000 in
theorem refTurn_fine (s : ByteArray) (rs : List Nat) (u v : Int) (qs : List Pt) (val : Value) (w : World) (hr : ∀ r ∈ rs, isRune r) (he : encs rs = s.data.toList) (hs : s.size < 1000000) (hu : unitOk u) (hv : unitOk v) (ho : opAt w val qs) (hwf : ∀ q ∈ qs, wfP q) (hsm : ∀ q ∈ qs, q.put.length < 100000000) (hl : qs.length ≤ 1000) (hc : chkE qs (by_ u rs) = 0) :
    Calls Tryz.prog 10 #[.string s, .int .i64 u, .int .i64 v, val] w fun e w' => ∃ v', e = .returned (.tuple #[v', .int .i64 (turnX rs u v qs)]) ∧ opAt w' v' (turnO rs u v qs) ∧ Below w.heap.size w w' := by
  obtain ⟨hp1, hp2, hp3⟩ := chkE_parts hc
  have hC1 : C1 rs = s.size := by rw [C1_len, he, ← Lib.size_eq]
  have hu0 : -9223372036854775808 ≤ u ∧ u < 9223372036854775808 := by unfold unitOk at hu; omega
  have hv0 : -9223372036854775808 ≤ v ∧ v < 9223372036854775808 := by unfold unitOk at hv; omega
  have hub : ∀ x : Int, by_ x rs ≤ 3000000 := fun x => by
    have h2 := C2_le rs; have h3 := C3_le rs; have h1 := C1_pos rs
    unfold by_; split <;> (try split) <;> (try split) <;> omega
  have hup := by_pos u rs
  have cU := fun wx => in_any u 1 3 wx
  have cV := fun wx => in_any v 1 3 wx
  rw [(inB_unit u).2 hu] at cU
  rw [(inB_unit v).2 hv] at cV
  have CU : Hid _ := cU
  have CV : Hid _ := cV
  have cC : Hid (∀ wx, Calls Tryz.prog 8 #[.string s] wx fun e w' => e = .returned (.tuple #[cntV rs, .agg #[.int .i64 0, .int .i64 (-1)]]) ∧ Below wx.heap.size wx w') := fun wx => refCount_of s rs hr he (by omega) wx
  have cN : Hid (∀ wx, Calls Tryz.prog 30 #[cntV rs, .int .i64 u] wx fun e w' => e = .returned (.int .i64 (by_ u rs)) ∧ Below wx.heap.size wx w') := fun wx => refIn_any u rs hu0.1 hu0.2 (by omega) wx
  have hub1 := hub u
  have cK : Hid (∀ wx, Below w.heap.size w wx → Calls Tryz.prog 62 #[val, .int .i64 (by_ u rs)] wx fun e w' => e = .returned (.int .i64 0) ∧ Below wx.heap.size wx w') := fun wx hb => by
    have := refCheck_any val qs (by_ u rs) wx (opAt_below ho hb (Nat.le_refl _)) hwf hsm (by omega) (by omega)
    rw [hc] at this
    exact this
  have CAH : Hid (∀ a wx, 0 ≤ a → a ≤ by_ u rs → Calls Tryz.prog 63 #[.string s, .int .i64 u, .int .i64 a] wx fun e w' => e = .returned (.tuple #[cntV (if onEdge rs u a then upTo rs u a else []), .int .i64 (if onEdge rs u a then 0 else 10)]) ∧ Below wx.heap.size wx w') := fun a wx h0 h1 => refAhead_any s rs u a hr he hs hu h0 h1 wx
  have CIH : Hid (∀ X wx, C1 X ≤ 100000000 → Calls Tryz.prog 30 #[cntV X, .int .i64 v] wx fun e w' => e = .returned (.int .i64 (by_ v X)) ∧ Below wx.heap.size wx w') := fun X wx h => refIn_any v X hv0.1 hv0.2 h wx
  have HP1 : Hid (∀ p ∈ qs, oneB p = true ∧ (scan p.put).2 = true) := hp1
  have HP2 : Hid (longP qs = by_ u rs) := hp2
  have HP3 : Hid (∀ q ∈ qs, 0 ≤ lenP q) := hp3
  have HUB : Hid (∀ x : Int, by_ x rs ≤ 3000000) := hub
  have HC1 : Hid (C1 rs ≤ 3000000) := by show C1 rs ≤ 3000000; omega
  have HOP : Hid (opAt w val qs) := ho
  obtain ⟨p, c, rfl, r1, r2, r3⟩ := ho
  obtain ⟨n, hn⟩ : ∃ n, qs.length = n := ⟨_, rfl⟩
  have HN : Hid (qs.length = n) := hn
  rw [hn] at r1 hl cK ⊢
  obtain ⟨i0, hi, hz0, hz1, hz2⟩ := info_parts info_part
  obtain ⟨RL, hRL⟩ : ∃ RL : Int, by_ u rs = RL := ⟨_, rfl⟩
  rw [hRL] at cN cK hub1 hup
  have HRL : Hid (by_ u rs = RL) := hRL
  unfold cntV at cC cN
  unfold maxLen at r2
  clear cU cV hr he hs hu hv hwf hsm hC1 hu0 hv0 hub hp1 hp2 hp3 hc hn r3 hRL
  go_enter Tryz.func10, Tryz.ntmps10
  go_wp2_with (first
    | (have _ := hfirst; go_at_call 61; refine (CV.out _).mono ?_; rintro e w1 ⟨rfl, hw1⟩; obtain rfl := hw1.symm)
    | (go_at_call 61; refine (CU.out _).mono ?_; rintro e w1 ⟨rfl, hw1⟩; obtain rfl := hw1.symm; have hfirst := trivial)
    | (go_at_call 8; refine (cC.out _).mono ?_; rintro e w1 ⟨rfl, hb1⟩; have hbx := (Below.refl w1.heap.size w1).alloc (Nat.le_refl _) (.cells #[.int .i64 (C1 rs), .int .i64 (C2 rs), .int .i64 (C3 rs), .int .i64 (C4 rs)] 25); have hby := hbx.alloc hbx.size (.cells #[.int .i64 0, .int .i64 (-1)] 28); have HB1 : Hid (Below w.heap.size w ((w1.alloc (.cells #[.int .i64 (C1 rs), .int .i64 (C2 rs), .int .i64 (C3 rs), .int .i64 (C4 rs)] 25)).alloc (.cells #[.int .i64 0, .int .i64 (-1)] 28))) := hb1.trans (hby.mono hb1.size); clear hb1 hbx hby)
    | (go_at_call 30; refine (cN.out _).mono ?_; rintro e w2 ⟨rfl, hb2⟩; have HB2 : Hid (Below w.heap.size w w2) := HB1.out.trans (hb2.mono HB1.out.size); clear hb2)
    | (go_at_call 62; refine (cK.out _ HB2.out).mono ?_; rintro e w3 ⟨rfl, hb3⟩; have HB3 : Hid (Below w.heap.size w w3) := HB2.out.trans (hb3.mono HB2.out.size); clear hb3)
    | fail)
  clear HB1 HB2 CU CV cC cN cK
  go_loopw [13, 14, 15, 43] (fun v13 v14 v15 i wr => ∃ k : Nat, i = .int .i64 k ∧ v14 = .int .i64 (longP (qs.take k)) ∧ v15 = .int .i64 (by_ v (upTo rs u (longP (qs.take k)))) ∧ ∃ L : List Pt, L.length = k ∧ turnZ rs u v 0 qs = (L ++ (turnZ rs u v (longP (qs.take k)) (qs.drop k)).1, (turnZ rs u v (longP (qs.take k)) (qs.drop k)).2) ∧ k ≤ n ∧ wr.ownsRow w.heap.size 50 3 v13 k (cellsP L) ∧ Below w.heap.size w wr) (fun _ _ _ i _ => n - (intOf i).toNat)
  case atStart =>
    have e1 : longP (qs.take 0) = 0 := by simp [longP]
    refine ⟨0, rfl, by rw [e1], by rw [e1, upTo_zero, by_nil], [], rfl, by rw [e1]; rfl, Nat.zero_le _, World.ownsRow_nil _ _ _ _, HB3.out⟩
  case round =>
    obtain ⟨k, rfl, rfl, rfl, L, hLk, htz, hk, hown, hbw'⟩ := hrel
    obtain ⟨pv, cv, rfl⟩ := own_slice hown
    clear HB3
    by_cases hlt : k < n
    · have hkr : k < qs.length := by rw [HN.out]; exact hlt
      have hne : qs ≠ [] := by intro e; rw [e] at hkr; exact absurd hkr (Nat.not_lt_zero _)
      obtain ⟨p0, c0, hvv, _, _, hcell⟩ := HOP.out
      obtain ⟨b0, o, rfl, hb0, hcell⟩ := hcell hne
      obtain ⟨f0, f1, f2⟩ := hcell k qs[k] (List.getElem?_eq_getElem hkr)
      have g0 := (hbw'.cell (p := ⟨b0, o + k * 3, none⟩) hb0).trans f0
      have g1 := (hbw'.cell (p := ⟨b0, o + k * 3 + 1, none⟩) hb0).trans f1
      have g2 := (hbw'.cell (p := ⟨b0, o + k * 3 + 2, none⟩) hb0).trans f2
      obtain rfl : p = some ⟨b0, o, none⟩ := by injection hvv
      clear hvv hcell f0 f1 f2 hne
      have hqm : qs[k] ∈ qs := List.getElem_mem _
      have hob := (HP1.out _ hqm).1
      have hts : qs.take (k + 1) = qs.take k ++ [qs[k]] := List.take_succ_eq_append_getElem hkr
      have hA1' : longP (qs.take (k + 1)) = longP (qs.take k) + lenP qs[k] := by rw [hts, long_append]; simp [longP]
      have hA0 : 0 ≤ longP (qs.take k) := sum_pos fun q hq => HP3.out q (List.mem_of_mem_take hq)
      have hAN : longP (qs.take (k + 1)) ≤ RL := by
        have e2 : longP qs = longP (qs.take (k + 1)) + longP (qs.drop (k + 1)) := by rw [← long_append, List.take_append_drop]
        have := sum_pos fun q hq => HP3.out q (List.mem_of_mem_drop (i := k + 1) hq)
        have := HP2.out; have := HRL.out
        omega
      have hdk : qs.drop k = qs[k] :: qs.drop (k + 1) := List.drop_eq_getElem_cons hkr
      rw [hdk] at htz
      generalize qs[k] = q at *
      obtain ⟨K, D, U⟩ := q
      obtain ⟨A, hA⟩ : ∃ A, longP (qs.take k) = A := ⟨_, rfl⟩
      rw [hA] at hA1' hA0 htz ⊢
      have hld : lenP ⟨K, D, U⟩ = K + D := rfl
      rw [hld] at hA1'
      have hsnd := (one_sound hob).1
      obtain ⟨s1, s2⟩ := hsnd
      have s1 : 0 ≤ K := s1
      have s2 : 0 ≤ D := s2
      have hRLe := HRL.out
      have hw0 : IntKind.i64.wrap (K + D) = K + D := by rw [IntKind.wrap_i64]; omega
      have hw3 : IntKind.i64.wrap (A + (K + D)) = A + (K + D) := by rw [IntKind.wrap_i64]; omega
      have hj : (k : Int) < (n : Int) := by omega
      have HOP' : Hid ((wr.alloc (.cells #[.int .i64 K, .int .i64 D, .string ⟨U.toArray⟩] 50)).ownsRow w.heap.size 50 3 (.slice pv k cv) k (cellsP L)) := hown.alloc _
      have HLT : Hid (∀ j, (Value.slice pv k cv).ownBlock = some j → j < wr.heap.size) := fun j hj => (hown.lt j hj).2
      have HBP : Hid (Below w.heap.size w (wr.alloc (.cells #[.int .i64 K, .int .i64 D, .string ⟨U.toArray⟩] 50))) := hbw'.alloc hbw'.size _
      have hwlt := hbw'.size
      have hltw : wr.heap.size < (wr.alloc (.cells #[.int .i64 K, .int .i64 D, .string ⟨U.toArray⟩] 50)).heap.size := by simp
      have x0 : (wr.alloc (.cells #[.int .i64 K, .int .i64 D, .string ⟨U.toArray⟩] 50)).cell? ⟨wr.heap.size, 0, none⟩ = some (.int .i64 K) := by simp [go_sem]
      have x1 : (wr.alloc (.cells #[.int .i64 K, .int .i64 D, .string ⟨U.toArray⟩] 50)).cell? ⟨wr.heap.size, 1, none⟩ = some (.int .i64 D) := by simp [go_sem]
      have x2 : (wr.alloc (.cells #[.int .i64 K, .int .i64 D, .string ⟨U.toArray⟩] 50)).cell? ⟨wr.heap.size, 2, none⟩ = some (.string ⟨U.toArray⟩) := by simp [go_sem]
      have xf : (wr.alloc (.cells #[.int .i64 K, .int .i64 D, .string ⟨U.toArray⟩] 50)).frozen? ⟨wr.heap.size, 0, none⟩ = false := by simp [go_sem]
      have xg : (wr.alloc (.cells #[.int .i64 K, .int .i64 D, .string ⟨U.toArray⟩] 50)).frozen? ⟨wr.heap.size, 1, none⟩ = false := by simp [go_sem]
      have cA := CAH.out (A + (K + D)) (wr.alloc (.cells #[.int .i64 K, .int .i64 D, .string ⟨U.toArray⟩] 50)) (by omega) (by omega)
      obtain ⟨h, hh⟩ : ∃ h, by_ v (upTo rs u A) = h := ⟨_, rfl⟩
      by_cases hed : onEdge rs u (A + (K + D)) = true
      · rw [if_pos hed, if_pos hed] at cA
        rw [turnZ, if_pos (by rw [hld]; exact hed)] at htz
        have hXle1 := upTo_le (v := 1) rs (u := u) (a := A + (K + D)) (by omega)
        have hXle := upTo_le (v := v) rs (u := u) (a := A + (K + D)) (by omega)
        have hmono := upTo_mono (u := u) (v := v) rs (a := A) (b := A + (K + D)) (by omega) (by omega)
        have hp0 := by_pos v (upTo rs u A)
        have hHU := HUB.out v
        have hHC := HC1.out
        have hby1 : ∀ y, by_ 1 y = C1 y := fun _ => rfl
        rw [hby1, hby1] at hXle1
        rw [hld] at htz
        obtain ⟨X, hX⟩ : ∃ X, upTo rs u (A + (K + D)) = X := ⟨_, rfl⟩
        rw [hX] at cA htz hXle hXle1 hmono
        have cI := fun wx => CIH.out X wx (by omega)
        obtain ⟨XV, hXV⟩ : ∃ XV, by_ v X = XV := ⟨_, rfl⟩
        rw [hXV] at cI htz hXle hmono
        rw [hh] at htz hmono hp0 ⊢
        obtain ⟨M, hM⟩ : ∃ M, XV - h = M := ⟨_, rfl⟩
        rw [hM] at htz
        have hwM : IntKind.i64.wrap (XV - h) = M := by rw [IntKind.wrap_i64]; omega
        have HTK0 : Hid (turnZ rs u v 0 qs = ((L ++ [unit1 M ⟨K, D, U⟩]) ++ (turnZ rs u v (longP (qs.take (k + 1))) (qs.drop (k + 1))).1, (turnZ rs u v (longP (qs.take (k + 1))) (qs.drop (k + 1))).2)) := by
          show turnZ rs u v 0 qs = _
          rw [htz, hA1']; simp
        have HA1 : Hid (longP (qs.take (k + 1)) = A + (K + D)) := hA1'
        have HXV : Hid (by_ v (upTo rs u (A + (K + D))) = XV) := by show by_ v (upTo rs u (A + (K + D))) = XV; rw [hX, hXV]
        have HLL : Hid (L.length = k) := hLk
        unfold cntV at cA cI
        have CA : Hid _ := cA
        have CI : Hid _ := cI
        have HOPX := HOP'
        clear hown hbw' htz hA1' hAN hts hqm hkr hXle hXle1 hmono hp0 hHU hHC hby1 hX hXV hh hM hed cA cI hRLe hLk hdk hA HOP
        have HOP := HOP'
        rcases oneB_shapes hob with ⟨o1, o2, o3⟩ | ⟨o1, o2, o3⟩ | ⟨o1, o2, o3⟩
        · replace o1 : 0 < K := o1
          replace o2 : D = 0 := o2
          replace o3 : U = [] := o3
          have hUe : U.isEmpty = true := by rw [o3]; rfl
          have HTK := HTK0
          have e1 : unit1 M ⟨K, D, U⟩ = ⟨M, D, U⟩ := by unfold unit1; rw [if_pos o1]; show (⟨M, 0, []⟩ : Pt) = ⟨M, D, U⟩; rw [o2, o3]
          rw [e1] at HTK
          clear e1 HTK0 o2 o3 s2 hob
          go_wp2_with (first
            | (go_at_call 63; refine Calls.mono CA.out ?_; rintro e w5 ⟨rfl, hb5⟩; have HB5 : Hid (Below w.heap.size w w5) := HBP.out.trans (hb5.mono HBP.out.size); have HO5 : Hid (w5.ownsRow w.heap.size 50 3 (.slice pv k cv) k (cellsP L)) := own_below HOP'.out hb5; have y0 := cell_on hb5 x0; have y1 := cell_on hb5 x1; have y2 := cell_on hb5 x2; have yf := (hb5.frozen (p := ⟨wr.heap.size, 0, none⟩) hltw).trans xf; have yg := (hb5.frozen (p := ⟨wr.heap.size, 1, none⟩) hltw).trans xg; have hba : Below w5.heap.size w5 (w5.alloc (.cells #[.int .i64 (C1 X), .int .i64 (C2 X), .int .i64 (C3 X), .int .i64 (C4 X)] 25)) := (Below.refl _ _).alloc (Nat.le_refl _) _; have HBA : Hid (Below w5.heap.size w5 (w5.alloc (.cells #[.int .i64 (C1 X), .int .i64 (C2 X), .int .i64 (C3 X), .int .i64 (C4 X)] 25))) := hba; have z0 := cell_on hba y0; have z1 := cell_on hba y1; have z2 := cell_on hba y2; have hlt5 : wr.heap.size < w5.heap.size := Nat.lt_of_lt_of_le hltw hb5.size; have HB6 : Hid (Below w.heap.size w (w5.alloc (.cells #[.int .i64 (C1 X), .int .i64 (C2 X), .int .i64 (C3 X), .int .i64 (C4 X)] 25))) := HB5.out.alloc HB5.out.size _; have HO6 : Hid ((w5.alloc (.cells #[.int .i64 (C1 X), .int .i64 (C2 X), .int .i64 (C3 X), .int .i64 (C4 X)] 25)).ownsRow w.heap.size 50 3 (.slice pv k cv) k (cellsP L)) := HO5.out.alloc _; have HCX : Hid (counted (w5.alloc (.cells #[.int .i64 (C1 X), .int .i64 (C2 X), .int .i64 (C3 X), .int .i64 (C4 X)] 25)) w5.heap.size (C1 X) (C2 X) (C3 X) (C4 X)) := counted_new w5 _ _ _ _ _; have HY0 : Hid (Pcell w5 wr.heap.size K D U) := ⟨y0, y1, y2, yf, yg⟩; clear hb5)
            | (have _ := HM7; go_at_call 30; refine (CI.out _).mono ?_; rintro e w8 ⟨rfl, hb8⟩; have HB7s : Below w.heap.size w (w7.setCell ⟨wr.heap.size, 0, none⟩ (.int .i64 M)) := HB7.out.setCell (p := ⟨wr.heap.size, 0, none⟩) hwlt _; have HB8 : Hid (Below w.heap.size w w8) := HB7s.trans (hb8.mono HB7s.size); have HO8 : Hid (w8.ownsRow w.heap.size 50 3 (.slice pv k cv) k (cellsP L)) := own_below (own_setNe HO7.out HLT.out _) hb8; obtain ⟨q0, q1, q2, q3, q4⟩ := (pset0 HP7.out M).below hb8; have hs8 := HB8.out.size; clear hb8 HB7s)
            | (go_at_call 30; refine (CI.out _).mono ?_; rintro e w7 ⟨rfl, hb7⟩; have HB7 : Hid (Below w.heap.size w w7) := HB6.out.trans (hb7.mono HB6.out.size); have HO7 : Hid (w7.ownsRow w.heap.size 50 3 (.slice pv k cv) k (cellsP L)) := own_below HO6.out hb7; have HP7 : Hid (Pcell w7 wr.heap.size K D U) := (HY0.out.below HBA.out).below hb7; obtain ⟨n0, n1, n2, n3, n4⟩ := (HY0.out.below HBA.out).below hb7; have hc7 := counted_below HCX.out hb7; obtain ⟨⟨c0', c1', c2', c3'⟩, _⟩ := hc7; have HM7 := trivial; clear hb7)
            | (at_builtin; refine wpList_append_own _ rfl _ _ 23 rfl w.heap.size 50 i0 (.agg #[.int .i64 0, .int .i64 0, .string ⟨#[]⟩]) 3 32 Tryz.underlying23 hi hz0 hz1 hz2 rfl (by decide) _ _ _ rfl (HO8.out.alloc _) ⟨w8.heap.size, 0, none⟩ 1 1 (partCells ⟨M, D, U⟩) rfl rfl (cells_newN _ _ (by first | rfl | simp) _ _) (partCells_one _) (by unfold maxLen; omega) (by omega) (by first | omega | (simp; omega)) ?_)
            | fail)
          intro v' w' hown' hg' _
          obtain ⟨p', c', rfl⟩ := own_slice hown'
          have HB9 : Hid (Below w.heap.size w w') := (HB8.out.alloc HB8.out.size _).grown hg' (by simp; omega) fun k hk => (HO8.out.lt k hk).1
          have HO9 : Hid (w'.ownsRow w.heap.size 50 3 (.slice p' (k + 1) c') (k + 1) (cellsP L ++ partCells ⟨M, D, U⟩)) := hown'
          clear hown' hg'
          go_wp2
          go_roundw
          case rel =>
            refine ⟨k + 1, by go_num, HA1.out.symm ▸ rfl, by first | rfl | (rw [HA1.out, HXV.out]), L ++ [⟨M, D, U⟩], by rw [List.length_append, HLL.out]; rfl, HTK.out, by have := HN.out; omega, ?_, HB9.out⟩
            rw [cellsP_snoc]
            exact HO9.out
          case measure => simp [intOf]; omega
        · replace o1 : K = 0 := o1
          replace o2 : 0 < D := o2
          replace o3 : U = [] := o3
          have hUe : U.isEmpty = true := by rw [o3]; rfl
          have HTK := HTK0
          have hK0 : ¬ 0 < K := by omega
          have e1 : unit1 M ⟨K, D, U⟩ = ⟨K, M, U⟩ := by unfold unit1; rw [if_neg (show ¬ 0 < (⟨K, D, U⟩ : Pt).keep from hK0), if_pos o2]; show (⟨0, M, []⟩ : Pt) = ⟨K, M, U⟩; rw [o1, o3]
          rw [e1] at HTK
          clear e1 HTK0 o1 o3 s1 hob
          go_wp2_with (first
            | (go_at_call 63; refine Calls.mono CA.out ?_; rintro e w5 ⟨rfl, hb5⟩; have HB5 : Hid (Below w.heap.size w w5) := HBP.out.trans (hb5.mono HBP.out.size); have HO5 : Hid (w5.ownsRow w.heap.size 50 3 (.slice pv k cv) k (cellsP L)) := own_below HOP'.out hb5; have y0 := cell_on hb5 x0; have y1 := cell_on hb5 x1; have y2 := cell_on hb5 x2; have yf := (hb5.frozen (p := ⟨wr.heap.size, 0, none⟩) hltw).trans xf; have yg := (hb5.frozen (p := ⟨wr.heap.size, 1, none⟩) hltw).trans xg; have hba : Below w5.heap.size w5 (w5.alloc (.cells #[.int .i64 (C1 X), .int .i64 (C2 X), .int .i64 (C3 X), .int .i64 (C4 X)] 25)) := (Below.refl _ _).alloc (Nat.le_refl _) _; have HBA : Hid (Below w5.heap.size w5 (w5.alloc (.cells #[.int .i64 (C1 X), .int .i64 (C2 X), .int .i64 (C3 X), .int .i64 (C4 X)] 25))) := hba; have z0 := cell_on hba y0; have z1 := cell_on hba y1; have z2 := cell_on hba y2; have hlt5 : wr.heap.size < w5.heap.size := Nat.lt_of_lt_of_le hltw hb5.size; have HB6 : Hid (Below w.heap.size w (w5.alloc (.cells #[.int .i64 (C1 X), .int .i64 (C2 X), .int .i64 (C3 X), .int .i64 (C4 X)] 25))) := HB5.out.alloc HB5.out.size _; have HO6 : Hid ((w5.alloc (.cells #[.int .i64 (C1 X), .int .i64 (C2 X), .int .i64 (C3 X), .int .i64 (C4 X)] 25)).ownsRow w.heap.size 50 3 (.slice pv k cv) k (cellsP L)) := HO5.out.alloc _; have HCX : Hid (counted (w5.alloc (.cells #[.int .i64 (C1 X), .int .i64 (C2 X), .int .i64 (C3 X), .int .i64 (C4 X)] 25)) w5.heap.size (C1 X) (C2 X) (C3 X) (C4 X)) := counted_new w5 _ _ _ _ _; have HY0 : Hid (Pcell w5 wr.heap.size K D U) := ⟨y0, y1, y2, yf, yg⟩; clear hb5)
            | (have _ := HM7; go_at_call 30; refine (CI.out _).mono ?_; rintro e w8 ⟨rfl, hb8⟩; have HB7s : Below w.heap.size w (w7.setCell ⟨wr.heap.size, 1, none⟩ (.int .i64 M)) := HB7.out.setCell (p := ⟨wr.heap.size, 1, none⟩) hwlt _; have HB8 : Hid (Below w.heap.size w w8) := HB7s.trans (hb8.mono HB7s.size); have HO8 : Hid (w8.ownsRow w.heap.size 50 3 (.slice pv k cv) k (cellsP L)) := own_below (own_setNe HO7.out HLT.out _) hb8; obtain ⟨q0, q1, q2, q3, q4⟩ := (pset1 HP7.out M).below hb8; have hs8 := HB8.out.size; clear hb8 HB7s)
            | (go_at_call 30; refine (CI.out _).mono ?_; rintro e w7 ⟨rfl, hb7⟩; have HB7 : Hid (Below w.heap.size w w7) := HB6.out.trans (hb7.mono HB6.out.size); have HO7 : Hid (w7.ownsRow w.heap.size 50 3 (.slice pv k cv) k (cellsP L)) := own_below HO6.out hb7; have HP7 : Hid (Pcell w7 wr.heap.size K D U) := (HY0.out.below HBA.out).below hb7; obtain ⟨n0, n1, n2, n3, n4⟩ := (HY0.out.below HBA.out).below hb7; have hc7 := counted_below HCX.out hb7; obtain ⟨⟨c0', c1', c2', c3'⟩, _⟩ := hc7; have HM7 := trivial; clear hb7)
            | (at_builtin; refine wpList_append_own _ rfl _ _ 23 rfl w.heap.size 50 i0 (.agg #[.int .i64 0, .int .i64 0, .string ⟨#[]⟩]) 3 32 Tryz.underlying23 hi hz0 hz1 hz2 rfl (by decide) _ _ _ rfl (HO8.out.alloc _) ⟨w8.heap.size, 0, none⟩ 1 1 (partCells ⟨K, M, U⟩) rfl rfl (cells_newN _ _ (by first | rfl | simp) _ _) (partCells_one _) (by unfold maxLen; omega) (by omega) (by first | omega | (simp; omega)) ?_)
            | fail)
          intro v' w' hown' hg' _
          obtain ⟨p', c', rfl⟩ := own_slice hown'
          have HB9 : Hid (Below w.heap.size w w') := (HB8.out.alloc HB8.out.size _).grown hg' (by simp; omega) fun k hk => (HO8.out.lt k hk).1
          have HO9 : Hid (w'.ownsRow w.heap.size 50 3 (.slice p' (k + 1) c') (k + 1) (cellsP L ++ partCells ⟨K, M, U⟩)) := hown'
          clear hown' hg'
          go_wp2
          go_roundw
          case rel =>
            refine ⟨k + 1, by go_num, HA1.out.symm ▸ rfl, by first | rfl | (rw [HA1.out, HXV.out]), L ++ [⟨K, M, U⟩], by rw [List.length_append, HLL.out]; rfl, HTK.out, by have := HN.out; omega, ?_, HB9.out⟩
            rw [cellsP_snoc]
            exact HO9.out
          case measure => simp [intOf]; omega
        · replace o1 : K = 0 := o1
          replace o2 : D = 0 := o2
          have hUe : U.isEmpty = false := by cases U with | nil => exact absurd rfl o3 | cons x U => rfl
          have HTK := HTK0
          have e1 : unit1 M ⟨K, D, U⟩ = ⟨K, D, U⟩ := by unfold unit1; rw [if_neg (show ¬ 0 < (⟨K, D, U⟩ : Pt).keep by show ¬ 0 < K; omega), if_neg (show ¬ 0 < (⟨K, D, U⟩ : Pt).drop by show ¬ 0 < D; omega)]; show (⟨0, 0, U⟩ : Pt) = ⟨K, D, U⟩; rw [o1, o2]
          rw [e1] at HTK
          clear e1 HTK0 o1 o2 s1 s2 hob
          go_wp2_with (first
            | (go_at_call 63; refine Calls.mono CA.out ?_; rintro e w5 ⟨rfl, hb5⟩; have HB5 : Hid (Below w.heap.size w w5) := HBP.out.trans (hb5.mono HBP.out.size); have HO5 : Hid (w5.ownsRow w.heap.size 50 3 (.slice pv k cv) k (cellsP L)) := own_below HOP'.out hb5; have y0 := cell_on hb5 x0; have y1 := cell_on hb5 x1; have y2 := cell_on hb5 x2; have yf := (hb5.frozen (p := ⟨wr.heap.size, 0, none⟩) hltw).trans xf; have yg := (hb5.frozen (p := ⟨wr.heap.size, 1, none⟩) hltw).trans xg; have hba : Below w5.heap.size w5 (w5.alloc (.cells #[.int .i64 (C1 X), .int .i64 (C2 X), .int .i64 (C3 X), .int .i64 (C4 X)] 25)) := (Below.refl _ _).alloc (Nat.le_refl _) _; have HBA : Hid (Below w5.heap.size w5 (w5.alloc (.cells #[.int .i64 (C1 X), .int .i64 (C2 X), .int .i64 (C3 X), .int .i64 (C4 X)] 25))) := hba; have z0 := cell_on hba y0; have z1 := cell_on hba y1; have z2 := cell_on hba y2; have hlt5 : wr.heap.size < w5.heap.size := Nat.lt_of_lt_of_le hltw hb5.size; have HB6 : Hid (Below w.heap.size w (w5.alloc (.cells #[.int .i64 (C1 X), .int .i64 (C2 X), .int .i64 (C3 X), .int .i64 (C4 X)] 25))) := HB5.out.alloc HB5.out.size _; have HO6 : Hid ((w5.alloc (.cells #[.int .i64 (C1 X), .int .i64 (C2 X), .int .i64 (C3 X), .int .i64 (C4 X)] 25)).ownsRow w.heap.size 50 3 (.slice pv k cv) k (cellsP L)) := HO5.out.alloc _; have HCX : Hid (counted (w5.alloc (.cells #[.int .i64 (C1 X), .int .i64 (C2 X), .int .i64 (C3 X), .int .i64 (C4 X)] 25)) w5.heap.size (C1 X) (C2 X) (C3 X) (C4 X)) := counted_new w5 _ _ _ _ _; have HY0 : Hid (Pcell w5 wr.heap.size K D U) := ⟨y0, y1, y2, yf, yg⟩; clear hb5)
            | (go_at_call 30; refine (CI.out _).mono ?_; rintro e w8 ⟨rfl, hb8⟩; have HB8 : Hid (Below w.heap.size w w8) := HB6.out.trans (hb8.mono HB6.out.size); have HO8 : Hid (w8.ownsRow w.heap.size 50 3 (.slice pv k cv) k (cellsP L)) := own_below HO6.out hb8; have q0 := cell_on hb8 z0; have q1 := cell_on hb8 z1; have q2 := cell_on hb8 z2; have hs8 := HB8.out.size; clear hb8)
            | (at_builtin; refine wpList_append_own _ rfl _ _ 23 rfl w.heap.size 50 i0 (.agg #[.int .i64 0, .int .i64 0, .string ⟨#[]⟩]) 3 32 Tryz.underlying23 hi hz0 hz1 hz2 rfl (by decide) _ _ _ rfl (HO8.out.alloc _) ⟨w8.heap.size, 0, none⟩ 1 1 (partCells ⟨K, D, U⟩) rfl rfl (cells_newN _ _ (by first | rfl | simp) _ _) (partCells_one _) (by unfold maxLen; omega) (by omega) (by first | omega | (simp; omega)) ?_)
            | fail)
          intro v' w' hown' hg' _
          obtain ⟨p', c', rfl⟩ := own_slice hown'
          have HB9 : Hid (Below w.heap.size w w') := (HB8.out.alloc HB8.out.size _).grown hg' (by simp; omega) fun k hk => (HO8.out.lt k hk).1
          have HO9 : Hid (w'.ownsRow w.heap.size 50 3 (.slice p' (k + 1) c') (k + 1) (cellsP L ++ partCells ⟨K, D, U⟩)) := hown'
          clear hown' hg'
          go_wp2
          go_roundw
          case rel =>
            refine ⟨k + 1, by go_num, HA1.out.symm ▸ rfl, by first | rfl | (rw [HA1.out, HXV.out]), L ++ [⟨K, D, U⟩], by rw [List.length_append, HLL.out]; rfl, HTK.out, by have := HN.out; omega, ?_, HB9.out⟩
            rw [cellsP_snoc]
            exact HO9.out
          case measure => simp [intOf]; omega
      · have hed : onEdge rs u (A + (K + D)) = false := Bool.eq_false_iff.2 hed
        rw [if_neg (by rw [hed]; decide), if_neg (by rw [hed]; decide)] at cA
        rw [turnZ, if_neg (by rw [hld, hed]; decide)] at htz
        have e2 : (turnZ rs u v 0 qs).2 = false := by rw [htz]
        have HRX : Hid (turnX rs u v qs = 10 ∧ turnO rs u v qs = []) := by
          show turnX rs u v qs = 10 ∧ turnO rs u v qs = []
          unfold turnX turnO
          rw [e2]; exact ⟨rfl, rfl⟩
        rw [hh]
        unfold cntV at cA
        have CA : Hid _ := cA
        clear hown hbw' htz hA1' hAN hts hqm hkr hh hed cA hRLe hLk hdk hA e2 hob
        go_wp2_with (first
          | (go_at_call 63; refine Calls.mono CA.out ?_; rintro e w5 ⟨rfl, hb5⟩; have HB5 : Hid (Below w.heap.size w w5) := HBP.out.trans (hb5.mono HBP.out.size); have HB6 : Hid (Below w.heap.size w (w5.alloc (.cells #[.int .i64 (C1 []), .int .i64 (C2 []), .int .i64 (C3 []), .int .i64 (C4 [])] 25))) := HB5.out.alloc HB5.out.size _; clear hb5)
          | fail)
        go_ret2
        refine ⟨.slice none 0 0, ?_, ?_, HB6.out⟩
        · rw [HRX.out.1]; rfl
        · rw [HRX.out.2]; exact ⟨none, 0, rfl, Nat.le_refl _, Nat.zero_le _, fun h => absurd rfl h⟩
    · obtain rfl : k = n := by omega
      have e : qs.drop k = [] := List.drop_of_length_le (by rw [HN.out]; exact Nat.le_refl _)
      rw [e] at htz
      have htz2 : turnZ rs u v 0 qs = (L, true) := by rw [htz]; simp [turnZ]
      have HRX : Hid (turnX rs u v qs = 0 ∧ turnO rs u v qs = L) := by
        show turnX rs u v qs = 0 ∧ turnO rs u v qs = L
        unfold turnX turnO
        rw [htz2]; exact ⟨rfl, rfl⟩
      have HB : Hid (Below w.heap.size w wr) := hbw'
      have hop : opAt wr (.slice pv k cv) L := by
        have := hown
        rw [← hLk] at this ⊢
        exact opAt_own this
      have HOPW : Hid (opAt wr (.slice pv k cv) L) := hop
      clear hop hown e hbw' htz htz2 hLk
      go_wp2
      go_ret2
      refine ⟨.slice pv k cv, ?_, ?_, HB.out⟩
      · rw [HRX.out.1]; rfl
      · rw [HRX.out.2]; exact HOPW.out
end Go.Proofs.YtldhbjmillfjgabGreatDoor

namespace Go.Proofs.YtldhbjmillfjgabGreatDoor
open Go.RowKit
set_option linter.unusedVariables false
attribute [local go_sem] Oper.semAt_some

def uB (u : Int) : Bool := decide (u = 1 ∨ u = 2 ∨ u = 3)
theorem uB_iff (u : Int) : uB u = true ↔ unitOk u := by unfold uB unitOk; exact decide_eq_true_iff
def tzE (rs : List Nat) (u v : Int) (qs : List Pt) : Int := if (uB u && uB v) = true then (if chkE qs (by_ u rs) = 0 then turnX rs u v qs else chkE qs (by_ u rs)) else 1
def tzO (rs : List Nat) (u v : Int) (qs : List Pt) : List Pt := if (uB u && uB v) = true then (if chkE qs (by_ u rs) = 0 then turnO rs u v qs else []) else []
theorem opAt_none (w : World) : opAt w (.slice none 0 0) [] := ⟨none, 0, rfl, Nat.le_refl _, Nat.zero_le _, fun h => absurd rfl h⟩
theorem tzO_len (rs : List Nat) (u v : Int) (qs : List Pt) : (tzO rs u v qs).length ≤ qs.length := by
  unfold tzO
  split
  · split
    · unfold turnO
      split
      · exact turnZ_len qs rs u v 0
      · exact Nat.zero_le _
    · exact Nat.zero_le _
  · exact Nat.zero_le _

set_option maxRecDepth 100000 in
set_option maxHeartbeats 2000000 in
theorem turn_unit (b : Nat) (u v : Int) (val : Value) (w : World) (hC : Calls Tryz.prog 119 #[.pointer (some ⟨b, 0, none⟩), .int .i64 u, .int .i64 v, .int .i64 0] w fun e w' => e = .returned (.tuple #[.int .i64 0, errV 1]) ∧ Below w.heap.size w w') :
    Calls Tryz.prog 64 #[.pointer (some ⟨b, 0, none⟩), .int .i64 u, .int .i64 v, val] w fun e w' => e = .returned (.tuple #[.slice none 0 0, errV 1]) ∧ Below w.heap.size w w' := by
  have hV : errV 1 = .iface 26 (.int .i64 1) := rfl
  rw [hV] at hC ⊢
  have CC : Hid _ := hC
  clear hC hV
  go_enter Tryz.func64, Tryz.ntmps64
  go_wp2_with (first
    | (go_at_call 119; refine Calls.mono CC.out ?_; rintro e w1 ⟨rfl, hb1⟩)
    | fail)
  go_ret2
  exact ⟨rfl, hb1⟩
set_option maxRecDepth 100000 in
set_option maxHeartbeats 4000000 in
theorem turn_no (b : Nat) (rs : List Nat) (u v : Int) (qs : List Pt) (val : Value) (w : World) (hu : unitOk u) (hv : unitOk v) (hT : Lib.Utf8Tabs 2 3 w) (hR : isRope w b rs) (hr : opAt w val qs) (hwf : ∀ q ∈ qs, wfP q) (hl : qs.length ≤ 1000) (hz : C1 rs ≤ 1000000) (hbu : by_ u rs ≤ 10000000) (hc : chkE qs (by_ u rs) ≠ 0) :
    Calls Tryz.prog 64 #[.pointer (some ⟨b, 0, none⟩), .int .i64 u, .int .i64 v, val] w fun e w' => e = .returned (.tuple #[.slice none 0 0, errV (chkE qs (by_ u rs))]) ∧ Below w.heap.size w w' := by
  have hup := by_pos u rs
  have cV : Hid (Calls Tryz.prog 119 #[.pointer (some ⟨b, 0, none⟩), .int .i64 u, .int .i64 v, .int .i64 0] w fun e w' => e = .returned (.tuple #[.int .i64 0, .nilIface]) ∧ Below w.heap.size w w') := by
    have := convert_any b rs u v 0 hu hv (Int.le_refl _) (by_pos u rs) w hT hR (by omega) [] (find_zero u rs) (by_nil u)
    rw [by_nil] at this
    exact this
  have cN : Hid (∀ wx, Below w.heap.size w wx → Calls Tryz.prog 20 #[.pointer (some ⟨b, 0, none⟩)] wx fun e w' => e = .returned (cntV rs) ∧ Below wx.heap.size wx w') := fun wx hb => ropecounts_any b rs wx (isRope_below hR hb)
  have cI : Hid (∀ wx, Calls Tryz.prog 19 #[cntV rs, .int .i64 u] wx fun e w' => e = .returned (.int .i64 (by_ u rs)) ∧ Below wx.heap.size wx w') := fun wx => In_any u rs wx
  have hV : errV (chkE qs (by_ u rs)) = .iface 26 (.int .i64 (chkE qs (by_ u rs))) := by unfold errV; rw [if_neg hc]
  have cK : Hid (∀ wx, Below w.heap.size w wx → Calls Tryz.prog 68 #[val, .int .i64 (by_ u rs)] wx fun e w' => e = .returned (.iface 26 (.int .i64 (chkE qs (by_ u rs)))) ∧ Below wx.heap.size wx w') := fun wx hb => by
    have := Check_any val qs (by_ u rs) wx (Go.Proofs.Utf8Tabs_below hT hb) (opAt_below hr hb (Nat.le_refl _)) hwf (by omega) (by omega)
    rw [hV] at this
    exact this
  rw [hV]
  obtain ⟨p, c, rfl, _⟩ := hr
  generalize chkE qs (by_ u rs) = E at *
  generalize by_ u rs = Bu at *
  unfold cntV at cN cI
  clear hT hR hwf hc hV hu hv hz hbu hup
  go_enter Tryz.func64, Tryz.ntmps64
  go_wp2_with (first
    | (go_at_call 119; refine Calls.mono cV.out ?_; rintro e w1 ⟨rfl, hb1⟩; have HB1 : Hid (Below w.heap.size w w1) := hb1; clear hb1)
    | (go_at_call 20; refine (cN.out _ HB1.out).mono ?_; rintro e w2 ⟨rfl, hb2⟩; have HB2 : Hid (Below w.heap.size w w2) := HB1.out.trans (hb2.mono HB1.out.size); clear hb2)
    | (go_at_call 19; refine (cI.out _).mono ?_; rintro e w3 ⟨rfl, hb3⟩; have HB3 : Hid (Below w.heap.size w w3) := HB2.out.trans (hb3.mono HB2.out.size); clear hb3)
    | (go_at_call 68; refine (cK.out _ HB3.out).mono ?_; rintro e w4 ⟨rfl, hb4⟩; have HB4 : Hid (Below w.heap.size w w4) := HB3.out.trans (hb4.mono HB3.out.size); clear hb4)
    | fail)
  go_ret2
  exact ⟨rfl, HB4.out⟩

theorem by_small (rs : List Nat) (h : C1 rs ≤ 1000000) (x : Int) : by_ x rs ≤ 3000000 := by
  have h2 := C2_le rs; have h3 := C3_le rs; have h1 := C1_pos rs
  unfold by_; split <;> (try split) <;> (try split) <;> omega
theorem turn_all (b : Nat) (rs : List Nat) (u v : Int) (qs : List Pt) (val : Value) (w : World) (hT : Lib.Utf8Tabs 2 3 w) (hR : isRope w b rs) (hr : opAt w val qs) (hwf : ∀ q ∈ qs, wfP q) (hl : qs.length ≤ 1000) (hpl : ∀ q ∈ qs, q.put.length ≤ 10000000) (hz : C1 rs ≤ 1000000) :
    Calls Tryz.prog 64 #[.pointer (some ⟨b, 0, none⟩), .int .i64 u, .int .i64 v, val] w fun e w' => ∃ v', e = .returned (.tuple #[v', errV (tzE rs u v qs)]) ∧ opAt w' v' (tzO rs u v qs) ∧ Below w.heap.size w w' := by
  have hbw : b < w.heap.size := by obtain ⟨q, t, h5, _⟩ := hR; exact World.block_lt_of_cell? w _ h5
  unfold tzE tzO
  by_cases hv : unitOk v
  · by_cases hu : unitOk u
    · rw [(uB_iff u).2 hu, (uB_iff v).2 hv, Bool.and_self, if_pos rfl, if_pos rfl]
      by_cases hc : chkE qs (by_ u rs) = 0
      · rw [if_pos hc, if_pos hc]
        exact turnz_chk b rs u v qs val w hu hv hT hR hr hwf hl hpl hz (by have := by_small rs hz u; omega) (by have := by_small rs hz v; omega) hc hbw
      · rw [if_neg hc, if_neg hc]
        exact (turn_no b rs u v qs val w hu hv hT hR hr hwf hl hz (by have := by_small rs hz u; omega) hc).mono fun e w' h => ⟨_, h.1, opAt_none w', h.2⟩
    · have e : uB u = false := Bool.eq_false_iff.2 fun e => hu ((uB_iff u).1 e)
      rw [e, Bool.false_and, if_neg (by decide), if_neg (by decide)]
      exact (turn_unit b u v val w (convert_from b rs u v 0 hv hu w hT hR (by omega))).mono fun e w' h => ⟨_, h.1, opAt_none w', h.2⟩
  · have e : uB v = false := Bool.eq_false_iff.2 fun e => hv ((uB_iff v).1 e)
    rw [e, Bool.and_false, if_neg (by decide), if_neg (by decide)]
    exact (turn_unit b u v val w (convert_to b u v 0 hv w)).mono fun e w' h => ⟨_, h.1, opAt_none w', h.2⟩
set_option maxHeartbeats 1000000 in
theorem to_all (b : Nat) (rs : List Nat) (u : Int) (qs : List Pt) (val : Value) (w : World) (hT : Lib.Utf8Tabs 2 3 w) (hR : isRope w b rs) (hr : opAt w val qs) (hwf : ∀ q ∈ qs, wfP q) (hl : qs.length ≤ 1000) (hpl : ∀ q ∈ qs, q.put.length ≤ 10000000) (hz : C1 rs ≤ 1000000) :
    Calls Tryz.prog 11 #[.pointer (some ⟨b, 0, none⟩), .int .i64 u, val] w fun e w' => ∃ v', e = .returned (.tuple #[v', errV (tzE rs u 1 qs)]) ∧ opAt w' v' (tzO rs u 1 qs) ∧ Below w.heap.size w w' := by
  have cC : Hid _ := turn_all b rs u 1 qs val w hT hR hr hwf hl hpl hz
  obtain ⟨p, c, rfl, _⟩ := hr
  generalize errV (tzE rs u 1 qs) = E at *
  clear hT hR hwf hpl hz
  go_enter Tryz.func11, Tryz.ntmps11
  go_wp2_with (first
    | (go_at_call 64; refine Calls.mono cC.out ?_; rintro e w1 ⟨v1, rfl, h1, hb1⟩; have H1 : Hid _ := h1; clear h1)
    | fail)
  go_ret2
  exact ⟨v1, rfl, H1.out, hb1⟩
set_option maxHeartbeats 1000000 in
theorem from_all (b : Nat) (rs : List Nat) (u : Int) (qs : List Pt) (val : Value) (w : World) (hT : Lib.Utf8Tabs 2 3 w) (hR : isRope w b rs) (hr : opAt w val qs) (hwf : ∀ q ∈ qs, wfP q) (hl : qs.length ≤ 1000) (hpl : ∀ q ∈ qs, q.put.length ≤ 10000000) (hz : C1 rs ≤ 1000000) :
    Calls Tryz.prog 12 #[.pointer (some ⟨b, 0, none⟩), .int .i64 u, val] w fun e w' => ∃ v', e = .returned (.tuple #[v', errV (tzE rs 1 u qs)]) ∧ opAt w' v' (tzO rs 1 u qs) ∧ Below w.heap.size w w' := by
  have cC : Hid _ := turn_all b rs 1 u qs val w hT hR hr hwf hl hpl hz
  obtain ⟨p, c, rfl, _⟩ := hr
  generalize errV (tzE rs 1 u qs) = E at *
  clear hT hR hwf hpl hz
  go_enter Tryz.func12, Tryz.ntmps12
  go_wp2_with (first
    | (go_at_call 64; refine Calls.mono cC.out ?_; rintro e w1 ⟨v1, rfl, h1, hb1⟩; have H1 : Hid _ := h1; clear h1)
    | fail)
  go_ret2
  exact ⟨v1, rfl, H1.out, hb1⟩
theorem refTurn_all (s : ByteArray) (rs : List Nat) (u v : Int) (qs : List Pt) (val : Value) (w : World) (hr : ∀ r ∈ rs, isRune r) (he : encs rs = s.data.toList) (hs : s.size < 1000000) (ho : opAt w val qs) (hwf : ∀ q ∈ qs, wfP q) (hsm : ∀ q ∈ qs, q.put.length < 100000000) (hl : qs.length ≤ 1000) :
    Calls Tryz.prog 10 #[.string s, .int .i64 u, .int .i64 v, val] w fun e w' => ∃ v', e = .returned (.tuple #[v', .int .i64 (tzE rs u v qs)]) ∧ opAt w' v' (tzO rs u v qs) ∧ Below w.heap.size w w' := by
  unfold tzE tzO
  by_cases hu : unitOk u ∧ unitOk v
  · rw [(uB_iff u).2 hu.1, (uB_iff v).2 hu.2, Bool.and_self, if_pos rfl, if_pos rfl]
    by_cases hc : chkE qs (by_ u rs) = 0
    · rw [if_pos hc, if_pos hc]
      exact refTurn_fine s rs u v qs val w hr he hs hu.1 hu.2 ho hwf hsm hl hc
    · rw [if_neg hc, if_neg hc]
      exact (refTurn_chk s rs u v qs val w hr he hs hu.1 hu.2 ho hwf hsm hl hc).mono fun e w' h => ⟨_, h.1, opAt_none w', h.2⟩
  · have e : (uB u && uB v) = false := Bool.eq_false_iff.2 fun e => hu (by rw [Bool.and_eq_true] at e; exact ⟨(uB_iff u).1 e.1, (uB_iff v).1 e.2⟩)
    rw [e, if_neg (by decide), if_neg (by decide)]
    exact (refTurn_unit s u v val hu w).mono fun e w' h => ⟨_, h.1, opAt_none w', h.2⟩
end Go.Proofs.YtldhbjmillfjgabGreatDoor

namespace Go.Proofs.YtldhbjmillfjgabGreatDoor
open Go.RowKit
set_option linter.unusedVariables false
attribute [local go_sem] Oper.semAt_some

theorem shlen_any (b u : Nat) (hu : unitN u) (rs : List Nat) (w : World) (h : isShape w b u rs) : Calls Tryz.prog 29 #[.pointer (some ⟨b, 0, none⟩)] w fun e w' => e = .returned (.int .i64 (by_ (u : Int) rs)) ∧ w' = w := by
  rcases hu with rfl | rfl | rfl
  · exact shlen1_any b rs w h
  · exact shlen2_any b rs w h
  · exact shlen3_any b rs w h
theorem shtext_any (b u : Nat) (hu : unitN u) (rs : List Nat) (w : World) (h : isShape w b u rs) (hR : ∀ r ∈ rs, isRune r) (hz : C1 rs ≤ 1000000) (hT : Lib.Utf8Tabs 2 3 w) : Calls Tryz.prog 24 #[.pointer (some ⟨b, 0, none⟩)] w fun e w' => e = .returned (.string (bytesOf rs)) ∧ Below w.heap.size w w' := by
  rcases hu with rfl | rfl | rfl
  · exact shtext1_any b rs w h hR hz hT
  · exact shtext2_any b rs w h hR hz hT
  · exact shtext3_any b rs w h hR hz hT
theorem shapply_any (b u : Nat) (hu : unitN u) (rs : List Nat) (qs : List Pt) (v : Value) (w : World) (h : isShape w b u rs) (hR : ∀ r ∈ rs, isRune r) (hz : C1 rs ≤ 100000) (hT : Lib.Utf8Tabs 2 3 w) (hr : opAt w v qs) (hwf : ∀ q ∈ qs, wfP q) (hl : qs.length ≤ 1000) (hpl : ∀ q ∈ qs, q.put.length ≤ 1000000) :
    Calls Tryz.prog 22 #[.pointer (some ⟨b, 0, none⟩), v] w fun e w' => e = .returned (errV (shE (u : Int) rs qs)) ∧ isShape w' b u (shR (u : Int) rs qs) ∧ Below b w w' := by
  rcases hu with rfl | rfl | rfl
  · exact shapply1_any b rs qs v w h hR hz hT hr hwf hl hpl
  · exact shapply2_any b rs qs v w h hR hz hT hr hwf hl hpl
  · exact shapply3_any b rs qs v w h hR hz hT hr hwf hl hpl
theorem shnew_text (u : Nat) (hu : unitN u) (s : List UInt8) (hs : s.length ≤ 1000000) (hsc : (scan s).2 = false) (w : World) (hT : Lib.Utf8Tabs 2 3 w) : Calls Tryz.prog 21 #[.int .i64 (u : Int), .string ⟨s.toArray⟩] w fun e w' => ∃ x w1, e = .returned (.tuple #[.pointer none, x]) ∧ isAt w w1 x (place s) ∧ Below w1.heap.size w1 w' ∧ Below w.heap.size w w' := by
  rcases hu with rfl | rfl | rfl
  · exact shnew1_text s hs hsc w hT
  · exact shnew2_text s hs hsc w hT
  · exact shnew3_text s hs hsc w hT
theorem shnew_good (u : Nat) (hu : unitN u) (rs : List Nat) (hR : ∀ r ∈ rs, isRune r) (hz : C1 rs ≤ 8000) (w : World) (hT : Lib.Utf8Tabs 2 3 w) : Calls Tryz.prog 21 #[.int .i64 (u : Int), .string (bytesOf rs)] w fun e w' => ∃ b, e = .returned (.tuple #[.pointer (some ⟨b, 0, none⟩), .nilIface]) ∧ isShape w' b u rs ∧ w.heap.size ≤ b ∧ Below w.heap.size w w' := by
  rcases hu with rfl | rfl | rfl
  · exact shnew1_good rs hR hz w hT
  · exact shnew2_good rs hR hz w hT
  · exact shnew3_good rs hR hz w hT

theorem sh_bad {u : Int} (hu : unitOk u) {rs : List Nat} {q : List Pt} (h : tzE rs u 1 q ≠ 0) : shE u rs q = tzE rs u 1 q ∧ shR u rs q = rs := by
  have h1 : (uB u && uB 1) = true := by rw [(uB_iff u).2 hu, (uB_iff 1).2 (.inl rfl)]; rfl
  have key : shE u rs q = tzE rs u 1 q := by
    unfold tzE at h ⊢
    rw [h1, if_pos rfl] at h ⊢
    unfold shE
    by_cases hc : chkE q (by_ u rs) = 0
    · rw [if_pos hc] at h
      rw [if_pos hc, if_pos hc]
      obtain ⟨_, h2, h3⟩ := chkE_parts hc
      obtain ⟨t1, _⟩ := turn_in hu 1 q rs h3 (Int.le_of_eq h2)
      rw [t1] at h ⊢
      unfold plE
      split at h
      · exact absurd rfl h
      · rename_i ho; rw [if_neg ho, if_neg ho]
    · rw [if_neg hc, if_neg hc]
  exact ⟨key, by unfold shR; rw [if_neg (by rw [key]; exact h)]⟩
theorem sh_fine {u : Int} (hu : unitOk u) {rs : List Nat} {q : List Pt} (hR : ∀ r ∈ rs, isRune r) (h : tzE rs u 1 q = 0) :
    good (tzO rs u 1 q) (encs rs) ∧ applyP (tzO rs u 1 q) (encs rs) = encs (comesZ u rs q) ∧ (∀ r ∈ comesZ u rs q, isRune r) ∧ shE u rs q = (if C1 (comesZ u rs q) ≤ 8000 then 0 else 12) ∧ shR u rs q = (if C1 (comesZ u rs q) ≤ 8000 then comesZ u rs q else rs) ∧ chkE q (by_ u rs) = 0 ∧ okZ u rs q = true ∧ tzO rs u 1 q = inZ u 1 rs q := by
  have h1 : (uB u && uB 1) = true := by rw [(uB_iff u).2 hu, (uB_iff 1).2 (.inl rfl)]; rfl
  unfold tzE at h
  unfold tzO
  rw [h1, if_pos rfl] at h ⊢
  have hc : chkE q (by_ u rs) = 0 := by
    by_cases hc : chkE q (by_ u rs) = 0
    · exact hc
    · rw [if_neg hc] at h; exact absurd h hc
  rw [if_pos hc] at h ⊢
  obtain ⟨hp1, h2, h3⟩ := chkE_parts hc
  obtain ⟨t1, t2⟩ := turn_in hu 1 q rs h3 (Int.le_of_eq h2)
  have ho : okZ u rs q = true := by
    rw [t1] at h
    cases e : okZ u rs q with
    | true => rfl
    | false => rw [e] at h; cases h
  rw [t2, ho, if_pos rfl]
  obtain ⟨il, ia⟩ := in_left hu q rs hp1 h2 hR ho
  have hE : shE u rs q = (if C1 (comesZ u rs q) ≤ 8000 then 0 else 12) := by
    unfold shE plE
    rw [if_pos hc, if_pos ho]
  refine ⟨il.good, ia, comes_rune hu q rs h3 (Int.le_of_eq h2) ho hR, hE, ?_, hc, rfl, rfl⟩
  unfold shR
  rw [hE]
  by_cases h8 : C1 (comesZ u rs q) ≤ 8000
  · rw [if_pos h8, if_pos rfl, if_pos h8]
  · rw [if_neg h8, if_neg (by decide), if_neg h8]
theorem in_puts {u : Int} : ∀ (qs : List Pt) (R : List Nat), (∀ q ∈ qs, oneB q = true) → putsP (inZ u 1 R qs) = putsP qs
  | [], _, _ => rfl
  | q :: qs, R, h => by
    have ih := in_puts (u := u) qs (restZ u R (lenP q)) fun x hx => h x (by simp [hx])
    have e : ∀ (p : Pt) (l : List Pt), putsP (p :: l) = p.put.length + putsP l := fun p l => by simp [putsP]
    rw [inZ, e, e, ih, unit_put (h q (by simp))]
theorem in_len {u v : Int} : ∀ (qs : List Pt) (R : List Nat), (inZ u v R qs).length = qs.length
  | [], _ => rfl
  | q :: qs, R => by rw [inZ, List.length_cons, List.length_cons, in_len qs]
theorem putsP_le : ∀ (qs : List Pt), (∀ q ∈ qs, q.put.length ≤ 300) → putsP qs ≤ 300 * qs.length
  | [], _ => by simp [putsP]
  | q :: qs, h => by
    have ih := putsP_le qs fun x hx => h x (by simp [hx])
    have := h q (by simp)
    have e : putsP (q :: qs) = q.put.length + putsP qs := by simp [putsP]
    rw [e, List.length_cons]; omega

theorem put_le_puts (p : Pt) : ∀ (qs : List Pt), p ∈ qs → p.put.length ≤ putsP qs
  | [], h => by cases h
  | q :: qs, h => by
    have e : putsP (q :: qs) = q.put.length + putsP qs := by simp [putsP]
    rw [e]
    rcases List.mem_cons.1 h with rfl | h
    · omega
    · have := put_le_puts p qs h; omega
/-- What the law's loop keeps. -/
def shI (w : World) (b u : Nat) (x : Nat) (v1 : Value) (wr : World) : Prop :=
  ∃ rs, v1 = .string (bytesOf rs) ∧ isShape wr b u rs ∧ (∀ r ∈ rs, isRune r) ∧ C1 rs ≤ 8000 ∧ Below w.heap.size w wr

set_option maxHeartbeats 1000000 in
theorem shapeLaw_long (u : Int) (s : List UInt8) (v : Value) (l : List (List Pt)) (w : World) (hr : opsAt w v l) (h : 400 < s.length ∨ 12 < l.length) :
    Calls Tryz.prog 5 #[.int .i64 u, .string ⟨s.toArray⟩, v] w fun e w' => e = .returned (.bool true) ∧ Below w.heap.size w w' := by
  have hz : (ByteArray.mk s.toArray).size = s.length := by simp [ByteArray.size]
  obtain ⟨p, c, rfl, r1, r2, _⟩ := hr
  unfold maxLen at r2
  by_cases h1 : 400 < s.length
  · have h2 : (400 : Int) < (s.length : Int) := by omega
    go_enter Tryz.func5, Tryz.ntmps5
    go_wp2
    go_ret
    exact ⟨rfl, Below.refl _ _⟩
  · have h2 : ¬ (400 : Int) < (s.length : Int) := by omega
    have h3 : (12 : Int) < (l.length : Int) := by omega
    clear h
    go_enter Tryz.func5, Tryz.ntmps5
    go_wp2
    go_ret
    exact ⟨rfl, Below.refl _ _⟩
set_option maxHeartbeats 1000000 in
theorem shapeLaw_unit (u : Int) (s : List UInt8) (v : Value) (l : List (List Pt)) (w : World) (hg : asLaid w) (hr : opsAt w v l) (hs : s.length ≤ 400) (hl : l.length ≤ 12) (hu : ¬ unitOk u) :
    Calls Tryz.prog 5 #[.int .i64 u, .string ⟨s.toArray⟩, v] w fun e w' => e = .returned (.bool true) ∧ Below w.heap.size w w' := by
  have hz : (ByteArray.mk s.toArray).size = s.length := by simp [ByteArray.size]
  obtain ⟨p, c, rfl, r1, r2, _⟩ := hr
  unfold maxLen at r2
  have h2 : ¬ (400 : Int) < (s.length : Int) := by omega
  have h3 : ¬ (12 : Int) < (l.length : Int) := by omega
  have cN := shnew_unit u hu ⟨s.toArray⟩ w
  have cB : Hid (∀ wx, Below w.heap.size w wx → Calls Tryz.prog 13 #[errV 1, .int .i64 1] wx fun e w' => e = .returned (.bool true) ∧ Below wx.heap.size wx w') := fun wx hb => bare_any _ wx (asLaid_below hg hb)
  have hV : errV 1 = .iface 26 (.int .i64 1) := rfl
  rw [hV] at cN cB
  have CN : Hid _ := cN
  clear hV cN
  unfold unitOk at hu
  by_cases h1 : u < 1
  · clear hu hg hs hl
    go_enter Tryz.func5, Tryz.ntmps5
    go_wp2_with (first
      | (go_at_call 21; refine Calls.mono CN.out ?_; rintro e w1 ⟨rfl, hb1⟩; have HB1 : Hid (Below w.heap.size w w1) := hb1; clear hb1)
      | (go_at_call 13; refine (cB.out _ HB1.out).mono ?_; rintro e w2 ⟨rfl, hb2⟩; have HB2 : Hid (Below w.heap.size w w2) := HB1.out.trans (hb2.mono HB1.out.size); clear hb2)
      | fail)
    go_ret
    exact ⟨rfl, HB2.out⟩
  · have h4 : 3 < u := by omega
    clear hu hg hs hl
    go_enter Tryz.func5, Tryz.ntmps5
    go_wp2_with (first
      | (go_at_call 21; refine Calls.mono CN.out ?_; rintro e w1 ⟨rfl, hb1⟩; have HB1 : Hid (Below w.heap.size w w1) := hb1; clear hb1)
      | (go_at_call 13; refine (cB.out _ HB1.out).mono ?_; rintro e w2 ⟨rfl, hb2⟩; have HB2 : Hid (Below w.heap.size w w2) := HB1.out.trans (hb2.mono HB1.out.size); clear hb2)
      | fail)
    go_ret
    exact ⟨rfl, HB2.out⟩
set_option maxHeartbeats 2000000 in
theorem shapeLaw_text (u : Nat) (hu : unitN u) (s : List UInt8) (v : Value) (l : List (List Pt)) (w : World) (hg : asLaid w) (hT : Lib.Utf8Tabs 2 3 w) (hr : opsAt w v l) (hs : s.length ≤ 400) (hl : l.length ≤ 12) (hsc : (scan s).2 = false) :
    Calls Tryz.prog 5 #[.int .i64 (u : Int), .string ⟨s.toArray⟩, v] w fun e w' => e = .returned (.bool true) ∧ Below w.heap.size w w' := by
  have hz : (ByteArray.mk s.toArray).size = s.length := by simp [ByteArray.size]
  obtain ⟨p, c, rfl, r1, r2, _⟩ := hr
  unfold maxLen at r2
  have h2 : ¬ (400 : Int) < (s.length : Int) := by omega
  have h3 : ¬ (12 : Int) < (l.length : Int) := by omega
  have hu1 : ¬ ((u : Int) < 1) ∧ ¬ (3 < (u : Int)) := by unfold unitN at hu; omega
  obtain ⟨hu1, hu2⟩ := hu1
  have CN : Hid _ := shnew_text u hu s (by omega) hsc w hT
  have cR : Hid (∀ wx, Below w.heap.size w wx → Calls Tryz.prog 8 #[.string ⟨s.toArray⟩] wx fun e w' => Below wx.heap.size wx w' ∧ e = .returned (.tuple #[cnt 0 0 0 0, fault 3 (place s)])) := fun wx hb => refCount_bad ⟨s.toArray⟩ (by rw [hz]; omega) wx hsc
  have HG : Hid (asLaid w) := hg
  unfold cnt fault at cR
  generalize place s = PL at *
  clear hu hg hs hl hsc hT
  go_enter Tryz.func5, Tryz.ntmps5
  go_wp2_with (first
    | (go_at_call 21; refine Calls.mono CN.out ?_; rintro e w1 ⟨x, w0, rfl, hat, hb0, hb1⟩; have HB1 : Hid (Below w.heap.size w w1) := hb1; have HAT : Hid (isAt w w0 x PL) := hat; have HB0 : Hid (Below w0.heap.size w0 w1) := hb0; clear hb1 hb0 hat)
    | (go_at_call 8; refine (cR.out _ HB1.out).mono ?_; rintro e w2 ⟨hb2, rfl⟩; have HB2 : Hid (Below w.heap.size w ((w2.alloc (.cells #[.int .i64 0, .int .i64 0, .int .i64 0, .int .i64 0] 25)).alloc (.cells #[.int .i64 3, .int .i64 PL] 28))) := ((HB1.out.trans (hb2.mono HB1.out.size)).alloc (Nat.le_trans HB1.out.size hb2.size) _).alloc (by have := HB1.out.size; have := hb2.size; simp; omega) _; have HB02 : Hid (Below w0.heap.size w0 ((w2.alloc (.cells #[.int .i64 0, .int .i64 0, .int .i64 0, .int .i64 0] 25)).alloc (.cells #[.int .i64 3, .int .i64 PL] 28))) := ((HB0.out.trans (hb2.mono HB0.out.size)).alloc (Nat.le_trans HB0.out.size hb2.size) _).alloc (by have := HB0.out.size; have := hb2.size; simp; omega) _; clear hb2)
    | (go_at_call 26; refine (is_at (asLaid_below HG.out HB2.out) HAT.out HB02.out).mono ?_; rintro e w3 ⟨rfl, hb3⟩; have HB3 : Hid (Below w.heap.size w w3) := HB2.out.trans (hb3.mono HB2.out.size); clear hb3)
    | fail)
  go_ret
  exact ⟨rfl, HB3.out⟩
end Go.Proofs.YtldhbjmillfjgabGreatDoor

namespace Go.Proofs.YtldhbjmillfjgabGreatDoor
open Go.RowKit
set_option linter.unusedVariables false
attribute [local go_sem] Oper.semAt_some

set_option maxRecDepth 100000 in
set_option maxHeartbeats 4000000 in
theorem turn_err (b : Nat) (rs : List Nat) (qs : List Pt) (v : Value) (w : World) (hT : Lib.Utf8Tabs 2 3 w) (hR : isRope w b rs) (hr : opAt w v qs) (hwf : ∀ q ∈ qs, wfP q) (hl : qs.length ≤ 1000) (hz : C1 rs ≤ 1000000) (hc : chkE qs (rs.length : Int) ≠ 0) :
    Calls Tryz.prog 64 #[.pointer (some ⟨b, 0, none⟩), .int .i64 3, .int .i64 1, v] w fun e w' => e = .returned (.tuple #[.slice none 0 0, errV (chkE qs (rs.length : Int))]) ∧ Below w.heap.size w w' := by
  have hrl : (rs.length : Int) ≤ C1 rs := by have := C3_le rs; unfold C3 at this; omega
  have cV : Hid (Calls Tryz.prog 119 #[.pointer (some ⟨b, 0, none⟩), .int .i64 3, .int .i64 1, .int .i64 0] w fun e w' => e = .returned (.tuple #[.int .i64 0, .nilIface]) ∧ Below w.heap.size w w') := by
    have := convert_any b rs 3 1 0 (.inr (.inr rfl)) (.inl rfl) (Int.le_refl _) (by_pos 3 rs) w hT hR (by omega) [] (find_zero 3 rs) (by_nil 3)
    rw [by_nil] at this
    exact this
  have cN : Hid (∀ wx, Below w.heap.size w wx → Calls Tryz.prog 20 #[.pointer (some ⟨b, 0, none⟩)] wx fun e w' => e = .returned (cntV rs) ∧ Below wx.heap.size wx w') := fun wx hb => ropecounts_any b rs wx (isRope_below hR hb)
  have cI : Hid (∀ wx, Calls Tryz.prog 19 #[cntV rs, .int .i64 3] wx fun e w' => e = .returned (.int .i64 (rs.length : Int)) ∧ Below wx.heap.size wx w') := fun wx => In_any 3 rs wx
  have hV : errV (chkE qs (rs.length : Int)) = .iface 26 (.int .i64 (chkE qs (rs.length : Int))) := by unfold errV; rw [if_neg hc]
  have cK : Hid (∀ wx, Below w.heap.size w wx → Calls Tryz.prog 68 #[v, .int .i64 (rs.length : Int)] wx fun e w' => e = .returned (.iface 26 (.int .i64 (chkE qs (rs.length : Int)))) ∧ Below wx.heap.size wx w') := fun wx hb => by
    have := Check_any v qs (rs.length : Int) wx (Go.Proofs.Utf8Tabs_below hT hb) (opAt_below hr hb (Nat.le_refl _)) hwf (by omega) (by omega)
    rw [hV] at this
    exact this
  rw [hV]
  obtain ⟨p, c, rfl, _⟩ := hr
  generalize chkE qs (rs.length : Int) = E at *
  unfold cntV at cN cI
  clear hT hR hwf hc hV
  go_enter Tryz.func64, Tryz.ntmps64
  go_wp2_with (first
    | (go_at_call 119; refine Calls.mono cV.out ?_; rintro e w1 ⟨rfl, hb1⟩; have HB1 : Hid (Below w.heap.size w w1) := hb1; clear hb1)
    | (go_at_call 20; refine (cN.out _ HB1.out).mono ?_; rintro e w2 ⟨rfl, hb2⟩; have HB2 : Hid (Below w.heap.size w w2) := HB1.out.trans (hb2.mono HB1.out.size); clear hb2)
    | (go_at_call 19; refine (cI.out _).mono ?_; rintro e w3 ⟨rfl, hb3⟩; have HB3 : Hid (Below w.heap.size w w3) := HB2.out.trans (hb3.mono HB2.out.size); clear hb3)
    | (go_at_call 68; refine (cK.out _ HB3.out).mono ?_; rintro e w4 ⟨rfl, hb4⟩; have HB4 : Hid (Below w.heap.size w w4) := HB3.out.trans (hb4.mono HB3.out.size); clear hb4)
    | fail)
  go_ret2
  exact ⟨rfl, HB4.out⟩

/-- bridge.To by runes. -/
theorem To_any (b : Nat) (rs : List Nat) (qs : List Pt) (v : Value) (w : World) (hT : Lib.Utf8Tabs 2 3 w) (hR : isRope w b rs) (hr : opAt w v qs) (hwf : ∀ q ∈ qs, wfP q) (hl : qs.length ≤ 1000) (hpl : ∀ q ∈ qs, q.put.length ≤ 1000000) (hz : C1 rs ≤ 1000000) (hbw : b < w.heap.size) :
    Calls Tryz.prog 11 #[.pointer (some ⟨b, 0, none⟩), .int .i64 3, v] w fun e w' => ∃ v', e = .returned (.tuple #[v', errV (chkE qs (rs.length : Int))]) ∧ (chkE qs (rs.length : Int) = 0 → opAt w' v' (bytQ rs qs)) ∧ Below w.heap.size w w' := by
  have cC : Hid (Calls Tryz.prog 64 #[.pointer (some ⟨b, 0, none⟩), .int .i64 3, .int .i64 1, v] w fun e w' => ∃ v', e = .returned (.tuple #[v', errV (chkE qs (rs.length : Int))]) ∧ (chkE qs (rs.length : Int) = 0 → opAt w' v' (bytQ rs qs)) ∧ Below w.heap.size w w') := by
    by_cases hc : chkE qs (rs.length : Int) = 0
    · refine (turn_fine b rs qs v w hT hR hr hwf hl (fun q hq => by have := hpl q hq; omega) hz hc hbw).mono fun e w' h => ?_
      obtain ⟨v', rfl, h1, h2⟩ := h
      exact ⟨v', by rw [hc]; rfl, fun _ => h1, h2⟩
    · refine (turn_err b rs qs v w hT hR hr hwf hl hz hc).mono fun e w' h => ?_
      exact ⟨_, h.1, fun h0 => absurd h0 hc, h.2⟩
  obtain ⟨p, c, rfl, _⟩ := hr
  generalize errV (chkE qs (rs.length : Int)) = E at *
  clear hT hR hwf hpl hz
  go_enter Tryz.func11, Tryz.ntmps11
  go_wp2_with (first
    | (go_at_call 64; refine Calls.mono cC.out ?_; rintro e w1 ⟨v1, rfl, h1, hb1⟩; have H1 : Hid _ := h1; clear h1)
    | fail)
  go_ret2
  exact ⟨v1, rfl, H1.out, hb1⟩

set_option maxHeartbeats 1000000 in
theorem new_bad (s : List UInt8) (hs : s.length ≤ 100000) (hsc : (scan s).2 = false) (w : World) (hT : Lib.Utf8Tabs 2 3 w) :
    Calls Tryz.prog 9 #[.string ⟨s.toArray⟩] w fun e w' => ∃ bx, e = .returned (.tuple #[.pointer none, .iface 233 (.pointer (some ⟨bx, 0, none⟩))]) ∧ Below w.heap.size w w' := by
  have c := Count_any ⟨s.toArray⟩ (by simp [ByteArray.size]; omega) w hT
  have C : Hid (Calls Tryz.prog 59 #[.string ⟨s.toArray⟩] w fun e w' => ∃ n1 n2 n3 n4 bx, e = .returned (.tuple #[.agg #[.int .i64 n1, .int .i64 n2, .int .i64 n3, .int .i64 n4], .iface 233 (.pointer (some ⟨bx, 0, none⟩))]) ∧ Below w.heap.size w w') := Calls.mono c fun e w' h => by
    obtain ⟨v, x, rfl, hb, ⟨h0, _⟩ | ⟨_, rfl, bx, rfl, _⟩⟩ := h
    · rw [show (ByteArray.mk s.toArray).data.toList = s from rfl, hsc] at h0; cases h0
    · exact ⟨_, _, _, _, bx, rfl, hb⟩
  clear c hT hsc
  go_enter Tryz.func9, Tryz.ntmps9
  go_wp2_with (first
    | (go_at_call 59; refine Calls.mono C.out ?_; rintro e w1 ⟨n1, n2, n3, n4, bx, rfl, hb1⟩)
    | fail)
  go_ret2
  exact ⟨bx, rfl, hb1.alloc hb1.size _⟩

/-- A document of a text, or none. -/
def isDoc (s : List UInt8) : Prop := (scan s).2 = true ∧ s.length ≤ 1500
set_option maxHeartbeats 1000000 in
theorem document_none (s : List UInt8) (h : ¬ isDoc s) (w : World) (hT : Lib.Utf8Tabs 2 3 w) :
    Calls Tryz.prog 17 #[.string ⟨s.toArray⟩] w fun e w' => e = .returned (.pointer none) ∧ Below w.heap.size w w' := by
  have hz : (ByteArray.mk s.toArray).size = s.length := by simp [ByteArray.size]
  by_cases hs : 1500 < s.length
  · have hs' : (1500 : Int) < (s.length : Int) := by omega
    clear hT h
    go_enter Tryz.func17, Tryz.ntmps17
    go_wp2
    go_ret
    exact ⟨rfl, Below.refl _ _⟩
  · have hs' : ¬ (1500 : Int) < (s.length : Int) := by omega
    have hsc : (scan s).2 = false := Bool.eq_false_iff.2 fun e => h ⟨e, by omega⟩
    have C : Hid _ := new_bad s (by omega) hsc w hT
    clear hT h hsc
    go_enter Tryz.func17, Tryz.ntmps17
    go_wp2_with (first
      | (go_at_call 9; refine Calls.mono C.out ?_; rintro e w1 ⟨bx, rfl, hb1⟩)
      | fail)
    go_ret
    exact ⟨rfl, hb1⟩
set_option maxHeartbeats 1000000 in
theorem document_some (s : List UInt8) (h : isDoc s) (w : World) (hT : Lib.Utf8Tabs 2 3 w) :
    Calls Tryz.prog 17 #[.string ⟨s.toArray⟩] w fun e w' => ∃ b, e = .returned (.pointer (some ⟨b, 0, none⟩)) ∧ isRope w' b (runesOf s) ∧ Below w.heap.size w w' := by
  obtain ⟨h1, h2⟩ := h
  have hz : (ByteArray.mk s.toArray).size = s.length := by simp [ByteArray.size]
  have hs' : ¬ (1500 : Int) < (s.length : Int) := by omega
  have e1 : bytesOf (runesOf s) = ⟨s.toArray⟩ := by unfold bytesOf; rw [encs_runesOf h1]
  have hC1 : C1 (runesOf s) = s.length := by rw [C1_len, encs_runesOf h1]
  have c := new_good (runesOf s) (fun r hr => runesOf_rune hr) (by omega) w hT
  rw [e1] at c
  have C : Hid _ := c
  clear c hT h1 e1 hC1
  go_enter Tryz.func17, Tryz.ntmps17
  go_wp2_with (first
    | (go_at_call 9; refine Calls.mono C.out ?_; rintro e w1 ⟨b, rfl, hlo, hR, hb1⟩; have HR : Hid (isRope w1 b (runesOf s)) := hR; clear hR)
    | fail)
  go_ret
  exact ⟨b, rfl, HR.out, hb1⟩

theorem encs_take (rs : List Nat) (k : Nat) : (encs rs).take (encs (rs.take k)).length = encs (rs.take k) ∧ (encs rs).drop (encs (rs.take k)).length = encs (rs.drop k) := by
  have e : encs rs = encs (rs.take k) ++ encs (rs.drop k) := by rw [← encs_append, List.take_append_drop]
  constructor
  · conv => lhs; rw [e]
    rw [List.take_left']; rfl
  · conv => lhs; rw [e]
    rw [List.drop_left']; rfl
/-- Each part in bytes: it never cuts a rune. -/
theorem byt_left : ∀ (qs : List Pt) (rs : List Nat), (∀ q ∈ qs, oneB q = true ∧ (scan q.put).2 = true) → longP qs = rs.length → (∀ r ∈ rs, isRune r) → Left (bytQ rs qs) (encs rs)
  | [], rs, _, hl, _ => by
    have : rs = [] := List.eq_nil_of_length_eq_zero (by simp [longP] at hl; omega)
    subst this
    exact ⟨by simp [bytQ], by simp [bytQ, longP, encs], trivial⟩
  | q :: qs, rs, h, hl, hr => by
    have hq := h q (by simp)
    have hs := (one_sound hq.1).1
    have hl2 : longP (q :: qs) = lenP q + longP qs := by simp [longP]
    have hp3 : ∀ x ∈ qs, 0 ≤ lenP x := fun x hx => by
      have := (one_sound (h x (by simp [hx])).1).1
      unfold soundP at this; unfold lenP; omega
    have hp := sum_pos hp3
    rw [hl2] at hl
    obtain ⟨K, D, U⟩ := q
    have hld : lenP ⟨K, D, U⟩ = K + D := rfl
    rw [hld] at hl
    have ih := byt_left qs (rs.drop (K + D).toNat) (fun x hx => h x (by simp [hx])) (by rw [List.length_drop]; obtain ⟨s1, s2⟩ := hs; have s1 : 0 ≤ K := s1; have s2 : 0 ≤ D := s2; omega) fun r hx => hr r (List.mem_of_mem_drop hx)
    have hb : bytQ rs (⟨K, D, U⟩ :: qs) = byt1 rs ⟨K, D, U⟩ :: bytQ (rs.drop (K + D).toNat) qs := rfl
    rw [hb]
    obtain ⟨hta, htd⟩ := encs_take rs (K + D).toNat
    have hVt : V (encs (rs.take (K + D).toNat)) := ⟨_, fun r hx => hr r (List.mem_of_mem_take hx), rfl⟩
    have hpos : 0 < K + D → 0 < (encs (rs.take (K + D).toNat)).length := fun h0 => by
      have h1 := encs_len (rs.take (K + D).toNat)
      rw [List.length_take] at h1; omega
    have hsum : ((encs (rs.take (K + D).toNat)).length : Int) + ((encs (rs.drop (K + D).toNat)).length : Int) = (encs rs).length := by
      have : encs rs = encs (rs.take (K + D).toNat) ++ encs (rs.drop (K + D).toNat) := by rw [← encs_append, List.take_append_drop]
      have := congrArg List.length this
      rw [List.length_append] at this; omega
    have huv : V U := V_of_scan hq.2
    have hil := ih.long
    rcases oneB_shapes hq.1 with ⟨h1, h2, h3⟩ | ⟨h1, h2, h3⟩ | ⟨h1, h2, h3⟩
    · have h1 : 0 < K := h1
      obtain rfl : D = 0 := h2
      have hp0 := hpos (by omega)
      have e1 : byt1 rs ⟨K, 0, U⟩ = ⟨((encs (rs.take (K + 0).toNat)).length : Int), 0, []⟩ := by unfold byt1; rw [if_pos h1]; show (⟨C1 _, 0, []⟩ : Pt) = _; rw [C1_len]; rfl
      rw [e1]
      have e2 : (lenP ⟨((encs (rs.take (K + 0).toNat)).length : Int), 0, []⟩).toNat = (encs (rs.take (K + 0).toNat)).length := by unfold lenP; simp
      refine ⟨?_, ?_, V_nil, by rw [e2, hta]; exact hVt, by rw [e2, htd]; exact ih.al⟩
      · intro p hp
        rcases List.mem_cons.1 hp with rfl | hp
        · exact .inl ⟨by show (0 : Int) < ((encs _).length : Int); omega, rfl, rfl⟩
        · exact ih.one p hp
      · rw [long_cons, hil]; simp only [lenP]; omega
    · obtain rfl : K = 0 := h1
      have h2 : 0 < D := h2
      have hp0 := hpos (by omega)
      have e1 : byt1 rs ⟨0, D, U⟩ = ⟨0, ((encs (rs.take (0 + D).toNat)).length : Int), []⟩ := by unfold byt1; rw [if_neg (show ¬ 0 < (⟨0, D, U⟩ : Pt).keep from Int.lt_irrefl 0), if_pos h2]; show (⟨0, C1 _, []⟩ : Pt) = _; rw [C1_len]; rfl
      rw [e1]
      have e2 : (lenP ⟨0, ((encs (rs.take (0 + D).toNat)).length : Int), []⟩).toNat = (encs (rs.take (0 + D).toNat)).length := by unfold lenP; simp
      refine ⟨?_, ?_, V_nil, by rw [e2, hta]; exact hVt, by rw [e2, htd]; exact ih.al⟩
      · intro p hp
        rcases List.mem_cons.1 hp with rfl | hp
        · exact .inr (.inl ⟨rfl, by show (0 : Int) < ((encs _).length : Int); omega, rfl⟩)
        · exact ih.one p hp
      · rw [long_cons, hil]; simp only [lenP]; omega
    · obtain rfl : K = 0 := h1
      obtain rfl : D = 0 := h2
      have e1 : byt1 rs ⟨0, 0, U⟩ = ⟨0, 0, U⟩ := by unfold byt1; rw [if_neg (show ¬ 0 < (⟨0, 0, U⟩ : Pt).keep from Int.lt_irrefl 0), if_neg (show ¬ 0 < (⟨0, 0, U⟩ : Pt).drop from Int.lt_irrefl 0)]
      rw [e1]
      have e0 : rs.drop ((0 : Int) + 0).toNat = rs := rfl
      rw [e0] at ih hil ⊢
      refine ⟨?_, ?_, huv, ?_, ?_⟩
      · intro p hp
        rcases List.mem_cons.1 hp with rfl | hp
        · exact .inr (.inr ⟨rfl, rfl, h3⟩)
        · exact ih.one p hp
      · rw [long_cons, hil]; simp [lenP]
      · show V (List.take 0 _); rw [List.take_zero]; exact V_nil
      · exact ih.al
theorem byt_puts : ∀ (qs : List Pt) (rs : List Nat), (∀ q ∈ qs, oneB q = true) → putsP (bytQ rs qs) = putsP qs
  | [], _, _ => rfl
  | q :: qs, rs, h => by
    have ih := byt_puts qs (rs.drop (lenP q).toNat) fun x hx => h x (by simp [hx])
    have e : ∀ (p : Pt) (l : List Pt), putsP (p :: l) = p.put.length + putsP l := fun p l => by simp [putsP]
    rw [bytQ, e, e, ih]
    congr 1
    unfold byt1
    rcases oneB_shapes (h q (by simp)) with ⟨h1, h2, h3⟩ | ⟨h1, h2, h3⟩ | ⟨h1, h2, h3⟩
    · rw [if_pos h1, h3]
    · rw [if_neg (by omega), if_pos h2, h3]
    · rw [if_neg (by omega), if_neg (by omega)]
theorem puts_small {N : Int} : ∀ (qs : List Pt), (∀ q ∈ qs, smallQ N q) → putsP qs ≤ 150 * qs.length
  | [], _ => by simp [putsP]
  | q :: qs, h => by
    have ih := puts_small qs fun x hx => h x (by simp [hx])
    have := (h q (by simp)).2.2.2.2
    have e : putsP (q :: qs) = q.put.length + putsP qs := by simp [putsP]
    rw [e, List.length_cons]; omega

theorem field2c (a b c d : Int) (w : World) : (Instr.field 25 (.agg #[.int .i64 a, .int .i64 b, .int .i64 c, .int .i64 d]) 2).run Tryz.prog w = .ok (.int .i64 c) w := by kernel_rfl
attribute [local go_sem] field2c
/-- What over tells: an operation that is over all of a text, and small. -/
structure told (x : List Pt) (s : List UInt8) : Prop where
  good : good x s
  doc : isDoc s
  len : x.length ≤ 61
  puts : putsP x ≤ 9150

end Go.Proofs.YtldhbjmillfjgabGreatDoor

namespace Go.Proofs.YtldhbjmillfjgabGreatDoor
set_option linter.unusedVariables false

theorem put_cut (u : List UInt8) (j : Nat) (hj : j + 1 ≤ u.length) (ps : List Pt) (r : List UInt8) (h : Left (⟨0, 0, u⟩ :: ps) r) (hv : V (u.take (j + 1))) :
    (cutP ⟨0, 0, u⟩ ((j : Int) + 1)).1 = ⟨0, 0, u.take (j + 1)⟩ ∧ Left ((cutP ⟨0, 0, u⟩ ((j : Int) + 1)).2 ++ ps) r ∧ applyP (⟨0, 0, u⟩ :: ps) r = u.take (j + 1) ++ applyP ((cutP ⟨0, 0, u⟩ ((j : Int) + 1)).2 ++ ps) r ∧ weight ((cutP ⟨0, 0, u⟩ ((j : Int) + 1)).2 ++ ps) + (j + 1) = weight (⟨0, 0, u⟩ :: ps) := by
  obtain ⟨hl, hV⟩ := left_put h
  have h2 : ((j : Int) + 1).toNat = j + 1 := by omega
  have hw : weight (⟨0, 0, u⟩ :: ps) = u.length + weight ps := by rw [weight_cons, len_put]; omega
  rw [hw, apply_put]
  by_cases e : u.length = j + 1
  · have e1 : cutP ⟨0, 0, u⟩ ((j : Int) + 1) = (⟨0, 0, u⟩, []) := by unfold cutP; rw [if_pos (by rw [len_put]; omega)]
    rw [e1, List.take_of_length_le (by omega)]
    exact ⟨rfl, hl, rfl, by show weight ps + (j + 1) = _; omega⟩
  · have e1 : cutP ⟨0, 0, u⟩ ((j : Int) + 1) = (⟨0, 0, u.take (j + 1)⟩, [⟨0, 0, u.drop (j + 1)⟩]) := by
      unfold cutP
      rw [if_neg (by rw [len_put]; omega), if_neg (show ¬ 0 < (⟨0, 0, u⟩ : Pt).keep from Int.lt_irrefl 0), if_neg (show ¬ 0 < (⟨0, 0, u⟩ : Pt).drop from Int.lt_irrefl 0), h2]
    have e2 : u = u.take (j + 1) ++ u.drop (j + 1) := (List.take_append_drop _ _).symm
    have h3 : V (u.drop (j + 1)) := V_take hV hv
    have h4 : u.drop (j + 1) ≠ [] := fun e' => by have := congrArg List.length e'; rw [List.length_drop] at this; simp at this; omega
    rw [e1]
    refine ⟨rfl, ⟨?_, ?_, h3, ?_, ?_⟩, ?_, ?_⟩
    · intro p hp
      rcases List.mem_cons.1 hp with rfl | hp
      · exact .inr (.inr ⟨rfl, rfl, h4⟩)
      · exact hl.one p hp
    · have := hl.long
      simp only [List.cons_append, List.nil_append]
      rw [long_cons]
      show (0 : Int) + 0 + _ = _
      omega
    · show V (r.take 0); rw [List.take_zero]; exact V_nil
    · exact hl.al
    · show u ++ applyP ps r = u.take (j + 1) ++ applyP (⟨0, 0, u.drop (j + 1)⟩ :: ps) r
      rw [apply_put, ← List.append_assoc, ← e2]
    · show weight (⟨0, 0, u.drop (j + 1)⟩ :: ps) + (j + 1) = _
      rw [weight_cons, len_put, List.length_drop]; omega

theorem drop_unit (d : Bool) (n : Nat) : isDropP (unitK d (n + 1)) = d := by
  have h0 : (0 : Int) < ((n : Int) + 1) := by omega
  cases d <;> simp [isDropP, unitK, h0]
theorem keep_unit (d : Bool) (n : Nat) : isKeepP (unitK d (n + 1)) = !d := by
  have h0 : (0 : Int) < ((n : Int) + 1) := by omega
  cases d <;> simp [isKeepP, unitK, h0]

theorem comp_st : ∀ (f : Nat) (A B : List Pt) (r T D o : List UInt8) (s : NSt), Left A r → Left B (applyP A r) → weight A + weight B ≤ f → St T D r o s →
    St T T [] (o ++ applyP B (applyP A r)) (runS compP (sideP isDropP isPutP f A B) s) := by
  have base : ∀ (T D o : List UInt8) (s : NSt) (g : Nat), St T D [] o s → St T T [] (o ++ applyP [] (applyP [] [])) (runS compP (sideP isDropP isPutP g [] []) s) := by
    intro T D o s g h
    have e : sideP isDropP isPutP g [] [] = [] := by cases g <;> rfl
    rw [e]
    exact h.full.none
  have nil_of : ∀ {l : List Pt} {r : List UInt8}, Left l r → weight l = 0 → l = [] := by
    intro l r h hw
    cases l with
    | nil => rfl
    | cons p l => have := one_weight (h.one p (by simp)) l; omega
  intro f
  induction f with
  | zero =>
    intro A B r T D o s hA hB hw h
    obtain rfl := nil_of hA (by omega)
    obtain rfl := nil_of hB (by omega)
    obtain rfl := left_nil hA
    exact base T D o s 0 h
  | succ f ih =>
    intro A B r T D o s hA hB hw h
    have stepB : ∀ (v : List UInt8) (B' : List Pt), v ≠ [] → B = ⟨0, 0, v⟩ :: B' → sideP isDropP isPutP (f + 1) A B = (noP, ⟨0, 0, v⟩) :: sideP isDropP isPutP f A B' → St T T [] (o ++ applyP B (applyP A r)) (runS compP (sideP isDropP isPutP (f + 1) A B) s) := by
      intro v B' hv e es
      subst e
      obtain ⟨hB', hV⟩ := left_put hB
      have hw' := one_weight (hB.one ⟨0, 0, v⟩ (by simp)) B'
      rw [es, runS_cons, apply_put, ← List.append_assoc]
      refine ih A B' r T D (o ++ v) _ hA hB' (by omega) ?_
      have e : compP (noP, ⟨0, 0, v⟩) = [⟨0, 0, v⟩] := by simp [compP, isDropP, isKeepP, isPutP, noP, hv]
      rw [e]
      exact h.put hV
    cases A with
    | nil =>
      obtain rfl := left_nil hA
      cases B with
      | nil => exact base T D o s (f + 1) h
      | cons q B' =>
        rcases one_cases (hB.one q (by simp)) with ⟨v, hv, rfl⟩ | ⟨e, k, rfl⟩
        · exact stepB v B' hv rfl (by
            have h2 := put_isPut hv
            simp only [sideP, h2, if_true])
        · exact absurd hB left_unit_ne
    | cons p A' =>
      rcases one_cases (hA.one p (by simp)) with ⟨u, hu, rfl⟩ | ⟨d, m, rfl⟩
      · have hdu : isDropP ⟨0, 0, u⟩ = false := by simp [isDropP]
        cases B with
        | nil =>
          have := left_nil hB
          rw [apply_put] at this
          simp [hu] at this
        | cons q B' =>
          rcases one_cases (hB.one q (by simp)) with ⟨v, hv, rfl⟩ | ⟨e, k, rfl⟩
          · exact stepB v B' hv rfl (by
              have h2 := put_isPut hv
              simp only [sideP, hdu, h2, Bool.false_eq_true, if_false, if_true])
          · obtain ⟨m, hm⟩ : ∃ m, u.length = m + 1 := ⟨u.length - 1, by have := List.length_pos_iff.2 hu; omega⟩
            have hmin : min (lengthP ⟨0, 0, u⟩) (lengthP (unitK e (k + 1))) = ((min m k : Nat) : Int) + 1 := by rw [len_put, len_unit]; omega
            obtain ⟨j, hj⟩ : ∃ j, min m k = j := ⟨_, rfl⟩
            rw [hj] at hmin
            have hj1 : j ≤ m := by omega
            have hj2 : j ≤ k := by omega
            have huv := (left_put hA).2
            have hmid := apply_put u A' r
            have hv : V (u.take (j + 1)) := by
              have v2 := (left_cons hB).2.2.1
              rw [lenP_unit, hmid] at v2
              by_cases hc : m ≤ k
              · rw [List.take_of_length_le (by omega)]; exact huv
              · obtain rfl : k = j := by omega
                have e2 : ((k + 1 : Nat) : Int).toNat = k + 1 := by omega
                rw [e2, List.take_append_of_le_length (by omega)] at v2
                exact v2
            obtain ⟨c1, lA, aA, wA⟩ := put_cut u j (by omega) A' r hA hv
            have hx : (u.take (j + 1)).length = j + 1 := by rw [List.length_take]; omega
            have hvm : V ((applyP (⟨0, 0, u⟩ :: A') r).take (j + 1)) := by rw [aA, List.take_left' hx]; exact hv
            obtain ⟨lB, aB, _⟩ := unit_cut e k j hj2 B' _ hB hvm
            rw [aB]
            rw [aA, List.drop_left' hx, List.take_left' hx] at *
            have wB := cut_weight e k j hj2
            have es : sideP isDropP isPutP (f + 1) (⟨0, 0, u⟩ :: A') (unitK e (k + 1) :: B') = (⟨0, 0, u.take (j + 1)⟩, unitK e (j + 1)) :: sideP isDropP isPutP f ((cutP ⟨0, 0, u⟩ ((j : Int) + 1)).2 ++ A') ((cutP (unitK e (k + 1)) ((j : Int) + 1)).2 ++ B') := by
              have h2 := unit_isPut e (k + 1)
              simp only [sideP, hdu, h2, hmin, c1, (cut_unit e k j hj2).1, Bool.false_eq_true, if_false]
            have hw2 : weight ((cutP ⟨0, 0, u⟩ ((j : Int) + 1)).2 ++ A') + weight ((cutP (unitK e (k + 1)) ((j : Int) + 1)).2 ++ B') ≤ f := by
              rw [weight_append (cutP (unitK e (k + 1)) ((j : Int) + 1)).2, wB]
              rw [weight_cons (unitK e (k + 1)), len_unit] at hw
              omega
            rw [es, runS_cons, ← List.append_assoc]
            refine ih _ _ r T D _ _ lA lB hw2 ?_
            have hune : u.take (j + 1) ≠ [] := fun e' => by rw [e'] at hx; simp at hx
            cases e with
            | true =>
              have ec : compP (⟨0, 0, u.take (j + 1)⟩, unitK true (j + 1)) = [] := by
                have h1 := keep_unit true j
                have h2 := unit_isPut true (j + 1)
                simp [compP, isDropP, h2, isKeepP]
                simp [unitK]
              rw [ec, if_pos rfl]
              exact h.none
            | false =>
              have ec : compP (⟨0, 0, u.take (j + 1)⟩, unitK false (j + 1)) = [⟨0, 0, u.take (j + 1)⟩] := by
                have h1 := keep_unit false j
                simp [compP, h1]
              rw [ec, if_neg (by decide)]
              exact h.put hv
      · cases d with
        | true =>
          obtain ⟨lA, _, hv, hlen⟩ := left_cons hA
          rw [lenP_unit] at lA hv hlen
          have e2 : ((m + 1 : Nat) : Int).toNat = m + 1 := by omega
          rw [e2] at lA hv hlen
          have hap : applyP (unitK true (m + 1) :: A') r = applyP A' (r.drop (m + 1)) := by rw [apply_unit]; simp
          rw [hap] at hB ⊢
          have hw' := one_weight (hA.one (unitK true (m + 1)) (by simp)) A'
          have es : sideP isDropP isPutP (f + 1) (unitK true (m + 1) :: A') B = (unitK true (m + 1), noP) :: sideP isDropP isPutP f A' B := by
            have h1 := drop_unit true m
            cases B <;> simp only [sideP, h1, if_true]
          have ec : compP (unitK true (m + 1), noP) = [unitK true (m + 1)] := by
            have h1 := drop_unit true m
            simp [compP, h1]
          rw [es, runS_cons, ec]
          refine ih A' B (r.drop (m + 1)) T (D ++ r.take (m + 1)) o _ lA hB (by omega) ?_
          have h' : St T D (r.take (m + 1) ++ r.drop (m + 1)) o s := by rw [List.take_append_drop]; exact h
          have := h'.unit hv true (m + 1) (by rw [List.length_take]; omega)
          rw [if_pos rfl, List.append_nil] at this
          exact this
        | false =>
          cases B with
          | nil =>
            have := left_nil hB
            rw [apply_unit] at this
            have hlen := (left_cons hA).2.2.2
            rw [lenP_unit] at hlen
            have := congrArg List.length this
            rw [if_neg (by decide), List.length_append, List.length_take, List.length_nil] at this
            omega
          | cons q B' =>
            rcases one_cases (hB.one q (by simp)) with ⟨v, hv, rfl⟩ | ⟨e, k, rfl⟩
            · exact stepB v B' hv rfl (by
                have h1 := drop_unit false m
                have h2 := put_isPut hv
                simp only [sideP, h1, h2, Bool.false_eq_true, if_false, if_true])
            · have hmin : min (lengthP (unitK false (m + 1))) (lengthP (unitK e (k + 1))) = ((min m k : Nat) : Int) + 1 := by rw [len_unit, len_unit]; omega
              obtain ⟨j, hj⟩ : ∃ j, min m k = j := ⟨_, rfl⟩
              rw [hj] at hmin
              have hj1 : j ≤ m := by omega
              have hj2 : j ≤ k := by omega
              have hlenA := (left_cons hA).2.2.2
              rw [lenP_unit] at hlenA
              have hv : V (r.take (j + 1)) := by
                have v1 := (left_cons hA).2.2.1
                have v2 := (left_cons hB).2.2.1
                rw [lenP_unit] at v1 v2
                by_cases hc : m ≤ k
                · obtain rfl : m = j := by omega
                  exact v1
                · obtain rfl : k = j := by omega
                  have e2 : ((k + 1 : Nat) : Int).toNat = k + 1 := by omega
                  rw [e2, apply_unit, if_neg (by decide), List.take_append_of_le_length (by rw [List.length_take]; omega), List.take_take, show min (k + 1) (m + 1) = k + 1 by omega] at v2
                  exact v2
              obtain ⟨lA, aA, hlen⟩ := unit_cut false m j hj1 A' r hA hv
              rw [if_neg (by decide)] at aA
              have hx : (r.take (j + 1)).length = j + 1 := by rw [List.length_take]; omega
              have hvm : V ((applyP (unitK false (m + 1) :: A') r).take (j + 1)) := by rw [aA, List.take_left' hx]; exact hv
              obtain ⟨lB, aB, _⟩ := unit_cut e k j hj2 B' _ hB hvm
              rw [aB]
              rw [aA, List.drop_left' hx, List.take_left' hx] at *
              have wA := cut_weight false m j hj1
              have wB := cut_weight e k j hj2
              have es : sideP isDropP isPutP (f + 1) (unitK false (m + 1) :: A') (unitK e (k + 1) :: B') = (unitK false (j + 1), unitK e (j + 1)) :: sideP isDropP isPutP f ((cutP (unitK false (m + 1)) ((j : Int) + 1)).2 ++ A') ((cutP (unitK e (k + 1)) ((j : Int) + 1)).2 ++ B') := by
                have h1 := drop_unit false m
                have h2 := unit_isPut e (k + 1)
                simp only [sideP, h1, h2, hmin, (cut_unit false m j hj1).1, (cut_unit e k j hj2).1, Bool.false_eq_true, if_false]
              have hw2 : weight ((cutP (unitK false (m + 1)) ((j : Int) + 1)).2 ++ A') + weight ((cutP (unitK e (k + 1)) ((j : Int) + 1)).2 ++ B') ≤ f := by
                rw [weight_append, weight_append, wA, wB]
                rw [weight_cons, weight_cons, len_unit, len_unit] at hw
                omega
              rw [es, runS_cons, ← List.append_assoc]
              refine ih _ _ (r.drop (j + 1)) T (D ++ r.take (j + 1)) _ _ lA lB hw2 ?_
              have ec : compP (unitK false (j + 1), unitK e (j + 1)) = [unitK e (j + 1)] := by
                have h1 := keep_unit e j
                have h2 := keep_unit false j
                have h3 := drop_unit false j
                cases e <;> simp [compP, h1, h2, h3]
              rw [ec]
              have h' : St T D (r.take (j + 1) ++ r.drop (j + 1)) o s := by rw [List.take_append_drop]; exact h
              exact h'.unit hv e (j + 1) hx

/-- What Compose tells, and what it makes. -/
theorem good_comp {a b : List Pt} {t : List UInt8} (ha : good a t) (hb : good b (applyP a t)) :
    good (tellP (compS a b)) t ∧ applyP (tellP (compS a b)) t = applyP b (applyP a t) := by
  have na := ha.norm
  have nb := hb.norm
  have la : Left (normP a) t := ⟨na.one, na.long, na.al⟩
  have ea := apply_norm ha.one t
  have eb := apply_norm hb.one (applyP a t)
  have lb : Left (normP b) (applyP (normP a) t) := by rw [ea]; exact ⟨nb.one, nb.long, nb.al⟩
  have := (comp_st _ (normP a) (normP b) t t [] [] nst0 la lb (Nat.le_refl _) (St0 t)).good
  rw [List.nil_append, ea, eb] at this
  exact this

theorem inv_left : ∀ (ps : List Pt) (t : List UInt8), Left ps t → Left ((pcs ps t).map invP) (applyP ps t) ∧ applyP ((pcs ps t).map invP) (applyP ps t) = t
  | [], t, h => by
    obtain rfl := left_nil h
    exact ⟨⟨by simp [pcs], by simp [pcs, longP, applyP], trivial⟩, rfl⟩
  | p :: ps, t, h => by
    obtain ⟨hl, hp, hv, hlen⟩ := left_cons h
    obtain ⟨ih1, ih2⟩ := inv_left ps _ hl
    have e : (pcs (p :: ps) t).map invP = invP (p, t.take (lenP p).toNat) :: (pcs ps (t.drop (lenP p).toNat)).map invP := rfl
    rw [e]
    rcases one_cases (h.one p (by simp)) with ⟨u, hu, rfl⟩ | ⟨d, m, rfl⟩
    · have ei : ∀ x, invP (⟨0, 0, u⟩, x) = unitK true u.length := fun x => by simp [invP, unitK]
      obtain ⟨m, hm⟩ : ∃ m, u.length = m + 1 := ⟨u.length - 1, by have := List.length_pos_iff.2 hu; omega⟩
      have e0 : (lenP (⟨0, 0, u⟩ : Pt)).toNat = 0 := rfl
      rw [ei, apply_put, hm]
      rw [e0, List.drop_zero] at ih1 ih2 ⊢
      have e2 : ((m + 1 : Nat) : Int).toNat = m + 1 := by omega
      refine ⟨⟨?_, ?_, V_nil, ?_, ?_⟩, ?_⟩
      · intro p hp
        rcases List.mem_cons.1 hp with rfl | hp
        · exact one_unit true m
        · exact ih1.one p hp
      · rw [long_cons, lenP_unit, ih1.long, List.length_append, hm]; push_cast; rfl
      · rw [lenP_unit, e2, List.take_left' hm]; exact hp
      · rw [lenP_unit, e2, List.drop_left' hm]; exact ih1.al
      · rw [apply_unit, if_pos rfl, List.nil_append, List.drop_left' hm]; exact ih2
    · rw [lenP_unit] at hl hv hlen ih1 ih2 ⊢
      have e2 : ((m + 1 : Nat) : Int).toNat = m + 1 := by omega
      rw [e2] at hl hv hlen ih1 ih2 ⊢
      have hx : (t.take (m + 1)).length = m + 1 := by rw [List.length_take]; omega
      cases d with
      | true =>
        have ei : invP (unitK true (m + 1), t.take (m + 1)) = ⟨0, 0, t.take (m + 1)⟩ := by
          have h0 : (0 : Int) < ((m : Int) + 1) := by omega
          simp [invP, unitK, h0]
        rw [ei, apply_unit, if_pos rfl, List.nil_append]
        refine ⟨⟨?_, ?_, hv, ?_, ?_⟩, ?_⟩
        · intro p hp
          rcases List.mem_cons.1 hp with rfl | hp
          · exact .inr (.inr ⟨rfl, rfl, fun e' => by have e' : t.take (m + 1) = [] := e'; rw [e'] at hx; simp at hx⟩)
          · exact ih1.one p hp
        · rw [long_cons, ih1.long]; simp [lenP]
        · show V (List.take 0 _); rw [List.take_zero]; exact V_nil
        · exact ih1.al
        · rw [apply_put, ih2, List.take_append_drop]
      | false =>
        have ei : invP (unitK false (m + 1), t.take (m + 1)) = unitK false (m + 1) := by
          have h0 : (0 : Int) < ((m : Int) + 1) := by omega
          simp [invP, unitK, h0]
        rw [ei, apply_unit, if_neg (by decide)]
        refine ⟨⟨?_, ?_, V_nil, ?_, ?_⟩, ?_⟩
        · intro p hp
          rcases List.mem_cons.1 hp with rfl | hp
          · exact one_unit false m
          · exact ih1.one p hp
        · rw [long_cons, lenP_unit, ih1.long, List.length_append, hx]; push_cast; rfl
        · rw [lenP_unit, e2, List.take_left' hx]; exact hv
        · rw [lenP_unit, e2, List.drop_left' hx]; exact ih1.al
        · rw [apply_unit, if_neg (by decide), List.take_left' hx, List.drop_left' hx, ih2, List.take_append_drop]
/-- What is taken back was not done. -/
theorem good_inv {ps : List Pt} {t : List UInt8} (h : good ps t) : good (invertP ps t) (applyP ps t) ∧ applyP (invertP ps t) (applyP ps t) = t := by
  obtain ⟨h1, h2⟩ := inv_left ps t ⟨h.one, h.long, h.al⟩
  exact ⟨h1.good.norm, by unfold invertP; rw [apply_norm h1.one, h2]⟩
end Go.Proofs.YtldhbjmillfjgabGreatDoor

namespace Go.Proofs.YtldhbjmillfjgabGreatDoor
set_option linter.unusedVariables false

def runC {X : Type} (act : X → Pt → X) (n : Int) : List Cel → Int → X → X
  | [], pos, x => act x ⟨0, n - pos, []⟩
  | (i, c) :: E, pos, x => if i < 0 then runC act n E pos (act x ⟨0, 0, [c]⟩) else runC act n E (i + 1) (act (act x ⟨0, i - pos, []⟩) ⟨1, 0, []⟩)
theorem act_den {X : Type} {act : X → Pt → X} (h : ActP act) (n : Int) : ∀ (E : List Cel) (pos : Int) (s : NSt) (x : X), OneS s → okC n E pos → (tellP (denC n E pos s)).foldl act x = runC act n E pos ((tellP s).foldl act x)
  | [], pos, s, x, h1, hk => by
    have hk : pos ≤ n := hk
    rw [denC, runC, act_add h s _ h1.drop (Int.le_refl _) (by show 0 ≤ n - pos; omega)]
  | (i, c) :: E, pos, s, x, h1, hk => by
    rw [denC, runC]
    rw [okC] at hk
    split
    · rename_i hi
      rw [if_pos hi] at hk
      rw [act_den h n E pos _ x (add_one h1 _ (Int.le_refl _) (Int.le_refl _)) hk, act_add h s _ h1.drop (Int.le_refl _) (Int.le_refl _)]
    · rename_i hi
      rw [if_neg hi] at hk
      have h2 := add_one h1 ⟨0, i - pos, []⟩ (Int.le_refl _) (by show 0 ≤ i - pos; omega)
      have h3 := add_one h2 ⟨1, 0, []⟩ (by decide) (Int.le_refl _)
      rw [act_den h n E (i + 1) _ x h3 hk.2.2, act_add h _ ⟨1, 0, []⟩ h2.drop (by decide) (Int.le_refl _), act_add h s _ h1.drop (Int.le_refl _) (by show 0 ≤ i - pos; omega)]

/-- Cells as they are written: put, or of the text. -/
def niceC (x : Cel) : Prop := (x.1 < 0 → x.1 = -1) ∧ (0 ≤ x.1 → x.2 = 0)
theorem nice_put (u : List UInt8) : ∀ x ∈ putC u, niceC x := by
  intro x hx
  obtain ⟨c, _, rfl⟩ := List.mem_map.1 hx
  exact ⟨fun _ => rfl, fun h => by simp at h⟩
theorem nice_from : ∀ (k : Nat) (i : Int), 0 ≤ i → ∀ x ∈ fromC i k, niceC x
  | 0, i, _, x, hx => by cases hx
  | k + 1, i, h, x, hx => by
    rcases List.mem_cons.1 hx with rfl | hx
    · exact ⟨fun h' => by have h' : i < 0 := h'; omega, fun _ => rfl⟩
    · exact nice_from k (i + 1) (by omega) x hx
theorem nice_mid : ∀ (ps : List Pt) (i : Int), 0 ≤ i → (∀ p ∈ ps, 0 ≤ p.keep ∧ 0 ≤ p.drop) → ∀ x ∈ midP i ps, niceC x
  | [], i, _, _, x, hx => by cases hx
  | p :: ps, i, h, h1, x, hx => by
    have h2 := h1 p (by simp)
    rcases List.mem_append.1 hx with hx | hx
    · exact nice_from _ i h x hx
    · rcases List.mem_append.1 hx with hx | hx
      · exact nice_put _ x hx
      · exact nice_mid ps _ (by omega) (fun q hq => h1 q (by simp [hq])) x hx
theorem nice_end : ∀ (ps : List Pt) (M : List Cel), (∀ x ∈ M, niceC x) → ∀ x ∈ endP M ps, niceC x
  | [], M, _, x, hx => by cases hx
  | p :: ps, M, h, x, hx => by
    rcases List.mem_append.1 hx with hx | hx
    · exact h x (List.mem_of_mem_take hx)
    · rcases List.mem_append.1 hx with hx | hx
      · exact nice_put _ x hx
      · exact nice_end ps _ (fun y hy => h y (List.mem_of_mem_drop hy)) x hx

theorem runM (n : Int) : ∀ (E : List Cel) (pos : Int) (l : List Cel), (∀ x ∈ E, niceC x) → (runC actM n E pos (l, pos)).1 = l ++ E
  | [], pos, l, _ => by simp [runC, actM, putC, fromC]
  | (i, c) :: E, pos, l, h => by
    have hx := h (i, c) (by simp)
    have ht : ∀ x ∈ E, niceC x := fun x hx => h x (by simp [hx])
    rw [runC]
    split
    · rename_i hi
      obtain rfl : i = -1 := hx.1 hi
      have e : actM (l, pos) ⟨0, 0, [c]⟩ = (l ++ [(-1, c)], pos) := by simp [actM, putC, fromC]
      rw [e, runM n E pos _ ht]; simp
    · rename_i hi
      have hc : c = 0 := hx.2 (by show 0 ≤ i; omega)
      subst hc
      have e : actM (actM (l, pos) ⟨0, i - pos, []⟩) ⟨1, 0, []⟩ = (l ++ [(i, 0)], i + 1) := by
        have : pos + (i - pos) = i := by omega
        simp [actM, putC, fromC, this]
      rw [e, runM n E (i + 1) _ ht]; simp
/-- What stands in a cell's stead. -/
def subC (M : List Cel) (x : Cel) : Cel := if x.1 < 0 then (-1, x.2) else M[x.1.toNat]?.getD (-1, 0)
theorem runE (n : Int) (M : List Cel) (hM : (M.length : Int) = n) : ∀ (E : List Cel) (pos : Int) (l : List Cel), 0 ≤ pos → okC n E pos → (runC actE n E pos (l, M.drop pos.toNat)).1 = l ++ E.map (subC M)
  | [], pos, l, _, _ => by simp [runC, actE, putC]
  | (i, c) :: E, pos, l, h0, hk => by
    rw [okC] at hk
    rw [runC]
    split
    · rename_i hi
      rw [if_pos hi] at hk
      have e : actE (l, M.drop pos.toNat) ⟨0, 0, [c]⟩ = (l ++ [(-1, c)], M.drop pos.toNat) := by simp [actE, putC]
      have es : subC M (i, c) = (-1, c) := by unfold subC; rw [if_pos hi]
      rw [e, runE n M hM E pos _ h0 hk, List.map_cons, es]; simp
    · rename_i hi
      rw [if_neg hi] at hk
      obtain ⟨k1, k2, k3⟩ := hk
      have hlt : i.toNat < M.length := by omega
      have es : subC M (i, c) = M[i.toNat] := by unfold subC; rw [if_neg hi]; simp [List.getElem?_eq_getElem hlt]
      have e1 : (M.drop pos.toNat).drop (i - pos).toNat = M.drop i.toNat := by rw [List.drop_drop]; congr 1; omega
      have e2 : M.drop i.toNat = M[i.toNat] :: M.drop (i + 1).toNat := by rw [List.drop_eq_getElem_cons hlt]; congr 2; omega
      have e : actE (actE (l, M.drop pos.toNat) ⟨0, i - pos, []⟩) ⟨1, 0, []⟩ = (l ++ [M[i.toNat]], M.drop (i + 1).toNat) := by
        simp only [actE, putC, List.map_nil, List.nil_append, Int.toNat_zero, List.take_zero, List.append_nil, List.drop_zero, e1]
        rw [e2]
        have h1 : (1 : Int).toNat = 1 := rfl
        simp [h1]
      rw [e, runE n M hM E (i + 1) _ (by omega) k3, List.map_cons, es]; simp

theorem apply_len : ∀ (ps : List Pt) (t : List UInt8), Left ps t → ((applyP ps t).length : Int) = (ps.map isP).sum
  | [], t, _ => rfl
  | p :: ps, t, h => by
    obtain ⟨hl, _, _, hlen⟩ := left_cons h
    have ih := apply_len ps _ hl
    rw [List.map_cons, List.sum_cons, ← ih]
    rcases one_cases (h.one p (by simp)) with ⟨u, hu, rfl⟩ | ⟨d, m, rfl⟩
    · rw [apply_put, List.length_append]; simp [isP, lenP]
    · rw [lenP_unit] at hlen ⊢
      have e2 : ((m + 1 : Nat) : Int).toNat = m + 1 := by omega
      rw [e2] at hlen ⊢
      rw [apply_unit, List.length_append]
      cases d with
      | true => simp [isP, unitK]
      | false =>
        rw [if_neg (by decide), List.length_take]
        simp only [isP, unitK, List.length_nil, Bool.false_eq_true, if_false]
        omega
theorem good.left {ps : List Pt} {t : List UInt8} (h : good ps t) : Left ps t := ⟨h.one, h.long, h.al⟩

/-- Compose as cells. -/
theorem comp_cells {a b : List Pt} {t : List UInt8} (ha : good a t) (hb : good b (applyP a t)) : compS a b = denC t.length (endP (midP 0 a) b) 0 nst0 ∧ okC t.length (endP (midP 0 a) b) 0 ∧ ((midP 0 a).length : Int) = (applyP a t).length := by
  have na := ha.norm
  have nb := hb.norm
  have ml := mid_len a 0 fun p hp => (ones_sound ha.one p hp).1
  have al := apply_len a t ha.left
  have mn := mid_norm a ha.one
  have en := end_norm b hb.one (midP 0 a)
  have h1 := comp_side (t.length : Int) (weight (normP a) + weight (normP b)) (normP a) (normP b) 0 nst0 na.one nb.one (Int.le_refl _) (by rw [mn, nb.long, ml, ← al]) (by rw [na.long, Int.zero_add]) (Nat.le_refl _)
  rw [mn, en] at h1
  refine ⟨h1, ok_ends _ b _ 0 (ones_sound hb.one) (ok_mid _ a 0 ha.one (Int.le_refl _) (by rw [ha.long, Int.zero_add])), by rw [ml, ← al]⟩
theorem comp_mid {a b : List Pt} {t : List UInt8} (ha : good a t) (hb : good b (applyP a t)) : midP 0 (tellP (compS a b)) = endP (midP 0 a) b := by
  obtain ⟨e, hk, _⟩ := comp_cells ha hb
  have hg := (good_comp ha hb).1
  have h1 := actM_mid _ hg.one [] 0
  rw [e] at h1 ⊢
  rw [act_den actM_ok _ _ 0 nst0 ([], 0) ⟨by simp [nst0], by simp [nst0]⟩ hk] at h1
  have h2 := congrArg Prod.fst h1
  rw [show ((tellP nst0).foldl actM ([], 0)) = ([], 0) from rfl, runM _ _ 0 [] (nice_end b _ (nice_mid a 0 (Int.le_refl _) (ones_sound ha.one)))] at h2
  simpa using h2.symm
theorem comp_end {a b : List Pt} {t : List UInt8} (ha : good a t) (hb : good b (applyP a t)) (M : List Cel) (hM : M.length = t.length) : endP M (tellP (compS a b)) = (endP (midP 0 a) b).map (subC M) := by
  obtain ⟨e, hk, _⟩ := comp_cells ha hb
  have hg := (good_comp ha hb).1
  have h1 := actE_end _ hg.one [] M
  rw [e] at h1 ⊢
  rw [act_den actE_ok _ _ 0 nst0 ([], M) ⟨by simp [nst0], by simp [nst0]⟩ hk] at h1
  have h2 := runE (t.length : Int) M (by rw [hM]) (endP (midP 0 a) b) 0 [] (Int.le_refl _) hk
  rw [show ((tellP nst0).foldl actE ([], M)) = ([], M) from rfl] at h1
  rw [Int.toNat_zero, List.drop_zero] at h2
  rw [h2] at h1
  simpa using h1.symm
theorem sub_put (M : List Cel) (u : List UInt8) : (putC u).map (subC M) = putC u := by
  unfold putC
  rw [List.map_map]
  congr 1
theorem end_map (M : List Cel) : ∀ (ps : List Pt) (E : List Cel), (endP E ps).map (subC M) = endP (E.map (subC M)) ps
  | [], E => rfl
  | p :: ps, E => by
    rw [endP, endP, List.map_append, List.map_append, sub_put, end_map M ps, List.map_take, List.map_drop]
theorem sub_from (M : List Cel) : ∀ (k : Nat) (i : Int), 0 ≤ i → i + k ≤ M.length → (fromC i k).map (subC M) = (M.drop i.toNat).take k
  | 0, i, _, _ => by simp [fromC]
  | k + 1, i, h, h1 => by
    have hlt : i.toNat < M.length := by omega
    have es : subC M (i, 0) = M[i.toNat] := by unfold subC; rw [if_neg (by show ¬ i < 0; omega)]; simp [List.getElem?_eq_getElem hlt]
    rw [fromC, List.map_cons, es, sub_from M k (i + 1) (by omega) (by omega), List.drop_eq_getElem_cons hlt, List.take_succ_cons]
    congr 3
    omega
theorem mid_sub (M : List Cel) : ∀ (ps : List Pt) (i : Int), 0 ≤ i → (∀ p ∈ ps, oneP p) → i + longP ps ≤ M.length → (midP i ps).map (subC M) = endP (M.drop i.toNat) ps
  | [], i, _, _, _ => rfl
  | p :: ps, i, h, h1, h2 => by
    have h3 := long_pos fun q hq => h1 q (List.mem_cons_of_mem _ hq)
    have h4 := ones_sound h1 p (by simp)
    rw [long_cons] at h2
    have e : lenP p = p.keep + p.drop := rfl
    rw [midP, endP, List.map_append, List.map_append, sub_put, sub_from M _ i h (by omega), mid_sub M ps _ (by omega) (fun q hq => h1 q (by simp [hq])) (by omega), List.drop_drop]
    congr 4
    omega
/-- Three in one, in whichever order. -/
theorem comp_three {x y z : List Pt} {t : List UInt8} (hx : good x t) (hy : good y (applyP x t)) (hz : good z (applyP y (applyP x t))) :
    tellP (compS (tellP (compS x y)) z) = tellP (compS x (tellP (compS y z))) := by
  have gxy := good_comp hx hy
  have gyz := good_comp hy hz
  have e1 := (comp_cells gxy.1 (by rw [gxy.2]; exact hz)).1
  have e2 := (comp_cells hx gyz.1).1
  have hM := (comp_cells hx hy).2.2
  have hM' : (midP 0 x).length = (applyP x t).length := by omega
  rw [comp_mid hx hy] at e1
  rw [comp_end hy hz _ hM', end_map, mid_sub _ y 0 (Int.le_refl _) hy.one (by rw [hy.long]; omega), Int.toNat_zero, List.drop_zero] at e2
  rw [e1, e2]

/-- Which bytes an operation drops. -/
def flagsP : List Pt → List Bool
  | [] => []
  | p :: ps => List.replicate p.drop.toNat true ++ (List.replicate p.keep.toNat false ++ flagsP ps)
theorem flags_append : ∀ (a b : List Pt), flagsP (a ++ b) = flagsP a ++ flagsP b
  | [], b => rfl
  | p :: a, b => by rw [List.cons_append, flagsP, flagsP, flags_append a b]; simp
def actF (x : List Bool) (p : Pt) : List Bool := x ++ (List.replicate p.drop.toNat true ++ List.replicate p.keep.toNat false)
theorem actF_ok : ActP actF := by
  constructor
  · intro x; simp [actF]
  · intro x u v; simp [actF]
  · intro x a b ha hb
    simp only [actF, Int.toNat_zero, List.replicate_zero, List.append_nil, List.append_assoc]
    rw [show (a + b).toNat = a.toNat + b.toNat by omega, ← List.replicate_append_replicate]
  · intro x a b ha hb
    simp only [actF, Int.toNat_zero, List.replicate_zero, List.nil_append, List.append_assoc]
    rw [show (a + b).toNat = a.toNat + b.toNat by omega, ← List.replicate_append_replicate]
  · intro x k d u; simp [actF]
  · intro x d u; simp [actF]
theorem actF_flags : ∀ (ps : List Pt) (x : List Bool), ps.foldl actF x = x ++ flagsP ps
  | [], x => by simp [flagsP]
  | p :: ps, x => by rw [List.foldl_cons, actF_flags ps, actF, flagsP]; simp
theorem flags_norm {ps : List Pt} (h : ∀ p ∈ ps, 0 ≤ p.keep ∧ 0 ≤ p.drop) : flagsP (normP ps) = flagsP ps := by
  have e := act_norm actF_ok ps h []
  rw [actF_flags, actF_flags] at e
  simpa using e
theorem puts_norm {ps : List Pt} (h : ∀ p ∈ ps, 0 ≤ p.keep ∧ 0 ≤ p.drop) : putsP (normP ps) = putsP ps := by
  have ok : ActP (fun (x : Nat) (p : Pt) => x + p.put.length) := by
    constructor
    · intro x; simp
    · intro x u v; simp; omega
    · intro x a b _ _; simp
    · intro x a b _ _; simp
    · intro x k d u; simp
    · intro x d u; simp
  have key : ∀ (l : List Pt) (x : Nat), l.foldl (fun x p => x + p.put.length) x = x + putsP l := by
    intro l
    induction l with
    | nil => intro x; simp [putsP]
    | cons p l ih => intro x; rw [List.foldl_cons, ih]; simp [putsP]; omega
  have e := act_norm ok ps h 0
  rw [key, key] at e
  omega
theorem flags_unit (d : Bool) (n : Nat) (ps : List Pt) : flagsP (unitK d n :: ps) = List.replicate n d ++ flagsP ps := by
  cases d <;> simp [flagsP, unitK]
theorem flags_put (u : List UInt8) (ps : List Pt) : flagsP (⟨0, 0, u⟩ :: ps) = flagsP ps := by simp [flagsP]
theorem puts_cons (p : Pt) (ps : List Pt) : putsP (p :: ps) = p.put.length + putsP ps := by simp [putsP]
theorem puts_append (a b : List Pt) : putsP (a ++ b) = putsP a + putsP b := by simp [putsP]
/-- How much is made: what is put and what is kept. -/
theorem apply_len2 : ∀ (ps : List Pt) (t : List UInt8), Left ps t → (applyP ps t).length = putsP ps + (flagsP ps).count false
  | [], t, _ => rfl
  | p :: ps, t, h => by
    obtain ⟨hl, _, _, hlen⟩ := left_cons h
    have ih := apply_len2 ps _ hl
    rcases one_cases (h.one p (by simp)) with ⟨u, hu, rfl⟩ | ⟨d, m, rfl⟩
    · have e0 : (lenP (⟨0, 0, u⟩ : Pt)).toNat = 0 := rfl
      rw [e0, List.drop_zero] at ih
      rw [apply_put, flags_put, puts_cons, List.length_append, ih]
      show u.length + _ = u.length + _ + _
      omega
    · rw [lenP_unit] at hlen ih
      have e2 : ((m + 1 : Nat) : Int).toNat = m + 1 := by omega
      rw [e2] at hlen ih
      rw [apply_unit, flags_unit, puts_cons, put_unit, List.length_append, List.count_append, ih]
      cases d with
      | true => simp [List.count_replicate]
      | false =>
        rw [if_neg (by decide), List.length_take, List.count_replicate]
        simp
        omega
/-- Whether a cell's byte is dropped. -/
def dflC (F : List Bool) (x : Cel) : Bool := if x.1 < 0 then false else F[x.1.toNat]?.getD false
theorem dfl_put (F : List Bool) (u : List UInt8) : (putC u).map (dflC F) = List.replicate u.length false := by
  unfold putC
  rw [List.map_map]
  induction u with
  | nil => rfl
  | cons c u ih => rw [List.map_cons, ih]; rfl
theorem dfl_from (F : List Bool) (d : Bool) (rest : List Bool) : ∀ (k i : Nat), F.drop i = List.replicate k d ++ rest → (fromC i k).map (dflC F) = List.replicate k d
  | 0, i, _ => rfl
  | k + 1, i, h => by
    have h1 : F[i]? = some d := by
      have : (F.drop i)[0]? = some d := by rw [h]; simp [List.replicate_succ]
      rw [List.getElem?_drop, Nat.add_zero] at this
      exact this
    have h2 : F.drop (i + 1) = List.replicate k d ++ rest := by
      have := congrArg (List.drop 1) h
      rw [List.drop_drop, List.replicate_succ, List.cons_append, List.drop_succ_cons, List.drop_zero] at this
      exact this
    have e : dflC F ((i : Int), 0) = d := by unfold dflC; rw [if_neg (by show ¬ (i : Int) < 0; omega)]; simp [h1]
    have ih := dfl_from F d rest k (i + 1) h2
    rw [fromC, List.map_cons, e, List.replicate_succ]
    congr 1
theorem unit_cut2 (d : Bool) (m j : Nat) (hj : j ≤ m) (ps : List Pt) (i : Int) :
    flagsP (unitK d (m + 1) :: ps) = List.replicate (j + 1) d ++ flagsP ((cutP (unitK d (m + 1)) ((j : Int) + 1)).2 ++ ps) ∧ putsP ((cutP (unitK d (m + 1)) ((j : Int) + 1)).2 ++ ps) = putsP ps ∧
    midP i (unitK d (m + 1) :: ps) = (if d then [] else fromC i (j + 1)) ++ midP (i + (j + 1 : Nat)) ((cutP (unitK d (m + 1)) ((j : Int) + 1)).2 ++ ps) := by
  have hmu : ∀ (d : Bool) (n : Nat) (i : Int) (ps : List Pt), midP i (unitK d n :: ps) = (if d then [] else fromC i n) ++ midP (i + n) ps := by
    intro d n i ps
    cases d
    · simp [midP, unitK, putC]
    · simp [midP, unitK, putC, fromC]
  rcases cut2_unit d m j hj with ⟨rfl, e⟩ | ⟨k, rfl, e⟩
  · rw [e, List.nil_append, flags_unit, hmu]
    exact ⟨rfl, rfl, rfl⟩
  · rw [e]
    have e1 : j + k + 1 + 1 = (j + 1) + (k + 1) := by omega
    refine ⟨?_, ?_, ?_⟩
    · show _ = _ ++ flagsP (unitK d (k + 1) :: ps)
      rw [flags_unit, flags_unit, ← List.append_assoc, e1, List.replicate_append_replicate]
    · show putsP (unitK d (k + 1) :: ps) = _
      rw [puts_cons, put_unit]; simp
    · show _ = _ ++ midP _ (unitK d (k + 1) :: ps)
      rw [hmu, hmu, e1]
      cases d with
      | true => simp only [if_true, List.nil_append]; congr 1; push_cast; omega
      | false =>
        simp only [Bool.false_eq_true, if_false]
        rw [fromC_append, List.append_assoc]
        congr 3
        push_cast; omega

theorem trans_flags (F : Bool) : ∀ (f : Nat) (A B : List Pt) (r : List UInt8) (FO : List Bool) (pos : Nat), Left A r → Left B r → weight A + weight B ≤ f → FO.drop pos = flagsP (if F then A else B) →
    flagsP ((sideP isPutP isPutP f A B).flatMap (tF F)) = (midP pos (if F then B else A)).map (dflC FO) ∧ putsP ((sideP isPutP isPutP f A B).flatMap (tF F)) = putsP (if F then A else B) := by
  have nil_of : ∀ {l : List Pt} {r : List UInt8}, Left l r → weight l = 0 → l = [] := by
    intro l r h hw
    cases l with
    | nil => rfl
    | cons p l => have := one_weight (h.one p (by simp)) l; omega
  have base : ∀ (FO : List Bool) (pos g : Nat), flagsP ((sideP isPutP isPutP g [] []).flatMap (tF F)) = (midP pos (if F then [] else [])).map (dflC FO) ∧ putsP ((sideP isPutP isPutP g [] []).flatMap (tF F)) = putsP (if F then [] else []) := by
    intro FO pos g
    have e : sideP isPutP isPutP g [] [] = [] := by cases g <;> rfl
    rw [e]
    cases F <;> exact ⟨rfl, rfl⟩
  have midput : ∀ (u : List UInt8) (i : Int) (ps : List Pt), midP i (⟨0, 0, u⟩ :: ps) = putC u ++ midP i ps := by
    intro u i ps; simp [midP, fromC]
  have flkeep : ∀ (n : Nat) (l : List Pt), flagsP (⟨(n : Int), 0, []⟩ :: l) = List.replicate n false ++ flagsP l := by
    intro n l; simp [flagsP]
  intro f
  induction f with
  | zero =>
    intro A B r FO pos hA hB hw h
    obtain rfl := nil_of hA (by omega)
    obtain rfl := nil_of hB (by omega)
    exact base FO pos 0
  | succ f ih =>
    intro A B r FO pos hA hB hw h
    have stepB : ∀ (v : List UInt8) (B' : List Pt), v ≠ [] → B = ⟨0, 0, v⟩ :: B' → sideP isPutP isPutP (f + 1) A B = (noP, ⟨0, 0, v⟩) :: sideP isPutP isPutP f A B' →
        flagsP ((sideP isPutP isPutP (f + 1) A B).flatMap (tF F)) = (midP pos (if F then B else A)).map (dflC FO) ∧ putsP ((sideP isPutP isPutP (f + 1) A B).flatMap (tF F)) = putsP (if F then A else B) := by
      intro v B' hv e es
      subst e
      obtain ⟨hB', hV⟩ := left_put hB
      have hw' := one_weight (hB.one ⟨0, 0, v⟩ (by simp)) B'
      have h' : FO.drop pos = flagsP (if F then A else B') := by
        rw [h]
        cases F with
        | true => rfl
        | false => exact flags_put v B'
      obtain ⟨i1, i2⟩ := ih A B' r FO pos hA hB' (by omega) h'
      rw [es, List.flatMap_cons, flags_append, puts_append, i1, i2]
      cases F with
      | true =>
        have e := tF_other true v hv
        rw [if_pos rfl] at e
        rw [e, if_pos rfl, if_pos rfl, if_pos rfl, midput, List.map_append, dfl_put, flkeep]
        exact ⟨by simp [flagsP], by simp [putsP]⟩
      | false =>
        have e := tF_own false v hv
        rw [if_neg (by decide)] at e
        rw [e, if_neg (by decide), if_neg (by decide), if_neg (by decide), puts_cons, flags_put]
        exact ⟨rfl, by simp [putsP]⟩
    cases A with
    | nil =>
      obtain rfl := left_nil hA
      cases B with
      | nil => exact base FO pos (f + 1)
      | cons q B' =>
        rcases one_cases (hB.one q (by simp)) with ⟨v, hv, rfl⟩ | ⟨e, k, rfl⟩
        · exact stepB v B' hv rfl (by
            have h2 := put_isPut hv
            simp only [sideP, h2, if_true])
        · exact absurd hB left_unit_ne
    | cons p A' =>
      rcases one_cases (hA.one p (by simp)) with ⟨u, hu, rfl⟩ | ⟨d, m, rfl⟩
      · obtain ⟨hA', hV⟩ := left_put hA
        have hw' := one_weight (hA.one ⟨0, 0, u⟩ (by simp)) A'
        have es : sideP isPutP isPutP (f + 1) (⟨0, 0, u⟩ :: A') B = (⟨0, 0, u⟩, noP) :: sideP isPutP isPutP f A' B := by
          have h1 := put_isPut hu
          cases B <;> simp only [sideP, h1, if_true]
        have h' : FO.drop pos = flagsP (if F then A' else B) := by
          rw [h]
          cases F with
          | true => exact flags_put u A'
          | false => rfl
        obtain ⟨i1, i2⟩ := ih A' B r FO pos hA' hB (by omega) h'
        rw [es, List.flatMap_cons, flags_append, puts_append, i1, i2]
        cases F with
        | true =>
          have e := tF_own true u hu
          rw [if_pos rfl] at e
          rw [e, if_pos rfl, if_pos rfl, if_pos rfl, puts_cons, flags_put]
          exact ⟨rfl, by simp [putsP]⟩
        | false =>
          have e := tF_other false u hu
          rw [if_neg (by decide)] at e
          rw [e, if_neg (by decide), if_neg (by decide), if_neg (by decide), midput, List.map_append, dfl_put, flkeep]
          exact ⟨by simp [flagsP], by simp [putsP]⟩
      · cases B with
        | nil =>
          obtain rfl := left_nil hB
          exact absurd hA left_unit_ne
        | cons q B' =>
          rcases one_cases (hB.one q (by simp)) with ⟨v, hv, rfl⟩ | ⟨e, k, rfl⟩
          · exact stepB v B' hv rfl (by
              have h1 := unit_isPut d (m + 1)
              have h2 := put_isPut hv
              simp only [sideP, h1, h2, Bool.false_eq_true, if_false, if_true])
          · have hmin : min (lengthP (unitK d (m + 1))) (lengthP (unitK e (k + 1))) = ((min m k : Nat) : Int) + 1 := by rw [len_unit, len_unit]; omega
            obtain ⟨j, hj⟩ : ∃ j, min m k = j := ⟨_, rfl⟩
            rw [hj] at hmin
            have hj1 : j ≤ m := by omega
            have hj2 : j ≤ k := by omega
            have es : sideP isPutP isPutP (f + 1) (unitK d (m + 1) :: A') (unitK e (k + 1) :: B') = (unitK d (j + 1), unitK e (j + 1)) :: sideP isPutP isPutP f ((cutP (unitK d (m + 1)) ((j : Int) + 1)).2 ++ A') ((cutP (unitK e (k + 1)) ((j : Int) + 1)).2 ++ B') := by
              rw [sideP, if_neg (by rw [unit_isPut]; decide), if_neg (by rw [unit_isPut]; decide), hmin, (cut_unit d m j hj1).1, (cut_unit e k j hj2).1]
            have hv : V (r.take (j + 1)) := by
              have v1 := (left_cons hA).2.2.1
              have v2 := (left_cons hB).2.2.1
              rw [lenP_unit] at v1 v2
              by_cases hc : m ≤ k
              · obtain rfl : m = j := by omega
                exact v1
              · obtain rfl : k = j := by omega
                exact v2
            obtain ⟨lA, _, _⟩ := unit_cut d m j hj1 A' r hA hv
            obtain ⟨lB, _, _⟩ := unit_cut e k j hj2 B' r hB hv
            obtain ⟨fA, pA, mA⟩ := unit_cut2 d m j hj1 A' pos
            obtain ⟨fB, pB, mB⟩ := unit_cut2 e k j hj2 B' pos
            have wA := cut_weight d m j hj1
            have wB := cut_weight e k j hj2
            have hw2 : weight ((cutP (unitK d (m + 1)) ((j : Int) + 1)).2 ++ A') + weight ((cutP (unitK e (k + 1)) ((j : Int) + 1)).2 ++ B') ≤ f := by
              rw [weight_append, weight_append, wA, wB]
              rw [weight_cons, weight_cons, len_unit, len_unit] at hw
              omega
            have hcast : (pos : Int) + ((j + 1 : Nat) : Int) = ((pos + (j + 1) : Nat) : Int) := by push_cast; rfl
            rw [hcast] at mA mB
            have dropR : ∀ (b : Bool) (l : List Bool), FO.drop pos = List.replicate (j + 1) b ++ l → FO.drop (pos + (j + 1)) = l := by
              intro b l hl
              have := congrArg (List.drop (j + 1)) hl
              rw [List.drop_drop, List.drop_left' (by simp)] at this
              exact this
            rw [es, List.flatMap_cons, flags_append, puts_append, tF_units]
            cases F with
            | true =>
              rw [if_pos rfl] at h ⊢
              rw [if_pos rfl, if_pos rfl, if_pos rfl]
              rw [fA] at h
              obtain ⟨i1, i2⟩ := ih _ _ (r.drop (j + 1)) FO (pos + (j + 1)) lA lB hw2 (by rw [if_pos rfl]; exact dropR d _ h)
              rw [if_pos rfl] at i1 i2
              rw [i1, i2, mB, puts_cons, put_unit, pA, List.map_append]
              cases e with
              | true => simp [flagsP, putsP]
              | false =>
                rw [if_neg (by decide), if_neg (by decide), dfl_from FO d _ (j + 1) pos h, flags_unit]
                simp [flagsP, putsP, put_unit]
            | false =>
              simp only [Bool.false_eq_true, if_false] at h ⊢
              rw [fB] at h
              obtain ⟨i1, i2⟩ := ih _ _ (r.drop (j + 1)) FO (pos + (j + 1)) lA lB hw2 (by rw [if_neg (by decide)]; exact dropR e _ h)
              rw [if_neg (by decide)] at i1 i2
              rw [i1, i2, mA, puts_cons, put_unit, pB, List.map_append]
              cases d with
              | true => simp [flagsP, putsP]
              | false =>
                rw [if_neg (by decide), if_neg (by decide), dfl_from FO e _ (j + 1) pos h, flags_unit]
                simp [flagsP, putsP, put_unit]
end Go.Proofs.YtldhbjmillfjgabGreatDoor

namespace Go.Proofs.YtldhbjmillfjgabGreatDoor
open Go.RowKit
set_option linter.unusedVariables false

theorem wts_eq : ∀ (ps : List Pt), wts ps = longP ps + putsP ps
  | [] => by simp [wts, longP, putsP]
  | p :: ps => by
    have ih := wts_eq ps
    have e1 : wts (p :: ps) = wtP p + wts ps := by simp [wts]
    rw [e1, long_cons, puts_cons, ih]
    unfold wtP lenP
    push_cast; omega
theorem len_wts : ∀ (ps : List Pt), (∀ p ∈ ps, oneP p) → (ps.length : Int) ≤ wts ps
  | [], _ => by simp [wts]
  | p :: ps, h => by
    have ih := len_wts ps fun q hq => h q (by simp [hq])
    have e1 : wts (p :: ps) = wtP p + wts ps := by simp [wts]
    have h1 := length_pos (h p (by simp))
    have e2 : lengthP p = wtP p := rfl
    rw [e1, List.length_cons]; push_cast; omega
theorem wts_mem : ∀ (ps : List Pt), (∀ p ∈ ps, oneP p) → ∀ p ∈ ps, wtP p ≤ wts ps
  | [], _, p, hp => by cases hp
  | q :: ps, h, p, hp => by
    have e1 : wts (q :: ps) = wtP q + wts ps := by simp [wts]
    have h0 := len_wts ps fun x hx => h x (by simp [hx])
    have h1 := length_pos (h q (by simp))
    have e2 : lengthP q = wtP q := rfl
    rcases List.mem_cons.1 hp with rfl | hp
    · omega
    · have := wts_mem ps (fun x hx => h x (by simp [hx])) p hp
      omega
theorem good.wt {x : List Pt} {t : List UInt8} (h : good x t) : wts x = t.length + putsP x := by rw [wts_eq, h.long]
theorem good.fine {x : List Pt} {t : List UInt8} (h : good x t) (hb : t.length + putsP x < 1000000) : fineP x := by
  have h1 := h.wt
  have h2 := len_wts x h.one
  exact ⟨h.one, by omega, by omega⟩
theorem good.wf {x : List Pt} {t : List UInt8} (h : good x t) (hb : t.length + putsP x < 1000000) : ∀ p ∈ x, wfP p := by
  intro p hp
  have h1 := h.wt
  have h2 := wts_mem x h.one p hp
  obtain ⟨k1, k2, _⟩ := one_kind (h.one p hp)
  have e : wtP p = p.keep + p.drop + p.put.length := rfl
  exact ⟨by omega, by omega, by omega, by omega, by omega⟩
theorem good.lens {x : List Pt} {t : List UInt8} (h : good x t) (hb : t.length + putsP x < 1000000) : (lensW x).1 = t.length ∧ (lensW x).2 = (applyP x t).length := by
  have h1 := fine_lens (h.fine hb)
  rw [h1.1, h1.2, h.long, apply_len x t h.left]
  exact ⟨rfl, rfl⟩
theorem good.both {a b : List Pt} {t t' : List UInt8} (ha : good a t) (hb : good b t') (h1 : t.length + putsP a < 1000000) (h2 : t'.length + putsP b < 1000000) : bothE a b = 0 := by
  unfold bothE
  rw [(ha.lens h1).1, (hb.lens h2).1, ha.chk, if_pos rfl, hb.chk]
theorem puts_le {x : List Pt} {t : List UInt8} (h : good x t) : putsP x ≤ (applyP x t).length := by
  have := apply_len2 x t h.left
  omega
theorem flags_len : ∀ (ps : List Pt), (∀ p ∈ ps, 0 ≤ p.keep ∧ 0 ≤ p.drop) → ((flagsP ps).length : Int) = longP ps
  | [], _ => by simp [flagsP, longP]
  | p :: ps, h => by
    have ih := flags_len ps fun q hq => h q (by simp [hq])
    have h1 := h p (by simp)
    rw [long_cons, ← ih, flagsP]
    simp only [List.length_append, List.length_replicate]
    unfold lenP; push_cast; omega
theorem apply_le {x : List Pt} {t : List UInt8} (h : good x t) : (applyP x t).length ≤ t.length + putsP x := by
  have h1 := apply_len2 x t h.left
  have h2 := List.count_le_length (a := false) (l := flagsP x)
  have h3 := flags_len x (ones_sound h.one)
  have h4 := h.long
  omega

theorem kApply (v : Value) (x : List Pt) (t : List UInt8) (w : World) (hT : Lib.Utf8Tabs 2 3 w) (hr : opAt w v x) (h : good x t) (hb : t.length + putsP x < 1000000) :
    Calls Tryz.prog 25 #[v, .string ⟨t.toArray⟩] w fun e w' => e = .returned (.tuple #[.string ⟨(applyP x t).toArray⟩, .nilIface]) ∧ Below w.heap.size w w' := by
  have hf := h.fine hb
  have := Apply_any v x t w hT hr (h.wf hb) (by omega) hf.len (by omega)
  rw [h.ord, if_pos rfl] at this
  exact this
theorem kTrans (v1 v2 : Value) (F : Bool) (a b : List Pt) (t : List UInt8) (w : World) (hT : Lib.Utf8Tabs 2 3 w) (r1 : opAt w v1 a) (r2 : opAt w v2 b) (ha : good a t) (hb : good b t) (h1 : t.length + putsP a < 1000000) (h2 : t.length + putsP b < 1000000) :
    Calls Tryz.prog 151 #[v1, v2, .bool F] w fun e w' => ∃ v', e = .returned (.tuple #[v', .nilIface]) ∧ opAt w' v' (tellP (transS F a b)) ∧ Below w.heap.size w w' := by
  have f1 := ha.fine h1
  have f2 := hb.fine h2
  have e : turnE a b = 0 := by unfold turnE; rw [ha.both hb h1 h2, if_pos rfl, (ha.lens h1).1, (hb.lens h2).1, if_pos rfl]
  have := trans_all v1 v2 F a b w hT r1 r2 (ha.wf h1) (hb.wf h2) f1.len f2.len fun _ => ⟨f1, f2⟩
  rw [e, if_pos rfl] at this
  exact this
theorem kComp (v1 v2 : Value) (a b : List Pt) (t : List UInt8) (w : World) (hT : Lib.Utf8Tabs 2 3 w) (r1 : opAt w v1 a) (r2 : opAt w v2 b) (ha : good a t) (hb : good b (applyP a t)) (h1 : t.length + putsP a < 1000000) (h2 : (applyP a t).length + putsP b < 1000000) :
    Calls Tryz.prog 146 #[v1, v2] w fun e w' => ∃ v', e = .returned (.tuple #[v', .nilIface]) ∧ opAt w' v' (tellP (compS a b)) ∧ Below w.heap.size w w' := by
  have f1 := ha.fine h1
  have f2 := hb.fine h2
  have e : compE a b = 0 := by unfold compE; rw [ha.both hb h1 h2, if_pos rfl, (ha.lens h1).2, (hb.lens h2).1, if_pos rfl]
  have := comp_all v1 v2 a b w hT r1 r2 (ha.wf h1) (hb.wf h2) f1.len f2.len fun _ => ⟨f1, f2⟩
  rw [e, if_pos rfl] at this
  exact this
theorem tF_true : tF true = turnP := rfl
theorem tF_false : tF false = fun x => turnP (x.2, x.1) := rfl
/-- What Transform puts, and which bytes it drops. -/
theorem trans_what (F : Bool) {a b : List Pt} {t : List UInt8} (ha : good a t) (hb : good b t) (h1 : t.length + putsP a < 1000000) (h2 : t.length + putsP b < 1000000) : putsP (tellP (transS F a b)) = putsP a ∧ flagsP (tellP (transS F a b)) = (midP 0 b).map (dflC (flagsP a)) := by
  have na := ha.norm
  have nb := hb.norm
  have la := na.left
  have lb := nb.left
  have sa := ones_sound ha.one
  obtain ⟨n1, _, _, _⟩ := fine_norm (ha.fine h1)
  obtain ⟨m1, _, _, _⟩ := fine_norm (hb.fine h2)
  have hm : measP isPutP (normP a) = measP isPutP (normP b) := by
    rw [meas_put _ na.one, meas_put _ nb.one, na.long, nb.long]
  have key : ∀ (G : Bool) (L : List (Pt × Pt)), (∀ p ∈ L.flatMap (tF G), 0 ≤ p.keep ∧ 0 ≤ p.drop) → flagsP (tellP (runS (tF G) L nst0)) = flagsP (L.flatMap (tF G)) ∧ putsP (tellP (runS (tF G) L nst0)) = putsP (L.flatMap (tF G)) := by
    intro G L h
    rw [run_flat]
    exact ⟨flags_norm h, puts_norm h⟩
  have fa := flags_norm sa
  have pa := puts_norm sa
  have mb := mid_norm b hb.one
  cases F with
  | true =>
    obtain ⟨e1, e2⟩ := trans_flags true (weight (normP a) + weight (normP b)) (normP a) (normP b) t (flagsP a) 0 la lb (Nat.le_refl _) (by rw [List.drop_zero, if_pos rfl, fa])
    have hs : ∀ p ∈ (sideP isPutP isPutP (weight (normP a) + weight (normP b)) (normP a) (normP b)).flatMap (tF true), 0 ≤ p.keep ∧ 0 ≤ p.drop := by
      obtain ⟨_, hok, _, _⟩ := side_ok kind_put kind_put (weight (normP a) + weight (normP b)) (normP a) (normP b) n1 m1 hm (Nat.le_refl _)
      intro p hp
      obtain ⟨x, hx, hp⟩ := List.mem_flatMap.1 hp
      exact ((take_turn x (hok x hx)).2 p hp).1
    obtain ⟨k1, k2⟩ := key true _ hs
    rw [if_pos rfl] at e1 e2
    have e0 : transS true a b = runS (tF true) (sideP isPutP isPutP (weight (normP a) + weight (normP b)) (normP a) (normP b)) nst0 := rfl
    rw [e0, k1, k2, e1, e2, pa]
    refine ⟨rfl, ?_⟩
    show (midP 0 (normP b)).map _ = _
    rw [mb]
  | false =>
    obtain ⟨e1, e2⟩ := trans_flags false (weight (normP b) + weight (normP a)) (normP b) (normP a) t (flagsP a) 0 lb la (Nat.le_refl _) (by rw [List.drop_zero, if_neg (by decide), fa])
    have hs : ∀ p ∈ (sideP isPutP isPutP (weight (normP b) + weight (normP a)) (normP b) (normP a)).flatMap (tF false), 0 ≤ p.keep ∧ 0 ≤ p.drop := by
      obtain ⟨_, hok, _, _⟩ := side_ok kind_put kind_put (weight (normP b) + weight (normP a)) (normP b) (normP a) m1 n1 hm.symm (Nat.le_refl _)
      intro p hp
      obtain ⟨x, hx, hp⟩ := List.mem_flatMap.1 hp
      exact ((take_turn2 x (hok x hx)).2 p hp).1
    obtain ⟨k1, k2⟩ := key false _ hs
    rw [if_neg (by decide)] at e1 e2
    have e0 : transS false a b = runS (tF false) (sideP isPutP isPutP (weight (normP b) + weight (normP a)) (normP b) (normP a)) nst0 := rfl
    rw [e0, k1, k2, e1, e2, pa]
    refine ⟨rfl, ?_⟩
    show (midP 0 (normP b)).map _ = _
    rw [mb]
theorem dfl_sub (F : List Bool) (M : List Cel) (x : Cel) : dflC (M.map (dflC F)) x = dflC F (subC M x) := by
  unfold dflC subC
  by_cases h : x.1 < 0
  · rw [if_pos h, if_pos h]; simp
  · rw [if_neg h, if_neg h, List.getElem?_map]
    cases M[x.1.toNat]? with
    | none => rfl
    | some y => rfl
/-- A third one sees no difference: as long. -/
theorem along_len (F : Bool) {z x y : List Pt} {s : List UInt8} (hz : good z s) (hx : good x s) (hy : good y (applyP x s)) (h1 : s.length + putsP z < 300000) (h2 : s.length + putsP x < 300000) (h3 : (applyP x s).length + putsP y < 300000) :
    good (tellP (transS F (tellP (transS F z x)) y)) (applyP y (applyP x s)) ∧ good (tellP (transS F z (tellP (compS x y)))) (applyP y (applyP x s)) ∧
    (applyP (tellP (transS F (tellP (transS F z x)) y)) (applyP y (applyP x s))).length = (applyP (tellP (transS F z (tellP (compS x y)))) (applyP y (applyP x s))).length ∧
    putsP (tellP (transS F (tellP (transS F z x)) y)) = putsP z ∧ putsP (tellP (transS F z (tellP (compS x y)))) = putsP z ∧ putsP (tellP (transS F z x)) = putsP z := by
  have gp := (good_trans F hz hx).1
  have wp := trans_what F hz hx (by omega) (by omega)
  have ax := apply_le hx
  have gp2 := (good_trans F gp hy).1
  have wp2 := trans_what F gp hy (by rw [wp.1]; omega) (by omega)
  have gb := good_comp hx hy
  have pb := puts_le gb.1
  have ay := apply_le hy
  rw [gb.2] at pb
  have gq := (good_trans F hz gb.1).1
  have wq := trans_what F hz gb.1 (by omega) (by omega)
  rw [gb.2] at gq
  have hM := (comp_cells hx hy).2.2
  have hM' : (midP 0 x).length = (applyP x s).length := by omega
  have hsub := mid_sub (midP 0 x) y 0 (Int.le_refl _) hy.one (by rw [hy.long]; omega)
  rw [Int.toNat_zero, List.drop_zero] at hsub
  have hfl : flagsP (tellP (transS F (tellP (transS F z x)) y)) = flagsP (tellP (transS F z (tellP (compS x y)))) := by
    rw [wp2.2, wq.2, wp.2, comp_mid hx hy, ← hsub, List.map_map]
    congr 1
    funext c
    exact dfl_sub _ _ c
  refine ⟨gp2, gq, ?_, by rw [wp2.1, wp.1], wq.1, wp.1⟩
  rw [apply_len2 _ _ gp2.left, apply_len2 _ _ gq.left, hfl, wp2.1, wq.1, wp.1]
end Go.Proofs.YtldhbjmillfjgabGreatDoor
