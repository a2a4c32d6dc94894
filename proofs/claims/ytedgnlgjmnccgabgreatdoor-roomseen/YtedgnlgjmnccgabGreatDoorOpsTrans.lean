/-
  ops.Transform and ops.Compose.
-/
import Derived.Test.YtedgnlgjmnccgabGreatDoorOpsTransF
namespace Go.Proofs.YtedgnlgjmnccgabGreatDoor
open Go.RowKit
set_option linter.unusedVariables false
attribute [local go_sem] Oper.semAt_some

/-- What Transform adds up to. -/
def transS (first : Bool) (a b : List Pt) : NSt := if first then runS turnP (sideP isPutP isPutP (weight (normP a) + weight (normP b)) (normP a) (normP b)) nst0 else runS (fun x => turnP (x.2, x.1)) (sideP isPutP isPutP (weight (normP b) + weight (normP a)) (normP b) (normP a)) nst0
/-- What Compose adds up to. -/
def compS (a b : List Pt) : NSt := runS compP (sideP isDropP isPutP (weight (normP a) + weight (normP b)) (normP a) (normP b)) nst0
def turnE (a b : List Pt) : Int := if bothE a b = 0 then (if (lensW b).1 = (lensW a).1 then 0 else 2) else bothE a b
def compE (a b : List Pt) : Int := if bothE a b = 0 then (if (lensW b).1 = (lensW a).2 then 0 else 2) else bothE a b

set_option maxRecDepth 100000 in
set_option maxHeartbeats 8000000 in
theorem t1_fineN (v1 v2 : Value) (a b : List Pt) (w : World) (hT : Lib.Utf8Tabs 2 3 w) (h1 : opAt w v1 a) (h2 : opAt w v2 b) (w1 : ∀ p ∈ a, wfP p) (w2 : ∀ p ∈ b, wfP p) (f1 : fineP a) (f2 : fineP b) (he : bothE a b = 0) (hl : (lensW b).1 = (lensW a).1) :
    Calls Tryz.prog 187 #[v1, v2, .bool true] w fun e w' => ∃ v', e = .returned (.tuple #[v', .nilIface]) ∧ opN w.heap.size w' v' (tellP (transS true a b)) ∧ Below w.heap.size w w' := by
  have cB : Hid _ := checkBoth_any v1 v2 a b w hT h1 h2 w1 w2 f1.len f2.len
  have hV : errV (bothE a b) = .nilIface := by unfold errV; rw [if_pos he]
  rw [hV] at cB
  have cL1 : Hid (∀ wx, Below w.heap.size w wx → Calls Tryz.prog 120 #[v1] wx fun e w' => e = .returned (.tuple #[.int .i64 (lensW a).1, .int .i64 (lensW a).2]) ∧ Below wx.heap.size wx w') := fun wx hb => Lens_any v1 a wx (opAt_grown h1 hb) f1.len
  have cL2 : Hid (∀ wx, Below w.heap.size w wx → Calls Tryz.prog 120 #[v2] wx fun e w' => e = .returned (.tuple #[.int .i64 (lensW b).1, .int .i64 (lensW b).2]) ∧ Below wx.heap.size wx w') := fun wx hb => Lens_any v2 b wx (opAt_grown h2 hb) f2.len
  have cN1 : Hid (∀ wx, Below w.heap.size w wx → Calls Tryz.prog 224 #[v1] wx fun e w' => ∃ v', e = .returned v' ∧ w'.ownsRow wx.heap.size 50 3 v' (normP a).length (cellsP (normP a)) ∧ Below wx.heap.size wx w' ∧ wx.heap.size + 4 ≤ w'.heap.size) := fun wx hb => Norm_any4 v1 a wx (opAt_grown h1 hb) (ones_sound f1.one) (by have := f1.w; omega) f1.len
  have cN2 : Hid (∀ wx, Below w.heap.size w wx → Calls Tryz.prog 224 #[v2] wx fun e w' => ∃ v', e = .returned v' ∧ w'.ownsRow wx.heap.size 50 3 v' (normP b).length (cellsP (normP b)) ∧ Below wx.heap.size wx w' ∧ wx.heap.size + 4 ≤ w'.heap.size) := fun wx hb => Norm_any4 v2 b wx (opAt_grown h2 hb) (ones_sound f2.one) (by have := f2.w; omega) f2.len
  obtain ⟨n1, n2, n3, n4⟩ := fine_norm f1
  obtain ⟨m1, m2, m3, m4⟩ := fine_norm f2
  have hmeas : measP isPutP (normP a) = measP isPutP (normP b) := by
    have e1 := (fine_lens f1).1
    have e2 := (fine_lens f1).2
    have e3 := (fine_lens f2).1
    rw [meas_put _ (fun p hp => (m1 p hp).1), meas_put _ (fun p hp => (n1 p hp).1)]
    omega
  obtain ⟨hSd, hok, hpw, hln⟩ := side_ok kind_put kind_put (weight (normP a) + weight (normP b)) (normP a) (normP b) n1 m1 hmeas (Nat.le_refl _)
  have hBd : BdS turnP (sideP isPutP isPutP (weight (normP a) + weight (normP b)) (normP a) (normP b)) nst0 0 0 := bdS_of take_turn hok (by rw [hpw]; omega) (by omega)
  have HSD : Hid (Side isPutP isPutP (normP a) (normP b) (sideP isPutP isPutP (weight (normP a) + weight (normP b)) (normP a) (normP b))) := hSd
  have HBD : Hid (BdS turnP (sideP isPutP isPutP (weight (normP a) + weight (normP b)) (normP a) (normP b)) nst0 0 0) := hBd
  have hS : runS turnP (sideP isPutP isPutP (weight (normP a) + weight (normP b)) (normP a) (normP b)) nst0 = transS true a b := rfl
  have HSM : Hid _ := run_small hBd
  rw [hS] at HSM
  obtain ⟨S, hSe⟩ : ∃ S, transS true a b = S := ⟨_, rfl⟩
  rw [hSe] at HSM ⊢
  have HS : Hid (runS turnP (sideP isPutP isPutP (weight (normP a) + weight (normP b)) (normP a) (normP b)) nst0 = S) := hSe
  rw [hl] at cL2
  generalize (lensW a).1 = A1 at *
  generalize (lensW a).2 = A2 at *
  generalize (lensW b).2 = B2 at *
  obtain ⟨p1, c1, rfl, _⟩ := h1
  obtain ⟨p2, c2, rfl, _⟩ := h2
  clear hT w1 w2 f1 f2 he hV hSd hBd hok hpw hln hmeas hS hSe n1 n2 n3 n4 m1 m2 m3 m4 hl
  go_enter Tryz.func187, Tryz.ntmps187
  go_wp2_with (first
    | (have _ := HG4; go_at_call 9999)
    | (have _ := HB2; go_at_call 120; refine (cL2.out _ HB2.out).mono ?_; rintro e w3 ⟨rfl, hb3⟩; have HB3 : Hid (Below w.heap.size w w3) := HB2.out.trans (hb3.mono HB2.out.size); clear hb3)
    | (go_at_call 120; refine (cL1.out _ HB1.out).mono ?_; rintro e w2 ⟨rfl, hb2⟩; have HB2 : Hid (Below w.heap.size w w2) := HB1.out.trans (hb2.mono HB1.out.size); clear hb2)
    | (go_at_call 221; refine Calls.mono cB.out ?_; rintro e w1 ⟨rfl, hb1⟩; have HB1 : Hid (Below w.heap.size w w1) := hb1; clear hb1)
    | (have _ := HB3; go_at_call 222; refine (gather_any w3).mono ?_; rintro e w4 ⟨rfl, hG4, hz4, hb4⟩; have HG4 : Hid (∀ M w2, Below w4.heap.size w4 w2 → w3.heap.size + 4 ≤ M → M ≤ w2.heap.size → gath M w2 w3.heap.size nst0) := hG4; have HZ4 : Hid (w4.heap.size = w3.heap.size + 4) := hz4; have HB4 : Hid (Below w.heap.size w w4) := HB3.out.trans (hb4.mono HB3.out.size); clear hG4 hz4 hb4)
    | fail)
  obtain ⟨X5, hX5⟩ : ∃ X, X = ((w4.alloc (.cells #[.func (.func 265) #[] #[.pointer (some ⟨w3.heap.size + 1, 0, none⟩), .pointer (some ⟨w3.heap.size + 2, 0, none⟩), .pointer (some ⟨w3.heap.size + 3, 0, none⟩), .pointer (some ⟨w3.heap.size, 0, none⟩)]] 342)).alloc (.cells #[.func (.func 228) #[] #[.pointer (some ⟨w4.heap.size, 0, none⟩)]] 347)) := ⟨_, rfl⟩
  rw [← hX5]
  have H45 : Hid (Below w4.heap.size w4 X5) := by rw [hX5]; exact ((Below.refl _ _).alloc (Nat.le_refl _) _).alloc (by simp) _
  have HX5 : Hid (Below w.heap.size w X5) := HB4.out.trans (H45.out.mono HB4.out.size)
  have HBX : Hid (boxesP [(w4.heap.size, .cells #[addV w3.heap.size] 342 (0, 0)), (w4.heap.size + 1, .cells #[.func (.func 228) #[] #[.pointer (some ⟨w4.heap.size, 0, none⟩)]] 347 (0, 0))] X5) := by
    intro x hx
    simp only [List.mem_cons, List.not_mem_nil, or_false] at hx
    rw [hX5]
    rcases hx with rfl | rfl
    · exact (heap_alloc_old _ _ (by simp)).trans (heap_alloc_new _ _)
    · have := heap_alloc_new (w4.alloc (.cells #[.func (.func 265) #[] #[.pointer (some ⟨w3.heap.size + 1, 0, none⟩), .pointer (some ⟨w3.heap.size + 2, 0, none⟩), .pointer (some ⟨w3.heap.size + 3, 0, none⟩), .pointer (some ⟨w3.heap.size, 0, none⟩)]] 342)) (.cells #[.func (.func 228) #[] #[.pointer (some ⟨w4.heap.size, 0, none⟩)]] 347)
      rwa [World.size_alloc] at this
  have HKX : Hid (∀ x ∈ ([(w4.heap.size, .cells #[addV w3.heap.size] 342 (0, 0)), (w4.heap.size + 1, .cells #[.func (.func 228) #[] #[.pointer (some ⟨w4.heap.size, 0, none⟩)]] 347 (0, 0))] : List (Nat × Obj)), w3.heap.size + 4 ≤ x.1 ∧ (∀ c fz, x.2 ≠ .cells c 5 fz) ∧ ∀ c fz, x.2 ≠ .cells c 50 fz) := by
    intro x hx
    simp only [List.mem_cons, List.not_mem_nil, or_false] at hx; rcases hx with rfl | rfl <;> exact ⟨by have := HZ4.out; simp only; omega, fun c fz e => (by cases e), fun c fz e => (by cases e)⟩
  clear hX5
  have yX : X5.cell? ⟨w4.heap.size + 1, 0, none⟩ = some (.func (.func 228) #[] #[.pointer (some ⟨w4.heap.size, 0, none⟩)]) := Lib.cell_of_heap (HBX.out (w4.heap.size + 1, .cells #[.func (.func 228) #[] #[.pointer (some ⟨w4.heap.size, 0, none⟩)]] 347 (0, 0)) (by simp)) 0
  go_region_with (first
    | (have _ := HO6; go_at_call 223; obtain ⟨g1, g2, hI, ho, i1, i2, i3, i4, i5⟩ := side_ready [(w4.heap.size, .cells #[addV w3.heap.size] 342 (0, 0)), (w4.heap.size + 1, .cells #[.func (.func 228) #[] #[.pointer (some ⟨w4.heap.size, 0, none⟩)]] 347 (0, 0))] HG4.out HZ4.out HBX.out HKX.out H45.out HO5.out HB5.out HS5.out HO6.out HB6.out HS6.out; refine (side_turn _ _ g1 g2 w4.heap.size [(w4.heap.size, .cells #[addV w3.heap.size] 342 (0, 0)), (w4.heap.size + 1, .cells #[.func (.func 228) #[] #[.pointer (some ⟨w4.heap.size, 0, none⟩)]] 347 (0, 0))] _ _ _ _ _ nst0 w6 hI HSD.out HBD.out ho i1 i2 i3 i4 i5 (fun s x T n W hg hbx hB hS hT hn => turnO_any _ _ _ s x.1 x.2 W hg (hbx (w4.heap.size, .cells #[addV w3.heap.size] 342 (0, 0)) (by simp)) hB hS hT hn)).mono ?_; rintro e w7 ⟨⟨v7, rfl⟩, hg7, hx7, hb7⟩; rw [HS.out] at hg7; have HG7 : Hid (gath w6.heap.size w7 w3.heap.size S) := hg7; have HB7 : Hid (Below w3.heap.size w6 w7) := hb7; clear hI ho i1 i2 i3 i4 i5 hg7 hx7 hb7)
    | (have _ := HO5; go_at_call 224; refine (cN2.out _ HW5.out).mono ?_; rintro e w6 ⟨v6, rfl, o6, b6, s6⟩; have HO6 : Hid (w6.ownsRow w5.heap.size 50 3 v6 (normP b).length (cellsP (normP b))) := o6; have HB6 : Hid (Below w5.heap.size w5 w6) := b6; have HS6 : Hid (w5.heap.size + 4 ≤ w6.heap.size) := s6; have HW6 : Hid (Below w.heap.size w w6) := HW5.out.trans (HB6.out.mono HW5.out.size); have HB56 : Hid (Below X5.heap.size X5 w6) := HB5.out.trans (HB6.out.mono HB5.out.size); obtain ⟨pp6, cc6, rfl⟩ := own_slice o6; clear o6 b6 s6; have yw6 : w6.cell? ⟨w4.heap.size + 1, 0, none⟩ = some (.func (.func 228) #[] #[.pointer (some ⟨w4.heap.size, 0, none⟩)]) := Lib.cell_of_heap ((HB56.out.block _ (heap_lt (HBX.out (w4.heap.size + 1, .cells #[.func (.func 228) #[] #[.pointer (some ⟨w4.heap.size, 0, none⟩)]] 347 (0, 0)) (by simp)))).trans (HBX.out (w4.heap.size + 1, .cells #[.func (.func 228) #[] #[.pointer (some ⟨w4.heap.size, 0, none⟩)]] 347 (0, 0)) (by simp))) 0)
    | (go_at_call 224; refine (cN1.out _ (by first | exact HX5.out.drew | exact HX5.out)).mono ?_; rintro e w5 ⟨v5, rfl, o5, b5, s5⟩; have HO5 : Hid (w5.ownsRow X5.heap.size 50 3 v5 (normP a).length (cellsP (normP a))) := o5; have HB5 : Hid (Below X5.heap.size X5 w5) := (by first | exact b5 | exact (Below.refl _ X5).drew.trans b5); have HS5 : Hid (X5.heap.size + 4 ≤ w5.heap.size) := s5; have HW5 : Hid (Below w.heap.size w w5) := HX5.out.trans (HB5.out.mono HX5.out.size); have HR5 : Hid _ := HO5.out; obtain ⟨pp5, cc5, rfl⟩ := own_slice o5; clear o5 b5 s5; have yw5 : w5.cell? ⟨w4.heap.size + 1, 0, none⟩ = some (.func (.func 228) #[] #[.pointer (some ⟨w4.heap.size, 0, none⟩)]) := Lib.cell_of_heap ((HB5.out.block _ (heap_lt (HBX.out (w4.heap.size + 1, .cells #[.func (.func 228) #[] #[.pointer (some ⟨w4.heap.size, 0, none⟩)]] 347 (0, 0)) (by simp)))).trans (HBX.out (w4.heap.size + 1, .cells #[.func (.func 228) #[] #[.pointer (some ⟨w4.heap.size, 0, none⟩)]] 347 (0, 0)) (by simp))) 0)
    | fail)
  all_goals (
    go_wp2_with (first
      | (have _ := HG7; go_at_call 266; refine (done_anyG w3.heap.size S w7 HG7.out HSM.out.1 HSM.out.2).mono ?_; rintro e w8 ⟨v8, rfl, o8, b8⟩)
      | fail)
    obtain ⟨p8, c8, rfl⟩ := own_slice o8
    go_ret2
    exact ⟨_, rfl, opN_own HW6.out.size o8, (HW6.out.trans (HB7.out.mono HB3.out.size)).trans (b8.below.mono HB3.out.size)⟩)

set_option maxRecDepth 100000 in
set_option maxHeartbeats 8000000 in
theorem t2_fineN (v1 v2 : Value) (a b : List Pt) (w : World) (hT : Lib.Utf8Tabs 2 3 w) (h1 : opAt w v1 a) (h2 : opAt w v2 b) (w1 : ∀ p ∈ a, wfP p) (w2 : ∀ p ∈ b, wfP p) (f1 : fineP a) (f2 : fineP b) (he : bothE a b = 0) (hl : (lensW b).1 = (lensW a).1) :
    Calls Tryz.prog 187 #[v1, v2, .bool false] w fun e w' => ∃ v', e = .returned (.tuple #[v', .nilIface]) ∧ opN w.heap.size w' v' (tellP (transS false a b)) ∧ Below w.heap.size w w' := by
  have cB : Hid _ := checkBoth_any v1 v2 a b w hT h1 h2 w1 w2 f1.len f2.len
  have hV : errV (bothE a b) = .nilIface := by unfold errV; rw [if_pos he]
  rw [hV] at cB
  have cL1 : Hid (∀ wx, Below w.heap.size w wx → Calls Tryz.prog 120 #[v1] wx fun e w' => e = .returned (.tuple #[.int .i64 (lensW a).1, .int .i64 (lensW a).2]) ∧ Below wx.heap.size wx w') := fun wx hb => Lens_any v1 a wx (opAt_grown h1 hb) f1.len
  have cL2 : Hid (∀ wx, Below w.heap.size w wx → Calls Tryz.prog 120 #[v2] wx fun e w' => e = .returned (.tuple #[.int .i64 (lensW b).1, .int .i64 (lensW b).2]) ∧ Below wx.heap.size wx w') := fun wx hb => Lens_any v2 b wx (opAt_grown h2 hb) f2.len
  have cN1 : Hid (∀ wx, Below w.heap.size w wx → Calls Tryz.prog 224 #[v2] wx fun e w' => ∃ v', e = .returned v' ∧ w'.ownsRow wx.heap.size 50 3 v' (normP b).length (cellsP (normP b)) ∧ Below wx.heap.size wx w' ∧ wx.heap.size + 4 ≤ w'.heap.size) := fun wx hb => Norm_any4 v2 b wx (opAt_grown h2 hb) (ones_sound f2.one) (by have := f2.w; omega) f2.len
  have cN2 : Hid (∀ wx, Below w.heap.size w wx → Calls Tryz.prog 224 #[v1] wx fun e w' => ∃ v', e = .returned v' ∧ w'.ownsRow wx.heap.size 50 3 v' (normP a).length (cellsP (normP a)) ∧ Below wx.heap.size wx w' ∧ wx.heap.size + 4 ≤ w'.heap.size) := fun wx hb => Norm_any4 v1 a wx (opAt_grown h1 hb) (ones_sound f1.one) (by have := f1.w; omega) f1.len
  obtain ⟨n1, n2, n3, n4⟩ := fine_norm f1
  obtain ⟨m1, m2, m3, m4⟩ := fine_norm f2
  have hmeas : measP isPutP (normP b) = measP isPutP (normP a) := by
    have e1 := (fine_lens f1).1
    have e2 := (fine_lens f1).2
    have e3 := (fine_lens f2).1
    rw [meas_put _ (fun p hp => (n1 p hp).1), meas_put _ (fun p hp => (m1 p hp).1)]
    omega
  obtain ⟨hSd, hok, hpw, hln⟩ := side_ok kind_put kind_put (weight (normP b) + weight (normP a)) (normP b) (normP a) m1 n1 hmeas (Nat.le_refl _)
  have hBd : BdS (fun x => turnP (x.2, x.1)) (sideP isPutP isPutP (weight (normP b) + weight (normP a)) (normP b) (normP a)) nst0 0 0 := bdS_of take_turn2 hok (by rw [hpw]; omega) (by omega)
  have HSD : Hid (Side isPutP isPutP (normP b) (normP a) (sideP isPutP isPutP (weight (normP b) + weight (normP a)) (normP b) (normP a))) := hSd
  have HBD : Hid (BdS (fun x => turnP (x.2, x.1)) (sideP isPutP isPutP (weight (normP b) + weight (normP a)) (normP b) (normP a)) nst0 0 0) := hBd
  have hS : runS (fun x => turnP (x.2, x.1)) (sideP isPutP isPutP (weight (normP b) + weight (normP a)) (normP b) (normP a)) nst0 = transS false a b := rfl
  have HSM : Hid _ := run_small hBd
  rw [hS] at HSM
  obtain ⟨S, hSe⟩ : ∃ S, transS false a b = S := ⟨_, rfl⟩
  rw [hSe] at HSM ⊢
  have HS : Hid (runS (fun x => turnP (x.2, x.1)) (sideP isPutP isPutP (weight (normP b) + weight (normP a)) (normP b) (normP a)) nst0 = S) := hSe
  rw [hl] at cL2
  generalize (lensW a).1 = A1 at *
  generalize (lensW a).2 = A2 at *
  generalize (lensW b).2 = B2 at *
  obtain ⟨p1, c1, rfl, _⟩ := h1
  obtain ⟨p2, c2, rfl, _⟩ := h2
  clear hT w1 w2 f1 f2 he hV hSd hBd hok hpw hln hmeas hS hSe n1 n2 n3 n4 m1 m2 m3 m4 hl
  go_enter Tryz.func187, Tryz.ntmps187
  go_wp2_with (first
    | (have _ := HG4; go_at_call 9999)
    | (have _ := HB2; go_at_call 120; refine (cL2.out _ HB2.out).mono ?_; rintro e w3 ⟨rfl, hb3⟩; have HB3 : Hid (Below w.heap.size w w3) := HB2.out.trans (hb3.mono HB2.out.size); clear hb3)
    | (go_at_call 120; refine (cL1.out _ HB1.out).mono ?_; rintro e w2 ⟨rfl, hb2⟩; have HB2 : Hid (Below w.heap.size w w2) := HB1.out.trans (hb2.mono HB1.out.size); clear hb2)
    | (go_at_call 221; refine Calls.mono cB.out ?_; rintro e w1 ⟨rfl, hb1⟩; have HB1 : Hid (Below w.heap.size w w1) := hb1; clear hb1)
    | (have _ := HB3; go_at_call 222; refine (gather_any w3).mono ?_; rintro e w4 ⟨rfl, hG4, hz4, hb4⟩; have HG4 : Hid (∀ M w2, Below w4.heap.size w4 w2 → w3.heap.size + 4 ≤ M → M ≤ w2.heap.size → gath M w2 w3.heap.size nst0) := hG4; have HZ4 : Hid (w4.heap.size = w3.heap.size + 4) := hz4; have HB4 : Hid (Below w.heap.size w w4) := HB3.out.trans (hb4.mono HB3.out.size); clear hG4 hz4 hb4)
    | fail)
  obtain ⟨X5, hX5⟩ : ∃ X, X = ((w4.alloc (.cells #[.func (.func 265) #[] #[.pointer (some ⟨w3.heap.size + 1, 0, none⟩), .pointer (some ⟨w3.heap.size + 2, 0, none⟩), .pointer (some ⟨w3.heap.size + 3, 0, none⟩), .pointer (some ⟨w3.heap.size, 0, none⟩)]] 342)).alloc (.cells #[.func (.func 228) #[] #[.pointer (some ⟨w4.heap.size, 0, none⟩)]] 347)) := ⟨_, rfl⟩
  rw [← hX5]
  have H45 : Hid (Below w4.heap.size w4 X5) := by rw [hX5]; exact ((Below.refl _ _).alloc (Nat.le_refl _) _).alloc (by simp) _
  have HX5 : Hid (Below w.heap.size w X5) := HB4.out.trans (H45.out.mono HB4.out.size)
  have HBX : Hid (boxesP [(w4.heap.size, .cells #[addV w3.heap.size] 342 (0, 0)), (w4.heap.size + 1, .cells #[.func (.func 228) #[] #[.pointer (some ⟨w4.heap.size, 0, none⟩)]] 347 (0, 0))] X5) := by
    intro x hx
    simp only [List.mem_cons, List.not_mem_nil, or_false] at hx
    rw [hX5]
    rcases hx with rfl | rfl
    · exact (heap_alloc_old _ _ (by simp)).trans (heap_alloc_new _ _)
    · have := heap_alloc_new (w4.alloc (.cells #[.func (.func 265) #[] #[.pointer (some ⟨w3.heap.size + 1, 0, none⟩), .pointer (some ⟨w3.heap.size + 2, 0, none⟩), .pointer (some ⟨w3.heap.size + 3, 0, none⟩), .pointer (some ⟨w3.heap.size, 0, none⟩)]] 342)) (.cells #[.func (.func 228) #[] #[.pointer (some ⟨w4.heap.size, 0, none⟩)]] 347)
      rwa [World.size_alloc] at this
  have HKX : Hid (∀ x ∈ ([(w4.heap.size, .cells #[addV w3.heap.size] 342 (0, 0)), (w4.heap.size + 1, .cells #[.func (.func 228) #[] #[.pointer (some ⟨w4.heap.size, 0, none⟩)]] 347 (0, 0))] : List (Nat × Obj)), w3.heap.size + 4 ≤ x.1 ∧ (∀ c fz, x.2 ≠ .cells c 5 fz) ∧ ∀ c fz, x.2 ≠ .cells c 50 fz) := by
    intro x hx
    simp only [List.mem_cons, List.not_mem_nil, or_false] at hx; rcases hx with rfl | rfl <;> exact ⟨by have := HZ4.out; simp only; omega, fun c fz e => (by cases e), fun c fz e => (by cases e)⟩
  clear hX5
  refine (cN1.out _ HX5.out).mono ?_
  rintro e w5 ⟨v5, rfl, o5, b5, s5⟩
  have HO5 : Hid (w5.ownsRow X5.heap.size 50 3 v5 (normP b).length (cellsP (normP b))) := o5
  have HB5 : Hid (Below X5.heap.size X5 w5) := (by first | exact b5 | exact (Below.refl _ X5).drew.trans b5)
  have HS5 : Hid (X5.heap.size + 4 ≤ w5.heap.size) := s5
  have HW5 : Hid (Below w.heap.size w w5) := HX5.out.trans (HB5.out.mono HX5.out.size)
  have HR5 : Hid _ := HO5.out
  obtain ⟨pp5, cc5, rfl⟩ := own_slice o5
  clear o5 b5 s5
  go_wp2_with (first
    | (have _ := HG7; go_at_call 266; refine (done_anyG w3.heap.size S w7 HG7.out HSM.out.1 HSM.out.2).mono ?_; rintro e w8 ⟨v8, rfl, o8, b8⟩)
    | (have _ := HO6; go_at_call 223; obtain ⟨g1, g2, hI, ho, i1, i2, i3, i4, i5⟩ := side_ready [(w4.heap.size, .cells #[addV w3.heap.size] 342 (0, 0)), (w4.heap.size + 1, .cells #[.func (.func 228) #[] #[.pointer (some ⟨w4.heap.size, 0, none⟩)]] 347 (0, 0))] HG4.out HZ4.out HBX.out HKX.out H45.out HO5.out HB5.out HS5.out HO6.out HB6.out HS6.out; refine (side_turn2 _ _ g1 g2 (w4.heap.size + 1) [(w4.heap.size, .cells #[addV w3.heap.size] 342 (0, 0)), (w4.heap.size + 1, .cells #[.func (.func 228) #[] #[.pointer (some ⟨w4.heap.size, 0, none⟩)]] 347 (0, 0))] _ _ _ _ _ nst0 w6 hI HSD.out HBD.out ho i1 i2 i3 i4 i5 (fun s x T n W hg hbx hB hS hT hn => turn2_any _ _ w4.heap.size _ s x.1 x.2 W hg (hbx (w4.heap.size, .cells #[addV w3.heap.size] 342 (0, 0)) (by simp)) (hbx (w4.heap.size + 1, .cells #[.func (.func 228) #[] #[.pointer (some ⟨w4.heap.size, 0, none⟩)]] 347 (0, 0)) (by simp)) hB hS hT hn)).mono ?_; rintro e w7 ⟨⟨v7, rfl⟩, hg7, hx7, hb7⟩; rw [HS.out] at hg7; have HG7 : Hid (gath w6.heap.size w7 w3.heap.size S) := hg7; have HB7 : Hid (Below w3.heap.size w6 w7) := hb7; clear hI ho i1 i2 i3 i4 i5 hg7 hx7 hb7)
    | (have _ := HO5; go_at_call 224; refine (cN2.out _ HW5.out).mono ?_; rintro e w6 ⟨v6, rfl, o6, b6, s6⟩; have HO6 : Hid (w6.ownsRow w5.heap.size 50 3 v6 (normP a).length (cellsP (normP a))) := o6; have HB6 : Hid (Below w5.heap.size w5 w6) := b6; have HS6 : Hid (w5.heap.size + 4 ≤ w6.heap.size) := s6; have HW6 : Hid (Below w.heap.size w w6) := HW5.out.trans (HB6.out.mono HW5.out.size); have HB56 : Hid (Below X5.heap.size X5 w6) := HB5.out.trans (HB6.out.mono HB5.out.size); obtain ⟨pp6, cc6, rfl⟩ := own_slice o6; clear o6 b6 s6)
    | fail)
  obtain ⟨p8, c8, rfl⟩ := own_slice o8
  go_ret2
  exact ⟨_, rfl, opN_own HW6.out.size o8, (HW6.out.trans (HB7.out.mono HB3.out.size)).trans (b8.below.mono HB3.out.size)⟩

set_option maxRecDepth 100000 in
set_option maxHeartbeats 8000000 in
theorem comp_fineN (v1 v2 : Value) (a b : List Pt) (w : World) (hT : Lib.Utf8Tabs 2 3 w) (h1 : opAt w v1 a) (h2 : opAt w v2 b) (w1 : ∀ p ∈ a, wfP p) (w2 : ∀ p ∈ b, wfP p) (f1 : fineP a) (f2 : fineP b) (he : bothE a b = 0) (hl : (lensW b).1 = (lensW a).2) :
    Calls Tryz.prog 182 #[v1, v2] w fun e w' => ∃ v', e = .returned (.tuple #[v', .nilIface]) ∧ opN w.heap.size w' v' (tellP (compS a b)) ∧ Below w.heap.size w w' := by
  have cB : Hid _ := checkBoth_any v1 v2 a b w hT h1 h2 w1 w2 f1.len f2.len
  have hV : errV (bothE a b) = .nilIface := by unfold errV; rw [if_pos he]
  rw [hV] at cB
  have cL1 : Hid (∀ wx, Below w.heap.size w wx → Calls Tryz.prog 120 #[v1] wx fun e w' => e = .returned (.tuple #[.int .i64 (lensW a).1, .int .i64 (lensW a).2]) ∧ Below wx.heap.size wx w') := fun wx hb => Lens_any v1 a wx (opAt_grown h1 hb) f1.len
  have cL2 : Hid (∀ wx, Below w.heap.size w wx → Calls Tryz.prog 120 #[v2] wx fun e w' => e = .returned (.tuple #[.int .i64 (lensW b).1, .int .i64 (lensW b).2]) ∧ Below wx.heap.size wx w') := fun wx hb => Lens_any v2 b wx (opAt_grown h2 hb) f2.len
  have cN1 : Hid (∀ wx, Below w.heap.size w wx → Calls Tryz.prog 224 #[v1] wx fun e w' => ∃ v', e = .returned v' ∧ w'.ownsRow wx.heap.size 50 3 v' (normP a).length (cellsP (normP a)) ∧ Below wx.heap.size wx w' ∧ wx.heap.size + 4 ≤ w'.heap.size) := fun wx hb => Norm_any4 v1 a wx (opAt_grown h1 hb) (ones_sound f1.one) (by have := f1.w; omega) f1.len
  have cN2 : Hid (∀ wx, Below w.heap.size w wx → Calls Tryz.prog 224 #[v2] wx fun e w' => ∃ v', e = .returned v' ∧ w'.ownsRow wx.heap.size 50 3 v' (normP b).length (cellsP (normP b)) ∧ Below wx.heap.size wx w' ∧ wx.heap.size + 4 ≤ w'.heap.size) := fun wx hb => Norm_any4 v2 b wx (opAt_grown h2 hb) (ones_sound f2.one) (by have := f2.w; omega) f2.len
  obtain ⟨n1, n2, n3, n4⟩ := fine_norm f1
  obtain ⟨m1, m2, m3, m4⟩ := fine_norm f2
  have hmeas : measP isDropP (normP a) = measP isPutP (normP b) := by
    have e1 := (fine_lens f1).1
    have e2 := (fine_lens f1).2
    have e3 := (fine_lens f2).1
    rw [meas_put _ (fun p hp => (m1 p hp).1), meas_drop _ (fun p hp => (n1 p hp).1)]
    omega
  obtain ⟨hSd, hok, hpw, hln⟩ := side_ok kind_drop kind_put (weight (normP a) + weight (normP b)) (normP a) (normP b) n1 m1 hmeas (Nat.le_refl _)
  have hBd : BdS compP (sideP isDropP isPutP (weight (normP a) + weight (normP b)) (normP a) (normP b)) nst0 0 0 := bdS_of take_comp hok (by rw [hpw]; omega) (by omega)
  have HSD : Hid (Side isDropP isPutP (normP a) (normP b) (sideP isDropP isPutP (weight (normP a) + weight (normP b)) (normP a) (normP b))) := hSd
  have HBD : Hid (BdS compP (sideP isDropP isPutP (weight (normP a) + weight (normP b)) (normP a) (normP b)) nst0 0 0) := hBd
  have hS : runS compP (sideP isDropP isPutP (weight (normP a) + weight (normP b)) (normP a) (normP b)) nst0 = compS a b := rfl
  have HSM : Hid _ := run_small hBd
  rw [hS] at HSM
  obtain ⟨S, hSe⟩ : ∃ S, compS a b = S := ⟨_, rfl⟩
  rw [hSe] at HSM ⊢
  have HS : Hid (runS compP (sideP isDropP isPutP (weight (normP a) + weight (normP b)) (normP a) (normP b)) nst0 = S) := hSe
  rw [hl] at cL2
  generalize (lensW a).1 = A1 at *
  generalize (lensW a).2 = A2 at *
  generalize (lensW b).2 = B2 at *
  obtain ⟨p1, c1, rfl, _⟩ := h1
  obtain ⟨p2, c2, rfl, _⟩ := h2
  clear hT w1 w2 f1 f2 he hV hSd hBd hok hpw hln hmeas hS hSe n1 n2 n3 n4 m1 m2 m3 m4 hl
  go_enter Tryz.func182, Tryz.ntmps182
  go_wp2_with (first
    | (have _ := HG4; go_at_call 9999)
    | (have _ := HB2; go_at_call 120; refine (cL2.out _ HB2.out).mono ?_; rintro e w3 ⟨rfl, hb3⟩; have HB3 : Hid (Below w.heap.size w w3) := HB2.out.trans (hb3.mono HB2.out.size); clear hb3)
    | (go_at_call 120; refine (cL1.out _ HB1.out).mono ?_; rintro e w2 ⟨rfl, hb2⟩; have HB2 : Hid (Below w.heap.size w w2) := HB1.out.trans (hb2.mono HB1.out.size); clear hb2)
    | (go_at_call 221; refine Calls.mono cB.out ?_; rintro e w1 ⟨rfl, hb1⟩; have HB1 : Hid (Below w.heap.size w w1) := hb1; clear hb1)
    | (have _ := HB3; go_at_call 222; refine (gather_any w3).mono ?_; rintro e w4 ⟨rfl, hG4, hz4, hb4⟩; have HG4 : Hid (∀ M w2, Below w4.heap.size w4 w2 → w3.heap.size + 4 ≤ M → M ≤ w2.heap.size → gath M w2 w3.heap.size nst0) := hG4; have HZ4 : Hid (w4.heap.size = w3.heap.size + 4) := hz4; have HB4 : Hid (Below w.heap.size w w4) := HB3.out.trans (hb4.mono HB3.out.size); clear hG4 hz4 hb4)
    | fail)
  obtain ⟨X5, hX5⟩ : ∃ X, X = (w4.alloc (.cells #[.func (.func 265) #[] #[.pointer (some ⟨w3.heap.size + 1, 0, none⟩), .pointer (some ⟨w3.heap.size + 2, 0, none⟩), .pointer (some ⟨w3.heap.size + 3, 0, none⟩), .pointer (some ⟨w3.heap.size, 0, none⟩)]] 342)) := ⟨_, rfl⟩
  rw [← hX5]
  have H45 : Hid (Below w4.heap.size w4 X5) := by rw [hX5]; exact (Below.refl _ _).alloc (Nat.le_refl _) _
  have HX5 : Hid (Below w.heap.size w X5) := HB4.out.trans (H45.out.mono HB4.out.size)
  have HBX : Hid (boxesP [(w4.heap.size, .cells #[addV w3.heap.size] 342 (0, 0))] X5) := by
    intro x hx
    simp only [List.mem_singleton] at hx
    subst hx
    rw [hX5]
    exact heap_alloc_new _ _
  have HKX : Hid (∀ x ∈ ([(w4.heap.size, .cells #[addV w3.heap.size] 342 (0, 0))] : List (Nat × Obj)), w3.heap.size + 4 ≤ x.1 ∧ (∀ c fz, x.2 ≠ .cells c 5 fz) ∧ ∀ c fz, x.2 ≠ .cells c 50 fz) := by
    intro x hx
    simp only [List.mem_singleton] at hx; subst hx; exact ⟨by have := HZ4.out; omega, fun c fz e => (by cases e), fun c fz e => (by cases e)⟩
  clear hX5
  refine (cN1.out _ HX5.out).mono ?_
  rintro e w5 ⟨v5, rfl, o5, b5, s5⟩
  have HO5 : Hid (w5.ownsRow X5.heap.size 50 3 v5 (normP a).length (cellsP (normP a))) := o5
  have HB5 : Hid (Below X5.heap.size X5 w5) := (by first | exact b5 | exact (Below.refl _ X5).drew.trans b5)
  have HS5 : Hid (X5.heap.size + 4 ≤ w5.heap.size) := s5
  have HW5 : Hid (Below w.heap.size w w5) := HX5.out.trans (HB5.out.mono HX5.out.size)
  have HR5 : Hid _ := HO5.out
  obtain ⟨pp5, cc5, rfl⟩ := own_slice o5
  clear o5 b5 s5
  go_wp2_with (first
    | (have _ := HG7; go_at_call 266; refine (done_anyG w3.heap.size S w7 HG7.out HSM.out.1 HSM.out.2).mono ?_; rintro e w8 ⟨v8, rfl, o8, b8⟩)
    | (have _ := HO6; go_at_call 223; obtain ⟨g1, g2, hI, ho, i1, i2, i3, i4, i5⟩ := side_ready [(w4.heap.size, .cells #[addV w3.heap.size] 342 (0, 0))] HG4.out HZ4.out HBX.out HKX.out H45.out HO5.out HB5.out HS5.out HO6.out HB6.out HS6.out; refine (side_comp _ _ g1 g2 w4.heap.size [(w4.heap.size, .cells #[addV w3.heap.size] 342 (0, 0))] _ _ _ _ _ nst0 w6 hI HSD.out HBD.out ho i1 i2 i3 i4 i5 (fun s x T n W hg hbx hB hS hT hn => comp_any _ _ _ s x.1 x.2 W hg (hbx (w4.heap.size, .cells #[addV w3.heap.size] 342 (0, 0)) (by simp)) hB hS hT hn)).mono ?_; rintro e w7 ⟨⟨v7, rfl⟩, hg7, hx7, hb7⟩; rw [HS.out] at hg7; have HG7 : Hid (gath w6.heap.size w7 w3.heap.size S) := hg7; have HB7 : Hid (Below w3.heap.size w6 w7) := hb7; clear hI ho i1 i2 i3 i4 i5 hg7 hx7 hb7)
    | (have _ := HO5; go_at_call 224; refine (cN2.out _ HW5.out).mono ?_; rintro e w6 ⟨v6, rfl, o6, b6, s6⟩; have HO6 : Hid (w6.ownsRow w5.heap.size 50 3 v6 (normP b).length (cellsP (normP b))) := o6; have HB6 : Hid (Below w5.heap.size w5 w6) := b6; have HS6 : Hid (w5.heap.size + 4 ≤ w6.heap.size) := s6; have HW6 : Hid (Below w.heap.size w w6) := HW5.out.trans (HB6.out.mono HW5.out.size); have HB56 : Hid (Below X5.heap.size X5 w6) := HB5.out.trans (HB6.out.mono HB5.out.size); obtain ⟨pp6, cc6, rfl⟩ := own_slice o6; clear o6 b6 s6)
    | fail)
  obtain ⟨p8, c8, rfl⟩ := own_slice o8
  go_ret2
  exact ⟨_, rfl, opN_own HW6.out.size o8, (HW6.out.trans (HB7.out.mono HB3.out.size)).trans (b8.below.mono HB3.out.size)⟩

end Go.Proofs.YtedgnlgjmnccgabGreatDoor
