/-
  UtfReads: the law, at whatever text.
-/
import Derived.Test.YtdgpkbgmpdmiaaaDoorReadsEdge
import Derived.Test.YtdgpkbgmpdmiaaaDoorErrTell
namespace Go.Proofs.YtdgpkbgmpdmiaaaDoor
open Go.RowKit
set_option linter.unusedVariables false
attribute [local go_sem] Oper.semAt_some

/-- The result's variable, a Fault's, two Counts'. -/
def held (W : World) (B fb cb nb : Nat) (e p a1 a2 a3 a4 : Int) : Prop :=
  (W.cell? ⟨B, 0, none⟩ = some (.bool false) ∧ W.frozen? ⟨B, 0, none⟩ = false) ∧
  (W.cell? ⟨fb, 0, none⟩ = some (.int .i64 e) ∧ W.cell? ⟨fb, 1, none⟩ = some (.int .i64 p)) ∧
  (W.cell? ⟨cb, 0, none⟩ = some (.int .i64 a1) ∧ W.cell? ⟨cb, 1, none⟩ = some (.int .i64 a2) ∧ W.cell? ⟨cb, 2, none⟩ = some (.int .i64 a3) ∧ W.cell? ⟨cb, 3, none⟩ = some (.int .i64 a4)) ∧
  (W.cell? ⟨nb, 0, none⟩ = some (.int .i64 a1) ∧ W.cell? ⟨nb, 1, none⟩ = some (.int .i64 a2) ∧ W.cell? ⟨nb, 2, none⟩ = some (.int .i64 a3) ∧ W.cell? ⟨nb, 3, none⟩ = some (.int .i64 a4))
def heldA (W : World) (B fb : Nat) (e p : Int) : Prop :=
  (W.cell? ⟨B, 0, none⟩ = some (.bool false) ∧ W.frozen? ⟨B, 0, none⟩ = false) ∧ (W.cell? ⟨fb, 0, none⟩ = some (.int .i64 e) ∧ W.cell? ⟨fb, 1, none⟩ = some (.int .i64 p))
theorem cell_later {W W' : World} (hb : Below W.heap.size W W') {b o : Nat} {v : Value} (h : W.cell? ⟨b, o, none⟩ = some v) : W'.cell? ⟨b, o, none⟩ = some v :=
  (hb.cell (p := ⟨b, o, none⟩) (World.block_lt_of_cell? W _ h)).trans h
theorem held_below {W W' : World} {B fb cb nb : Nat} {e p a1 a2 a3 a4 : Int} (h : held W B fb cb nb e p a1 a2 a3 a4) (hb : Below W.heap.size W W') : held W' B fb cb nb e p a1 a2 a3 a4 := by
  obtain ⟨⟨r0, r1⟩, ⟨f0, f1⟩, ⟨c0, c1, c2, c3⟩, n0, n1, n2, n3⟩ := h
  exact ⟨⟨cell_later hb r0, (hb.frozen (p := ⟨B, 0, none⟩) (World.block_lt_of_cell? W _ r0)).trans r1⟩, ⟨cell_later hb f0, cell_later hb f1⟩,
    ⟨cell_later hb c0, cell_later hb c1, cell_later hb c2, cell_later hb c3⟩, cell_later hb n0, cell_later hb n1, cell_later hb n2, cell_later hb n3⟩

theorem heldA_below {W W' : World} {B fb : Nat} {e p : Int} (h : heldA W B fb e p) (hb : Below W.heap.size W W') : heldA W' B fb e p := by
  obtain ⟨⟨r0, r1⟩, f0, f1⟩ := h
  exact ⟨⟨cell_later hb r0, (hb.frozen (p := ⟨B, 0, none⟩) (World.block_lt_of_cell? W _ r0)).trans r1⟩, cell_later hb f0, cell_later hb f1⟩
theorem heldA_new (w w1 : World) (hb : Below (w.alloc (.cells #[.bool false] 4)).heap.size (w.alloc (.cells #[.bool false] 4)) w1) (e p : Int) : heldA (w1.alloc (.cells #[.int .i64 e, .int .i64 p] 25)) w.heap.size w1.heap.size e p := by
  have r0 : (w.alloc (.cells #[.bool false] 4)).cell? ⟨w.heap.size, 0, none⟩ = some (.bool false) := by simp [go_sem]
  have r1 : (w.alloc (.cells #[.bool false] 4)).frozen? ⟨w.heap.size, 0, none⟩ = false := by simp [go_sem]
  have hl := World.block_lt_of_cell? _ _ r0
  have hba : Below w1.heap.size w1 (w1.alloc (.cells #[.int .i64 e, .int .i64 p] 25)) := (Below.refl _ _).alloc (Nat.le_refl _) _
  have hr1 := (hb.frozen (p := ⟨w.heap.size, 0, none⟩) hl).trans r1
  have hr0 := cell_later hb r0
  exact ⟨⟨cell_later hba hr0, (hba.frozen (p := ⟨w.heap.size, 0, none⟩) (World.block_lt_of_cell? _ _ hr0)).trans hr1⟩, by simp [go_sem], by simp [go_sem]⟩
theorem held_new {w4 w5 : World} {B fb : Nat} {e p a1 a2 a3 a4 : Int} (h : heldA w4 B fb e p) (hb : Below (w4.alloc (.cells #[.int .i64 a1, .int .i64 a2, .int .i64 a3, .int .i64 a4] 36)).heap.size (w4.alloc (.cells #[.int .i64 a1, .int .i64 a2, .int .i64 a3, .int .i64 a4] 36)) w5) (e' p' : Int) :
    held ((w5.alloc (.cells #[.int .i64 a1, .int .i64 a2, .int .i64 a3, .int .i64 a4] 36)).alloc (.cells #[.int .i64 e', .int .i64 p'] 25)) B fb w4.heap.size w5.heap.size e p a1 a2 a3 a4 := by
  have hb4 : Below w4.heap.size w4 (w4.alloc (.cells #[.int .i64 a1, .int .i64 a2, .int .i64 a3, .int .i64 a4] 36)) := (Below.refl _ _).alloc (Nat.le_refl _) _
  have hb5 : Below w5.heap.size w5 ((w5.alloc (.cells #[.int .i64 a1, .int .i64 a2, .int .i64 a3, .int .i64 a4] 36)).alloc (.cells #[.int .i64 e', .int .i64 p'] 25)) := ((Below.refl _ _).alloc (Nat.le_refl _) _).alloc (by rw [World.size_alloc]; exact Nat.le_succ _) _
  have hA := heldA_below (heldA_below (heldA_below h hb4) hb) hb5
  obtain ⟨hr, hf⟩ := hA
  have c : ∀ i v, (w4.alloc (.cells #[.int .i64 a1, .int .i64 a2, .int .i64 a3, .int .i64 a4] 36)).cell? ⟨w4.heap.size, i, none⟩ = some v → _ := fun i v hv => cell_later hb5 (cell_later hb hv)
  refine ⟨hr, hf, ⟨c 0 _ ?_, c 1 _ ?_, c 2 _ ?_, c 3 _ ?_⟩, ?_, ?_, ?_, ?_⟩ <;> simp [go_sem]

/-- An error that tells this one, in whatever world comes behind W. -/
def told (W : World) (x : Value) (e p : Int) : Prop :=
  ∀ W', Below W.heap.size W W' → Calls Tryd.prog 13 #[x, .agg #[.int .i64 e, .int .i64 p]] W' fun r W'' => r = .returned (.bool true) ∧ Below W'.heap.size W' W''
theorem told_below {W W' : World} {x : Value} {e p : Int} (h : told W x e p) (hb : Below W.heap.size W W') : told W' x e p := fun W2 h2 => h W2 (hb.trans (h2.mono hb.size))

theorem Walk_any (s : ByteArray) (w : World) : Calls Tryd.prog 18 #[.string s] w fun e w' => e = .returned (.func (.func 50) #[] #[.pointer (some ⟨w.heap.size, 0, none⟩)]) ∧ w' = w.alloc (.cells #[.string s] 9) := by
  go_enter Tryd.func18, Tryd.ntmps18
  go_wp2
  go_ret
  exact ⟨rfl, rfl⟩

set_option maxRecDepth 100000 in
set_option maxHeartbeats 4000000 in
theorem reads_core (s : ByteArray) (hs : s.size ≤ 600) (w : World) (hT : Lib.Utf8Tabs 1 2 w)
    (E P : Int) (K N M : Nat) (zs zh : List Int) (a1 a2 a3 a4 : Int) (rs : List Nat) (hN : zs.length = N) (hM : zh.length = M) (hNl : N < 1000000) (hMl : M < 1000000) (hK : K ≤ s.size)
    (c8 : ∀ wx, Calls Tryd.prog 8 #[.string s] wx fun e w' => Below wx.heap.size wx w' ∧ ∃ p c, e = .returned (.tuple #[.slice p N c, .agg #[.int .i64 E, .int .i64 P]]) ∧ Hid (reads w' .i32 (.slice p N c) zs))
    (c9 : ∀ wx, Below w.heap.size w wx → Calls Tryd.prog 9 #[.string s] wx fun e w' => Below wx.heap.size wx w' ∧ ∃ p c x, e = .returned (.tuple #[.slice p N c, x]) ∧ Hid (reads w' .i32 (.slice p N c) zs) ∧ Hid (told w' x E P))
    (c10 : ∀ wx, Below w.heap.size w wx → Calls Tryd.prog 10 #[.string s] wx fun e w' => Below wx.heap.size wx w' ∧ ∃ p c x, e = .returned (.tuple #[.slice p M c, x]) ∧ Hid (reads w' .u16 (.slice p M c) zh) ∧ Hid (told w' x E P))
    (c11 : ∀ wx, Below w.heap.size w wx → Calls Tryd.prog 11 #[.string s] wx fun e w' => Below wx.heap.size wx w' ∧ ∃ x, e = .returned (.tuple #[.agg #[.int .i64 a1, .int .i64 a2, .int .i64 a3, .int .i64 a4], x]) ∧ Hid (told w' x E P))
    (c12 : ∀ wx, Calls Tryd.prog 12 #[.string s] wx fun e w' => Below wx.heap.size wx w' ∧ e = .returned (.tuple #[.agg #[.int .i64 a1, .int .i64 a2, .int .i64 a3, .int .i64 a4], .agg #[.int .i64 E, .int .i64 P]]))
    (c17 : ∀ wx, Calls Tryd.prog 17 #[.string (s.extract 0 K)] wx fun e w' => Below wx.heap.size wx w' ∧ ∃ p c, e = .returned (.slice p (rs.length + 1) c) ∧ Hid (w'.ownsRow wx.heap.size 36 4 (.slice p (rs.length + 1) c) (rs.length + 1) (edges rs (rs.length + 1))))
    (hrs : ∀ r ∈ rs, isRune r) (hsc : (scan s.data.toList).1 = wide rs)
    (hcase : (E = 0 ∧ K = s.size ∧ ∀ (wx : World) (v : Value), reads wx .i32 v zs → Calls Tryd.prog 16 #[v] wx fun e w' => Below wx.heap.size wx w' ∧ ∃ p c, e = .returned (.slice p M c) ∧ Hid (reads w' .u16 (.slice p M c) zh)) ∨ (E = 3 ∧ P = K ∧ M = 0)) :
    Calls Tryd.prog 3 #[.string s] w fun e w' => e = .returned (.bool true) ∧ Below w.heap.size w w' := by
  have HC16 : Hid _ := hcase
  have HC17 : Hid _ := c17
  have HRS : Hid _ := hrs
  have HSC : Hid _ := hsc
  have HNN : Hid _ := hN
  have HMM : Hid _ := hM
  clear hcase c17 hrs hsc hN hM
  have b1 : ¬ (600 : Int) < (s.size : Int) := by omega
  refine (callsIn_wide (n := 3)).1 ?_
  refine callsIn_of_wp_marks Tryd.func3 rfl trivial ?_ rfl
  simp only [Tryd.ntmps3, List.size_toArray, List.length_cons, List.length_nil, Nat.reduceAdd, Nat.reduceSub, Array.replicate_succ, Array.replicate_zero, List.push_toArray, List.append_toArray, List.nil_append, List.cons_append]
  have hB0 : Below w.heap.size w (w.alloc (.cells #[.bool false] 4)) := (Below.refl _ w).alloc (Nat.le_refl _) _
  gi_wp2_with (first
    | (refine ⟨trivial, ?_⟩; gi_at_call 8; refine (callsIn_wide.2 (c8 _)).mono ?_; rintro e w1 ⟨hb1, p1, k1, rfl, hr1⟩; have hA1 : Hid _ := heldA_new w w1 hb1 E P; have hB1 : Below w.heap.size w (w1.alloc (.cells #[.int .i64 E, .int .i64 P] 25)) := (hB0.trans (hb1.mono hB0.size)).alloc (Nat.le_trans hB0.size hb1.size) _)
    | (refine ⟨trivial, ?_⟩; gi_at_call 9; refine (callsIn_wide.2 (c9 _ hB1)).mono ?_; rintro e w2 ⟨hb2, p2, k2, x2, rfl, hr2, ht2⟩; have hB2 := hB1.trans (hb2.mono hB1.size); have hA2 : Hid _ := heldA_below hA1.out hb2)
    | (refine ⟨trivial, ?_⟩; gi_at_call 10; refine (callsIn_wide.2 (c10 _ hB2)).mono ?_; rintro e w3 ⟨hb3, p3, k3, x3, rfl, hr3, ht3⟩; have hB3 := hB2.trans (hb3.mono hB2.size); have hA3 : Hid _ := heldA_below hA2.out hb3)
    | (refine ⟨trivial, ?_⟩; gi_at_call 11; refine (callsIn_wide.2 (c11 _ hB3)).mono ?_; rintro e w4 ⟨hb4, x4, rfl, ht4⟩; have hA4 : Hid _ := heldA_below hA3.out hb4; have hB4 : Below w.heap.size w (w4.alloc (.cells #[.int .i64 a1, .int .i64 a2, .int .i64 a3, .int .i64 a4] 36)) := (hB3.trans (hb4.mono hB3.size)).alloc (Nat.le_trans hB3.size hb4.size) _)
    | (refine ⟨trivial, ?_⟩; gi_at_call 12; refine (callsIn_wide.2 (c12 _)).mono ?_; rintro e w5 ⟨hb5, rfl⟩; have HH5 := held_new hA4.out hb5 E P; have HD5 : Hid _ := HH5; have hb45 : Below w4.heap.size w4 ((w5.alloc (.cells #[.int .i64 a1, .int .i64 a2, .int .i64 a3, .int .i64 a4] 36)).alloc (.cells #[.int .i64 E, .int .i64 P] 25)) := ((((Below.refl _ w4).alloc (Nat.le_refl _) _).trans (hb5.mono (by rw [World.size_alloc]; exact Nat.le_succ _))).alloc (Nat.le_trans (by rw [World.size_alloc]; exact Nat.le_succ _) hb5.size) _).alloc (by rw [World.size_alloc]; have := hb5.size; rw [World.size_alloc] at this; omega) _; obtain ⟨⟨r0, r1⟩, ⟨f0, f1⟩, ⟨d0, d1, d2, d3⟩, n0, n1, n2, n3⟩ := HH5)
    | fail)
  have hb35 := hb4.trans (hb45.mono hb4.size)
  have hb25 := hb3.trans (hb35.mono hb3.size)
  have hbA5 := hb2.trans (hb25.mono hb2.size)
  have hb15 : Below w1.heap.size w1 _ := ((Below.refl _ w1).alloc (Nat.le_refl _) _).trans (hbA5.mono (by rw [World.size_alloc]; exact Nat.le_succ _))
  have hB5 := hB3.trans (hb35.mono hB3.size)
  have T2 := told_below ht2.out hb25
  have T3 : Hid _ := told_below ht3.out hb35
  have T4 : Hid _ := told_below ht4.out hb45
  have R1 : Hid _ := reads_below hr1.out hb15 (Nat.le_refl _)
  have R2 : Hid _ := reads_below hr2.out hb25 (Nat.le_refl _)
  have R3 : Hid _ := reads_below hr3.out hb35 (Nat.le_refl _)
  clear hr1 hr2 hr3 ht2 ht3 ht4 hb35 hb25 hbA5 hb15 hb45 hA1 hA2 hA3 hA4 hB1 hB2 hB3 hB4 hb1 hb2 hb3 hb4 hb5 c8 c9 c10 c11 c12
  refine ⟨trivial, ?_⟩
  generalize ((w5.alloc (.cells #[.int .i64 a1, .int .i64 a2, .int .i64 a3, .int .i64 a4] 36)).alloc (.cells #[.int .i64 E, .int .i64 P] 25)) = W5 at *
  generalize w5.heap.size = nb at *
  generalize w4.heap.size = cb at *
  generalize hfb : w1.heap.size = fb at *
  clear hfb
  refine (callsIn_wide.2 (T2 _ (Below.refl _ _))).mono ?_
  rintro e w6 ⟨rfl, hb6⟩
  have HH6 := held_below HD5.out hb6
  have HD6 : Hid _ := HH6
  have T36 := told_below T3.out hb6
  have T46 : Hid _ := told_below T4.out hb6
  have hB6 := hB5.trans (hb6.mono hB5.size)
  clear r0 r1 f0 f1 d0 d1 d2 d3 n0 n1 n2 n3 T2 T3 T4 HD5
  obtain ⟨⟨r0, r1⟩, ⟨f0, f1⟩, ⟨d0, d1, d2, d3⟩, n0, n1, n2, n3⟩ := HH6
  gi_wp2
  refine ⟨trivial, ?_⟩
  refine (callsIn_wide.2 (T36 _ (Below.refl _ _))).mono ?_
  rintro e w7 ⟨rfl, hb7⟩
  have HH7 := held_below HD6.out hb7
  have HD7 : Hid _ := HH7
  have T47 := told_below T46.out hb7
  have hB7 := hB6.trans (hb7.mono hB6.size)
  clear r0 r1 f0 f1 d0 d1 d2 d3 n0 n1 n2 n3 T36 T46 HD6
  obtain ⟨⟨r0, r1⟩, ⟨f0, f1⟩, ⟨d0, d1, d2, d3⟩, n0, n1, n2, n3⟩ := HH7
  gi_wp2
  refine ⟨trivial, ?_⟩
  refine (callsIn_wide.2 (T47 _ (Below.refl _ _))).mono ?_
  rintro e w8 ⟨rfl, hb8⟩
  have HH8 := held_below HD7.out hb8
  have HD8 : Hid _ := HH8
  have hB8 := hB7.trans (hb8.mono hB7.size)
  have hb58 := hb6.trans ((hb7.trans (hb8.mono hb7.size)).mono hb6.size)
  have R18 := reads_below R1.out hb58 (Nat.le_refl _)
  have R18' : Hid _ := R18
  have R28 := reads_below R2.out hb58 (Nat.le_refl _)
  have R38 : Hid _ := reads_below R3.out hb58 (Nat.le_refl _)
  clear r0 r1 f0 f1 d0 d1 d2 d3 n0 n1 n2 n3 T47 HD7 R1 R2 R3 hb6 hb7 hb58
  obtain ⟨⟨r0, r1⟩, ⟨f0, f1⟩, ⟨d0, d1, d2, d3⟩, n0, n1, n2, n3⟩ := HH8
  have cS := sameRunes_same _ _ zs w8 R28 R18 (by rw [HNN.out]; omega)
  clear R18 R28
  rcases HC16.out with ⟨rfl, hK16, h16⟩ | ⟨rfl, hP16, hM0⟩
  · have H16 : Hid _ := h16
    clear h16
    gi_wp2_with (first
      | (refine ⟨trivial, ?_⟩; gi_at_call 14; refine (callsIn_wide.2 cS).mono ?_; rintro e w9 ⟨rfl, hb9⟩; have HH9 := held_below HD8.out hb9; have HD9 : Hid _ := HH9; have hB9 := hB8.trans (hb9.mono hB8.size); have R19 := reads_below R18'.out hb9 (Nat.le_refl _); have R39 : Hid _ := reads_below R38.out hb9 (Nat.le_refl _); clear r0 r1 f0 f1 d0 d1 d2 d3 n0 n1 n2 n3; obtain ⟨⟨r0, r1⟩, ⟨f0, f1⟩, ⟨d0, d1, d2, d3⟩, n0, n1, n2, n3⟩ := HH9)
      | fail)
    have hC16 := H16.out w9 _ R19
    have C17 := HC17.out
    rw [hK16, ByteArray.extract_zero_size] at C17
    have HK16 : Hid (K = s.size) := hK16
    clear hK16 H16 R19 HC17
    gi_wp2_with (first
      | (refine ⟨trivial, ?_⟩; gi_at_call 16; refine (callsIn_wide.2 hC16).mono ?_; rintro e w10 ⟨hb10, p4, k4, rfl, hr4⟩; have HH10 := held_below HD9.out hb10; have HD10 : Hid _ := HH10; have hB10 := hB9.trans (hb10.mono hB9.size); have cHH := sameHalves_same _ _ zh w10 (reads_below R39.out hb10 (Nat.le_refl _)) hr4.out (by rw [HMM.out]; omega); clear r0 r1 f0 f1 d0 d1 d2 d3 n0 n1 n2 n3; obtain ⟨⟨r0, r1⟩, ⟨f0, f1⟩, ⟨d0, d1, d2, d3⟩, n0, n1, n2, n3⟩ := HH10)
      | (refine ⟨trivial, ?_⟩; gi_at_call 15; refine (callsIn_wide.2 cHH).mono ?_; rintro e w11 ⟨rfl, hb11⟩; have HH11 := held_below HD10.out hb11; have HD11 : Hid _ := HH11; have hB11 := hB10.trans (hb11.mono hB10.size); clear r0 r1 f0 f1 d0 d1 d2 d3 n0 n1 n2 n3; obtain ⟨⟨r0, r1⟩, ⟨f0, f1⟩, ⟨d0, d1, d2, d3⟩, n0, n1, n2, n3⟩ := HH11)
      | (refine ⟨trivial, ?_⟩; gi_at_call 17; refine (callsIn_wide.2 (C17 _)).mono ?_; rintro e w12 ⟨hb12, p5, k5, rfl, hown⟩; have HH12 := held_below HD11.out hb12; have HD12 : Hid _ := HH12; have hB12 := hB11.trans (hb12.mono hB11.size))
      | (refine ⟨trivial, ?_⟩; gi_at_call 18; refine (callsIn_wide.2 (Walk_any s _)).mono ?_; rintro e w13 ⟨rfl, rfl⟩)
      | fail)
    clear hb12 HD11 hB11
    obtain ⟨g, c9, hv, hg1, hg2⟩ := own_pos hown.out (Nat.succ_pos _)
    cases hv
    clear r0 r1 f0 f1 d0 d1 d2 d3 n0 n1 n2 n3
    obtain ⟨⟨r0, r1⟩, _⟩ := HH12
    obtain ⟨LW, hLW⟩ : ∃ LW : Int → World, LW = fun k => ((w12.alloc (.cells #[.slice (some ⟨g, 0, none⟩) (rs.length + 1) k5] 45)).alloc (.cells #[.int .i64 k] 3)).alloc (.cells #[.string s] 9) := ⟨_, rfl⟩
    have hw : ((w12.alloc (.cells #[.slice (some ⟨g, 0, none⟩) (rs.length + 1) k5] 45)).alloc (.cells #[.int .i64 0] 3)).alloc (.cells #[.string s] 9) = LW 0 := by rw [hLW]
    have hsz : ∀ k, (LW k).heap.size = w12.heap.size + 3 := fun k => by rw [hLW]; simp
    have hbl : ∀ k, Below w12.heap.size w12 (LW k) := fun k => by rw [hLW]; exact (((Below.refl _ _).alloc (Nat.le_refl _) _).alloc (by simp) _).alloc (by simp; omega) _
    have le : ∀ k, (LW k).cell? ⟨w12.heap.size, 0, none⟩ = some (.slice (some ⟨g, 0, none⟩) (rs.length + 1) k5) := fun k => by rw [hLW]; simp [go_sem]
    have li : ∀ k, (LW k).cell? ⟨w12.heap.size + 1, 0, none⟩ = some (.int .i64 k) := fun k => by rw [hLW]; simp [go_sem]
    have lf : ∀ k, (LW k).frozen? ⟨w12.heap.size + 1, 0, none⟩ = false := fun k => by rw [hLW]; simp [go_sem]
    have ls : ∀ k, (LW k).cell? ⟨w12.heap.size + 2, 0, none⟩ = some (.string s) := fun k => by rw [hLW]; simp [go_sem]
    have turn : ∀ k k' W, Below (w12.heap.size + 3) (LW k) W → Below (w12.heap.size + 3) (LW k') (W.setCell ⟨w12.heap.size + 1, 0, none⟩ (.int .i64 k')) := fun k k' W h => by rw [hLW] at h ⊢; exact below_turn h
    have lr0 : ∀ k, (LW k).cell? ⟨w.heap.size, 0, none⟩ = some (.bool false) := fun k => cell_later (hbl k) r0
    have lr1 : ∀ k, (LW k).frozen? ⟨w.heap.size, 0, none⟩ = false := fun k => ((hbl k).frozen (p := ⟨w.heap.size, 0, none⟩) (World.block_lt_of_cell? _ _ r0)).trans r1
    have lg : ∀ k i j v, i < rs.length + 1 → j < 4 → (edge rs i)[j]? = some v → (LW k).cell? ⟨g, i * 4 + j, none⟩ = some v := fun k i j v h1 h2 h3 => cell_later (hbl k) (edge_cell hown.out i j h1 h2 h3)
    have hwl : w.heap.size < w12.heap.size := World.block_lt_of_cell? _ _ r0
    have lB : ∀ k, Below w.heap.size w (LW k) := fun k => hB12.trans ((hbl k).mono hB12.size)
    rw [hw]
    clear hw hLW hown HD12 hB0
    refine wp_range_own (gf := 50) (lb := #[.pointer (some ⟨w12.heap.size + 2, 0, none⟩)]) rfl (enters_of Tryd.func50 (by kernel_rfl) rfl) (encs := walkArgs) (fun _ _ => rfl)
      (It := Below ((LW 0).heap.size + 2)) (Kp := KeepUp ((LW 0).heap.size + 2)) (Z := Below w.heap.size w) (S := fun xs => xs = (scan s.data.toList).1) (Sp := fun pre => ∃ rest, (scan s.data.toList).1 = pre ++ rest)
      ?seq (fun A B h => Same2.of_below h (Nat.le_refl _)) (fun h k => h.trans k) (fun A o => KeepUp.putObj A o (Nat.lt_succ_self _))
      (fun pre W => Below (w12.heap.size + 3) (LW pre.length) W) (fun _ _ _ => False) ?iz (fun _ _ _ h => h.elim) ?ii ?ib (fun _ _ _ _ h _ => h) (fun _ _ _ _ h => h) ?h0 ?round ?done (fun _ _ _ _ h => h.elim)
    case seq =>
      intro W hs1 hb1
      have := walk_seq s (by omega) w hT (w12.heap.size + 2) W (cell_later hb1 (ls 0))
      rw [hs1] at this
      exact this
    case iz => exact fun pre A h => (lB _).trans (h.mono (by omega))
    case ii => exact fun pre A B h hb => h.trans (hb.mono (by rw [hsz]; omega))
    case ib => exact fun pre A o h => h.trans ((Put1.putObj _ A o).below (by rw [hsz]; omega))
    case h0 => exact fun W _ hb => by rw [hsz] at hb; exact hb
    case round =>
      rintro l pre x W hI hlW ⟨rest, hsp⟩
      rw [hsz] at hlW
      have hsz0 := hsz 0
      have hwr : (wide rs).length = rs.length := by simp [wide]
      have hx4 := scan_w4 s.data.toList
      rw [HSC.out] at hsp hx4
      have hpl := congrArg List.length hsp
      rw [hwr, List.length_append, List.length_append, List.length_singleton] at hpl
      have hrl : rs.length ≤ 600 := by
        have := scan_len s.data.toList
        rw [HSC.out, hwr, ← Lib.size_eq] at this
        omega
      have e0 := edge_sums HRS.out (pre := pre) (rest := [x] ++ rest) (by rw [hsp, List.append_assoc])
      have e1 := edge_sums HRS.out (pre := pre ++ [x]) (rest := rest) hsp
      obtain ⟨t1, t2, t4⟩ := sums_snoc pre x
      rw [t1, t2, t4, List.length_append, List.length_singleton] at e1
      have z1 := sum1_le pre fun q hq => hx4 q (by rw [hsp]; simp [hq])
      have z2 := sum2_le pre
      have z4 := sum4_le pre
      have zx1 := hx4 x (by rw [hsp]; simp)
      have zx2 := cH_le x.1
      have zx4 := cL_le x.1
      have HTN : Hid ((pre ++ [x]).length = pre.length + 1) := by show _ = _; simp
      unfold walkArgs cnt
      generalize hkk : pre.length = k at *
      generalize sum1 pre = y1 at *
      generalize sum2 pre = y2 at *
      generalize sum4 pre = y4 at *
      generalize hu1 : (x.2 : Int) = u1 at *
      generalize cH x.1 = u2 at *
      generalize cL x.1 = u4 at *
      have zu1 : 0 ≤ u1 ∧ u1 ≤ 4 := by omega
      clear hx4 t1 t2 t4 hsp hwr hu1 zx1
      gi_wp2
      refine ⟨(((Same2.refl _ W).alloc (by omega) _).alloc (by rw [World.size_alloc]; omega) _), ((KeepUp.refl _ W).alloc _).alloc _, ?_⟩
      intro w20 hp _
      have hww : Below W.heap.size W ((W.alloc (.cells #[.int .i64 y1, .int .i64 y2, .int .i64 k, .int .i64 y4] 36)).alloc (.cells #[.int .i64 u1, .int .i64 u2, .int .i64 1, .int .i64 u4] 36)) := ((Below.refl _ W).alloc (Nat.le_refl _) _).alloc (by rw [World.size_alloc]; exact Nat.le_succ _) _
      have hpb : Below (w12.heap.size + 4) ((W.alloc (.cells #[.int .i64 y1, .int .i64 y2, .int .i64 k, .int .i64 y4] 36)).alloc (.cells #[.int .i64 u1, .int .i64 u2, .int .i64 1, .int .i64 u4] 36)) w20 := hp.below (by omega)
      have hL20 : Below (w12.heap.size + 3) (LW k) w20 := hI.trans ((hww.mono (by omega)).trans (hpb.mono (by omega)))
      have hs20 : w20.heap.size = W.heap.size + 2 := by rw [hp.size, World.size_alloc, World.size_alloc]
      obtain ⟨G, hG⟩ := exists_growth w20
      have gA : ∀ (b o : Nat) (v : Value), (LW k).cell? ⟨b, o, none⟩ = some v → ∀ x, (G x).cell? ⟨b, o, none⟩ = some v := fun b o v h => hG.cell ((hL20.cell (p := ⟨b, o, none⟩) (by have := World.block_lt_of_cell? _ _ h; rw [hsz] at this; exact this)).trans h)
      have gi0 := gA _ _ _ (li k)
      have ge0 := gA _ _ _ (le k)
      have gfz : ∀ x, (G x).frozen? ⟨w12.heap.size + 1, 0, none⟩ = false := fun x => ((hG.below x).frozen (p := ⟨w12.heap.size + 1, 0, none⟩) (by rw [hs20]; show w12.heap.size + 1 < _; omega)).trans ((hL20.frozen (p := ⟨w12.heap.size + 1, 0, none⟩) (by show w12.heap.size + 1 < _; omega)).trans (lf k))
      have q0 : ∀ x, (G x).cell? ⟨g, k * 4, none⟩ = _ := gA _ _ _ (lg k k 0 _ (by omega) (by omega) (by rw [e0]; rfl))
      have q1 := gA _ _ _ (lg k k 1 _ (by omega) (by omega) (by rw [e0]; rfl))
      have q2 := gA _ _ _ (lg k k 2 _ (by omega) (by omega) (by rw [e0]; rfl))
      have q3 := gA _ _ _ (lg k k 3 _ (by omega) (by omega) (by rw [e0]; rfl))
      have v0 : ∀ x, (G x).cell? ⟨g, (k + 1) * 4, none⟩ = _ := gA _ _ _ (lg k (k + 1) 0 _ (by omega) (by omega) (by rw [e1]; rfl))
      have v1 := gA _ _ _ (lg k (k + 1) 1 _ (by omega) (by omega) (by rw [e1]; rfl))
      have v2 := gA _ _ _ (lg k (k + 1) 2 _ (by omega) (by omega) (by rw [e1]; rfl))
      have v3 := gA _ _ _ (lg k (k + 1) 3 _ (by omega) (by omega) (by rw [e1]; rfl))
      have gB : ∀ (b o : Nat) (v : Value), b ≠ w12.heap.size + 3 + 1 → ((W.alloc (.cells #[.int .i64 y1, .int .i64 y2, .int .i64 k, .int .i64 y4] 36)).alloc (.cells #[.int .i64 u1, .int .i64 u2, .int .i64 1, .int .i64 u4] 36)).cell? ⟨b, o, none⟩ = some v → ∀ x, (G x).cell? ⟨b, o, none⟩ = some v := fun b o v hb h => hG.cell ((hp.cell (by omega)).trans h)
      have m0 := gB W.heap.size 0 (.int .i64 y1) (by omega) (by simp [go_sem])
      have m1 := gB W.heap.size 1 (.int .i64 y2) (by omega) (by simp [go_sem])
      have m2 := gB W.heap.size 2 (.int .i64 k) (by omega) (by simp [go_sem])
      have m3 := gB W.heap.size 3 (.int .i64 y4) (by omega) (by simp [go_sem])
      have o0 := gB (W.heap.size + 1) 0 (.int .i64 u1) (by omega) (by simp [go_sem])
      have o1 := gB (W.heap.size + 1) 1 (.int .i64 u2) (by omega) (by simp [go_sem])
      have o2 := gB (W.heap.size + 1) 2 (.int .i64 1) (by omega) (by simp [go_sem])
      have o3 := gB (W.heap.size + 1) 3 (.int .i64 u4) (by omega) (by simp [go_sem])
      have cP : ∀ x, Calls Tryd.prog 19 #[.agg #[.int .i64 y1, .int .i64 y2, .int .i64 k, .int .i64 y4], .agg #[.int .i64 u1, .int .i64 u2, .int .i64 1, .int .i64 u4]] (G x) fun e w' => e = .returned (.agg #[.int .i64 (y1 + u1), .int .i64 (y2 + u2), .int .i64 ((k : Int) + 1), .int .i64 (y4 + u4)]) ∧ ∃ y, w' = G y := fun x => by
        refine grow_of hG ?_
        have := plus_any y1 y2 k y4 u1 u2 1 u4 (G x)
        rw [wrap64_small (by omega) (by omega), wrap64_small (by omega) (by omega), wrap64_small (by omega) (by omega), wrap64_small (by omega) (by omega)] at this
        exact this
      have hkm : k < rs.length := by omega
      clear hpl
      generalize rs.length = m at *
      have n1 : ¬ ((m : Int) ≤ (k : Int)) := by omega
      have n2 : ¬ m ≤ k := by omega
      have n3 : ¬ ((m : Int) + 1 ≤ (k : Int) + 1) := by omega
      clear gA gB le li lf ls lr0 lr1 lg e0 e1 hww hp hpb
      gi_wp2
      refine wpR_region_grow hG (by kernel_rfl) (by kernel_rfl) (by kernel_rfl) ?_
      repeat (first
        | go_big_quiet_skip
        | (go_big_quiet_want; go_big_quiet_op; first | go_big_quiet_on | (apply Exists.intro; refine ⟨fun _ => ?_, ?_⟩; (go_at_call 19; exact cP _); go_big_quiet_on)))
      refine wpQuiet_nil ?_
      rintro w21 ⟨y, rfl⟩
      have hgb := hG.below y
      have hgi := gi0 y
      have hgf := gfz y
      clear q0 q1 q2 q3 v0 v1 v2 v3 m0 m1 m2 m3 o0 o1 o2 o3 ge0 gi0 gfz cP
      gi_wp2
      refine ⟨(Same2.of_below hgb (by omega)).setCell (by show w12.heap.size + 1 ≠ _; omega) (by show w12.heap.size + 1 ≠ _; omega) _, (KeepUp.of_below hgb).setCell (by show w12.heap.size + 1 < _; omega) _, ?_⟩
      have := turn k (k + 1) _ (hL20.trans (hgb.mono (by omega)))
      have e : (((pre ++ [x]).length : Nat) : Int) = (k : Int) + 1 := by rw [HTN.out]; rfl
      show Below (w12.heap.size + 3) (LW (((pre ++ [x]).length : Nat) : Int)) _
      rw [e]
      exact this
    case done =>
      rintro xs W rfl hI hDef
      have hwr : (wide rs).length = rs.length := by simp [wide]
      rw [HSC.out, hwr] at hI
      rw [hsz] at hDef ⊢
      have ci := (hI.cell (p := ⟨w12.heap.size + 1, 0, none⟩) (by show w12.heap.size + 1 < _; omega)).trans (li _)
      have ce := (hI.cell (p := ⟨w12.heap.size, 0, none⟩) (by show w12.heap.size < _; omega)).trans (le _)
      have cr := (hI.cell (p := ⟨w.heap.size, 0, none⟩) (by show w.heap.size < _; omega)).trans (lr0 _)
      have cf := (hI.frozen (p := ⟨w.heap.size, 0, none⟩) (by show w.heap.size < _; omega)).trans (lr1 _)
      have hBW : Below w.heap.size w W := (lB _).trans (hI.mono (by omega))
      have hrl : rs.length ≤ 600 := by
        have := scan_len s.data.toList
        rw [HSC.out, hwr, ← Lib.size_eq] at this
        omega
      clear li le lf ls lr0 lr1 lg turn hI hwr lB hbl
      generalize rs.length = m at *
      have hwm : wrap64 (m : Int) = m := wrap64_small (by omega) (by omega)
      gi_wp2
      have hDef' : (W.setCell ⟨w.heap.size, 0, none⟩ (.bool true)).heap[w12.heap.size + 3]? = some (.deferred (some [])) := (Below.heap_setCell W _ _ _ (by show w12.heap.size + 3 ≠ w.heap.size; omega)).trans hDef
      have hcr : ((W.setCell ⟨w.heap.size, 0, none⟩ (.bool true)).putObj (w12.heap.size + 3) (.deferred none)).cell? ⟨w.heap.size, 0, none⟩ = some (.bool true) :=
        ((Put1.putObj (w12.heap.size + 3) (W.setCell ⟨w.heap.size, 0, none⟩ (.bool true)) (.deferred none)).cell (by omega)).trans (World.cell?_setCell_same' _ _ _ (by rw [cr]; rfl))
      refine ⟨by simp, .inl ⟨_, _, rfl, run_takeDeferred hDef', ?_⟩⟩
      refine ⟨.bool true, by simp [results, Tryd.results3, go_sem, hcr], rfl, ?_⟩
      exact (hBW.setCell (p := ⟨w.heap.size, 0, none⟩) (Nat.le_refl _) _).trans ((Put1.putObj (w12.heap.size + 3) (W.setCell ⟨w.heap.size, 0, none⟩ (.bool true)) (.deferred none)).below (by omega))
  · subst hP16
    subst hM0
    gi_wp2_with (first
      | (refine ⟨trivial, ?_⟩; gi_at_call 14; refine (callsIn_wide.2 cS).mono ?_; rintro e w9 ⟨rfl, hb9⟩; have HH9 := held_below HD8.out hb9; have HD9 : Hid _ := HH9; have hB9 := hB8.trans (hb9.mono hB8.size); clear r0 r1 f0 f1 d0 d1 d2 d3 n0 n1 n2 n3; obtain ⟨⟨r0, r1⟩, ⟨f0, f1⟩, ⟨d0, d1, d2, d3⟩, n0, n1, n2, n3⟩ := HH9)
      | (refine ⟨trivial, ?_⟩; gi_at_call 17; refine (callsIn_wide.2 (HC17.out _)).mono ?_; rintro e w12 ⟨hb12, p5, k5, rfl, hown⟩; have HH12 := held_below HD9.out hb12; have HD12 : Hid _ := HH12; have hB12 := hB9.trans (hb12.mono hB9.size))
      | (refine ⟨trivial, ?_⟩; gi_at_call 18; refine (callsIn_wide.2 (Walk_any s _)).mono ?_; rintro e w13 ⟨rfl, rfl⟩)
      | (refine ⟨trivial, ?_⟩))
    clear hb12 HD9 hB9 HC17
    obtain ⟨g, c9, hv, hg1, hg2⟩ := own_pos hown.out (Nat.succ_pos _)
    cases hv
    clear r0 r1 f0 f1 d0 d1 d2 d3 n0 n1 n2 n3
    obtain ⟨⟨r0, r1⟩, _⟩ := HH12
    obtain ⟨LW, hLW⟩ : ∃ LW : Int → World, LW = fun k => ((w12.alloc (.cells #[.slice (some ⟨g, 0, none⟩) (rs.length + 1) k5] 45)).alloc (.cells #[.int .i64 k] 3)).alloc (.cells #[.string s] 9) := ⟨_, rfl⟩
    have hw : ((w12.alloc (.cells #[.slice (some ⟨g, 0, none⟩) (rs.length + 1) k5] 45)).alloc (.cells #[.int .i64 0] 3)).alloc (.cells #[.string s] 9) = LW 0 := by rw [hLW]
    have hsz : ∀ k, (LW k).heap.size = w12.heap.size + 3 := fun k => by rw [hLW]; simp
    have hbl : ∀ k, Below w12.heap.size w12 (LW k) := fun k => by rw [hLW]; exact (((Below.refl _ _).alloc (Nat.le_refl _) _).alloc (by simp) _).alloc (by simp; omega) _
    have le : ∀ k, (LW k).cell? ⟨w12.heap.size, 0, none⟩ = some (.slice (some ⟨g, 0, none⟩) (rs.length + 1) k5) := fun k => by rw [hLW]; simp [go_sem]
    have li : ∀ k, (LW k).cell? ⟨w12.heap.size + 1, 0, none⟩ = some (.int .i64 k) := fun k => by rw [hLW]; simp [go_sem]
    have lf : ∀ k, (LW k).frozen? ⟨w12.heap.size + 1, 0, none⟩ = false := fun k => by rw [hLW]; simp [go_sem]
    have ls : ∀ k, (LW k).cell? ⟨w12.heap.size + 2, 0, none⟩ = some (.string s) := fun k => by rw [hLW]; simp [go_sem]
    have turn : ∀ k k' W, Below (w12.heap.size + 3) (LW k) W → Below (w12.heap.size + 3) (LW k') (W.setCell ⟨w12.heap.size + 1, 0, none⟩ (.int .i64 k')) := fun k k' W h => by rw [hLW] at h ⊢; exact below_turn h
    have lr0 : ∀ k, (LW k).cell? ⟨w.heap.size, 0, none⟩ = some (.bool false) := fun k => cell_later (hbl k) r0
    have lr1 : ∀ k, (LW k).frozen? ⟨w.heap.size, 0, none⟩ = false := fun k => ((hbl k).frozen (p := ⟨w.heap.size, 0, none⟩) (World.block_lt_of_cell? _ _ r0)).trans r1
    have lg : ∀ k i j v, i < rs.length + 1 → j < 4 → (edge rs i)[j]? = some v → (LW k).cell? ⟨g, i * 4 + j, none⟩ = some v := fun k i j v h1 h2 h3 => cell_later (hbl k) (edge_cell hown.out i j h1 h2 h3)
    have hwl : w.heap.size < w12.heap.size := World.block_lt_of_cell? _ _ r0
    have lB : ∀ k, Below w.heap.size w (LW k) := fun k => hB12.trans ((hbl k).mono hB12.size)
    rw [hw]
    clear hw hLW hown HD12 hB0
    refine wp_range_own (gf := 50) (lb := #[.pointer (some ⟨w12.heap.size + 2, 0, none⟩)]) rfl (enters_of Tryd.func50 (by kernel_rfl) rfl) (encs := walkArgs) (fun _ _ => rfl)
      (It := Below ((LW 0).heap.size + 2)) (Kp := KeepUp ((LW 0).heap.size + 2)) (Z := Below w.heap.size w) (S := fun xs => xs = (scan s.data.toList).1) (Sp := fun pre => ∃ rest, (scan s.data.toList).1 = pre ++ rest)
      ?seq (fun A B h => Same2.of_below h (Nat.le_refl _)) (fun h k => h.trans k) (fun A o => KeepUp.putObj A o (Nat.lt_succ_self _))
      (fun pre W => Below (w12.heap.size + 3) (LW pre.length) W) (fun _ _ _ => False) ?iz (fun _ _ _ h => h.elim) ?ii ?ib (fun _ _ _ _ h _ => h) (fun _ _ _ _ h => h) ?h0 ?round ?done (fun _ _ _ _ h => h.elim)
    case seq =>
      intro W hs1 hb1
      have := walk_seq s (by omega) w hT (w12.heap.size + 2) W (cell_later hb1 (ls 0))
      rw [hs1] at this
      exact this
    case iz => exact fun pre A h => (lB _).trans (h.mono (by omega))
    case ii => exact fun pre A B h hb => h.trans (hb.mono (by rw [hsz]; omega))
    case ib => exact fun pre A o h => h.trans ((Put1.putObj _ A o).below (by rw [hsz]; omega))
    case h0 => exact fun W _ hb => by rw [hsz] at hb; exact hb
    case round =>
      rintro l pre x W hI hlW ⟨rest, hsp⟩
      rw [hsz] at hlW
      have hsz0 := hsz 0
      have hwr : (wide rs).length = rs.length := by simp [wide]
      have hx4 := scan_w4 s.data.toList
      rw [HSC.out] at hsp hx4
      have hpl := congrArg List.length hsp
      rw [hwr, List.length_append, List.length_append, List.length_singleton] at hpl
      have hrl : rs.length ≤ 600 := by
        have := scan_len s.data.toList
        rw [HSC.out, hwr, ← Lib.size_eq] at this
        omega
      have e0 := edge_sums HRS.out (pre := pre) (rest := [x] ++ rest) (by rw [hsp, List.append_assoc])
      have e1 := edge_sums HRS.out (pre := pre ++ [x]) (rest := rest) hsp
      obtain ⟨t1, t2, t4⟩ := sums_snoc pre x
      rw [t1, t2, t4, List.length_append, List.length_singleton] at e1
      have z1 := sum1_le pre fun q hq => hx4 q (by rw [hsp]; simp [hq])
      have z2 := sum2_le pre
      have z4 := sum4_le pre
      have zx1 := hx4 x (by rw [hsp]; simp)
      have zx2 := cH_le x.1
      have zx4 := cL_le x.1
      have HTN : Hid ((pre ++ [x]).length = pre.length + 1) := by show _ = _; simp
      unfold walkArgs cnt
      generalize hkk : pre.length = k at *
      generalize sum1 pre = y1 at *
      generalize sum2 pre = y2 at *
      generalize sum4 pre = y4 at *
      generalize hu1 : (x.2 : Int) = u1 at *
      generalize cH x.1 = u2 at *
      generalize cL x.1 = u4 at *
      have zu1 : 0 ≤ u1 ∧ u1 ≤ 4 := by omega
      clear hx4 t1 t2 t4 hsp hwr hu1 zx1
      gi_wp2
      refine ⟨(((Same2.refl _ W).alloc (by omega) _).alloc (by rw [World.size_alloc]; omega) _), ((KeepUp.refl _ W).alloc _).alloc _, ?_⟩
      intro w20 hp _
      have hww : Below W.heap.size W ((W.alloc (.cells #[.int .i64 y1, .int .i64 y2, .int .i64 k, .int .i64 y4] 36)).alloc (.cells #[.int .i64 u1, .int .i64 u2, .int .i64 1, .int .i64 u4] 36)) := ((Below.refl _ W).alloc (Nat.le_refl _) _).alloc (by rw [World.size_alloc]; exact Nat.le_succ _) _
      have hpb : Below (w12.heap.size + 4) ((W.alloc (.cells #[.int .i64 y1, .int .i64 y2, .int .i64 k, .int .i64 y4] 36)).alloc (.cells #[.int .i64 u1, .int .i64 u2, .int .i64 1, .int .i64 u4] 36)) w20 := hp.below (by omega)
      have hL20 : Below (w12.heap.size + 3) (LW k) w20 := hI.trans ((hww.mono (by omega)).trans (hpb.mono (by omega)))
      have hs20 : w20.heap.size = W.heap.size + 2 := by rw [hp.size, World.size_alloc, World.size_alloc]
      obtain ⟨G, hG⟩ := exists_growth w20
      have gA : ∀ (b o : Nat) (v : Value), (LW k).cell? ⟨b, o, none⟩ = some v → ∀ x, (G x).cell? ⟨b, o, none⟩ = some v := fun b o v h => hG.cell ((hL20.cell (p := ⟨b, o, none⟩) (by have := World.block_lt_of_cell? _ _ h; rw [hsz] at this; exact this)).trans h)
      have gi0 := gA _ _ _ (li k)
      have ge0 := gA _ _ _ (le k)
      have gfz : ∀ x, (G x).frozen? ⟨w12.heap.size + 1, 0, none⟩ = false := fun x => ((hG.below x).frozen (p := ⟨w12.heap.size + 1, 0, none⟩) (by rw [hs20]; show w12.heap.size + 1 < _; omega)).trans ((hL20.frozen (p := ⟨w12.heap.size + 1, 0, none⟩) (by show w12.heap.size + 1 < _; omega)).trans (lf k))
      have q0 : ∀ x, (G x).cell? ⟨g, k * 4, none⟩ = _ := gA _ _ _ (lg k k 0 _ (by omega) (by omega) (by rw [e0]; rfl))
      have q1 := gA _ _ _ (lg k k 1 _ (by omega) (by omega) (by rw [e0]; rfl))
      have q2 := gA _ _ _ (lg k k 2 _ (by omega) (by omega) (by rw [e0]; rfl))
      have q3 := gA _ _ _ (lg k k 3 _ (by omega) (by omega) (by rw [e0]; rfl))
      have v0 : ∀ x, (G x).cell? ⟨g, (k + 1) * 4, none⟩ = _ := gA _ _ _ (lg k (k + 1) 0 _ (by omega) (by omega) (by rw [e1]; rfl))
      have v1 := gA _ _ _ (lg k (k + 1) 1 _ (by omega) (by omega) (by rw [e1]; rfl))
      have v2 := gA _ _ _ (lg k (k + 1) 2 _ (by omega) (by omega) (by rw [e1]; rfl))
      have v3 := gA _ _ _ (lg k (k + 1) 3 _ (by omega) (by omega) (by rw [e1]; rfl))
      have gB : ∀ (b o : Nat) (v : Value), b ≠ w12.heap.size + 3 + 1 → ((W.alloc (.cells #[.int .i64 y1, .int .i64 y2, .int .i64 k, .int .i64 y4] 36)).alloc (.cells #[.int .i64 u1, .int .i64 u2, .int .i64 1, .int .i64 u4] 36)).cell? ⟨b, o, none⟩ = some v → ∀ x, (G x).cell? ⟨b, o, none⟩ = some v := fun b o v hb h => hG.cell ((hp.cell (by omega)).trans h)
      have m0 := gB W.heap.size 0 (.int .i64 y1) (by omega) (by simp [go_sem])
      have m1 := gB W.heap.size 1 (.int .i64 y2) (by omega) (by simp [go_sem])
      have m2 := gB W.heap.size 2 (.int .i64 k) (by omega) (by simp [go_sem])
      have m3 := gB W.heap.size 3 (.int .i64 y4) (by omega) (by simp [go_sem])
      have o0 := gB (W.heap.size + 1) 0 (.int .i64 u1) (by omega) (by simp [go_sem])
      have o1 := gB (W.heap.size + 1) 1 (.int .i64 u2) (by omega) (by simp [go_sem])
      have o2 := gB (W.heap.size + 1) 2 (.int .i64 1) (by omega) (by simp [go_sem])
      have o3 := gB (W.heap.size + 1) 3 (.int .i64 u4) (by omega) (by simp [go_sem])
      have cP : ∀ x, Calls Tryd.prog 19 #[.agg #[.int .i64 y1, .int .i64 y2, .int .i64 k, .int .i64 y4], .agg #[.int .i64 u1, .int .i64 u2, .int .i64 1, .int .i64 u4]] (G x) fun e w' => e = .returned (.agg #[.int .i64 (y1 + u1), .int .i64 (y2 + u2), .int .i64 ((k : Int) + 1), .int .i64 (y4 + u4)]) ∧ ∃ y, w' = G y := fun x => by
        refine grow_of hG ?_
        have := plus_any y1 y2 k y4 u1 u2 1 u4 (G x)
        rw [wrap64_small (by omega) (by omega), wrap64_small (by omega) (by omega), wrap64_small (by omega) (by omega), wrap64_small (by omega) (by omega)] at this
        exact this
      have hkm : k < rs.length := by omega
      clear hpl
      generalize rs.length = m at *
      have n1 : ¬ ((m : Int) ≤ (k : Int)) := by omega
      have n2 : ¬ m ≤ k := by omega
      have n3 : ¬ ((m : Int) + 1 ≤ (k : Int) + 1) := by omega
      clear gA gB le li lf ls lr0 lr1 lg e0 e1 hww hp hpb
      gi_wp2
      refine wpR_region_grow hG (by kernel_rfl) (by kernel_rfl) (by kernel_rfl) ?_
      repeat (first
        | go_big_quiet_skip
        | (go_big_quiet_want; go_big_quiet_op; first | go_big_quiet_on | (apply Exists.intro; refine ⟨fun _ => ?_, ?_⟩; (go_at_call 19; exact cP _); go_big_quiet_on)))
      refine wpQuiet_nil ?_
      rintro w21 ⟨y, rfl⟩
      have hgb := hG.below y
      have hgi := gi0 y
      have hgf := gfz y
      clear q0 q1 q2 q3 v0 v1 v2 v3 m0 m1 m2 m3 o0 o1 o2 o3 ge0 gi0 gfz cP
      gi_wp2
      refine ⟨(Same2.of_below hgb (by omega)).setCell (by show w12.heap.size + 1 ≠ _; omega) (by show w12.heap.size + 1 ≠ _; omega) _, (KeepUp.of_below hgb).setCell (by show w12.heap.size + 1 < _; omega) _, ?_⟩
      have := turn k (k + 1) _ (hL20.trans (hgb.mono (by omega)))
      have e : (((pre ++ [x]).length : Nat) : Int) = (k : Int) + 1 := by rw [HTN.out]; rfl
      show Below (w12.heap.size + 3) (LW (((pre ++ [x]).length : Nat) : Int)) _
      rw [e]
      exact this
    case done =>
      rintro xs W rfl hI hDef
      have hwr : (wide rs).length = rs.length := by simp [wide]
      rw [HSC.out, hwr] at hI
      rw [hsz] at hDef ⊢
      have ci := (hI.cell (p := ⟨w12.heap.size + 1, 0, none⟩) (by show w12.heap.size + 1 < _; omega)).trans (li _)
      have ce := (hI.cell (p := ⟨w12.heap.size, 0, none⟩) (by show w12.heap.size < _; omega)).trans (le _)
      have cr := (hI.cell (p := ⟨w.heap.size, 0, none⟩) (by show w.heap.size < _; omega)).trans (lr0 _)
      have cf := (hI.frozen (p := ⟨w.heap.size, 0, none⟩) (by show w.heap.size < _; omega)).trans (lr1 _)
      have hBW : Below w.heap.size w W := (lB _).trans (hI.mono (by omega))
      have hrl : rs.length ≤ 600 := by
        have := scan_len s.data.toList
        rw [HSC.out, hwr, ← Lib.size_eq] at this
        omega
      clear li le lf ls lr0 lr1 lg turn hI hwr lB hbl
      generalize rs.length = m at *
      have hwm : wrap64 (m : Int) = m := wrap64_small (by omega) (by omega)
      gi_wp2
      have hDef' : (W.setCell ⟨w.heap.size, 0, none⟩ (.bool true)).heap[w12.heap.size + 3]? = some (.deferred (some [])) := (Below.heap_setCell W _ _ _ (by show w12.heap.size + 3 ≠ w.heap.size; omega)).trans hDef
      have hcr : ((W.setCell ⟨w.heap.size, 0, none⟩ (.bool true)).putObj (w12.heap.size + 3) (.deferred none)).cell? ⟨w.heap.size, 0, none⟩ = some (.bool true) :=
        ((Put1.putObj (w12.heap.size + 3) (W.setCell ⟨w.heap.size, 0, none⟩ (.bool true)) (.deferred none)).cell (by omega)).trans (World.cell?_setCell_same' _ _ _ (by rw [cr]; rfl))
      refine ⟨by simp, .inl ⟨_, _, rfl, run_takeDeferred hDef', ?_⟩⟩
      refine ⟨.bool true, by simp [results, Tryd.results3, go_sem, hcr], rfl, ?_⟩
      exact (hBW.setCell (p := ⟨w.heap.size, 0, none⟩) (Nat.le_refl _) _).trans ((Put1.putObj (w12.heap.size + 3) (W.setCell ⟨w.heap.size, 0, none⟩ (.bool true)) (.deferred none)).below (by omega))
end Go.Proofs.YtdgpkbgmpdmiaaaDoor
