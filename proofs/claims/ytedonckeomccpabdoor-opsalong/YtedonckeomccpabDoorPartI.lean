/-
  rosettakeep's document and over: an operation in bytes that never cuts a rune of its text, or none.
  ops.Transform and ops.Compose: what is wrong.
  rosettakeep's done: a fact.
  Compose and Invert of operations that never cut a rune (pure); three in one, in whichever order.
  Three operations (pure): composed alike in whichever order; and a third one sees no difference.
  ops' functions at operations that never cut a rune of their text, as rosettakeep calls them.
  rosettakeep.OpsAlong: the law's own walk.
-/
import Derived.Test.YtedonckeomccpabDoorPartE
import Derived.Test.YtedonckeomccpabDoorPartC
import Derived.Test.YtedonckeomccpabDoorPartH
import Derived.Test.YtedonckeomccpabDoorPartA
import Derived.Test.YtedonckeomccpabDoorPartD
import Derived.Test.YtedonckeomccpabDoorPartF
namespace Go.Proofs.YtedonckeomccpabDoor
open Go.RowKit
set_option linter.unusedVariables false
attribute [local go_sem] Oper.semAt_some

set_option maxRecDepth 100000 in
set_option maxHeartbeats 4000000 in
theorem turn_err (b : Nat) (rs : List Nat) (qs : List Pt) (v : Value) (w : World) (hT : Lib.Utf8Tabs 0 1 w) (hR : isRope w b rs) (hr : opAt w v qs) (hwf : ∀ q ∈ qs, wfP q) (hl : qs.length ≤ 1000) (hz : C1 rs ≤ 1000000) (hc : chkE qs (rs.length : Int) ≠ 0) :
    Calls Tryd.prog 33 #[.pointer (some ⟨b, 0, none⟩), .int .i64 3, .int .i64 1, v] w fun e w' => e = .returned (.tuple #[.slice none 0 0, errV (chkE qs (rs.length : Int))]) ∧ Below w.heap.size w w' := by
  have hrl : (rs.length : Int) ≤ C1 rs := by have := C3_le rs; unfold C3 at this; omega
  have cV : Hid (Calls Tryd.prog 48 #[.pointer (some ⟨b, 0, none⟩), .int .i64 3, .int .i64 1, .int .i64 0] w fun e w' => e = .returned (.tuple #[.int .i64 0, .nilIface]) ∧ Below w.heap.size w w') := by
    have := convert_any b rs 3 1 0 (.inr (.inr rfl)) (.inl rfl) (Int.le_refl _) (by_pos 3 rs) w hT hR (by omega) [] (find_zero 3 rs) (by_nil 3)
    rw [by_nil] at this
    exact this
  have cN : Hid (∀ wx, Below w.heap.size w wx → Calls Tryd.prog 16 #[.pointer (some ⟨b, 0, none⟩)] wx fun e w' => e = .returned (cntV rs) ∧ Below wx.heap.size wx w') := fun wx hb => ropecounts_any b rs wx (isRope_below hR hb)
  have cI : Hid (∀ wx, Calls Tryd.prog 49 #[cntV rs, .int .i64 3] wx fun e w' => e = .returned (.int .i64 (rs.length : Int)) ∧ Below wx.heap.size wx w') := fun wx => In_any 3 rs wx
  have hV : errV (chkE qs (rs.length : Int)) = .iface 51 (.int .i64 (chkE qs (rs.length : Int))) := by unfold errV; rw [if_neg hc]
  have cK : Hid (∀ wx, Below w.heap.size w wx → Calls Tryd.prog 38 #[v, .int .i64 (rs.length : Int)] wx fun e w' => e = .returned (.iface 51 (.int .i64 (chkE qs (rs.length : Int)))) ∧ Below wx.heap.size wx w') := fun wx hb => by
    have := Check_any v qs (rs.length : Int) wx (Go.Proofs.Utf8Tabs_below hT hb) (opAt_below hr hb (Nat.le_refl _)) hwf (by omega) (by omega)
    rw [hV] at this
    exact this
  rw [hV]
  obtain ⟨p, c, rfl, _⟩ := hr
  generalize chkE qs (rs.length : Int) = E at *
  unfold cntV at cN cI
  clear hT hR hwf hc hV
  go_enter Tryd.func33, Tryd.ntmps33
  go_wp2_with (first
    | (go_at_call 48; refine Calls.mono cV.out ?_; rintro e w1 ⟨rfl, hb1⟩; have HB1 : Hid (Below w.heap.size w w1) := hb1; clear hb1)
    | (go_at_call 16; refine (cN.out _ HB1.out).mono ?_; rintro e w2 ⟨rfl, hb2⟩; have HB2 : Hid (Below w.heap.size w w2) := HB1.out.trans (hb2.mono HB1.out.size); clear hb2)
    | (go_at_call 49; refine (cI.out _).mono ?_; rintro e w3 ⟨rfl, hb3⟩; have HB3 : Hid (Below w.heap.size w w3) := HB2.out.trans (hb3.mono HB2.out.size); clear hb3)
    | (go_at_call 38; refine (cK.out _ HB3.out).mono ?_; rintro e w4 ⟨rfl, hb4⟩; have HB4 : Hid (Below w.heap.size w w4) := HB3.out.trans (hb4.mono HB3.out.size); clear hb4)
    | fail)
  go_ret2
  exact ⟨rfl, HB4.out⟩

/-- bridge.To by runes. -/
theorem To_any (b : Nat) (rs : List Nat) (qs : List Pt) (v : Value) (w : World) (hT : Lib.Utf8Tabs 0 1 w) (hR : isRope w b rs) (hr : opAt w v qs) (hwf : ∀ q ∈ qs, wfP q) (hl : qs.length ≤ 1000) (hpl : ∀ q ∈ qs, q.put.length ≤ 1000000) (hz : C1 rs ≤ 1000000) (hbw : b < w.heap.size) :
    Calls Tryd.prog 14 #[.pointer (some ⟨b, 0, none⟩), .int .i64 3, v] w fun e w' => ∃ v', e = .returned (.tuple #[v', errV (chkE qs (rs.length : Int))]) ∧ (chkE qs (rs.length : Int) = 0 → opAt w' v' (bytQ rs qs)) ∧ Below w.heap.size w w' := by
  have cC : Hid (Calls Tryd.prog 33 #[.pointer (some ⟨b, 0, none⟩), .int .i64 3, .int .i64 1, v] w fun e w' => ∃ v', e = .returned (.tuple #[v', errV (chkE qs (rs.length : Int))]) ∧ (chkE qs (rs.length : Int) = 0 → opAt w' v' (bytQ rs qs)) ∧ Below w.heap.size w w') := by
    by_cases hc : chkE qs (rs.length : Int) = 0
    · refine (turn_fine b rs qs v w hT hR hr hwf hl hpl hz hc hbw).mono fun e w' h => ?_
      obtain ⟨v', rfl, h1, h2⟩ := h
      exact ⟨v', by rw [hc]; rfl, fun _ => h1, h2⟩
    · refine (turn_err b rs qs v w hT hR hr hwf hl hz hc).mono fun e w' h => ?_
      exact ⟨_, h.1, fun h0 => absurd h0 hc, h.2⟩
  obtain ⟨p, c, rfl, _⟩ := hr
  generalize errV (chkE qs (rs.length : Int)) = E at *
  clear hT hR hwf hpl hz
  go_enter Tryd.func14, Tryd.ntmps14
  go_wp2_with (first
    | (go_at_call 33; refine Calls.mono cC.out ?_; rintro e w1 ⟨v1, rfl, h1, hb1⟩; have H1 : Hid _ := h1; clear h1)
    | fail)
  go_ret2
  exact ⟨v1, rfl, H1.out, hb1⟩

set_option maxHeartbeats 1000000 in
theorem new_bad (s : List UInt8) (hs : s.length ≤ 100000) (hsc : (scan s).2 = false) (w : World) (hT : Lib.Utf8Tabs 0 1 w) :
    Calls Tryd.prog 32 #[.string ⟨s.toArray⟩] w fun e w' => ∃ bx, e = .returned (.tuple #[.pointer none, .iface 126 (.pointer (some ⟨bx, 0, none⟩))]) ∧ Below w.heap.size w w' := by
  have c := Count_any ⟨s.toArray⟩ (by simp [ByteArray.size]; omega) w hT
  have C : Hid (Calls Tryd.prog 34 #[.string ⟨s.toArray⟩] w fun e w' => ∃ n1 n2 n3 n4 bx, e = .returned (.tuple #[.agg #[.int .i64 n1, .int .i64 n2, .int .i64 n3, .int .i64 n4], .iface 126 (.pointer (some ⟨bx, 0, none⟩))]) ∧ Below w.heap.size w w') := Calls.mono c fun e w' h => by
    obtain ⟨v, x, rfl, hb, ⟨h0, _⟩ | ⟨_, rfl, bx, rfl, _⟩⟩ := h
    · rw [show (ByteArray.mk s.toArray).data.toList = s from rfl, hsc] at h0; cases h0
    · exact ⟨_, _, _, _, bx, rfl, hb⟩
  clear c hT hsc
  go_enter Tryd.func32, Tryd.ntmps32
  go_wp2_with (first
    | (go_at_call 34; refine Calls.mono C.out ?_; rintro e w1 ⟨n1, n2, n3, n4, bx, rfl, hb1⟩)
    | fail)
  go_ret2
  exact ⟨bx, rfl, hb1.alloc hb1.size _⟩

/-- A document of a text, or none. -/
def isDoc (s : List UInt8) : Prop := (scan s).2 = true ∧ s.length ≤ 1500
set_option maxHeartbeats 1000000 in
theorem document_none (s : List UInt8) (h : ¬ isDoc s) (w : World) (hT : Lib.Utf8Tabs 0 1 w) :
    Calls Tryd.prog 13 #[.string ⟨s.toArray⟩] w fun e w' => e = .returned (.pointer none) ∧ Below w.heap.size w w' := by
  have hz : (ByteArray.mk s.toArray).size = s.length := by simp [ByteArray.size]
  by_cases hs : 1500 < s.length
  · have hs' : (1500 : Int) < (s.length : Int) := by omega
    clear hT h
    go_enter Tryd.func13, Tryd.ntmps13
    go_wp2
    go_ret
    exact ⟨rfl, Below.refl _ _⟩
  · have hs' : ¬ (1500 : Int) < (s.length : Int) := by omega
    have hsc : (scan s).2 = false := Bool.eq_false_iff.2 fun e => h ⟨e, by omega⟩
    have C : Hid _ := new_bad s (by omega) hsc w hT
    clear hT h hsc
    go_enter Tryd.func13, Tryd.ntmps13
    go_wp2_with (first
      | (go_at_call 32; refine Calls.mono C.out ?_; rintro e w1 ⟨bx, rfl, hb1⟩)
      | fail)
    go_ret
    exact ⟨rfl, hb1⟩
set_option maxHeartbeats 1000000 in
theorem document_some (s : List UInt8) (h : isDoc s) (w : World) (hT : Lib.Utf8Tabs 0 1 w) :
    Calls Tryd.prog 13 #[.string ⟨s.toArray⟩] w fun e w' => ∃ b, e = .returned (.pointer (some ⟨b, 0, none⟩)) ∧ isRope w' b (runesOf s) ∧ Below w.heap.size w w' := by
  obtain ⟨h1, h2⟩ := h
  have hz : (ByteArray.mk s.toArray).size = s.length := by simp [ByteArray.size]
  have hs' : ¬ (1500 : Int) < (s.length : Int) := by omega
  have e1 : bytesOf (runesOf s) = ⟨s.toArray⟩ := by unfold bytesOf; rw [encs_runesOf h1]
  have hC1 : C1 (runesOf s) = s.length := by rw [C1_len, encs_runesOf h1]
  have c := new_good (runesOf s) (fun r hr => runesOf_rune hr) (by omega) w hT
  rw [e1] at c
  have C : Hid _ := c
  clear c hT h1 e1 hC1
  go_enter Tryd.func13, Tryd.ntmps13
  go_wp2_with (first
    | (go_at_call 32; refine Calls.mono C.out ?_; rintro e w1 ⟨b, rfl, hlo, hR, hb1⟩; have HR : Hid (isRope w1 b (runesOf s)) := hR; clear hR)
    | fail)
  go_ret
  exact ⟨b, rfl, HR.out, hb1⟩

theorem oneB_shapes {q : Pt} (h : oneB q = true) : (0 < q.keep ∧ q.drop = 0 ∧ q.put = []) ∨ (q.keep = 0 ∧ 0 < q.drop ∧ q.put = []) ∨ (q.keep = 0 ∧ q.drop = 0 ∧ q.put ≠ []) := by
  unfold oneB at h
  split at h
  · rename_i h1; exact .inl ⟨of_decide_eq_true h, h1.1, h1.2⟩
  · split at h
    · rename_i h1 h2; exact .inr (.inl ⟨h2.1, of_decide_eq_true h, h2.2⟩)
    · rename_i h1 h2
      have h3 := of_decide_eq_true h
      exact .inr (.inr ⟨h3.1, h3.2, fun e => h1 ⟨h3.2, e⟩⟩)
theorem encs_take (rs : List Nat) (k : Nat) : (encs rs).take (encs (rs.take k)).length = encs (rs.take k) ∧ (encs rs).drop (encs (rs.take k)).length = encs (rs.drop k) := by
  have e : encs rs = encs (rs.take k) ++ encs (rs.drop k) := by rw [← encs_append, List.take_append_drop]
  constructor
  · conv => lhs; rw [e]
    rw [List.take_left']; rfl
  · conv => lhs; rw [e]
    rw [List.drop_left']; rfl
/-- Each part in bytes: it never cuts a rune. -/
theorem byt_left : ∀ (qs : List Pt) (rs : List Nat), (∀ q ∈ qs, oneB q = true ∧ (scan q.put).2 = true) → longP qs = rs.length → (∀ r ∈ rs, isRune r) → Left (bytQ rs qs) (encs rs)
  | [], rs, _, hl, _ => by
    have : rs = [] := List.eq_nil_of_length_eq_zero (by simp [longP] at hl; omega)
    subst this
    exact ⟨by simp [bytQ], by simp [bytQ, longP, encs], trivial⟩
  | q :: qs, rs, h, hl, hr => by
    have hq := h q (by simp)
    have hs := (one_sound hq.1).1
    have hl2 : longP (q :: qs) = lenP q + longP qs := by simp [longP]
    have hp3 : ∀ x ∈ qs, 0 ≤ lenP x := fun x hx => by
      have := (one_sound (h x (by simp [hx])).1).1
      unfold soundP at this; unfold lenP; omega
    have hp := sum_pos hp3
    rw [hl2] at hl
    obtain ⟨K, D, U⟩ := q
    have hld : lenP ⟨K, D, U⟩ = K + D := rfl
    rw [hld] at hl
    have ih := byt_left qs (rs.drop (K + D).toNat) (fun x hx => h x (by simp [hx])) (by rw [List.length_drop]; obtain ⟨s1, s2⟩ := hs; have s1 : 0 ≤ K := s1; have s2 : 0 ≤ D := s2; omega) fun r hx => hr r (List.mem_of_mem_drop hx)
    have hb : bytQ rs (⟨K, D, U⟩ :: qs) = byt1 rs ⟨K, D, U⟩ :: bytQ (rs.drop (K + D).toNat) qs := rfl
    rw [hb]
    obtain ⟨hta, htd⟩ := encs_take rs (K + D).toNat
    have hVt : V (encs (rs.take (K + D).toNat)) := ⟨_, fun r hx => hr r (List.mem_of_mem_take hx), rfl⟩
    have hpos : 0 < K + D → 0 < (encs (rs.take (K + D).toNat)).length := fun h0 => by
      have h1 := encs_len (rs.take (K + D).toNat)
      rw [List.length_take] at h1; omega
    have hsum : ((encs (rs.take (K + D).toNat)).length : Int) + ((encs (rs.drop (K + D).toNat)).length : Int) = (encs rs).length := by
      have : encs rs = encs (rs.take (K + D).toNat) ++ encs (rs.drop (K + D).toNat) := by rw [← encs_append, List.take_append_drop]
      have := congrArg List.length this
      rw [List.length_append] at this; omega
    have huv : V U := V_of_scan hq.2
    have hil := ih.long
    rcases oneB_shapes hq.1 with ⟨h1, h2, h3⟩ | ⟨h1, h2, h3⟩ | ⟨h1, h2, h3⟩
    · have h1 : 0 < K := h1
      obtain rfl : D = 0 := h2
      have hp0 := hpos (by omega)
      have e1 : byt1 rs ⟨K, 0, U⟩ = ⟨((encs (rs.take (K + 0).toNat)).length : Int), 0, []⟩ := by unfold byt1; rw [if_pos h1]; show (⟨C1 _, 0, []⟩ : Pt) = _; rw [C1_len]; rfl
      rw [e1]
      have e2 : (lenP ⟨((encs (rs.take (K + 0).toNat)).length : Int), 0, []⟩).toNat = (encs (rs.take (K + 0).toNat)).length := by unfold lenP; simp
      refine ⟨?_, ?_, V_nil, by rw [e2, hta]; exact hVt, by rw [e2, htd]; exact ih.al⟩
      · intro p hp
        rcases List.mem_cons.1 hp with rfl | hp
        · exact .inl ⟨by show (0 : Int) < ((encs _).length : Int); omega, rfl, rfl⟩
        · exact ih.one p hp
      · rw [long_cons, hil]; simp only [lenP]; omega
    · obtain rfl : K = 0 := h1
      have h2 : 0 < D := h2
      have hp0 := hpos (by omega)
      have e1 : byt1 rs ⟨0, D, U⟩ = ⟨0, ((encs (rs.take (0 + D).toNat)).length : Int), []⟩ := by unfold byt1; rw [if_neg (show ¬ 0 < (⟨0, D, U⟩ : Pt).keep from Int.lt_irrefl 0), if_pos h2]; show (⟨0, C1 _, []⟩ : Pt) = _; rw [C1_len]; rfl
      rw [e1]
      have e2 : (lenP ⟨0, ((encs (rs.take (0 + D).toNat)).length : Int), []⟩).toNat = (encs (rs.take (0 + D).toNat)).length := by unfold lenP; simp
      refine ⟨?_, ?_, V_nil, by rw [e2, hta]; exact hVt, by rw [e2, htd]; exact ih.al⟩
      · intro p hp
        rcases List.mem_cons.1 hp with rfl | hp
        · exact .inr (.inl ⟨rfl, by show (0 : Int) < ((encs _).length : Int); omega, rfl⟩)
        · exact ih.one p hp
      · rw [long_cons, hil]; simp only [lenP]; omega
    · obtain rfl : K = 0 := h1
      obtain rfl : D = 0 := h2
      have e1 : byt1 rs ⟨0, 0, U⟩ = ⟨0, 0, U⟩ := by unfold byt1; rw [if_neg (show ¬ 0 < (⟨0, 0, U⟩ : Pt).keep from Int.lt_irrefl 0), if_neg (show ¬ 0 < (⟨0, 0, U⟩ : Pt).drop from Int.lt_irrefl 0)]
      rw [e1]
      have e0 : rs.drop ((0 : Int) + 0).toNat = rs := rfl
      rw [e0] at ih hil ⊢
      refine ⟨?_, ?_, huv, ?_, ?_⟩
      · intro p hp
        rcases List.mem_cons.1 hp with rfl | hp
        · exact .inr (.inr ⟨rfl, rfl, h3⟩)
        · exact ih.one p hp
      · rw [long_cons, hil]; simp [lenP]
      · show V (List.take 0 _); rw [List.take_zero]; exact V_nil
      · exact ih.al
theorem byt_puts : ∀ (qs : List Pt) (rs : List Nat), (∀ q ∈ qs, oneB q = true) → putsP (bytQ rs qs) = putsP qs
  | [], _, _ => rfl
  | q :: qs, rs, h => by
    have ih := byt_puts qs (rs.drop (lenP q).toNat) fun x hx => h x (by simp [hx])
    have e : ∀ (p : Pt) (l : List Pt), putsP (p :: l) = p.put.length + putsP l := fun p l => by simp [putsP]
    rw [bytQ, e, e, ih]
    congr 1
    unfold byt1
    rcases oneB_shapes (h q (by simp)) with ⟨h1, h2, h3⟩ | ⟨h1, h2, h3⟩ | ⟨h1, h2, h3⟩
    · rw [if_pos h1, h3]
    · rw [if_neg (by omega), if_pos h2, h3]
    · rw [if_neg (by omega), if_neg (by omega)]
theorem puts_small {N : Int} : ∀ (qs : List Pt), (∀ q ∈ qs, smallQ N q) → putsP qs ≤ 150 * qs.length
  | [], _ => by simp [putsP]
  | q :: qs, h => by
    have ih := puts_small qs fun x hx => h x (by simp [hx])
    have := (h q (by simp)).2.2.2.2
    have e : putsP (q :: qs) = q.put.length + putsP qs := by simp [putsP]
    rw [e, List.length_cons]; omega

theorem field2c (a b c d : Int) (w : World) : (Instr.field 46 (.agg #[.int .i64 a, .int .i64 b, .int .i64 c, .int .i64 d]) 2).run Tryd.prog w = .ok (.int .i64 c) w := by kernel_rfl
attribute [local go_sem] field2c
/-- What over tells: an operation that is over all of a text, and small. -/
structure told (x : List Pt) (s : List UInt8) : Prop where
  good : good x s
  doc : isDoc s
  len : x.length ≤ 61
  puts : putsP x ≤ 9150

set_option maxRecDepth 100000 in
set_option maxHeartbeats 4000000 in
theorem overk_any (v : Value) (ps : List Pt) (s : List UInt8) (w : World) (hT : Lib.Utf8Tabs 0 1 w) (hr : opAt w v ps) (hwf : ∀ p ∈ ps, p.put.length ≤ 150 → wfP p) :
    Calls Tryd.prog 7 #[v, .string ⟨s.toArray⟩] w fun e w' => (∃ v', e = .returned (.tuple #[v', .bool false]) ∧ Below w.heap.size w w') ∨ (∃ v' x, e = .returned (.tuple #[v', .bool true]) ∧ opAt w' v' x ∧ told x s ∧ Below w.heap.size w w') := by
  by_cases hd : isDoc s
  · have CD : Hid _ := document_some s hd w hT
    obtain ⟨rs, hrs⟩ : ∃ rs, runesOf s = rs := ⟨_, rfl⟩
    have he : encs rs = s := by rw [← hrs]; exact encs_runesOf hd.1
    have hrun : ∀ r ∈ rs, isRune r := fun r h => runesOf_rune (by rw [hrs]; exact h)
    rw [hrs] at CD
    have hC1 : C1 rs = s.length := by rw [C1_len, he]
    have hC3 := C3_le rs
    have hd2 := hd.2
    have hN : C3 rs ≤ 1500 := by omega
    have hN0 : 0 ≤ C3 rs := hC3.1
    have CN : Hid (∀ b wx, isRope wx b rs → Calls Tryd.prog 16 #[.pointer (some ⟨b, 0, none⟩)] wx fun e w' => e = .returned (cntV rs) ∧ Below wx.heap.size wx w') := fun b wx h => ropecounts_any b rs wx h
    have CF : Hid (∀ wx, Below w.heap.size w wx → Calls Tryd.prog 15 #[v, .int .i64 (C3 rs)] wx fun e w' => ∃ v' qs, e = .returned v' ∧ w'.ownsRow wx.heap.size 40 3 v' qs.length (cellsP qs) ∧ qs.length ≤ 61 ∧ (∀ q ∈ qs, smallQ (C3 rs) q) ∧ Below wx.heap.size wx w') := fun wx hb => fit_any v ps (C3 rs) wx (Go.Proofs.Utf8Tabs_below hT hb) (opAt_below hr hb (Nat.le_refl _)) hwf hN0 (by omega)
    have CT : Hid (∀ b qs v' wx, Below w.heap.size w wx → isRope wx b rs → opAt wx v' qs → qs.length ≤ 61 → (∀ q ∈ qs, smallQ (C3 rs) q) → Calls Tryd.prog 14 #[.pointer (some ⟨b, 0, none⟩), .int .i64 3, v'] wx fun e w' => ∃ v'', e = .returned (.tuple #[v'', errV (chkE qs (rs.length : Int))]) ∧ (chkE qs (rs.length : Int) = 0 → opAt w' v'' (bytQ rs qs)) ∧ Below wx.heap.size wx w') := fun b qs v' wx hb h1 h2 h3 h4 =>
      To_any b rs qs v' wx (Go.Proofs.Utf8Tabs_below hT hb) h1 h2 (fun q hq => by have := h4 q hq; unfold smallQ at this; unfold wfP; omega) (by omega) (fun q hq => by have := (h4 q hq).2.2.2.2; omega) (by omega) (by obtain ⟨q, t, h5, _⟩ := h1; exact World.block_lt_of_cell? wx _ h5)
    have HE : Hid (∀ qs, qs.length ≤ 61 → (∀ q ∈ qs, smallQ (C3 rs) q) → chkE qs (rs.length : Int) = 0 → told (bytQ rs qs) s) := fun qs h1 h2 h3 => by
      obtain ⟨p1, p2, p3⟩ := chkE_parts h3
      have hl := byt_left qs rs p1 p2 hrun
      rw [he] at hl
      refine ⟨hl.good, hd, by rw [bytQ_len]; exact h1, ?_⟩
      rw [byt_puts qs rs fun q hq => (p1 q hq).1]
      have := puts_small qs h2
      omega
    obtain ⟨p, c, rfl, _⟩ := hr
    obtain ⟨N, hNe⟩ : ∃ N, C3 rs = N := ⟨_, rfl⟩
    unfold cntV at CN
    rw [hNe] at CN CF CT HE
    generalize C1 rs = x1 at *
    generalize C2 rs = x2 at *
    generalize C4 rs = x4 at *
    clear hT hwf hd he hrun hC1 hC3 hrs hN hN0 hd2 hNe
    go_enter Tryd.func7, Tryd.ntmps7
    go_wp2_with (first
      | (go_at_call 13; refine Calls.mono CD.out ?_; rintro e w1 ⟨b, rfl, hR1, hb1⟩; have HR1 : Hid (isRope w1 b rs) := hR1; have HB1 : Hid (Below w.heap.size w w1) := hb1; clear hR1 hb1)
      | (go_at_call 16; refine (CN.out _ _ HR1.out).mono ?_; rintro e w2 ⟨rfl, hb2⟩; have HR2 : Hid (isRope w2 b rs) := isRope_below HR1.out hb2; have HB2 : Hid (Below w.heap.size w w2) := HB1.out.trans (hb2.mono HB1.out.size); clear hb2)
      | (go_at_call 15; refine (CF.out _ HB2.out).mono ?_; rintro e w3 ⟨v3, qs, rfl, ho3, hl3, hs3, hb3⟩; have HR3 : Hid (isRope w3 b rs) := isRope_below HR2.out hb3; have HB3 : Hid (Below w.heap.size w w3) := HB2.out.trans (hb3.mono HB2.out.size); have HS3 : Hid (∀ q ∈ qs, smallQ N q) := hs3; have HO3 : Hid (opAt w3 v3 qs) := opAt_own ho3; obtain ⟨p3, c3, rfl⟩ := own_slice ho3; clear hb3 hs3 ho3)
      | (go_at_call 14; refine (CT.out _ _ _ _ HB3.out HR3.out HO3.out hl3 HS3.out).mono ?_; rintro e w4 ⟨v4, rfl, ho4, hb4⟩; have HB4 : Hid (Below w.heap.size w w4) := HB3.out.trans (hb4.mono HB3.out.size); have HO4 : Hid (chkE qs (rs.length : Int) = 0 → opAt w4 v4 (bytQ rs qs)) := ho4; have HE4 := HE.out qs hl3 HS3.out; clear hb4 ho4)
      | fail)
    by_cases hc : chkE qs (rs.length : Int) = 0
    · have hV : errV (chkE qs (rs.length : Int)) = .nilIface := by rw [hc]; rfl
      have HO5 := HO4.out hc
      have HT5 := HE4 hc
      have HX : Hid (opAt w4 v4 (bytQ rs qs) ∧ told (bytQ rs qs) s) := ⟨HO5, HT5⟩
      rw [hV]
      clear hV hc HO4 HE4 HO5 HT5 HE CT CF CN
      have HX2 : Hid (opAt w4.drew v4 (bytQ rs qs)) := opAt_below HX.out.1 ((Below.refl w4.heap.size w4).drew) (Nat.le_refl _)
      have HB5 : Hid (Below w.heap.size w w4.drew) := HB4.out.drew
      go_region
      go_wp2
      go_ret2
      exact .inr ⟨v4, _, rfl, HX2.out, HX.out.2, HB5.out⟩
    · have hV : errV (chkE qs (rs.length : Int)) = .iface 51 (.int .i64 (chkE qs (rs.length : Int))) := by unfold errV; rw [if_neg hc]
      rw [hV]
      have HB5 : Hid (Below w.heap.size w w4.drew) := HB4.out.drew
      clear hV HO4 HE4 HE CT CF CN
      go_region
      go_wp2
      go_ret2
      exact .inl ⟨v4, rfl, HB5.out⟩
  · have CD : Hid _ := document_none s hd w hT
    obtain ⟨p, c, rfl, _⟩ := hr
    clear hT hwf hd
    go_enter Tryd.func7, Tryd.ntmps7
    go_wp2_with (first
      | (go_at_call 13; refine Calls.mono CD.out ?_; rintro e w1 ⟨rfl, hb1⟩)
      | fail)
    go_ret2
    exact .inl ⟨_, rfl, hb1⟩
end Go.Proofs.YtedonckeomccpabDoor

namespace Go.Proofs.YtedonckeomccpabDoor
open Go.RowKit
set_option linter.unusedVariables false
attribute [local go_sem] Oper.semAt_some

set_option maxRecDepth 100000 in
set_option maxHeartbeats 2000000 in
theorem trans_err (v1 v2 : Value) (first : Bool) (a b : List Pt) (w : World) (hT : Lib.Utf8Tabs 0 1 w) (h1 : opAt w v1 a) (h2 : opAt w v2 b) (w1 : ∀ p ∈ a, wfP p) (w2 : ∀ p ∈ b, wfP p) (l1 : a.length < 10000000) (l2 : b.length < 10000000) (he : bothE a b ≠ 0) :
    Calls Tryd.prog 8 #[v1, v2, .bool first] w fun e w' => e = .returned (.tuple #[.slice none 0 0, errV (bothE a b)]) ∧ Below w.heap.size w w' := by
  have cB : Hid _ := checkBoth_any v1 v2 a b w hT h1 h2 w1 w2 l1 l2
  have hV : errV (bothE a b) = .iface 51 (.int .i64 (bothE a b)) := by unfold errV; rw [if_neg he]
  rw [hV] at cB ⊢
  generalize bothE a b = E at *
  obtain ⟨p1, c1, rfl, _⟩ := h1
  obtain ⟨p2, c2, rfl, _⟩ := h2
  clear hT w1 w2 hV
  go_enter Tryd.func8, Tryd.ntmps8
  go_wp2_with (first
    | (go_at_call 17; refine Calls.mono cB.out ?_; rintro e w1 ⟨rfl, hb1⟩)
    | fail)
  go_ret2
  exact ⟨rfl, hb1⟩
set_option maxRecDepth 100000 in
set_option maxHeartbeats 2000000 in
theorem trans_len (v1 v2 : Value) (first : Bool) (a b : List Pt) (w : World) (hT : Lib.Utf8Tabs 0 1 w) (h1 : opAt w v1 a) (h2 : opAt w v2 b) (w1 : ∀ p ∈ a, wfP p) (w2 : ∀ p ∈ b, wfP p) (l1 : a.length < 10000000) (l2 : b.length < 10000000) (he : bothE a b = 0) (hl : (lensW b).1 ≠ (lensW a).1) :
    Calls Tryd.prog 8 #[v1, v2, .bool first] w fun e w' => e = .returned (.tuple #[.slice none 0 0, errV (2)]) ∧ Below w.heap.size w w' := by
  have cB : Hid _ := checkBoth_any v1 v2 a b w hT h1 h2 w1 w2 l1 l2
  have hV : errV (bothE a b) = .nilIface := by unfold errV; rw [if_pos he]
  have hV2 : errV 2 = .iface 51 (.int .i64 2) := rfl
  rw [hV] at cB
  rw [hV2]
  have cL1 : Hid (∀ wx, Below w.heap.size w wx → Calls Tryd.prog 18 #[v1] wx fun e w' => e = .returned (.tuple #[.int .i64 (lensW a).1, .int .i64 (lensW a).2]) ∧ Below wx.heap.size wx w') := fun wx hb => Lens_any v1 a wx (opAt_grown h1 hb) l1
  have cL2 : Hid (∀ wx, Below w.heap.size w wx → Calls Tryd.prog 18 #[v2] wx fun e w' => e = .returned (.tuple #[.int .i64 (lensW b).1, .int .i64 (lensW b).2]) ∧ Below wx.heap.size wx w') := fun wx hb => Lens_any v2 b wx (opAt_grown h2 hb) l2
  generalize (lensW a).1 = A1 at *
  generalize (lensW a).2 = A2 at *
  generalize (lensW b).1 = B1 at *
  generalize (lensW b).2 = B2 at *
  obtain ⟨p1, c1, rfl, _⟩ := h1
  obtain ⟨p2, c2, rfl, _⟩ := h2
  clear hT w1 w2 hV hV2
  go_enter Tryd.func8, Tryd.ntmps8
  go_wp2_with (first
    | (have _ := HB2; go_at_call 18; refine (cL2.out _ HB2.out).mono ?_; rintro e w3 ⟨rfl, hb3⟩; have HB3 : Hid (Below w.heap.size w w3) := HB2.out.trans (hb3.mono HB2.out.size); clear hb3)
    | (go_at_call 18; refine (cL1.out _ HB1.out).mono ?_; rintro e w2 ⟨rfl, hb2⟩; have HB2 : Hid (Below w.heap.size w w2) := HB1.out.trans (hb2.mono HB1.out.size); clear hb2)
    | (go_at_call 17; refine Calls.mono cB.out ?_; rintro e w1 ⟨rfl, hb1⟩; have HB1 : Hid (Below w.heap.size w w1) := hb1; clear hb1)
    | fail)
  go_ret2
  exact ⟨rfl, HB3.out⟩
theorem trans_all (v1 v2 : Value) (first : Bool) (a b : List Pt) (w : World) (hT : Lib.Utf8Tabs 0 1 w) (h1 : opAt w v1 a) (h2 : opAt w v2 b) (w1 : ∀ p ∈ a, wfP p) (w2 : ∀ p ∈ b, wfP p) (l1 : a.length < 10000000) (l2 : b.length < 10000000) (hf : bothE a b = 0 → fineP a ∧ fineP b) :
    Calls Tryd.prog 8 #[v1, v2, .bool first] w fun e w' => ∃ v', e = .returned (.tuple #[v', errV (turnE a b)]) ∧ opAt w' v' (if turnE a b = 0 then tellP (transS first a b) else []) ∧ Below w.heap.size w w' := by
  have none : ∀ w', opAt w' (.slice none 0 0) [] := fun w' => ⟨none, 0, rfl, Nat.le_refl _, Nat.zero_le _, fun h => absurd rfl h⟩
  unfold turnE
  by_cases he : bothE a b = 0
  · obtain ⟨f1, f2⟩ := hf he
    rw [if_pos he]
    by_cases hl : (lensW b).1 = (lensW a).1
    · rw [if_pos hl, if_pos rfl]
      show Calls _ _ _ _ fun e w' => ∃ v', e = .returned (.tuple #[v', .nilIface]) ∧ _
      cases first with
      | true => exact (t1_fine v1 v2 a b w hT h1 h2 w1 w2 f1 f2 he hl)
      | false => exact (t2_fine v1 v2 a b w hT h1 h2 w1 w2 f1 f2 he hl)
    · rw [if_neg hl, if_neg (by decide)]
      exact (trans_len v1 v2 first a b w hT h1 h2 w1 w2 l1 l2 he hl).mono fun e w' h => ⟨_, h.1, none w', h.2⟩
  · rw [if_neg he, if_neg he]
    exact (trans_err v1 v2 first a b w hT h1 h2 w1 w2 l1 l2 he).mono fun e w' h => ⟨_, h.1, none w', h.2⟩

set_option maxRecDepth 100000 in
set_option maxHeartbeats 2000000 in
theorem comp_err (v1 v2 : Value) (a b : List Pt) (w : World) (hT : Lib.Utf8Tabs 0 1 w) (h1 : opAt w v1 a) (h2 : opAt w v2 b) (w1 : ∀ p ∈ a, wfP p) (w2 : ∀ p ∈ b, wfP p) (l1 : a.length < 10000000) (l2 : b.length < 10000000) (he : bothE a b ≠ 0) :
    Calls Tryd.prog 10 #[v1, v2] w fun e w' => e = .returned (.tuple #[.slice none 0 0, errV (bothE a b)]) ∧ Below w.heap.size w w' := by
  have cB : Hid _ := checkBoth_any v1 v2 a b w hT h1 h2 w1 w2 l1 l2
  have hV : errV (bothE a b) = .iface 51 (.int .i64 (bothE a b)) := by unfold errV; rw [if_neg he]
  rw [hV] at cB ⊢
  generalize bothE a b = E at *
  obtain ⟨p1, c1, rfl, _⟩ := h1
  obtain ⟨p2, c2, rfl, _⟩ := h2
  clear hT w1 w2 hV
  go_enter Tryd.func10, Tryd.ntmps10
  go_wp2_with (first
    | (go_at_call 17; refine Calls.mono cB.out ?_; rintro e w1 ⟨rfl, hb1⟩)
    | fail)
  go_ret2
  exact ⟨rfl, hb1⟩
set_option maxRecDepth 100000 in
set_option maxHeartbeats 2000000 in
theorem comp_len (v1 v2 : Value) (a b : List Pt) (w : World) (hT : Lib.Utf8Tabs 0 1 w) (h1 : opAt w v1 a) (h2 : opAt w v2 b) (w1 : ∀ p ∈ a, wfP p) (w2 : ∀ p ∈ b, wfP p) (l1 : a.length < 10000000) (l2 : b.length < 10000000) (he : bothE a b = 0) (hl : (lensW b).1 ≠ (lensW a).2) :
    Calls Tryd.prog 10 #[v1, v2] w fun e w' => e = .returned (.tuple #[.slice none 0 0, errV (2)]) ∧ Below w.heap.size w w' := by
  have cB : Hid _ := checkBoth_any v1 v2 a b w hT h1 h2 w1 w2 l1 l2
  have hV : errV (bothE a b) = .nilIface := by unfold errV; rw [if_pos he]
  have hV2 : errV 2 = .iface 51 (.int .i64 2) := rfl
  rw [hV] at cB
  rw [hV2]
  have cL1 : Hid (∀ wx, Below w.heap.size w wx → Calls Tryd.prog 18 #[v1] wx fun e w' => e = .returned (.tuple #[.int .i64 (lensW a).1, .int .i64 (lensW a).2]) ∧ Below wx.heap.size wx w') := fun wx hb => Lens_any v1 a wx (opAt_grown h1 hb) l1
  have cL2 : Hid (∀ wx, Below w.heap.size w wx → Calls Tryd.prog 18 #[v2] wx fun e w' => e = .returned (.tuple #[.int .i64 (lensW b).1, .int .i64 (lensW b).2]) ∧ Below wx.heap.size wx w') := fun wx hb => Lens_any v2 b wx (opAt_grown h2 hb) l2
  generalize (lensW a).1 = A1 at *
  generalize (lensW a).2 = A2 at *
  generalize (lensW b).1 = B1 at *
  generalize (lensW b).2 = B2 at *
  obtain ⟨p1, c1, rfl, _⟩ := h1
  obtain ⟨p2, c2, rfl, _⟩ := h2
  clear hT w1 w2 hV hV2
  go_enter Tryd.func10, Tryd.ntmps10
  go_wp2_with (first
    | (have _ := HB2; go_at_call 18; refine (cL2.out _ HB2.out).mono ?_; rintro e w3 ⟨rfl, hb3⟩; have HB3 : Hid (Below w.heap.size w w3) := HB2.out.trans (hb3.mono HB2.out.size); clear hb3)
    | (go_at_call 18; refine (cL1.out _ HB1.out).mono ?_; rintro e w2 ⟨rfl, hb2⟩; have HB2 : Hid (Below w.heap.size w w2) := HB1.out.trans (hb2.mono HB1.out.size); clear hb2)
    | (go_at_call 17; refine Calls.mono cB.out ?_; rintro e w1 ⟨rfl, hb1⟩; have HB1 : Hid (Below w.heap.size w w1) := hb1; clear hb1)
    | fail)
  go_ret2
  exact ⟨rfl, HB3.out⟩
theorem comp_all (v1 v2 : Value) (a b : List Pt) (w : World) (hT : Lib.Utf8Tabs 0 1 w) (h1 : opAt w v1 a) (h2 : opAt w v2 b) (w1 : ∀ p ∈ a, wfP p) (w2 : ∀ p ∈ b, wfP p) (l1 : a.length < 10000000) (l2 : b.length < 10000000) (hf : bothE a b = 0 → fineP a ∧ fineP b) :
    Calls Tryd.prog 10 #[v1, v2] w fun e w' => ∃ v', e = .returned (.tuple #[v', errV (compE a b)]) ∧ opAt w' v' (if compE a b = 0 then tellP (compS a b) else []) ∧ Below w.heap.size w w' := by
  have none : ∀ w', opAt w' (.slice none 0 0) [] := fun w' => ⟨none, 0, rfl, Nat.le_refl _, Nat.zero_le _, fun h => absurd rfl h⟩
  unfold compE
  by_cases he : bothE a b = 0
  · obtain ⟨f1, f2⟩ := hf he
    rw [if_pos he]
    by_cases hl : (lensW b).1 = (lensW a).2
    · rw [if_pos hl, if_pos rfl]
      show Calls _ _ _ _ fun e w' => ∃ v', e = .returned (.tuple #[v', .nilIface]) ∧ _
      exact (comp_fine v1 v2 a b w hT h1 h2 w1 w2 f1 f2 he hl)
    · rw [if_neg hl, if_neg (by decide)]
      exact (comp_len v1 v2 a b w hT h1 h2 w1 w2 l1 l2 he hl).mono fun e w' h => ⟨_, h.1, none w', h.2⟩
  · rw [if_neg he, if_neg he]
    exact (comp_err v1 v2 a b w hT h1 h2 w1 w2 l1 l2 he).mono fun e w' h => ⟨_, h.1, none w', h.2⟩

end Go.Proofs.YtedonckeomccpabDoor

namespace Go.Proofs.YtedonckeomccpabDoor
open Go.RowKit
set_option linter.unusedVariables false
attribute [local go_sem] Oper.semAt_some

/-- A row that is written out reads as its parts. -/
theorem opAt_lit {W : World} {g : Nat} {ps : List Pt} {t : TypeId} {fz : Nat × Nat} (h : W.heap[g]? = some (.cells (cellsP ps).toArray t fz)) (hl : ps.length ≤ maxLen) : opAt W (.slice (some ⟨g, 0, none⟩) ps.length ps.length) ps := by
  refine ⟨_, _, rfl, Nat.le_refl _, hl, fun _ => ⟨g, 0, rfl, heap_lt h, fun i q hi => ?_⟩⟩
  have hc := cellsP_get ps i q hi
  have key : ∀ j, j < 3 → W.cell? ⟨g, 0 + i * 3 + j, none⟩ = (partCells q)[j]? := fun j hj => by
    have := Lib.cell_of_heap h (0 + i * 3 + j)
    rw [this, Nat.zero_add, ← hc j hj]
    simp
  exact ⟨key 0 (by omega), key 1 (by omega), key 2 (by omega)⟩
def dA : List Pt := [⟨0, 0, [120]⟩, ⟨1, 0, []⟩]
def dB : List Pt := [⟨0, 0, [121, 122]⟩, ⟨1, 0, []⟩]
def d1 : List Pt := [⟨0, 0, [120]⟩, ⟨3, 0, []⟩]
def d2 : List Pt := [⟨2, 0, []⟩, ⟨0, 0, [120]⟩, ⟨1, 0, []⟩]
theorem d_true : turnE dA dB = 0 ∧ tellP (transS true dA dB) = d1 := by constructor <;> decide +kernel
theorem d_false : tellP (transS false dA dB) = d2 := by decide +kernel
theorem d_fine : fineP dA ∧ fineP dB := by
  constructor
  · refine ⟨?_, by decide, by decide⟩
    intro p hp
    simp only [dA, List.mem_cons, List.not_mem_nil, or_false] at hp
    rcases hp with rfl | rfl
    · exact .inr (.inr ⟨rfl, rfl, by simp⟩)
    · exact .inl ⟨by decide, rfl, rfl⟩
  · refine ⟨?_, by decide, by decide⟩
    intro p hp
    simp only [dB, List.mem_cons, List.not_mem_nil, or_false] at hp
    rcases hp with rfl | rfl
    · exact .inr (.inr ⟨rfl, rfl, by simp⟩)
    · exact .inl ⟨by decide, rfl, rfl⟩
theorem d_wf : (∀ p ∈ dA, wfP p) ∧ ∀ p ∈ dB, wfP p := by
  constructor <;> intro p hp <;> simp only [dA, dB, List.mem_cons, List.not_mem_nil, or_false] at hp <;> rcases hp with rfl | rfl <;> exact ⟨by decide, by decide, by decide, by decide, by decide⟩
theorem dtrans (F : Bool) (W : World) (hT : Lib.Utf8Tabs 0 1 W) (g1 g2 : Nat) (t : TypeId) (fz : Nat × Nat) (h1 : W.heap[g1]? = some (.cells #[.int .i64 0, .int .i64 0, .string ⟨#[120]⟩, .int .i64 1, .int .i64 0, .string ⟨#[]⟩] t fz)) (h2 : W.heap[g2]? = some (.cells #[.int .i64 0, .int .i64 0, .string ⟨#[121, 122]⟩, .int .i64 1, .int .i64 0, .string ⟨#[]⟩] t fz)) :
    Calls Tryd.prog 8 #[.slice (some ⟨g1, 0, none⟩) 2 2, .slice (some ⟨g2, 0, none⟩) 2 2, .bool F] W fun e w' => ∃ v', e = .returned (.tuple #[v', .nilIface]) ∧ opAt w' v' (if F then d1 else d2) ∧ Below W.heap.size W w' := by
  have o1 : opAt W (.slice (some ⟨g1, 0, none⟩) 2 2) dA := opAt_lit (ps := dA) h1 (by decide)
  have o2 : opAt W (.slice (some ⟨g2, 0, none⟩) 2 2) dB := opAt_lit (ps := dB) h2 (by decide)
  refine (trans_all _ _ F dA dB W hT o1 o2 d_wf.1 d_wf.2 (by decide) (by decide) fun _ => d_fine).mono fun e w' h => ?_
  obtain ⟨v', rfl, h1, h2⟩ := h
  rw [d_true.1, if_pos rfl] at h1
  refine ⟨v', by rw [d_true.1]; rfl, ?_, h2⟩
  cases F with
  | true => rw [d_true.2] at h1; exact h1
  | false => rw [d_false] at h1; exact h1

theorem two_rows (w : World) (A B : Obj) : ((w.alloc A).alloc B).heap[w.heap.size]? = some A ∧ ((w.alloc A).alloc B).heap[w.heap.size + 1]? = some B := by
  refine ⟨?_, ?_⟩
  · exact (heap_alloc_old _ _ (by simp)).trans (heap_alloc_new _ _)
  · have := heap_alloc_new (w.alloc A) B
    rwa [World.size_alloc] at this
theorem below_rows (w : World) (A B : Obj) : Below w.heap.size w ((w.alloc A).alloc B) := ((Below.refl _ w).alloc (Nat.le_refl _) A).alloc (by simp) B
set_option maxRecDepth 100000 in
set_option maxHeartbeats 8000000 in
theorem keepdone_any (w : World) (hT : Lib.Utf8Tabs 0 1 w) :
    Calls Tryd.prog 6 #[] w fun e w' => e = .returned (.bool true) ∧ Below w.heap.size w w' := by
  have HT : Hid _ := hT
  clear hT
  go_enter Tryd.func6, Tryd.ntmps6
  go_wp2_with (first
    | (have _ := HB1; go_at_call 8; refine (dtrans false _ (Go.Proofs.Utf8Tabs_below HT.out (HB1.out.trans ((below_rows w1 (.cells #[.int .i64 0, .int .i64 0, .string ⟨#[120]⟩, .int .i64 1, .int .i64 0, .string ⟨#[]⟩] 40) (.cells #[.int .i64 0, .int .i64 0, .string ⟨#[121, 122]⟩, .int .i64 1, .int .i64 0, .string ⟨#[]⟩] 40)).mono HB1.out.size))) w1.heap.size (w1.heap.size + 1) _ _ (two_rows w1 _ _).1 (two_rows w1 _ _).2).mono ?_; rintro e w2 ⟨v2, rfl, o2, hb2⟩; have hg := (below_rows w1 (.cells #[.int .i64 0, .int .i64 0, .string ⟨#[120]⟩, .int .i64 1, .int .i64 0, .string ⟨#[]⟩] 40) (.cells #[.int .i64 0, .int .i64 0, .string ⟨#[121, 122]⟩, .int .i64 1, .int .i64 0, .string ⟨#[]⟩] 40)).trans (hb2.mono (below_rows w1 (.cells #[.int .i64 0, .int .i64 0, .string ⟨#[120]⟩, .int .i64 1, .int .i64 0, .string ⟨#[]⟩] 40) (.cells #[.int .i64 0, .int .i64 0, .string ⟨#[121, 122]⟩, .int .i64 1, .int .i64 0, .string ⟨#[]⟩] 40)).size); have HB2 : Hid (Below w.heap.size w w2) := HB1.out.trans (hg.mono HB1.out.size); have HO2 : Hid (opAt w2 v2 d2) := o2; have HO12 : Hid (opAt w2 v1 d1) := opAt_grown HO1.out hg; clear hb2 o2 hg)
    | (go_at_call 8; refine (dtrans true _ (Go.Proofs.Utf8Tabs_below HT.out (below_rows w (.cells #[.int .i64 0, .int .i64 0, .string ⟨#[120]⟩, .int .i64 1, .int .i64 0, .string ⟨#[]⟩] 40) (.cells #[.int .i64 0, .int .i64 0, .string ⟨#[121, 122]⟩, .int .i64 1, .int .i64 0, .string ⟨#[]⟩] 40))) w.heap.size (w.heap.size + 1) _ _ (two_rows w _ _).1 (two_rows w _ _).2).mono ?_; rintro e w1 ⟨v1, rfl, o1, hb1⟩; have HB1 : Hid (Below w.heap.size w w1) := (below_rows w (.cells #[.int .i64 0, .int .i64 0, .string ⟨#[120]⟩, .int .i64 1, .int .i64 0, .string ⟨#[]⟩] 40) (.cells #[.int .i64 0, .int .i64 0, .string ⟨#[121, 122]⟩, .int .i64 1, .int .i64 0, .string ⟨#[]⟩] 40)).trans (hb1.mono (below_rows w (.cells #[.int .i64 0, .int .i64 0, .string ⟨#[120]⟩, .int .i64 1, .int .i64 0, .string ⟨#[]⟩] 40) (.cells #[.int .i64 0, .int .i64 0, .string ⟨#[121, 122]⟩, .int .i64 1, .int .i64 0, .string ⟨#[]⟩] 40)).size); have HO1 : Hid (opAt w1 v1 d1) := o1; clear hb1 o1)
    | (have _ := HB3; go_at_call 12; have hl : Below w3.heap.size w3 (w3.alloc (.cells #[.int .i64 2, .int .i64 0, .string ⟨#[]⟩, .int .i64 0, .int .i64 0, .string ⟨#[120]⟩, .int .i64 1, .int .i64 0, .string ⟨#[]⟩] 40)) := (Below.refl _ _).alloc (Nat.le_refl _) _; refine (Same_any _ _ d2 _ (opAt_grown HO23.out hl) (opAt_lit (ps := d2) (heap_alloc_new w3 (.cells #[.int .i64 2, .int .i64 0, .string ⟨#[]⟩, .int .i64 0, .int .i64 0, .string ⟨#[120]⟩, .int .i64 1, .int .i64 0, .string ⟨#[]⟩] 40)) (by decide)) (by decide)).mono ?_; rintro e w4 ⟨rfl, hb4⟩; have HB4 : Hid (Below w.heap.size w w4) := HB3.out.trans ((hl.trans (hb4.mono hl.size)).mono HB3.out.size); clear hl hb4)
    | (go_at_call 12; have hl : Below w2.heap.size w2 (w2.alloc (.cells #[.int .i64 0, .int .i64 0, .string ⟨#[120]⟩, .int .i64 3, .int .i64 0, .string ⟨#[]⟩] 40)) := (Below.refl _ _).alloc (Nat.le_refl _) _; refine (Same_any _ _ d1 _ (opAt_grown HO12.out hl) (opAt_lit (ps := d1) (heap_alloc_new w2 (.cells #[.int .i64 0, .int .i64 0, .string ⟨#[120]⟩, .int .i64 3, .int .i64 0, .string ⟨#[]⟩] 40)) (by decide)) (by decide)).mono ?_; rintro e w3 ⟨rfl, hb3⟩; have hg := hl.trans (hb3.mono hl.size); have HB3 : Hid (Below w.heap.size w w3) := HB2.out.trans (hg.mono HB2.out.size); have HO23 : Hid (opAt w3 v2 d2) := opAt_grown HO2.out hg; clear hl hb3 hg)
    | fail)
  go_ret
  exact ⟨rfl, HB4.out⟩
end Go.Proofs.YtedonckeomccpabDoor

namespace Go.Proofs.YtedonckeomccpabDoor
set_option linter.unusedVariables false

theorem put_cut (u : List UInt8) (j : Nat) (hj : j + 1 ≤ u.length) (ps : List Pt) (r : List UInt8) (h : Left (⟨0, 0, u⟩ :: ps) r) (hv : V (u.take (j + 1))) :
    (cutP ⟨0, 0, u⟩ ((j : Int) + 1)).1 = ⟨0, 0, u.take (j + 1)⟩ ∧ Left ((cutP ⟨0, 0, u⟩ ((j : Int) + 1)).2 ++ ps) r ∧ applyP (⟨0, 0, u⟩ :: ps) r = u.take (j + 1) ++ applyP ((cutP ⟨0, 0, u⟩ ((j : Int) + 1)).2 ++ ps) r ∧ weight ((cutP ⟨0, 0, u⟩ ((j : Int) + 1)).2 ++ ps) + (j + 1) = weight (⟨0, 0, u⟩ :: ps) := by
  obtain ⟨hl, hV⟩ := left_put h
  have h2 : ((j : Int) + 1).toNat = j + 1 := by omega
  have hw : weight (⟨0, 0, u⟩ :: ps) = u.length + weight ps := by rw [weight_cons, len_put]; omega
  rw [hw, apply_put]
  by_cases e : u.length = j + 1
  · have e1 : cutP ⟨0, 0, u⟩ ((j : Int) + 1) = (⟨0, 0, u⟩, []) := by unfold cutP; rw [if_pos (by rw [len_put]; omega)]
    rw [e1, List.take_of_length_le (by omega)]
    exact ⟨rfl, hl, rfl, by show weight ps + (j + 1) = _; omega⟩
  · have e1 : cutP ⟨0, 0, u⟩ ((j : Int) + 1) = (⟨0, 0, u.take (j + 1)⟩, [⟨0, 0, u.drop (j + 1)⟩]) := by
      unfold cutP
      rw [if_neg (by rw [len_put]; omega), if_neg (show ¬ 0 < (⟨0, 0, u⟩ : Pt).keep from Int.lt_irrefl 0), if_neg (show ¬ 0 < (⟨0, 0, u⟩ : Pt).drop from Int.lt_irrefl 0), h2]
    have e2 : u = u.take (j + 1) ++ u.drop (j + 1) := (List.take_append_drop _ _).symm
    have h3 : V (u.drop (j + 1)) := V_take hV hv
    have h4 : u.drop (j + 1) ≠ [] := fun e' => by have := congrArg List.length e'; rw [List.length_drop] at this; simp at this; omega
    rw [e1]
    refine ⟨rfl, ⟨?_, ?_, h3, ?_, ?_⟩, ?_, ?_⟩
    · intro p hp
      rcases List.mem_cons.1 hp with rfl | hp
      · exact .inr (.inr ⟨rfl, rfl, h4⟩)
      · exact hl.one p hp
    · have := hl.long
      simp only [List.cons_append, List.nil_append]
      rw [long_cons]
      show (0 : Int) + 0 + _ = _
      omega
    · show V (r.take 0); rw [List.take_zero]; exact V_nil
    · exact hl.al
    · show u ++ applyP ps r = u.take (j + 1) ++ applyP (⟨0, 0, u.drop (j + 1)⟩ :: ps) r
      rw [apply_put, ← List.append_assoc, ← e2]
    · show weight (⟨0, 0, u.drop (j + 1)⟩ :: ps) + (j + 1) = _
      rw [weight_cons, len_put, List.length_drop]; omega

theorem drop_unit (d : Bool) (n : Nat) : isDropP (unitK d (n + 1)) = d := by
  have h0 : (0 : Int) < ((n : Int) + 1) := by omega
  cases d <;> simp [isDropP, unitK, h0]
theorem keep_unit (d : Bool) (n : Nat) : isKeepP (unitK d (n + 1)) = !d := by
  have h0 : (0 : Int) < ((n : Int) + 1) := by omega
  cases d <;> simp [isKeepP, unitK, h0]

theorem comp_st : ∀ (f : Nat) (A B : List Pt) (r T D o : List UInt8) (s : NSt), Left A r → Left B (applyP A r) → weight A + weight B ≤ f → St T D r o s →
    St T T [] (o ++ applyP B (applyP A r)) (runS compP (sideP isDropP isPutP f A B) s) := by
  have base : ∀ (T D o : List UInt8) (s : NSt) (g : Nat), St T D [] o s → St T T [] (o ++ applyP [] (applyP [] [])) (runS compP (sideP isDropP isPutP g [] []) s) := by
    intro T D o s g h
    have e : sideP isDropP isPutP g [] [] = [] := by cases g <;> rfl
    rw [e]
    exact h.full.none
  have nil_of : ∀ {l : List Pt} {r : List UInt8}, Left l r → weight l = 0 → l = [] := by
    intro l r h hw
    cases l with
    | nil => rfl
    | cons p l => have := one_weight (h.one p (by simp)) l; omega
  intro f
  induction f with
  | zero =>
    intro A B r T D o s hA hB hw h
    obtain rfl := nil_of hA (by omega)
    obtain rfl := nil_of hB (by omega)
    obtain rfl := left_nil hA
    exact base T D o s 0 h
  | succ f ih =>
    intro A B r T D o s hA hB hw h
    have stepB : ∀ (v : List UInt8) (B' : List Pt), v ≠ [] → B = ⟨0, 0, v⟩ :: B' → sideP isDropP isPutP (f + 1) A B = (noP, ⟨0, 0, v⟩) :: sideP isDropP isPutP f A B' → St T T [] (o ++ applyP B (applyP A r)) (runS compP (sideP isDropP isPutP (f + 1) A B) s) := by
      intro v B' hv e es
      subst e
      obtain ⟨hB', hV⟩ := left_put hB
      have hw' := one_weight (hB.one ⟨0, 0, v⟩ (by simp)) B'
      rw [es, runS_cons, apply_put, ← List.append_assoc]
      refine ih A B' r T D (o ++ v) _ hA hB' (by omega) ?_
      have e : compP (noP, ⟨0, 0, v⟩) = [⟨0, 0, v⟩] := by simp [compP, isDropP, isKeepP, isPutP, noP, hv]
      rw [e]
      exact h.put hV
    cases A with
    | nil =>
      obtain rfl := left_nil hA
      cases B with
      | nil => exact base T D o s (f + 1) h
      | cons q B' =>
        rcases one_cases (hB.one q (by simp)) with ⟨v, hv, rfl⟩ | ⟨e, k, rfl⟩
        · exact stepB v B' hv rfl (by
            have h2 := put_isPut hv
            simp only [sideP, h2, if_true])
        · exact absurd hB left_unit_ne
    | cons p A' =>
      rcases one_cases (hA.one p (by simp)) with ⟨u, hu, rfl⟩ | ⟨d, m, rfl⟩
      · have hdu : isDropP ⟨0, 0, u⟩ = false := by simp [isDropP]
        cases B with
        | nil =>
          have := left_nil hB
          rw [apply_put] at this
          simp [hu] at this
        | cons q B' =>
          rcases one_cases (hB.one q (by simp)) with ⟨v, hv, rfl⟩ | ⟨e, k, rfl⟩
          · exact stepB v B' hv rfl (by
              have h2 := put_isPut hv
              simp only [sideP, hdu, h2, Bool.false_eq_true, if_false, if_true])
          · obtain ⟨m, hm⟩ : ∃ m, u.length = m + 1 := ⟨u.length - 1, by have := List.length_pos_iff.2 hu; omega⟩
            have hmin : min (lengthP ⟨0, 0, u⟩) (lengthP (unitK e (k + 1))) = ((min m k : Nat) : Int) + 1 := by rw [len_put, len_unit]; omega
            obtain ⟨j, hj⟩ : ∃ j, min m k = j := ⟨_, rfl⟩
            rw [hj] at hmin
            have hj1 : j ≤ m := by omega
            have hj2 : j ≤ k := by omega
            have huv := (left_put hA).2
            have hmid := apply_put u A' r
            have hv : V (u.take (j + 1)) := by
              have v2 := (left_cons hB).2.2.1
              rw [lenP_unit, hmid] at v2
              by_cases hc : m ≤ k
              · rw [List.take_of_length_le (by omega)]; exact huv
              · obtain rfl : k = j := by omega
                have e2 : ((k + 1 : Nat) : Int).toNat = k + 1 := by omega
                rw [e2, List.take_append_of_le_length (by omega)] at v2
                exact v2
            obtain ⟨c1, lA, aA, wA⟩ := put_cut u j (by omega) A' r hA hv
            have hx : (u.take (j + 1)).length = j + 1 := by rw [List.length_take]; omega
            have hvm : V ((applyP (⟨0, 0, u⟩ :: A') r).take (j + 1)) := by rw [aA, List.take_left' hx]; exact hv
            obtain ⟨lB, aB, _⟩ := unit_cut e k j hj2 B' _ hB hvm
            rw [aB]
            rw [aA, List.drop_left' hx, List.take_left' hx] at *
            have wB := cut_weight e k j hj2
            have es : sideP isDropP isPutP (f + 1) (⟨0, 0, u⟩ :: A') (unitK e (k + 1) :: B') = (⟨0, 0, u.take (j + 1)⟩, unitK e (j + 1)) :: sideP isDropP isPutP f ((cutP ⟨0, 0, u⟩ ((j : Int) + 1)).2 ++ A') ((cutP (unitK e (k + 1)) ((j : Int) + 1)).2 ++ B') := by
              have h2 := unit_isPut e (k + 1)
              simp only [sideP, hdu, h2, hmin, c1, (cut_unit e k j hj2).1, Bool.false_eq_true, if_false]
            have hw2 : weight ((cutP ⟨0, 0, u⟩ ((j : Int) + 1)).2 ++ A') + weight ((cutP (unitK e (k + 1)) ((j : Int) + 1)).2 ++ B') ≤ f := by
              rw [weight_append (cutP (unitK e (k + 1)) ((j : Int) + 1)).2, wB]
              rw [weight_cons (unitK e (k + 1)), len_unit] at hw
              omega
            rw [es, runS_cons, ← List.append_assoc]
            refine ih _ _ r T D _ _ lA lB hw2 ?_
            have hune : u.take (j + 1) ≠ [] := fun e' => by rw [e'] at hx; simp at hx
            cases e with
            | true =>
              have ec : compP (⟨0, 0, u.take (j + 1)⟩, unitK true (j + 1)) = [] := by
                have h1 := keep_unit true j
                have h2 := unit_isPut true (j + 1)
                simp [compP, isDropP, h2, isKeepP]
                simp [unitK]
              rw [ec, if_pos rfl]
              exact h.none
            | false =>
              have ec : compP (⟨0, 0, u.take (j + 1)⟩, unitK false (j + 1)) = [⟨0, 0, u.take (j + 1)⟩] := by
                have h1 := keep_unit false j
                simp [compP, h1]
              rw [ec, if_neg (by decide)]
              exact h.put hv
      · cases d with
        | true =>
          obtain ⟨lA, _, hv, hlen⟩ := left_cons hA
          rw [lenP_unit] at lA hv hlen
          have e2 : ((m + 1 : Nat) : Int).toNat = m + 1 := by omega
          rw [e2] at lA hv hlen
          have hap : applyP (unitK true (m + 1) :: A') r = applyP A' (r.drop (m + 1)) := by rw [apply_unit]; simp
          rw [hap] at hB ⊢
          have hw' := one_weight (hA.one (unitK true (m + 1)) (by simp)) A'
          have es : sideP isDropP isPutP (f + 1) (unitK true (m + 1) :: A') B = (unitK true (m + 1), noP) :: sideP isDropP isPutP f A' B := by
            have h1 := drop_unit true m
            cases B <;> simp only [sideP, h1, if_true]
          have ec : compP (unitK true (m + 1), noP) = [unitK true (m + 1)] := by
            have h1 := drop_unit true m
            simp [compP, h1]
          rw [es, runS_cons, ec]
          refine ih A' B (r.drop (m + 1)) T (D ++ r.take (m + 1)) o _ lA hB (by omega) ?_
          have h' : St T D (r.take (m + 1) ++ r.drop (m + 1)) o s := by rw [List.take_append_drop]; exact h
          have := h'.unit hv true (m + 1) (by rw [List.length_take]; omega)
          rw [if_pos rfl, List.append_nil] at this
          exact this
        | false =>
          cases B with
          | nil =>
            have := left_nil hB
            rw [apply_unit] at this
            have hlen := (left_cons hA).2.2.2
            rw [lenP_unit] at hlen
            have := congrArg List.length this
            rw [if_neg (by decide), List.length_append, List.length_take, List.length_nil] at this
            omega
          | cons q B' =>
            rcases one_cases (hB.one q (by simp)) with ⟨v, hv, rfl⟩ | ⟨e, k, rfl⟩
            · exact stepB v B' hv rfl (by
                have h1 := drop_unit false m
                have h2 := put_isPut hv
                simp only [sideP, h1, h2, Bool.false_eq_true, if_false, if_true])
            · have hmin : min (lengthP (unitK false (m + 1))) (lengthP (unitK e (k + 1))) = ((min m k : Nat) : Int) + 1 := by rw [len_unit, len_unit]; omega
              obtain ⟨j, hj⟩ : ∃ j, min m k = j := ⟨_, rfl⟩
              rw [hj] at hmin
              have hj1 : j ≤ m := by omega
              have hj2 : j ≤ k := by omega
              have hlenA := (left_cons hA).2.2.2
              rw [lenP_unit] at hlenA
              have hv : V (r.take (j + 1)) := by
                have v1 := (left_cons hA).2.2.1
                have v2 := (left_cons hB).2.2.1
                rw [lenP_unit] at v1 v2
                by_cases hc : m ≤ k
                · obtain rfl : m = j := by omega
                  exact v1
                · obtain rfl : k = j := by omega
                  have e2 : ((k + 1 : Nat) : Int).toNat = k + 1 := by omega
                  rw [e2, apply_unit, if_neg (by decide), List.take_append_of_le_length (by rw [List.length_take]; omega), List.take_take, show min (k + 1) (m + 1) = k + 1 by omega] at v2
                  exact v2
              obtain ⟨lA, aA, hlen⟩ := unit_cut false m j hj1 A' r hA hv
              rw [if_neg (by decide)] at aA
              have hx : (r.take (j + 1)).length = j + 1 := by rw [List.length_take]; omega
              have hvm : V ((applyP (unitK false (m + 1) :: A') r).take (j + 1)) := by rw [aA, List.take_left' hx]; exact hv
              obtain ⟨lB, aB, _⟩ := unit_cut e k j hj2 B' _ hB hvm
              rw [aB]
              rw [aA, List.drop_left' hx, List.take_left' hx] at *
              have wA := cut_weight false m j hj1
              have wB := cut_weight e k j hj2
              have es : sideP isDropP isPutP (f + 1) (unitK false (m + 1) :: A') (unitK e (k + 1) :: B') = (unitK false (j + 1), unitK e (j + 1)) :: sideP isDropP isPutP f ((cutP (unitK false (m + 1)) ((j : Int) + 1)).2 ++ A') ((cutP (unitK e (k + 1)) ((j : Int) + 1)).2 ++ B') := by
                have h1 := drop_unit false m
                have h2 := unit_isPut e (k + 1)
                simp only [sideP, h1, h2, hmin, (cut_unit false m j hj1).1, (cut_unit e k j hj2).1, Bool.false_eq_true, if_false]
              have hw2 : weight ((cutP (unitK false (m + 1)) ((j : Int) + 1)).2 ++ A') + weight ((cutP (unitK e (k + 1)) ((j : Int) + 1)).2 ++ B') ≤ f := by
                rw [weight_append, weight_append, wA, wB]
                rw [weight_cons, weight_cons, len_unit, len_unit] at hw
                omega
              rw [es, runS_cons, ← List.append_assoc]
              refine ih _ _ (r.drop (j + 1)) T (D ++ r.take (j + 1)) _ _ lA lB hw2 ?_
              have ec : compP (unitK false (j + 1), unitK e (j + 1)) = [unitK e (j + 1)] := by
                have h1 := keep_unit e j
                have h2 := keep_unit false j
                have h3 := drop_unit false j
                cases e <;> simp [compP, h1, h2, h3]
              rw [ec]
              have h' : St T D (r.take (j + 1) ++ r.drop (j + 1)) o s := by rw [List.take_append_drop]; exact h
              exact h'.unit hv e (j + 1) hx

/-- What Compose tells, and what it makes. -/
theorem good_comp {a b : List Pt} {t : List UInt8} (ha : good a t) (hb : good b (applyP a t)) :
    good (tellP (compS a b)) t ∧ applyP (tellP (compS a b)) t = applyP b (applyP a t) := by
  have na := ha.norm
  have nb := hb.norm
  have la : Left (normP a) t := ⟨na.one, na.long, na.al⟩
  have ea := apply_norm ha.one t
  have eb := apply_norm hb.one (applyP a t)
  have lb : Left (normP b) (applyP (normP a) t) := by rw [ea]; exact ⟨nb.one, nb.long, nb.al⟩
  have := (comp_st _ (normP a) (normP b) t t [] [] nst0 la lb (Nat.le_refl _) (St0 t)).good
  rw [List.nil_append, ea, eb] at this
  exact this

theorem inv_left : ∀ (ps : List Pt) (t : List UInt8), Left ps t → Left ((pcs ps t).map invP) (applyP ps t) ∧ applyP ((pcs ps t).map invP) (applyP ps t) = t
  | [], t, h => by
    obtain rfl := left_nil h
    exact ⟨⟨by simp [pcs], by simp [pcs, longP, applyP], trivial⟩, rfl⟩
  | p :: ps, t, h => by
    obtain ⟨hl, hp, hv, hlen⟩ := left_cons h
    obtain ⟨ih1, ih2⟩ := inv_left ps _ hl
    have e : (pcs (p :: ps) t).map invP = invP (p, t.take (lenP p).toNat) :: (pcs ps (t.drop (lenP p).toNat)).map invP := rfl
    rw [e]
    rcases one_cases (h.one p (by simp)) with ⟨u, hu, rfl⟩ | ⟨d, m, rfl⟩
    · have ei : ∀ x, invP (⟨0, 0, u⟩, x) = unitK true u.length := fun x => by simp [invP, unitK]
      obtain ⟨m, hm⟩ : ∃ m, u.length = m + 1 := ⟨u.length - 1, by have := List.length_pos_iff.2 hu; omega⟩
      have e0 : (lenP (⟨0, 0, u⟩ : Pt)).toNat = 0 := rfl
      rw [ei, apply_put, hm]
      rw [e0, List.drop_zero] at ih1 ih2 ⊢
      have e2 : ((m + 1 : Nat) : Int).toNat = m + 1 := by omega
      refine ⟨⟨?_, ?_, V_nil, ?_, ?_⟩, ?_⟩
      · intro p hp
        rcases List.mem_cons.1 hp with rfl | hp
        · exact one_unit true m
        · exact ih1.one p hp
      · rw [long_cons, lenP_unit, ih1.long, List.length_append, hm]; push_cast; rfl
      · rw [lenP_unit, e2, List.take_left' hm]; exact hp
      · rw [lenP_unit, e2, List.drop_left' hm]; exact ih1.al
      · rw [apply_unit, if_pos rfl, List.nil_append, List.drop_left' hm]; exact ih2
    · rw [lenP_unit] at hl hv hlen ih1 ih2 ⊢
      have e2 : ((m + 1 : Nat) : Int).toNat = m + 1 := by omega
      rw [e2] at hl hv hlen ih1 ih2 ⊢
      have hx : (t.take (m + 1)).length = m + 1 := by rw [List.length_take]; omega
      cases d with
      | true =>
        have ei : invP (unitK true (m + 1), t.take (m + 1)) = ⟨0, 0, t.take (m + 1)⟩ := by
          have h0 : (0 : Int) < ((m : Int) + 1) := by omega
          simp [invP, unitK, h0]
        rw [ei, apply_unit, if_pos rfl, List.nil_append]
        refine ⟨⟨?_, ?_, hv, ?_, ?_⟩, ?_⟩
        · intro p hp
          rcases List.mem_cons.1 hp with rfl | hp
          · exact .inr (.inr ⟨rfl, rfl, fun e' => by have e' : t.take (m + 1) = [] := e'; rw [e'] at hx; simp at hx⟩)
          · exact ih1.one p hp
        · rw [long_cons, ih1.long]; simp [lenP]
        · show V (List.take 0 _); rw [List.take_zero]; exact V_nil
        · exact ih1.al
        · rw [apply_put, ih2, List.take_append_drop]
      | false =>
        have ei : invP (unitK false (m + 1), t.take (m + 1)) = unitK false (m + 1) := by
          have h0 : (0 : Int) < ((m : Int) + 1) := by omega
          simp [invP, unitK, h0]
        rw [ei, apply_unit, if_neg (by decide)]
        refine ⟨⟨?_, ?_, V_nil, ?_, ?_⟩, ?_⟩
        · intro p hp
          rcases List.mem_cons.1 hp with rfl | hp
          · exact one_unit false m
          · exact ih1.one p hp
        · rw [long_cons, lenP_unit, ih1.long, List.length_append, hx]; push_cast; rfl
        · rw [lenP_unit, e2, List.take_left' hx]; exact hv
        · rw [lenP_unit, e2, List.drop_left' hx]; exact ih1.al
        · rw [apply_unit, if_neg (by decide), List.take_left' hx, List.drop_left' hx, ih2, List.take_append_drop]
/-- What is taken back was not done. -/
theorem good_inv {ps : List Pt} {t : List UInt8} (h : good ps t) : good (invertP ps t) (applyP ps t) ∧ applyP (invertP ps t) (applyP ps t) = t := by
  obtain ⟨h1, h2⟩ := inv_left ps t ⟨h.one, h.long, h.al⟩
  exact ⟨h1.good.norm, by unfold invertP; rw [apply_norm h1.one, h2]⟩
end Go.Proofs.YtedonckeomccpabDoor

namespace Go.Proofs.YtedonckeomccpabDoor
set_option linter.unusedVariables false

def runC {X : Type} (act : X → Pt → X) (n : Int) : List Cel → Int → X → X
  | [], pos, x => act x ⟨0, n - pos, []⟩
  | (i, c) :: E, pos, x => if i < 0 then runC act n E pos (act x ⟨0, 0, [c]⟩) else runC act n E (i + 1) (act (act x ⟨0, i - pos, []⟩) ⟨1, 0, []⟩)
theorem act_den {X : Type} {act : X → Pt → X} (h : ActP act) (n : Int) : ∀ (E : List Cel) (pos : Int) (s : NSt) (x : X), OneS s → okC n E pos → (tellP (denC n E pos s)).foldl act x = runC act n E pos ((tellP s).foldl act x)
  | [], pos, s, x, h1, hk => by
    have hk : pos ≤ n := hk
    rw [denC, runC, act_add h s _ h1.drop (Int.le_refl _) (by show 0 ≤ n - pos; omega)]
  | (i, c) :: E, pos, s, x, h1, hk => by
    rw [denC, runC]
    rw [okC] at hk
    split
    · rename_i hi
      rw [if_pos hi] at hk
      rw [act_den h n E pos _ x (add_one h1 _ (Int.le_refl _) (Int.le_refl _)) hk, act_add h s _ h1.drop (Int.le_refl _) (Int.le_refl _)]
    · rename_i hi
      rw [if_neg hi] at hk
      have h2 := add_one h1 ⟨0, i - pos, []⟩ (Int.le_refl _) (by show 0 ≤ i - pos; omega)
      have h3 := add_one h2 ⟨1, 0, []⟩ (by decide) (Int.le_refl _)
      rw [act_den h n E (i + 1) _ x h3 hk.2.2, act_add h _ ⟨1, 0, []⟩ h2.drop (by decide) (Int.le_refl _), act_add h s _ h1.drop (Int.le_refl _) (by show 0 ≤ i - pos; omega)]

/-- Cells as they are written: put, or of the text. -/
def niceC (x : Cel) : Prop := (x.1 < 0 → x.1 = -1) ∧ (0 ≤ x.1 → x.2 = 0)
theorem nice_put (u : List UInt8) : ∀ x ∈ putC u, niceC x := by
  intro x hx
  obtain ⟨c, _, rfl⟩ := List.mem_map.1 hx
  exact ⟨fun _ => rfl, fun h => by simp at h⟩
theorem nice_from : ∀ (k : Nat) (i : Int), 0 ≤ i → ∀ x ∈ fromC i k, niceC x
  | 0, i, _, x, hx => by cases hx
  | k + 1, i, h, x, hx => by
    rcases List.mem_cons.1 hx with rfl | hx
    · exact ⟨fun h' => by have h' : i < 0 := h'; omega, fun _ => rfl⟩
    · exact nice_from k (i + 1) (by omega) x hx
theorem nice_mid : ∀ (ps : List Pt) (i : Int), 0 ≤ i → (∀ p ∈ ps, 0 ≤ p.keep ∧ 0 ≤ p.drop) → ∀ x ∈ midP i ps, niceC x
  | [], i, _, _, x, hx => by cases hx
  | p :: ps, i, h, h1, x, hx => by
    have h2 := h1 p (by simp)
    rcases List.mem_append.1 hx with hx | hx
    · exact nice_from _ i h x hx
    · rcases List.mem_append.1 hx with hx | hx
      · exact nice_put _ x hx
      · exact nice_mid ps _ (by omega) (fun q hq => h1 q (by simp [hq])) x hx
theorem nice_end : ∀ (ps : List Pt) (M : List Cel), (∀ x ∈ M, niceC x) → ∀ x ∈ endP M ps, niceC x
  | [], M, _, x, hx => by cases hx
  | p :: ps, M, h, x, hx => by
    rcases List.mem_append.1 hx with hx | hx
    · exact h x (List.mem_of_mem_take hx)
    · rcases List.mem_append.1 hx with hx | hx
      · exact nice_put _ x hx
      · exact nice_end ps _ (fun y hy => h y (List.mem_of_mem_drop hy)) x hx

theorem runM (n : Int) : ∀ (E : List Cel) (pos : Int) (l : List Cel), (∀ x ∈ E, niceC x) → (runC actM n E pos (l, pos)).1 = l ++ E
  | [], pos, l, _ => by simp [runC, actM, putC, fromC]
  | (i, c) :: E, pos, l, h => by
    have hx := h (i, c) (by simp)
    have ht : ∀ x ∈ E, niceC x := fun x hx => h x (by simp [hx])
    rw [runC]
    split
    · rename_i hi
      obtain rfl : i = -1 := hx.1 hi
      have e : actM (l, pos) ⟨0, 0, [c]⟩ = (l ++ [(-1, c)], pos) := by simp [actM, putC, fromC]
      rw [e, runM n E pos _ ht]; simp
    · rename_i hi
      have hc : c = 0 := hx.2 (by show 0 ≤ i; omega)
      subst hc
      have e : actM (actM (l, pos) ⟨0, i - pos, []⟩) ⟨1, 0, []⟩ = (l ++ [(i, 0)], i + 1) := by
        have : pos + (i - pos) = i := by omega
        simp [actM, putC, fromC, this]
      rw [e, runM n E (i + 1) _ ht]; simp
/-- What stands in a cell's stead. -/
def subC (M : List Cel) (x : Cel) : Cel := if x.1 < 0 then (-1, x.2) else M[x.1.toNat]?.getD (-1, 0)
theorem runE (n : Int) (M : List Cel) (hM : (M.length : Int) = n) : ∀ (E : List Cel) (pos : Int) (l : List Cel), 0 ≤ pos → okC n E pos → (runC actE n E pos (l, M.drop pos.toNat)).1 = l ++ E.map (subC M)
  | [], pos, l, _, _ => by simp [runC, actE, putC]
  | (i, c) :: E, pos, l, h0, hk => by
    rw [okC] at hk
    rw [runC]
    split
    · rename_i hi
      rw [if_pos hi] at hk
      have e : actE (l, M.drop pos.toNat) ⟨0, 0, [c]⟩ = (l ++ [(-1, c)], M.drop pos.toNat) := by simp [actE, putC]
      have es : subC M (i, c) = (-1, c) := by unfold subC; rw [if_pos hi]
      rw [e, runE n M hM E pos _ h0 hk, List.map_cons, es]; simp
    · rename_i hi
      rw [if_neg hi] at hk
      obtain ⟨k1, k2, k3⟩ := hk
      have hlt : i.toNat < M.length := by omega
      have es : subC M (i, c) = M[i.toNat] := by unfold subC; rw [if_neg hi]; simp [List.getElem?_eq_getElem hlt]
      have e1 : (M.drop pos.toNat).drop (i - pos).toNat = M.drop i.toNat := by rw [List.drop_drop]; congr 1; omega
      have e2 : M.drop i.toNat = M[i.toNat] :: M.drop (i + 1).toNat := by rw [List.drop_eq_getElem_cons hlt]; congr 2; omega
      have e : actE (actE (l, M.drop pos.toNat) ⟨0, i - pos, []⟩) ⟨1, 0, []⟩ = (l ++ [M[i.toNat]], M.drop (i + 1).toNat) := by
        simp only [actE, putC, List.map_nil, List.nil_append, Int.toNat_zero, List.take_zero, List.append_nil, List.drop_zero, e1]
        rw [e2]
        have h1 : (1 : Int).toNat = 1 := rfl
        simp [h1]
      rw [e, runE n M hM E (i + 1) _ (by omega) k3, List.map_cons, es]; simp

theorem apply_len : ∀ (ps : List Pt) (t : List UInt8), Left ps t → ((applyP ps t).length : Int) = (ps.map isP).sum
  | [], t, _ => rfl
  | p :: ps, t, h => by
    obtain ⟨hl, _, _, hlen⟩ := left_cons h
    have ih := apply_len ps _ hl
    rw [List.map_cons, List.sum_cons, ← ih]
    rcases one_cases (h.one p (by simp)) with ⟨u, hu, rfl⟩ | ⟨d, m, rfl⟩
    · rw [apply_put, List.length_append]; simp [isP, lenP]
    · rw [lenP_unit] at hlen ⊢
      have e2 : ((m + 1 : Nat) : Int).toNat = m + 1 := by omega
      rw [e2] at hlen ⊢
      rw [apply_unit, List.length_append]
      cases d with
      | true => simp [isP, unitK]
      | false =>
        rw [if_neg (by decide), List.length_take]
        simp only [isP, unitK, List.length_nil, Bool.false_eq_true, if_false]
        omega
theorem good.left {ps : List Pt} {t : List UInt8} (h : good ps t) : Left ps t := ⟨h.one, h.long, h.al⟩

/-- Compose as cells. -/
theorem comp_cells {a b : List Pt} {t : List UInt8} (ha : good a t) (hb : good b (applyP a t)) : compS a b = denC t.length (endP (midP 0 a) b) 0 nst0 ∧ okC t.length (endP (midP 0 a) b) 0 ∧ ((midP 0 a).length : Int) = (applyP a t).length := by
  have na := ha.norm
  have nb := hb.norm
  have ml := mid_len a 0 fun p hp => (ones_sound ha.one p hp).1
  have al := apply_len a t ha.left
  have mn := mid_norm a ha.one
  have en := end_norm b hb.one (midP 0 a)
  have h1 := comp_side (t.length : Int) (weight (normP a) + weight (normP b)) (normP a) (normP b) 0 nst0 na.one nb.one (Int.le_refl _) (by rw [mn, nb.long, ml, ← al]) (by rw [na.long, Int.zero_add]) (Nat.le_refl _)
  rw [mn, en] at h1
  refine ⟨h1, ok_ends _ b _ 0 (ones_sound hb.one) (ok_mid _ a 0 ha.one (Int.le_refl _) (by rw [ha.long, Int.zero_add])), by rw [ml, ← al]⟩
theorem comp_mid {a b : List Pt} {t : List UInt8} (ha : good a t) (hb : good b (applyP a t)) : midP 0 (tellP (compS a b)) = endP (midP 0 a) b := by
  obtain ⟨e, hk, _⟩ := comp_cells ha hb
  have hg := (good_comp ha hb).1
  have h1 := actM_mid _ hg.one [] 0
  rw [e] at h1 ⊢
  rw [act_den actM_ok _ _ 0 nst0 ([], 0) ⟨by simp [nst0], by simp [nst0]⟩ hk] at h1
  have h2 := congrArg Prod.fst h1
  rw [show ((tellP nst0).foldl actM ([], 0)) = ([], 0) from rfl, runM _ _ 0 [] (nice_end b _ (nice_mid a 0 (Int.le_refl _) (ones_sound ha.one)))] at h2
  simpa using h2.symm
theorem comp_end {a b : List Pt} {t : List UInt8} (ha : good a t) (hb : good b (applyP a t)) (M : List Cel) (hM : M.length = t.length) : endP M (tellP (compS a b)) = (endP (midP 0 a) b).map (subC M) := by
  obtain ⟨e, hk, _⟩ := comp_cells ha hb
  have hg := (good_comp ha hb).1
  have h1 := actE_end _ hg.one [] M
  rw [e] at h1 ⊢
  rw [act_den actE_ok _ _ 0 nst0 ([], M) ⟨by simp [nst0], by simp [nst0]⟩ hk] at h1
  have h2 := runE (t.length : Int) M (by rw [hM]) (endP (midP 0 a) b) 0 [] (Int.le_refl _) hk
  rw [show ((tellP nst0).foldl actE ([], M)) = ([], M) from rfl] at h1
  rw [Int.toNat_zero, List.drop_zero] at h2
  rw [h2] at h1
  simpa using h1.symm
theorem sub_put (M : List Cel) (u : List UInt8) : (putC u).map (subC M) = putC u := by
  unfold putC
  rw [List.map_map]
  congr 1
theorem end_map (M : List Cel) : ∀ (ps : List Pt) (E : List Cel), (endP E ps).map (subC M) = endP (E.map (subC M)) ps
  | [], E => rfl
  | p :: ps, E => by
    rw [endP, endP, List.map_append, List.map_append, sub_put, end_map M ps, List.map_take, List.map_drop]
theorem sub_from (M : List Cel) : ∀ (k : Nat) (i : Int), 0 ≤ i → i + k ≤ M.length → (fromC i k).map (subC M) = (M.drop i.toNat).take k
  | 0, i, _, _ => by simp [fromC]
  | k + 1, i, h, h1 => by
    have hlt : i.toNat < M.length := by omega
    have es : subC M (i, 0) = M[i.toNat] := by unfold subC; rw [if_neg (by show ¬ i < 0; omega)]; simp [List.getElem?_eq_getElem hlt]
    rw [fromC, List.map_cons, es, sub_from M k (i + 1) (by omega) (by omega), List.drop_eq_getElem_cons hlt, List.take_succ_cons]
    congr 3
    omega
theorem mid_sub (M : List Cel) : ∀ (ps : List Pt) (i : Int), 0 ≤ i → (∀ p ∈ ps, oneP p) → i + longP ps ≤ M.length → (midP i ps).map (subC M) = endP (M.drop i.toNat) ps
  | [], i, _, _, _ => rfl
  | p :: ps, i, h, h1, h2 => by
    have h3 := long_pos fun q hq => h1 q (List.mem_cons_of_mem _ hq)
    have h4 := ones_sound h1 p (by simp)
    rw [long_cons] at h2
    have e : lenP p = p.keep + p.drop := rfl
    rw [midP, endP, List.map_append, List.map_append, sub_put, sub_from M _ i h (by omega), mid_sub M ps _ (by omega) (fun q hq => h1 q (by simp [hq])) (by omega), List.drop_drop]
    congr 4
    omega
/-- Three in one, in whichever order. -/
theorem comp_three {x y z : List Pt} {t : List UInt8} (hx : good x t) (hy : good y (applyP x t)) (hz : good z (applyP y (applyP x t))) :
    tellP (compS (tellP (compS x y)) z) = tellP (compS x (tellP (compS y z))) := by
  have gxy := good_comp hx hy
  have gyz := good_comp hy hz
  have e1 := (comp_cells gxy.1 (by rw [gxy.2]; exact hz)).1
  have e2 := (comp_cells hx gyz.1).1
  have hM := (comp_cells hx hy).2.2
  have hM' : (midP 0 x).length = (applyP x t).length := by omega
  rw [comp_mid hx hy] at e1
  rw [comp_end hy hz _ hM', end_map, mid_sub _ y 0 (Int.le_refl _) hy.one (by rw [hy.long]; omega), Int.toNat_zero, List.drop_zero] at e2
  rw [e1, e2]

/-- Which bytes an operation drops. -/
def flagsP : List Pt → List Bool
  | [] => []
  | p :: ps => List.replicate p.drop.toNat true ++ (List.replicate p.keep.toNat false ++ flagsP ps)
theorem flags_append : ∀ (a b : List Pt), flagsP (a ++ b) = flagsP a ++ flagsP b
  | [], b => rfl
  | p :: a, b => by rw [List.cons_append, flagsP, flagsP, flags_append a b]; simp
def actF (x : List Bool) (p : Pt) : List Bool := x ++ (List.replicate p.drop.toNat true ++ List.replicate p.keep.toNat false)
theorem actF_ok : ActP actF := by
  constructor
  · intro x; simp [actF]
  · intro x u v; simp [actF]
  · intro x a b ha hb
    simp only [actF, Int.toNat_zero, List.replicate_zero, List.append_nil, List.append_assoc]
    rw [show (a + b).toNat = a.toNat + b.toNat by omega, ← List.replicate_append_replicate]
  · intro x a b ha hb
    simp only [actF, Int.toNat_zero, List.replicate_zero, List.nil_append, List.append_assoc]
    rw [show (a + b).toNat = a.toNat + b.toNat by omega, ← List.replicate_append_replicate]
  · intro x k d u; simp [actF]
  · intro x d u; simp [actF]
theorem actF_flags : ∀ (ps : List Pt) (x : List Bool), ps.foldl actF x = x ++ flagsP ps
  | [], x => by simp [flagsP]
  | p :: ps, x => by rw [List.foldl_cons, actF_flags ps, actF, flagsP]; simp
theorem flags_norm {ps : List Pt} (h : ∀ p ∈ ps, 0 ≤ p.keep ∧ 0 ≤ p.drop) : flagsP (normP ps) = flagsP ps := by
  have e := act_norm actF_ok ps h []
  rw [actF_flags, actF_flags] at e
  simpa using e
theorem puts_norm {ps : List Pt} (h : ∀ p ∈ ps, 0 ≤ p.keep ∧ 0 ≤ p.drop) : putsP (normP ps) = putsP ps := by
  have ok : ActP (fun (x : Nat) (p : Pt) => x + p.put.length) := by
    constructor
    · intro x; simp
    · intro x u v; simp; omega
    · intro x a b _ _; simp
    · intro x a b _ _; simp
    · intro x k d u; simp
    · intro x d u; simp
  have key : ∀ (l : List Pt) (x : Nat), l.foldl (fun x p => x + p.put.length) x = x + putsP l := by
    intro l
    induction l with
    | nil => intro x; simp [putsP]
    | cons p l ih => intro x; rw [List.foldl_cons, ih]; simp [putsP]; omega
  have e := act_norm ok ps h 0
  rw [key, key] at e
  omega
theorem flags_unit (d : Bool) (n : Nat) (ps : List Pt) : flagsP (unitK d n :: ps) = List.replicate n d ++ flagsP ps := by
  cases d <;> simp [flagsP, unitK]
theorem flags_put (u : List UInt8) (ps : List Pt) : flagsP (⟨0, 0, u⟩ :: ps) = flagsP ps := by simp [flagsP]
theorem puts_cons (p : Pt) (ps : List Pt) : putsP (p :: ps) = p.put.length + putsP ps := by simp [putsP]
theorem puts_append (a b : List Pt) : putsP (a ++ b) = putsP a + putsP b := by simp [putsP]
/-- How much is made: what is put and what is kept. -/
theorem apply_len2 : ∀ (ps : List Pt) (t : List UInt8), Left ps t → (applyP ps t).length = putsP ps + (flagsP ps).count false
  | [], t, _ => rfl
  | p :: ps, t, h => by
    obtain ⟨hl, _, _, hlen⟩ := left_cons h
    have ih := apply_len2 ps _ hl
    rcases one_cases (h.one p (by simp)) with ⟨u, hu, rfl⟩ | ⟨d, m, rfl⟩
    · have e0 : (lenP (⟨0, 0, u⟩ : Pt)).toNat = 0 := rfl
      rw [e0, List.drop_zero] at ih
      rw [apply_put, flags_put, puts_cons, List.length_append, ih]
      show u.length + _ = u.length + _ + _
      omega
    · rw [lenP_unit] at hlen ih
      have e2 : ((m + 1 : Nat) : Int).toNat = m + 1 := by omega
      rw [e2] at hlen ih
      rw [apply_unit, flags_unit, puts_cons, put_unit, List.length_append, List.count_append, ih]
      cases d with
      | true => simp [List.count_replicate]
      | false =>
        rw [if_neg (by decide), List.length_take, List.count_replicate]
        simp
        omega
/-- Whether a cell's byte is dropped. -/
def dflC (F : List Bool) (x : Cel) : Bool := if x.1 < 0 then false else F[x.1.toNat]?.getD false
theorem dfl_put (F : List Bool) (u : List UInt8) : (putC u).map (dflC F) = List.replicate u.length false := by
  unfold putC
  rw [List.map_map]
  induction u with
  | nil => rfl
  | cons c u ih => rw [List.map_cons, ih]; rfl
theorem dfl_from (F : List Bool) (d : Bool) (rest : List Bool) : ∀ (k i : Nat), F.drop i = List.replicate k d ++ rest → (fromC i k).map (dflC F) = List.replicate k d
  | 0, i, _ => rfl
  | k + 1, i, h => by
    have h1 : F[i]? = some d := by
      have : (F.drop i)[0]? = some d := by rw [h]; simp [List.replicate_succ]
      rw [List.getElem?_drop, Nat.add_zero] at this
      exact this
    have h2 : F.drop (i + 1) = List.replicate k d ++ rest := by
      have := congrArg (List.drop 1) h
      rw [List.drop_drop, List.replicate_succ, List.cons_append, List.drop_succ_cons, List.drop_zero] at this
      exact this
    have e : dflC F ((i : Int), 0) = d := by unfold dflC; rw [if_neg (by show ¬ (i : Int) < 0; omega)]; simp [h1]
    have ih := dfl_from F d rest k (i + 1) h2
    rw [fromC, List.map_cons, e, List.replicate_succ]
    congr 1
theorem unit_cut2 (d : Bool) (m j : Nat) (hj : j ≤ m) (ps : List Pt) (i : Int) :
    flagsP (unitK d (m + 1) :: ps) = List.replicate (j + 1) d ++ flagsP ((cutP (unitK d (m + 1)) ((j : Int) + 1)).2 ++ ps) ∧ putsP ((cutP (unitK d (m + 1)) ((j : Int) + 1)).2 ++ ps) = putsP ps ∧
    midP i (unitK d (m + 1) :: ps) = (if d then [] else fromC i (j + 1)) ++ midP (i + (j + 1 : Nat)) ((cutP (unitK d (m + 1)) ((j : Int) + 1)).2 ++ ps) := by
  have hmu : ∀ (d : Bool) (n : Nat) (i : Int) (ps : List Pt), midP i (unitK d n :: ps) = (if d then [] else fromC i n) ++ midP (i + n) ps := by
    intro d n i ps
    cases d
    · simp [midP, unitK, putC]
    · simp [midP, unitK, putC, fromC]
  rcases cut2_unit d m j hj with ⟨rfl, e⟩ | ⟨k, rfl, e⟩
  · rw [e, List.nil_append, flags_unit, hmu]
    exact ⟨rfl, rfl, rfl⟩
  · rw [e]
    have e1 : j + k + 1 + 1 = (j + 1) + (k + 1) := by omega
    refine ⟨?_, ?_, ?_⟩
    · show _ = _ ++ flagsP (unitK d (k + 1) :: ps)
      rw [flags_unit, flags_unit, ← List.append_assoc, e1, List.replicate_append_replicate]
    · show putsP (unitK d (k + 1) :: ps) = _
      rw [puts_cons, put_unit]; simp
    · show _ = _ ++ midP _ (unitK d (k + 1) :: ps)
      rw [hmu, hmu, e1]
      cases d with
      | true => simp only [if_true, List.nil_append]; congr 1; push_cast; omega
      | false =>
        simp only [Bool.false_eq_true, if_false]
        rw [fromC_append, List.append_assoc]
        congr 3
        push_cast; omega

theorem trans_flags (F : Bool) : ∀ (f : Nat) (A B : List Pt) (r : List UInt8) (FO : List Bool) (pos : Nat), Left A r → Left B r → weight A + weight B ≤ f → FO.drop pos = flagsP (if F then A else B) →
    flagsP ((sideP isPutP isPutP f A B).flatMap (tF F)) = (midP pos (if F then B else A)).map (dflC FO) ∧ putsP ((sideP isPutP isPutP f A B).flatMap (tF F)) = putsP (if F then A else B) := by
  have nil_of : ∀ {l : List Pt} {r : List UInt8}, Left l r → weight l = 0 → l = [] := by
    intro l r h hw
    cases l with
    | nil => rfl
    | cons p l => have := one_weight (h.one p (by simp)) l; omega
  have base : ∀ (FO : List Bool) (pos g : Nat), flagsP ((sideP isPutP isPutP g [] []).flatMap (tF F)) = (midP pos (if F then [] else [])).map (dflC FO) ∧ putsP ((sideP isPutP isPutP g [] []).flatMap (tF F)) = putsP (if F then [] else []) := by
    intro FO pos g
    have e : sideP isPutP isPutP g [] [] = [] := by cases g <;> rfl
    rw [e]
    cases F <;> exact ⟨rfl, rfl⟩
  have midput : ∀ (u : List UInt8) (i : Int) (ps : List Pt), midP i (⟨0, 0, u⟩ :: ps) = putC u ++ midP i ps := by
    intro u i ps; simp [midP, fromC]
  have flkeep : ∀ (n : Nat) (l : List Pt), flagsP (⟨(n : Int), 0, []⟩ :: l) = List.replicate n false ++ flagsP l := by
    intro n l; simp [flagsP]
  intro f
  induction f with
  | zero =>
    intro A B r FO pos hA hB hw h
    obtain rfl := nil_of hA (by omega)
    obtain rfl := nil_of hB (by omega)
    exact base FO pos 0
  | succ f ih =>
    intro A B r FO pos hA hB hw h
    have stepB : ∀ (v : List UInt8) (B' : List Pt), v ≠ [] → B = ⟨0, 0, v⟩ :: B' → sideP isPutP isPutP (f + 1) A B = (noP, ⟨0, 0, v⟩) :: sideP isPutP isPutP f A B' →
        flagsP ((sideP isPutP isPutP (f + 1) A B).flatMap (tF F)) = (midP pos (if F then B else A)).map (dflC FO) ∧ putsP ((sideP isPutP isPutP (f + 1) A B).flatMap (tF F)) = putsP (if F then A else B) := by
      intro v B' hv e es
      subst e
      obtain ⟨hB', hV⟩ := left_put hB
      have hw' := one_weight (hB.one ⟨0, 0, v⟩ (by simp)) B'
      have h' : FO.drop pos = flagsP (if F then A else B') := by
        rw [h]
        cases F with
        | true => rfl
        | false => exact flags_put v B'
      obtain ⟨i1, i2⟩ := ih A B' r FO pos hA hB' (by omega) h'
      rw [es, List.flatMap_cons, flags_append, puts_append, i1, i2]
      cases F with
      | true =>
        have e := tF_other true v hv
        rw [if_pos rfl] at e
        rw [e, if_pos rfl, if_pos rfl, if_pos rfl, midput, List.map_append, dfl_put, flkeep]
        exact ⟨by simp [flagsP], by simp [putsP]⟩
      | false =>
        have e := tF_own false v hv
        rw [if_neg (by decide)] at e
        rw [e, if_neg (by decide), if_neg (by decide), if_neg (by decide), puts_cons, flags_put]
        exact ⟨rfl, by simp [putsP]⟩
    cases A with
    | nil =>
      obtain rfl := left_nil hA
      cases B with
      | nil => exact base FO pos (f + 1)
      | cons q B' =>
        rcases one_cases (hB.one q (by simp)) with ⟨v, hv, rfl⟩ | ⟨e, k, rfl⟩
        · exact stepB v B' hv rfl (by
            have h2 := put_isPut hv
            simp only [sideP, h2, if_true])
        · exact absurd hB left_unit_ne
    | cons p A' =>
      rcases one_cases (hA.one p (by simp)) with ⟨u, hu, rfl⟩ | ⟨d, m, rfl⟩
      · obtain ⟨hA', hV⟩ := left_put hA
        have hw' := one_weight (hA.one ⟨0, 0, u⟩ (by simp)) A'
        have es : sideP isPutP isPutP (f + 1) (⟨0, 0, u⟩ :: A') B = (⟨0, 0, u⟩, noP) :: sideP isPutP isPutP f A' B := by
          have h1 := put_isPut hu
          cases B <;> simp only [sideP, h1, if_true]
        have h' : FO.drop pos = flagsP (if F then A' else B) := by
          rw [h]
          cases F with
          | true => exact flags_put u A'
          | false => rfl
        obtain ⟨i1, i2⟩ := ih A' B r FO pos hA' hB (by omega) h'
        rw [es, List.flatMap_cons, flags_append, puts_append, i1, i2]
        cases F with
        | true =>
          have e := tF_own true u hu
          rw [if_pos rfl] at e
          rw [e, if_pos rfl, if_pos rfl, if_pos rfl, puts_cons, flags_put]
          exact ⟨rfl, by simp [putsP]⟩
        | false =>
          have e := tF_other false u hu
          rw [if_neg (by decide)] at e
          rw [e, if_neg (by decide), if_neg (by decide), if_neg (by decide), midput, List.map_append, dfl_put, flkeep]
          exact ⟨by simp [flagsP], by simp [putsP]⟩
      · cases B with
        | nil =>
          obtain rfl := left_nil hB
          exact absurd hA left_unit_ne
        | cons q B' =>
          rcases one_cases (hB.one q (by simp)) with ⟨v, hv, rfl⟩ | ⟨e, k, rfl⟩
          · exact stepB v B' hv rfl (by
              have h1 := unit_isPut d (m + 1)
              have h2 := put_isPut hv
              simp only [sideP, h1, h2, Bool.false_eq_true, if_false, if_true])
          · have hmin : min (lengthP (unitK d (m + 1))) (lengthP (unitK e (k + 1))) = ((min m k : Nat) : Int) + 1 := by rw [len_unit, len_unit]; omega
            obtain ⟨j, hj⟩ : ∃ j, min m k = j := ⟨_, rfl⟩
            rw [hj] at hmin
            have hj1 : j ≤ m := by omega
            have hj2 : j ≤ k := by omega
            have es : sideP isPutP isPutP (f + 1) (unitK d (m + 1) :: A') (unitK e (k + 1) :: B') = (unitK d (j + 1), unitK e (j + 1)) :: sideP isPutP isPutP f ((cutP (unitK d (m + 1)) ((j : Int) + 1)).2 ++ A') ((cutP (unitK e (k + 1)) ((j : Int) + 1)).2 ++ B') := by
              rw [sideP, if_neg (by rw [unit_isPut]; decide), if_neg (by rw [unit_isPut]; decide), hmin, (cut_unit d m j hj1).1, (cut_unit e k j hj2).1]
            have hv : V (r.take (j + 1)) := by
              have v1 := (left_cons hA).2.2.1
              have v2 := (left_cons hB).2.2.1
              rw [lenP_unit] at v1 v2
              by_cases hc : m ≤ k
              · obtain rfl : m = j := by omega
                exact v1
              · obtain rfl : k = j := by omega
                exact v2
            obtain ⟨lA, _, _⟩ := unit_cut d m j hj1 A' r hA hv
            obtain ⟨lB, _, _⟩ := unit_cut e k j hj2 B' r hB hv
            obtain ⟨fA, pA, mA⟩ := unit_cut2 d m j hj1 A' pos
            obtain ⟨fB, pB, mB⟩ := unit_cut2 e k j hj2 B' pos
            have wA := cut_weight d m j hj1
            have wB := cut_weight e k j hj2
            have hw2 : weight ((cutP (unitK d (m + 1)) ((j : Int) + 1)).2 ++ A') + weight ((cutP (unitK e (k + 1)) ((j : Int) + 1)).2 ++ B') ≤ f := by
              rw [weight_append, weight_append, wA, wB]
              rw [weight_cons, weight_cons, len_unit, len_unit] at hw
              omega
            have hcast : (pos : Int) + ((j + 1 : Nat) : Int) = ((pos + (j + 1) : Nat) : Int) := by push_cast; rfl
            rw [hcast] at mA mB
            have dropR : ∀ (b : Bool) (l : List Bool), FO.drop pos = List.replicate (j + 1) b ++ l → FO.drop (pos + (j + 1)) = l := by
              intro b l hl
              have := congrArg (List.drop (j + 1)) hl
              rw [List.drop_drop, List.drop_left' (by simp)] at this
              exact this
            rw [es, List.flatMap_cons, flags_append, puts_append, tF_units]
            cases F with
            | true =>
              rw [if_pos rfl] at h ⊢
              rw [if_pos rfl, if_pos rfl, if_pos rfl]
              rw [fA] at h
              obtain ⟨i1, i2⟩ := ih _ _ (r.drop (j + 1)) FO (pos + (j + 1)) lA lB hw2 (by rw [if_pos rfl]; exact dropR d _ h)
              rw [if_pos rfl] at i1 i2
              rw [i1, i2, mB, puts_cons, put_unit, pA, List.map_append]
              cases e with
              | true => simp [flagsP, putsP]
              | false =>
                rw [if_neg (by decide), if_neg (by decide), dfl_from FO d _ (j + 1) pos h, flags_unit]
                simp [flagsP, putsP, put_unit]
            | false =>
              simp only [Bool.false_eq_true, if_false] at h ⊢
              rw [fB] at h
              obtain ⟨i1, i2⟩ := ih _ _ (r.drop (j + 1)) FO (pos + (j + 1)) lA lB hw2 (by rw [if_neg (by decide)]; exact dropR e _ h)
              rw [if_neg (by decide)] at i1 i2
              rw [i1, i2, mA, puts_cons, put_unit, pB, List.map_append]
              cases d with
              | true => simp [flagsP, putsP]
              | false =>
                rw [if_neg (by decide), if_neg (by decide), dfl_from FO e _ (j + 1) pos h, flags_unit]
                simp [flagsP, putsP, put_unit]
end Go.Proofs.YtedonckeomccpabDoor

namespace Go.Proofs.YtedonckeomccpabDoor
open Go.RowKit
set_option linter.unusedVariables false

theorem wts_eq : ∀ (ps : List Pt), wts ps = longP ps + putsP ps
  | [] => by simp [wts, longP, putsP]
  | p :: ps => by
    have ih := wts_eq ps
    have e1 : wts (p :: ps) = wtP p + wts ps := by simp [wts]
    rw [e1, long_cons, puts_cons, ih]
    unfold wtP lenP
    push_cast; omega
theorem len_wts : ∀ (ps : List Pt), (∀ p ∈ ps, oneP p) → (ps.length : Int) ≤ wts ps
  | [], _ => by simp [wts]
  | p :: ps, h => by
    have ih := len_wts ps fun q hq => h q (by simp [hq])
    have e1 : wts (p :: ps) = wtP p + wts ps := by simp [wts]
    have h1 := length_pos (h p (by simp))
    have e2 : lengthP p = wtP p := rfl
    rw [e1, List.length_cons]; push_cast; omega
theorem wts_mem : ∀ (ps : List Pt), (∀ p ∈ ps, oneP p) → ∀ p ∈ ps, wtP p ≤ wts ps
  | [], _, p, hp => by cases hp
  | q :: ps, h, p, hp => by
    have e1 : wts (q :: ps) = wtP q + wts ps := by simp [wts]
    have h0 := len_wts ps fun x hx => h x (by simp [hx])
    have h1 := length_pos (h q (by simp))
    have e2 : lengthP q = wtP q := rfl
    rcases List.mem_cons.1 hp with rfl | hp
    · omega
    · have := wts_mem ps (fun x hx => h x (by simp [hx])) p hp
      omega
theorem good.wt {x : List Pt} {t : List UInt8} (h : good x t) : wts x = t.length + putsP x := by rw [wts_eq, h.long]
theorem good.fine {x : List Pt} {t : List UInt8} (h : good x t) (hb : t.length + putsP x < 1000000) : fineP x := by
  have h1 := h.wt
  have h2 := len_wts x h.one
  exact ⟨h.one, by omega, by omega⟩
theorem good.wf {x : List Pt} {t : List UInt8} (h : good x t) (hb : t.length + putsP x < 1000000) : ∀ p ∈ x, wfP p := by
  intro p hp
  have h1 := h.wt
  have h2 := wts_mem x h.one p hp
  obtain ⟨k1, k2, _⟩ := one_kind (h.one p hp)
  have e : wtP p = p.keep + p.drop + p.put.length := rfl
  exact ⟨by omega, by omega, by omega, by omega, by omega⟩
theorem good.lens {x : List Pt} {t : List UInt8} (h : good x t) (hb : t.length + putsP x < 1000000) : (lensW x).1 = t.length ∧ (lensW x).2 = (applyP x t).length := by
  have h1 := fine_lens (h.fine hb)
  rw [h1.1, h1.2, h.long, apply_len x t h.left]
  exact ⟨rfl, rfl⟩
theorem good.both {a b : List Pt} {t t' : List UInt8} (ha : good a t) (hb : good b t') (h1 : t.length + putsP a < 1000000) (h2 : t'.length + putsP b < 1000000) : bothE a b = 0 := by
  unfold bothE
  rw [(ha.lens h1).1, (hb.lens h2).1, ha.chk, if_pos rfl, hb.chk]
theorem puts_le {x : List Pt} {t : List UInt8} (h : good x t) : putsP x ≤ (applyP x t).length := by
  have := apply_len2 x t h.left
  omega
theorem flags_len : ∀ (ps : List Pt), (∀ p ∈ ps, 0 ≤ p.keep ∧ 0 ≤ p.drop) → ((flagsP ps).length : Int) = longP ps
  | [], _ => by simp [flagsP, longP]
  | p :: ps, h => by
    have ih := flags_len ps fun q hq => h q (by simp [hq])
    have h1 := h p (by simp)
    rw [long_cons, ← ih, flagsP]
    simp only [List.length_append, List.length_replicate]
    unfold lenP; push_cast; omega
theorem apply_le {x : List Pt} {t : List UInt8} (h : good x t) : (applyP x t).length ≤ t.length + putsP x := by
  have h1 := apply_len2 x t h.left
  have h2 := List.count_le_length (a := false) (l := flagsP x)
  have h3 := flags_len x (ones_sound h.one)
  have h4 := h.long
  omega

theorem kApply (v : Value) (x : List Pt) (t : List UInt8) (w : World) (hT : Lib.Utf8Tabs 0 1 w) (hr : opAt w v x) (h : good x t) (hb : t.length + putsP x < 1000000) :
    Calls Tryd.prog 9 #[v, .string ⟨t.toArray⟩] w fun e w' => e = .returned (.tuple #[.string ⟨(applyP x t).toArray⟩, .nilIface]) ∧ Below w.heap.size w w' := by
  have hf := h.fine hb
  have := Apply_any v x t w hT hr (h.wf hb) (by omega) hf.len (by omega)
  rw [h.ord, if_pos rfl] at this
  exact this
theorem kInvert (v : Value) (x : List Pt) (t : List UInt8) (w : World) (hT : Lib.Utf8Tabs 0 1 w) (hr : opAt w v x) (h : good x t) (hb : 2 * t.length + putsP x < 1000000) :
    Calls Tryd.prog 11 #[v, .string ⟨t.toArray⟩] w fun e w' => ∃ v', e = .returned (.tuple #[v', .nilIface]) ∧ opAt w' v' (invertP x t) ∧ Below w.heap.size w w' := by
  have hf := h.fine (by omega)
  have := Invert_any v x t w hT hr (h.wf (by omega)) (by omega) hf.len (by omega)
  rw [h.ord, if_pos rfl] at this
  exact this
theorem kTrans (v1 v2 : Value) (F : Bool) (a b : List Pt) (t : List UInt8) (w : World) (hT : Lib.Utf8Tabs 0 1 w) (r1 : opAt w v1 a) (r2 : opAt w v2 b) (ha : good a t) (hb : good b t) (h1 : t.length + putsP a < 1000000) (h2 : t.length + putsP b < 1000000) :
    Calls Tryd.prog 8 #[v1, v2, .bool F] w fun e w' => ∃ v', e = .returned (.tuple #[v', .nilIface]) ∧ opAt w' v' (tellP (transS F a b)) ∧ Below w.heap.size w w' := by
  have f1 := ha.fine h1
  have f2 := hb.fine h2
  have e : turnE a b = 0 := by unfold turnE; rw [ha.both hb h1 h2, if_pos rfl, (ha.lens h1).1, (hb.lens h2).1, if_pos rfl]
  have := trans_all v1 v2 F a b w hT r1 r2 (ha.wf h1) (hb.wf h2) f1.len f2.len fun _ => ⟨f1, f2⟩
  rw [e, if_pos rfl] at this
  exact this
theorem kComp (v1 v2 : Value) (a b : List Pt) (t : List UInt8) (w : World) (hT : Lib.Utf8Tabs 0 1 w) (r1 : opAt w v1 a) (r2 : opAt w v2 b) (ha : good a t) (hb : good b (applyP a t)) (h1 : t.length + putsP a < 1000000) (h2 : (applyP a t).length + putsP b < 1000000) :
    Calls Tryd.prog 10 #[v1, v2] w fun e w' => ∃ v', e = .returned (.tuple #[v', .nilIface]) ∧ opAt w' v' (tellP (compS a b)) ∧ Below w.heap.size w w' := by
  have f1 := ha.fine h1
  have f2 := hb.fine h2
  have e : compE a b = 0 := by unfold compE; rw [ha.both hb h1 h2, if_pos rfl, (ha.lens h1).2, (hb.lens h2).1, if_pos rfl]
  have := comp_all v1 v2 a b w hT r1 r2 (ha.wf h1) (hb.wf h2) f1.len f2.len fun _ => ⟨f1, f2⟩
  rw [e, if_pos rfl] at this
  exact this
theorem tF_true : tF true = turnP := rfl
theorem tF_false : tF false = fun x => turnP (x.2, x.1) := rfl
/-- What Transform puts, and which bytes it drops. -/
theorem trans_what (F : Bool) {a b : List Pt} {t : List UInt8} (ha : good a t) (hb : good b t) (h1 : t.length + putsP a < 1000000) (h2 : t.length + putsP b < 1000000) : putsP (tellP (transS F a b)) = putsP a ∧ flagsP (tellP (transS F a b)) = (midP 0 b).map (dflC (flagsP a)) := by
  have na := ha.norm
  have nb := hb.norm
  have la := na.left
  have lb := nb.left
  have sa := ones_sound ha.one
  obtain ⟨n1, _, _, _⟩ := fine_norm (ha.fine h1)
  obtain ⟨m1, _, _, _⟩ := fine_norm (hb.fine h2)
  have hm : measP isPutP (normP a) = measP isPutP (normP b) := by
    rw [meas_put _ na.one, meas_put _ nb.one, na.long, nb.long]
  have key : ∀ (G : Bool) (L : List (Pt × Pt)), (∀ p ∈ L.flatMap (tF G), 0 ≤ p.keep ∧ 0 ≤ p.drop) → flagsP (tellP (runS (tF G) L nst0)) = flagsP (L.flatMap (tF G)) ∧ putsP (tellP (runS (tF G) L nst0)) = putsP (L.flatMap (tF G)) := by
    intro G L h
    rw [run_flat]
    exact ⟨flags_norm h, puts_norm h⟩
  have fa := flags_norm sa
  have pa := puts_norm sa
  have mb := mid_norm b hb.one
  cases F with
  | true =>
    obtain ⟨e1, e2⟩ := trans_flags true (weight (normP a) + weight (normP b)) (normP a) (normP b) t (flagsP a) 0 la lb (Nat.le_refl _) (by rw [List.drop_zero, if_pos rfl, fa])
    have hs : ∀ p ∈ (sideP isPutP isPutP (weight (normP a) + weight (normP b)) (normP a) (normP b)).flatMap (tF true), 0 ≤ p.keep ∧ 0 ≤ p.drop := by
      obtain ⟨_, hok, _, _⟩ := side_ok kind_put kind_put (weight (normP a) + weight (normP b)) (normP a) (normP b) n1 m1 hm (Nat.le_refl _)
      intro p hp
      obtain ⟨x, hx, hp⟩ := List.mem_flatMap.1 hp
      exact ((take_turn x (hok x hx)).2 p hp).1
    obtain ⟨k1, k2⟩ := key true _ hs
    rw [if_pos rfl] at e1 e2
    have e0 : transS true a b = runS (tF true) (sideP isPutP isPutP (weight (normP a) + weight (normP b)) (normP a) (normP b)) nst0 := rfl
    rw [e0, k1, k2, e1, e2, pa]
    refine ⟨rfl, ?_⟩
    show (midP 0 (normP b)).map _ = _
    rw [mb]
  | false =>
    obtain ⟨e1, e2⟩ := trans_flags false (weight (normP b) + weight (normP a)) (normP b) (normP a) t (flagsP a) 0 lb la (Nat.le_refl _) (by rw [List.drop_zero, if_neg (by decide), fa])
    have hs : ∀ p ∈ (sideP isPutP isPutP (weight (normP b) + weight (normP a)) (normP b) (normP a)).flatMap (tF false), 0 ≤ p.keep ∧ 0 ≤ p.drop := by
      obtain ⟨_, hok, _, _⟩ := side_ok kind_put kind_put (weight (normP b) + weight (normP a)) (normP b) (normP a) m1 n1 hm.symm (Nat.le_refl _)
      intro p hp
      obtain ⟨x, hx, hp⟩ := List.mem_flatMap.1 hp
      exact ((take_turn2 x (hok x hx)).2 p hp).1
    obtain ⟨k1, k2⟩ := key false _ hs
    rw [if_neg (by decide)] at e1 e2
    have e0 : transS false a b = runS (tF false) (sideP isPutP isPutP (weight (normP b) + weight (normP a)) (normP b) (normP a)) nst0 := rfl
    rw [e0, k1, k2, e1, e2, pa]
    refine ⟨rfl, ?_⟩
    show (midP 0 (normP b)).map _ = _
    rw [mb]
theorem dfl_sub (F : List Bool) (M : List Cel) (x : Cel) : dflC (M.map (dflC F)) x = dflC F (subC M x) := by
  unfold dflC subC
  by_cases h : x.1 < 0
  · rw [if_pos h, if_pos h]; simp
  · rw [if_neg h, if_neg h, List.getElem?_map]
    cases M[x.1.toNat]? with
    | none => rfl
    | some y => rfl
/-- A third one sees no difference: as long. -/
theorem along_len (F : Bool) {z x y : List Pt} {s : List UInt8} (hz : good z s) (hx : good x s) (hy : good y (applyP x s)) (h1 : s.length + putsP z < 300000) (h2 : s.length + putsP x < 300000) (h3 : (applyP x s).length + putsP y < 300000) :
    good (tellP (transS F (tellP (transS F z x)) y)) (applyP y (applyP x s)) ∧ good (tellP (transS F z (tellP (compS x y)))) (applyP y (applyP x s)) ∧
    (applyP (tellP (transS F (tellP (transS F z x)) y)) (applyP y (applyP x s))).length = (applyP (tellP (transS F z (tellP (compS x y)))) (applyP y (applyP x s))).length ∧
    putsP (tellP (transS F (tellP (transS F z x)) y)) = putsP z ∧ putsP (tellP (transS F z (tellP (compS x y)))) = putsP z ∧ putsP (tellP (transS F z x)) = putsP z := by
  have gp := (good_trans F hz hx).1
  have wp := trans_what F hz hx (by omega) (by omega)
  have ax := apply_le hx
  have gp2 := (good_trans F gp hy).1
  have wp2 := trans_what F gp hy (by rw [wp.1]; omega) (by omega)
  have gb := good_comp hx hy
  have pb := puts_le gb.1
  have ay := apply_le hy
  rw [gb.2] at pb
  have gq := (good_trans F hz gb.1).1
  have wq := trans_what F hz gb.1 (by omega) (by omega)
  rw [gb.2] at gq
  have hM := (comp_cells hx hy).2.2
  have hM' : (midP 0 x).length = (applyP x s).length := by omega
  have hsub := mid_sub (midP 0 x) y 0 (Int.le_refl _) hy.one (by rw [hy.long]; omega)
  rw [Int.toNat_zero, List.drop_zero] at hsub
  have hfl : flagsP (tellP (transS F (tellP (transS F z x)) y)) = flagsP (tellP (transS F z (tellP (compS x y)))) := by
    rw [wp2.2, wq.2, wp.2, comp_mid hx hy, ← hsub, List.map_map]
    congr 1
    funext c
    exact dfl_sub _ _ c
  refine ⟨gp2, gq, ?_, by rw [wp2.1, wp.1], wq.1, wp.1⟩
  rw [apply_len2 _ _ gp2.left, apply_len2 _ _ gq.left, hfl, wp2.1, wq.1, wp.1]
end Go.Proofs.YtedonckeomccpabDoor

namespace Go.Proofs.YtedonckeomccpabDoor
open Go.RowKit
set_option linter.unusedVariables false
attribute [local go_sem] Oper.semAt_some

set_option maxRecDepth 100000 in
set_option maxHeartbeats 8000000 in
theorem opsAlong_any (s : List UInt8) (v1 v2 v3 : Value) (first : Bool) (a b c : List Pt) (w : World) (hT : Lib.Utf8Tabs 0 1 w) (h1 : opAt w v1 a) (h2 : opAt w v2 b) (h3 : opAt w v3 c) (r1 : ∀ p ∈ a, p.put.length ≤ 150 → wfP p) (r2 : ∀ p ∈ b, p.put.length ≤ 150 → wfP p) (r3 : ∀ p ∈ c, p.put.length ≤ 150 → wfP p) :
    Calls Tryd.prog 5 #[.string ⟨s.toArray⟩, v1, v2, v3, .bool first] w fun e w' => e = .returned (.bool true) ∧ Below w.heap.size w w' := by
  have CD : Hid _ := keepdone_any w hT
  have O1 : Hid (∀ (wx : World) (t : List UInt8), Below w.heap.size w wx → _) := fun wx t (hb : Below w.heap.size w wx) => overk_any v1 a t wx (Go.Proofs.Utf8Tabs_below hT hb) (opAt_grown h1 hb) r1
  have O2 : Hid (∀ (wx : World) (t : List UInt8), Below w.heap.size w wx → _) := fun wx t (hb : Below w.heap.size w wx) => overk_any v2 b t wx (Go.Proofs.Utf8Tabs_below hT hb) (opAt_grown h2 hb) r2
  have O3 : Hid (∀ (wx : World) (t : List UInt8), Below w.heap.size w wx → _) := fun wx t (hb : Below w.heap.size w wx) => overk_any v3 c t wx (Go.Proofs.Utf8Tabs_below hT hb) (opAt_grown h3 hb) r3
  have HT : Hid _ := hT
  obtain ⟨p1, c1, rfl, _⟩ := h1
  obtain ⟨p2, c2, rfl, _⟩ := h2
  obtain ⟨p3, c3, rfl, _⟩ := h3
  clear hT r1 r2 r3
  go_enter Tryd.func5, Tryd.ntmps5
  go_wp2_with (first
    | (go_at_call 6; refine Calls.mono CD.out ?_; rintro e w1 ⟨rfl, hb1⟩; have HB1 : Hid (Below w.heap.size w w1) := hb1; clear hb1)
    | (go_at_call 9999)
    | fail)
  go_at_call 7
  refine Calls.mono (O1.out _ s HB1.out) ?_
  rintro e w2 (⟨x1, rfl, hb2⟩ | ⟨x1, x, rfl, ho2, ht2, hb2⟩)
  · have HB2 : Hid (Below w.heap.size w w2) := HB1.out.trans (hb2.mono HB1.out.size)
    clear hb2
    go_wp2_with (first | (go_at_call 9999) | fail)
    go_at_call 7
    refine Calls.mono (O3.out _ s HB2.out) ?_
    rintro e w3 (⟨x3, rfl, hb3⟩ | ⟨x3, z, rfl, ho3, ht3, hb3⟩)
    · have HB3 : Hid (Below w.heap.size w w3) := HB2.out.trans (hb3.mono HB2.out.size)
      clear hb3
      go_wp2
      go_ret
      exact ⟨rfl, HB3.out⟩
    · have HB3 : Hid (Below w.heap.size w w3) := HB2.out.trans (hb3.mono HB2.out.size)
      clear hb3 ho3 ht3
      go_wp2
      go_ret
      exact ⟨rfl, HB3.out⟩
  · have HB2 : Hid (Below w.heap.size w w2) := HB1.out.trans (hb2.mono HB1.out.size)
    have HO2 : Hid (opAt w2 x1 x) := ho2
    have HX : Hid (told x s) := ht2
    obtain ⟨t, ht⟩ : ∃ t, applyP x s = t := ⟨_, rfl⟩
    have HTT : Hid (applyP x s = t) := ht
    have cT : Hid (∀ wx, Below w.heap.size w wx → opAt wx x1 x → Calls Tryd.prog 9 #[x1, .string ⟨s.toArray⟩] wx fun e w' => e = .returned (.tuple #[.string ⟨t.toArray⟩, .nilIface]) ∧ Below wx.heap.size wx w') := fun wx hb ho => by
      rw [← ht]
      exact kApply x1 x s wx (Go.Proofs.Utf8Tabs_below HT.out hb) ho ht2.good (by have := ht2.puts; have := ht2.doc.2; omega)
    clear hb2 ho2 ht2 ht
    go_wp2_with (first | (go_at_call 9999) | fail)
    go_at_call 7
    refine Calls.mono (O3.out _ s HB2.out) ?_
    rintro e w3 (⟨x3, rfl, hb3⟩ | ⟨x3, z, rfl, ho3, ht3, hb3⟩)
    · have HB3 : Hid (Below w.heap.size w w3) := HB2.out.trans (hb3.mono HB2.out.size)
      clear hb3
      go_wp2
      go_ret
      exact ⟨rfl, HB3.out⟩
    · have HB3 : Hid (Below w.heap.size w w3) := HB2.out.trans (hb3.mono HB2.out.size)
      have HO3 : Hid (opAt w3 x1 x) := opAt_grown HO2.out hb3
      have HQ3 : Hid (opAt w3 x3 z) := ho3
      have HZ : Hid (told z s) := ht3
      clear hb3 ho3 ht3
      go_wp2_with (first
        | (go_at_call 9; refine (cT.out _ HB3.out HO3.out).mono ?_; rintro e w4 ⟨rfl, hb4⟩; have HB4 : Hid (Below w.heap.size w w4) := HB3.out.trans (hb4.mono HB3.out.size); have HO4 : Hid (opAt w4 x1 x) := opAt_grown HO3.out hb4; have HQ4 : Hid (opAt w4 x3 z) := opAt_grown HQ3.out hb4; clear hb4)
        | (go_at_call 9999)
        | fail)
      go_at_call 7
      refine Calls.mono (O2.out _ t HB4.out) ?_
      rintro e w5 (⟨x2, rfl, hb5⟩ | ⟨x2, y, rfl, ho5, ht5, hb5⟩)
      · have HB5 : Hid (Below w.heap.size w w5) := HB4.out.trans (hb5.mono HB4.out.size)
        clear hb5
        go_wp2
        go_ret
        exact ⟨rfl, HB5.out⟩
      · have HB5 : Hid (Below w.heap.size w w5) := HB4.out.trans (hb5.mono HB4.out.size)
        have HO5 : Hid (opAt w5 x1 x) := opAt_grown HO4.out hb5
        have HQ5 : Hid (opAt w5 x3 z) := opAt_grown HQ4.out hb5
        have HP5 : Hid (opAt w5 x2 y) := ho5
        have tx := HX.out
        have tz := HZ.out
        have gx := tx.good
        have gz := tz.good
        have gy := ht5.good
        have b1 := tx.puts
        have b2 := ht5.puts
        have b3 := tz.puts
        have d1 := tx.doc.2
        have d2 := ht5.doc.2
        have et := HTT.out
        have gy' : good y (applyP x s) := by rw [et]; exact gy
        have gC := good_comp gx gy'
        have pC := puts_le gC.1
        have ay := apply_le gy
        have hal := along_len first gz gx gy' (by omega) (by omega) (by rw [et]; omega)
        have gp := (good_trans first gz gx).1
        rw [et] at gC hal gp
        rw [gC.2] at pC
        obtain ⟨u, hu⟩ : ∃ u, applyP y t = u := ⟨_, rfl⟩
        rw [hu] at gC pC ay hal
        obtain ⟨C, hC⟩ : ∃ C, tellP (compS x y) = C := ⟨_, rfl⟩
        obtain ⟨P, hP⟩ : ∃ P, tellP (transS first z x) = P := ⟨_, rfl⟩
        rw [hC] at gC pC hal
        rw [hP] at hal gp
        obtain ⟨P2, hP2⟩ : ∃ P2, tellP (transS first P y) = P2 := ⟨_, rfl⟩
        obtain ⟨Q, hQ⟩ : ∃ Q, tellP (transS first z C) = Q := ⟨_, rfl⟩
        rw [hP2, hQ] at hal
        obtain ⟨gp2, gq, hlen, q1, q2, q3⟩ := hal
        obtain ⟨M, hM⟩ : ∃ M, applyP P2 u = M := ⟨_, rfl⟩
        obtain ⟨N, hN⟩ : ∃ N, applyP Q u = N := ⟨_, rfl⟩
        rw [hM, hN] at hlen
        obtain ⟨k, hk⟩ : ∃ k, M.length = k := ⟨_, rfl⟩
        rw [hk] at hlen
        have hlen' := hlen.symm
        have gyT : good y t := gy
        have cC : Hid (∀ wx, Below w.heap.size w wx → opAt wx x1 x → opAt wx x2 y → Calls Tryd.prog 10 #[x1, x2] wx fun e w' => ∃ v', e = .returned (.tuple #[v', .nilIface]) ∧ opAt w' v' C ∧ Below wx.heap.size wx w') := fun wx hb ho1 ho2 => by
          rw [← hC]
          exact kComp x1 x2 x y s wx (Go.Proofs.Utf8Tabs_below HT.out hb) ho1 ho2 gx gy' (by omega) (by rw [et]; omega)
        have cP : Hid (∀ wx, Below w.heap.size w wx → opAt wx x3 z → opAt wx x1 x → Calls Tryd.prog 8 #[x3, x1, .bool first] wx fun e w' => ∃ v', e = .returned (.tuple #[v', .nilIface]) ∧ opAt w' v' P ∧ Below wx.heap.size wx w') := fun wx hb ho1 ho2 => by
          rw [← hP]
          exact kTrans x3 x1 first z x s wx (Go.Proofs.Utf8Tabs_below HT.out hb) ho1 ho2 gz gx (by omega) (by omega)
        have cP2 : Hid (∀ wx vp, Below w.heap.size w wx → opAt wx vp P → opAt wx x2 y → Calls Tryd.prog 8 #[vp, x2, .bool first] wx fun e w' => ∃ v', e = .returned (.tuple #[v', .nilIface]) ∧ opAt w' v' P2 ∧ Below wx.heap.size wx w') := fun wx vp hb ho1 ho2 => by
          rw [← hP2]
          exact kTrans vp x2 first P y t wx (Go.Proofs.Utf8Tabs_below HT.out hb) ho1 ho2 gp gyT (by omega) (by omega)
        have cQ : Hid (∀ wx vc, Below w.heap.size w wx → opAt wx x3 z → opAt wx vc C → Calls Tryd.prog 8 #[x3, vc, .bool first] wx fun e w' => ∃ v', e = .returned (.tuple #[v', .nilIface]) ∧ opAt w' v' Q ∧ Below wx.heap.size wx w') := fun wx vc hb ho1 ho2 => by
          rw [← hQ]
          exact kTrans x3 vc first z C s wx (Go.Proofs.Utf8Tabs_below HT.out hb) ho1 ho2 gz gC.1 (by omega) (by omega)
        have eC : applyP C s = u := gC.2
        have cU : Hid (∀ wx vc, Below w.heap.size w wx → opAt wx vc C → Calls Tryd.prog 9 #[vc, .string ⟨s.toArray⟩] wx fun e w' => e = .returned (.tuple #[.string ⟨u.toArray⟩, .nilIface]) ∧ Below wx.heap.size wx w') := fun wx vc hb ho => by
          rw [← eC]
          exact kApply vc C s wx (Go.Proofs.Utf8Tabs_below HT.out hb) ho gC.1 (by omega)
        have cM : Hid (∀ wx vp, Below w.heap.size w wx → opAt wx vp P2 → Calls Tryd.prog 9 #[vp, .string ⟨u.toArray⟩] wx fun e w' => e = .returned (.tuple #[.string ⟨M.toArray⟩, .nilIface]) ∧ Below wx.heap.size wx w') := fun wx vp hb ho => by
          rw [← hM]
          exact kApply vp P2 u wx (Go.Proofs.Utf8Tabs_below HT.out hb) ho gp2 (by omega)
        have cN : Hid (∀ wx vq, Below w.heap.size w wx → opAt wx vq Q → Calls Tryd.prog 9 #[vq, .string ⟨u.toArray⟩] wx fun e w' => e = .returned (.tuple #[.string ⟨N.toArray⟩, .nilIface]) ∧ Below wx.heap.size wx w') := fun wx vq hb ho => by
          rw [← hN]
          exact kApply vq Q u wx (Go.Proofs.Utf8Tabs_below HT.out hb) ho gq (by omega)
        have hMz : (ByteArray.mk M.toArray).size = k := by rw [← hk]; simp [ByteArray.size]
        have hNz : (ByteArray.mk N.toArray).size = k := by rw [← hlen']; simp [ByteArray.size]
        clear hb5 ho5 ht5 tx tz gx gz gy b1 b2 b3 d1 d2 et gy' gC pC ay gp hu hC hP hP2 hQ gp2 gq hlen q1 q2 q3 hM hN gyT eC HX HZ HTT CD O1 O2 O3 HT cT
        go_wp2_with (first
          | (go_at_call 10; refine (cC.out _ HB5.out HO5.out HP5.out).mono ?_; rintro e w6 ⟨x6, rfl, ho6, hb6⟩; have HB6 : Hid (Below w.heap.size w w6) := HB5.out.trans (hb6.mono HB5.out.size); have HC6 : Hid (opAt w6 x6 C) := ho6; have HO6 : Hid (opAt w6 x1 x) := opAt_grown HO5.out hb6; have HP6 : Hid (opAt w6 x2 y) := opAt_grown HP5.out hb6; have HQ6 : Hid (opAt w6 x3 z) := opAt_grown HQ5.out hb6; clear ho6 hb6)
          | (have _ := HB8; go_at_call 8; refine (cQ.out _ _ HB8.out HQ8.out HC8.out).mono ?_; rintro e w9 ⟨x9, rfl, ho9, hb9⟩; have HB9 : Hid (Below w.heap.size w w9) := HB8.out.trans (hb9.mono HB8.out.size); have HN9 : Hid (opAt w9 x9 Q) := ho9; have HM9 : Hid (opAt w9 x8 P2) := opAt_grown HM8.out hb9; have HC9 : Hid (opAt w9 x6 C) := opAt_grown HC8.out hb9; clear ho9 hb9)
          | (have _ := HB7; go_at_call 8; refine (cP2.out _ _ HB7.out HR7.out HP7.out).mono ?_; rintro e w8 ⟨x8, rfl, ho8, hb8⟩; have HB8 : Hid (Below w.heap.size w w8) := HB7.out.trans (hb8.mono HB7.out.size); have HM8 : Hid (opAt w8 x8 P2) := ho8; have HC8 : Hid (opAt w8 x6 C) := opAt_grown HC7.out hb8; have HQ8 : Hid (opAt w8 x3 z) := opAt_grown HQ7.out hb8; clear ho8 hb8)
          | (have _ := HB6; go_at_call 8; refine (cP.out _ HB6.out HQ6.out HO6.out).mono ?_; rintro e w7 ⟨x7, rfl, ho7, hb7⟩; have HB7 : Hid (Below w.heap.size w w7) := HB6.out.trans (hb7.mono HB6.out.size); have HR7 : Hid (opAt w7 x7 P) := ho7; have HC7 : Hid (opAt w7 x6 C) := opAt_grown HC6.out hb7; have HP7 : Hid (opAt w7 x2 y) := opAt_grown HP6.out hb7; have HQ7 : Hid (opAt w7 x3 z) := opAt_grown HQ6.out hb7; clear ho7 hb7)
          | (have _ := HB11; go_at_call 9; refine (cN.out _ _ HB11.out HN11.out).mono ?_; rintro e w12 ⟨rfl, hb12⟩; have HB12 : Hid (Below w.heap.size w w12) := HB11.out.trans (hb12.mono HB11.out.size); clear hb12)
          | (have _ := HB10; go_at_call 9; refine (cM.out _ _ HB10.out HM10.out).mono ?_; rintro e w11 ⟨rfl, hb11⟩; have HB11 : Hid (Below w.heap.size w w11) := HB10.out.trans (hb11.mono HB10.out.size); have HN11 : Hid (opAt w11 x9 Q) := opAt_grown HN10.out hb11; clear hb11)
          | (have _ := HB9; go_at_call 9; refine (cU.out _ _ HB9.out HC9.out).mono ?_; rintro e w10 ⟨rfl, hb10⟩; have HB10 : Hid (Below w.heap.size w w10) := HB9.out.trans (hb10.mono HB9.out.size); have HM10 : Hid (opAt w10 x8 P2) := opAt_grown HM9.out hb10; have HN10 : Hid (opAt w10 x9 Q) := opAt_grown HN9.out hb10; clear hb10)
          | fail)
        go_ret
        exact ⟨rfl, HB12.out⟩
end Go.Proofs.YtedonckeomccpabDoor
