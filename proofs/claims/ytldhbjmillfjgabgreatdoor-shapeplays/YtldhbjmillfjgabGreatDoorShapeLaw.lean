/-
  rosettalaw.ShapePlays: the law's own walk.
-/
import Derived.Test.YtldhbjmillfjgabGreatDoorShapeNew
import Derived.Test.YtldhbjmillfjgabGreatDoorOpsList
import Derived.Test.YtldhbjmillfjgabGreatDoorOpsRefApp
import Derived.Test.YtldhbjmillfjgabGreatDoorOpsTransLaw
import Derived.Test.YtldhbjmillfjgabGreatDoorRefIn
import Derived.Test.YtldhbjmillfjgabGreatDoorBridgeAll
namespace Go.Proofs.YtldhbjmillfjgabGreatDoor
open Go.RowKit
set_option linter.unusedVariables false
attribute [local go_sem] Oper.semAt_some

theorem shlen_any (b u : Nat) (hu : unitN u) (rs : List Nat) (w : World) (h : isShape w b u rs) : Calls Tryz.prog 29 #[.pointer (some ⟨b, 0, none⟩)] w fun e w' => e = .returned (.int .i64 (by_ (u : Int) rs)) ∧ w' = w := by
  rcases hu with rfl | rfl | rfl
  · exact shlen1_any b rs w h
  · exact shlen2_any b rs w h
  · exact shlen3_any b rs w h
theorem shtext_any (b u : Nat) (hu : unitN u) (rs : List Nat) (w : World) (h : isShape w b u rs) (hR : ∀ r ∈ rs, isRune r) (hz : C1 rs ≤ 1000000) (hT : Lib.Utf8Tabs 2 3 w) : Calls Tryz.prog 24 #[.pointer (some ⟨b, 0, none⟩)] w fun e w' => e = .returned (.string (bytesOf rs)) ∧ Below w.heap.size w w' := by
  rcases hu with rfl | rfl | rfl
  · exact shtext1_any b rs w h hR hz hT
  · exact shtext2_any b rs w h hR hz hT
  · exact shtext3_any b rs w h hR hz hT
theorem shapply_any (b u : Nat) (hu : unitN u) (rs : List Nat) (qs : List Pt) (v : Value) (w : World) (h : isShape w b u rs) (hR : ∀ r ∈ rs, isRune r) (hz : C1 rs ≤ 100000) (hT : Lib.Utf8Tabs 2 3 w) (hr : opAt w v qs) (hwf : ∀ q ∈ qs, wfP q) (hl : qs.length ≤ 1000) (hpl : ∀ q ∈ qs, q.put.length ≤ 1000000) :
    Calls Tryz.prog 22 #[.pointer (some ⟨b, 0, none⟩), v] w fun e w' => e = .returned (errV (shE (u : Int) rs qs)) ∧ isShape w' b u (shR (u : Int) rs qs) ∧ Below b w w' := by
  rcases hu with rfl | rfl | rfl
  · exact shapply1_any b rs qs v w h hR hz hT hr hwf hl hpl
  · exact shapply2_any b rs qs v w h hR hz hT hr hwf hl hpl
  · exact shapply3_any b rs qs v w h hR hz hT hr hwf hl hpl
theorem shnew_text (u : Nat) (hu : unitN u) (s : List UInt8) (hs : s.length ≤ 1000000) (hsc : (scan s).2 = false) (w : World) (hT : Lib.Utf8Tabs 2 3 w) : Calls Tryz.prog 21 #[.int .i64 (u : Int), .string ⟨s.toArray⟩] w fun e w' => ∃ x w1, e = .returned (.tuple #[.pointer none, x]) ∧ isAt w w1 x (place s) ∧ Below w1.heap.size w1 w' ∧ Below w.heap.size w w' := by
  rcases hu with rfl | rfl | rfl
  · exact shnew1_text s hs hsc w hT
  · exact shnew2_text s hs hsc w hT
  · exact shnew3_text s hs hsc w hT
theorem shnew_good (u : Nat) (hu : unitN u) (rs : List Nat) (hR : ∀ r ∈ rs, isRune r) (hz : C1 rs ≤ 8000) (w : World) (hT : Lib.Utf8Tabs 2 3 w) : Calls Tryz.prog 21 #[.int .i64 (u : Int), .string (bytesOf rs)] w fun e w' => ∃ b, e = .returned (.tuple #[.pointer (some ⟨b, 0, none⟩), .nilIface]) ∧ isShape w' b u rs ∧ w.heap.size ≤ b ∧ Below w.heap.size w w' := by
  rcases hu with rfl | rfl | rfl
  · exact shnew1_good rs hR hz w hT
  · exact shnew2_good rs hR hz w hT
  · exact shnew3_good rs hR hz w hT

theorem sh_bad {u : Int} (hu : unitOk u) {rs : List Nat} {q : List Pt} (h : tzE rs u 1 q ≠ 0) : shE u rs q = tzE rs u 1 q ∧ shR u rs q = rs := by
  have h1 : (uB u && uB 1) = true := by rw [(uB_iff u).2 hu, (uB_iff 1).2 (.inl rfl)]; rfl
  have key : shE u rs q = tzE rs u 1 q := by
    unfold tzE at h ⊢
    rw [h1, if_pos rfl] at h ⊢
    unfold shE
    by_cases hc : chkE q (by_ u rs) = 0
    · rw [if_pos hc] at h
      rw [if_pos hc, if_pos hc]
      obtain ⟨_, h2, h3⟩ := chkE_parts hc
      obtain ⟨t1, _⟩ := turn_in hu 1 q rs h3 (Int.le_of_eq h2)
      rw [t1] at h ⊢
      unfold plE
      split at h
      · exact absurd rfl h
      · rename_i ho; rw [if_neg ho, if_neg ho]
    · rw [if_neg hc, if_neg hc]
  exact ⟨key, by unfold shR; rw [if_neg (by rw [key]; exact h)]⟩
theorem sh_fine {u : Int} (hu : unitOk u) {rs : List Nat} {q : List Pt} (hR : ∀ r ∈ rs, isRune r) (h : tzE rs u 1 q = 0) :
    good (tzO rs u 1 q) (encs rs) ∧ applyP (tzO rs u 1 q) (encs rs) = encs (comesZ u rs q) ∧ (∀ r ∈ comesZ u rs q, isRune r) ∧ shE u rs q = (if C1 (comesZ u rs q) ≤ 8000 then 0 else 12) ∧ shR u rs q = (if C1 (comesZ u rs q) ≤ 8000 then comesZ u rs q else rs) ∧ chkE q (by_ u rs) = 0 ∧ okZ u rs q = true ∧ tzO rs u 1 q = inZ u 1 rs q := by
  have h1 : (uB u && uB 1) = true := by rw [(uB_iff u).2 hu, (uB_iff 1).2 (.inl rfl)]; rfl
  unfold tzE at h
  unfold tzO
  rw [h1, if_pos rfl] at h ⊢
  have hc : chkE q (by_ u rs) = 0 := by
    by_cases hc : chkE q (by_ u rs) = 0
    · exact hc
    · rw [if_neg hc] at h; exact absurd h hc
  rw [if_pos hc] at h ⊢
  obtain ⟨hp1, h2, h3⟩ := chkE_parts hc
  obtain ⟨t1, t2⟩ := turn_in hu 1 q rs h3 (Int.le_of_eq h2)
  have ho : okZ u rs q = true := by
    rw [t1] at h
    cases e : okZ u rs q with
    | true => rfl
    | false => rw [e] at h; cases h
  rw [t2, ho, if_pos rfl]
  obtain ⟨il, ia⟩ := in_left hu q rs hp1 h2 hR ho
  have hE : shE u rs q = (if C1 (comesZ u rs q) ≤ 8000 then 0 else 12) := by
    unfold shE plE
    rw [if_pos hc, if_pos ho]
  refine ⟨il.good, ia, comes_rune hu q rs h3 (Int.le_of_eq h2) ho hR, hE, ?_, hc, rfl, rfl⟩
  unfold shR
  rw [hE]
  by_cases h8 : C1 (comesZ u rs q) ≤ 8000
  · rw [if_pos h8, if_pos rfl, if_pos h8]
  · rw [if_neg h8, if_neg (by decide), if_neg h8]
theorem in_puts {u : Int} : ∀ (qs : List Pt) (R : List Nat), (∀ q ∈ qs, oneB q = true) → putsP (inZ u 1 R qs) = putsP qs
  | [], _, _ => rfl
  | q :: qs, R, h => by
    have ih := in_puts (u := u) qs (restZ u R (lenP q)) fun x hx => h x (by simp [hx])
    have e : ∀ (p : Pt) (l : List Pt), putsP (p :: l) = p.put.length + putsP l := fun p l => by simp [putsP]
    rw [inZ, e, e, ih, unit_put (h q (by simp))]
theorem in_len {u v : Int} : ∀ (qs : List Pt) (R : List Nat), (inZ u v R qs).length = qs.length
  | [], _ => rfl
  | q :: qs, R => by rw [inZ, List.length_cons, List.length_cons, in_len qs]
theorem putsP_le : ∀ (qs : List Pt), (∀ q ∈ qs, q.put.length ≤ 300) → putsP qs ≤ 300 * qs.length
  | [], _ => by simp [putsP]
  | q :: qs, h => by
    have ih := putsP_le qs fun x hx => h x (by simp [hx])
    have := h q (by simp)
    have e : putsP (q :: qs) = q.put.length + putsP qs := by simp [putsP]
    rw [e, List.length_cons]; omega

theorem put_le_puts (p : Pt) : ∀ (qs : List Pt), p ∈ qs → p.put.length ≤ putsP qs
  | [], h => by cases h
  | q :: qs, h => by
    have e : putsP (q :: qs) = q.put.length + putsP qs := by simp [putsP]
    rw [e]
    rcases List.mem_cons.1 h with rfl | h
    · omega
    · have := put_le_puts p qs h; omega
/-- What the law's loop keeps. -/
def shI (w : World) (b u : Nat) (x : Nat) (v1 : Value) (wr : World) : Prop :=
  ∃ rs, v1 = .string (bytesOf rs) ∧ isShape wr b u rs ∧ (∀ r ∈ rs, isRune r) ∧ C1 rs ≤ 8000 ∧ Below w.heap.size w wr

set_option maxHeartbeats 1000000 in
theorem shapeLaw_long (u : Int) (s : List UInt8) (v : Value) (l : List (List Pt)) (w : World) (hr : opsAt w v l) (h : 400 < s.length ∨ 12 < l.length) :
    Calls Tryz.prog 5 #[.int .i64 u, .string ⟨s.toArray⟩, v] w fun e w' => e = .returned (.bool true) ∧ Below w.heap.size w w' := by
  have hz : (ByteArray.mk s.toArray).size = s.length := by simp [ByteArray.size]
  obtain ⟨p, c, rfl, r1, r2, _⟩ := hr
  unfold maxLen at r2
  by_cases h1 : 400 < s.length
  · have h2 : (400 : Int) < (s.length : Int) := by omega
    go_enter Tryz.func5, Tryz.ntmps5
    go_wp2
    go_ret
    exact ⟨rfl, Below.refl _ _⟩
  · have h2 : ¬ (400 : Int) < (s.length : Int) := by omega
    have h3 : (12 : Int) < (l.length : Int) := by omega
    clear h
    go_enter Tryz.func5, Tryz.ntmps5
    go_wp2
    go_ret
    exact ⟨rfl, Below.refl _ _⟩
set_option maxHeartbeats 1000000 in
theorem shapeLaw_unit (u : Int) (s : List UInt8) (v : Value) (l : List (List Pt)) (w : World) (hg : asLaid w) (hr : opsAt w v l) (hs : s.length ≤ 400) (hl : l.length ≤ 12) (hu : ¬ unitOk u) :
    Calls Tryz.prog 5 #[.int .i64 u, .string ⟨s.toArray⟩, v] w fun e w' => e = .returned (.bool true) ∧ Below w.heap.size w w' := by
  have hz : (ByteArray.mk s.toArray).size = s.length := by simp [ByteArray.size]
  obtain ⟨p, c, rfl, r1, r2, _⟩ := hr
  unfold maxLen at r2
  have h2 : ¬ (400 : Int) < (s.length : Int) := by omega
  have h3 : ¬ (12 : Int) < (l.length : Int) := by omega
  have cN := shnew_unit u hu ⟨s.toArray⟩ w
  have cB : Hid (∀ wx, Below w.heap.size w wx → Calls Tryz.prog 13 #[errV 1, .int .i64 1] wx fun e w' => e = .returned (.bool true) ∧ Below wx.heap.size wx w') := fun wx hb => bare_any _ wx (asLaid_below hg hb)
  have hV : errV 1 = .iface 26 (.int .i64 1) := rfl
  rw [hV] at cN cB
  have CN : Hid _ := cN
  clear hV cN
  unfold unitOk at hu
  by_cases h1 : u < 1
  · clear hu hg hs hl
    go_enter Tryz.func5, Tryz.ntmps5
    go_wp2_with (first
      | (go_at_call 21; refine Calls.mono CN.out ?_; rintro e w1 ⟨rfl, hb1⟩; have HB1 : Hid (Below w.heap.size w w1) := hb1; clear hb1)
      | (go_at_call 13; refine (cB.out _ HB1.out).mono ?_; rintro e w2 ⟨rfl, hb2⟩; have HB2 : Hid (Below w.heap.size w w2) := HB1.out.trans (hb2.mono HB1.out.size); clear hb2)
      | fail)
    go_ret
    exact ⟨rfl, HB2.out⟩
  · have h4 : 3 < u := by omega
    clear hu hg hs hl
    go_enter Tryz.func5, Tryz.ntmps5
    go_wp2_with (first
      | (go_at_call 21; refine Calls.mono CN.out ?_; rintro e w1 ⟨rfl, hb1⟩; have HB1 : Hid (Below w.heap.size w w1) := hb1; clear hb1)
      | (go_at_call 13; refine (cB.out _ HB1.out).mono ?_; rintro e w2 ⟨rfl, hb2⟩; have HB2 : Hid (Below w.heap.size w w2) := HB1.out.trans (hb2.mono HB1.out.size); clear hb2)
      | fail)
    go_ret
    exact ⟨rfl, HB2.out⟩
set_option maxHeartbeats 2000000 in
theorem shapeLaw_text (u : Nat) (hu : unitN u) (s : List UInt8) (v : Value) (l : List (List Pt)) (w : World) (hg : asLaid w) (hT : Lib.Utf8Tabs 2 3 w) (hr : opsAt w v l) (hs : s.length ≤ 400) (hl : l.length ≤ 12) (hsc : (scan s).2 = false) :
    Calls Tryz.prog 5 #[.int .i64 (u : Int), .string ⟨s.toArray⟩, v] w fun e w' => e = .returned (.bool true) ∧ Below w.heap.size w w' := by
  have hz : (ByteArray.mk s.toArray).size = s.length := by simp [ByteArray.size]
  obtain ⟨p, c, rfl, r1, r2, _⟩ := hr
  unfold maxLen at r2
  have h2 : ¬ (400 : Int) < (s.length : Int) := by omega
  have h3 : ¬ (12 : Int) < (l.length : Int) := by omega
  have hu1 : ¬ ((u : Int) < 1) ∧ ¬ (3 < (u : Int)) := by unfold unitN at hu; omega
  obtain ⟨hu1, hu2⟩ := hu1
  have CN : Hid _ := shnew_text u hu s (by omega) hsc w hT
  have cR : Hid (∀ wx, Below w.heap.size w wx → Calls Tryz.prog 8 #[.string ⟨s.toArray⟩] wx fun e w' => Below wx.heap.size wx w' ∧ e = .returned (.tuple #[cnt 0 0 0 0, fault 3 (place s)])) := fun wx hb => refCount_bad ⟨s.toArray⟩ (by rw [hz]; omega) wx hsc
  have HG : Hid (asLaid w) := hg
  unfold cnt fault at cR
  generalize place s = PL at *
  clear hu hg hs hl hsc hT
  go_enter Tryz.func5, Tryz.ntmps5
  go_wp2_with (first
    | (go_at_call 21; refine Calls.mono CN.out ?_; rintro e w1 ⟨x, w0, rfl, hat, hb0, hb1⟩; have HB1 : Hid (Below w.heap.size w w1) := hb1; have HAT : Hid (isAt w w0 x PL) := hat; have HB0 : Hid (Below w0.heap.size w0 w1) := hb0; clear hb1 hb0 hat)
    | (go_at_call 8; refine (cR.out _ HB1.out).mono ?_; rintro e w2 ⟨hb2, rfl⟩; have HB2 : Hid (Below w.heap.size w ((w2.alloc (.cells #[.int .i64 0, .int .i64 0, .int .i64 0, .int .i64 0] 25)).alloc (.cells #[.int .i64 3, .int .i64 PL] 28))) := ((HB1.out.trans (hb2.mono HB1.out.size)).alloc (Nat.le_trans HB1.out.size hb2.size) _).alloc (by have := HB1.out.size; have := hb2.size; simp; omega) _; have HB02 : Hid (Below w0.heap.size w0 ((w2.alloc (.cells #[.int .i64 0, .int .i64 0, .int .i64 0, .int .i64 0] 25)).alloc (.cells #[.int .i64 3, .int .i64 PL] 28))) := ((HB0.out.trans (hb2.mono HB0.out.size)).alloc (Nat.le_trans HB0.out.size hb2.size) _).alloc (by have := HB0.out.size; have := hb2.size; simp; omega) _; clear hb2)
    | (go_at_call 26; refine (is_at (asLaid_below HG.out HB2.out) HAT.out HB02.out).mono ?_; rintro e w3 ⟨rfl, hb3⟩; have HB3 : Hid (Below w.heap.size w w3) := HB2.out.trans (hb3.mono HB2.out.size); clear hb3)
    | fail)
  go_ret
  exact ⟨rfl, HB3.out⟩
end Go.Proofs.YtldhbjmillfjgabGreatDoor
