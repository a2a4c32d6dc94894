/-
  shape.New.
-/
import Derived.Test.YtedgnlgjmnccgabGreatDoorShape
import Derived.Test.YtedgnlgjmnccgabGreatDoorDone
namespace Go.Proofs.YtedgnlgjmnccgabGreatDoor
open Go.RowKit
set_option linter.unusedVariables false
attribute [local go_sem] Oper.semAt_some

theorem shnew_op (u : Int) (hu : unitOk u) {rs : List Nat} (hR : ∀ r ∈ rs, isRune r) (hz : C1 rs ≤ 8000) (hne : encs rs ≠ []) : shE u [] [⟨0, 0, encs rs⟩] = 0 ∧ shR u [] [⟨0, 0, encs rs⟩] = rs := by
  have hsc : (scan (encs rs)).2 = true := by rw [scan_encs rs hR]
  have hro : runesOf (encs rs) = rs := by
    unfold runesOf
    rw [scan_encs rs hR]
    simp [wide, Function.comp_def]
  have hone : oneB ⟨0, 0, encs rs⟩ = true := by simp [oneB, hne]
  have hl : lenP ⟨0, 0, encs rs⟩ = 0 := rfl
  have hup : upTo [] u 0 = [] := upTo_zero [] u
  have hed : onEdge [] u 0 = true := by unfold onEdge; rw [hup, by_nil]; rfl
  have hc : chkE [⟨0, 0, encs rs⟩] (by_ u []) = 0 := by
    rw [by_nil]
    simp [chkE, chk1, chk2, hone, hsc]
  have hok : okZ u [] [⟨0, 0, encs rs⟩] = true := by
    unfold okZ
    rw [hl, hed]; rfl
  have hco : comesZ u [] [⟨0, 0, encs rs⟩] = rs := by
    unfold comesZ
    rw [if_neg (by simp), hro]
    simp [comesZ]
  have hE : shE u [] [⟨0, 0, encs rs⟩] = 0 := by
    unfold shE plE
    rw [if_pos hc, if_pos hok, hco, if_pos hz]
  exact ⟨hE, by unfold shR; rw [if_pos hE, hco]⟩

set_option maxHeartbeats 2000000 in
theorem shnew1_good (rs : List Nat) (hR : ∀ r ∈ rs, isRune r) (hz : C1 rs ≤ 8000) (w : World) (hT : Lib.Utf8Tabs 2 3 w) : Calls Tryz.prog 25 #[.int .i64 1, .string (bytesOf rs)] w fun e w' => ∃ b, e = .returned (.tuple #[.pointer (some ⟨b, 0, none⟩), .nilIface]) ∧ isShape w' b 1 rs ∧ w.heap.size ≤ b ∧ Below w.heap.size w w' := by
  have hl := C1_len rs
  have hb : (bytesOf rs) = ⟨(encs rs).toArray⟩ := rfl
  have hsc : (scan (encs rs)).2 = true := by rw [scan_encs rs hR]
  have cC : Hid (Calls Tryz.prog 78 #[.string (bytesOf rs)] w fun e w' => ∃ n1 n2 n3 n4, e = .returned (.tuple #[.agg #[.int .i64 n1, .int .i64 n2, .int .i64 n3, .int .i64 n4], .nilIface]) ∧ Below w.heap.size w w') :=
    (Count_any (bytesOf rs) (by rw [hb]; simp [ByteArray.size]; omega) w hT).mono fun e w' ⟨v, x, h1, h2, h3⟩ => by
      have e0 : (bytesOf rs).data.toList = encs rs := rfl
      rw [e0] at h3
      rcases h3 with ⟨_, rfl, rfl⟩ | ⟨h4, _⟩
      · exact ⟨_, _, _, _, h1, h2⟩
      · rw [hsc] at h4; cases h4
  by_cases hne : rs = []
  · subst hne
    have hbe : bytesOf [] = ⟨#[]⟩ := rfl
    rw [hbe] at cC ⊢
    clear hT hR hz hl hb hsc hbe
    go_enter Tryz.func25, Tryz.ntmps25
    go_wp2_with (first
      | (go_at_call 78; refine Calls.mono cC.out ?_; rintro e w1 ⟨n1, n2, n3, n4, rfl, hb1⟩; have HB1 : Hid (Below w.heap.size w w1) := hb1; clear hb1)
      | fail)
    go_ret2
    refine ⟨_, rfl, ?_, ?_, (HB1.out.alloc HB1.out.size _).alloc (Nat.le_trans HB1.out.size (by simp)) _⟩
    · refine ⟨by simp [go_sem], by simp [go_sem], none, 0, 0, by simp [go_sem], ?_, fun a ha => by cases ha⟩
      rw [rowZ_nil]; exact ⟨rfl, .inl ⟨rfl, rfl, rfl⟩⟩
    · have := HB1.out.size; simp; omega
  · have hne2 : encs rs ≠ [] := fun e => by
      have := encs_len rs; rw [e] at this; exact hne (List.eq_nil_of_length_eq_zero (by simpa using this))
    obtain ⟨q1, q2⟩ := shnew_op 1 (by unfold unitOk; omega) hR hz hne2
    have hbne : (bytesOf rs).toList.isEmpty = false := by
      rw [ByteArray.toList_eq, hb]
      show (encs rs).isEmpty = false
      cases h : encs rs with
      | nil => exact absurd h hne2
      | cons a t => rfl
    have HTT : Hid _ := hT
    have cA : Hid (∀ W b v, Below w.heap.size w W → isShape W b 1 [] → opAt W v [⟨0, 0, encs rs⟩] → Calls Tryz.prog 26 #[.pointer (some ⟨b, 0, none⟩), v] W fun e w' => e = .returned .nilIface ∧ isShape w' b 1 rs ∧ Below b W w') := fun W b v hB hs ho => by
      have := shapply1_any b [] [⟨0, 0, encs rs⟩] v W hs (fun r hr => by cases hr) (by decide) (Go.Proofs.Utf8Tabs_below HTT.out hB) ho (fun q hq => by
        obtain rfl := List.mem_singleton.1 hq
        refine ⟨?_, ?_, ?_, ?_, ?_⟩ <;> simp only <;> omega) (by simp) (fun q hq => by
        obtain rfl := List.mem_singleton.1 hq
        simp only; omega)
      rw [q1, q2, errV_0] at this
      exact this
    have HBE : Hid (bytesOf rs = ⟨(encs rs).toArray⟩) := hb
    generalize bytesOf rs = S at *
    clear hT hR hz hl hb hsc q1 q2 hne hne2
    go_enter Tryz.func25, Tryz.ntmps25
    go_wp2_with (first
      | (go_at_call 78; refine Calls.mono cC.out ?_; rintro e w1 ⟨n1, n2, n3, n4, rfl, hb1⟩; have HB1 : Hid (Below w.heap.size w w1) := hb1; clear hb1)
      | (go_at_call 9999)
      | fail)
    refine (cA.out _ (w1.heap.size + 1) _ ?hB ?hS ?hO).mono ?_
    case hB => exact ((HB1.out.alloc HB1.out.size _).alloc (Nat.le_trans HB1.out.size (by simp)) _).alloc (by have := HB1.out.size; simp; omega) _
    case hS =>
      refine ⟨by simp [go_sem], by simp [go_sem], none, 0, 0, by simp [go_sem], ?_, fun a ha => by cases ha⟩
      rw [rowZ_nil]; exact ⟨rfl, .inl ⟨rfl, rfl, rfl⟩⟩
    case hO =>
      refine opAt_lit (t := 50) (ps := [⟨0, 0, encs rs⟩]) (fz := (0, 0)) ?_ (by simp [maxLen])
      rw [HBE.out]
      have h := heap_alloc_new ((w1.alloc (.cells #[.int .i64 n1, .int .i64 n2, .int .i64 n3, .int .i64 n4] 25)).alloc (.cells #[.int .i64 1, .slice none 0 0, .slice none 0 0, .slice none 0 0] 160)) (.cells #[.int .i64 0, .int .i64 0, .string ⟨(encs rs).toArray⟩] 50)
      rw [World.size_alloc, World.size_alloc] at h
      exact h
    rintro e w2 ⟨rfl, hs2, hb2⟩
    have HS2 : Hid _ := hs2
    have HB2 : Hid _ := hb2
    clear hs2 hb2
    go_wp2
    go_ret2
    have hsz := HB1.out.size
    refine ⟨_, rfl, HS2.out, by omega, ?_⟩
    exact (((HB1.out.alloc HB1.out.size _).alloc (Nat.le_trans HB1.out.size (by simp)) _).alloc (by have := HB1.out.size; simp; omega) _).trans (HB2.out.mono (by omega))

set_option maxHeartbeats 2000000 in
theorem shnew2_good (rs : List Nat) (hR : ∀ r ∈ rs, isRune r) (hz : C1 rs ≤ 8000) (w : World) (hT : Lib.Utf8Tabs 2 3 w) : Calls Tryz.prog 25 #[.int .i64 2, .string (bytesOf rs)] w fun e w' => ∃ b, e = .returned (.tuple #[.pointer (some ⟨b, 0, none⟩), .nilIface]) ∧ isShape w' b 2 rs ∧ w.heap.size ≤ b ∧ Below w.heap.size w w' := by
  have hl := C1_len rs
  have hb : (bytesOf rs) = ⟨(encs rs).toArray⟩ := rfl
  have hsc : (scan (encs rs)).2 = true := by rw [scan_encs rs hR]
  have cC : Hid (Calls Tryz.prog 78 #[.string (bytesOf rs)] w fun e w' => ∃ n1 n2 n3 n4, e = .returned (.tuple #[.agg #[.int .i64 n1, .int .i64 n2, .int .i64 n3, .int .i64 n4], .nilIface]) ∧ Below w.heap.size w w') :=
    (Count_any (bytesOf rs) (by rw [hb]; simp [ByteArray.size]; omega) w hT).mono fun e w' ⟨v, x, h1, h2, h3⟩ => by
      have e0 : (bytesOf rs).data.toList = encs rs := rfl
      rw [e0] at h3
      rcases h3 with ⟨_, rfl, rfl⟩ | ⟨h4, _⟩
      · exact ⟨_, _, _, _, h1, h2⟩
      · rw [hsc] at h4; cases h4
  by_cases hne : rs = []
  · subst hne
    have hbe : bytesOf [] = ⟨#[]⟩ := rfl
    rw [hbe] at cC ⊢
    clear hT hR hz hl hb hsc hbe
    go_enter Tryz.func25, Tryz.ntmps25
    go_wp2_with (first
      | (go_at_call 78; refine Calls.mono cC.out ?_; rintro e w1 ⟨n1, n2, n3, n4, rfl, hb1⟩; have HB1 : Hid (Below w.heap.size w w1) := hb1; clear hb1)
      | fail)
    go_ret2
    refine ⟨_, rfl, ?_, ?_, (HB1.out.alloc HB1.out.size _).alloc (Nat.le_trans HB1.out.size (by simp)) _⟩
    · refine ⟨by simp [go_sem], by simp [go_sem], none, 0, 0, by simp [go_sem], ?_, fun a ha => by cases ha⟩
      rw [rowZ_nil]; exact ⟨rfl, .inl ⟨rfl, rfl, rfl⟩⟩
    · have := HB1.out.size; simp; omega
  · have hne2 : encs rs ≠ [] := fun e => by
      have := encs_len rs; rw [e] at this; exact hne (List.eq_nil_of_length_eq_zero (by simpa using this))
    obtain ⟨q1, q2⟩ := shnew_op 2 (by unfold unitOk; omega) hR hz hne2
    have hbne : (bytesOf rs).toList.isEmpty = false := by
      rw [ByteArray.toList_eq, hb]
      show (encs rs).isEmpty = false
      cases h : encs rs with
      | nil => exact absurd h hne2
      | cons a t => rfl
    have HTT : Hid _ := hT
    have cA : Hid (∀ W b v, Below w.heap.size w W → isShape W b 2 [] → opAt W v [⟨0, 0, encs rs⟩] → Calls Tryz.prog 26 #[.pointer (some ⟨b, 0, none⟩), v] W fun e w' => e = .returned .nilIface ∧ isShape w' b 2 rs ∧ Below b W w') := fun W b v hB hs ho => by
      have := shapply2_any b [] [⟨0, 0, encs rs⟩] v W hs (fun r hr => by cases hr) (by decide) (Go.Proofs.Utf8Tabs_below HTT.out hB) ho (fun q hq => by
        obtain rfl := List.mem_singleton.1 hq
        refine ⟨?_, ?_, ?_, ?_, ?_⟩ <;> simp only <;> omega) (by simp) (fun q hq => by
        obtain rfl := List.mem_singleton.1 hq
        simp only; omega)
      rw [q1, q2, errV_0] at this
      exact this
    have HBE : Hid (bytesOf rs = ⟨(encs rs).toArray⟩) := hb
    generalize bytesOf rs = S at *
    clear hT hR hz hl hb hsc q1 q2 hne hne2
    go_enter Tryz.func25, Tryz.ntmps25
    go_wp2_with (first
      | (go_at_call 78; refine Calls.mono cC.out ?_; rintro e w1 ⟨n1, n2, n3, n4, rfl, hb1⟩; have HB1 : Hid (Below w.heap.size w w1) := hb1; clear hb1)
      | (go_at_call 9999)
      | fail)
    refine (cA.out _ (w1.heap.size + 1) _ ?hB ?hS ?hO).mono ?_
    case hB => exact ((HB1.out.alloc HB1.out.size _).alloc (Nat.le_trans HB1.out.size (by simp)) _).alloc (by have := HB1.out.size; simp; omega) _
    case hS =>
      refine ⟨by simp [go_sem], by simp [go_sem], none, 0, 0, by simp [go_sem], ?_, fun a ha => by cases ha⟩
      rw [rowZ_nil]; exact ⟨rfl, .inl ⟨rfl, rfl, rfl⟩⟩
    case hO =>
      refine opAt_lit (t := 50) (ps := [⟨0, 0, encs rs⟩]) (fz := (0, 0)) ?_ (by simp [maxLen])
      rw [HBE.out]
      have h := heap_alloc_new ((w1.alloc (.cells #[.int .i64 n1, .int .i64 n2, .int .i64 n3, .int .i64 n4] 25)).alloc (.cells #[.int .i64 2, .slice none 0 0, .slice none 0 0, .slice none 0 0] 160)) (.cells #[.int .i64 0, .int .i64 0, .string ⟨(encs rs).toArray⟩] 50)
      rw [World.size_alloc, World.size_alloc] at h
      exact h
    rintro e w2 ⟨rfl, hs2, hb2⟩
    have HS2 : Hid _ := hs2
    have HB2 : Hid _ := hb2
    clear hs2 hb2
    go_wp2
    go_ret2
    have hsz := HB1.out.size
    refine ⟨_, rfl, HS2.out, by omega, ?_⟩
    exact (((HB1.out.alloc HB1.out.size _).alloc (Nat.le_trans HB1.out.size (by simp)) _).alloc (by have := HB1.out.size; simp; omega) _).trans (HB2.out.mono (by omega))

set_option maxHeartbeats 2000000 in
theorem shnew3_good (rs : List Nat) (hR : ∀ r ∈ rs, isRune r) (hz : C1 rs ≤ 8000) (w : World) (hT : Lib.Utf8Tabs 2 3 w) : Calls Tryz.prog 25 #[.int .i64 3, .string (bytesOf rs)] w fun e w' => ∃ b, e = .returned (.tuple #[.pointer (some ⟨b, 0, none⟩), .nilIface]) ∧ isShape w' b 3 rs ∧ w.heap.size ≤ b ∧ Below w.heap.size w w' := by
  have hl := C1_len rs
  have hb : (bytesOf rs) = ⟨(encs rs).toArray⟩ := rfl
  have hsc : (scan (encs rs)).2 = true := by rw [scan_encs rs hR]
  have cC : Hid (Calls Tryz.prog 78 #[.string (bytesOf rs)] w fun e w' => ∃ n1 n2 n3 n4, e = .returned (.tuple #[.agg #[.int .i64 n1, .int .i64 n2, .int .i64 n3, .int .i64 n4], .nilIface]) ∧ Below w.heap.size w w') :=
    (Count_any (bytesOf rs) (by rw [hb]; simp [ByteArray.size]; omega) w hT).mono fun e w' ⟨v, x, h1, h2, h3⟩ => by
      have e0 : (bytesOf rs).data.toList = encs rs := rfl
      rw [e0] at h3
      rcases h3 with ⟨_, rfl, rfl⟩ | ⟨h4, _⟩
      · exact ⟨_, _, _, _, h1, h2⟩
      · rw [hsc] at h4; cases h4
  by_cases hne : rs = []
  · subst hne
    have hbe : bytesOf [] = ⟨#[]⟩ := rfl
    rw [hbe] at cC ⊢
    clear hT hR hz hl hb hsc hbe
    go_enter Tryz.func25, Tryz.ntmps25
    go_wp2_with (first
      | (go_at_call 78; refine Calls.mono cC.out ?_; rintro e w1 ⟨n1, n2, n3, n4, rfl, hb1⟩; have HB1 : Hid (Below w.heap.size w w1) := hb1; clear hb1)
      | fail)
    go_ret2
    refine ⟨_, rfl, ?_, ?_, (HB1.out.alloc HB1.out.size _).alloc (Nat.le_trans HB1.out.size (by simp)) _⟩
    · refine ⟨by simp [go_sem], by simp [go_sem], none, 0, 0, by simp [go_sem], ?_, fun a ha => by cases ha⟩
      rw [rowZ_nil]; exact ⟨rfl, .inl ⟨rfl, rfl, rfl⟩⟩
    · have := HB1.out.size; simp; omega
  · have hne2 : encs rs ≠ [] := fun e => by
      have := encs_len rs; rw [e] at this; exact hne (List.eq_nil_of_length_eq_zero (by simpa using this))
    obtain ⟨q1, q2⟩ := shnew_op 3 (by unfold unitOk; omega) hR hz hne2
    have hbne : (bytesOf rs).toList.isEmpty = false := by
      rw [ByteArray.toList_eq, hb]
      show (encs rs).isEmpty = false
      cases h : encs rs with
      | nil => exact absurd h hne2
      | cons a t => rfl
    have HTT : Hid _ := hT
    have cA : Hid (∀ W b v, Below w.heap.size w W → isShape W b 3 [] → opAt W v [⟨0, 0, encs rs⟩] → Calls Tryz.prog 26 #[.pointer (some ⟨b, 0, none⟩), v] W fun e w' => e = .returned .nilIface ∧ isShape w' b 3 rs ∧ Below b W w') := fun W b v hB hs ho => by
      have := shapply3_any b [] [⟨0, 0, encs rs⟩] v W hs (fun r hr => by cases hr) (by decide) (Go.Proofs.Utf8Tabs_below HTT.out hB) ho (fun q hq => by
        obtain rfl := List.mem_singleton.1 hq
        refine ⟨?_, ?_, ?_, ?_, ?_⟩ <;> simp only <;> omega) (by simp) (fun q hq => by
        obtain rfl := List.mem_singleton.1 hq
        simp only; omega)
      rw [q1, q2, errV_0] at this
      exact this
    have HBE : Hid (bytesOf rs = ⟨(encs rs).toArray⟩) := hb
    generalize bytesOf rs = S at *
    clear hT hR hz hl hb hsc q1 q2 hne hne2
    go_enter Tryz.func25, Tryz.ntmps25
    go_wp2_with (first
      | (go_at_call 78; refine Calls.mono cC.out ?_; rintro e w1 ⟨n1, n2, n3, n4, rfl, hb1⟩; have HB1 : Hid (Below w.heap.size w w1) := hb1; clear hb1)
      | (go_at_call 9999)
      | fail)
    refine (cA.out _ (w1.heap.size + 1) _ ?hB ?hS ?hO).mono ?_
    case hB => exact ((HB1.out.alloc HB1.out.size _).alloc (Nat.le_trans HB1.out.size (by simp)) _).alloc (by have := HB1.out.size; simp; omega) _
    case hS =>
      refine ⟨by simp [go_sem], by simp [go_sem], none, 0, 0, by simp [go_sem], ?_, fun a ha => by cases ha⟩
      rw [rowZ_nil]; exact ⟨rfl, .inl ⟨rfl, rfl, rfl⟩⟩
    case hO =>
      refine opAt_lit (t := 50) (ps := [⟨0, 0, encs rs⟩]) (fz := (0, 0)) ?_ (by simp [maxLen])
      rw [HBE.out]
      have h := heap_alloc_new ((w1.alloc (.cells #[.int .i64 n1, .int .i64 n2, .int .i64 n3, .int .i64 n4] 25)).alloc (.cells #[.int .i64 3, .slice none 0 0, .slice none 0 0, .slice none 0 0] 160)) (.cells #[.int .i64 0, .int .i64 0, .string ⟨(encs rs).toArray⟩] 50)
      rw [World.size_alloc, World.size_alloc] at h
      exact h
    rintro e w2 ⟨rfl, hs2, hb2⟩
    have HS2 : Hid _ := hs2
    have HB2 : Hid _ := hb2
    clear hs2 hb2
    go_wp2
    go_ret2
    have hsz := HB1.out.size
    refine ⟨_, rfl, HS2.out, by omega, ?_⟩
    exact (((HB1.out.alloc HB1.out.size _).alloc (Nat.le_trans HB1.out.size (by simp)) _).alloc (by have := HB1.out.size; simp; omega) _).trans (HB2.out.mono (by omega))
end Go.Proofs.YtedgnlgjmnccgabGreatDoor
