/-
  The document's own first: what it returns of any text.
-/
import Derived.Test.YtldhbjmillfjgabGreatDoorRefText
import Derived.Test.YtldhbjmillfjgabGreatDoorReadsPure
import Derived.Deep.QuietTactic
import Derived.BigQuiet
namespace Go.Proofs.YtldhbjmillfjgabGreatDoor
open Go.RowKit
set_option linter.unusedVariables false

theorem byteAt_elem (s : ByteArray) (i : Nat) (h : i < s.size) : (s[i]'h).toNat = byteAt s.data.toList i := by
  have e : s[i]'h = s.get! i := by
    show s.data[i] = s.data[i]!
    exact (getElem!_pos s.data i h).symm
  rw [e, get!_getD]; rfl

theorem fits_bytes (s : ByteArray) (k : Nat) : isRune (valN s.data.toList k) ∧ (⟨(enc (valN s.data.toList k)).toArray⟩ : ByteArray) = s.extract 0 k ↔ fits s.data.toList k := by
  have e : (s.extract 0 k).data.toList = s.data.toList.take k := by
    rw [Lib.extract_data, List.drop_zero, Nat.sub_zero]
  constructor
  · rintro ⟨h1, h2⟩
    refine ⟨h1, ?_⟩
    rw [← e, ← h2]
  · rintro ⟨h1, h2⟩
    refine ⟨h1, ?_⟩
    apply ByteArray.ext
    apply Array.toList_inj.1
    rw [e, ← h2]

theorem not_valid {r : Nat} (h : ¬ isRune r) : Lib.validRune (r : Int) = false := by
  unfold isRune at h
  unfold Lib.validRune
  apply decide_eq_false
  omega

theorem bytes_toList {a b : ByteArray} (h : a.toList = b.toList) : a = b := by
  rw [ByteArray.toList_eq, ByteArray.toList_eq] at h
  exact ByteArray.ext (Array.toList_inj.1 h)

set_option maxRecDepth 100000 in
set_option maxHeartbeats 2000000 in
theorem first_any (s : ByteArray) (hs : s.size < 100000000) (w : World) :
    Calls Tryz.prog 104 #[.string s] w fun e w' => e = .returned (.tuple #[.int .i32 (firstOf s.data.toList).1, .int .i64 (firstOf s.data.toList).2]) ∧ Below w.heap.size w w' := by
  have hsz : Hid (s.size = s.data.toList.length) := Lib.size_eq s
  obtain ⟨R1, hR1⟩ : ∃ z : Int, z = (firstOf s.data.toList).1 := ⟨_, rfl⟩
  obtain ⟨R2, hR2⟩ : ∃ z : Int, z = (firstOf s.data.toList).2 := ⟨_, rfl⟩
  rw [← hR1, ← hR2]
  have HR1 : Hid _ := hR1
  have HR2 : Hid _ := hR2
  clear hR1 hR2
  go_enter Tryz.func104, Tryz.ntmps104
  go_wp2
  go_loopw [4] (fun n wr => ∃ k : Nat, 1 ≤ k ∧ k ≤ 5 ∧ n = .int .i64 k ∧ (∀ j, 1 ≤ j → j < k → j ≤ s.data.toList.length → ¬ fits s.data.toList j) ∧ Below w.heap.size w wr) (fun n _ => 5 - (intOf n).toNat)
  case atStart => exact ⟨1, Nat.le_refl _, by omega, rfl, fun j h1 h2 => by omega, Below.refl _ _⟩
  case round =>
    obtain ⟨k, hk1, hk5, hn, hno, hwr⟩ := hrel
    by_cases hin : k ≤ 4 ∧ k ≤ s.size
    · obtain ⟨hk4, hks⟩ := hin
      have hnext : Hid (¬ fits s.data.toList k → ∀ j, 1 ≤ j → j < k + 1 → j ≤ s.data.toList.length → ¬ fits s.data.toList j) := fun hf j h1 h2 h3 => by
        by_cases hj : j = k
        · rw [hj]; exact hf
        · exact hno j h1 (by omega) h3
      have hret : Hid (fits s.data.toList k → firstOf s.data.toList = (valN s.data.toList k, k)) := fun hf => firstOf_fits hk1 (by rw [← hsz.out]; exact hks) hf
      have hpar : Hid (isRune (valN s.data.toList k) ∧ (⟨(enc (valN s.data.toList k)).toArray⟩ : ByteArray) = s.extract 0 k ↔ fits s.data.toList k) := fits_bytes s k
      have hV := valN_lt s.data.toList k
      clear hno
      obtain rfl | rfl | rfl | rfl : k = 1 ∨ k = 2 ∨ k = 3 ∨ k = 4 := by omega
      · obtain rfl : _ = Value.int .i64 1 := hn
        have p0 : 0 < s.size := by omega
        have e0 := byteAt_elem s 0 p0
        have l0 := byteAt_lt s.data.toList 0
        have hVV : (valN s.data.toList 1 : Int) = (byteAt s.data.toList 0 : Int) := by
          show ((byteAt s.data.toList 0 : Nat) : Int) = _
          omega
        have cR := Rune_any (valN s.data.toList 1) (by omega) (by omega)
        by_cases hval : isRune (valN s.data.toList 1)
        · have cB := Bytes_any _ hval
          have hvR := valid_of_rune hval
          rw [hvR] at cR
          have hpar2 : Hid ((⟨(enc (valN s.data.toList 1)).toArray⟩ : ByteArray) = s.extract 0 1 ↔ fits s.data.toList 1) := ⟨fun h => hpar.out.1 ⟨hval, h⟩, fun h => (hpar.out.2 h).2⟩
          generalize (⟨(enc (valN s.data.toList 1)).toArray⟩ : ByteArray) = u at cB hpar2
          rw [hVV] at cR cB
          clear hvR hval hpar hV
          generalize byteAt s.data.toList 0 = B0 at *
          have HV : Hid ((valN s.data.toList 1 : Int) = (B0 : Int)) := hVV
          clear hVV
          by_cases hu : u = s.extract 0 1
          · have hr := hret.out (hpar2.out.1 hu)
            have h1 : Hid (R1 = (B0 : Int)) := by show _ = _; rw [HR1.out, hr]; exact HV.out
            have h2 : Hid (R2 = 1) := by show _ = _; rw [HR2.out, hr]; rfl
            subst hu
            clear hr hret hnext hpar2
            go_wp2
            go_region_with (first | (go_at_call 155; refine (cR _).mono ?_; rintro e wx ⟨rfl, rfl⟩) | (go_at_call 156; refine (cB _).mono ?_; rintro e w1 ⟨rfl, hb1⟩))
            all_goals
              go_wp2
              go_ret2
              exact ⟨by rw [h1.out, h2.out]; rfl, (hwr.drew).trans (hb1.mono (by simpa using hwr.size))⟩
          · have hn' := hnext.out fun h => hu (hpar2.out.2 h)
            have HN : Hid _ := hn'
            have hue : (u.toList == (s.extract 0 1).toList) = false := beq_eq_false_iff_ne.2 fun h => hu (bytes_toList h)
            clear hn' hnext hret hpar2
            go_wp2
            go_region_with (first | (go_at_call 155; refine (cR _).mono ?_; rintro e wx ⟨rfl, rfl⟩) | (go_at_call 156; refine (cB _).mono ?_; rintro e w1 ⟨rfl, hb1⟩))
            all_goals
              go_wp2
              have hrel : ∃ k : Nat, 1 ≤ k ∧ k ≤ 5 ∧ Value.int .i64 2 = .int .i64 k ∧ (∀ j, 1 ≤ j → j < k → j ≤ s.data.toList.length → ¬ fits s.data.toList j) ∧ Below w.heap.size w w1 := ⟨2, by omega, by omega, rfl, HN.out, (hwr.drew).trans (hb1.mono (by simpa using hwr.size))⟩
              exact ⟨hrel, by simp [intOf]⟩
        · have hn' := hnext.out fun h => hval h.1
          have HN : Hid _ := hn'
          rw [not_valid hval, hVV] at cR
          clear hn' hnext hret hpar hval hV hVV
          generalize byteAt s.data.toList 0 = B0 at *
          go_wp2
          go_quiet (first | (go_at_call 155; refine (cR _).mono ?_; rintro e wx ⟨rfl, rfl⟩; exact ⟨rfl, _, rfl⟩))
          go_wp2
          have hrel : ∃ k : Nat, 1 ≤ k ∧ k ≤ 5 ∧ Value.int .i64 2 = .int .i64 k ∧ (∀ j, 1 ≤ j → j < k → j ≤ s.data.toList.length → ¬ fits s.data.toList j) ∧ Below w.heap.size w (wr.drewN (nq)) := ⟨2, by omega, by omega, rfl, HN.out, hwr.trans ⟨rfl, rfl, rfl, Nat.le_refl _, fun _ _ => rfl⟩⟩
          exact ⟨hrel, by simp [intOf]⟩
      · obtain rfl : _ = Value.int .i64 2 := hn
        have p0 : 0 < s.size := by omega
        have e0 := byteAt_elem s 0 p0
        have l0 := byteAt_lt s.data.toList 0
        have p1 : 1 < s.size := by omega
        have e1 := byteAt_elem s 1 p1
        have l1 := byteAt_lt s.data.toList 1
        have hVV : (valN s.data.toList 2 : Int) = (byteAt s.data.toList 0 : Int) % 32 * 64 + (byteAt s.data.toList 1 : Int) % 64 := by
          show ((byteAt s.data.toList 0 % 32 * 64 + byteAt s.data.toList 1 % 64 : Nat) : Int) = _
          omega
        have cR := Rune_any (valN s.data.toList 2) (by omega) (by omega)
        by_cases hval : isRune (valN s.data.toList 2)
        · have cB := Bytes_any _ hval
          have hvR := valid_of_rune hval
          rw [hvR] at cR
          have hpar2 : Hid ((⟨(enc (valN s.data.toList 2)).toArray⟩ : ByteArray) = s.extract 0 2 ↔ fits s.data.toList 2) := ⟨fun h => hpar.out.1 ⟨hval, h⟩, fun h => (hpar.out.2 h).2⟩
          generalize (⟨(enc (valN s.data.toList 2)).toArray⟩ : ByteArray) = u at cB hpar2
          rw [hVV] at cR cB
          clear hvR hval hpar hV
          generalize byteAt s.data.toList 0 = B0 at *
          generalize byteAt s.data.toList 1 = B1 at *
          have HV : Hid ((valN s.data.toList 2 : Int) = (B0 : Int) % 32 * 64 + (B1 : Int) % 64) := hVV
          clear hVV
          by_cases hu : u = s.extract 0 2
          · have hr := hret.out (hpar2.out.1 hu)
            have h1 : Hid (R1 = (B0 : Int) % 32 * 64 + (B1 : Int) % 64) := by show _ = _; rw [HR1.out, hr]; exact HV.out
            have h2 : Hid (R2 = 2) := by show _ = _; rw [HR2.out, hr]; rfl
            subst hu
            clear hr hret hnext hpar2
            go_wp2; go_region; go_wp2
            go_region_with (first | (go_at_call 155; refine (cR _).mono ?_; rintro e wx ⟨rfl, rfl⟩) | (go_at_call 156; refine (cB _).mono ?_; rintro e w1 ⟨rfl, hb1⟩))
            all_goals
              go_wp2
              go_ret2
              exact ⟨by rw [h1.out, h2.out]; rfl, (hwr.drew.drew).trans (hb1.mono (by simpa using hwr.size))⟩
          · have hn' := hnext.out fun h => hu (hpar2.out.2 h)
            have HN : Hid _ := hn'
            have hue : (u.toList == (s.extract 0 2).toList) = false := beq_eq_false_iff_ne.2 fun h => hu (bytes_toList h)
            clear hn' hnext hret hpar2
            go_wp2; go_region; go_wp2
            go_region_with (first | (go_at_call 155; refine (cR _).mono ?_; rintro e wx ⟨rfl, rfl⟩) | (go_at_call 156; refine (cB _).mono ?_; rintro e w1 ⟨rfl, hb1⟩))
            all_goals
              go_wp2
              have hrel : ∃ k : Nat, 1 ≤ k ∧ k ≤ 5 ∧ Value.int .i64 3 = .int .i64 k ∧ (∀ j, 1 ≤ j → j < k → j ≤ s.data.toList.length → ¬ fits s.data.toList j) ∧ Below w.heap.size w w1 := ⟨3, by omega, by omega, rfl, HN.out, (hwr.drew.drew).trans (hb1.mono (by simpa using hwr.size))⟩
              exact ⟨hrel, by simp [intOf]⟩
        · have hn' := hnext.out fun h => hval h.1
          have HN : Hid _ := hn'
          rw [not_valid hval, hVV] at cR
          clear hn' hnext hret hpar hval hV hVV
          generalize byteAt s.data.toList 0 = B0 at *
          generalize byteAt s.data.toList 1 = B1 at *
          go_wp2; go_region; go_wp2
          go_quiet (first | (go_at_call 155; refine (cR _).mono ?_; rintro e wx ⟨rfl, rfl⟩; exact ⟨rfl, _, rfl⟩))
          go_wp2
          have hrel : ∃ k : Nat, 1 ≤ k ∧ k ≤ 5 ∧ Value.int .i64 3 = .int .i64 k ∧ (∀ j, 1 ≤ j → j < k → j ≤ s.data.toList.length → ¬ fits s.data.toList j) ∧ Below w.heap.size w (wr.drewN (1 + nq)) := ⟨3, by omega, by omega, rfl, HN.out, hwr.trans ⟨rfl, rfl, rfl, Nat.le_refl _, fun _ _ => rfl⟩⟩
          exact ⟨hrel, by simp [intOf]⟩
      · obtain rfl : _ = Value.int .i64 3 := hn
        have p0 : 0 < s.size := by omega
        have e0 := byteAt_elem s 0 p0
        have l0 := byteAt_lt s.data.toList 0
        have p1 : 1 < s.size := by omega
        have e1 := byteAt_elem s 1 p1
        have l1 := byteAt_lt s.data.toList 1
        have p2 : 2 < s.size := by omega
        have e2 := byteAt_elem s 2 p2
        have l2 := byteAt_lt s.data.toList 2
        have hVV : (valN s.data.toList 3 : Int) = (byteAt s.data.toList 0 : Int) % 16 * 4096 + (byteAt s.data.toList 1 : Int) % 64 * 64 + (byteAt s.data.toList 2 : Int) % 64 := by
          show ((byteAt s.data.toList 0 % 16 * 4096 + byteAt s.data.toList 1 % 64 * 64 + byteAt s.data.toList 2 % 64 : Nat) : Int) = _
          omega
        have cR := Rune_any (valN s.data.toList 3) (by omega) (by omega)
        by_cases hval : isRune (valN s.data.toList 3)
        · have cB := Bytes_any _ hval
          have hvR := valid_of_rune hval
          rw [hvR] at cR
          have hpar2 : Hid ((⟨(enc (valN s.data.toList 3)).toArray⟩ : ByteArray) = s.extract 0 3 ↔ fits s.data.toList 3) := ⟨fun h => hpar.out.1 ⟨hval, h⟩, fun h => (hpar.out.2 h).2⟩
          generalize (⟨(enc (valN s.data.toList 3)).toArray⟩ : ByteArray) = u at cB hpar2
          rw [hVV] at cR cB
          clear hvR hval hpar hV
          generalize byteAt s.data.toList 0 = B0 at *
          generalize byteAt s.data.toList 1 = B1 at *
          generalize byteAt s.data.toList 2 = B2 at *
          have HV : Hid ((valN s.data.toList 3 : Int) = (B0 : Int) % 16 * 4096 + (B1 : Int) % 64 * 64 + (B2 : Int) % 64) := hVV
          clear hVV
          by_cases hu : u = s.extract 0 3
          · have hr := hret.out (hpar2.out.1 hu)
            have h1 : Hid (R1 = (B0 : Int) % 16 * 4096 + (B1 : Int) % 64 * 64 + (B2 : Int) % 64) := by show _ = _; rw [HR1.out, hr]; exact HV.out
            have h2 : Hid (R2 = 3) := by show _ = _; rw [HR2.out, hr]; rfl
            subst hu
            clear hr hret hnext hpar2
            go_wp2; go_region; go_wp2
            go_region_with (first | (go_at_call 155; refine (cR _).mono ?_; rintro e wx ⟨rfl, rfl⟩) | (go_at_call 156; refine (cB _).mono ?_; rintro e w1 ⟨rfl, hb1⟩))
            all_goals
              go_wp2
              go_ret2
              exact ⟨by rw [h1.out, h2.out]; rfl, (hwr.drew.drew).trans (hb1.mono (by simpa using hwr.size))⟩
          · have hn' := hnext.out fun h => hu (hpar2.out.2 h)
            have HN : Hid _ := hn'
            have hue : (u.toList == (s.extract 0 3).toList) = false := beq_eq_false_iff_ne.2 fun h => hu (bytes_toList h)
            clear hn' hnext hret hpar2
            go_wp2; go_region; go_wp2
            go_region_with (first | (go_at_call 155; refine (cR _).mono ?_; rintro e wx ⟨rfl, rfl⟩) | (go_at_call 156; refine (cB _).mono ?_; rintro e w1 ⟨rfl, hb1⟩))
            all_goals
              go_wp2
              have hrel : ∃ k : Nat, 1 ≤ k ∧ k ≤ 5 ∧ Value.int .i64 4 = .int .i64 k ∧ (∀ j, 1 ≤ j → j < k → j ≤ s.data.toList.length → ¬ fits s.data.toList j) ∧ Below w.heap.size w w1 := ⟨4, by omega, by omega, rfl, HN.out, (hwr.drew.drew).trans (hb1.mono (by simpa using hwr.size))⟩
              exact ⟨hrel, by simp [intOf]⟩
        · have hn' := hnext.out fun h => hval h.1
          have HN : Hid _ := hn'
          rw [not_valid hval, hVV] at cR
          clear hn' hnext hret hpar hval hV hVV
          generalize byteAt s.data.toList 0 = B0 at *
          generalize byteAt s.data.toList 1 = B1 at *
          generalize byteAt s.data.toList 2 = B2 at *
          go_wp2; go_region; go_wp2
          go_quiet (first | (go_at_call 155; refine (cR _).mono ?_; rintro e wx ⟨rfl, rfl⟩; exact ⟨rfl, _, rfl⟩))
          go_wp2
          have hrel : ∃ k : Nat, 1 ≤ k ∧ k ≤ 5 ∧ Value.int .i64 4 = .int .i64 k ∧ (∀ j, 1 ≤ j → j < k → j ≤ s.data.toList.length → ¬ fits s.data.toList j) ∧ Below w.heap.size w (wr.drewN (1 + nq)) := ⟨4, by omega, by omega, rfl, HN.out, hwr.trans ⟨rfl, rfl, rfl, Nat.le_refl _, fun _ _ => rfl⟩⟩
          exact ⟨hrel, by simp [intOf]⟩
      · obtain rfl : _ = Value.int .i64 4 := hn
        have p0 : 0 < s.size := by omega
        have e0 := byteAt_elem s 0 p0
        have l0 := byteAt_lt s.data.toList 0
        have p1 : 1 < s.size := by omega
        have e1 := byteAt_elem s 1 p1
        have l1 := byteAt_lt s.data.toList 1
        have p2 : 2 < s.size := by omega
        have e2 := byteAt_elem s 2 p2
        have l2 := byteAt_lt s.data.toList 2
        have p3 : 3 < s.size := by omega
        have e3 := byteAt_elem s 3 p3
        have l3 := byteAt_lt s.data.toList 3
        have hVV : (valN s.data.toList 4 : Int) = (byteAt s.data.toList 0 : Int) % 8 * 262144 + (byteAt s.data.toList 1 : Int) % 64 * 4096 + (byteAt s.data.toList 2 : Int) % 64 * 64 + (byteAt s.data.toList 3 : Int) % 64 := by
          show ((byteAt s.data.toList 0 % 8 * 262144 + byteAt s.data.toList 1 % 64 * 4096 + byteAt s.data.toList 2 % 64 * 64 + byteAt s.data.toList 3 % 64 : Nat) : Int) = _
          omega
        have cR := Rune_any (valN s.data.toList 4) (by omega) (by omega)
        by_cases hval : isRune (valN s.data.toList 4)
        · have cB := Bytes_any _ hval
          have hvR := valid_of_rune hval
          rw [hvR] at cR
          have hpar2 : Hid ((⟨(enc (valN s.data.toList 4)).toArray⟩ : ByteArray) = s.extract 0 4 ↔ fits s.data.toList 4) := ⟨fun h => hpar.out.1 ⟨hval, h⟩, fun h => (hpar.out.2 h).2⟩
          generalize (⟨(enc (valN s.data.toList 4)).toArray⟩ : ByteArray) = u at cB hpar2
          rw [hVV] at cR cB
          clear hvR hval hpar hV
          generalize byteAt s.data.toList 0 = B0 at *
          generalize byteAt s.data.toList 1 = B1 at *
          generalize byteAt s.data.toList 2 = B2 at *
          generalize byteAt s.data.toList 3 = B3 at *
          have HV : Hid ((valN s.data.toList 4 : Int) = (B0 : Int) % 8 * 262144 + (B1 : Int) % 64 * 4096 + (B2 : Int) % 64 * 64 + (B3 : Int) % 64) := hVV
          clear hVV
          by_cases hu : u = s.extract 0 4
          · have hr := hret.out (hpar2.out.1 hu)
            have h1 : Hid (R1 = (B0 : Int) % 8 * 262144 + (B1 : Int) % 64 * 4096 + (B2 : Int) % 64 * 64 + (B3 : Int) % 64) := by show _ = _; rw [HR1.out, hr]; exact HV.out
            have h2 : Hid (R2 = 4) := by show _ = _; rw [HR2.out, hr]; rfl
            subst hu
            clear hr hret hnext hpar2
            go_wp2; go_region; go_wp2
            go_region_with (first | (go_at_call 155; refine (cR _).mono ?_; rintro e wx ⟨rfl, rfl⟩) | (go_at_call 156; refine (cB _).mono ?_; rintro e w1 ⟨rfl, hb1⟩))
            all_goals
              go_wp2
              go_ret2
              exact ⟨by rw [h1.out, h2.out]; rfl, (hwr.drew.drew).trans (hb1.mono (by simpa using hwr.size))⟩
          · have hn' := hnext.out fun h => hu (hpar2.out.2 h)
            have HN : Hid _ := hn'
            have hue : (u.toList == (s.extract 0 4).toList) = false := beq_eq_false_iff_ne.2 fun h => hu (bytes_toList h)
            clear hn' hnext hret hpar2
            go_wp2; go_region; go_wp2
            go_region_with (first | (go_at_call 155; refine (cR _).mono ?_; rintro e wx ⟨rfl, rfl⟩) | (go_at_call 156; refine (cB _).mono ?_; rintro e w1 ⟨rfl, hb1⟩))
            all_goals
              go_wp2
              have hrel : ∃ k : Nat, 1 ≤ k ∧ k ≤ 5 ∧ Value.int .i64 5 = .int .i64 k ∧ (∀ j, 1 ≤ j → j < k → j ≤ s.data.toList.length → ¬ fits s.data.toList j) ∧ Below w.heap.size w w1 := ⟨5, by omega, by omega, rfl, HN.out, (hwr.drew.drew).trans (hb1.mono (by simpa using hwr.size))⟩
              exact ⟨hrel, by simp [intOf]⟩
        · have hn' := hnext.out fun h => hval h.1
          have HN : Hid _ := hn'
          rw [not_valid hval, hVV] at cR
          clear hn' hnext hret hpar hval hV hVV
          generalize byteAt s.data.toList 0 = B0 at *
          generalize byteAt s.data.toList 1 = B1 at *
          generalize byteAt s.data.toList 2 = B2 at *
          generalize byteAt s.data.toList 3 = B3 at *
          go_wp2; go_region; go_wp2
          go_quiet (first | (go_at_call 155; refine (cR _).mono ?_; rintro e wx ⟨rfl, rfl⟩; exact ⟨rfl, _, rfl⟩))
          go_wp2
          have hrel : ∃ k : Nat, 1 ≤ k ∧ k ≤ 5 ∧ Value.int .i64 5 = .int .i64 k ∧ (∀ j, 1 ≤ j → j < k → j ≤ s.data.toList.length → ¬ fits s.data.toList j) ∧ Below w.heap.size w (wr.drewN (1 + nq)) := ⟨5, by omega, by omega, rfl, HN.out, hwr.trans ⟨rfl, rfl, rfl, Nat.le_refl _, fun _ _ => rfl⟩⟩
          exact ⟨hrel, by simp [intOf]⟩
    · have hz : firstOf s.data.toList = (0, 0) := firstOf_none fun n h1 h2 h3 => hno n h1 (by rw [← hsz.out] at h3; omega) h3
      have h1 : Hid (R1 = 0) := by show _ = _; rw [HR1.out, hz]; rfl
      have h2 : Hid (R2 = 0) := by show _ = _; rw [HR2.out, hz]; rfl
      subst hn
      clear hno hz
      by_cases hk : k ≤ 4
      · have hks : ¬ k ≤ s.size := fun h => hin ⟨hk, h⟩
        clear hin
        go_wp2
        go_ret2
        exact ⟨by rw [h1.out, h2.out]; rfl, hwr⟩
      · clear hin
        go_wp2
        go_ret2
        exact ⟨by rw [h1.out, h2.out]; rfl, hwr⟩
end Go.Proofs.YtldhbjmillfjgabGreatDoor
