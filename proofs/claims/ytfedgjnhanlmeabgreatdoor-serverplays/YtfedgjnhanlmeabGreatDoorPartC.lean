/-
  The document's own first: what it returns of any text.
  The document's own Runes: what it returns of any text.
  The document's own Check: what it says of any operation.
  Lens, the program's and the document's; whether an operation is small; whether two are the same.
  The document's Gather: its closure.
  A region that draws its order, whose operations only read and whose callees only make new memory: one walk of the text's order serves every order; outside a loop's round, and within one.
  The class of worlds: all that have grown out of W and left everything in it as it was: what a function G gives.
  A region that draws its order, whose operations read, and make new memory, and whose last ones store: operations that yield one value in every world that has grown are taken first; the others in every order in which they may come up.
  The document's Spread: an operation as gaps.
-/
import Derived.Test.YtfedgjnhanlmeabGreatDoorPartB
import Derived.Deep.QuietTactic
import Derived.BigQuiet
import Derived.Test.YtfedgjnhanlmeabGreatDoorPartA
import Derived.Laws.EntriesVeiled
import Derived.WalkKit
import Derived.OrdersIn
import Derived.CallsIn
import Derived.TacticsIn
import Derived.RangeFuncCalls
import Derived.RegionTactic
namespace Go.Proofs.YtfedgjnhanlmeabGreatDoor
open Go.RowKit
set_option linter.unusedVariables false

theorem byteAt_elem (s : ByteArray) (i : Nat) (h : i < s.size) : (s[i]'h).toNat = byteAt s.data.toList i := by
  have e : s[i]'h = s.get! i := by
    show s.data[i] = s.data[i]!
    exact (getElem!_pos s.data i h).symm
  rw [e, get!_getD]; rfl

theorem fits_bytes (s : ByteArray) (k : Nat) : isRune (valN s.data.toList k) ∧ (⟨(enc (valN s.data.toList k)).toArray⟩ : ByteArray) = s.extract 0 k ↔ fits s.data.toList k := by
  have e : (s.extract 0 k).data.toList = s.data.toList.take k := by
    rw [Lib.extract_data, List.drop_zero, Nat.sub_zero]
  constructor
  · rintro ⟨h1, h2⟩
    refine ⟨h1, ?_⟩
    rw [← e, ← h2]
  · rintro ⟨h1, h2⟩
    refine ⟨h1, ?_⟩
    apply ByteArray.ext
    apply Array.toList_inj.1
    rw [e, ← h2]

theorem not_valid {r : Nat} (h : ¬ isRune r) : Lib.validRune (r : Int) = false := by
  unfold isRune at h
  unfold Lib.validRune
  apply decide_eq_false
  omega

theorem bytes_toList {a b : ByteArray} (h : a.toList = b.toList) : a = b := by
  rw [ByteArray.toList_eq, ByteArray.toList_eq] at h
  exact ByteArray.ext (Array.toList_inj.1 h)

set_option maxRecDepth 100000 in
set_option maxHeartbeats 2000000 in
theorem first_any (s : ByteArray) (hs : s.size < 100000000) (w : World) :
    Calls Tryz.prog 137 #[.string s] w fun e w' => e = .returned (.tuple #[.int .i32 (firstOf s.data.toList).1, .int .i64 (firstOf s.data.toList).2]) ∧ Below w.heap.size w w' := by
  have hsz : Hid (s.size = s.data.toList.length) := Lib.size_eq s
  obtain ⟨R1, hR1⟩ : ∃ z : Int, z = (firstOf s.data.toList).1 := ⟨_, rfl⟩
  obtain ⟨R2, hR2⟩ : ∃ z : Int, z = (firstOf s.data.toList).2 := ⟨_, rfl⟩
  rw [← hR1, ← hR2]
  have HR1 : Hid _ := hR1
  have HR2 : Hid _ := hR2
  clear hR1 hR2
  go_enter Tryz.func137, Tryz.ntmps137
  go_wp2
  go_loopw [4] (fun n wr => ∃ k : Nat, 1 ≤ k ∧ k ≤ 5 ∧ n = .int .i64 k ∧ (∀ j, 1 ≤ j → j < k → j ≤ s.data.toList.length → ¬ fits s.data.toList j) ∧ Below w.heap.size w wr) (fun n _ => 5 - (intOf n).toNat)
  case atStart => exact ⟨1, Nat.le_refl _, by omega, rfl, fun j h1 h2 => by omega, Below.refl _ _⟩
  case round =>
    obtain ⟨k, hk1, hk5, hn, hno, hwr⟩ := hrel
    by_cases hin : k ≤ 4 ∧ k ≤ s.size
    · obtain ⟨hk4, hks⟩ := hin
      have hnext : Hid (¬ fits s.data.toList k → ∀ j, 1 ≤ j → j < k + 1 → j ≤ s.data.toList.length → ¬ fits s.data.toList j) := fun hf j h1 h2 h3 => by
        by_cases hj : j = k
        · rw [hj]; exact hf
        · exact hno j h1 (by omega) h3
      have hret : Hid (fits s.data.toList k → firstOf s.data.toList = (valN s.data.toList k, k)) := fun hf => firstOf_fits hk1 (by rw [← hsz.out]; exact hks) hf
      have hpar : Hid (isRune (valN s.data.toList k) ∧ (⟨(enc (valN s.data.toList k)).toArray⟩ : ByteArray) = s.extract 0 k ↔ fits s.data.toList k) := fits_bytes s k
      have hV := valN_lt s.data.toList k
      clear hno
      obtain rfl | rfl | rfl | rfl : k = 1 ∨ k = 2 ∨ k = 3 ∨ k = 4 := by omega
      · obtain rfl : _ = Value.int .i64 1 := hn
        have p0 : 0 < s.size := by omega
        have e0 := byteAt_elem s 0 p0
        have l0 := byteAt_lt s.data.toList 0
        have hVV : (valN s.data.toList 1 : Int) = (byteAt s.data.toList 0 : Int) := by
          show ((byteAt s.data.toList 0 : Nat) : Int) = _
          omega
        have cR := Rune_any (valN s.data.toList 1) (by omega) (by omega)
        by_cases hval : isRune (valN s.data.toList 1)
        · have cB := Bytes_any _ hval
          have hvR := valid_of_rune hval
          rw [hvR] at cR
          have hpar2 : Hid ((⟨(enc (valN s.data.toList 1)).toArray⟩ : ByteArray) = s.extract 0 1 ↔ fits s.data.toList 1) := ⟨fun h => hpar.out.1 ⟨hval, h⟩, fun h => (hpar.out.2 h).2⟩
          generalize (⟨(enc (valN s.data.toList 1)).toArray⟩ : ByteArray) = u at cB hpar2
          rw [hVV] at cR cB
          clear hvR hval hpar hV
          generalize byteAt s.data.toList 0 = B0 at *
          have HV : Hid ((valN s.data.toList 1 : Int) = (B0 : Int)) := hVV
          clear hVV
          by_cases hu : u = s.extract 0 1
          · have hr := hret.out (hpar2.out.1 hu)
            have h1 : Hid (R1 = (B0 : Int)) := by show _ = _; rw [HR1.out, hr]; exact HV.out
            have h2 : Hid (R2 = 1) := by show _ = _; rw [HR2.out, hr]; rfl
            subst hu
            clear hr hret hnext hpar2
            go_wp2
            go_region_with (first | (go_at_call 187; refine (cR _).mono ?_; rintro e wx ⟨rfl, rfl⟩) | (go_at_call 188; refine (cB _).mono ?_; rintro e w1 ⟨rfl, hb1⟩))
            all_goals
              go_wp2
              go_ret2
              exact ⟨by rw [h1.out, h2.out]; rfl, (hwr.drew).trans (hb1.mono (by simpa using hwr.size))⟩
          · have hn' := hnext.out fun h => hu (hpar2.out.2 h)
            have HN : Hid _ := hn'
            have hue : (u.toList == (s.extract 0 1).toList) = false := beq_eq_false_iff_ne.2 fun h => hu (bytes_toList h)
            clear hn' hnext hret hpar2
            go_wp2
            go_region_with (first | (go_at_call 187; refine (cR _).mono ?_; rintro e wx ⟨rfl, rfl⟩) | (go_at_call 188; refine (cB _).mono ?_; rintro e w1 ⟨rfl, hb1⟩))
            all_goals
              go_wp2
              have hrel : ∃ k : Nat, 1 ≤ k ∧ k ≤ 5 ∧ Value.int .i64 2 = .int .i64 k ∧ (∀ j, 1 ≤ j → j < k → j ≤ s.data.toList.length → ¬ fits s.data.toList j) ∧ Below w.heap.size w w1 := ⟨2, by omega, by omega, rfl, HN.out, (hwr.drew).trans (hb1.mono (by simpa using hwr.size))⟩
              exact ⟨hrel, by simp [intOf]⟩
        · have hn' := hnext.out fun h => hval h.1
          have HN : Hid _ := hn'
          rw [not_valid hval, hVV] at cR
          clear hn' hnext hret hpar hval hV hVV
          generalize byteAt s.data.toList 0 = B0 at *
          go_wp2
          go_quiet (first | (go_at_call 187; refine (cR _).mono ?_; rintro e wx ⟨rfl, rfl⟩; exact ⟨rfl, _, rfl⟩))
          go_wp2
          have hrel : ∃ k : Nat, 1 ≤ k ∧ k ≤ 5 ∧ Value.int .i64 2 = .int .i64 k ∧ (∀ j, 1 ≤ j → j < k → j ≤ s.data.toList.length → ¬ fits s.data.toList j) ∧ Below w.heap.size w (wr.drewN (nq)) := ⟨2, by omega, by omega, rfl, HN.out, hwr.trans ⟨rfl, rfl, rfl, Nat.le_refl _, fun _ _ => rfl⟩⟩
          exact ⟨hrel, by simp [intOf]⟩
      · obtain rfl : _ = Value.int .i64 2 := hn
        have p0 : 0 < s.size := by omega
        have e0 := byteAt_elem s 0 p0
        have l0 := byteAt_lt s.data.toList 0
        have p1 : 1 < s.size := by omega
        have e1 := byteAt_elem s 1 p1
        have l1 := byteAt_lt s.data.toList 1
        have hVV : (valN s.data.toList 2 : Int) = (byteAt s.data.toList 0 : Int) % 32 * 64 + (byteAt s.data.toList 1 : Int) % 64 := by
          show ((byteAt s.data.toList 0 % 32 * 64 + byteAt s.data.toList 1 % 64 : Nat) : Int) = _
          omega
        have cR := Rune_any (valN s.data.toList 2) (by omega) (by omega)
        by_cases hval : isRune (valN s.data.toList 2)
        · have cB := Bytes_any _ hval
          have hvR := valid_of_rune hval
          rw [hvR] at cR
          have hpar2 : Hid ((⟨(enc (valN s.data.toList 2)).toArray⟩ : ByteArray) = s.extract 0 2 ↔ fits s.data.toList 2) := ⟨fun h => hpar.out.1 ⟨hval, h⟩, fun h => (hpar.out.2 h).2⟩
          generalize (⟨(enc (valN s.data.toList 2)).toArray⟩ : ByteArray) = u at cB hpar2
          rw [hVV] at cR cB
          clear hvR hval hpar hV
          generalize byteAt s.data.toList 0 = B0 at *
          generalize byteAt s.data.toList 1 = B1 at *
          have HV : Hid ((valN s.data.toList 2 : Int) = (B0 : Int) % 32 * 64 + (B1 : Int) % 64) := hVV
          clear hVV
          by_cases hu : u = s.extract 0 2
          · have hr := hret.out (hpar2.out.1 hu)
            have h1 : Hid (R1 = (B0 : Int) % 32 * 64 + (B1 : Int) % 64) := by show _ = _; rw [HR1.out, hr]; exact HV.out
            have h2 : Hid (R2 = 2) := by show _ = _; rw [HR2.out, hr]; rfl
            subst hu
            clear hr hret hnext hpar2
            go_wp2; go_region; go_wp2
            go_region_with (first | (go_at_call 187; refine (cR _).mono ?_; rintro e wx ⟨rfl, rfl⟩) | (go_at_call 188; refine (cB _).mono ?_; rintro e w1 ⟨rfl, hb1⟩))
            all_goals
              go_wp2
              go_ret2
              exact ⟨by rw [h1.out, h2.out]; rfl, (hwr.drew.drew).trans (hb1.mono (by simpa using hwr.size))⟩
          · have hn' := hnext.out fun h => hu (hpar2.out.2 h)
            have HN : Hid _ := hn'
            have hue : (u.toList == (s.extract 0 2).toList) = false := beq_eq_false_iff_ne.2 fun h => hu (bytes_toList h)
            clear hn' hnext hret hpar2
            go_wp2; go_region; go_wp2
            go_region_with (first | (go_at_call 187; refine (cR _).mono ?_; rintro e wx ⟨rfl, rfl⟩) | (go_at_call 188; refine (cB _).mono ?_; rintro e w1 ⟨rfl, hb1⟩))
            all_goals
              go_wp2
              have hrel : ∃ k : Nat, 1 ≤ k ∧ k ≤ 5 ∧ Value.int .i64 3 = .int .i64 k ∧ (∀ j, 1 ≤ j → j < k → j ≤ s.data.toList.length → ¬ fits s.data.toList j) ∧ Below w.heap.size w w1 := ⟨3, by omega, by omega, rfl, HN.out, (hwr.drew.drew).trans (hb1.mono (by simpa using hwr.size))⟩
              exact ⟨hrel, by simp [intOf]⟩
        · have hn' := hnext.out fun h => hval h.1
          have HN : Hid _ := hn'
          rw [not_valid hval, hVV] at cR
          clear hn' hnext hret hpar hval hV hVV
          generalize byteAt s.data.toList 0 = B0 at *
          generalize byteAt s.data.toList 1 = B1 at *
          go_wp2; go_region; go_wp2
          go_quiet (first | (go_at_call 187; refine (cR _).mono ?_; rintro e wx ⟨rfl, rfl⟩; exact ⟨rfl, _, rfl⟩))
          go_wp2
          have hrel : ∃ k : Nat, 1 ≤ k ∧ k ≤ 5 ∧ Value.int .i64 3 = .int .i64 k ∧ (∀ j, 1 ≤ j → j < k → j ≤ s.data.toList.length → ¬ fits s.data.toList j) ∧ Below w.heap.size w (wr.drewN (1 + nq)) := ⟨3, by omega, by omega, rfl, HN.out, hwr.trans ⟨rfl, rfl, rfl, Nat.le_refl _, fun _ _ => rfl⟩⟩
          exact ⟨hrel, by simp [intOf]⟩
      · obtain rfl : _ = Value.int .i64 3 := hn
        have p0 : 0 < s.size := by omega
        have e0 := byteAt_elem s 0 p0
        have l0 := byteAt_lt s.data.toList 0
        have p1 : 1 < s.size := by omega
        have e1 := byteAt_elem s 1 p1
        have l1 := byteAt_lt s.data.toList 1
        have p2 : 2 < s.size := by omega
        have e2 := byteAt_elem s 2 p2
        have l2 := byteAt_lt s.data.toList 2
        have hVV : (valN s.data.toList 3 : Int) = (byteAt s.data.toList 0 : Int) % 16 * 4096 + (byteAt s.data.toList 1 : Int) % 64 * 64 + (byteAt s.data.toList 2 : Int) % 64 := by
          show ((byteAt s.data.toList 0 % 16 * 4096 + byteAt s.data.toList 1 % 64 * 64 + byteAt s.data.toList 2 % 64 : Nat) : Int) = _
          omega
        have cR := Rune_any (valN s.data.toList 3) (by omega) (by omega)
        by_cases hval : isRune (valN s.data.toList 3)
        · have cB := Bytes_any _ hval
          have hvR := valid_of_rune hval
          rw [hvR] at cR
          have hpar2 : Hid ((⟨(enc (valN s.data.toList 3)).toArray⟩ : ByteArray) = s.extract 0 3 ↔ fits s.data.toList 3) := ⟨fun h => hpar.out.1 ⟨hval, h⟩, fun h => (hpar.out.2 h).2⟩
          generalize (⟨(enc (valN s.data.toList 3)).toArray⟩ : ByteArray) = u at cB hpar2
          rw [hVV] at cR cB
          clear hvR hval hpar hV
          generalize byteAt s.data.toList 0 = B0 at *
          generalize byteAt s.data.toList 1 = B1 at *
          generalize byteAt s.data.toList 2 = B2 at *
          have HV : Hid ((valN s.data.toList 3 : Int) = (B0 : Int) % 16 * 4096 + (B1 : Int) % 64 * 64 + (B2 : Int) % 64) := hVV
          clear hVV
          by_cases hu : u = s.extract 0 3
          · have hr := hret.out (hpar2.out.1 hu)
            have h1 : Hid (R1 = (B0 : Int) % 16 * 4096 + (B1 : Int) % 64 * 64 + (B2 : Int) % 64) := by show _ = _; rw [HR1.out, hr]; exact HV.out
            have h2 : Hid (R2 = 3) := by show _ = _; rw [HR2.out, hr]; rfl
            subst hu
            clear hr hret hnext hpar2
            go_wp2; go_region; go_wp2
            go_region_with (first | (go_at_call 187; refine (cR _).mono ?_; rintro e wx ⟨rfl, rfl⟩) | (go_at_call 188; refine (cB _).mono ?_; rintro e w1 ⟨rfl, hb1⟩))
            all_goals
              go_wp2
              go_ret2
              exact ⟨by rw [h1.out, h2.out]; rfl, (hwr.drew.drew).trans (hb1.mono (by simpa using hwr.size))⟩
          · have hn' := hnext.out fun h => hu (hpar2.out.2 h)
            have HN : Hid _ := hn'
            have hue : (u.toList == (s.extract 0 3).toList) = false := beq_eq_false_iff_ne.2 fun h => hu (bytes_toList h)
            clear hn' hnext hret hpar2
            go_wp2; go_region; go_wp2
            go_region_with (first | (go_at_call 187; refine (cR _).mono ?_; rintro e wx ⟨rfl, rfl⟩) | (go_at_call 188; refine (cB _).mono ?_; rintro e w1 ⟨rfl, hb1⟩))
            all_goals
              go_wp2
              have hrel : ∃ k : Nat, 1 ≤ k ∧ k ≤ 5 ∧ Value.int .i64 4 = .int .i64 k ∧ (∀ j, 1 ≤ j → j < k → j ≤ s.data.toList.length → ¬ fits s.data.toList j) ∧ Below w.heap.size w w1 := ⟨4, by omega, by omega, rfl, HN.out, (hwr.drew.drew).trans (hb1.mono (by simpa using hwr.size))⟩
              exact ⟨hrel, by simp [intOf]⟩
        · have hn' := hnext.out fun h => hval h.1
          have HN : Hid _ := hn'
          rw [not_valid hval, hVV] at cR
          clear hn' hnext hret hpar hval hV hVV
          generalize byteAt s.data.toList 0 = B0 at *
          generalize byteAt s.data.toList 1 = B1 at *
          generalize byteAt s.data.toList 2 = B2 at *
          go_wp2; go_region; go_wp2
          go_quiet (first | (go_at_call 187; refine (cR _).mono ?_; rintro e wx ⟨rfl, rfl⟩; exact ⟨rfl, _, rfl⟩))
          go_wp2
          have hrel : ∃ k : Nat, 1 ≤ k ∧ k ≤ 5 ∧ Value.int .i64 4 = .int .i64 k ∧ (∀ j, 1 ≤ j → j < k → j ≤ s.data.toList.length → ¬ fits s.data.toList j) ∧ Below w.heap.size w (wr.drewN (1 + nq)) := ⟨4, by omega, by omega, rfl, HN.out, hwr.trans ⟨rfl, rfl, rfl, Nat.le_refl _, fun _ _ => rfl⟩⟩
          exact ⟨hrel, by simp [intOf]⟩
      · obtain rfl : _ = Value.int .i64 4 := hn
        have p0 : 0 < s.size := by omega
        have e0 := byteAt_elem s 0 p0
        have l0 := byteAt_lt s.data.toList 0
        have p1 : 1 < s.size := by omega
        have e1 := byteAt_elem s 1 p1
        have l1 := byteAt_lt s.data.toList 1
        have p2 : 2 < s.size := by omega
        have e2 := byteAt_elem s 2 p2
        have l2 := byteAt_lt s.data.toList 2
        have p3 : 3 < s.size := by omega
        have e3 := byteAt_elem s 3 p3
        have l3 := byteAt_lt s.data.toList 3
        have hVV : (valN s.data.toList 4 : Int) = (byteAt s.data.toList 0 : Int) % 8 * 262144 + (byteAt s.data.toList 1 : Int) % 64 * 4096 + (byteAt s.data.toList 2 : Int) % 64 * 64 + (byteAt s.data.toList 3 : Int) % 64 := by
          show ((byteAt s.data.toList 0 % 8 * 262144 + byteAt s.data.toList 1 % 64 * 4096 + byteAt s.data.toList 2 % 64 * 64 + byteAt s.data.toList 3 % 64 : Nat) : Int) = _
          omega
        have cR := Rune_any (valN s.data.toList 4) (by omega) (by omega)
        by_cases hval : isRune (valN s.data.toList 4)
        · have cB := Bytes_any _ hval
          have hvR := valid_of_rune hval
          rw [hvR] at cR
          have hpar2 : Hid ((⟨(enc (valN s.data.toList 4)).toArray⟩ : ByteArray) = s.extract 0 4 ↔ fits s.data.toList 4) := ⟨fun h => hpar.out.1 ⟨hval, h⟩, fun h => (hpar.out.2 h).2⟩
          generalize (⟨(enc (valN s.data.toList 4)).toArray⟩ : ByteArray) = u at cB hpar2
          rw [hVV] at cR cB
          clear hvR hval hpar hV
          generalize byteAt s.data.toList 0 = B0 at *
          generalize byteAt s.data.toList 1 = B1 at *
          generalize byteAt s.data.toList 2 = B2 at *
          generalize byteAt s.data.toList 3 = B3 at *
          have HV : Hid ((valN s.data.toList 4 : Int) = (B0 : Int) % 8 * 262144 + (B1 : Int) % 64 * 4096 + (B2 : Int) % 64 * 64 + (B3 : Int) % 64) := hVV
          clear hVV
          by_cases hu : u = s.extract 0 4
          · have hr := hret.out (hpar2.out.1 hu)
            have h1 : Hid (R1 = (B0 : Int) % 8 * 262144 + (B1 : Int) % 64 * 4096 + (B2 : Int) % 64 * 64 + (B3 : Int) % 64) := by show _ = _; rw [HR1.out, hr]; exact HV.out
            have h2 : Hid (R2 = 4) := by show _ = _; rw [HR2.out, hr]; rfl
            subst hu
            clear hr hret hnext hpar2
            go_wp2; go_region; go_wp2
            go_region_with (first | (go_at_call 187; refine (cR _).mono ?_; rintro e wx ⟨rfl, rfl⟩) | (go_at_call 188; refine (cB _).mono ?_; rintro e w1 ⟨rfl, hb1⟩))
            all_goals
              go_wp2
              go_ret2
              exact ⟨by rw [h1.out, h2.out]; rfl, (hwr.drew.drew).trans (hb1.mono (by simpa using hwr.size))⟩
          · have hn' := hnext.out fun h => hu (hpar2.out.2 h)
            have HN : Hid _ := hn'
            have hue : (u.toList == (s.extract 0 4).toList) = false := beq_eq_false_iff_ne.2 fun h => hu (bytes_toList h)
            clear hn' hnext hret hpar2
            go_wp2; go_region; go_wp2
            go_region_with (first | (go_at_call 187; refine (cR _).mono ?_; rintro e wx ⟨rfl, rfl⟩) | (go_at_call 188; refine (cB _).mono ?_; rintro e w1 ⟨rfl, hb1⟩))
            all_goals
              go_wp2
              have hrel : ∃ k : Nat, 1 ≤ k ∧ k ≤ 5 ∧ Value.int .i64 5 = .int .i64 k ∧ (∀ j, 1 ≤ j → j < k → j ≤ s.data.toList.length → ¬ fits s.data.toList j) ∧ Below w.heap.size w w1 := ⟨5, by omega, by omega, rfl, HN.out, (hwr.drew.drew).trans (hb1.mono (by simpa using hwr.size))⟩
              exact ⟨hrel, by simp [intOf]⟩
        · have hn' := hnext.out fun h => hval h.1
          have HN : Hid _ := hn'
          rw [not_valid hval, hVV] at cR
          clear hn' hnext hret hpar hval hV hVV
          generalize byteAt s.data.toList 0 = B0 at *
          generalize byteAt s.data.toList 1 = B1 at *
          generalize byteAt s.data.toList 2 = B2 at *
          generalize byteAt s.data.toList 3 = B3 at *
          go_wp2; go_region; go_wp2
          go_quiet (first | (go_at_call 187; refine (cR _).mono ?_; rintro e wx ⟨rfl, rfl⟩; exact ⟨rfl, _, rfl⟩))
          go_wp2
          have hrel : ∃ k : Nat, 1 ≤ k ∧ k ≤ 5 ∧ Value.int .i64 5 = .int .i64 k ∧ (∀ j, 1 ≤ j → j < k → j ≤ s.data.toList.length → ¬ fits s.data.toList j) ∧ Below w.heap.size w (wr.drewN (1 + nq)) := ⟨5, by omega, by omega, rfl, HN.out, hwr.trans ⟨rfl, rfl, rfl, Nat.le_refl _, fun _ _ => rfl⟩⟩
          exact ⟨hrel, by simp [intOf]⟩
    · have hz : firstOf s.data.toList = (0, 0) := firstOf_none fun n h1 h2 h3 => hno n h1 (by rw [← hsz.out] at h3; omega) h3
      have h1 : Hid (R1 = 0) := by show _ = _; rw [HR1.out, hz]; rfl
      have h2 : Hid (R2 = 0) := by show _ = _; rw [HR2.out, hz]; rfl
      subst hn
      clear hno hz
      by_cases hk : k ≤ 4
      · have hks : ¬ k ≤ s.size := fun h => hin ⟨hk, h⟩
        clear hin
        go_wp2
        go_ret2
        exact ⟨by rw [h1.out, h2.out]; rfl, hwr⟩
      · clear hin
        go_wp2
        go_ret2
        exact ⟨by rw [h1.out, h2.out]; rfl, hwr⟩
end Go.Proofs.YtfedgjnhanlmeabGreatDoor

namespace Go.Proofs.YtfedgjnhanlmeabGreatDoor
open Go.RowKit
set_option linter.unusedVariables false

theorem extract_list (s : ByteArray) (k : Nat) : (s.extract k s.size).data.toList = s.data.toList.drop k := by
  rw [Lib.extract_data, List.take_of_length_le (by rw [List.length_drop, ← Lib.size_eq]; exact Nat.le_refl _)]

set_option maxRecDepth 100000 in
set_option maxHeartbeats 4000000 in
theorem refRunes_any (s : ByteArray) (hs : s.size < 100000000) (w : World) :
    Calls Tryz.prog 79 #[.string s] w fun e w' => Below w.heap.size w w' ∧
      (((scan s.data.toList).2 = true ∧ ∃ v, e = .returned (.tuple #[v, fault 0 (-1)]) ∧ isRow w w' 21 v (cellsOf21 (scan s.data.toList).1)) ∨
       ((scan s.data.toList).2 = false ∧ e = .returned (.tuple #[.slice none 0 0, fault 3 (place s.data.toList)]))) := by
  have hsz : Hid (s.size = s.data.toList.length) := Lib.size_eq s
  obtain ⟨i0, hi, hz0, hz1, hz2⟩ := info_parts info21
  unfold fault
  go_enter Tryz.func79, Tryz.ntmps79
  go_wp2
  go_loopw [4, 5] (fun b i wr => ∃ (k : Nat) (done : List (Nat × Nat)), k ≤ s.size ∧ i = .int .i64 k ∧ (scan s.data.toList).1 = done ++ (scan (s.data.toList.drop k)).1 ∧ (done.map (·.2)).sum = k ∧ (scan s.data.toList).2 = (scan (s.data.toList.drop k)).2 ∧ done.length ≤ k ∧
      wr.ownsRow (w.heap.size + 1) 21 1 b done.length (cellsOf21 done) ∧
      wr.cell? ⟨w.heap.size, 0, none⟩ = some (.int .i64 0) ∧ wr.cell? ⟨w.heap.size, 1, none⟩ = some (.int .i64 0) ∧ wr.frozen? ⟨w.heap.size, 0, none⟩ = false ∧ wr.frozen? ⟨w.heap.size, 1, none⟩ = false ∧ Below w.heap.size w wr) (fun _ i _ => s.size - (intOf i).toNat)
  case atStart => exact ⟨0, [], Nat.zero_le _, rfl, by rw [List.drop_zero]; rfl, rfl, by rw [List.drop_zero], Nat.le_refl _, World.ownsRow_nil _ _ _ _, by simp [go_sem], by simp [go_sem], by simp [go_sem], by simp [go_sem], (Below.refl _ _).alloc (Nat.le_refl _) _⟩
  case round =>
    obtain ⟨k, done, hk, rfl, hd1, hd2, hd3, hdl, hown, c0, c1, f0, f1, hwr⟩ := hrel
    have hbl : w.heap.size < wr.heap.size := World.block_lt_of_cell? wr _ c0
    by_cases hlt : k < s.size
    · have hne : s.data.toList.drop k ≠ [] := by
        intro e
        have := congrArg List.length e
        rw [List.length_drop, List.length_nil, ← Lib.size_eq] at this
        omega
      have cF := first_any (s.extract k s.size) (by rw [ByteArray.size_extract]; omega) wr
      rw [extract_list] at cF
      unfold firstOf at cF
      rw [if_neg hne] at cF
      have hge := dec_ge1 (s.data.toList.drop k)
      have hle := dec_le hne
      rw [List.length_drop, ← hsz.out] at hle
      have hdn : done.length < 100000000 := by omega
      by_cases hb : badB (dec (s.data.toList.drop k)) = true
      · rw [hb] at cF
        simp only [if_true] at cF
        have hs2 := scan_bad hne hb
        have hpl : Hid (place s.data.toList = k) := by
          show _ = _
          unfold place
          rw [hd1, hs2, List.append_nil, hd2]
        have hf : Hid ((scan s.data.toList).2 = false) := by show _ = _; rw [hd3, hs2]
        clear hd1 hd2 hd3 hdl hs2 hown hne hb hge hle
        go_wp2_with (first | (go_at_call 137; refine cF.mono ?_; rintro e w1 ⟨rfl, hb1⟩; have e0 := (hb1.cell (p := ⟨w.heap.size, 0, none⟩) hbl).trans c0; have e1 := (hb1.cell (p := ⟨w.heap.size, 1, none⟩) hbl).trans c1; have g0 := (hb1.frozen (p := ⟨w.heap.size, 0, none⟩) hbl).trans f0; have g1 := (hb1.frozen (p := ⟨w.heap.size, 1, none⟩) hbl).trans f1) | fail)
        refine bodyPost_ret (v := .tuple #[.slice none 0 0, .agg #[.int .i64 3, .int .i64 k]]) (by simp [results, Tryz.results79, go_sem, e0, e1]) rfl ?_
        refine ⟨((hwr.trans (hb1.mono hwr.size)).setCell (p := ⟨w.heap.size, 0, none⟩) (Nat.le_refl _) _).setCell (p := ⟨w.heap.size, 1, none⟩) (Nat.le_refl _) _, .inr ⟨hf.out, by rw [hpl.out]⟩⟩
      · have hb : badB (dec (s.data.toList.drop k)) = false := Bool.eq_false_iff.2 hb
        rw [hb] at cF
        simp only [Bool.false_eq_true, if_false] at cF
        have hs2 := scan_good hne hb
        rw [List.drop_drop] at hs2
        obtain ⟨R, hR⟩ : ∃ R, R = (dec (s.data.toList.drop k)).1 := ⟨_, rfl⟩
        obtain ⟨K, hK⟩ : ∃ K, K = (dec (s.data.toList.drop k)).2 := ⟨_, rfl⟩
        have hp : dec (s.data.toList.drop k) = (R, K) := by rw [hR, hK]
        rw [hp] at cF hs2 hge hle
        simp only [] at cF hs2 hge hle
        have hnext : Hid ((scan s.data.toList).1 = done ++ [(R, K)] ++ (scan (s.data.toList.drop (k + K))).1) := by
          show _ = _
          rw [hd1, hs2, List.append_assoc]; rfl
        have hnext2 : Hid (((done ++ [(R, K)]).map (·.2)).sum = k + K) := by
          show _ = _
          rw [List.map_append, List.sum_append, hd2]; rfl
        have hnext3 : Hid ((scan s.data.toList).2 = (scan (s.data.toList.drop (k + K))).2) := by show _ = _; rw [hd3, hs2]
        have hnext4 : Hid ((done ++ [(R, K)]).length ≤ k + K) := by
          show _ ≤ _
          rw [List.length_append]
          simp
          omega
        have hr0 : ((K : Int) == 0) = false := by
          rw [beq_eq_false_iff_ne]
          intro e
          omega
        have NX : Hid (∀ w0 w1 v' o, Below wr.heap.size wr w0 → w1.ownsRow (w.heap.size + 1) 21 1 v' (done.length + 1) (cellsOf21 done ++ [.int .i32 R]) → (w0.alloc o).grownBy w1 (u4).ownBlock →
            w1.ownsRow (w.heap.size + 1) 21 1 v' (done ++ [(R, K)]).length (cellsOf21 (done ++ [(R, K)])) ∧
            w1.cell? ⟨w.heap.size, 0, none⟩ = some (.int .i64 0) ∧ w1.cell? ⟨w.heap.size, 1, none⟩ = some (.int .i64 0) ∧ w1.frozen? ⟨w.heap.size, 0, none⟩ = false ∧ w1.frozen? ⟨w.heap.size, 1, none⟩ = false ∧ Below w.heap.size w w1) := by
          intro w0 w1 v' o hb0 h1 hg
          have hB : Below (w.heap.size + 1) wr w1 := ((hb0.mono hbl).alloc (Nat.le_trans hbl hb0.size) o).grown hg (by rw [World.size_alloc]; have := hb0.size; omega) fun k hk => (hown.lt k hk).1
          refine ⟨?_, (hB.cell (p := ⟨w.heap.size, 0, none⟩) (Nat.lt_succ_self _)).trans c0, (hB.cell (p := ⟨w.heap.size, 1, none⟩) (Nat.lt_succ_self _)).trans c1, (hB.frozen (p := ⟨w.heap.size, 0, none⟩) (Nat.lt_succ_self _)).trans f0, (hB.frozen (p := ⟨w.heap.size, 1, none⟩) (Nat.lt_succ_self _)).trans f1, hwr.trans (hB.mono (Nat.le_succ _))⟩
          have e : cellsOf21 (done ++ [(R, K)]) = cellsOf21 done ++ [.int .i32 R] := by simp [cellsOf21]
          rw [List.length_append, e]
          exact h1
        obtain ⟨pb, cb, rfl⟩ := own_slice hown
        clear hd1 hd2 hd3 hdl hs2 hp hR hK hne hb
        generalize cellsOf21 done = xs at hown NX
        go_wp2_with (first | (go_at_call 137; refine cF.mono ?_; rintro e w0 ⟨rfl, hb1⟩; have hown0 := own_below hown hb1; have hz9 := hb1.size) | (at_builtin; refine wpList_append_own _ rfl (.tmp 23) (.tmp 25) 139 rfl (w.heap.size + 1) 21 i0 (.int .i32 0) 1 4 Tryz.underlying139 hi hz0 hz1 hz2 rfl (by decide) _ _ _ rfl (hown0.alloc _) ⟨w0.heap.size, 0, none⟩ 1 1 [.int .i32 R] rfl rfl (cell_one_new _ _ _) (ints_oneCell .i32 [(R : Int)]) (by unfold maxLen; omega) (by omega) (by first | omega | (simp; omega)) ?_; intro v' w1 hown1 hg _) | fail)
        have hnx := NX.out w0 w1 v' _ hb1 hown1 hg
        obtain ⟨n0, n1, n2, n3, n4, n5⟩ := hnx
        clear hown1 hg hown hown0
        go_wp2
        go_roundw
        case rel => exact ⟨k + K, _, by omega, by go_num, hnext.out, hnext2.out, hnext3.out, hnext4.out, n0, n1, n2, n3, n4, n5⟩
        case measure => simp [intOf]; omega
    · have hend : s.data.toList.drop k = [] := List.drop_eq_nil_of_le (by rw [← Lib.size_eq]; omega)
      rw [hend, scan_nil] at hd1 hd3
      rw [List.append_nil] at hd1
      obtain ⟨pb, cb, rfl⟩ := own_slice hown
      have HO : Hid (wr.ownsRow (w.heap.size + 1) 21 1 (.slice pb done.length cb) done.length (cellsOf21 done)) := hown
      have hfin : Hid ((scan s.data.toList).1 = done) := hd1
      have hok : Hid ((scan s.data.toList).2 = true) := hd3
      clear hd1 hd3 hend hdl hd2 hown
      go_wp2_with (first | (go_at_call 87; refine (Bare_any _ _).mono ?_; rintro e w1 ⟨rfl, hb1⟩; have e0 := (hb1.cell (p := ⟨w.heap.size, 0, none⟩) hbl).trans c0; have e1 := (hb1.cell (p := ⟨w.heap.size, 1, none⟩) hbl).trans c1; have g0 := (hb1.frozen (p := ⟨w.heap.size, 0, none⟩) hbl).trans f0; have g1 := (hb1.frozen (p := ⟨w.heap.size, 1, none⟩) hbl).trans f1) | fail)
      refine bodyPost_ret (v := .tuple #[.slice pb done.length cb, .agg #[.int .i64 0, .int .i64 (-1)]]) (by simp [results, Tryz.results79, go_sem, e0, e1]) rfl ?_
      refine ⟨((hwr.trans (hb1.mono hwr.size)).setCell (p := ⟨w.heap.size, 0, none⟩) (Nat.le_refl _) _).setCell (p := ⟨w.heap.size, 1, none⟩) (Nat.le_refl _) _, .inl ⟨hok.out, _, rfl, ?_⟩⟩
      rw [hfin.out]
      have hlen : (cellsOf21 done).length = done.length := by simp [cellsOf21]
      refine ⟨pb, cb, by rw [hlen], ?_⟩
      rw [hlen]
      exact own_mono (ownsRow_setCell_below (a := ⟨w.heap.size, 1, none⟩) (ownsRow_setCell_below (a := ⟨w.heap.size, 0, none⟩) (own_below HO.out hb1) (Nat.lt_succ_self _) _) (Nat.lt_succ_self _) _) (Nat.le_succ _)
end Go.Proofs.YtfedgjnhanlmeabGreatDoor

namespace Go.Proofs.YtfedgjnhanlmeabGreatDoor
open Go.RowKit
set_option linter.unusedVariables false

theorem refRunes_told (s : ByteArray) (hs : s.size < 100000000) (w : World) : Calls Tryz.prog 79 #[.string s] w fun e w' => ∃ p n c d, e = .returned (.tuple #[.slice p n c, .agg #[.int .i64 (if (scan s.data.toList).2 then 0 else 3), .int .i64 d]]) ∧ Below w.heap.size w w' := by
  refine (refRunes_any s hs w).mono ?_
  rintro e w' ⟨hb, ⟨h, v, rfl, hv⟩ | ⟨h, rfl⟩⟩
  · rw [if_pos h]
    obtain ⟨p, c, rfl, _⟩ := hv
    exact ⟨_, _, _, _, rfl, hb⟩
  · rw [if_neg (by rw [h]; simp)]
    exact ⟨_, _, _, _, rfl, hb⟩

theorem one_shapes {K D : Int} {U : List UInt8} (h : oneB ⟨K, D, U⟩ = true) : (D = 0 ∧ U = [] ∧ 0 < K) ∨ (K = 0 ∧ U = [] ∧ 0 < D) ∨ (K = 0 ∧ D = 0 ∧ U ≠ []) := by
  unfold oneB at h
  split at h
  · rename_i h1
    exact .inl ⟨h1.1, h1.2, of_decide_eq_true h⟩
  · rename_i h0
    split at h
    · rename_i h1
      exact .inr (.inl ⟨h1.1, h1.2, of_decide_eq_true h⟩)
    · have := of_decide_eq_true h
      exact .inr (.inr ⟨this.1, this.2, fun e => h0 ⟨this.2, e⟩⟩)
theorem none_shapes {K D : Int} {U : List UInt8} (h : oneB ⟨K, D, U⟩ = false) : (K ≠ 0 ∧ D ≠ 0 ∧ U ≠ []) ∨ (K ≠ 0 ∧ D ≠ 0 ∧ U = []) ∨ (K ≠ 0 ∧ D = 0 ∧ U ≠ []) ∨ (K = 0 ∧ D ≠ 0 ∧ U ≠ []) ∨ (K = 0 ∧ D = 0 ∧ U = []) ∨ (K < 0 ∧ D = 0 ∧ U = []) ∨ (K = 0 ∧ D < 0 ∧ U = []) := by
  unfold oneB at h
  by_cases h1 : K = 0 <;> by_cases h2 : D = 0 <;> by_cases h3 : U = [] <;> simp [h1, h2, h3] at h ⊢ <;> omega

set_option maxRecDepth 100000 in
set_option maxHeartbeats 4000000 in
theorem refCheck_any (v : Value) (ps : List Pt) (N : Int) (w : World) (hr : opAt w v ps) (hwf : ∀ p ∈ ps, wfP p) (hsm : ∀ p ∈ ps, p.put.length < 100000000) (hN : -9223372036854775808 ≤ N ∧ N < 9223372036854775808) (hl : ps.length < 10000000) :
    Calls Tryz.prog 84 #[v, .int .i64 N] w fun e w' => e = .returned (.int .i64 (chkE ps N)) ∧ Below w.heap.size w w' := by
  obtain ⟨p, c, rfl, r1, r2, r3⟩ := hr
  obtain ⟨n, hn⟩ : ∃ n, n = ps.length := ⟨_, rfl⟩
  rw [← hn] at r1 hl ⊢
  have HN : Hid (n = ps.length) := hn
  clear hn
  have R3 : Hid (ps ≠ [] → ∃ b o, p = some ⟨b, o, none⟩ ∧ b < w.heap.size ∧ ∀ i q, ps[i]? = some q →
    w.cell? ⟨b, o + i * 3, none⟩ = some (.int .i64 q.keep) ∧ w.cell? ⟨b, o + i * 3 + 1, none⟩ = some (.int .i64 q.drop) ∧ w.cell? ⟨b, o + i * 3 + 2, none⟩ = some (.string ⟨q.put.toArray⟩)) := r3
  have HWF : Hid (∀ p ∈ ps, wfP p) := hwf
  have HSM : Hid (∀ p ∈ ps, p.put.length < 100000000) := hsm
  obtain ⟨hN0, hN1⟩ := hN
  clear r3 hwf hsm
  go_enter Tryz.func84, Tryz.ntmps84
  go_wp2
  go_loopw [14] (fun i wr => ∃ (k : Nat), k ≤ n ∧ i = .int .i64 k ∧ chk1 ps = chk1 (ps.drop k) ∧ Below w.heap.size w wr) (fun i _ => n - (intOf i).toNat)
  case atStart => exact ⟨0, Nat.zero_le _, rfl, rfl, Below.refl _ _⟩
  case round =>
    obtain ⟨k, hk, rfl, hch, hwr⟩ := hrel
    by_cases hlt : k < n
    · have hkr : k < ps.length := by rw [← HN.out]; exact hlt
      have hne : ps ≠ [] := by intro e; rw [e] at hkr; exact absurd hkr (Nat.not_lt_zero _)
      obtain ⟨b, o, rfl, hbw, hcell⟩ := R3.out hne
      obtain ⟨c0, c1, c2⟩ := hcell k ps[k] (List.getElem?_eq_getElem hkr)
      have g0 := (hwr.cell (p := ⟨b, o + k * 3, none⟩) hbw).trans c0
      have g1 := (hwr.cell (p := ⟨b, o + k * 3 + 1, none⟩) hbw).trans c1
      have g2 := (hwr.cell (p := ⟨b, o + k * 3 + 2, none⟩) hbw).trans c2
      rw [List.drop_eq_getElem_cons hkr, chk1] at hch
      have hwq := HWF.out ps[k] (List.getElem_mem _)
      have hsm := HSM.out ps[k] (List.getElem_mem _)
      generalize ps[k] = q at *
      obtain ⟨K, D, U⟩ := q
      have hsize := hwr.size
      have HWR : Hid (Below w.heap.size w wr) := hwr
      have HBA : Hid (∀ o w2, Below (wr.alloc o).heap.size (wr.alloc o) w2 → Below w.heap.size w w2) := fun o w2 h => (hwr.alloc hsize o).trans (h.mono (hwr.alloc hsize o).size)
      have HBO : Hid (∀ o, Below w.heap.size w (wr.alloc o)) := fun o => hwr.alloc hsize o
      have cR' := fun wx => refRunes_told ⟨U.toArray⟩ (by simpa [ByteArray.size] using hsm) wx
      simp only at hch cR' g0 g1 g2
      by_cases h1 : oneB ⟨K, D, U⟩ = true
      · rw [if_pos h1] at hch
        by_cases h2 : (scan U).2 = true
        · rw [if_pos h2] at hch
          simp only [h2, if_true] at cR'
          have HCH : Hid (chk1 ps = chk1 (ps.drop (k + 1))) := hch
          have hsh := one_shapes h1
          clear hcell c0 c1 c2 hch hwq hwr HWF HSM h1 h2 hsm
          rcases hsh with ⟨rfl, rfl, s⟩ | ⟨rfl, rfl, s⟩ | ⟨rfl, rfl, s⟩
          · have sb : (K == 0) = false := beq_eq_false_iff_ne.2 (by omega)
            have sn : ¬ K < 0 := by omega
            have cR : ∀ wx, Calls Tryz.prog 79 #[.string ⟨#[]⟩] wx fun e w' => ∃ p n c d, e = .returned (.tuple #[.slice p n c, .agg #[.int .i64 0, .int .i64 d]]) ∧ Below wx.heap.size wx w' := cR'
            clear cR'
            go_wp2_with (first | (go_at_call 79; refine (cR _).mono ?_; rintro e w2 ⟨pp, nn, cc, dd, rfl, hb2⟩; have HB2 : Hid (Below w.heap.size w w2) := HBA.out _ _ hb2; clear hb2) | fail)
            go_roundw
            case rel => exact ⟨k + 1, by omega, by go_num, HCH.out, HB2.out.alloc HB2.out.size _⟩
            case measure => simp [intOf]; omega
          · have sb : (D == 0) = false := beq_eq_false_iff_ne.2 (by omega)
            have sn : ¬ D < 0 := by omega
            have cR : ∀ wx, Calls Tryz.prog 79 #[.string ⟨#[]⟩] wx fun e w' => ∃ p n c d, e = .returned (.tuple #[.slice p n c, .agg #[.int .i64 0, .int .i64 d]]) ∧ Below wx.heap.size wx w' := cR'
            clear cR'
            go_wp2_with (first | (go_at_call 79; refine (cR _).mono ?_; rintro e w2 ⟨pp, nn, cc, dd, rfl, hb2⟩; have HB2 : Hid (Below w.heap.size w w2) := HBA.out _ _ hb2; clear hb2) | fail)
            go_roundw
            case rel => exact ⟨k + 1, by omega, by go_num, HCH.out, HB2.out.alloc HB2.out.size _⟩
            case measure => simp [intOf]; omega
          · have cR := cR'
            have sU : U.isEmpty = false := by simpa using s
            clear cR'
            go_wp2_with (first | (go_at_call 79; refine (cR _).mono ?_; rintro e w2 ⟨pp, nn, cc, dd, rfl, hb2⟩; have HB2 : Hid (Below w.heap.size w w2) := HBA.out _ _ hb2; clear hb2) | fail)
            go_roundw
            case rel => exact ⟨k + 1, by omega, by go_num, HCH.out, HB2.out.alloc HB2.out.size _⟩
            case measure => simp [intOf]; omega
        · have h2 : (scan U).2 = false := Bool.eq_false_iff.2 h2
          have hU : U ≠ [] := by intro e; rw [e] at h2; cases h2
          rw [h2] at hch
          simp only [h2, Bool.false_eq_true, if_false] at cR'
          have HCH : Hid (chk1 ps = 3) := by show chk1 ps = 3; simpa using hch
          have hsh := one_shapes h1
          clear hcell c0 c1 c2 hch hwq hwr HWF HSM h1 h2 hsm
          rcases hsh with ⟨rfl, rfl, s⟩ | ⟨rfl, rfl, s⟩ | ⟨rfl, rfl, s⟩
          · exact absurd rfl hU
          · exact absurd rfl hU
          · have cR := cR'
            have sU : U.isEmpty = false := by simpa using s
            clear cR'
            go_wp2_with (first | (go_at_call 79; refine (cR _).mono ?_; rintro e w2 ⟨pp, nn, cc, dd, rfl, hb2⟩; have HB2 : Hid (Below w.heap.size w w2) := HBA.out _ _ hb2; clear hb2) | fail)
            go_ret
            refine ⟨?_, HB2.out.alloc HB2.out.size _⟩
            unfold chkE
            rw [HCH.out]
            rfl
      · have h1 : oneB ⟨K, D, U⟩ = false := Bool.eq_false_iff.2 h1
        rw [h1] at hch
        have HCH : Hid (chk1 ps = 1) := by show chk1 ps = 1; simpa using hch
        have hsh := none_shapes h1
        clear hcell c0 c1 c2 hch hwq hwr HWF HSM h1 hsm cR'
        rcases hsh with ⟨s1, s2, s3⟩ | ⟨s1, s2, rfl⟩ | ⟨s1, rfl, s3⟩ | ⟨rfl, s2, s3⟩ | ⟨rfl, rfl, rfl⟩ | ⟨s1, rfl, rfl⟩ | ⟨rfl, s2, rfl⟩
        · have kb : (K == 0) = false := beq_eq_false_iff_ne.2 (by omega)
          have db : (D == 0) = false := beq_eq_false_iff_ne.2 (by omega)
          have sU : U.isEmpty = false := by simpa using s3
          go_wp2
          go_ret
          refine ⟨?_, HBO.out _⟩
          unfold chkE
          rw [HCH.out]
          rfl
        · have kb : (K == 0) = false := beq_eq_false_iff_ne.2 (by omega)
          have db : (D == 0) = false := beq_eq_false_iff_ne.2 (by omega)
          go_wp2
          go_ret
          refine ⟨?_, HBO.out _⟩
          unfold chkE
          rw [HCH.out]
          rfl
        · have kb : (K == 0) = false := beq_eq_false_iff_ne.2 (by omega)
          have sU : U.isEmpty = false := by simpa using s3
          go_wp2
          go_ret
          refine ⟨?_, HBO.out _⟩
          unfold chkE
          rw [HCH.out]
          rfl
        · have db : (D == 0) = false := beq_eq_false_iff_ne.2 (by omega)
          have sU : U.isEmpty = false := by simpa using s3
          go_wp2
          go_ret
          refine ⟨?_, HBO.out _⟩
          unfold chkE
          rw [HCH.out]
          rfl
        · have t0 := HBO.out
          clear t0
          go_wp2
          go_ret
          refine ⟨?_, HBO.out _⟩
          unfold chkE
          rw [HCH.out]
          rfl
        · have kb : (K == 0) = false := beq_eq_false_iff_ne.2 (by omega)
          go_wp2
          go_ret
          refine ⟨?_, HBO.out _⟩
          unfold chkE
          rw [HCH.out]
          rfl
        · have db : (D == 0) = false := beq_eq_false_iff_ne.2 (by omega)
          go_wp2
          go_ret
          refine ⟨?_, HBO.out _⟩
          unfold chkE
          rw [HCH.out]
          rfl
    · have e : ps.drop k = [] := List.drop_of_length_le (by rw [← HN.out]; omega)
      rw [e] at hch
      have H0 : Hid (chk1 ps = 0) := hch
      have HWR : Hid (Below w.heap.size w wr) := hwr
      have HON : Hid (∀ p ∈ ps, soundP p ∧ (p.keep = 0 ∨ p.drop = 0)) := fun p hp => one_sound (chk1_ones hch p hp).1
      clear e hch hwr
      go_wp2
      go_loopw [1, 57] (fun m i wr => ∃ (k : Nat) (M : Int), k ≤ n ∧ i = .int .i64 k ∧ m = .int .i64 M ∧ -9223372036854775808 ≤ M ∧ M < 9223372036854775808 ∧ chk2 ps N = chk2 (ps.drop k) M ∧ Below w.heap.size w wr) (fun _ i _ => n - (intOf i).toNat)
      case atStart => exact ⟨0, N, Nat.zero_le _, rfl, rfl, hN0, hN1, rfl, HWR.out⟩
      case round =>
        obtain ⟨k, M, hk, rfl, rfl, hM0, hM1, hch, hwr⟩ := hrel
        by_cases hlt : k < n
        · have hkr : k < ps.length := by rw [← HN.out]; exact hlt
          have hne : ps ≠ [] := by intro e; rw [e] at hkr; exact absurd hkr (Nat.not_lt_zero _)
          obtain ⟨b, o, rfl, hbw, hcell⟩ := R3.out hne
          obtain ⟨c0, c1, c2⟩ := hcell k ps[k] (List.getElem?_eq_getElem hkr)
          have g0 := (hwr.cell (p := ⟨b, o + k * 3, none⟩) hbw).trans c0
          have g1 := (hwr.cell (p := ⟨b, o + k * 3 + 1, none⟩) hbw).trans c1
          have g2 := (hwr.cell (p := ⟨b, o + k * 3 + 2, none⟩) hbw).trans c2
          rw [List.drop_eq_getElem_cons hkr, chk2] at hch
          have hwq := HWF.out ps[k] (List.getElem_mem _)
          have hon := HON.out ps[k] (List.getElem_mem _)
          generalize ps[k] = q at *
          obtain ⟨⟨s0, s1⟩, s2⟩ := hon
          have hsum0 : 0 ≤ q.keep + q.drop := by omega
          have hsum1 : q.keep + q.drop < 9223372036854775808 := by have := hwq.2.1; have := hwq.2.2.2.1; omega
          have hw1 : IntKind.i64.wrap (q.keep + q.drop) = q.keep + q.drop := by rw [IntKind.wrap_i64]; omega
          have HB0 : Hid (Below w.heap.size w (wr.alloc (.cells #[.int .i64 q.keep, .int .i64 q.drop, .string ⟨q.put.toArray⟩] 50))) := hwr.alloc hwr.size _
          by_cases h1 : M < q.keep + q.drop
          · rw [if_pos h1] at hch
            have HCH : Hid (chk2 ps N = 2) := hch
            by_cases hK : M < q.keep
            · clear hcell c0 c1 c2 hch hwq hwr HWF HSM s2 hw1
              go_wp2
              go_ret
              refine ⟨?_, HB0.out⟩
              unfold chkE
              rw [if_pos H0.out, HCH.out]
              rfl
            · have hD : M < q.drop := by omega
              clear hcell c0 c1 c2 hch hwq hwr HWF HSM s2 hw1
              go_wp2
              go_ret
              refine ⟨?_, HB0.out⟩
              unfold chkE
              rw [if_pos H0.out, HCH.out]
              rfl
          · rw [if_neg h1, ← Int.sub_sub] at hch
            have HCH : Hid (chk2 ps N = chk2 (ps.drop (k + 1)) (M - q.keep - q.drop)) := hch
            have hK : ¬ M < q.keep := by omega
            have hD : ¬ M < q.drop := by omega
            have hw2 : IntKind.i64.wrap (M - q.keep) = M - q.keep := by rw [IntKind.wrap_i64]; omega
            have hw3 : IntKind.i64.wrap (M - q.keep - q.drop) = M - q.keep - q.drop := by rw [IntKind.wrap_i64]; omega
            clear hcell c0 c1 c2 hch hwq hwr HWF HSM s2 hw1
            go_wp2
            go_roundw
            case rel => exact ⟨k + 1, M - q.keep - q.drop, by omega, by go_num, by first | rfl | go_num, by omega, by omega, HCH.out, HB0.out⟩
            case measure => simp [intOf]; omega
        · have e : ps.drop k = [] := List.drop_of_length_le (by rw [← HN.out]; omega)
          rw [e, chk2] at hch
          have HX : Hid (Below w.heap.size w wr) := hwr
          by_cases h0 : M = 0
          · rw [if_pos h0] at hch
            subst h0
            have HCH : Hid (chk2 ps N = 0) := hch
            clear e hch hwr
            go_wp2
            go_ret
            refine ⟨?_, HX.out⟩
            unfold chkE
            rw [if_pos H0.out, HCH.out]
            rfl
          · rw [if_neg h0] at hch
            have hmb : (M == 0) = false := beq_eq_false_iff_ne.2 h0
            have HCH : Hid (chk2 ps N = 2) := hch
            clear e hch hwr
            go_wp2
            go_ret
            refine ⟨?_, HX.out⟩
            unfold chkE
            rw [if_pos H0.out, HCH.out]
            rfl
end Go.Proofs.YtfedgjnhanlmeabGreatDoor

namespace Go.Proofs.YtfedgjnhanlmeabGreatDoor
open Go.RowKit
set_option linter.unusedVariables false

def lenW (s : Int × Int) (p : Pt) : Int × Int := (IntKind.i64.wrap (s.1 + IntKind.i64.wrap (p.keep + p.drop)), IntKind.i64.wrap (s.2 + IntKind.i64.wrap (p.keep + p.put.length)))
def lensW (ps : List Pt) : Int × Int := ps.foldl lenW (0, 0)

set_option maxRecDepth 100000 in
set_option maxHeartbeats 2000000 in
theorem Lens_any (v : Value) (ps : List Pt) (w : World) (hr : opAt w v ps) (hl : ps.length < 10000000) :
    Calls Tryz.prog 118 #[v] w fun e w' => e = .returned (.tuple #[.int .i64 (lensW ps).1, .int .i64 (lensW ps).2]) ∧ Below w.heap.size w w' := by
  obtain ⟨p, c, rfl, r1, r2, r3⟩ := hr
  obtain ⟨n, hn⟩ : ∃ n, n = ps.length := ⟨_, rfl⟩
  rw [← hn] at r1 hl ⊢
  have HN : Hid (n = ps.length) := hn
  clear hn
  have R3 : Hid (ps ≠ [] → ∃ b o, p = some ⟨b, o, none⟩ ∧ b < w.heap.size ∧ ∀ i q, ps[i]? = some q →
    w.cell? ⟨b, o + i * 3, none⟩ = some (.int .i64 q.keep) ∧ w.cell? ⟨b, o + i * 3 + 1, none⟩ = some (.int .i64 q.drop) ∧ w.cell? ⟨b, o + i * 3 + 2, none⟩ = some (.string ⟨q.put.toArray⟩)) := r3
  clear r3
  go_enter Tryz.func118, Tryz.ntmps118
  go_wp2
  go_loopw [2, 3, 8] (fun x y i wr => ∃ (k : Nat), k ≤ n ∧ i = .int .i64 k ∧ x = .int .i64 (lensW (ps.take k)).1 ∧ y = .int .i64 (lensW (ps.take k)).2 ∧ Below w.heap.size w wr) (fun _ _ i _ => n - (intOf i).toNat)
  case atStart => exact ⟨0, Nat.zero_le _, rfl, rfl, rfl, Below.refl _ _⟩
  case round =>
    obtain ⟨k, hk, rfl, rfl, rfl, hwr⟩ := hrel
    by_cases hlt : k < n
    · have hkr : k < ps.length := by rw [← HN.out]; exact hlt
      have hne : ps ≠ [] := by intro e; rw [e] at hkr; exact absurd hkr (Nat.not_lt_zero _)
      obtain ⟨b, o, rfl, hbw, hcell⟩ := R3.out hne
      obtain ⟨c0, c1, c2⟩ := hcell k ps[k] (List.getElem?_eq_getElem hkr)
      have g0 := (hwr.cell (p := ⟨b, o + k * 3, none⟩) hbw).trans c0
      have g1 := (hwr.cell (p := ⟨b, o + k * 3 + 1, none⟩) hbw).trans c1
      have g2 := (hwr.cell (p := ⟨b, o + k * 3 + 2, none⟩) hbw).trans c2
      have hts : lensW (ps.take (k + 1)) = lenW (lensW (ps.take k)) ps[k] := by
        unfold lensW
        rw [List.take_succ_eq_append_getElem hkr, List.foldl_append]; rfl
      generalize ps[k] = q at *
      generalize lensW (ps.take k) = AB at *
      obtain ⟨A, B⟩ := AB
      obtain ⟨K, D, U⟩ := q
      unfold lenW at hts
      simp only at hts g0 g1 g2 ⊢
      obtain ⟨x1, h1⟩ : ∃ x, IntKind.i64.wrap (K + D) = x := ⟨_, rfl⟩
      obtain ⟨x2, h2⟩ : ∃ x, IntKind.i64.wrap (K + (U.length : Int)) = x := ⟨_, rfl⟩
      obtain ⟨y1, h3⟩ : ∃ x, IntKind.i64.wrap (A + x1) = x := ⟨_, rfl⟩
      obtain ⟨y2, h4⟩ : ∃ x, IntKind.i64.wrap (B + x2) = x := ⟨_, rfl⟩
      rw [h1, h2, h3, h4] at hts
      have HTS : Hid (lensW (ps.take (k + 1)) = (y1, y2)) := hts
      have HWR : Hid (Below w.heap.size w wr) := hwr
      clear hcell c0 c1 c2 hts hwr
      go_wp2
      go_roundw
      case rel => exact ⟨k + 1, by omega, by go_num, by rw [HTS.out], by rw [HTS.out], HWR.out.alloc HWR.out.size _⟩
      case measure => simp [intOf]; omega
    · have e : ps.take k = ps := List.take_of_length_le (by rw [← HN.out]; omega)
      rw [e]
      obtain ⟨A, hA⟩ : ∃ A, (lensW ps).1 = A := ⟨_, rfl⟩
      obtain ⟨B, hB⟩ : ∃ B, (lensW ps).2 = B := ⟨_, rfl⟩
      have HA : Hid ((lensW ps).1 = A) := hA
      have HB : Hid ((lensW ps).2 = B) := hB
      rw [hA, hB]
      clear e hA hB R3
      go_wp2
      go_ret2
      exact ⟨by rw [HA.out, HB.out]; rfl, hwr⟩
set_option maxRecDepth 100000 in
set_option maxHeartbeats 2000000 in
theorem refLens_any (v : Value) (ps : List Pt) (w : World) (hr : opAt w v ps) (hl : ps.length < 10000000) :
    Calls Tryz.prog 177 #[v] w fun e w' => e = .returned (.tuple #[.int .i64 (lensW ps).1, .int .i64 (lensW ps).2]) ∧ Below w.heap.size w w' := by
  obtain ⟨p, c, rfl, r1, r2, r3⟩ := hr
  obtain ⟨n, hn⟩ : ∃ n, n = ps.length := ⟨_, rfl⟩
  rw [← hn] at r1 hl ⊢
  have HN : Hid (n = ps.length) := hn
  clear hn
  have R3 : Hid (ps ≠ [] → ∃ b o, p = some ⟨b, o, none⟩ ∧ b < w.heap.size ∧ ∀ i q, ps[i]? = some q →
    w.cell? ⟨b, o + i * 3, none⟩ = some (.int .i64 q.keep) ∧ w.cell? ⟨b, o + i * 3 + 1, none⟩ = some (.int .i64 q.drop) ∧ w.cell? ⟨b, o + i * 3 + 2, none⟩ = some (.string ⟨q.put.toArray⟩)) := r3
  clear r3
  go_enter Tryz.func177, Tryz.ntmps177
  go_wp2
  go_loopw [4, 5, 10] (fun x y i wr => ∃ (k : Nat), k ≤ n ∧ i = .int .i64 k ∧ x = .int .i64 (lensW (ps.take k)).1 ∧ y = .int .i64 (lensW (ps.take k)).2 ∧ Below w.heap.size w wr) (fun _ _ i _ => n - (intOf i).toNat)
  case atStart => exact ⟨0, Nat.zero_le _, rfl, rfl, rfl, Below.refl _ _⟩
  case round =>
    obtain ⟨k, hk, rfl, rfl, rfl, hwr⟩ := hrel
    by_cases hlt : k < n
    · have hkr : k < ps.length := by rw [← HN.out]; exact hlt
      have hne : ps ≠ [] := by intro e; rw [e] at hkr; exact absurd hkr (Nat.not_lt_zero _)
      obtain ⟨b, o, rfl, hbw, hcell⟩ := R3.out hne
      obtain ⟨c0, c1, c2⟩ := hcell k ps[k] (List.getElem?_eq_getElem hkr)
      have g0 := (hwr.cell (p := ⟨b, o + k * 3, none⟩) hbw).trans c0
      have g1 := (hwr.cell (p := ⟨b, o + k * 3 + 1, none⟩) hbw).trans c1
      have g2 := (hwr.cell (p := ⟨b, o + k * 3 + 2, none⟩) hbw).trans c2
      have hts : lensW (ps.take (k + 1)) = lenW (lensW (ps.take k)) ps[k] := by
        unfold lensW
        rw [List.take_succ_eq_append_getElem hkr, List.foldl_append]; rfl
      generalize ps[k] = q at *
      generalize lensW (ps.take k) = AB at *
      obtain ⟨A, B⟩ := AB
      obtain ⟨K, D, U⟩ := q
      unfold lenW at hts
      simp only at hts g0 g1 g2 ⊢
      obtain ⟨x1, h1⟩ : ∃ x, IntKind.i64.wrap (K + D) = x := ⟨_, rfl⟩
      obtain ⟨x2, h2⟩ : ∃ x, IntKind.i64.wrap (K + (U.length : Int)) = x := ⟨_, rfl⟩
      obtain ⟨y1, h3⟩ : ∃ x, IntKind.i64.wrap (A + x1) = x := ⟨_, rfl⟩
      obtain ⟨y2, h4⟩ : ∃ x, IntKind.i64.wrap (B + x2) = x := ⟨_, rfl⟩
      rw [h1, h2, h3, h4] at hts
      have HTS : Hid (lensW (ps.take (k + 1)) = (y1, y2)) := hts
      have HWR : Hid (Below w.heap.size w wr) := hwr
      clear hcell c0 c1 c2 hts hwr
      go_wp2
      go_roundw
      case rel => exact ⟨k + 1, by omega, by go_num, by rw [HTS.out], by rw [HTS.out], HWR.out.alloc HWR.out.size _⟩
      case measure => simp [intOf]; omega
    · have e : ps.take k = ps := List.take_of_length_le (by rw [← HN.out]; omega)
      rw [e]
      obtain ⟨A, hA⟩ : ∃ A, (lensW ps).1 = A := ⟨_, rfl⟩
      obtain ⟨B, hB⟩ : ∃ B, (lensW ps).2 = B := ⟨_, rfl⟩
      have HA : Hid ((lensW ps).1 = A) := hA
      have HB : Hid ((lensW ps).2 = B) := hB
      rw [hA, hB]
      clear e hA hB R3
      go_wp2
      go_ret2
      exact ⟨by rw [HA.out, HB.out]; rfl, hwr⟩

def fewP (p : Pt) : Bool := !(decide (300 < (p.put.length : Int)) || decide (5000 < p.keep) || decide (5000 < p.drop))
def fewB (ps : List Pt) : Bool := decide (ps.length ≤ 100) && ps.all fewP

set_option maxRecDepth 100000 in
set_option maxHeartbeats 2000000 in
theorem few_any (v : Value) (ps : List Pt) (w : World) (hr : opAt w v ps) (hl : ps.length < 10000000) :
    Calls Tryz.prog 30 #[v] w fun e w' => e = .returned (.bool (fewB ps)) ∧ Below w.heap.size w w' := by
  obtain ⟨p, c, rfl, r1, r2, r3⟩ := hr
  by_cases hm : 100 < ps.length
  · have hb : fewB ps = false := by unfold fewB; rw [decide_eq_false (by omega)]; rfl
    rw [hb]
    have hm' : (100 : Int) < (ps.length : Int) := by omega
    clear r3
    go_enter Tryz.func30, Tryz.ntmps30
    go_wp2
    go_ret
    exact ⟨rfl, Below.refl _ _⟩
  have hb : fewB ps = ps.all fewP := by unfold fewB; rw [decide_eq_true (by omega)]; rfl
  rw [hb]
  obtain ⟨n, hn⟩ : ∃ n, n = ps.length := ⟨_, rfl⟩
  rw [← hn] at r1 hl hm ⊢
  have HN : Hid (n = ps.length) := hn
  have hm' : ¬ (100 : Int) < (n : Int) := by omega
  clear hn hb hm
  have R3 : Hid (ps ≠ [] → ∃ b o, p = some ⟨b, o, none⟩ ∧ b < w.heap.size ∧ ∀ i q, ps[i]? = some q →
    w.cell? ⟨b, o + i * 3, none⟩ = some (.int .i64 q.keep) ∧ w.cell? ⟨b, o + i * 3 + 1, none⟩ = some (.int .i64 q.drop) ∧ w.cell? ⟨b, o + i * 3 + 2, none⟩ = some (.string ⟨q.put.toArray⟩)) := r3
  clear r3
  obtain ⟨R, hR⟩ : ∃ R, ps.all fewP = R := ⟨_, rfl⟩
  have HR : Hid (ps.all fewP = R) := hR
  rw [hR]
  clear hR
  go_enter Tryz.func30, Tryz.ntmps30
  go_wp2
  go_loopw [3] (fun i wr => ∃ (k : Nat), k ≤ n ∧ i = .int .i64 k ∧ (ps.drop k).all fewP = R ∧ Below w.heap.size w wr) (fun i _ => n - (intOf i).toNat)
  case atStart => exact ⟨0, Nat.zero_le _, rfl, HR.out, Below.refl _ _⟩
  case round =>
    obtain ⟨k, hk, rfl, hch, hwr⟩ := hrel
    by_cases hlt : k < n
    · have hkr : k < ps.length := by rw [← HN.out]; exact hlt
      have hne : ps ≠ [] := by intro e; rw [e] at hkr; exact absurd hkr (Nat.not_lt_zero _)
      obtain ⟨b, o, rfl, hbw, hcell⟩ := R3.out hne
      obtain ⟨c0, c1, c2⟩ := hcell k ps[k] (List.getElem?_eq_getElem hkr)
      have g0 := (hwr.cell (p := ⟨b, o + k * 3, none⟩) hbw).trans c0
      have g1 := (hwr.cell (p := ⟨b, o + k * 3 + 1, none⟩) hbw).trans c1
      have g2 := (hwr.cell (p := ⟨b, o + k * 3 + 2, none⟩) hbw).trans c2
      rw [List.drop_eq_getElem_cons hkr, List.all_cons] at hch
      generalize ps[k] = q at *
      obtain ⟨K, D, U⟩ := q
      unfold fewP at hch
      simp only at hch g0 g1 g2
      by_cases h1 : (300 : Int) < (U.length : Int)
      · have hRf : R = false := by rw [← hch, decide_eq_true h1]; rfl
        subst hRf
        clear hcell c0 c1 c2 hch HR
        go_wp2
        go_ret
        exact ⟨rfl, hwr⟩
      · by_cases h2 : (5000 : Int) < K
        · have hRf : R = false := by rw [← hch, decide_eq_true h2, decide_eq_false h1]; rfl
          subst hRf
          clear hcell c0 c1 c2 hch HR
          go_wp2
          go_ret
          exact ⟨rfl, hwr⟩
        · by_cases h3 : (5000 : Int) < D
          · have hRf : R = false := by rw [← hch, decide_eq_true h3, decide_eq_false h1, decide_eq_false h2]; rfl
            subst hRf
            clear hcell c0 c1 c2 hch HR
            go_wp2
            go_ret
            exact ⟨rfl, hwr⟩
          · have HCH : Hid ((ps.drop (k + 1)).all fewP = R) := by
              show _ = _
              rw [decide_eq_false h1, decide_eq_false h2, decide_eq_false h3] at hch
              exact hch
            clear hcell c0 c1 c2 hch HR
            go_wp2
            go_roundw
            case rel => exact ⟨k + 1, by omega, by go_num, HCH.out, hwr⟩
            case measure => simp [intOf]; omega
    · have e : ps.drop k = [] := List.drop_of_length_le (by rw [← HN.out]; omega)
      rw [e] at hch
      have hRf : R = true := by rw [← hch]; rfl
      subst hRf
      clear e R3 hch HR
      go_wp2
      go_ret
      exact ⟨rfl, hwr⟩

end Go.Proofs.YtfedgjnhanlmeabGreatDoor

namespace Go.Proofs.YtfedgjnhanlmeabGreatDoor
open Go.RowKit
set_option linter.unusedVariables false

/-- The variables of the document's gathering: out in block a, put and drop behind it. -/
structure rgath (w : World) (a : Nat) (s : NSt) : Prop where
  out : ∃ p c, w.cell? ⟨a, 0, none⟩ = some (.slice p s.out.length c) ∧ w.ownsRow (a + 3) 50 3 (.slice p s.out.length c) s.out.length (cellsP s.out)
  outF : w.frozen? ⟨a, 0, none⟩ = false
  put : w.cell? ⟨a + 1, 0, none⟩ = some (.string ⟨s.put.toArray⟩)
  putF : w.frozen? ⟨a + 1, 0, none⟩ = false
  drop : w.cell? ⟨a + 2, 0, none⟩ = some (.int .i64 s.drop)
  dropF : w.frozen? ⟨a + 2, 0, none⟩ = false

theorem rgath_lt {w : World} {a : Nat} {s : NSt} (h : rgath w a s) : a + 2 < w.heap.size := World.block_lt_of_cell? w _ h.drop
theorem rgath_below {w w' : World} {a : Nat} {s : NSt} (h : rgath w a s) (hb : Below w.heap.size w w') : rgath w' a s := by
  have hlt := rgath_lt h
  obtain ⟨⟨p, c, h1, h2⟩, h3, h4, h6, h7, h8⟩ := h
  exact ⟨⟨p, c, (hb.cell (p := ⟨a, 0, none⟩) (by show a < _; omega)).trans h1, own_below h2 hb⟩, (hb.frozen (p := ⟨a, 0, none⟩) (by show a < _; omega)).trans h3,
    (hb.cell (p := ⟨a + 1, 0, none⟩) (by show a + 1 < _; omega)).trans h4, (hb.frozen (p := ⟨a + 1, 0, none⟩) (by show a + 1 < _; omega)).trans h6,
    (hb.cell (p := ⟨a + 2, 0, none⟩) (by show a + 2 < _; omega)).trans h7, (hb.frozen (p := ⟨a + 2, 0, none⟩) (by show a + 2 < _; omega)).trans h8⟩

theorem rgath_push {w w1 : World} {a : Nat} {s : NSt} {p : Option Addr} {c : Nat} {o : Obj} {v' : Value} {q : Pt} (h : rgath w a s) (hc : w.cell? ⟨a, 0, none⟩ = some (.slice p s.out.length c))
    (hown1 : w1.ownsRow (a + 3) 50 3 v' (s.out.length + 1) (cellsP s.out ++ partCells q)) (hg : (w.alloc o).grownBy w1 (Value.slice p s.out.length c).ownBlock) :
    rgath (w1.setCell ⟨a, 0, none⟩ v') a ⟨s.out ++ [q], s.put, s.drop⟩ ∧ Below a w (w1.setCell ⟨a, 0, none⟩ v') ∧ Below (a + 3) w w1 ∧ w1.cell? ⟨a, 0, none⟩ = some (.slice p s.out.length c) ∧ w1.frozen? ⟨a, 0, none⟩ = false := by
  have hlt := rgath_lt h
  obtain ⟨⟨p1, c1, h1, h2⟩, h3, h4, h6, h7, h8⟩ := h
  rw [hc] at h1
  simp only [Option.some.injEq, Value.slice.injEq, true_and] at h1
  obtain ⟨rfl, rfl⟩ := h1
  have hrow : ∀ k, (Value.slice p s.out.length c).ownBlock = some k → a + 3 ≤ k := fun k hk => (h2.lt k hk).1
  have hb1 : Below (a + 3) w w1 := ((Below.refl (a + 3) w).alloc (by omega) o).grown hg (by rw [World.size_alloc]; omega) hrow
  have hc1 : w1.cell? ⟨a, 0, none⟩ = some (.slice p s.out.length c) := by rw [hb1.cell (p := ⟨a, 0, none⟩) (by show a < _; omega)]; exact hc
  have hf1 : w1.frozen? ⟨a, 0, none⟩ = false := by rw [hb1.frozen (p := ⟨a, 0, none⟩) (by show a < _; omega)]; exact h3
  obtain ⟨pv, cv, rfl⟩ := own_slice hown1
  refine ⟨⟨⟨pv, cv, ?_, ?_⟩, ?_, ?_, ?_, ?_, ?_⟩, (hb1.mono (show a ≤ a + 3 by omega)).setCell (Nat.le_refl _) _, hb1, hc1, hf1⟩
  · show _ = some (Value.slice pv (s.out ++ [q]).length cv)
    rw [List.length_append]; exact World.cell?_setCell_same _ _ _ hc1
  · show World.ownsRow _ _ _ _ (.slice pv (s.out ++ [q]).length cv) (s.out ++ [q]).length (cellsP (s.out ++ [q]))
    rw [List.length_append, cellsP_snoc]; exact own_set hown1 (by omega) _
  · rw [World.frozen?_setCell]; exact hf1
  · rw [cell_set_ne (by omega)]; exact (hb1.cell (p := ⟨a + 1, 0, none⟩) (by show a + 1 < _; omega)).trans h4
  · rw [World.frozen?_setCell]; exact (hb1.frozen (p := ⟨a + 1, 0, none⟩) (by show a + 1 < _; omega)).trans h6
  · rw [cell_set_ne (by omega)]; exact (hb1.cell (p := ⟨a + 2, 0, none⟩) (by show a + 2 < _; omega)).trans h7
  · rw [World.frozen?_setCell]; exact (hb1.frozen (p := ⟨a + 2, 0, none⟩) (by show a + 2 < _; omega)).trans h8

theorem rgath_put {w : World} {a : Nat} {s : NSt} (h : rgath w a s) (q : List UInt8) : rgath (w.setCell ⟨a + 1, 0, none⟩ (.string ⟨q.toArray⟩)) a ⟨s.out, q, s.drop⟩ ∧ Below a w (w.setCell ⟨a + 1, 0, none⟩ (.string ⟨q.toArray⟩)) := by
  have hlt := rgath_lt h
  obtain ⟨⟨p, c, h1, h2⟩, h3, h4, h6, h7, h8⟩ := h
  refine ⟨⟨⟨p, c, ?_, own_set h2 (by omega) _⟩, ?_, World.cell?_setCell_same _ _ _ h4, ?_, ?_, ?_⟩, (Below.refl a w).setCell (by show a ≤ a + 1; omega) _⟩
  · rw [cell_set_ne (by omega)]; exact h1
  · rw [World.frozen?_setCell]; exact h3
  · rw [World.frozen?_setCell]; exact h6
  · rw [cell_set_ne (by omega)]; exact h7
  · rw [World.frozen?_setCell]; exact h8
theorem rgath_drop {w : World} {a : Nat} {s : NSt} (h : rgath w a s) (d : Int) : rgath (w.setCell ⟨a + 2, 0, none⟩ (.int .i64 d)) a ⟨s.out, s.put, d⟩ ∧ Below a w (w.setCell ⟨a + 2, 0, none⟩ (.int .i64 d)) := by
  have hlt := rgath_lt h
  obtain ⟨⟨p, c, h1, h2⟩, h3, h4, h6, h7, h8⟩ := h
  refine ⟨⟨⟨p, c, ?_, own_set h2 (by omega) _⟩, ?_, ?_, ?_, World.cell?_setCell_same _ _ _ h7, ?_⟩, (Below.refl a w).setCell (by show a ≤ a + 2; omega) _⟩
  · rw [cell_set_ne (by omega)]; exact h1
  · rw [World.frozen?_setCell]; exact h3
  · rw [cell_set_ne (by omega)]; exact h4
  · rw [World.frozen?_setCell]; exact h6
  · rw [World.frozen?_setCell]; exact h8

set_option maxRecDepth 100000 in
set_option maxHeartbeats 1000000 in
theorem refDone_oo (a : Nat) (s : NSt) (w : World) (h : rgath w a s) (hlen : s.out.length < 1000000000) (hp : s.put = []) (hd : s.drop = 0) :
    Calls Tryz.prog 212 #[.pointer (some ⟨a + 1, 0, none⟩), .pointer (some ⟨a, 0, none⟩), .pointer (some ⟨a + 2, 0, none⟩)] w fun e w' => (∃ v, e = .returned v) ∧ rgath w' a ⟨s.out, [], 0⟩ ∧ Below a w w' := by
  obtain ⟨i0, hi, hz0, hz1, hz2⟩ := info_parts info_part
  have hlt := rgath_lt h
  have H0 : Hid (rgath w a s) := h
  obtain ⟨⟨p, c, h1, h2⟩, h3, h4, h6, h7, h8⟩ := h
  have HO : Hid (w.ownsRow (a + 3) 50 3 (.slice p s.out.length c) s.out.length (cellsP s.out)) := h2
  have HC : Hid (w.cell? ⟨a, 0, none⟩ = some (.slice p s.out.length c)) := h1
  have hpe : s.put.isEmpty = true := by simpa using hp
  have hd0 : ¬ (0 : Int) < s.drop := by omega
  clear h2
  go_enter Tryz.func212, Tryz.ntmps212
  go_wp2
  go_end0
  have F1 := rgath_put H0.out []
  have F2 := rgath_drop F1.1 0
  exact ⟨⟨_, rfl⟩, F2.1, F1.2.trans F2.2⟩

set_option maxRecDepth 100000 in
set_option maxHeartbeats 1000000 in
theorem refDone_od (a : Nat) (s : NSt) (w : World) (h : rgath w a s) (hlen : s.out.length < 1000000000) (hp : s.put = []) (hd : 0 < s.drop) :
    Calls Tryz.prog 212 #[.pointer (some ⟨a + 1, 0, none⟩), .pointer (some ⟨a, 0, none⟩), .pointer (some ⟨a + 2, 0, none⟩)] w fun e w' => (∃ v, e = .returned v) ∧ rgath w' a ⟨s.out ++ [⟨0, s.drop, []⟩], [], 0⟩ ∧ Below a w w' := by
  obtain ⟨i0, hi, hz0, hz1, hz2⟩ := info_parts info_part
  have hlt := rgath_lt h
  have H0 : Hid (rgath w a s) := h
  obtain ⟨⟨p, c, h1, h2⟩, h3, h4, h6, h7, h8⟩ := h
  have HO : Hid (w.ownsRow (a + 3) 50 3 (.slice p s.out.length c) s.out.length (cellsP s.out)) := h2
  have HC : Hid (w.cell? ⟨a, 0, none⟩ = some (.slice p s.out.length c)) := h1
  have hpe : s.put.isEmpty = true := by simpa using hp
  clear h2
  go_enter Tryz.func212, Tryz.ntmps212
  go_wp2_with (first | (at_builtin; refine wpList_append_own _ rfl _ _ 23 rfl (a + 3) 50 i0 (.agg #[.int .i64 0, .int .i64 0, .string ⟨#[]⟩]) 3 32 Tryz.underlying23 hi hz0 hz1 hz2 rfl (by decide) _ _ _ rfl (HO.out.alloc _) ⟨w.heap.size, 0, none⟩ 1 1 (partCells ⟨0, s.drop, []⟩) rfl rfl (cells_new _ _ _) (partCells_one _) (by unfold maxLen; omega) (by omega) (by first | omega | (simp; omega)) ?_) | fail)
  intro v2 w2 hown2 hg2 _
  have P2 := rgath_push (q := ⟨0, s.drop, []⟩) H0.out HC.out hown2 hg2
  have z4 := h4
  have z6 := h6
  have z7 := h7
  have z8 := h8
  clear h1 h3 h4 h6 h7 h8
  obtain ⟨p2, q2, hv2⟩ := own_slice hown2
  rw [hv2] at P2 ⊢
  obtain ⟨G2, B2, hb2, t1, t2⟩ := P2
  have HG2 : Hid (rgath _ a ⟨s.out ++ [⟨0, s.drop, []⟩], s.put, s.drop⟩) := G2
  have HB2 : Hid (Below a _ _) := B2
  have y4 := (hb2.cell (p := ⟨a + 1, 0, none⟩) (by show a + 1 < _; omega)).trans z4
  have y6 := (hb2.frozen (p := ⟨a + 1, 0, none⟩) (by show a + 1 < _; omega)).trans z6
  have y7 := (hb2.cell (p := ⟨a + 2, 0, none⟩) (by show a + 2 < _; omega)).trans z7
  have y8 := (hb2.frozen (p := ⟨a + 2, 0, none⟩) (by show a + 2 < _; omega)).trans z8
  have hs2 := hb2.size
  clear z4 z6 z7 z8 G2 B2 hown2 hg2 hb2 hv2
  go_wp2
  go_end0
  have F1 := rgath_put HG2.out []
  have F2 := rgath_drop F1.1 0
  exact ⟨⟨_, rfl⟩, F2.1, (HB2.out).trans (F1.2.trans F2.2)⟩

set_option maxRecDepth 100000 in
set_option maxHeartbeats 1000000 in
theorem refDone_po (a : Nat) (s : NSt) (w : World) (h : rgath w a s) (hlen : s.out.length < 1000000000) (hp : s.put ≠ []) (hd : s.drop = 0) :
    Calls Tryz.prog 212 #[.pointer (some ⟨a + 1, 0, none⟩), .pointer (some ⟨a, 0, none⟩), .pointer (some ⟨a + 2, 0, none⟩)] w fun e w' => (∃ v, e = .returned v) ∧ rgath w' a ⟨s.out ++ [⟨0, 0, s.put⟩], [], 0⟩ ∧ Below a w w' := by
  obtain ⟨i0, hi, hz0, hz1, hz2⟩ := info_parts info_part
  have hlt := rgath_lt h
  have H0 : Hid (rgath w a s) := h
  obtain ⟨⟨p, c, h1, h2⟩, h3, h4, h6, h7, h8⟩ := h
  have HO : Hid (w.ownsRow (a + 3) 50 3 (.slice p s.out.length c) s.out.length (cellsP s.out)) := h2
  have HC : Hid (w.cell? ⟨a, 0, none⟩ = some (.slice p s.out.length c)) := h1
  have hpe : s.put.isEmpty = false := by simpa using hp
  have hd0 : ¬ (0 : Int) < s.drop := by omega
  clear h2
  go_enter Tryz.func212, Tryz.ntmps212
  go_wp2_with (first | (at_builtin; refine wpList_append_own _ rfl _ _ 23 rfl (a + 3) 50 i0 (.agg #[.int .i64 0, .int .i64 0, .string ⟨#[]⟩]) 3 32 Tryz.underlying23 hi hz0 hz1 hz2 rfl (by decide) _ _ _ rfl (HO.out.alloc _) ⟨w.heap.size, 0, none⟩ 1 1 (partCells ⟨0, 0, s.put⟩) rfl rfl (cells_new _ _ _) (partCells_one _) (by unfold maxLen; omega) (by omega) (by first | omega | (simp; omega)) ?_) | fail)
  intro v1 w1 hown1 hg1 _
  have P1 := rgath_push (q := ⟨0, 0, s.put⟩) H0.out HC.out hown1 hg1
  obtain ⟨p1, q1, hv1⟩ := own_slice hown1
  rw [hv1] at P1 hown1 ⊢
  obtain ⟨G1, B1, hb1, r1, r2⟩ := P1
  have HG1 : Hid (rgath (w1.setCell ⟨a, 0, none⟩ (.slice p1 (s.out.length + 1) q1)) a ⟨s.out ++ [⟨0, 0, s.put⟩], s.put, s.drop⟩) := G1
  have HB1 : Hid (Below a w (w1.setCell ⟨a, 0, none⟩ (.slice p1 (s.out.length + 1) q1))) := B1
  have HO1 : Hid ((w1.setCell ⟨a, 0, none⟩ (.slice p1 (s.out.length + 1) q1)).ownsRow (a + 3) 50 3 (.slice p1 (s.out.length + 1) q1) (s.out.length + 1) (cellsP s.out ++ partCells ⟨0, 0, s.put⟩)) := own_set hown1 (show a < a + 3 by omega) (.slice p1 (s.out.length + 1) q1)
  have HK1 : Hid ((w1.setCell ⟨a, 0, none⟩ (.slice p1 (s.out.length + 1) q1)).cell? ⟨a, 0, none⟩ = some (.slice p1 (s.out.length + 1) q1)) := World.cell?_setCell_same _ _ _ r1
  have k4 := (hb1.cell (p := ⟨a + 1, 0, none⟩) (by show a + 1 < _; omega)).trans h4
  have k6 := (hb1.frozen (p := ⟨a + 1, 0, none⟩) (by show a + 1 < _; omega)).trans h6
  have k7 := (hb1.cell (p := ⟨a + 2, 0, none⟩) (by show a + 2 < _; omega)).trans h7
  have k8 := (hb1.frozen (p := ⟨a + 2, 0, none⟩) (by show a + 2 < _; omega)).trans h8
  have hs1 := hb1.size
  clear h1 h3 h4 h6 h7 h8 G1 B1 hown1 hg1 hb1 hv1
  go_wp2
  go_end0
  have F1 := rgath_put HG1.out []
  have F2 := rgath_drop F1.1 0
  exact ⟨⟨_, rfl⟩, F2.1, (HB1.out).trans (F1.2.trans F2.2)⟩

set_option maxRecDepth 100000 in
set_option maxHeartbeats 1000000 in
theorem refDone_pd (a : Nat) (s : NSt) (w : World) (h : rgath w a s) (hlen : s.out.length < 1000000000) (hp : s.put ≠ []) (hd : 0 < s.drop) :
    Calls Tryz.prog 212 #[.pointer (some ⟨a + 1, 0, none⟩), .pointer (some ⟨a, 0, none⟩), .pointer (some ⟨a + 2, 0, none⟩)] w fun e w' => (∃ v, e = .returned v) ∧ rgath w' a ⟨s.out ++ [⟨0, 0, s.put⟩, ⟨0, s.drop, []⟩], [], 0⟩ ∧ Below a w w' := by
  obtain ⟨i0, hi, hz0, hz1, hz2⟩ := info_parts info_part
  have hlt := rgath_lt h
  have H0 : Hid (rgath w a s) := h
  obtain ⟨⟨p, c, h1, h2⟩, h3, h4, h6, h7, h8⟩ := h
  have HO : Hid (w.ownsRow (a + 3) 50 3 (.slice p s.out.length c) s.out.length (cellsP s.out)) := h2
  have HC : Hid (w.cell? ⟨a, 0, none⟩ = some (.slice p s.out.length c)) := h1
  have hpe : s.put.isEmpty = false := by simpa using hp
  clear h2
  go_enter Tryz.func212, Tryz.ntmps212
  go_wp2_with (first | (at_builtin; refine wpList_append_own _ rfl _ _ 23 rfl (a + 3) 50 i0 (.agg #[.int .i64 0, .int .i64 0, .string ⟨#[]⟩]) 3 32 Tryz.underlying23 hi hz0 hz1 hz2 rfl (by decide) _ _ _ rfl (HO.out.alloc _) ⟨w.heap.size, 0, none⟩ 1 1 (partCells ⟨0, 0, s.put⟩) rfl rfl (cells_new _ _ _) (partCells_one _) (by unfold maxLen; omega) (by omega) (by first | omega | (simp; omega)) ?_) | fail)
  intro v1 w1 hown1 hg1 _
  have P1 := rgath_push (q := ⟨0, 0, s.put⟩) H0.out HC.out hown1 hg1
  obtain ⟨p1, q1, hv1⟩ := own_slice hown1
  rw [hv1] at P1 hown1 ⊢
  obtain ⟨G1, B1, hb1, r1, r2⟩ := P1
  have HG1 : Hid (rgath (w1.setCell ⟨a, 0, none⟩ (.slice p1 (s.out.length + 1) q1)) a ⟨s.out ++ [⟨0, 0, s.put⟩], s.put, s.drop⟩) := G1
  have HB1 : Hid (Below a w (w1.setCell ⟨a, 0, none⟩ (.slice p1 (s.out.length + 1) q1))) := B1
  have HO1 : Hid ((w1.setCell ⟨a, 0, none⟩ (.slice p1 (s.out.length + 1) q1)).ownsRow (a + 3) 50 3 (.slice p1 (s.out.length + 1) q1) (s.out.length + 1) (cellsP s.out ++ partCells ⟨0, 0, s.put⟩)) := own_set hown1 (show a < a + 3 by omega) (.slice p1 (s.out.length + 1) q1)
  have HK1 : Hid ((w1.setCell ⟨a, 0, none⟩ (.slice p1 (s.out.length + 1) q1)).cell? ⟨a, 0, none⟩ = some (.slice p1 (s.out.length + 1) q1)) := World.cell?_setCell_same _ _ _ r1
  have k4 := (hb1.cell (p := ⟨a + 1, 0, none⟩) (by show a + 1 < _; omega)).trans h4
  have k6 := (hb1.frozen (p := ⟨a + 1, 0, none⟩) (by show a + 1 < _; omega)).trans h6
  have k7 := (hb1.cell (p := ⟨a + 2, 0, none⟩) (by show a + 2 < _; omega)).trans h7
  have k8 := (hb1.frozen (p := ⟨a + 2, 0, none⟩) (by show a + 2 < _; omega)).trans h8
  have hs1 := hb1.size
  clear h1 h3 h4 h6 h7 h8 G1 B1 hown1 hg1 hb1 hv1
  go_wp2_with (first | (at_builtin; refine wpList_append_own _ rfl _ _ 23 rfl (a + 3) 50 i0 (.agg #[.int .i64 0, .int .i64 0, .string ⟨#[]⟩]) 3 32 Tryz.underlying23 hi hz0 hz1 hz2 rfl (by decide) _ _ _ rfl (HO1.out.alloc _) ⟨w1.heap.size, 0, none⟩ 1 1 (partCells ⟨0, s.drop, []⟩) rfl rfl (cells_new_set _ _ _ _ _) (partCells_one _) (by unfold maxLen; omega) (by omega) (by first | omega | (simp; omega)) ?_) | fail)
  intro v2 w2 hown2 hg2 _
  have hown2' : w2.ownsRow (a + 3) 50 3 v2 ((s.out ++ [(⟨0, 0, s.put⟩ : Pt)]).length + 1) (cellsP (s.out ++ [(⟨0, 0, s.put⟩ : Pt)]) ++ partCells ⟨0, s.drop, []⟩) := by
    rw [cellsP_snoc, List.length_append, List.append_assoc]; exact hown2
  have hls : (s.out ++ [(⟨0, 0, s.put⟩ : Pt)]).length = s.out.length + 1 := by rw [List.length_append]; rfl
  have HK1' : (w1.setCell ⟨a, 0, none⟩ (.slice p1 (s.out.length + 1) q1)).cell? ⟨a, 0, none⟩ = some (.slice p1 (s.out ++ [(⟨0, 0, s.put⟩ : Pt)]).length q1) := by rw [hls]; exact HK1.out
  have P2 := rgath_push (q := ⟨0, s.drop, []⟩) HG1.out HK1' hown2' (by rw [hls]; exact hg2)
  have z4 : (w1.setCell ⟨a, 0, none⟩ (.slice p1 (s.out.length + 1) q1)).cell? ⟨a + 1, 0, none⟩ = some (.string ⟨s.put.toArray⟩) := (cell_set_ne (by omega) _).trans k4
  have z6 : (w1.setCell ⟨a, 0, none⟩ (.slice p1 (s.out.length + 1) q1)).frozen? ⟨a + 1, 0, none⟩ = false := by rw [World.frozen?_setCell]; exact k6
  have z7 : (w1.setCell ⟨a, 0, none⟩ (.slice p1 (s.out.length + 1) q1)).cell? ⟨a + 2, 0, none⟩ = some (.int .i64 s.drop) := (cell_set_ne (by omega) _).trans k7
  have z8 : (w1.setCell ⟨a, 0, none⟩ (.slice p1 (s.out.length + 1) q1)).frozen? ⟨a + 2, 0, none⟩ = false := by rw [World.frozen?_setCell]; exact k8
  clear HK1' hown2' k4 k6 k7 k8 r1 r2
  obtain ⟨p2, q2, hv2⟩ := own_slice hown2
  rw [hv2] at P2 ⊢
  obtain ⟨G2, B2, hb2, t1, t2⟩ := P2
  have HG2 : Hid (rgath _ a ⟨s.out ++ [⟨0, 0, s.put⟩] ++ [⟨0, s.drop, []⟩], s.put, s.drop⟩) := G2
  have HB2 : Hid (Below a _ _) := B2
  have y4 := (hb2.cell (p := ⟨a + 1, 0, none⟩) (by show a + 1 < _; omega)).trans z4
  have y6 := (hb2.frozen (p := ⟨a + 1, 0, none⟩) (by show a + 1 < _; omega)).trans z6
  have y7 := (hb2.cell (p := ⟨a + 2, 0, none⟩) (by show a + 2 < _; omega)).trans z7
  have y8 := (hb2.frozen (p := ⟨a + 2, 0, none⟩) (by show a + 2 < _; omega)).trans z8
  have hs2 := hb2.size
  clear z4 z6 z7 z8 G2 B2 hown2 hg2 hb2 hv2
  go_wp2
  go_end0
  have F1 := rgath_put HG2.out []
  have F2 := rgath_drop F1.1 0
  have F3 := F2.1
  rw [List.append_assoc] at F3
  exact ⟨⟨_, rfl⟩, F3, (HB1.out.trans HB2.out).trans (F1.2.trans F2.2)⟩

theorem refDone_any (a : Nat) (s : NSt) (w : World) (h : rgath w a s) (hlen : s.out.length < 1000000000) (h0 : 0 ≤ s.drop) :
    Calls Tryz.prog 212 #[.pointer (some ⟨a + 1, 0, none⟩), .pointer (some ⟨a, 0, none⟩), .pointer (some ⟨a + 2, 0, none⟩)] w fun e w' => (∃ v, e = .returned v) ∧ rgath w' a ⟨tellP s, [], 0⟩ ∧ Below a w w' := by
  unfold tellP
  by_cases hp : s.put = []
  · by_cases hd : s.drop = 0
    · have := refDone_oo a s w h hlen hp hd
      simpa [hp, hd] using this
    · have := refDone_od a s w h hlen hp (by omega)
      simpa [hp, hd] using this
  · by_cases hd : s.drop = 0
    · have := refDone_po a s w h hlen hp hd
      simpa [hp, hd] using this
    · have := refDone_pd a s w h hlen hp (by omega)
      simpa [hp, hd] using this
end Go.Proofs.YtfedgjnhanlmeabGreatDoor

namespace Go.Proofs.YtfedgjnhanlmeabGreatDoor
open Go.RowKit

/-- G gives just the worlds that have grown out of W. -/
structure Growth (W : World) (G : World → World) : Prop where
  below : ∀ x, Below W.heap.size W (G x)
  onto : ∀ w, Below W.heap.size W w → G w = w

theorem Growth.cell {W : World} {G : World → World} (hG : Growth W G) {b o : Nat} {v : Value} (h : W.cell? ⟨b, o, none⟩ = some v) : ∀ x, (G x).cell? ⟨b, o, none⟩ = some v :=
  fun x => ((hG.below x).cell (p := ⟨b, o, none⟩) (World.block_lt_of_cell? W _ h)).trans h

section
variable {P : Program} {ops : Array Oper} {md : Region.Mode} {C : World → Prop} {l0 n : Nat}

end

end Go.Proofs.YtfedgjnhanlmeabGreatDoor

namespace Go.Proofs.YtfedgjnhanlmeabGreatDoor
open Go.RowKit

section
variable {P : Program} {ops : Array Oper} {md : Region.Mode} {m : Nat} {Q : Exit → Act → World → Prop}

/-- What is asked of what an operation yields: a value, or a call that returns. -/
def okUpon (P : Program) (o : Oper) (a : Act) (K : Act → World → Prop) : Result Next → Prop
  | .ok (.value v) w' => K (a.put o.dst v) w'
  | .ok .skip w' => K (a.put o.dst undef) w'
  | .ok (.enter f args) w' => Calls P f args w' fun e w'' => ∃ v, e = .returned v ∧ K (a.put o.dst v) w''
  | _ => False
theorem okUpon_mono {o : Oper} {a : Act} {K K' : Act → World → Prop} (h : ∀ a w, K a w → K' a w) {r : Result Next} (hh : okUpon P o a K r) : okUpon P o a K' r := by
  cases r with
  | ok n w =>
    cases n <;> simp only [okUpon] at hh ⊢
    case value => exact h _ _ hh
    case skip => exact h _ _ hh
    case enter => exact hh.mono fun e w ⟨v, e1, e2⟩ => ⟨v, e1, h _ _ e2⟩
  | halt x w => simp only [okUpon] at hh
theorem upon_of_ok {o : Oper} {a : Act} {K : Act → World → Prop} {r : Result Next} (hh : okUpon P o a K r) : o.upon P a K Q r := by
  cases r with
  | ok n w =>
    cases n <;> simp only [okUpon] at hh <;> simp only [Oper.upon]
    case value => exact hh
    case skip => exact hh
    case enter => exact hh.mono fun e w ⟨v, e1, e2⟩ => by subst e1; exact e2
  | halt x w => simp only [okUpon] at hh

/-- Operation number i comes up. -/
def opG (P : Program) (ops : Array Oper) (i : Nat) (K : Act → World → Prop) (a : Act) (w : World) : Prop :=
  match ops[i]? with
  | none => K a w
  | some o => if Region.wanted o (yielded ops a.tmps) then okUpon P o a K ((execOp a.eval o).run P w) else K (a.put o.dst undef) w

theorem opG_mono {i : Nat} {K K' : Act → World → Prop} {a : Act} {w : World} (h : ∀ a w, K a w → K' a w) (hh : opG P ops i K a w) : opG P ops i K' a w := by
  unfold opG at *
  split
  · rename_i ho; simp only [ho] at hh; exact h _ _ hh
  · rename_i o ho
    simp only [ho] at hh
    split
    · rename_i hw; simp only [hw, if_true] at hh; exact okUpon_mono h hh
    · rename_i hw; simp only [hw] at hh; exact h _ _ hh

/-- What an operation yields in one world: one value, and no more than growth. -/
def yieldsUpon (P : Program) (w : World) (v : Value) : Result Next → Prop
  | .ok (.value u) w' => w' = w ∧ u = v
  | .ok .skip w' => w' = w ∧ v = undef
  | .ok (.enter f args) w' => w' = w ∧ Calls P f args w (fun e w'' => e = .returned v ∧ Below w.heap.size w w'')
  | _ => False

/-- The operations from m on come behind all others. -/
def lateOk (md : Region.Mode) (ops : Array Oper) (m : Nat) : Bool :=
  (List.range ops.size).all fun j => j < m || match ops[j]? with
    | some o => (List.range m).all fun i => o.after.any fun e => Region.binds md e && e.on == i
    | none => true
theorem lateOk_spec (h : lateOk md ops m = true) {j i : Nat} {o : Oper} (hj : ops[j]? = some o) (hm : ¬ j < m) (hi : i < m) : ∃ e ∈ o.after, Region.binds md e = true ∧ e.on = i := by
  unfold lateOk at h
  rw [List.all_eq_true] at h
  have h1 := h j (List.mem_range.2 (Array.getElem?_eq_some_iff.1 hj).1)
  simp only [hj, hm, decide_false, Bool.false_or, List.all_eq_true, List.mem_range] at h1
  obtain ⟨e, he, hb⟩ := Array.any_eq_true'.1 (h1 i hi)
  rw [Bool.and_eq_true, beq_iff_eq] at hb
  exact ⟨e, he, hb.1, hb.2⟩

end
end Go.Proofs.YtfedgjnhanlmeabGreatDoor

namespace Go.Proofs.YtfedgjnhanlmeabGreatDoor
open Go.RowKit
set_option linter.unusedVariables false

theorem info_str : (Tryz.prog.info? 9).map (fun i => (i.zero, i.size, i.bytes)) = some (some (.string ⟨#[]⟩), 1, 16) := by kernel_rfl
theorem info_bool : (Tryz.prog.info? 4).map (fun i => (i.zero, i.size, i.bytes)) = some (some (.bool false), 1, 1) := by kernel_rfl

theorem mk_str (n : Nat) (hn : n < 100000000) (W : World) : (Instr.makeSlice 80 (.int .i64 ((n : Int) + 1)) (.int .i64 ((n : Int) + 1))).run Tryz.prog W = .ok (.slice (some ⟨W.heap.size, 0, none⟩) (n + 1) (n + 1)) (W.alloc (.cells (madeCells #[.string ⟨#[]⟩] (n + 1)) 9)) := by
  obtain ⟨i0, hi, hz0, hz1, hz2⟩ := info_parts info_str
  have h := run_make (P := Tryz.prog) W 80 9 i0 (.string ⟨#[]⟩) Tryz.underlying80 hi hz0 .i64 .i64 ((n : Int) + 1) ((n : Int) + 1) (by omega) (Int.le_refl _) (by rw [hz2]; omega) (by omega)
  rw [h]
  have e : ((n : Int) + 1).toNat = n + 1 := by omega
  rw [e, hz1]
  simp [Value.cells]
theorem mk_bool (n : Nat) (hn : n < 100000000) (W : World) : (Instr.makeSlice 285 (.int .i64 (n : Int)) (.int .i64 (n : Int))).run Tryz.prog W = .ok (.slice (some ⟨W.heap.size, 0, none⟩) n n) (W.alloc (.cells (madeCells #[.bool false] n) 4)) := by
  obtain ⟨i0, hi, hz0, hz1, hz2⟩ := info_parts info_bool
  have h := run_make (P := Tryz.prog) W 285 4 i0 (.bool false) Tryz.underlying285 hi hz0 .i64 .i64 (n : Int) (n : Int) (by omega) (Int.le_refl _) (by rw [hz2]; omega) (by omega)
  rw [h]
  have e : ((n : Int)).toNat = n := by omega
  rw [e, hz1]
  simp [Value.cells]

/-- The rows of strings and of bools, gaps that are yet to come among them. -/
def strsP (n : Nat) (g : GSt) : List (List UInt8) := g.1.map (·.1) ++ g.2 :: List.replicate (n - g.1.length) []
def boolsP (n : Nat) (g : GSt) : List Bool := g.1.map (·.2) ++ List.replicate (n - g.1.length) false
def strV (u : List UInt8) : Value := .string ⟨u.toArray⟩

theorem strsP_tick {n : Nat} {g : GSt} (h : g.1.length < n) (d : Bool) : strsP n (tick d g) = strsP n g := by
  unfold strsP tick
  simp only [List.map_append, List.map_cons, List.map_nil, List.length_append, List.length_cons, List.length_nil, List.append_assoc, List.singleton_append]
  obtain ⟨k, hk⟩ : ∃ k, n - g.1.length = k + 1 := ⟨n - g.1.length - 1, by omega⟩
  have e : n - (g.1.length + (0 + 1)) = k := by omega
  rw [e, hk, List.replicate_succ]
theorem boolsP_tick {n : Nat} {g : GSt} (h : g.1.length < n) (d : Bool) : boolsP n (tick d g) = (boolsP n g).set g.1.length d := by
  unfold boolsP tick
  obtain ⟨k, hk⟩ : ∃ k, n - g.1.length = k + 1 := ⟨n - g.1.length - 1, by omega⟩
  have e : n - (g.1.length + 1) = k := by omega
  have hl : (g.1.map (·.2)).length = g.1.length := by simp
  rw [List.set_append_right _ _ (by rw [hl]; exact Nat.le_refl _), hl, Nat.sub_self, hk, List.replicate_succ, List.set_cons_zero]
  simp [e]
theorem boolsP_at {n : Nat} {g : GSt} (h : g.1.length < n) : (boolsP n g)[g.1.length]? = some false := by
  unfold boolsP
  obtain ⟨k, hk⟩ : ∃ k, n - g.1.length = k + 1 := ⟨n - g.1.length - 1, by omega⟩
  rw [List.getElem?_append_right (by simp), List.length_map, Nat.sub_self, hk, List.replicate_succ]
  rfl
theorem strsP_at {n : Nat} {g : GSt} : (strsP n g)[g.1.length]? = some g.2 := by
  unfold strsP
  rw [List.getElem?_append_right (by simp)]
  simp
theorem strsP_put {n : Nat} {g : GSt} (u : List UInt8) : strsP n (g.1, u) = (strsP n g).set g.1.length u := by
  unfold strsP
  have hl : (g.1.map (·.1)).length = g.1.length := by simp
  rw [List.set_append_right _ _ (by rw [hl]; exact Nat.le_refl _), hl, Nat.sub_self, List.set_cons_zero]
theorem rowsP_keeps {n : Nat} : ∀ (k : Nat) (g : GSt), g.1.length + k ≤ n → strsP n (ticks false k g) = strsP n g ∧ boolsP n (ticks false k g) = boolsP n g
  | 0, _, _ => ⟨rfl, rfl⟩
  | k + 1, g, h => by
    have hl : (tick false g).1.length = g.1.length + 1 := by simp [tick]
    obtain ⟨h1, h2⟩ := rowsP_keeps (n := n) k (tick false g) (by rw [hl]; omega)
    rw [ticks, h1, h2, strsP_tick (n := n) (g := g) (by omega), boolsP_tick (n := n) (g := g) (by omega)]
    refine ⟨rfl, ?_⟩
    have := boolsP_at (n := n) (g := g) (by omega)
    have hlt : g.1.length < (boolsP n g).length := (List.getElem?_eq_some_iff.1 this).1
    rw [List.getElem?_eq_getElem hlt] at this
    have e := Option.some.inj this
    rw [← e]
    exact List.set_getElem_self hlt
theorem strsP_drops {n : Nat} : ∀ (k : Nat) (g : GSt), g.1.length + k ≤ n → strsP n (ticks true k g) = strsP n g
  | 0, _, _ => rfl
  | k + 1, g, h => by
    have hl : (tick true g).1.length = g.1.length + 1 := by simp [tick]
    rw [ticks, strsP_drops k (tick true g) (by rw [hl]; omega), strsP_tick (n := n) (g := g) (by omega)]

theorem spreads_snoc (ps : List Pt) (p : Pt) : spreads (ps ++ [p]) = spreadP (spreads ps) p := by simp [spreads]
theorem spreadP_nat (g : GSt) (p : Pt) : (spreadP g p).1.length = g.1.length + p.drop.toNat + p.keep.toNat := by
  unfold spreadP
  rw [ticks_len, ticks_len]
theorem spreads_le (ps : List Pt) (k : Nat) : (spreads (ps.take k)).1.length ≤ (spreads ps).1.length := by
  have key : ∀ (l : List Pt) (g : GSt), g.1.length ≤ (l.foldl spreadP g).1.length := by
    intro l
    induction l with
    | nil => intro g; exact Nat.le_refl _
    | cons p l ih =>
      intro g
      rw [List.foldl_cons]
      have := ih (spreadP g p)
      rw [spreadP_nat] at this
      omega
  have e : spreads ps = (ps.drop k).foldl spreadP (spreads (ps.take k)) := by
    unfold spreads
    rw [← List.foldl_append, List.take_append_drop]
  rw [e]
  exact key _ _

/-- How long an operation is, where nothing wraps round. -/
def isP (p : Pt) : Int := p.keep + p.put.length
theorem lens_plain (ps : List Pt) (h : ∀ p ∈ ps, soundP p) (hw : wts ps < 4611686018427387904) : (lensW ps).1 = (spreads ps).1.length ∧ (lensW ps).2 = (ps.map isP).sum ∧ ((spreads ps).1.length : Int) ≤ wts ps ∧ (ps.map isP).sum ≤ wts ps := by
  have key : ∀ k, k ≤ ps.length → (lensW (ps.take k)).1 = (spreads (ps.take k)).1.length ∧ (lensW (ps.take k)).2 = ((ps.take k).map isP).sum ∧ ((spreads (ps.take k)).1.length : Int) ≤ wts (ps.take k) ∧ ((ps.take k).map isP).sum ≤ wts (ps.take k) ∧ 0 ≤ ((ps.take k).map isP).sum := by
    intro k
    induction k with
    | zero => intro _; simp [lensW, spreads, wts]
    | succ k ih =>
      intro hk
      obtain ⟨h1, h2, h3, h4, h5⟩ := ih (by omega)
      have hp := h _ (List.getElem_mem (show k < ps.length by omega))
      have ht := wts_take h (k + 1)
      have hts : ps.take (k + 1) = ps.take k ++ [ps[k]] := List.take_succ_eq_append_getElem (by omega)
      have hls : lensW (ps.take (k + 1)) = lenW (lensW (ps.take k)) ps[k] := by
        unfold lensW
        rw [hts, List.foldl_append]; rfl
      rw [hls, hts, spreads_snoc, spreadP_nat, wts_snoc, List.map_append, List.sum_append]
      rw [hts, wts_snoc] at ht
      generalize ps[k] = q at *
      obtain ⟨q1, q2⟩ := hp
      have hwq : wtP q = q.keep + q.drop + q.put.length := rfl
      have hiq : ([q].map isP).sum = q.keep + q.put.length := by simp [isP]
      rw [hiq]
      unfold lenW
      simp only
      rw [h1, h2]
      have w1 : IntKind.i64.wrap (q.keep + q.drop) = q.keep + q.drop := by rw [IntKind.wrap_i64]; omega
      have w2 : IntKind.i64.wrap (q.keep + (q.put.length : Int)) = q.keep + q.put.length := by rw [IntKind.wrap_i64]; omega
      rw [w1, w2]
      have w3 : IntKind.i64.wrap (((spreads (ps.take k)).1.length : Int) + (q.keep + q.drop)) = ((spreads (ps.take k)).1.length : Int) + (q.keep + q.drop) := by rw [IntKind.wrap_i64]; omega
      have w4 : IntKind.i64.wrap (((ps.take k).map isP).sum + (q.keep + (q.put.length : Int))) = ((ps.take k).map isP).sum + (q.keep + q.put.length) := by rw [IntKind.wrap_i64]; omega
      rw [w3, w4]
      refine ⟨by omega, rfl, by omega, by omega, by omega⟩
  have := key ps.length (Nat.le_refl _)
  rw [List.take_length] at this
  exact ⟨this.1, this.2.1, this.2.2.1, this.2.2.2.1⟩

theorem ticks_put (d : Bool) : ∀ (n : Nat) (g : GSt), (ticks d n g).2.length ≤ g.2.length
  | 0, _ => Nat.le_refl _
  | n + 1, g => by
    have := ticks_put d n (tick d g)
    rw [ticks]
    have e : (tick d g).2.length = 0 := rfl
    omega
theorem spreads_put (ps : List Pt) (h : ∀ p ∈ ps, soundP p) (k : Nat) (hk : k ≤ ps.length) : ((spreads (ps.take k)).2.length : Int) ≤ wts (ps.take k) := by
  induction k with
  | zero => simp [spreads, wts]
  | succ k ih =>
    have h1 := ih (by omega)
    have hp := h _ (List.getElem_mem (show k < ps.length by omega))
    rw [List.take_succ_eq_append_getElem (by omega), spreads_snoc, wts_snoc]
    generalize ps[k] = q at *
    obtain ⟨q1, q2⟩ := hp
    have hwq : wtP q = q.keep + q.drop + q.put.length := rfl
    have h2 := ticks_put false q.keep.toNat (ticks true q.drop.toNat ((spreads (ps.take k)).1, (spreads (ps.take k)).2 ++ q.put))
    have h3 := ticks_put true q.drop.toNat ((spreads (ps.take k)).1, (spreads (ps.take k)).2 ++ q.put)
    have h4 : ((spreads (ps.take k)).2 ++ q.put).length = (spreads (ps.take k)).2.length + q.put.length := List.length_append
    have h5 : (spreadP (spreads (ps.take k)) q).2.length ≤ ((spreads (ps.take k)).2 ++ q.put).length := Nat.le_trans h2 h3
    omega

theorem wp_key {P : Program} {c : Code} {Q : Exit → Act → World → Prop} {a : Act} {w : World} (F : Act → World → Prop) (h1 : ∀ Q' : Exit → Act → World → Prop, (∀ a' w', F a' w' → Q' .normal a' w') → c.wp P Q' a w) (h2 : ∀ a' w', F a' w' → Q .normal a' w') : c.wp P Q a w := h1 Q h2

theorem own_setAt {w : World} {B e size n b o : Nat} {v : Value} {xs : List Value} (h : w.ownsRow B e size v n xs) (hb : b < B) (u : Value) : (w.setCell ⟨b, o, none⟩ u).ownsRow B e size v n xs := by
  obtain ⟨h0, hrow⟩ := h
  refine ⟨h0, ?_⟩
  rcases hrow with hn | ⟨g, cap, cur, rfl, hg, hgg, rest⟩
  · exact .inl hn
  · exact .inr ⟨g, cap, cur, rfl, hg, (Below.heap_setCell _ _ _ _ (by show g ≠ b; omega)).trans hgg, rest⟩
theorem below_three (w : World) (o1 o2 o3 : Obj) : Below w.heap.size w (((w.alloc o1).alloc o2).alloc o3).drew :=
  ((((Below.refl w.heap.size w).alloc (Nat.le_refl _) o1).alloc (by simp) o2).alloc (by rw [World.size_alloc, World.size_alloc]; omega) o3).drew
/-- A row that is made. -/
theorem own_made (W : World) (B n g : Nat) (z : Value) (T : TypeId) (hg : W.heap.size = g) (hB : B ≤ g) (hn : n ≤ maxLen) : (W.alloc (.cells (madeCells #[z] n) T)).ownsRow B T 1 (.slice (some ⟨g, 0, none⟩) n n) n (List.replicate n z) := by
  subst hg
  have := World.ownsRow_lit (base := B) (e := T) (size := 1) W (madeCells #[z] n) n hB hn (by rw [size_madeCells]; simp)
  rwa [toList_madeCells_one] at this

set_option maxRecDepth 100000 in
set_option maxHeartbeats 4000000 in
theorem Spread_any (v : Value) (ps : List Pt) (w : World) (hr : opAt w v ps) (hs : ∀ p ∈ ps, soundP p) (hw : wts ps < 10000000) (hl : ps.length < 10000000) (n : Nat) (hn : (spreads ps).1.length = n) :
    Calls Tryz.prog 181 #[v] w fun e w' => ∃ g1 g2, e = .returned (.agg #[.slice (some ⟨g1, 0, none⟩) (n + 1) (n + 1), .slice (some ⟨g2, 0, none⟩) n n]) ∧
      w'.ownsRow w.heap.size 9 1 (.slice (some ⟨g1, 0, none⟩) (n + 1) (n + 1)) (n + 1) ((strsP n (spreads ps)).map strV) ∧ w'.ownsRow w.heap.size 4 1 (.slice (some ⟨g2, 0, none⟩) n n) n ((boolsP n (spreads ps)).map Value.bool) ∧ Below w.heap.size w w' := by
  have cL := fun wx hb => refLens_any v ps wx (opAt_below hr hb (Nat.le_refl _)) hl
  obtain ⟨hp1, _, hp3, _⟩ := lens_plain ps hs (by omega)
  rw [hp1, hn] at cL
  have hn' : n < 10000000 := by omega
  have HNS : Hid ((spreads ps).1.length = n) := hn
  obtain ⟨l2, hl2⟩ : ∃ l2, (lensW ps).2 = l2 := ⟨_, rfl⟩
  rw [hl2] at cL
  obtain ⟨p, c, rfl, r1, r2, r3⟩ := hr
  obtain ⟨m, hm⟩ : ∃ m, m = ps.length := ⟨_, rfl⟩
  rw [← hm] at r1 hl cL ⊢
  have HM : Hid (m = ps.length) := hm
  have R3 : Hid (ps ≠ [] → ∃ b o, p = some ⟨b, o, none⟩ ∧ b < w.heap.size ∧ ∀ i q, ps[i]? = some q →
    w.cell? ⟨b, o + i * 3, none⟩ = some (.int .i64 q.keep) ∧ w.cell? ⟨b, o + i * 3 + 1, none⟩ = some (.int .i64 q.drop) ∧ w.cell? ⟨b, o + i * 3 + 2, none⟩ = some (.string ⟨q.put.toArray⟩)) := r3
  have HS : Hid (∀ p ∈ ps, soundP p) := hs
  have HW : Hid (wts ps < 10000000) := hw
  have hm1 := mk_str n (by omega)
  have hm2 := mk_bool n (by omega)
  have hwn : IntKind.i64.wrap ((n : Int) + 1) = (n : Int) + 1 := by rw [IntKind.wrap_i64]; omega
  clear hs hw hn hp1 hp3 hl2 hm r3
  go_enter Tryz.func181, Tryz.ntmps181
  go_wp2_with (first | (go_at_call 177; refine (cL _ ((Below.refl _ _).alloc (Nat.le_refl _) _)).mono ?_; rintro e w1 ⟨rfl, hb1⟩) | fail)
  have hB1 : Below w.heap.size w w1 := ((Below.refl _ _).alloc (Nat.le_refl _) _).trans (hb1.mono (by simp))
  have hs1 : w.heap.size < w1.heap.size := by have := hb1.size; rw [World.size_alloc] at this; omega
  have x0 : w1.cell? ⟨w.heap.size, 0, none⟩ = some (.slice none 0 0) := (hb1.cell (p := ⟨w.heap.size, 0, none⟩) (by simp)).trans (by simp [go_sem])
  have x1 : w1.cell? ⟨w.heap.size, 1, none⟩ = some (.slice none 0 0) := (hb1.cell (p := ⟨w.heap.size, 1, none⟩) (by simp)).trans (by simp [go_sem])
  have x2 : w1.frozen? ⟨w.heap.size, 0, none⟩ = false := (hb1.frozen (p := ⟨w.heap.size, 0, none⟩) (by simp)).trans (by simp [go_sem])
  have x3 : w1.frozen? ⟨w.heap.size, 1, none⟩ = false := (hb1.frozen (p := ⟨w.heap.size, 1, none⟩) (by simp)).trans (by simp [go_sem])
  clear hb1 cL
  refine wp_key (F := fun a' w' => ∃ g1 g2 b, a' = { tmps := #[.slice p m c, undef, .pointer (some ⟨w.heap.size, 0, none⟩), .int .i64 n, .int .i64 l2, .pointer (some ⟨b, 0, none⟩), undef, undef, undef, .tuple #[.int .i64 n, .int .i64 l2], .slice p m c, .tuple #[.int .i64 n, .int .i64 l2], .int .i64 n, .int .i64 l2, .int .i64 n, .int .i64 ((n : Int) + 1),
      .slice (some ⟨g1, 0, none⟩) (n + 1) (n + 1), .int .i64 n, .slice (some ⟨g2, 0, none⟩) n n, .agg #[.slice (some ⟨g1, 0, none⟩) (n + 1) (n + 1), .slice (some ⟨g2, 0, none⟩) n n],
      undef, undef, undef, undef, undef, undef, undef, undef, undef, undef, undef, undef, undef, undef, undef, undef, undef, undef, undef, undef, undef, undef, undef, undef, undef, undef, undef, undef, undef, undef, undef, undef], defers := [] } ∧
      w'.ownsRow (w.heap.size + 1) 9 1 (.slice (some ⟨g1, 0, none⟩) (n + 1) (n + 1)) (n + 1) (List.replicate (n + 1) (.string ⟨#[]⟩)) ∧ w'.ownsRow (w.heap.size + 1) 4 1 (.slice (some ⟨g2, 0, none⟩) n n) n (List.replicate n (.bool false)) ∧
      w'.cell? ⟨b, 0, none⟩ = some (.slice (some ⟨g1, 0, none⟩) (n + 1) (n + 1)) ∧ w'.cell? ⟨b, 1, none⟩ = some (.slice (some ⟨g2, 0, none⟩) n n) ∧ b ≠ g1 ∧ b ≠ g2 ∧ w.heap.size < b ∧ Below w1.heap.size w1 w') ?_ ?_
  · intro Q' hQ
    go_region
    all_goals
      have hm0 : n + 1 ≤ maxLen := by unfold maxLen; omega
      have hm3 : n ≤ maxLen := by omega
      refine hQ _ _ ⟨_, _, _, rfl, ?_, ?_, by simp [go_sem], by simp [go_sem], by omega, by omega, by omega, ?_⟩
      · first
          | exact (own_made _ _ _ _ _ _ (by simp) (by omega) hm0).drew
          | exact ((own_made _ _ _ _ _ _ (by simp) (by omega) hm0).alloc _).drew
          | exact (((own_made _ _ _ _ _ _ (by simp) (by omega) hm0).alloc _).alloc _).drew
      · first
          | exact (own_made _ _ _ _ _ _ (by simp) (by omega) hm3).drew
          | exact ((own_made _ _ _ _ _ _ (by simp) (by omega) hm3).alloc _).drew
          | exact (((own_made _ _ _ _ _ _ (by simp) (by omega) hm3).alloc _).alloc _).drew
      · exact below_three _ _ _ _
  · rintro a' w2 ⟨g1, g2, b, rfl, hO1, hO2, hc0, hc1, hn1, hn2, hb0, hb2⟩
    have HB2 : Hid (Below w.heap.size w w2) := hB1.trans (hb2.mono (by omega))
    have y0 := (hb2.cell (p := ⟨w.heap.size, 0, none⟩) hs1).trans x0
    have y1 := (hb2.cell (p := ⟨w.heap.size, 1, none⟩) hs1).trans x1
    have y2 := (hb2.frozen (p := ⟨w.heap.size, 0, none⟩) hs1).trans x2
    have y3 := (hb2.frozen (p := ⟨w.heap.size, 1, none⟩) hs1).trans x3
    have hg1 := (hO1.lt g1 rfl)
    have hg2 := (hO2.lt g2 rfl)
    have hbl := World.block_lt_of_cell? w2 _ hc0
    have hng : g1 ≠ g2 := by
      have := own_ne hO1 hO2 (by decide)
      rcases this with h | h
      · cases h
      · intro e; subst e; exact h rfl
    have HST : Hid (strsP n ([], []) = List.replicate (n + 1) []) := by show _ = _; rfl
    have hO1' : w2.ownsRow (w.heap.size + 1) 9 1 (.slice (some ⟨g1, 0, none⟩) (n + 1) (n + 1)) (n + 1) ((strsP n (spreads (ps.take 0))).map strV) := by
      have e : (strsP n (spreads (ps.take 0))).map strV = List.replicate (n + 1) (.string ⟨#[]⟩) := by
        show (strsP n ([], [])).map strV = _
        rw [HST.out, List.map_replicate]
        rfl
      rw [e]; exact hO1
    have hO2' : w2.ownsRow (w.heap.size + 1) 4 1 (.slice (some ⟨g2, 0, none⟩) n n) n ((boolsP n (spreads (ps.take 0))).map Value.bool) := by
      have e : (boolsP n (spreads (ps.take 0))).map Value.bool = List.replicate n (.bool false) := by
        show ((List.replicate n false)).map Value.bool = _
        rw [List.map_replicate]
      rw [e]; exact hO2
    have HO1 : Hid _ := hO1'
    have HO2 : Hid _ := hO2'
    clear hO1 hO2 hO1' hO2' x0 x1 x2 x3 hb2 hB1 hm1 hm2 HST
    go_wp2
    go_loopw [6, 22] (fun at_ i wr => ∃ (k : Nat), k ≤ m ∧ i = .int .i64 k ∧ at_ = .int .i64 (spreads (ps.take k)).1.length ∧
        wr.ownsRow (w.heap.size + 1) 9 1 (.slice (some ⟨g1, 0, none⟩) (n + 1) (n + 1)) (n + 1) ((strsP n (spreads (ps.take k))).map strV) ∧ wr.ownsRow (w.heap.size + 1) 4 1 (.slice (some ⟨g2, 0, none⟩) n n) n ((boolsP n (spreads (ps.take k))).map Value.bool) ∧
        wr.cell? ⟨b, 0, none⟩ = some (.slice (some ⟨g1, 0, none⟩) (n + 1) (n + 1)) ∧ wr.cell? ⟨b, 1, none⟩ = some (.slice (some ⟨g2, 0, none⟩) n n) ∧
        wr.cell? ⟨w.heap.size, 0, none⟩ = some (.slice none 0 0) ∧ wr.cell? ⟨w.heap.size, 1, none⟩ = some (.slice none 0 0) ∧ wr.frozen? ⟨w.heap.size, 0, none⟩ = false ∧ wr.frozen? ⟨w.heap.size, 1, none⟩ = false ∧ Below w.heap.size w wr) (fun _ i _ => m - (intOf i).toNat)
    case atStart => exact ⟨0, Nat.zero_le _, rfl, rfl, HO1.out, HO2.out, hc0, hc1, y0, y1, y2, y3, HB2.out⟩
    case round =>
      obtain ⟨k, hk, rfl, rfl, hO1, hO2, z0, z1, z2, z3, z4, z5, hwr⟩ := hrel
      clear HO1 HO2 hc0 hc1 y0 y1 y2 y3
      by_cases hlt : k < m
      · have hkr : k < ps.length := by rw [← HM.out]; exact hlt
        have hne : ps ≠ [] := by intro e; rw [e] at hkr; exact absurd hkr (Nat.not_lt_zero _)
        obtain ⟨pb, po, rfl, hbw, hcell⟩ := R3.out hne
        obtain ⟨c0, c1, c2⟩ := hcell k ps[k] (List.getElem?_eq_getElem hkr)
        have e0 := (hwr.cell (p := ⟨pb, po + k * 3, none⟩) hbw).trans c0
        have e1 := (hwr.cell (p := ⟨pb, po + k * 3 + 1, none⟩) hbw).trans c1
        have e2 := (hwr.cell (p := ⟨pb, po + k * 3 + 2, none⟩) hbw).trans c2
        have hsp := HS.out ps[k] (List.getElem_mem _)
        have hle := spreads_le ps (k + 1)
        have hpu := spreads_put ps HS.out k (by omega)
        have hpt := wts_take HS.out (k + 1)
        rw [List.take_succ_eq_append_getElem hkr, wts_snoc] at hpt
        have hpw := HW.out
        rw [HNS.out, List.take_succ_eq_append_getElem hkr, spreads_snoc, spreadP_nat] at hle
        have HSN : Hid (spreads (ps.take (k + 1)) = spreadP (spreads (ps.take k)) ps[k]) := by
          show _ = _
          rw [List.take_succ_eq_append_getElem hkr, spreads_snoc]
        generalize ps[k] = q at *
        generalize spreads (ps.take k) = G at *
        obtain ⟨K, D, U⟩ := q
        obtain ⟨s1, s2⟩ := hsp
        simp only at e0 e1 e2 hle s1 s2
        have hcb : ¬ 9223372036854775807 < G.2.length + U.length := by
          have : wtP ⟨K, D, U⟩ = K + D + U.length := rfl
          omega
        have hat : G.1.length ≤ n := by omega
        have i0 : (strsP n G).map strV = ((strsP n G).map strV) := rfl
        have hstr : wr.cell? ⟨g1, G.1.length, none⟩ = some (.string ⟨G.2.toArray⟩) := by
          rw [hO1.cellAt _ (by omega), List.getElem?_map, strsP_at]
          rfl
        have hsf := hO1.frozenAt G.1.length
        have hgl1 := (hO1.lt g1 rfl).2
        have hgl2 := (hO2.lt g2 rfl).2
        have hbl' := World.block_lt_of_cell? wr _ z0
        have hcat := str_append G.2 U
        have t1 : ((G.1.length : Nat) : Int) < (n : Int) + 1 := by omega
        have t0 : (0 : Int) ≤ ((G.1.length : Nat) : Int) := by omega
        have HO1 : Hid (wr.ownsRow (w.heap.size + 1) 9 1 (.slice (some ⟨g1, 0, none⟩) (n + 1) (n + 1)) (n + 1) ((strsP n G).map strV)) := hO1
        have HO2 : Hid (wr.ownsRow (w.heap.size + 1) 4 1 (.slice (some ⟨g2, 0, none⟩) n n) n ((boolsP n G).map Value.bool)) := hO2
        have HWR : Hid (Below w.heap.size w wr) := hwr
        clear hcell c0 c1 c2 i0 hO1 hO2 hwr hpu hpt hpw
        go_wp2
        go_region
        obtain ⟨r1, r2⟩ := HO1.out.stored G.1.length (strV (G.2 ++ U))
        have q1 : ((wr.setCell ⟨g1, G.1.length, none⟩ (strV (G.2 ++ U))).alloc (.cells #[.int .i64 K, .int .i64 D, .string ⟨U.toArray⟩] 50)).drew.ownsRow (w.heap.size + 1) 9 1 (.slice (some ⟨g1, 0, none⟩) (n + 1) (n + 1)) (n + 1) ((strsP n (G.1, G.2 ++ U)).map strV) := by
          rw [strsP_put, List.map_set]
          exact (World.ownsRow.alloc r1 _).drew
        have q2 : ((wr.setCell ⟨g1, G.1.length, none⟩ (strV (G.2 ++ U))).alloc (.cells #[.int .i64 K, .int .i64 D, .string ⟨U.toArray⟩] 50)).drew.ownsRow (w.heap.size + 1) 4 1 (.slice (some ⟨g2, 0, none⟩) n n) n ((boolsP n (G.1, G.2 ++ U)).map Value.bool) :=
          (World.ownsRow.alloc (HO2.out.kept r2 (own_ne HO2.out HO1.out (by decide))) _).drew
        have keep : ∀ (x : Nat) (o : Nat), x ≠ g1 → x < wr.heap.size → (((wr.setCell ⟨g1, G.1.length, none⟩ (strV (G.2 ++ U))).alloc (.cells #[.int .i64 K, .int .i64 D, .string ⟨U.toArray⟩] 50)).drew).heap[x]? = wr.heap[x]? := by
          intro x o hx hxl
          rw [← r2.block x hxl (by intro e; exact hx (Option.some.inj e))]
          exact heap_alloc_old _ _ (by simpa using hxl)
        have hs0 := World.block_lt_of_cell? wr _ z2
        have hg1b := (HO1.out.lt g1 rfl).1
        have hg2b := (HO2.out.lt g2 rfl).1
        have u0 := (World.cell?_of_block (a := ⟨b, 0, none⟩) (keep b 0 hn1 hbl')).trans z0
        have u1 := (World.cell?_of_block (a := ⟨b, 1, none⟩) (keep b 0 hn1 hbl')).trans z1
        have u2 := (World.cell?_of_block (a := ⟨w.heap.size, 0, none⟩) (keep w.heap.size 0 (by omega) hs0)).trans z2
        have u3 := (World.cell?_of_block (a := ⟨w.heap.size, 1, none⟩) (keep w.heap.size 0 (by omega) hs0)).trans z3
        have u4 := (World.frozen?_of_block (a := ⟨w.heap.size, 0, none⟩) (keep w.heap.size 0 (by omega) hs0)).trans z4
        have u5 := (World.frozen?_of_block (a := ⟨w.heap.size, 1, none⟩) (keep w.heap.size 0 (by omega) hs0)).trans z5
        have hset : Below w.heap.size w (wr.setCell ⟨g1, G.1.length, none⟩ (strV (G.2 ++ U))) := HWR.out.setCell (p := ⟨g1, G.1.length, none⟩) (by show w.heap.size ≤ g1; omega) _
        have u6 : Below w.heap.size w (((wr.setCell ⟨g1, G.1.length, none⟩ (strV (G.2 ++ U))).alloc (.cells #[.int .i64 K, .int .i64 D, .string ⟨U.toArray⟩] 50)).drew) := (hset.alloc hset.size _).drew
        have u7 : (((wr.setCell ⟨g1, G.1.length, none⟩ (strV (G.2 ++ U))).alloc (.cells #[.int .i64 K, .int .i64 D, .string ⟨U.toArray⟩] 50)).drew).cell? ⟨wr.heap.size, 0, none⟩ = some (.int .i64 K) := by simp [go_sem]
        have u8 : (((wr.setCell ⟨g1, G.1.length, none⟩ (strV (G.2 ++ U))).alloc (.cells #[.int .i64 K, .int .i64 D, .string ⟨U.toArray⟩] 50)).drew).cell? ⟨wr.heap.size, 1, none⟩ = some (.int .i64 D) := by simp [go_sem]
        have hpb : w.heap.size ≠ wr.heap.size ∧ b ≠ wr.heap.size ∧ g1 ≠ wr.heap.size ∧ g2 ≠ wr.heap.size := ⟨by omega, by omega, by omega, by omega⟩
        clear r1 r2 keep z0 z1 z2 z3 z4 z5 HO1 HO2 HWR hset e0 e1 e2 hstr hsf hgl1 hgl2 hbl' hs0
        unfold strV at q1 q2 u0 u1 u2 u3 u4 u5 u6 u7 u8
        generalize (((wr.setCell ⟨g1, G.1.length, none⟩ (.string ⟨(G.2 ++ U).toArray⟩)).alloc (.cells #[.int .i64 K, .int .i64 D, .string ⟨U.toArray⟩] 50)).drew) = W3 at *
        obtain ⟨pB, hpB⟩ : ∃ pB, wr.heap.size = pB := ⟨_, rfl⟩
        rw [hpB] at u7 u8 hpb ⊢
        clear hpB hcat hcb
        have HQ1 : Hid (W3.ownsRow (w.heap.size + 1) 9 1 (.slice (some ⟨g1, 0, none⟩) (n + 1) (n + 1)) (n + 1) ((strsP n (G.1, G.2 ++ U)).map strV)) := q1
        have HQ2 : Hid (W3.ownsRow (w.heap.size + 1) 4 1 (.slice (some ⟨g2, 0, none⟩) n n) n ((boolsP n (G.1, G.2 ++ U)).map Value.bool)) := q2
        clear q1 q2
        go_wp2
        go_loopw [6, 37] (fun at_ i wr => ∃ (j : Nat), j ≤ D.toNat ∧ i = .int .i64 j ∧ at_ = .int .i64 ((G.1.length + j : Nat) : Int) ∧
          wr.ownsRow (w.heap.size + 1) 9 1 (.slice (some ⟨g1, 0, none⟩) (n + 1) (n + 1)) (n + 1) ((strsP n (G.1, G.2 ++ U)).map strV) ∧ wr.ownsRow (w.heap.size + 1) 4 1 (.slice (some ⟨g2, 0, none⟩) n n) n ((boolsP n (ticks true j (G.1, G.2 ++ U))).map Value.bool) ∧
          wr.cell? ⟨b, 0, none⟩ = some (.slice (some ⟨g1, 0, none⟩) (n + 1) (n + 1)) ∧ wr.cell? ⟨b, 1, none⟩ = some (.slice (some ⟨g2, 0, none⟩) n n) ∧
          wr.cell? ⟨w.heap.size, 0, none⟩ = some (.slice none 0 0) ∧ wr.cell? ⟨w.heap.size, 1, none⟩ = some (.slice none 0 0) ∧ wr.frozen? ⟨w.heap.size, 0, none⟩ = false ∧ wr.frozen? ⟨w.heap.size, 1, none⟩ = false ∧ Below w.heap.size w wr ∧
          wr.cell? ⟨pB, 0, none⟩ = some (.int .i64 K) ∧ wr.cell? ⟨pB, 1, none⟩ = some (.int .i64 D)) (fun _ i _ => D.toNat - (intOf i).toNat)
        case atStart => exact ⟨0, Nat.zero_le _, rfl, rfl, HQ1.out, HQ2.out, u0, u1, u2, u3, u4, u5, u6, u7, u8⟩
        case round =>
          obtain ⟨j, hj, rfl, rfl, hO1, hO2, z0, z1, z2, z3, z4, z5, hwr, z6, z7⟩ := hrel
          clear HQ1 HQ2 u0 u1 u2 u3 u4 u5 u6 u7 u8
          by_cases hjl : j < D.toNat
          · have hDj : (j : Int) < D := by omega
            have htl : (ticks true j (G.1, G.2 ++ U)).1.length = G.1.length + j := ticks_len true j (G.1, G.2 ++ U)
            have hcell : wr.cell? ⟨g2, G.1.length + j, none⟩ = some (.bool false) := by
              rw [hO2.cellAt _ (by omega), List.getElem?_map, ← htl, boolsP_at (by omega)]
              rfl
            have hfr := hO2.frozenAt (G.1.length + j)
            have hj1 : ((G.1.length + j : Nat) : Int) < (n : Int) := by omega
            have hj0 : (0 : Int) ≤ ((G.1.length + j : Nat) : Int) := by omega
            obtain ⟨r1, r2⟩ := hO2.stored (G.1.length + j) (.bool true)
            have HR1 : Hid ((wr.setCell ⟨g2, G.1.length + j, none⟩ (.bool true)).ownsRow (w.heap.size + 1) 4 1 (.slice (some ⟨g2, 0, none⟩) n n) n ((boolsP n (ticks true (j + 1) (G.1, G.2 ++ U))).map Value.bool)) := by
              have e : (boolsP n (ticks true (j + 1) (G.1, G.2 ++ U))).map Value.bool = ((boolsP n (ticks true j (G.1, G.2 ++ U))).map Value.bool).set (G.1.length + j) (.bool true) := by
                rw [ticks_more, boolsP_tick (by omega), htl, List.map_set]
              rw [e]; exact r1
            have HR2 : Hid ((wr.setCell ⟨g2, G.1.length + j, none⟩ (.bool true)).ownsRow (w.heap.size + 1) 9 1 (.slice (some ⟨g1, 0, none⟩) (n + 1) (n + 1)) (n + 1) ((strsP n (G.1, G.2 ++ U)).map strV)) := hO1.kept r2 (own_ne hO1 hO2 (by decide))
            have kp : ∀ {x : Nat}, x ≠ g2 → x < wr.heap.size → (wr.setCell ⟨g2, G.1.length + j, none⟩ (.bool true)).heap[x]? = wr.heap[x]? := fun hx hxl => r2.block _ hxl (by intro e; exact hx (Option.some.inj e))
            have lb := World.block_lt_of_cell? wr _ z0
            have lS := World.block_lt_of_cell? wr _ z2
            have lp := World.block_lt_of_cell? wr _ z6
            have HV0 : Hid _ := (World.cell?_of_block (a := ⟨b, 0, none⟩) (kp hn2 lb)).trans z0
            have HV1 : Hid _ := (World.cell?_of_block (a := ⟨b, 1, none⟩) (kp hn2 lb)).trans z1
            have HV2 : Hid _ := (World.cell?_of_block (a := ⟨w.heap.size, 0, none⟩) (kp (x := w.heap.size) (by omega) lS)).trans z2
            have HV3 : Hid _ := (World.cell?_of_block (a := ⟨w.heap.size, 1, none⟩) (kp (x := w.heap.size) (by omega) lS)).trans z3
            have HV4 : Hid _ := (World.frozen?_of_block (a := ⟨w.heap.size, 0, none⟩) (kp (x := w.heap.size) (by omega) lS)).trans z4
            have HV5 : Hid _ := (World.frozen?_of_block (a := ⟨w.heap.size, 1, none⟩) (kp (x := w.heap.size) (by omega) lS)).trans z5
            have HV6 : Hid _ := (World.cell?_of_block (a := ⟨pB, 0, none⟩) (kp (Ne.symm hpb.2.2.2) lp)).trans z6
            have HV7 : Hid _ := (World.cell?_of_block (a := ⟨pB, 1, none⟩) (kp (Ne.symm hpb.2.2.2) lp)).trans z7
            have HV8 : Hid (Below w.heap.size w (wr.setCell ⟨g2, G.1.length + j, none⟩ (.bool true))) := hwr.setCell (p := ⟨g2, G.1.length + j, none⟩) (by show w.heap.size ≤ g2; omega) _
            have hsum : ((G.1.length + j : Nat) : Int) + 1 = ((G.1.length + (j + 1) : Nat) : Int) := by omega
            clear r1 r2 hO1 hO2 kp z2 z3 z4 z5
            go_wp2
            go_roundw
            case rel => exact ⟨j + 1, by omega, by go_num, by first | go_num | (simp; omega), HR2.out, HR1.out, HV0.out, HV1.out, HV2.out, HV3.out, HV4.out, HV5.out, HV8.out, HV6.out, HV7.out⟩
            case measure => simp [intOf]; omega
          · have hje : j = D.toNat := by omega
            subst hje
            have hDj : ¬ ((D.toNat : Nat) : Int) < D := by omega
            have htl : (ticks true D.toNat (G.1, G.2 ++ U)).1.length = G.1.length + D.toNat := ticks_len true D.toNat (G.1, G.2 ++ U)
            obtain ⟨k1, k2⟩ := rowsP_keeps (n := n) K.toNat (ticks true D.toNat (G.1, G.2 ++ U)) (by rw [htl]; omega)
            have HR1 : Hid (wr.ownsRow (w.heap.size + 1) 4 1 (.slice (some ⟨g2, 0, none⟩) n n) n ((boolsP n (spreads (ps.take (k + 1)))).map Value.bool)) := by
              show World.ownsRow _ _ _ _ _ _ _
              rw [HSN.out]
              show World.ownsRow _ _ _ _ _ _ ((boolsP n (ticks false K.toNat (ticks true D.toNat (G.1, G.2 ++ U)))).map Value.bool)
              rw [k2]; exact hO2
            have HR2 : Hid (wr.ownsRow (w.heap.size + 1) 9 1 (.slice (some ⟨g1, 0, none⟩) (n + 1) (n + 1)) (n + 1) ((strsP n (spreads (ps.take (k + 1)))).map strV)) := by
              show World.ownsRow _ _ _ _ _ _ _
              rw [HSN.out]
              show World.ownsRow _ _ _ _ _ _ ((strsP n (ticks false K.toNat (ticks true D.toNat (G.1, G.2 ++ U)))).map strV)
              rw [k1, strsP_drops _ _ (by show G.1.length + D.toNat ≤ n; omega)]; exact hO1
            have HAT : Hid (((spreads (ps.take (k + 1))).1.length : Int) = ((G.1.length + D.toNat : Nat) : Int) + K) := by
              show _ = _
              rw [HSN.out, spreadP_nat]
              show ((G.1.length + D.toNat + K.toNat : Nat) : Int) = _
              omega
            have hwk : IntKind.i64.wrap (((G.1.length + D.toNat : Nat) : Int) + K) = ((G.1.length + D.toNat : Nat) : Int) + K := by rw [IntKind.wrap_i64]; omega
            clear k1 k2 hO1 hO2
            go_wp2
            go_roundw
            case rel => exact ⟨k + 1, by omega, by go_num, by rw [HAT.out]; first | rfl | go_num, HR2.out, HR1.out, z0, z1, z2, z3, z4, z5, hwr⟩
            case measure => simp [intOf]; omega
      · have e : ps.take k = ps := List.take_of_length_le (by rw [← HM.out]; omega)
        rw [e] at hO1 hO2 ⊢
        have hS := World.block_lt_of_cell? wr _ z2
        have HO1 : Hid (wr.ownsRow (w.heap.size + 1) 9 1 (.slice (some ⟨g1, 0, none⟩) (n + 1) (n + 1)) (n + 1) ((strsP n (spreads ps)).map strV)) := hO1
        have HO2 : Hid (wr.ownsRow (w.heap.size + 1) 4 1 (.slice (some ⟨g2, 0, none⟩) n n) n ((boolsP n (spreads ps)).map Value.bool)) := hO2
        clear e hO1 hO2 R3 HS HW
        go_wp2
        refine bodyPost_ret (v := .agg #[.slice (some ⟨g1, 0, none⟩) (n + 1) (n + 1), .slice (some ⟨g2, 0, none⟩) n n]) (by simp [results, Tryz.results181, go_sem, z2, z3]) rfl ?_
        refine ⟨g1, g2, rfl, own_mono (own_setAt (own_setAt HO1.out (by omega) _) (by omega) _) (by omega), own_mono (own_setAt (own_setAt HO2.out (by omega) _) (by omega) _) (by omega), ?_⟩
        exact (hwr.setCell (p := ⟨w.heap.size, 0, none⟩) (Nat.le_refl _) _).setCell (p := ⟨w.heap.size, 1, none⟩) (Nat.le_refl _) _
end Go.Proofs.YtfedgjnhanlmeabGreatDoor
