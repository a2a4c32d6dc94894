/-
  The document's own first: what it returns of any text.
  The document's own Runes: what it returns of any text.
  rosettalaw.sameRunes, sameHalves: two lists that read alike are told alike.
  The document's own Halves: what it returns of any runes.
  The library's contracts that these texts use, laid at this program by the shelf's own command, its plain mode.
  The document's own Count: what it returns of any text.
  Plain mathematics: what a text counts, told by its runes, and by its bytes.
  The rope's tree, as memory holds it; what its nodes' counts, height and size tell.
  rope.link: a chunk above two trees.
  Plain mathematics: the rope's trees: chunks in order, heights, balance.
  rope.turn: a chunk above two trees that differ by two in height at most.
  rope.turn, where the left one is the higher by two: twice.
  rope.turn, where the left one is the higher by two: once.
  rope.turn, where the right one is the higher by two: twice.
  rope.turn, where the right one is the higher by two: once.
  rope.turn: what it makes of two trees with a chunk between.
  rope.join: a chunk above two trees of any heights.
-/
import Derived.Test.YtldhbjmillfjgabGreatDoorPartA
import Derived.Deep.QuietTactic
import Derived.BigQuiet
import Derived.Shelf.Strings.Builder1
import Derived.Shelf.Small.Utf8
import Derived.Shelf.Strings.BuilderF
import Derived.Shelf.Strings.BuilderK
import Derived.Shelf.Utf8.AppendRune
import Derived.Shelf.Utf8.AppendRunePlain
import Derived.Shelf.Utf8.RuneCount
import Derived.Shelf.LaysM
import Derived.Shelf.Strconv.Clone
import Derived.Shelf.Strings.Search1
import Derived.Shelf.Strings.Search2
import Derived.Shelf.Strings.Search3
import Derived.Shelf.Strings.Count
import Derived.Shelf.Strings.Shaped
import Derived.Shelf.Strings.Split
import Derived.Shelf.Unicode.Decode
import Derived.Shelf.Strings.RuneCount
import Derived.Shelf.Unicode.DecodeSlow
import Derived.Shelf.Unicode.DecodeAny
import Derived.Shelf.Strings.BuilderCap
import Derived.Test.YtldhbjmillfjgabGreatDoorProg
namespace Go.Proofs.YtldhbjmillfjgabGreatDoor
open Go.RowKit
set_option linter.unusedVariables false

theorem byteAt_elem (s : ByteArray) (i : Nat) (h : i < s.size) : (s[i]'h).toNat = byteAt s.data.toList i := by
  have e : s[i]'h = s.get! i := by
    show s.data[i] = s.data[i]!
    exact (getElem!_pos s.data i h).symm
  rw [e, get!_getD]; rfl

theorem fits_bytes (s : ByteArray) (k : Nat) : isRune (valN s.data.toList k) ∧ (⟨(enc (valN s.data.toList k)).toArray⟩ : ByteArray) = s.extract 0 k ↔ fits s.data.toList k := by
  have e : (s.extract 0 k).data.toList = s.data.toList.take k := by
    rw [Lib.extract_data, List.drop_zero, Nat.sub_zero]
  constructor
  · rintro ⟨h1, h2⟩
    refine ⟨h1, ?_⟩
    rw [← e, ← h2]
  · rintro ⟨h1, h2⟩
    refine ⟨h1, ?_⟩
    apply ByteArray.ext
    apply Array.toList_inj.1
    rw [e, ← h2]

theorem not_valid {r : Nat} (h : ¬ isRune r) : Lib.validRune (r : Int) = false := by
  unfold isRune at h
  unfold Lib.validRune
  apply decide_eq_false
  omega

theorem bytes_toList {a b : ByteArray} (h : a.toList = b.toList) : a = b := by
  rw [ByteArray.toList_eq, ByteArray.toList_eq] at h
  exact ByteArray.ext (Array.toList_inj.1 h)

set_option maxRecDepth 100000 in
set_option maxHeartbeats 2000000 in
theorem first_any (s : ByteArray) (hs : s.size < 100000000) (w : World) :
    Calls Tryz.prog 104 #[.string s] w fun e w' => e = .returned (.tuple #[.int .i32 (firstOf s.data.toList).1, .int .i64 (firstOf s.data.toList).2]) ∧ Below w.heap.size w w' := by
  have hsz : Hid (s.size = s.data.toList.length) := Lib.size_eq s
  obtain ⟨R1, hR1⟩ : ∃ z : Int, z = (firstOf s.data.toList).1 := ⟨_, rfl⟩
  obtain ⟨R2, hR2⟩ : ∃ z : Int, z = (firstOf s.data.toList).2 := ⟨_, rfl⟩
  rw [← hR1, ← hR2]
  have HR1 : Hid _ := hR1
  have HR2 : Hid _ := hR2
  clear hR1 hR2
  go_enter Tryz.func104, Tryz.ntmps104
  go_wp2
  go_loopw [4] (fun n wr => ∃ k : Nat, 1 ≤ k ∧ k ≤ 5 ∧ n = .int .i64 k ∧ (∀ j, 1 ≤ j → j < k → j ≤ s.data.toList.length → ¬ fits s.data.toList j) ∧ Below w.heap.size w wr) (fun n _ => 5 - (intOf n).toNat)
  case atStart => exact ⟨1, Nat.le_refl _, by omega, rfl, fun j h1 h2 => by omega, Below.refl _ _⟩
  case round =>
    obtain ⟨k, hk1, hk5, hn, hno, hwr⟩ := hrel
    by_cases hin : k ≤ 4 ∧ k ≤ s.size
    · obtain ⟨hk4, hks⟩ := hin
      have hnext : Hid (¬ fits s.data.toList k → ∀ j, 1 ≤ j → j < k + 1 → j ≤ s.data.toList.length → ¬ fits s.data.toList j) := fun hf j h1 h2 h3 => by
        by_cases hj : j = k
        · rw [hj]; exact hf
        · exact hno j h1 (by omega) h3
      have hret : Hid (fits s.data.toList k → firstOf s.data.toList = (valN s.data.toList k, k)) := fun hf => firstOf_fits hk1 (by rw [← hsz.out]; exact hks) hf
      have hpar : Hid (isRune (valN s.data.toList k) ∧ (⟨(enc (valN s.data.toList k)).toArray⟩ : ByteArray) = s.extract 0 k ↔ fits s.data.toList k) := fits_bytes s k
      have hV := valN_lt s.data.toList k
      clear hno
      obtain rfl | rfl | rfl | rfl : k = 1 ∨ k = 2 ∨ k = 3 ∨ k = 4 := by omega
      · obtain rfl : _ = Value.int .i64 1 := hn
        have p0 : 0 < s.size := by omega
        have e0 := byteAt_elem s 0 p0
        have l0 := byteAt_lt s.data.toList 0
        have hVV : (valN s.data.toList 1 : Int) = (byteAt s.data.toList 0 : Int) := by
          show ((byteAt s.data.toList 0 : Nat) : Int) = _
          omega
        have cR := Rune_any (valN s.data.toList 1) (by omega) (by omega)
        by_cases hval : isRune (valN s.data.toList 1)
        · have cB := Bytes_any _ hval
          have hvR := valid_of_rune hval
          rw [hvR] at cR
          have hpar2 : Hid ((⟨(enc (valN s.data.toList 1)).toArray⟩ : ByteArray) = s.extract 0 1 ↔ fits s.data.toList 1) := ⟨fun h => hpar.out.1 ⟨hval, h⟩, fun h => (hpar.out.2 h).2⟩
          generalize (⟨(enc (valN s.data.toList 1)).toArray⟩ : ByteArray) = u at cB hpar2
          rw [hVV] at cR cB
          clear hvR hval hpar hV
          generalize byteAt s.data.toList 0 = B0 at *
          have HV : Hid ((valN s.data.toList 1 : Int) = (B0 : Int)) := hVV
          clear hVV
          by_cases hu : u = s.extract 0 1
          · have hr := hret.out (hpar2.out.1 hu)
            have h1 : Hid (R1 = (B0 : Int)) := by show _ = _; rw [HR1.out, hr]; exact HV.out
            have h2 : Hid (R2 = 1) := by show _ = _; rw [HR2.out, hr]; rfl
            subst hu
            clear hr hret hnext hpar2
            go_wp2
            go_region_with (first | (go_at_call 155; refine (cR _).mono ?_; rintro e wx ⟨rfl, rfl⟩) | (go_at_call 156; refine (cB _).mono ?_; rintro e w1 ⟨rfl, hb1⟩))
            all_goals
              go_wp2
              go_ret2
              exact ⟨by rw [h1.out, h2.out]; rfl, (hwr.drew).trans (hb1.mono (by simpa using hwr.size))⟩
          · have hn' := hnext.out fun h => hu (hpar2.out.2 h)
            have HN : Hid _ := hn'
            have hue : (u.toList == (s.extract 0 1).toList) = false := beq_eq_false_iff_ne.2 fun h => hu (bytes_toList h)
            clear hn' hnext hret hpar2
            go_wp2
            go_region_with (first | (go_at_call 155; refine (cR _).mono ?_; rintro e wx ⟨rfl, rfl⟩) | (go_at_call 156; refine (cB _).mono ?_; rintro e w1 ⟨rfl, hb1⟩))
            all_goals
              go_wp2
              have hrel : ∃ k : Nat, 1 ≤ k ∧ k ≤ 5 ∧ Value.int .i64 2 = .int .i64 k ∧ (∀ j, 1 ≤ j → j < k → j ≤ s.data.toList.length → ¬ fits s.data.toList j) ∧ Below w.heap.size w w1 := ⟨2, by omega, by omega, rfl, HN.out, (hwr.drew).trans (hb1.mono (by simpa using hwr.size))⟩
              exact ⟨hrel, by simp [intOf]⟩
        · have hn' := hnext.out fun h => hval h.1
          have HN : Hid _ := hn'
          rw [not_valid hval, hVV] at cR
          clear hn' hnext hret hpar hval hV hVV
          generalize byteAt s.data.toList 0 = B0 at *
          go_wp2
          go_quiet (first | (go_at_call 155; refine (cR _).mono ?_; rintro e wx ⟨rfl, rfl⟩; exact ⟨rfl, _, rfl⟩))
          go_wp2
          have hrel : ∃ k : Nat, 1 ≤ k ∧ k ≤ 5 ∧ Value.int .i64 2 = .int .i64 k ∧ (∀ j, 1 ≤ j → j < k → j ≤ s.data.toList.length → ¬ fits s.data.toList j) ∧ Below w.heap.size w (wr.drewN (nq)) := ⟨2, by omega, by omega, rfl, HN.out, hwr.trans ⟨rfl, rfl, rfl, Nat.le_refl _, fun _ _ => rfl⟩⟩
          exact ⟨hrel, by simp [intOf]⟩
      · obtain rfl : _ = Value.int .i64 2 := hn
        have p0 : 0 < s.size := by omega
        have e0 := byteAt_elem s 0 p0
        have l0 := byteAt_lt s.data.toList 0
        have p1 : 1 < s.size := by omega
        have e1 := byteAt_elem s 1 p1
        have l1 := byteAt_lt s.data.toList 1
        have hVV : (valN s.data.toList 2 : Int) = (byteAt s.data.toList 0 : Int) % 32 * 64 + (byteAt s.data.toList 1 : Int) % 64 := by
          show ((byteAt s.data.toList 0 % 32 * 64 + byteAt s.data.toList 1 % 64 : Nat) : Int) = _
          omega
        have cR := Rune_any (valN s.data.toList 2) (by omega) (by omega)
        by_cases hval : isRune (valN s.data.toList 2)
        · have cB := Bytes_any _ hval
          have hvR := valid_of_rune hval
          rw [hvR] at cR
          have hpar2 : Hid ((⟨(enc (valN s.data.toList 2)).toArray⟩ : ByteArray) = s.extract 0 2 ↔ fits s.data.toList 2) := ⟨fun h => hpar.out.1 ⟨hval, h⟩, fun h => (hpar.out.2 h).2⟩
          generalize (⟨(enc (valN s.data.toList 2)).toArray⟩ : ByteArray) = u at cB hpar2
          rw [hVV] at cR cB
          clear hvR hval hpar hV
          generalize byteAt s.data.toList 0 = B0 at *
          generalize byteAt s.data.toList 1 = B1 at *
          have HV : Hid ((valN s.data.toList 2 : Int) = (B0 : Int) % 32 * 64 + (B1 : Int) % 64) := hVV
          clear hVV
          by_cases hu : u = s.extract 0 2
          · have hr := hret.out (hpar2.out.1 hu)
            have h1 : Hid (R1 = (B0 : Int) % 32 * 64 + (B1 : Int) % 64) := by show _ = _; rw [HR1.out, hr]; exact HV.out
            have h2 : Hid (R2 = 2) := by show _ = _; rw [HR2.out, hr]; rfl
            subst hu
            clear hr hret hnext hpar2
            go_wp2; go_region; go_wp2
            go_region_with (first | (go_at_call 155; refine (cR _).mono ?_; rintro e wx ⟨rfl, rfl⟩) | (go_at_call 156; refine (cB _).mono ?_; rintro e w1 ⟨rfl, hb1⟩))
            all_goals
              go_wp2
              go_ret2
              exact ⟨by rw [h1.out, h2.out]; rfl, (hwr.drew.drew).trans (hb1.mono (by simpa using hwr.size))⟩
          · have hn' := hnext.out fun h => hu (hpar2.out.2 h)
            have HN : Hid _ := hn'
            have hue : (u.toList == (s.extract 0 2).toList) = false := beq_eq_false_iff_ne.2 fun h => hu (bytes_toList h)
            clear hn' hnext hret hpar2
            go_wp2; go_region; go_wp2
            go_region_with (first | (go_at_call 155; refine (cR _).mono ?_; rintro e wx ⟨rfl, rfl⟩) | (go_at_call 156; refine (cB _).mono ?_; rintro e w1 ⟨rfl, hb1⟩))
            all_goals
              go_wp2
              have hrel : ∃ k : Nat, 1 ≤ k ∧ k ≤ 5 ∧ Value.int .i64 3 = .int .i64 k ∧ (∀ j, 1 ≤ j → j < k → j ≤ s.data.toList.length → ¬ fits s.data.toList j) ∧ Below w.heap.size w w1 := ⟨3, by omega, by omega, rfl, HN.out, (hwr.drew.drew).trans (hb1.mono (by simpa using hwr.size))⟩
              exact ⟨hrel, by simp [intOf]⟩
        · have hn' := hnext.out fun h => hval h.1
          have HN : Hid _ := hn'
          rw [not_valid hval, hVV] at cR
          clear hn' hnext hret hpar hval hV hVV
          generalize byteAt s.data.toList 0 = B0 at *
          generalize byteAt s.data.toList 1 = B1 at *
          go_wp2; go_region; go_wp2
          go_quiet (first | (go_at_call 155; refine (cR _).mono ?_; rintro e wx ⟨rfl, rfl⟩; exact ⟨rfl, _, rfl⟩))
          go_wp2
          have hrel : ∃ k : Nat, 1 ≤ k ∧ k ≤ 5 ∧ Value.int .i64 3 = .int .i64 k ∧ (∀ j, 1 ≤ j → j < k → j ≤ s.data.toList.length → ¬ fits s.data.toList j) ∧ Below w.heap.size w (wr.drewN (1 + nq)) := ⟨3, by omega, by omega, rfl, HN.out, hwr.trans ⟨rfl, rfl, rfl, Nat.le_refl _, fun _ _ => rfl⟩⟩
          exact ⟨hrel, by simp [intOf]⟩
      · obtain rfl : _ = Value.int .i64 3 := hn
        have p0 : 0 < s.size := by omega
        have e0 := byteAt_elem s 0 p0
        have l0 := byteAt_lt s.data.toList 0
        have p1 : 1 < s.size := by omega
        have e1 := byteAt_elem s 1 p1
        have l1 := byteAt_lt s.data.toList 1
        have p2 : 2 < s.size := by omega
        have e2 := byteAt_elem s 2 p2
        have l2 := byteAt_lt s.data.toList 2
        have hVV : (valN s.data.toList 3 : Int) = (byteAt s.data.toList 0 : Int) % 16 * 4096 + (byteAt s.data.toList 1 : Int) % 64 * 64 + (byteAt s.data.toList 2 : Int) % 64 := by
          show ((byteAt s.data.toList 0 % 16 * 4096 + byteAt s.data.toList 1 % 64 * 64 + byteAt s.data.toList 2 % 64 : Nat) : Int) = _
          omega
        have cR := Rune_any (valN s.data.toList 3) (by omega) (by omega)
        by_cases hval : isRune (valN s.data.toList 3)
        · have cB := Bytes_any _ hval
          have hvR := valid_of_rune hval
          rw [hvR] at cR
          have hpar2 : Hid ((⟨(enc (valN s.data.toList 3)).toArray⟩ : ByteArray) = s.extract 0 3 ↔ fits s.data.toList 3) := ⟨fun h => hpar.out.1 ⟨hval, h⟩, fun h => (hpar.out.2 h).2⟩
          generalize (⟨(enc (valN s.data.toList 3)).toArray⟩ : ByteArray) = u at cB hpar2
          rw [hVV] at cR cB
          clear hvR hval hpar hV
          generalize byteAt s.data.toList 0 = B0 at *
          generalize byteAt s.data.toList 1 = B1 at *
          generalize byteAt s.data.toList 2 = B2 at *
          have HV : Hid ((valN s.data.toList 3 : Int) = (B0 : Int) % 16 * 4096 + (B1 : Int) % 64 * 64 + (B2 : Int) % 64) := hVV
          clear hVV
          by_cases hu : u = s.extract 0 3
          · have hr := hret.out (hpar2.out.1 hu)
            have h1 : Hid (R1 = (B0 : Int) % 16 * 4096 + (B1 : Int) % 64 * 64 + (B2 : Int) % 64) := by show _ = _; rw [HR1.out, hr]; exact HV.out
            have h2 : Hid (R2 = 3) := by show _ = _; rw [HR2.out, hr]; rfl
            subst hu
            clear hr hret hnext hpar2
            go_wp2; go_region; go_wp2
            go_region_with (first | (go_at_call 155; refine (cR _).mono ?_; rintro e wx ⟨rfl, rfl⟩) | (go_at_call 156; refine (cB _).mono ?_; rintro e w1 ⟨rfl, hb1⟩))
            all_goals
              go_wp2
              go_ret2
              exact ⟨by rw [h1.out, h2.out]; rfl, (hwr.drew.drew).trans (hb1.mono (by simpa using hwr.size))⟩
          · have hn' := hnext.out fun h => hu (hpar2.out.2 h)
            have HN : Hid _ := hn'
            have hue : (u.toList == (s.extract 0 3).toList) = false := beq_eq_false_iff_ne.2 fun h => hu (bytes_toList h)
            clear hn' hnext hret hpar2
            go_wp2; go_region; go_wp2
            go_region_with (first | (go_at_call 155; refine (cR _).mono ?_; rintro e wx ⟨rfl, rfl⟩) | (go_at_call 156; refine (cB _).mono ?_; rintro e w1 ⟨rfl, hb1⟩))
            all_goals
              go_wp2
              have hrel : ∃ k : Nat, 1 ≤ k ∧ k ≤ 5 ∧ Value.int .i64 4 = .int .i64 k ∧ (∀ j, 1 ≤ j → j < k → j ≤ s.data.toList.length → ¬ fits s.data.toList j) ∧ Below w.heap.size w w1 := ⟨4, by omega, by omega, rfl, HN.out, (hwr.drew.drew).trans (hb1.mono (by simpa using hwr.size))⟩
              exact ⟨hrel, by simp [intOf]⟩
        · have hn' := hnext.out fun h => hval h.1
          have HN : Hid _ := hn'
          rw [not_valid hval, hVV] at cR
          clear hn' hnext hret hpar hval hV hVV
          generalize byteAt s.data.toList 0 = B0 at *
          generalize byteAt s.data.toList 1 = B1 at *
          generalize byteAt s.data.toList 2 = B2 at *
          go_wp2; go_region; go_wp2
          go_quiet (first | (go_at_call 155; refine (cR _).mono ?_; rintro e wx ⟨rfl, rfl⟩; exact ⟨rfl, _, rfl⟩))
          go_wp2
          have hrel : ∃ k : Nat, 1 ≤ k ∧ k ≤ 5 ∧ Value.int .i64 4 = .int .i64 k ∧ (∀ j, 1 ≤ j → j < k → j ≤ s.data.toList.length → ¬ fits s.data.toList j) ∧ Below w.heap.size w (wr.drewN (1 + nq)) := ⟨4, by omega, by omega, rfl, HN.out, hwr.trans ⟨rfl, rfl, rfl, Nat.le_refl _, fun _ _ => rfl⟩⟩
          exact ⟨hrel, by simp [intOf]⟩
      · obtain rfl : _ = Value.int .i64 4 := hn
        have p0 : 0 < s.size := by omega
        have e0 := byteAt_elem s 0 p0
        have l0 := byteAt_lt s.data.toList 0
        have p1 : 1 < s.size := by omega
        have e1 := byteAt_elem s 1 p1
        have l1 := byteAt_lt s.data.toList 1
        have p2 : 2 < s.size := by omega
        have e2 := byteAt_elem s 2 p2
        have l2 := byteAt_lt s.data.toList 2
        have p3 : 3 < s.size := by omega
        have e3 := byteAt_elem s 3 p3
        have l3 := byteAt_lt s.data.toList 3
        have hVV : (valN s.data.toList 4 : Int) = (byteAt s.data.toList 0 : Int) % 8 * 262144 + (byteAt s.data.toList 1 : Int) % 64 * 4096 + (byteAt s.data.toList 2 : Int) % 64 * 64 + (byteAt s.data.toList 3 : Int) % 64 := by
          show ((byteAt s.data.toList 0 % 8 * 262144 + byteAt s.data.toList 1 % 64 * 4096 + byteAt s.data.toList 2 % 64 * 64 + byteAt s.data.toList 3 % 64 : Nat) : Int) = _
          omega
        have cR := Rune_any (valN s.data.toList 4) (by omega) (by omega)
        by_cases hval : isRune (valN s.data.toList 4)
        · have cB := Bytes_any _ hval
          have hvR := valid_of_rune hval
          rw [hvR] at cR
          have hpar2 : Hid ((⟨(enc (valN s.data.toList 4)).toArray⟩ : ByteArray) = s.extract 0 4 ↔ fits s.data.toList 4) := ⟨fun h => hpar.out.1 ⟨hval, h⟩, fun h => (hpar.out.2 h).2⟩
          generalize (⟨(enc (valN s.data.toList 4)).toArray⟩ : ByteArray) = u at cB hpar2
          rw [hVV] at cR cB
          clear hvR hval hpar hV
          generalize byteAt s.data.toList 0 = B0 at *
          generalize byteAt s.data.toList 1 = B1 at *
          generalize byteAt s.data.toList 2 = B2 at *
          generalize byteAt s.data.toList 3 = B3 at *
          have HV : Hid ((valN s.data.toList 4 : Int) = (B0 : Int) % 8 * 262144 + (B1 : Int) % 64 * 4096 + (B2 : Int) % 64 * 64 + (B3 : Int) % 64) := hVV
          clear hVV
          by_cases hu : u = s.extract 0 4
          · have hr := hret.out (hpar2.out.1 hu)
            have h1 : Hid (R1 = (B0 : Int) % 8 * 262144 + (B1 : Int) % 64 * 4096 + (B2 : Int) % 64 * 64 + (B3 : Int) % 64) := by show _ = _; rw [HR1.out, hr]; exact HV.out
            have h2 : Hid (R2 = 4) := by show _ = _; rw [HR2.out, hr]; rfl
            subst hu
            clear hr hret hnext hpar2
            go_wp2; go_region; go_wp2
            go_region_with (first | (go_at_call 155; refine (cR _).mono ?_; rintro e wx ⟨rfl, rfl⟩) | (go_at_call 156; refine (cB _).mono ?_; rintro e w1 ⟨rfl, hb1⟩))
            all_goals
              go_wp2
              go_ret2
              exact ⟨by rw [h1.out, h2.out]; rfl, (hwr.drew.drew).trans (hb1.mono (by simpa using hwr.size))⟩
          · have hn' := hnext.out fun h => hu (hpar2.out.2 h)
            have HN : Hid _ := hn'
            have hue : (u.toList == (s.extract 0 4).toList) = false := beq_eq_false_iff_ne.2 fun h => hu (bytes_toList h)
            clear hn' hnext hret hpar2
            go_wp2; go_region; go_wp2
            go_region_with (first | (go_at_call 155; refine (cR _).mono ?_; rintro e wx ⟨rfl, rfl⟩) | (go_at_call 156; refine (cB _).mono ?_; rintro e w1 ⟨rfl, hb1⟩))
            all_goals
              go_wp2
              have hrel : ∃ k : Nat, 1 ≤ k ∧ k ≤ 5 ∧ Value.int .i64 5 = .int .i64 k ∧ (∀ j, 1 ≤ j → j < k → j ≤ s.data.toList.length → ¬ fits s.data.toList j) ∧ Below w.heap.size w w1 := ⟨5, by omega, by omega, rfl, HN.out, (hwr.drew.drew).trans (hb1.mono (by simpa using hwr.size))⟩
              exact ⟨hrel, by simp [intOf]⟩
        · have hn' := hnext.out fun h => hval h.1
          have HN : Hid _ := hn'
          rw [not_valid hval, hVV] at cR
          clear hn' hnext hret hpar hval hV hVV
          generalize byteAt s.data.toList 0 = B0 at *
          generalize byteAt s.data.toList 1 = B1 at *
          generalize byteAt s.data.toList 2 = B2 at *
          generalize byteAt s.data.toList 3 = B3 at *
          go_wp2; go_region; go_wp2
          go_quiet (first | (go_at_call 155; refine (cR _).mono ?_; rintro e wx ⟨rfl, rfl⟩; exact ⟨rfl, _, rfl⟩))
          go_wp2
          have hrel : ∃ k : Nat, 1 ≤ k ∧ k ≤ 5 ∧ Value.int .i64 5 = .int .i64 k ∧ (∀ j, 1 ≤ j → j < k → j ≤ s.data.toList.length → ¬ fits s.data.toList j) ∧ Below w.heap.size w (wr.drewN (1 + nq)) := ⟨5, by omega, by omega, rfl, HN.out, hwr.trans ⟨rfl, rfl, rfl, Nat.le_refl _, fun _ _ => rfl⟩⟩
          exact ⟨hrel, by simp [intOf]⟩
    · have hz : firstOf s.data.toList = (0, 0) := firstOf_none fun n h1 h2 h3 => hno n h1 (by rw [← hsz.out] at h3; omega) h3
      have h1 : Hid (R1 = 0) := by show _ = _; rw [HR1.out, hz]; rfl
      have h2 : Hid (R2 = 0) := by show _ = _; rw [HR2.out, hz]; rfl
      subst hn
      clear hno hz
      by_cases hk : k ≤ 4
      · have hks : ¬ k ≤ s.size := fun h => hin ⟨hk, h⟩
        clear hin
        go_wp2
        go_ret2
        exact ⟨by rw [h1.out, h2.out]; rfl, hwr⟩
      · clear hin
        go_wp2
        go_ret2
        exact ⟨by rw [h1.out, h2.out]; rfl, hwr⟩
end Go.Proofs.YtldhbjmillfjgabGreatDoor

namespace Go.Proofs.YtldhbjmillfjgabGreatDoor
open Go.RowKit
set_option linter.unusedVariables false

theorem extract_list (s : ByteArray) (k : Nat) : (s.extract k s.size).data.toList = s.data.toList.drop k := by
  rw [Lib.extract_data, List.take_of_length_le (by rw [List.length_drop, ← Lib.size_eq]; exact Nat.le_refl _)]

set_option maxRecDepth 100000 in
set_option maxHeartbeats 4000000 in
theorem refRunes_any (s : ByteArray) (hs : s.size < 100000000) (w : World) :
    Calls Tryz.prog 56 #[.string s] w fun e w' => Below w.heap.size w w' ∧
      (((scan s.data.toList).2 = true ∧ ∃ v, e = .returned (.tuple #[v, fault 0 (-1)]) ∧ isRow w w' 21 v (cellsOf21 (scan s.data.toList).1)) ∨
       ((scan s.data.toList).2 = false ∧ e = .returned (.tuple #[.slice none 0 0, fault 3 (place s.data.toList)]))) := by
  have hsz : Hid (s.size = s.data.toList.length) := Lib.size_eq s
  obtain ⟨i0, hi, hz0, hz1, hz2⟩ := info_parts info21
  unfold fault
  go_enter Tryz.func56, Tryz.ntmps56
  go_wp2
  go_loopw [4, 5] (fun b i wr => ∃ (k : Nat) (done : List (Nat × Nat)), k ≤ s.size ∧ i = .int .i64 k ∧ (scan s.data.toList).1 = done ++ (scan (s.data.toList.drop k)).1 ∧ (done.map (·.2)).sum = k ∧ (scan s.data.toList).2 = (scan (s.data.toList.drop k)).2 ∧ done.length ≤ k ∧
      wr.ownsRow (w.heap.size + 1) 21 1 b done.length (cellsOf21 done) ∧
      wr.cell? ⟨w.heap.size, 0, none⟩ = some (.int .i64 0) ∧ wr.cell? ⟨w.heap.size, 1, none⟩ = some (.int .i64 0) ∧ wr.frozen? ⟨w.heap.size, 0, none⟩ = false ∧ wr.frozen? ⟨w.heap.size, 1, none⟩ = false ∧ Below w.heap.size w wr) (fun _ i _ => s.size - (intOf i).toNat)
  case atStart => exact ⟨0, [], Nat.zero_le _, rfl, by rw [List.drop_zero]; rfl, rfl, by rw [List.drop_zero], Nat.le_refl _, World.ownsRow_nil _ _ _ _, by simp [go_sem], by simp [go_sem], by simp [go_sem], by simp [go_sem], (Below.refl _ _).alloc (Nat.le_refl _) _⟩
  case round =>
    obtain ⟨k, done, hk, rfl, hd1, hd2, hd3, hdl, hown, c0, c1, f0, f1, hwr⟩ := hrel
    have hbl : w.heap.size < wr.heap.size := World.block_lt_of_cell? wr _ c0
    by_cases hlt : k < s.size
    · have hne : s.data.toList.drop k ≠ [] := by
        intro e
        have := congrArg List.length e
        rw [List.length_drop, List.length_nil, ← Lib.size_eq] at this
        omega
      have cF := first_any (s.extract k s.size) (by rw [ByteArray.size_extract]; omega) wr
      rw [extract_list] at cF
      unfold firstOf at cF
      rw [if_neg hne] at cF
      have hge := dec_ge1 (s.data.toList.drop k)
      have hle := dec_le hne
      rw [List.length_drop, ← hsz.out] at hle
      have hdn : done.length < 100000000 := by omega
      by_cases hb : badB (dec (s.data.toList.drop k)) = true
      · rw [hb] at cF
        simp only [if_true] at cF
        have hs2 := scan_bad hne hb
        have hpl : Hid (place s.data.toList = k) := by
          show _ = _
          unfold place
          rw [hd1, hs2, List.append_nil, hd2]
        have hf : Hid ((scan s.data.toList).2 = false) := by show _ = _; rw [hd3, hs2]
        clear hd1 hd2 hd3 hdl hs2 hown hne hb hge hle
        go_wp2_with (first | (go_at_call 104; refine cF.mono ?_; rintro e w1 ⟨rfl, hb1⟩; have e0 := (hb1.cell (p := ⟨w.heap.size, 0, none⟩) hbl).trans c0; have e1 := (hb1.cell (p := ⟨w.heap.size, 1, none⟩) hbl).trans c1; have g0 := (hb1.frozen (p := ⟨w.heap.size, 0, none⟩) hbl).trans f0; have g1 := (hb1.frozen (p := ⟨w.heap.size, 1, none⟩) hbl).trans f1) | fail)
        refine bodyPost_ret (v := .tuple #[.slice none 0 0, .agg #[.int .i64 3, .int .i64 k]]) (by simp [results, Tryz.results56, go_sem, e0, e1]) rfl ?_
        refine ⟨((hwr.trans (hb1.mono hwr.size)).setCell (p := ⟨w.heap.size, 0, none⟩) (Nat.le_refl _) _).setCell (p := ⟨w.heap.size, 1, none⟩) (Nat.le_refl _) _, .inr ⟨hf.out, by rw [hpl.out]⟩⟩
      · have hb : badB (dec (s.data.toList.drop k)) = false := Bool.eq_false_iff.2 hb
        rw [hb] at cF
        simp only [Bool.false_eq_true, if_false] at cF
        have hs2 := scan_good hne hb
        rw [List.drop_drop] at hs2
        obtain ⟨R, hR⟩ : ∃ R, R = (dec (s.data.toList.drop k)).1 := ⟨_, rfl⟩
        obtain ⟨K, hK⟩ : ∃ K, K = (dec (s.data.toList.drop k)).2 := ⟨_, rfl⟩
        have hp : dec (s.data.toList.drop k) = (R, K) := by rw [hR, hK]
        rw [hp] at cF hs2 hge hle
        simp only [] at cF hs2 hge hle
        have hnext : Hid ((scan s.data.toList).1 = done ++ [(R, K)] ++ (scan (s.data.toList.drop (k + K))).1) := by
          show _ = _
          rw [hd1, hs2, List.append_assoc]; rfl
        have hnext2 : Hid (((done ++ [(R, K)]).map (·.2)).sum = k + K) := by
          show _ = _
          rw [List.map_append, List.sum_append, hd2]; rfl
        have hnext3 : Hid ((scan s.data.toList).2 = (scan (s.data.toList.drop (k + K))).2) := by show _ = _; rw [hd3, hs2]
        have hnext4 : Hid ((done ++ [(R, K)]).length ≤ k + K) := by
          show _ ≤ _
          rw [List.length_append]
          simp
          omega
        have hr0 : ((K : Int) == 0) = false := by
          rw [beq_eq_false_iff_ne]
          intro e
          omega
        have NX : Hid (∀ w0 w1 v' o, Below wr.heap.size wr w0 → w1.ownsRow (w.heap.size + 1) 21 1 v' (done.length + 1) (cellsOf21 done ++ [.int .i32 R]) → (w0.alloc o).grownBy w1 (u4).ownBlock →
            w1.ownsRow (w.heap.size + 1) 21 1 v' (done ++ [(R, K)]).length (cellsOf21 (done ++ [(R, K)])) ∧
            w1.cell? ⟨w.heap.size, 0, none⟩ = some (.int .i64 0) ∧ w1.cell? ⟨w.heap.size, 1, none⟩ = some (.int .i64 0) ∧ w1.frozen? ⟨w.heap.size, 0, none⟩ = false ∧ w1.frozen? ⟨w.heap.size, 1, none⟩ = false ∧ Below w.heap.size w w1) := by
          intro w0 w1 v' o hb0 h1 hg
          have hB : Below (w.heap.size + 1) wr w1 := ((hb0.mono hbl).alloc (Nat.le_trans hbl hb0.size) o).grown hg (by rw [World.size_alloc]; have := hb0.size; omega) fun k hk => (hown.lt k hk).1
          refine ⟨?_, (hB.cell (p := ⟨w.heap.size, 0, none⟩) (Nat.lt_succ_self _)).trans c0, (hB.cell (p := ⟨w.heap.size, 1, none⟩) (Nat.lt_succ_self _)).trans c1, (hB.frozen (p := ⟨w.heap.size, 0, none⟩) (Nat.lt_succ_self _)).trans f0, (hB.frozen (p := ⟨w.heap.size, 1, none⟩) (Nat.lt_succ_self _)).trans f1, hwr.trans (hB.mono (Nat.le_succ _))⟩
          have e : cellsOf21 (done ++ [(R, K)]) = cellsOf21 done ++ [.int .i32 R] := by simp [cellsOf21]
          rw [List.length_append, e]
          exact h1
        obtain ⟨pb, cb, rfl⟩ := own_slice hown
        clear hd1 hd2 hd3 hdl hs2 hp hR hK hne hb
        generalize cellsOf21 done = xs at hown NX
        go_wp2_with (first | (go_at_call 104; refine cF.mono ?_; rintro e w0 ⟨rfl, hb1⟩; have hown0 := own_below hown hb1; have hz9 := hb1.size) | (at_builtin; refine wpList_append_own _ rfl (.tmp 23) (.tmp 25) 111 rfl (w.heap.size + 1) 21 i0 (.int .i32 0) 1 4 Tryz.underlying111 hi hz0 hz1 hz2 rfl (by decide) _ _ _ rfl (hown0.alloc _) ⟨w0.heap.size, 0, none⟩ 1 1 [.int .i32 R] rfl rfl (cell_one_new _ _ _) (ints_oneCell .i32 [(R : Int)]) (by unfold maxLen; omega) (by omega) (by first | omega | (simp; omega)) ?_; intro v' w1 hown1 hg _) | fail)
        have hnx := NX.out w0 w1 v' _ hb1 hown1 hg
        obtain ⟨n0, n1, n2, n3, n4, n5⟩ := hnx
        clear hown1 hg hown hown0
        go_wp2
        go_roundw
        case rel => exact ⟨k + K, _, by omega, by go_num, hnext.out, hnext2.out, hnext3.out, hnext4.out, n0, n1, n2, n3, n4, n5⟩
        case measure => simp [intOf]; omega
    · have hend : s.data.toList.drop k = [] := List.drop_eq_nil_of_le (by rw [← Lib.size_eq]; omega)
      rw [hend, scan_nil] at hd1 hd3
      rw [List.append_nil] at hd1
      obtain ⟨pb, cb, rfl⟩ := own_slice hown
      have HO : Hid (wr.ownsRow (w.heap.size + 1) 21 1 (.slice pb done.length cb) done.length (cellsOf21 done)) := hown
      have hfin : Hid ((scan s.data.toList).1 = done) := hd1
      have hok : Hid ((scan s.data.toList).2 = true) := hd3
      clear hd1 hd3 hend hdl hd2 hown
      go_wp2_with (first | (go_at_call 65; refine (Bare_any _ _).mono ?_; rintro e w1 ⟨rfl, hb1⟩; have e0 := (hb1.cell (p := ⟨w.heap.size, 0, none⟩) hbl).trans c0; have e1 := (hb1.cell (p := ⟨w.heap.size, 1, none⟩) hbl).trans c1; have g0 := (hb1.frozen (p := ⟨w.heap.size, 0, none⟩) hbl).trans f0; have g1 := (hb1.frozen (p := ⟨w.heap.size, 1, none⟩) hbl).trans f1) | fail)
      refine bodyPost_ret (v := .tuple #[.slice pb done.length cb, .agg #[.int .i64 0, .int .i64 (-1)]]) (by simp [results, Tryz.results56, go_sem, e0, e1]) rfl ?_
      refine ⟨((hwr.trans (hb1.mono hwr.size)).setCell (p := ⟨w.heap.size, 0, none⟩) (Nat.le_refl _) _).setCell (p := ⟨w.heap.size, 1, none⟩) (Nat.le_refl _) _, .inl ⟨hok.out, _, rfl, ?_⟩⟩
      rw [hfin.out]
      have hlen : (cellsOf21 done).length = done.length := by simp [cellsOf21]
      refine ⟨pb, cb, by rw [hlen], ?_⟩
      rw [hlen]
      exact own_mono (ownsRow_setCell_below (a := ⟨w.heap.size, 1, none⟩) (ownsRow_setCell_below (a := ⟨w.heap.size, 0, none⟩) (own_below HO.out hb1) (Nat.lt_succ_self _) _) (Nat.lt_succ_self _) _) (Nat.le_succ _)
end Go.Proofs.YtldhbjmillfjgabGreatDoor

namespace Go.Proofs.YtldhbjmillfjgabGreatDoor
open Go.RowKit
set_option linter.unusedVariables false

end Go.Proofs.YtldhbjmillfjgabGreatDoor

namespace Go.Proofs.YtldhbjmillfjgabGreatDoor
open Go.RowKit
set_option linter.unusedVariables false

/-- The halves of runes, as cells. -/
def halRow (rs : List Nat) : List Value := rs.flatMap halCells
theorem halRow_snoc (rs : List Nat) (r : Nat) : halRow (rs ++ [r]) = halRow rs ++ halCells r := by simp [halRow]
theorem halRow_len (rs : List Nat) : (halRow rs).length ≤ 2 * rs.length := by
  induction rs with
  | nil => simp [halRow]
  | cons r rs ih =>
    have h : (halCells r).length ≤ 2 := by unfold halCells hal; split <;> simp
    have e : halRow (r :: rs) = halCells r ++ halRow rs := by simp [halRow]
    rw [e, List.length_append, List.length_cons]
    omega
theorem halRow_of59 (l : List (Nat × Nat)) : cellsOf59 l = halRow (l.map (·.1)) := by
  unfold cellsOf59 halRow
  rw [List.flatMap_map]

set_option maxRecDepth 100000 in
set_option maxHeartbeats 4000000 in
theorem refHalves_any (v : Value) (rs : List Nat) (w : World) (hz : ∀ r ∈ rs, isRune r) (hr : reads w .i32 v (toI rs)) (hl : rs.length < 100000000) :
    Calls Tryz.prog 57 #[v] w fun e w' => ∃ v, e = .returned v ∧ isRow w w' 139 v (halRow rs) ∧ Below w.heap.size w w' := by
  obtain ⟨p, c, rfl, r1, r2, r3⟩ := hr
  obtain ⟨n, hn⟩ : ∃ n, n = (toI rs).length := ⟨_, rfl⟩
  rw [← hn] at r1 r3 ⊢
  have HN : Hid (n = rs.length) := by show _ = _; rw [hn]; simp [toI]
  have HT : Hid (toI rs ≠ [] ↔ rs ≠ []) := by show _ ↔ _; simp [toI]
  have hln : n < 100000000 := by rw [HN.out]; exact hl
  clear hn hl
  have R3 : Hid (toI rs ≠ [] → ∃ b o, p = some ⟨b, o, none⟩ ∧ b < w.heap.size ∧ ∀ i, i < n → w.cell? ⟨b, o + i, none⟩ = some (.int .i32 ((toI rs).getD i 0))) := r3
  have HZ : Hid (∀ r ∈ rs, isRune r) := hz
  clear r3 hz
  obtain ⟨i0, hi, hz0, hz1, hz2⟩ := info_parts info59
  go_enter Tryz.func57, Tryz.ntmps57
  go_wp2
  go_loopw [3, 9] (fun b i wr => ∃ (k : Nat), k ≤ n ∧ i = .int .i64 k ∧ wr.ownsRow w.heap.size 139 1 b (halRow (rs.take k)).length (halRow (rs.take k)) ∧ Below w.heap.size w wr) (fun _ i _ => n - (intOf i).toNat)
  case atStart => exact ⟨0, Nat.zero_le _, rfl, World.ownsRow_nil _ _ _ _, Below.refl _ _⟩
  case round =>
    obtain ⟨k, hk, rfl, hown, hwr⟩ := hrel
    have hlen := halRow_len (rs.take k)
    rw [List.length_take] at hlen
    by_cases hlt : k < n
    · have hkr : k < rs.length := by rw [← HN.out]; exact hlt
      have hne : rs ≠ [] := by intro e; rw [e] at hkr; exact absurd hkr (Nat.not_lt_zero _)
      obtain ⟨b, o, rfl, hbw, hcell⟩ := R3.out (HT.out.2 hne)
      have hc := (hwr.cell (p := ⟨b, o + k, none⟩) hbw).trans (hcell k hlt)
      have hze : (toI rs).getD k 0 = (rs[k] : Int) := by
        rw [List.getD_eq_getElem?_getD, toI, List.getElem?_map, List.getElem?_eq_getElem hkr]; rfl
      rw [hze] at hc
      have hru := HZ.out rs[k] (List.getElem_mem _)
      have hts : rs.take (k + 1) = rs.take k ++ [rs[k]] := List.take_succ_eq_append_getElem hkr
      have hsn := halRow_snoc (rs.take k) rs[k]
      rw [← hts] at hsn
      generalize rs[k] = r at hc hru hsn
      unfold isRune at hru
      have hm : (halRow (rs.take k)).length < 300000000 := by omega
      by_cases hbig : r < 65536
      · have hh : halCells r = [.int .u16 r] := by simp [halCells, hal, hbig]
        rw [hh] at hsn
        have NX : Hid (∀ w1 v' o, w1.ownsRow w.heap.size 139 1 v' ((halRow (rs.take k)).length + 1) (halRow (rs.take k) ++ [.int .u16 r]) → (wr.alloc o).grownBy w1 (u3).ownBlock →
            w1.ownsRow w.heap.size 139 1 v' (halRow (rs.take (k + 1))).length (halRow (rs.take (k + 1))) ∧ Below w.heap.size w w1) := by
          intro w1 v' o h1 hg
          have hB : Below w.heap.size wr w1 := ((Below.refl _ wr).alloc hwr.size o).grown hg (by rw [World.size_alloc]; have := hwr.size; omega) fun k hk => (hown.lt k hk).1
          refine ⟨?_, hwr.trans hB⟩
          rw [hsn, List.length_append]
          exact h1
        obtain ⟨pb, cb, rfl⟩ := own_slice hown
        have q0 : (0 : Int) ≤ (r : Int) := by omega
        have q1 : (r : Int) < 65536 := by omega
        have hws := hwr.size
        clear hsn hts hze hh hcell hlen hru hbig
        generalize (r : Int) = z at hc q0 q1 NX
        generalize halRow (rs.take k) = xs at hown hm NX
        go_wp2_with (first | (at_builtin; refine wpList_append_own _ rfl (.tmp 30) (.tmp 33) 114 rfl w.heap.size 139 i0 (.int .u16 0) 1 2 Tryz.underlying114 hi hz0 hz1 hz2 rfl (by decide) _ _ _ rfl (hown.alloc _) ⟨wr.heap.size, 0, none⟩ 1 1 [.int .u16 z] rfl rfl (cell_one_new _ _ _) (ints_oneCell .u16 [z]) (by unfold maxLen; omega) (by omega) (by first | omega | (simp; omega)) ?_; intro v' w1 hown1 hg _) | fail)
        have hnx := NX.out w1 v' _ hown1 hg
        obtain ⟨n0, n1⟩ := hnx
        clear hown1 hg hown
        go_wp2
        go_roundw
        case rel => exact ⟨k + 1, by omega, by go_num, n0, n1⟩
        case measure => simp [intOf]; omega
      · have hh : halCells r = [.int .u16 (55296 + ((r : Int) - 65536) / 1024), .int .u16 (56320 + ((r : Int) - 65536) % 1024)] := by
          simp only [halCells, hal, hbig, if_false, List.map_cons, List.map_nil]
          rw [show ((55296 + (r - 65536) / 1024 : Nat) : Int) = 55296 + ((r : Int) - 65536) / 1024 by omega, show ((56320 + (r - 65536) % 1024 : Nat) : Int) = 56320 + ((r : Int) - 65536) % 1024 by omega]
        rw [hh] at hsn
        have NX : Hid (∀ w1 v' o, w1.ownsRow w.heap.size 139 1 v' ((halRow (rs.take k)).length + 2) (halRow (rs.take k) ++ [.int .u16 (55296 + ((r : Int) - 65536) / 1024), .int .u16 (56320 + ((r : Int) - 65536) % 1024)]) → (wr.alloc o).grownBy w1 (u3).ownBlock →
            w1.ownsRow w.heap.size 139 1 v' (halRow (rs.take (k + 1))).length (halRow (rs.take (k + 1))) ∧ Below w.heap.size w w1) := by
          intro w1 v' o h1 hg
          have hB : Below w.heap.size wr w1 := ((Below.refl _ wr).alloc hwr.size o).grown hg (by rw [World.size_alloc]; have := hwr.size; omega) fun k hk => (hown.lt k hk).1
          refine ⟨?_, hwr.trans hB⟩
          rw [hsn, List.length_append]
          exact h1
        obtain ⟨pb, cb, rfl⟩ := own_slice hown
        have q0 : ¬ (r : Int) < 65536 := by omega
        have q1 : (r : Int) ≤ 1114111 := by omega
        have q2 : (65536 : Int) ≤ (r : Int) := by omega
        have hws := hwr.size
        clear hsn hts hze hh hcell hlen hru hbig
        generalize (r : Int) = z at hc q0 q1 q2 NX
        generalize halRow (rs.take k) = xs at hown hm NX
        go_wp2_with (first | (at_builtin; refine wpList_append_own _ rfl (.tmp 17) (.tmp 28) 114 rfl w.heap.size 139 i0 (.int .u16 0) 1 2 Tryz.underlying114 hi hz0 hz1 hz2 rfl (by decide) _ _ _ rfl (hown.alloc _) ⟨wr.heap.size, 0, none⟩ 2 2 [.int .u16 (55296 + (z - 65536) / 1024), .int .u16 (56320 + (z - 65536) % 1024)] rfl rfl (cell_two_new _ _ _ _) (ints_oneCell .u16 [55296 + (z - 65536) / 1024, 56320 + (z - 65536) % 1024]) (by unfold maxLen; omega) (by omega) (by first | omega | (simp; omega)) ?_; intro v' w1 hown1 hg _) | fail)
        have hnx := NX.out w1 v' _ hown1 hg
        obtain ⟨n0, n1⟩ := hnx
        clear hown1 hg hown
        go_wp2
        go_roundw
        case rel => exact ⟨k + 1, by omega, by go_num, n0, n1⟩
        case measure => simp [intOf]; omega
    · have e : rs.take k = rs := List.take_of_length_le (by rw [← HN.out]; omega)
      rw [e] at hown
      obtain ⟨pb, cb, rfl⟩ := own_slice hown
      have HO : Hid (isRow w wr 139 (.slice pb (halRow rs).length cb) (halRow rs)) := ⟨pb, cb, rfl, hown⟩
      clear e hown R3 HZ hlen
      go_wp2
      go_ret
      exact ⟨_, rfl, HO.out, hwr⟩
end Go.Proofs.YtldhbjmillfjgabGreatDoor

namespace Go.Proofs
open Go.Shelf
def Tryz.lays138_ren : Go.Shelf.Ren := ⟨fun | 138 => 58 | 195 => 105 | 218 => 106 | 143 => 107 | 219 => 157 | 217 => 184 | 225 => 185 | 224 => 186 | 267 => 187 | 266 => 202 | 314 => 203 | n => n, fun | 9 => 9 | 3 => 3 | 4 => 4 | 5 => 5 | 0 => 0 | 46 => 86 | 146 => 299 | 51 => 268 | n => n, fun | 1 => 1 | n => n⟩
theorem Tryz.lays138 : Go.Proofs.Lays.n138 Tryz.prog Tryz.lays138_ren := {
  mixed := by kernel_rfl
  f138 := Tryz.func58.trans (congrArg some (by kernel_rfl))
  f143 := Tryz.func107.trans (congrArg some (by kernel_rfl))
  f195 := Tryz.func105.trans (congrArg some (by kernel_rfl))
  f217 := Tryz.func184.trans (congrArg some (by kernel_rfl))
  f218 := Tryz.func106.trans (congrArg some (by kernel_rfl))
  f219 := Tryz.func157.trans (congrArg some (by kernel_rfl))
  f224 := Tryz.func186.trans (congrArg some (by kernel_rfl))
  f225 := Tryz.func185.trans (congrArg some (by kernel_rfl))
  f266 := Tryz.func202.trans (congrArg some (by kernel_rfl))
  f267 := Tryz.func187.trans (congrArg some (by kernel_rfl))
  f314 := Tryz.func203.trans (congrArg some (by kernel_rfl))
  t0 := Tryz.underlying0
  a0 := Tryz.isAgg0
  z0 := Tryz.sizeOf0
  v0 := Tryz.zeroValue0
  t3 := Tryz.underlying3
  a3 := Tryz.isAgg3
  z3 := Tryz.sizeOf3
  v3 := Tryz.zeroValue3
  t4 := Tryz.underlying4
  a4 := Tryz.isAgg4
  z4 := Tryz.sizeOf4
  v4 := Tryz.zeroValue4
  t5 := Tryz.underlying5
  a5 := Tryz.isAgg5
  z5 := Tryz.sizeOf5
  v5 := Tryz.zeroValue5
  t9 := Tryz.underlying9
  a9 := Tryz.isAgg9
  z9 := Tryz.sizeOf9
  v9 := Tryz.zeroValue9
  t46 := Tryz.underlying86
  a46 := Tryz.isAgg86
  z46 := Tryz.sizeOf86
  v46 := Tryz.zeroValue86
  t51 := Tryz.underlying268
  a51 := Tryz.isAgg268
  z51 := Tryz.sizeOf268
  v51 := Tryz.zeroValue268
  t146 := Tryz.underlying299
  a146 := Tryz.isAgg299
  z146 := Tryz.sizeOf299
  v146 := Tryz.zeroValue299
  g1 := by kernel_rfl }
open Go.RowKit Go.Lib in
theorem Tryz.strings_Count_one (s : ByteArray) (c : UInt8) (w : World) :
    Calls Tryz.prog 58 #[.string s, .string ⟨#[c]⟩] w fun e w' => e = .returned (.int .i64 (Lib.countByte s.data.toList c)) ∧ w' = w := Any.strings_Count_one Tryz.lays138 s c w
end Go.Proofs

namespace Go.Proofs.YtldhbjmillfjgabGreatDoor
open Go.RowKit
set_option linter.unusedVariables false

theorem alloc_cell {W : World} {a : Addr} {v : Value} (h : W.cell? a = some v) (hs : a.spot = none) (o : Obj) : (W.alloc o).cell? a = some v :=
  ((Below.refl W.heap.size W).alloc (Nat.le_refl _) o).cell (p := a) (World.block_lt_of_cell? W _ h) |>.trans h
theorem alloc_frozen {W : World} {a : Addr} (hl : a.block < W.heap.size) (h : W.frozen? a = false) (o : Obj) : (W.alloc o).frozen? a = false :=
  ((Below.refl W.heap.size W).alloc (Nat.le_refl _) o).frozen (p := a) hl |>.trans h

/-- The two results' blocks hold noughts, and may be written. -/
def zeros (W : World) (B : Nat) : Prop :=
  (W.cell? ⟨B, 0, none⟩ = some (.int .i64 0) ∧ W.cell? ⟨B, 1, none⟩ = some (.int .i64 0) ∧ W.cell? ⟨B, 2, none⟩ = some (.int .i64 0) ∧ W.cell? ⟨B, 3, none⟩ = some (.int .i64 0)) ∧
  (W.frozen? ⟨B, 0, none⟩ = false ∧ W.frozen? ⟨B, 1, none⟩ = false ∧ W.frozen? ⟨B, 2, none⟩ = false ∧ W.frozen? ⟨B, 3, none⟩ = false) ∧
  (W.cell? ⟨B + 1, 0, none⟩ = some (.int .i64 0) ∧ W.cell? ⟨B + 1, 1, none⟩ = some (.int .i64 0)) ∧
  (W.frozen? ⟨B + 1, 0, none⟩ = false ∧ W.frozen? ⟨B + 1, 1, none⟩ = false)
theorem zeros_below {W W' : World} {B : Nat} (h : zeros W B) (hb : Below W.heap.size W W') : zeros W' B := by
  obtain ⟨⟨c0, c1, c2, c3⟩, ⟨d0, d1, d2, d3⟩, ⟨f0, f1⟩, ⟨g0, g1⟩⟩ := h
  have l0 : B < W.heap.size := World.block_lt_of_cell? W _ c0
  have l1 : B + 1 < W.heap.size := World.block_lt_of_cell? W _ f0
  have kc : ∀ i v, W.cell? ⟨B, i, none⟩ = some v → W'.cell? ⟨B, i, none⟩ = some v := fun i v h => (hb.cell (p := ⟨B, i, none⟩) l0).trans h
  have kd : ∀ i, W.frozen? ⟨B, i, none⟩ = false → W'.frozen? ⟨B, i, none⟩ = false := fun i h => (hb.frozen (p := ⟨B, i, none⟩) l0).trans h
  have kf : ∀ i v, W.cell? ⟨B + 1, i, none⟩ = some v → W'.cell? ⟨B + 1, i, none⟩ = some v := fun i v h => (hb.cell (p := ⟨B + 1, i, none⟩) l1).trans h
  have kg : ∀ i, W.frozen? ⟨B + 1, i, none⟩ = false → W'.frozen? ⟨B + 1, i, none⟩ = false := fun i h => (hb.frozen (p := ⟨B + 1, i, none⟩) l1).trans h
  exact ⟨⟨kc _ _ c0, kc _ _ c1, kc _ _ c2, kc _ _ c3⟩, ⟨kd _ d0, kd _ d1, kd _ d2, kd _ d3⟩, ⟨kf _ _ f0, kf _ _ f1⟩, ⟨kg _ g0, kg _ g1⟩⟩
theorem zeros_new (w : World) : zeros ((w.alloc (.cells #[.int .i64 0, .int .i64 0, .int .i64 0, .int .i64 0] 25)).alloc (.cells #[.int .i64 0, .int .i64 0] 28)) w.heap.size := by
  refine ⟨⟨?_, ?_, ?_, ?_⟩, ⟨?_, ?_, ?_, ?_⟩, ⟨?_, ?_⟩, ⟨?_, ?_⟩⟩ <;> simp [go_sem]
theorem below_two {w w1 : World} {o1 o2 : Obj} (hb : Below ((w.alloc o1).alloc o2).heap.size ((w.alloc o1).alloc o2) w1) : Below w.heap.size w w1 :=
  (((Below.refl _ w).alloc (Nat.le_refl _) _).alloc (by rw [World.size_alloc]; exact Nat.le_succ _) _).trans (hb.mono (by rw [World.size_alloc, World.size_alloc]; omega))
theorem size_two {w w1 : World} {o1 o2 : Obj} (hb : Below ((w.alloc o1).alloc o2).heap.size ((w.alloc o1).alloc o2) w1) : w.heap.size + 1 < w1.heap.size := by
  have := hb.size
  rw [World.size_alloc, World.size_alloc] at this
  omega
theorem below_six {w W : World} {v0 v1 v2 v3 v4 v5 : Value} (h : Below w.heap.size w W) :
    Below w.heap.size w ((((((W.setCell ⟨w.heap.size, 0, none⟩ v0).setCell ⟨w.heap.size, 1, none⟩ v1).setCell ⟨w.heap.size, 2, none⟩ v2).setCell ⟨w.heap.size, 3, none⟩ v3).setCell ⟨w.heap.size + 1, 0, none⟩ v4).setCell ⟨w.heap.size + 1, 1, none⟩ v5) :=
  (((((h.setCell (p := ⟨w.heap.size, 0, none⟩) (Nat.le_refl _) _).setCell (p := ⟨w.heap.size, 1, none⟩) (Nat.le_refl _) _).setCell (p := ⟨w.heap.size, 2, none⟩) (Nat.le_refl _) _).setCell (p := ⟨w.heap.size, 3, none⟩) (Nat.le_refl _) _).setCell (p := ⟨w.heap.size + 1, 0, none⟩) (Nat.le_succ _) _).setCell (p := ⟨w.heap.size + 1, 1, none⟩) (Nat.le_succ _) _

set_option maxRecDepth 100000 in
set_option maxHeartbeats 4000000 in
theorem refCount_bad (s : ByteArray) (hs : s.size < 100000000) (w : World) (hok : (scan s.data.toList).2 = false) :
    Calls Tryz.prog 8 #[.string s] w fun e w' => Below w.heap.size w w' ∧ e = .returned (.tuple #[cnt 0 0 0 0, fault 3 (place s.data.toList)]) := by
  have cR : ∀ w, Calls Tryz.prog 56 #[.string s] w fun e w' => e = .returned (.tuple #[.slice none 0 0, .agg #[.int .i64 3, .int .i64 (place s.data.toList)]]) ∧ Below w.heap.size w w' := fun w => by
    refine (refRunes_any s hs w).mono ?_
    rintro e w' ⟨hb, ⟨h, _⟩ | ⟨_, rfl⟩⟩
    · rw [hok] at h; cases h
    · exact ⟨rfl, hb⟩
  clear hok hs
  generalize ((place s.data.toList : Nat) : Int) = P at cR ⊢
  unfold cnt fault
  go_enter Tryz.func8, Tryz.ntmps8
  go_wp2_with (first | (go_at_call 56; refine (cR _).mono ?_; rintro e w1 ⟨rfl, hb1⟩; have k0 := zeros_below (zeros_below (zeros_new w) hb1) ((Below.refl _ w1).alloc (Nat.le_refl _) (.cells #[.int .i64 3, .int .i64 P] 28)); obtain ⟨⟨c0, c1, c2, c3⟩, ⟨d0, d1, d2, d3⟩, ⟨f0, f1⟩, ⟨g0, g1⟩⟩ := k0; have hlt := size_two hb1; have hn1 : ¬ w1.heap.size = w.heap.size := (by omega); have hn2 : ¬ w.heap.size = w1.heap.size := (by omega); have hn3 : ¬ w1.heap.size = w.heap.size + 1 := (by omega); have hn4 : ¬ w.heap.size + 1 = w1.heap.size := (by omega)) | fail)
  go_region
  all_goals go_wp2
  all_goals
    refine bodyPost_ret (v := .tuple #[.agg #[.int .i64 0, .int .i64 0, .int .i64 0, .int .i64 0], .agg #[.int .i64 3, .int .i64 P]]) (by simp [results, Tryz.results8, go_sem, c0, c1, c2, c3, f0, f1]) rfl ?_
    exact ⟨(below_six ((below_two hb1).alloc (Nat.le_of_lt (Nat.lt_trans (Nat.lt_succ_self _) hlt)) _)).drew, rfl⟩

theorem cells21_toI (rs : List Nat) : cellsOf21 (wide rs) = (toI rs).map (Value.int .i32) := by
  simp [cellsOf21, wide, toI, List.map_map, Function.comp_def]

set_option maxRecDepth 100000 in
set_option maxHeartbeats 4000000 in
theorem refCount_good (s : ByteArray) (hs : s.size < 100000000) (w : World) (hok : (scan s.data.toList).2 = true) :
    Calls Tryz.prog 8 #[.string s] w fun e w' => Below w.heap.size w w' ∧
      e = .returned (.tuple #[cnt s.size (halRow (runesOf s.data.toList)).length (runesOf s.data.toList).length (Lib.countByte s.data.toList 10), fault 0 (-1)]) := by
  have hru : ∀ r ∈ runesOf s.data.toList, isRune r := fun r h => runesOf_rune h
  have hrl : (runesOf s.data.toList).length < 100000000 := by
    have := scan_len s.data.toList
    rw [← Lib.size_eq] at this
    unfold runesOf
    rw [List.length_map]
    omega
  have cR : ∀ w, Calls Tryz.prog 56 #[.string s] w fun e w' => Below w.heap.size w w' ∧ ∃ p c, e = .returned (.tuple #[.slice p (runesOf s.data.toList).length c, .agg #[.int .i64 0, .int .i64 (-1)]]) ∧ reads w' .i32 (.slice p (runesOf s.data.toList).length c) (toI (runesOf s.data.toList)) := fun w => by
    refine (refRunes_any s hs w).mono ?_
    rintro e w' ⟨hb, ⟨_, v, rfl, p, c, rfl, hown⟩ | ⟨h, _⟩⟩
    · have e1 : cellsOf21 (scan s.data.toList).1 = (toI (runesOf s.data.toList)).map (Value.int .i32) := by rw [scan_wide, cells21_toI]
      have e2 : (cellsOf21 (scan s.data.toList).1).length = (toI (runesOf s.data.toList)).length := by rw [e1, List.length_map]
      have e3 : (toI (runesOf s.data.toList)).length = (runesOf s.data.toList).length := by simp [toI]
      rw [e2] at hown
      rw [e2, ← e3]
      exact ⟨hb, p, c, rfl, reads_own e1 hown⟩
    · rw [hok] at h; cases h
  have cC := fun w => Tryz.strings_Count_one s 10 w
  have hcb : Lib.countByte s.data.toList 10 < 100000000 := by
    have : Lib.countByte s.data.toList 10 ≤ s.data.toList.length := List.count_le_length
    rw [← Lib.size_eq] at this
    omega
  clear hok hs
  generalize Lib.countByte s.data.toList 10 = CB at cC hcb ⊢
  generalize runesOf s.data.toList = rs at *
  have HRU : Hid (∀ r ∈ rs, isRune r) := hru
  obtain ⟨n, hn⟩ : ∃ n, n = rs.length := ⟨_, rfl⟩
  have HRL : Hid (rs.length < 100000000) := hrl
  rw [← hn] at cR hrl ⊢
  have HN : Hid (n = rs.length) := hn
  clear hru hn
  unfold cnt fault
  go_enter Tryz.func8, Tryz.ntmps8
  go_wp2_with (first | (go_at_call 56; refine (cR _).mono ?_; rintro e w1 ⟨hb1, p, c, rfl, hrd⟩; have HRD : Hid (reads w1 .i32 (.slice p n c) (toI rs)) := hrd; clear hrd; have hBF : Below w1.heap.size w1 (w1.alloc (.cells #[.int .i64 0, .int .i64 (-1)] 28)) := (Below.refl _ w1).alloc (Nat.le_refl _) _; have k0 := zeros_below (zeros_below (zeros_new w) hb1) hBF; have KZ : Hid (zeros (w1.alloc (.cells #[.int .i64 0, .int .i64 (-1)] 28)) w.heap.size) := k0; obtain ⟨⟨c0, c1, c2, c3⟩, ⟨d0, d1, d2, d3⟩, ⟨f0, f1⟩, ⟨g0, g1⟩⟩ := k0; have hlt := size_two hb1; have hn1 : ¬ w1.heap.size = w.heap.size := (by omega); have hn2 : ¬ w.heap.size = w1.heap.size := (by omega); have hn3 : ¬ w1.heap.size = w.heap.size + 1 := (by omega); have hn4 : ¬ w.heap.size + 1 = w1.heap.size := (by omega)) | fail)
  go_region_with (first | (go_at_call 57; refine (refHalves_any _ rs _ HRU.out (reads_below HRD.out hBF.drew (Nat.le_refl _)) HRL.out).mono ?_; rintro e w2 ⟨v2, rfl, ⟨p2, c2', rfl, hig⟩, hb2⟩; clear hig; have k2 := zeros_below (W := (w1.alloc (.cells #[.int .i64 0, .int .i64 (-1)] 28)).drew) (zeros_below KZ.out (Below.refl _ _).drew) hb2; obtain ⟨⟨C0, C1, C2, C3⟩, ⟨D0, D1, D2, D3⟩, ⟨F0, F1⟩, ⟨G0, G1⟩⟩ := k2; have e0 : w2.cell? ⟨w1.heap.size, 0, none⟩ = some (.int .i64 0) := (hb2.cell (p := ⟨w1.heap.size, 0, none⟩) (by simp)).trans (by simp [go_sem]); have e1 : w2.cell? ⟨w1.heap.size, 1, none⟩ = some (.int .i64 (-1)) := (hb2.cell (p := ⟨w1.heap.size, 1, none⟩) (by simp)).trans (by simp [go_sem])) | (go_at_call 58; refine (cC _).mono ?_; rintro e wx ⟨rfl, hwx⟩; obtain rfl := hwx.symm))
  all_goals
    go_wp2
    refine bodyPost_ret (v := .tuple #[.agg #[.int .i64 s.size, .int .i64 (halRow rs).length, .int .i64 n, .int .i64 CB], .agg #[.int .i64 0, .int .i64 (-1)]]) (by simp [results, Tryz.results8, go_sem, C0, C1, C2, C3, F0, F1]) rfl ?_
    have hle : w.heap.size ≤ w1.heap.size := by omega
    have hBw : Below w.heap.size w w2 := ((below_two hb1).alloc hle _).drew.trans (hb2.mono (by simp; omega))
    exact ⟨below_six hBw, rfl⟩
end Go.Proofs.YtldhbjmillfjgabGreatDoor

namespace Go.Proofs.YtldhbjmillfjgabGreatDoor

theorem sum1_wide (rs : List Nat) : sum1 (wide rs) = ((encs rs).length : Int) := by
  induction rs with
  | nil => rfl
  | cons r rs ih =>
    have e : sum1 (wide (r :: rs)) = ((enc r).length : Int) + sum1 (wide rs) := by simp [sum1, wide]
    rw [e, ih, encs_cons, List.length_append]
    push_cast
    rfl
theorem sum2_wide (rs : List Nat) : sum2 (wide rs) = ((halRow rs).length : Int) := by
  induction rs with
  | nil => rfl
  | cons r rs ih =>
    have e : sum2 (wide (r :: rs)) = cH r + sum2 (wide rs) := by simp [sum2, wide]
    have e2 : halRow (r :: rs) = halCells r ++ halRow rs := by simp [halRow]
    have e3 : ((halCells r).length : Int) = cH r := by
      unfold halCells hal cH
      split <;> simp
    rw [e, ih, e2, List.length_append, ← e3]
    push_cast
    rfl
theorem enc_count {r : Nat} (hr : isRune r) : ((enc r).count 10 : Int) = cL r := by
  unfold isRune at hr
  have ne : ∀ n : Nat, n < 256 → n ≠ 10 → (n.toUInt8 == (10 : UInt8)) = false := by
    intro n h1 h2
    rw [beq_eq_false_iff_ne]
    intro e
    have := congrArg UInt8.toNat e
    rw [toU8 h1] at this
    exact h2 this
  unfold cL
  by_cases h1 : r ≤ 127
  · rw [enc1 h1]
    by_cases h : r = 10
    · subst h; rfl
    · rw [if_neg h, List.count_cons, ne r (by omega) h]; rfl
  rw [if_neg (by omega)]
  by_cases h2 : r ≤ 2047
  · rw [enc2 (by omega) h2, List.count_cons, List.count_cons, ne _ (by omega) (by omega), ne _ (by omega) (by omega)]; rfl
  by_cases h3 : r ≤ 65535
  · rw [enc3 (by omega), List.count_cons, List.count_cons, List.count_cons, ne _ (by omega) (by omega), ne _ (by omega) (by omega), ne _ (by omega) (by omega)]; rfl
  · rw [enc4 (by omega) (by omega), List.count_cons, List.count_cons, List.count_cons, List.count_cons, ne _ (by omega) (by omega), ne _ (by omega) (by omega), ne _ (by omega) (by omega), ne _ (by omega) (by omega)]; rfl
theorem sum4_wide {rs : List Nat} (h : ∀ r ∈ rs, isRune r) : sum4 (wide rs) = (Lib.countByte (encs rs) 10 : Int) := by
  unfold Lib.countByte
  induction rs with
  | nil => rfl
  | cons r rs ih =>
    have e : sum4 (wide (r :: rs)) = cL r + sum4 (wide rs) := by simp [sum4, wide]
    rw [e, ih fun x hx => h x (by simp [hx]), encs_cons, List.count_append, ← enc_count (h r (by simp))]
    push_cast
    rfl
/-- A sound text's counts, by either way. -/
theorem counts_same {l : List UInt8} (h : (scan l).2 = true) : sum1 (scan l).1 = (l.length : Int) ∧ sum2 (scan l).1 = ((halRow (runesOf l)).length : Int) ∧ ((scan l).1.length : Int) = ((runesOf l).length : Int) ∧ sum4 (scan l).1 = (Lib.countByte l 10 : Int) := by
  have e := encs_runesOf h
  have hr : ∀ r ∈ runesOf l, isRune r := fun r h => runesOf_rune h
  have h1 := sum1_wide (runesOf l)
  have h4 := sum4_wide hr
  rw [e] at h1 h4
  rw [scan_wide]
  exact ⟨h1, sum2_wide _, by simp [wide], h4⟩
end Go.Proofs.YtldhbjmillfjgabGreatDoor

namespace Go.Proofs.YtldhbjmillfjgabGreatDoor
open Go.RowKit
set_option linter.unusedVariables false

/-! ### What runes count -/
def C1 (rs : List Nat) : Int := sum1 (wide rs)
def C2 (rs : List Nat) : Int := sum2 (wide rs)
def C3 (rs : List Nat) : Int := rs.length
def C4 (rs : List Nat) : Int := sum4 (wide rs)
theorem wide_append (a b : List Nat) : wide (a ++ b) = wide a ++ wide b := by simp [wide]
theorem C1_append (a b : List Nat) : C1 (a ++ b) = C1 a + C1 b := by unfold C1 sum1; rw [wide_append, List.map_append, List.sum_append]
theorem C2_append (a b : List Nat) : C2 (a ++ b) = C2 a + C2 b := by unfold C2 sum2; rw [wide_append, List.map_append, List.sum_append]
theorem C3_append (a b : List Nat) : C3 (a ++ b) = C3 a + C3 b := by unfold C3; rw [List.length_append]; push_cast; rfl
theorem C4_append (a b : List Nat) : C4 (a ++ b) = C4 a + C4 b := by unfold C4 sum4; rw [wide_append, List.map_append, List.sum_append]
theorem C1_len (rs : List Nat) : C1 rs = (encs rs).length := sum1_wide rs
theorem C3_le (rs : List Nat) : 0 ≤ C3 rs ∧ C3 rs ≤ C1 rs := by
  have := encs_len rs
  rw [C1_len]; unfold C3; omega
theorem C4_le (rs : List Nat) : 0 ≤ C4 rs ∧ C4 rs ≤ C1 rs := by
  have h := sum4_le (wide rs)
  have h3 := C3_le rs
  have e : (wide rs).length = rs.length := by simp [wide]
  rw [e] at h
  unfold C4
  unfold C3 at h3
  omega
theorem C2_le (rs : List Nat) : 0 ≤ C2 rs ∧ C2 rs ≤ 2 * C1 rs := by
  have h := sum2_le (wide rs)
  have h3 := C3_le rs
  have e : (wide rs).length = rs.length := by simp [wide]
  rw [e] at h
  unfold C2
  unfold C3 at h3
  omega

/-- Runes' bytes. -/
def bytesOf (rs : List Nat) : ByteArray := ⟨(encs rs).toArray⟩
theorem bytesOf_size (rs : List Nat) : (bytesOf rs).size = (encs rs).length := by simp [bytesOf, ByteArray.size]
theorem bytesOf_list (rs : List Nat) : (bytesOf rs).data.toList = encs rs := rfl
theorem bytesOf_append (a b : List Nat) : bytesOf a ++ bytesOf b = bytesOf (a ++ b) := by
  apply ByteArray.ext
  rw [ByteArray.data_append]
  unfold bytesOf
  rw [encs_append]
  simp

/-- The chunks' tree. -/
inductive T where
  | nil
  | node (l : T) (rs : List Nat) (r : T)
def T.runes : T → List Nat
  | .nil => []
  | .node l rs r => l.runes ++ rs ++ r.runes
def T.height : T → Nat
  | .nil => 0
  | .node l _ r => 1 + max l.height r.height
def T.size : T → Nat
  | .nil => 0
  | .node l _ r => 1 + l.size + r.size

/-- The tree at p in memory. -/
def isTree (w : World) : Option Addr → T → Prop
  | p, .nil => p = none
  | p, .node l rs r => ∃ b pl pr, p = some ⟨b, 0, none⟩ ∧
      (w.cell? ⟨b, 0, none⟩ = some (.string (bytesOf rs)) ∧ w.cell? ⟨b, 1, none⟩ = some (.int .i64 (C1 rs)) ∧ w.cell? ⟨b, 2, none⟩ = some (.int .i64 (C2 rs)) ∧ w.cell? ⟨b, 3, none⟩ = some (.int .i64 (C3 rs)) ∧ w.cell? ⟨b, 4, none⟩ = some (.int .i64 (C4 rs))) ∧
      (w.cell? ⟨b, 5, none⟩ = some (.pointer pl) ∧ w.cell? ⟨b, 6, none⟩ = some (.pointer pr)) ∧
      (w.cell? ⟨b, 7, none⟩ = some (.int .i64 (C1 (T.node l rs r).runes)) ∧ w.cell? ⟨b, 8, none⟩ = some (.int .i64 (C2 (T.node l rs r).runes)) ∧ w.cell? ⟨b, 9, none⟩ = some (.int .i64 (C3 (T.node l rs r).runes)) ∧ w.cell? ⟨b, 10, none⟩ = some (.int .i64 (C4 (T.node l rs r).runes))) ∧
      (w.cell? ⟨b, 11, none⟩ = some (.int .i64 (T.node l rs r).height) ∧ w.cell? ⟨b, 12, none⟩ = some (.int .i64 (T.node l rs r).size)) ∧
      isTree w pl l ∧ isTree w pr r
theorem cell_on {W W' : World} (hb : Below W.heap.size W W') {b o : Nat} {v : Value} (h : W.cell? ⟨b, o, none⟩ = some v) : W'.cell? ⟨b, o, none⟩ = some v :=
  (hb.cell (p := ⟨b, o, none⟩) (World.block_lt_of_cell? W _ h)).trans h
theorem isTree_below {w w' : World} (hb : Below w.heap.size w w') : ∀ {t : T} {p : Option Addr}, isTree w p t → isTree w' p t
  | .nil, _, h => h
  | .node l rs r, _, ⟨b, pl, pr, e, ⟨a0, a1, a2, a3, a4⟩, ⟨a5, a6⟩, ⟨a7, a8, a9, a10⟩, ⟨a11, a12⟩, hl, hr⟩ =>
    ⟨b, pl, pr, e, ⟨cell_on hb a0, cell_on hb a1, cell_on hb a2, cell_on hb a3, cell_on hb a4⟩, ⟨cell_on hb a5, cell_on hb a6⟩, ⟨cell_on hb a7, cell_on hb a8, cell_on hb a9, cell_on hb a10⟩, ⟨cell_on hb a11, cell_on hb a12⟩, isTree_below hb hl, isTree_below hb hr⟩

set_option maxHeartbeats 1000000 in
theorem ncounts_any (p : Option Addr) (t : T) (w : World) (h : isTree w p t) :
    Calls Tryz.prog 67 #[.pointer p] w fun e w' => e = .returned (.agg #[.int .i64 (C1 t.runes), .int .i64 (C2 t.runes), .int .i64 (C3 t.runes), .int .i64 (C4 t.runes)]) ∧ Below w.heap.size w w' := by
  cases t with
  | nil =>
    obtain rfl : p = none := h
    have e1 : C1 T.nil.runes = 0 := rfl
    have e2 : C2 T.nil.runes = 0 := rfl
    have e3 : C3 T.nil.runes = 0 := rfl
    have e4 : C4 T.nil.runes = 0 := rfl
    rw [e1, e2, e3, e4]
    clear e1 e2 e3 e4
    go_enter Tryz.func67, Tryz.ntmps67
    go_wp2
    refine bodyPost_ret (v := .agg #[.int .i64 0, .int .i64 0, .int .i64 0, .int .i64 0]) (by simp [results, Tryz.results67, go_sem]) rfl ⟨rfl, ?_⟩
    exact (Below.refl _ _).alloc (Nat.le_refl _) _
  | node l rs r =>
    obtain ⟨b, pl, pr, rfl, _, _, ⟨a7, a8, a9, a10⟩, _, _, _⟩ := h
    have hlt := World.block_lt_of_cell? w _ a7
    have hne : ¬ b = w.heap.size := by show ¬ _; intro e; subst e; exact absurd hlt (Nat.lt_irrefl _)
    generalize (T.node l rs r).runes = R at *
    generalize C1 R = x1 at *
    generalize C2 R = x2 at *
    generalize C3 R = x3 at *
    generalize C4 R = x4 at *
    go_enter Tryz.func67, Tryz.ntmps67
    go_wp2
    refine bodyPost_ret (v := .agg #[.int .i64 x1, .int .i64 x2, .int .i64 x3, .int .i64 x4]) (by simp [results, Tryz.results67, go_sem]) rfl ⟨rfl, ?_⟩
    exact (Below.refl _ _).alloc (Nat.le_refl _) _

set_option maxHeartbeats 1000000 in
theorem nheight_any (p : Option Addr) (t : T) (w : World) (h : isTree w p t) :
    Calls Tryz.prog 189 #[.pointer p] w fun e w' => e = .returned (.int .i64 t.height) ∧ w' = w := by
  cases t with
  | nil =>
    obtain rfl : p = none := h
    go_enter Tryz.func189, Tryz.ntmps189
    go_wp2
    go_ret
    exact ⟨rfl, rfl⟩
  | node l rs r =>
    obtain ⟨b, pl, pr, rfl, _, _, _, ⟨a11, _⟩, _, _⟩ := h
    generalize ((T.node l rs r).height : Int) = x1 at *
    go_enter Tryz.func189, Tryz.ntmps189
    go_wp2
    go_ret
    exact ⟨rfl, rfl⟩
set_option maxHeartbeats 1000000 in
theorem nsize_any (p : Option Addr) (t : T) (w : World) (h : isTree w p t) :
    Calls Tryz.prog 191 #[.pointer p] w fun e w' => e = .returned (.int .i64 t.size) ∧ w' = w := by
  cases t with
  | nil =>
    obtain rfl : p = none := h
    go_enter Tryz.func191, Tryz.ntmps191
    go_wp2
    go_ret
    exact ⟨rfl, rfl⟩
  | node l rs r =>
    obtain ⟨b, pl, pr, rfl, _, _, _, ⟨_, a12⟩, _, _⟩ := h
    generalize ((T.node l rs r).size : Int) = x1 at *
    go_enter Tryz.func191, Tryz.ntmps191
    go_wp2
    go_ret
    exact ⟨rfl, rfl⟩
end Go.Proofs.YtldhbjmillfjgabGreatDoor

namespace Go.Proofs.YtldhbjmillfjgabGreatDoor
open Go.RowKit
set_option linter.unusedVariables false
attribute [local go_sem] yieldsUpon okUpon

/-- A chunk as a value. -/
def chunkV (rs : List Nat) : Value := .agg #[.string (bytesOf rs), .int .i64 (C1 rs), .int .i64 (C2 rs), .int .i64 (C3 rs), .int .i64 (C4 rs)]

set_option maxRecDepth 100000 in
set_option maxHeartbeats 400000 in
theorem link_any (pl pr : Option Addr) (l r : T) (rs : List Nat) (w : World) (hl : isTree w pl l) (hr : isTree w pr r) (hz : C1 l.runes + C1 rs + C1 r.runes ≤ 1000000000) (hs : l.size < 1000000000 ∧ r.size < 1000000000 ∧ l.height < 1000000000 ∧ r.height < 1000000000) :
    Calls Tryz.prog 161 #[.pointer pl, chunkV rs, .pointer pr] w fun e w' => ∃ p, e = .returned (.pointer p) ∧ isTree w' p (.node l rs r) ∧ Below w.heap.size w w' := by
  have l1 := C3_le l.runes
  have l2 := C2_le l.runes
  have l4 := C4_le l.runes
  have r1 := C3_le r.runes
  have r2 := C2_le r.runes
  have r4 := C4_le r.runes
  have m1 := C3_le rs
  have m2 := C2_le rs
  have m4 := C4_le rs
  have HL : Hid (isTree w pl l) := hl
  have HR : Hid (isTree w pr r) := hr
  have t1 : Hid (C1 (T.node l rs r).runes = C1 l.runes + C1 rs + C1 r.runes) := by show _ = _; simp only [T.runes, C1_append]
  have t2 : Hid (C2 (T.node l rs r).runes = C2 l.runes + C2 rs + C2 r.runes) := by show _ = _; simp only [T.runes, C2_append]
  have t3 : Hid (C3 (T.node l rs r).runes = C3 l.runes + C3 rs + C3 r.runes) := by show _ = _; simp only [T.runes, C3_append]
  have t4 : Hid (C4 (T.node l rs r).runes = C4 l.runes + C4 rs + C4 r.runes) := by show _ = _; simp only [T.runes, C4_append]
  have t5 : Hid (((T.node l rs r).height : Int) = 1 + max (l.height : Int) r.height) := by show _ = _; simp only [T.height]; omega
  have t6 : Hid (((T.node l rs r).size : Int) = 1 + l.size + r.size) := by show _ = _; simp only [T.size]; omega
  have cl := fun (wx : World) (hb : Below w.heap.size w wx) => ncounts_any pl l wx (isTree_below hb hl)
  have cr := fun (wx : World) (hb : Below w.heap.size w wx) => ncounts_any pr r wx (isTree_below hb hr)
  have hhl := fun (wx : World) (hb : Below w.heap.size w wx) => nheight_any pl l wx (isTree_below hb hl)
  have hhr := fun (wx : World) (hb : Below w.heap.size w wx) => nheight_any pr r wx (isTree_below hb hr)
  have sl := fun (wx : World) (hb : Below w.heap.size w wx) => nsize_any pl l wx (isTree_below hb hl)
  have sr := fun (wx : World) (hb : Below w.heap.size w wx) => nsize_any pr r wx (isTree_below hb hr)
  have p1 : ∀ wx, Calls Tryz.prog 110 #[.agg #[.int .i64 (C1 l.runes), .int .i64 (C2 l.runes), .int .i64 (C3 l.runes), .int .i64 (C4 l.runes)], .agg #[.int .i64 (C1 rs), .int .i64 (C2 rs), .int .i64 (C3 rs), .int .i64 (C4 rs)]] wx
      fun e w' => e = .returned (.agg #[.int .i64 (C1 l.runes + C1 rs), .int .i64 (C2 l.runes + C2 rs), .int .i64 (C3 l.runes + C3 rs), .int .i64 (C4 l.runes + C4 rs)]) ∧ Below wx.heap.size wx w' := fun wx => by
    have := plus_any (C1 l.runes) (C2 l.runes) (C3 l.runes) (C4 l.runes) (C1 rs) (C2 rs) (C3 rs) (C4 rs) wx
    rwa [wrap64_small (by omega) (by omega), wrap64_small (by omega) (by omega), wrap64_small (by omega) (by omega), wrap64_small (by omega) (by omega)] at this
  have p2 : ∀ wx, Calls Tryz.prog 110 #[.agg #[.int .i64 (C1 l.runes + C1 rs), .int .i64 (C2 l.runes + C2 rs), .int .i64 (C3 l.runes + C3 rs), .int .i64 (C4 l.runes + C4 rs)], .agg #[.int .i64 (C1 r.runes), .int .i64 (C2 r.runes), .int .i64 (C3 r.runes), .int .i64 (C4 r.runes)]] wx
      fun e w' => e = .returned (.agg #[.int .i64 (C1 l.runes + C1 rs + C1 r.runes), .int .i64 (C2 l.runes + C2 rs + C2 r.runes), .int .i64 (C3 l.runes + C3 rs + C3 r.runes), .int .i64 (C4 l.runes + C4 rs + C4 r.runes)]) ∧ Below wx.heap.size wx w' := fun wx => by
    have := plus_any (C1 l.runes + C1 rs) (C2 l.runes + C2 rs) (C3 l.runes + C3 rs) (C4 l.runes + C4 rs) (C1 r.runes) (C2 r.runes) (C3 r.runes) (C4 r.runes) wx
    rwa [wrap64_small (by omega) (by omega), wrap64_small (by omega) (by omega), wrap64_small (by omega) (by omega), wrap64_small (by omega) (by omega)] at this
  clear hl hr l1 l2 l4 r1 r2 r4 m1 m2 m4 hz
  obtain ⟨hs1, hs2, hs3, hs4⟩ := hs
  unfold chunkV
  generalize hB : bytesOf rs = B at *
  have HB : Hid (bytesOf rs = B) := hB
  clear hB
  generalize hx1 : C1 rs = x1 at *
  have Hx1 : Hid (C1 rs = x1) := hx1
  clear hx1
  generalize hx2 : C2 rs = x2 at *
  have Hx2 : Hid (C2 rs = x2) := hx2
  clear hx2
  generalize hx3 : C3 rs = x3 at *
  have Hx3 : Hid (C3 rs = x3) := hx3
  clear hx3
  generalize hx4 : C4 rs = x4 at *
  have Hx4 : Hid (C4 rs = x4) := hx4
  clear hx4
  generalize ha1 : C1 l.runes = a1 at *
  clear ha1
  generalize ha2 : C2 l.runes = a2 at *
  clear ha2
  generalize ha3 : C3 l.runes = a3 at *
  clear ha3
  generalize ha4 : C4 l.runes = a4 at *
  clear ha4
  generalize hb1 : C1 r.runes = b1 at *
  clear hb1
  generalize hb2 : C2 r.runes = b2 at *
  clear hb2
  generalize hb3 : C3 r.runes = b3 at *
  clear hb3
  generalize hb4 : C4 r.runes = b4 at *
  clear hb4
  generalize hk1 : (l.height : Int) = k1 at *
  generalize hk2 : (r.height : Int) = k2 at *
  generalize hk3 : (l.size : Int) = k3 at *
  generalize hk4 : (r.size : Int) = k4 at *
  have z1 : 0 ≤ k1 ∧ k1 < 1000000000 := by omega
  have z2 : 0 ≤ k2 ∧ k2 < 1000000000 := by omega
  have z3 : 0 ≤ k3 ∧ k3 < 1000000000 := by omega
  have z4 : 0 ≤ k4 ∧ k4 < 1000000000 := by omega
  clear hk1 hk2 hk3 hk4 hs1 hs2 hs3 hs4
  go_enter Tryz.func161, Tryz.ntmps161
  go_wp2
  refine wp_region_rel 26 26 (by kernel_rfl) rfl ?_
  intro w1 hb1
  have hb0 : Below w.heap.size w (w.alloc (.cells #[.string B, .int .i64 x1, .int .i64 x2, .int .i64 x3, .int .i64 x4] 194)) := (Below.refl _ w).alloc (Nat.le_refl _) _
  have hbw : Below w.heap.size w w1 := hb0.trans (hb1.mono hb0.size)
  obtain ⟨G, hG⟩ := exists_growth w1
  have g0 : ∀ x, (G x).cell? ⟨w.heap.size, 0, none⟩ = some (.string B) := hG.cell (cell_on hb1 (by simp [go_sem]))
  have g1 : ∀ x, (G x).cell? ⟨w.heap.size, 1, none⟩ = some (.int .i64 x1) := hG.cell (cell_on hb1 (by simp [go_sem]))
  have g2 : ∀ x, (G x).cell? ⟨w.heap.size, 2, none⟩ = some (.int .i64 x2) := hG.cell (cell_on hb1 (by simp [go_sem]))
  have g3 : ∀ x, (G x).cell? ⟨w.heap.size, 3, none⟩ = some (.int .i64 x3) := hG.cell (cell_on hb1 (by simp [go_sem]))
  have g4 : ∀ x, (G x).cell? ⟨w.heap.size, 4, none⟩ = some (.int .i64 x4) := hG.cell (cell_on hb1 (by simp [go_sem]))
  have wb : ∀ x, Below w.heap.size w (G x) := fun x => hbw.trans ((hG.below x).mono hbw.size)
  have cl' := fun x => cl (G x) (wb x)
  have cr' := fun x => cr (G x) (wb x)
  have hl' := fun x => (hhl (G x) (wb x)).mono (R' := fun e w' => e = .returned (.int .i64 k1) ∧ Below (G x).heap.size (G x) w') (by rintro e w' ⟨rfl, rfl⟩; exact ⟨rfl, Below.refl _ _⟩)
  have hr' := fun x => (hhr (G x) (wb x)).mono (R' := fun e w' => e = .returned (.int .i64 k2) ∧ Below (G x).heap.size (G x) w') (by rintro e w' ⟨rfl, rfl⟩; exact ⟨rfl, Below.refl _ _⟩)
  have sl' := fun x => (sl (G x) (wb x)).mono (R' := fun e w' => e = .returned (.int .i64 k3) ∧ Below (G x).heap.size (G x) w') (by rintro e w' ⟨rfl, rfl⟩; exact ⟨rfl, Below.refl _ _⟩)
  have sr' := fun x => (sr (G x) (wb x)).mono (R' := fun e w' => e = .returned (.int .i64 k4) ∧ Below (G x).heap.size (G x) w') (by rintro e w' ⟨rfl, rfl⟩; exact ⟨rfl, Below.refl _ _⟩)
  clear cl cr hhl hhr sl sr wb hb0
  (refine anyG_step hG (i := 0) rfl (by kernel_rfl) (by kernel_rfl) (by kernel_rfl) (fun K hK => ?_); go_simp; refine hK _ ?_; clear hK K)
  (refine anyG_step hG (i := 1) rfl (by kernel_rfl) (by kernel_rfl) (by kernel_rfl) (fun K hK => ?_); go_simp; refine hK _ ?_; clear hK K)
  (refine anyG_step hG (i := 2) rfl (by kernel_rfl) (by kernel_rfl) (by kernel_rfl) (fun K hK => ?_); go_simp; refine hK _ ?_; clear hK K)
  (refine anyG_step hG (i := 3) rfl (by kernel_rfl) (by kernel_rfl) (by kernel_rfl) (fun K hK => ?_); go_simp; refine hK _ ?_; clear hK K)
  (refine anyG_step hG (i := 4) rfl (by kernel_rfl) (by kernel_rfl) (by kernel_rfl) (fun K hK => ?_); go_simp; apply Exists.intro; refine ⟨fun _ => ?_, hK _ ?_⟩; exact cl' _; clear hK K)
  (refine anyG_step hG (i := 5) rfl (by kernel_rfl) (by kernel_rfl) (by kernel_rfl) (fun K hK => ?_); go_simp; refine hK _ ?_; clear hK K)
  (refine anyG_step hG (i := 6) rfl (by kernel_rfl) (by kernel_rfl) (by kernel_rfl) (fun K hK => ?_); go_simp; refine hK _ ?_; clear hK K)
  (refine anyG_step hG (i := 7) rfl (by kernel_rfl) (by kernel_rfl) (by kernel_rfl) (fun K hK => ?_); go_simp; apply Exists.intro; refine ⟨fun _ => ?_, hK _ ?_⟩; exact p1 _; clear hK K)
  (refine anyG_step hG (i := 8) rfl (by kernel_rfl) (by kernel_rfl) (by kernel_rfl) (fun K hK => ?_); go_simp; refine hK _ ?_; clear hK K)
  (refine anyG_step hG (i := 9) rfl (by kernel_rfl) (by kernel_rfl) (by kernel_rfl) (fun K hK => ?_); go_simp; apply Exists.intro; refine ⟨fun _ => ?_, hK _ ?_⟩; exact cr' _; clear hK K)
  (refine anyG_step hG (i := 10) rfl (by kernel_rfl) (by kernel_rfl) (by kernel_rfl) (fun K hK => ?_); go_simp; apply Exists.intro; refine ⟨fun _ => ?_, hK _ ?_⟩; exact p2 _; clear hK K)
  (refine anyG_step hG (i := 11) rfl (by kernel_rfl) (by kernel_rfl) (by kernel_rfl) (fun K hK => ?_); go_simp; refine hK _ ?_; clear hK K)
  (refine anyG_step hG (i := 12) rfl (by kernel_rfl) (by kernel_rfl) (by kernel_rfl) (fun K hK => ?_); go_simp; apply Exists.intro; refine ⟨fun _ => ?_, hK _ ?_⟩; exact hl' _; clear hK K)
  (refine anyG_step hG (i := 13) rfl (by kernel_rfl) (by kernel_rfl) (by kernel_rfl) (fun K hK => ?_); go_simp; refine hK _ ?_; clear hK K)
  (refine anyG_step hG (i := 14) rfl (by kernel_rfl) (by kernel_rfl) (by kernel_rfl) (fun K hK => ?_); go_simp; apply Exists.intro; refine ⟨fun _ => ?_, hK _ ?_⟩; exact hr' _; clear hK K)
  (refine anyG_step hG (i := 15) rfl (by kernel_rfl) (by kernel_rfl) (by kernel_rfl) (fun K hK => ?_); go_simp; refine hK _ ?_; clear hK K)
  (refine anyG_step hG (i := 16) rfl (by kernel_rfl) (by kernel_rfl) (by kernel_rfl) (fun K hK => ?_); go_simp; refine hK _ ?_; clear hK K)
  (refine anyG_step hG (i := 17) rfl (by kernel_rfl) (by kernel_rfl) (by kernel_rfl) (fun K hK => ?_); go_simp; refine hK _ ?_; clear hK K)
  (refine anyG_step hG (i := 18) rfl (by kernel_rfl) (by kernel_rfl) (by kernel_rfl) (fun K hK => ?_); go_simp; apply Exists.intro; refine ⟨fun _ => ?_, hK _ ?_⟩; exact sl' _; clear hK K)
  (refine anyG_step hG (i := 19) rfl (by kernel_rfl) (by kernel_rfl) (by kernel_rfl) (fun K hK => ?_); go_simp; refine hK _ ?_; clear hK K)
  (refine anyG_step hG (i := 20) rfl (by kernel_rfl) (by kernel_rfl) (by kernel_rfl) (fun K hK => ?_); go_simp; refine hK _ ?_; clear hK K)
  (refine anyG_step hG (i := 21) rfl (by kernel_rfl) (by kernel_rfl) (by kernel_rfl) (fun K hK => ?_); go_simp; apply Exists.intro; refine ⟨fun _ => ?_, hK _ ?_⟩; exact sr' _; clear hK K)
  (refine anyG_step hG (i := 22) rfl (by kernel_rfl) (by kernel_rfl) (by kernel_rfl) (fun K hK => ?_); go_simp; refine hK _ ?_; clear hK K)
  (refine anyG_step hG (i := 23) rfl (by kernel_rfl) (by kernel_rfl) (by kernel_rfl) (fun K hK => ?_); go_simp; refine hK _ ?_; clear hK K)
  clear cl' cr' hl' hr' sl' sr' p1 p2 g0 g1 g2 g3 g4
  have e5 : IntKind.i64.wrap (1 + max k1 k2) = 1 + max k1 k2 := IntWalk.i64_in _ (by omega)
  have e6 : IntKind.i64.wrap (1 + k3) = 1 + k3 := IntWalk.i64_in _ (by omega)
  have e7 : IntKind.i64.wrap (1 + k3 + k4) = 1 + k3 + k4 := IntWalk.i64_in _ (by omega)
  rw [e5, e6, e7]
  refine anyG_one (i := 24) rfl (by kernel_rfl) ?_
  intro w2 hb2 K hK
  go_simp
  refine hK _ _ ((Below.refl _ w2).alloc (Nat.le_refl _) _) ?_
  clear hK K
  refine anyG_one (i := 25) rfl (by kernel_rfl) ?_
  intro w3 hb3 K hK
  go_simp
  refine hK _ _ (Below.refl _ w3) ?_
  clear hK K
  refine anyG_end (by kernel_rfl) ?_
  intro w4 hb4
  have hb23 : Below w2.heap.size w2 _ := (Below.refl _ w2).alloc (Nat.le_refl _) (.cells #[.string B, .int .i64 x1, .int .i64 x2, .int .i64 x3, .int .i64 x4, .pointer pl, .pointer pr, .int .i64 (a1 + x1 + b1), .int .i64 (a2 + x2 + b2), .int .i64 (a3 + x3 + b3), .int .i64 (a4 + x4 + b4), .int .i64 (1 + max k1 k2), .int .i64 (1 + k3 + k4)] 208)
  have hb34 := hb3.trans (hb4.mono hb3.size)
  have hbw4 : Below w.heap.size w w4 := hbw.trans ((hb2.trans ((hb23.trans (hb34.mono hb23.size)).mono hb2.size)).mono hbw.size)
  have hcell : ∀ o v, (w2.alloc (.cells #[.string B, .int .i64 x1, .int .i64 x2, .int .i64 x3, .int .i64 x4, .pointer pl, .pointer pr, .int .i64 (a1 + x1 + b1), .int .i64 (a2 + x2 + b2), .int .i64 (a3 + x3 + b3), .int .i64 (a4 + x4 + b4), .int .i64 (1 + max k1 k2), .int .i64 (1 + k3 + k4)] 208)).cell? ⟨w2.heap.size, o, none⟩ = some v → w4.cell? ⟨w2.heap.size, o, none⟩ = some v := fun o v h => cell_on hb34 h
  have hT : isTree w4 (some ⟨w2.heap.size, 0, none⟩) (.node l rs r) := by
    refine ⟨w2.heap.size, pl, pr, rfl, ⟨hcell _ _ ?_, hcell _ _ ?_, hcell _ _ ?_, hcell _ _ ?_, hcell _ _ ?_⟩, ⟨hcell _ _ ?_, hcell _ _ ?_⟩, ⟨hcell _ _ ?_, hcell _ _ ?_, hcell _ _ ?_, hcell _ _ ?_⟩, ⟨hcell _ _ ?_, hcell _ _ ?_⟩, isTree_below hbw4 HL.out, isTree_below hbw4 HR.out⟩
    · simp [go_sem, HB.out]
    · simp [go_sem, Hx1.out]
    · simp [go_sem, Hx2.out]
    · simp [go_sem, Hx3.out]
    · simp [go_sem, Hx4.out]
    · simp [go_sem]
    · simp [go_sem]
    · simp [go_sem, t1.out]
    · simp [go_sem, t2.out]
    · simp [go_sem, t3.out]
    · simp [go_sem, t4.out]
    · simp [go_sem, t5.out]
    · simp [go_sem, t6.out]
  clear hcell hb2 hb23 hb34 hb3 hb4 t1 t2 t3 t4 t5 t6
  have HT : Hid _ := hT
  clear hT
  go_wp2
  go_ret
  exact ⟨_, rfl, HT.out, hbw4⟩
end Go.Proofs.YtldhbjmillfjgabGreatDoor

namespace Go.Proofs.YtldhbjmillfjgabGreatDoor

def T.chunks : T → List (List Nat)
  | .nil => []
  | .node l rs r => l.chunks ++ [rs] ++ r.chunks
theorem runes_chunks : ∀ t : T, t.runes = t.chunks.flatten
  | .nil => rfl
  | .node l rs r => by simp [T.runes, T.chunks, runes_chunks l, runes_chunks r]
theorem size_chunks : ∀ t : T, t.size = t.chunks.length
  | .nil => rfl
  | .node l rs r => by simp [T.size, T.chunks, size_chunks l, size_chunks r]; omega
theorem height_size : ∀ t : T, t.height ≤ t.size
  | .nil => Nat.le_refl _
  | .node l rs r => by have := height_size l; have := height_size r; simp only [T.height, T.size]; omega
def T.bal : T → Prop
  | .nil => True
  | .node l _ r => l.bal ∧ r.bal ∧ l.height ≤ r.height + 1 ∧ r.height ≤ l.height + 1

/-- A tree that is not too great. -/
def big (t : T) : Prop := C1 t.runes ≤ 1000000000 ∧ t.size ≤ 100000000
theorem C1_pos (rs : List Nat) : 0 ≤ C1 rs := by rw [C1_len]; omega
theorem big_node {l r : T} {c : List Nat} (h : big (.node l c r)) : big l ∧ big r ∧ C1 l.runes + C1 c + C1 r.runes ≤ 1000000000 ∧ (l.size < 1000000000 ∧ r.size < 1000000000 ∧ l.height < 1000000000 ∧ r.height < 1000000000) := by
  obtain ⟨h1, h2⟩ := h
  simp only [T.runes, C1_append, T.size] at h1 h2
  have a1 := C1_pos l.runes
  have a2 := C1_pos c
  have a3 := C1_pos r.runes
  have b1 := height_size l
  have b2 := height_size r
  exact ⟨⟨by omega, by omega⟩, ⟨by omega, by omega⟩, h1, by omega, by omega, by omega, by omega⟩
theorem big_same {t t' : T} (h : big t) (e : t'.chunks = t.chunks) : big t' := by
  unfold big at *
  rw [runes_chunks, e, ← runes_chunks, size_chunks, e, ← size_chunks]
  exact h

/-- What 'turn' makes of two trees with a chunk between. -/
def turnT (l : T) (c : List Nat) (r : T) : T :=
  if l.height = r.height + 2 then
    match l with
    | .node ll lc (.node a b d) => if ll.height < (T.node a b d).height then .node (.node ll lc a) b (.node d c r) else .node ll lc (.node (.node a b d) c r)
    | .node ll lc .nil => .node ll lc (.node .nil c r)
    | .nil => .node .nil c r
  else if r.height = l.height + 2 then
    match r with
    | .node (.node a b d) rc rr => if rr.height < (T.node a b d).height then .node (.node l c a) b (.node d rc rr) else .node (.node l c (.node a b d)) rc rr
    | .node .nil rc rr => .node (.node l c .nil) rc rr
    | .nil => .node l c .nil
  else .node l c r
theorem turnT_chunks (l : T) (c : List Nat) (r : T) : (turnT l c r).chunks = l.chunks ++ [c] ++ r.chunks := by
  unfold turnT
  split
  · split
    · split <;> simp [T.chunks]
    · simp [T.chunks]
    · simp [T.chunks]
  · split
    · split
      · split <;> simp [T.chunks]
      · simp [T.chunks]
      · simp [T.chunks]
    · simp [T.chunks]
theorem turnT_bal {l r : T} (c : List Nat) (hl : l.bal) (hr : r.bal) (h1 : l.height ≤ r.height + 2) (h2 : r.height ≤ l.height + 2) :
    (turnT l c r).bal ∧ (l.height ≤ r.height + 1 → r.height ≤ l.height + 1 → (turnT l c r).height = 1 + max l.height r.height) ∧ max l.height r.height ≤ (turnT l c r).height ∧ (turnT l c r).height ≤ 1 + max l.height r.height := by
  unfold turnT
  split
  · rename_i h
    match l, hl, h1, h2, h with
    | .nil, hl, h1, h2, h => simp [T.height] at h
    | .node ll lc .nil, hl, h1, h2, h =>
      simp only [T.bal, T.height] at *
      obtain ⟨hll, _, h5, h6⟩ := hl
      exact ⟨⟨hll, ⟨trivial, hr, by omega, by omega⟩, by omega, by omega⟩, fun _ _ => by omega, by omega, by omega⟩
    | .node ll lc (.node a b d), hl, h1, h2, h =>
      simp only [T.bal, T.height] at *
      obtain ⟨hll, ⟨ha, hd, h3, h4⟩, h5, h6⟩ := hl
      by_cases hc : ll.height < 1 + max a.height d.height
      · simp only [hc, if_true, T.bal, T.height]
        exact ⟨⟨⟨hll, ha, by omega, by omega⟩, ⟨hd, hr, by omega, by omega⟩, by omega, by omega⟩, fun _ _ => by omega, by omega, by omega⟩
      · simp only [hc, if_false, T.bal, T.height]
        exact ⟨⟨hll, ⟨⟨ha, hd, h3, h4⟩, hr, by omega, by omega⟩, by omega, by omega⟩, fun _ _ => by omega, by omega, by omega⟩
  · rename_i h
    split
    · rename_i h'
      match r, hr, h1, h2, h, h' with
      | .nil, hr, h1, h2, h, h' => simp [T.height] at h'
      | .node .nil rc rr, hr, h1, h2, h, h' =>
        simp only [T.bal, T.height] at *
        obtain ⟨_, hrr, h5, h6⟩ := hr
        exact ⟨⟨⟨hl, trivial, by omega, by omega⟩, hrr, by omega, by omega⟩, fun _ _ => by omega, by omega, by omega⟩
      | .node (.node a b d) rc rr, hr, h1, h2, h, h' =>
        simp only [T.bal, T.height] at *
        obtain ⟨⟨ha, hd, h3, h4⟩, hrr, h5, h6⟩ := hr
        by_cases hc : rr.height < 1 + max a.height d.height
        · simp only [hc, if_true, T.bal, T.height]
          exact ⟨⟨⟨hl, ha, by omega, by omega⟩, ⟨hd, hrr, by omega, by omega⟩, by omega, by omega⟩, fun _ _ => by omega, by omega, by omega⟩
        · simp only [hc, if_false, T.bal, T.height]
          exact ⟨⟨⟨hl, ⟨ha, hd, h3, h4⟩, by omega, by omega⟩, hrr, by omega, by omega⟩, fun _ _ => by omega, by omega, by omega⟩
    · rename_i h'
      exact ⟨⟨hl, hr, by omega, by omega⟩, fun _ _ => rfl, by show _ ≤ 1 + max l.height r.height; omega, Nat.le_refl _⟩
end Go.Proofs.YtldhbjmillfjgabGreatDoor

namespace Go.Proofs.YtldhbjmillfjgabGreatDoor
open Go.RowKit
set_option linter.unusedVariables false
attribute [local go_sem] yieldsUpon okUpon

theorem link_fits {pl pr : Option Addr} {l r : T} {c : List Nat} {w : World} (h : big (.node l c r)) (hl : isTree w pl l) (hr : isTree w pr r) :
    Calls Tryz.prog 161 #[.pointer pl, chunkV c, .pointer pr] w fun e w' => ∃ p, e = .returned (.pointer p) ∧ isTree w' p (.node l c r) ∧ Below w.heap.size w w' :=
  link_any pl pr l r c w hl hr (big_node h).2.2.1 (big_node h).2.2.2

set_option maxRecDepth 100000 in
set_option maxHeartbeats 2000000 in
theorem turn_E (pl pr : Option Addr) (l r : T) (c : List Nat) (w : World) (hl : isTree w pl l) (hr : isTree w pr r) (hz : big (.node l c r)) (h1 : ¬ l.height = r.height + 2) (h2 : ¬ r.height = l.height + 2) :
    Calls Tryz.prog 190 #[.pointer pl, chunkV c, .pointer pr] w fun e w' => ∃ p, e = .returned (.pointer p) ∧ isTree w' p (.node l c r) ∧ Below w.heap.size w w' := by
  have hb0 : ∀ o, Below w.heap.size w (w.alloc o) := fun o => (Below.refl _ w).alloc (Nat.le_refl _) o
  have cl := fun o => nheight_any pl l (w.alloc o) (isTree_below (hb0 o) hl)
  have cr := fun o => nheight_any pr r (w.alloc o) (isTree_below (hb0 o) hr)
  have ck := fun o => link_fits hz (isTree_below (hb0 o) hl) (isTree_below (hb0 o) hr)
  obtain ⟨_, _, _, _, _, s3, s4⟩ := big_node hz
  have k1 : (((l.height : Int) - r.height) == 2) = false := by rw [beq_eq_false_iff_ne]; omega
  have k2 : (((l.height : Int) - r.height) == -2) = false := by rw [beq_eq_false_iff_ne]; omega
  have k3 : 0 ≤ (l.height : Int) ∧ (l.height : Int) < 1000000000 := by omega
  have k4 : 0 ≤ (r.height : Int) ∧ (r.height : Int) < 1000000000 := by omega
  clear h1 h2 s3 s4 hz
  have HLR : Hid (isTree w pl l ∧ isTree w pr r) := ⟨hl, hr⟩
  clear hl hr
  generalize (l.height : Int) = x1 at *
  generalize (r.height : Int) = x2 at *
  unfold chunkV at *
  go_enter Tryz.func190, Tryz.ntmps190
  go_wp2_with (first | (go_at_call_of 189 pl; refine (cl _).mono ?_; rintro e w1 ⟨rfl, rfl⟩) | (go_at_call_of 189 pr; refine (cr _).mono ?_; rintro e w1 ⟨rfl, rfl⟩) | (go_at_call 161; refine (ck _).mono ?_; rintro e w2 ⟨p, rfl, ht, hb⟩; have HT : Hid _ := ht; clear ht) | fail)
  go_ret
  exact ⟨p, rfl, HT.out, (hb0 _).trans (hb.mono (hb0 _).size)⟩

end Go.Proofs.YtldhbjmillfjgabGreatDoor

namespace Go.Proofs.YtldhbjmillfjgabGreatDoor
open Go.RowKit
set_option linter.unusedVariables false
attribute [local go_sem] yieldsUpon okUpon

set_option maxRecDepth 100000 in
set_option maxHeartbeats 2000000 in
theorem turn_A (pl pr : Option Addr) (ll a d r : T) (c lc b : List Nat) (w : World) (hl : isTree w pl (.node ll lc (.node a b d))) (hr : isTree w pr r) (hz : big (.node (.node ll lc a) b (.node d c r))) (hd : (T.node ll lc (.node a b d)).height = r.height + 2) (hc : ll.height < (T.node a b d).height) :
    Calls Tryz.prog 190 #[.pointer pl, chunkV c, .pointer pr] w fun e w' => ∃ p, e = .returned (.pointer p) ∧ isTree w' p (.node (.node ll lc a) b (.node d c r)) ∧ Below w.heap.size w w' := by
  have hb0 : ∀ o, Below w.heap.size w (w.alloc o) := fun o => (Below.refl _ w).alloc (Nat.le_refl _) o
  have HL : Hid (isTree w pl (.node ll lc (.node a b d))) := hl
  have HR : Hid (isTree w pr r) := hr
  have cl := fun o => nheight_any pl (.node ll lc (.node a b d)) (w.alloc o) (isTree_below (hb0 o) hl)
  have cr := fun o => nheight_any pr r (w.alloc o) (isTree_below (hb0 o) hr)
  have hzT := hz
  obtain ⟨z1, z2, _, _⟩ := big_node hz
  obtain ⟨b1, pll, plr, rfl, ⟨uc0, uc1, uc2, uc3, uc4⟩, ⟨uc5, uc6⟩, _, _, hlu, hru⟩ := hl
  have hruT := hru
  obtain ⟨b2, pa, pd, rfl, ⟨vc0, vc1, vc2, vc3, vc4⟩, ⟨vc5, vc6⟩, _, _, hlv, hrv⟩ := hruT
  have hq : ((T.node ll lc (.node a b d)).height : Int) < 1000000000 ∧ (r.height : Int) < 1000000000 ∧ ((T.node a b d).height : Int) < 1000000000 ∧ (ll.height : Int) < 1000000000 := by
    have e1 := (big_node hz).2.2.2
    have e2 := height_size (T.node (.node ll lc a) b (.node d c r))
    have e3 := hz.2
    simp only [T.height, T.size] at *
    omega
  have hp : 0 ≤ ((T.node ll lc (.node a b d)).height : Int) ∧ 0 ≤ (r.height : Int) := by omega
  have k0 : ((T.node ll lc (.node a b d)).height : Int) = (r.height : Int) + 2 := by rw [hd]; push_cast; rfl
  have k1 : (((T.node ll lc (.node a b d)).height : Int) - r.height == 2) = true := by rw [beq_iff_eq]; omega
  have k2 : (((T.node ll lc (.node a b d)).height : Int) - r.height == -2) = false := by rw [beq_eq_false_iff_ne]; omega
  have k3 : ((ll.height : Int) < ((T.node a b d).height : Int)) := by omega
  have ck := fun wx (hb : Below w.heap.size w wx) => (nheight_any (some ⟨b2, 0, none⟩) (.node a b d) wx (isTree_below hb hru)).mono (R' := fun e w' => e = .returned (.int .i64 (T.node a b d).height) ∧ Below wx.heap.size wx w') (by rintro e w' ⟨rfl, rfl⟩; exact ⟨rfl, Below.refl _ _⟩)
  have co := fun wx (hb : Below w.heap.size w wx) => (nheight_any pll ll wx (isTree_below hb hlu)).mono (R' := fun e w' => e = .returned (.int .i64 ll.height) ∧ Below wx.heap.size wx w') (by rintro e w' ⟨rfl, rfl⟩; exact ⟨rfl, Below.refl _ _⟩)
  have HLU : Hid _ := hlu
  have HRU : Hid _ := hru
  have HLV : Hid _ := hlv
  have HRV : Hid _ := hrv
  clear k0 hd hc hzT
  generalize ((T.node ll lc (.node a b d)).height : Int) = x1 at *
  generalize (r.height : Int) = x2 at *
  generalize ((T.node a b d).height : Int) = x3 at *
  generalize (ll.height : Int) = x4 at *
  have HZ : Hid _ := hz
  have Hz1 : Hid _ := z1
  have Hz2 : Hid _ := z2
  clear hz z1 z2 hlu hru hlv hrv
  have d6 := fun o => cell_on (hb0 o) uc6
  unfold chunkV
  go_enter Tryz.func190, Tryz.ntmps190
  go_wp2_with (first | (go_at_call_of 189 b1; refine (cl _).mono ?_; rintro e w1 ⟨rfl, rfl⟩) | (go_at_call_of 189 pr; refine (cr _).mono ?_; rintro e w1 ⟨rfl, rfl⟩) | fail)
  obtain ⟨W1, hW1⟩ : ∃ W1, w.alloc (.cells #[.string (bytesOf c), .int .i64 (C1 c), .int .i64 (C2 c), .int .i64 (C3 c), .int .i64 (C4 c)] 194) = W1 := ⟨_, rfl⟩
  have hbW1 : Below w.heap.size w W1 := by rw [← hW1]; exact hb0 _
  have x0 : W1.cell? ⟨w.heap.size, 0, none⟩ = some (.string (bytesOf c)) := by rw [← hW1]; simp [go_sem]
  have y1 : W1.cell? ⟨w.heap.size, 1, none⟩ = some (.int .i64 (C1 c)) := by rw [← hW1]; simp [go_sem]
  have y2 : W1.cell? ⟨w.heap.size, 2, none⟩ = some (.int .i64 (C2 c)) := by rw [← hW1]; simp [go_sem]
  have y3 : W1.cell? ⟨w.heap.size, 3, none⟩ = some (.int .i64 (C3 c)) := by rw [← hW1]; simp [go_sem]
  have y4 : W1.cell? ⟨w.heap.size, 4, none⟩ = some (.int .i64 (C4 c)) := by rw [← hW1]; simp [go_sem]
  rw [hW1]
  clear hW1 cl cr
  obtain ⟨G0, hG0⟩ := exists_growth W1
  have hb0w : ∀ x, Below w.heap.size w (G0 x) := fun x => hbW1.trans ((hG0.below x).mono hbW1.size)
  have q5 := hG0.cell (cell_on hbW1 uc5)
  have HG0 : Hid (Growth W1 G0) := hG0
  refine wp_region_grow hG0 (by kernel_rfl) (by kernel_rfl) ?_
  clear hG0 d6
  repeat (first
    | go_big_quiet_skip
    | (go_big_quiet_want; go_big_quiet_op; first | go_big_quiet_on | (apply Exists.intro; refine ⟨fun _ => ?_, ?_⟩; (first | (go_at_call_of 189 b2; exact grow_of HG0.out (ck _ (hb0w _))) | (go_at_call_of 189 pll; exact grow_of HG0.out (co _ (hb0w _)))); go_big_quiet_on)))
  refine wpQuiet_nil ?_
  rintro w0 ⟨xx, rfl⟩
  go_wp2
  have hbx := hb0w xx
  have hbx1 : Below W1.heap.size W1 (G0 xx) := HG0.out.below xx
  obtain ⟨w0, hw0⟩ : ∃ w0, G0 xx = w0 := ⟨_, rfl⟩
  rw [hw0] at hbx hbx1 ⊢
  clear hw0 q5 HG0 hb0w ck co
  refine wp_region_rel 26 26 (by kernel_rfl) rfl ?_
  intro w1 hb1
  have hbw : Below w.heap.size w w1 := hbx.trans (hb1.mono hbx.size)
  have hbb : Below W1.heap.size W1 w1 := hbx1.trans (hb1.mono hbx1.size)
  obtain ⟨G, hG⟩ := exists_growth w1
  have g0 := hG.cell (cell_on hbb x0)
  have g1 := hG.cell (cell_on hbb y1)
  have g2 := hG.cell (cell_on hbb y2)
  have g3 := hG.cell (cell_on hbb y3)
  have g4 := hG.cell (cell_on hbb y4)
  have ug0 := hG.cell (cell_on hbw uc0)
  have ug1 := hG.cell (cell_on hbw uc1)
  have ug2 := hG.cell (cell_on hbw uc2)
  have ug3 := hG.cell (cell_on hbw uc3)
  have ug4 := hG.cell (cell_on hbw uc4)
  have ug5 := hG.cell (cell_on hbw uc5)
  have ug6 := hG.cell (cell_on hbw uc6)
  have vg0 := hG.cell (cell_on hbw vc0)
  have vg1 := hG.cell (cell_on hbw vc1)
  have vg2 := hG.cell (cell_on hbw vc2)
  have vg3 := hG.cell (cell_on hbw vc3)
  have vg4 := hG.cell (cell_on hbw vc4)
  have vg5 := hG.cell (cell_on hbw vc5)
  have vg6 := hG.cell (cell_on hbw vc6)
  clear uc0 uc1 uc2 uc3 uc4 uc5 uc6 vc0 vc1 vc2 vc3 vc4 vc5 vc6 x0 y1 y2 y3 y4 hbb hbx hbx1 hb1
  (refine anyG_step hG (i := 0) rfl (by kernel_rfl) (by kernel_rfl) (by kernel_rfl) (fun K hK => ?_); go_simp; refine hK _ ?_; clear hK K)
  (refine anyG_step hG (i := 1) rfl (by kernel_rfl) (by kernel_rfl) (by kernel_rfl) (fun K hK => ?_); go_simp; refine hK _ ?_; clear hK K)
  (refine anyG_step hG (i := 2) rfl (by kernel_rfl) (by kernel_rfl) (by kernel_rfl) (fun K hK => ?_); go_simp; refine hK _ ?_; clear hK K)
  (refine anyG_step hG (i := 3) rfl (by kernel_rfl) (by kernel_rfl) (by kernel_rfl) (fun K hK => ?_); go_simp; refine hK _ ?_; clear hK K)
  (refine anyG_step hG (i := 4) rfl (by kernel_rfl) (by kernel_rfl) (by kernel_rfl) (fun K hK => ?_); go_simp; refine hK _ ?_; clear hK K)
  (refine anyG_step hG (i := 5) rfl (by kernel_rfl) (by kernel_rfl) (by kernel_rfl) (fun K hK => ?_); go_simp; refine hK _ ?_; clear hK K)
  (refine anyG_step hG (i := 6) rfl (by kernel_rfl) (by kernel_rfl) (by kernel_rfl) (fun K hK => ?_); go_simp; refine hK _ ?_; clear hK K)
  (refine anyG_step hG (i := 7) rfl (by kernel_rfl) (by kernel_rfl) (by kernel_rfl) (fun K hK => ?_); go_simp; refine hK _ ?_; clear hK K)
  (refine anyG_step hG (i := 8) rfl (by kernel_rfl) (by kernel_rfl) (by kernel_rfl) (fun K hK => ?_); go_simp; refine hK _ ?_; clear hK K)
  (refine anyG_step hG (i := 9) rfl (by kernel_rfl) (by kernel_rfl) (by kernel_rfl) (fun K hK => ?_); go_simp; refine hK _ ?_; clear hK K)
  (refine anyG_step hG (i := 10) rfl (by kernel_rfl) (by kernel_rfl) (by kernel_rfl) (fun K hK => ?_); go_simp; refine hK _ ?_; clear hK K)
  (refine anyG_step hG (i := 11) rfl (by kernel_rfl) (by kernel_rfl) (by kernel_rfl) (fun K hK => ?_); go_simp; refine hK _ ?_; clear hK K)
  (refine anyG_step hG (i := 13) rfl (by kernel_rfl) (by kernel_rfl) (by kernel_rfl) (fun K hK => ?_); go_simp; refine hK _ ?_; clear hK K)
  (refine anyG_step hG (i := 14) rfl (by kernel_rfl) (by kernel_rfl) (by kernel_rfl) (fun K hK => ?_); go_simp; refine hK _ ?_; clear hK K)
  (refine anyG_step hG (i := 15) rfl (by kernel_rfl) (by kernel_rfl) (by kernel_rfl) (fun K hK => ?_); go_simp; refine hK _ ?_; clear hK K)
  (refine anyG_step hG (i := 16) rfl (by kernel_rfl) (by kernel_rfl) (by kernel_rfl) (fun K hK => ?_); go_simp; refine hK _ ?_; clear hK K)
  (refine anyG_step hG (i := 17) rfl (by kernel_rfl) (by kernel_rfl) (by kernel_rfl) (fun K hK => ?_); go_simp; refine hK _ ?_; clear hK K)
  (refine anyG_step hG (i := 18) rfl (by kernel_rfl) (by kernel_rfl) (by kernel_rfl) (fun K hK => ?_); go_simp; refine hK _ ?_; clear hK K)
  (refine anyG_step hG (i := 19) rfl (by kernel_rfl) (by kernel_rfl) (by kernel_rfl) (fun K hK => ?_); go_simp; refine hK _ ?_; clear hK K)
  (refine anyG_step hG (i := 20) rfl (by kernel_rfl) (by kernel_rfl) (by kernel_rfl) (fun K hK => ?_); go_simp; refine hK _ ?_; clear hK K)
  (refine anyG_step hG (i := 21) rfl (by kernel_rfl) (by kernel_rfl) (by kernel_rfl) (fun K hK => ?_); go_simp; refine hK _ ?_; clear hK K)
  (refine anyG_step hG (i := 22) rfl (by kernel_rfl) (by kernel_rfl) (by kernel_rfl) (fun K hK => ?_); go_simp; refine hK _ ?_; clear hK K)
  clear g0 g1 g2 g3 g4 ug0 ug1 ug2 ug3 ug4 ug5 ug6 vg0 vg1 vg2 vg3 vg4 vg5 vg6 hG
  refine anyG_one (i := 12) rfl (by kernel_rfl) ?_
  intro w2 hbw2 K hK
  have hww2 : Below w.heap.size w w2 := hbw.trans (hbw2.mono hbw.size)
  have ck := link_fits Hz1.out (isTree_below hww2 HLU.out) (isTree_below hww2 HLV.out)
  unfold chunkV at ck
  go_simp
  refine ck.mono ?_
  rintro e w3 ⟨p1, rfl, ht1, hb3⟩
  have hww3 : Below w.heap.size w w3 := hww2.trans (hb3.mono hww2.size)
  refine ⟨_, rfl, hK _ _ hb3 ?_⟩
  clear hK K ck
  refine anyG_one (i := 23) rfl (by kernel_rfl) ?_
  intro w4 hbw4 K hK
  have hww4 : Below w.heap.size w w4 := hww3.trans (hbw4.mono hww3.size)
  have ck := link_fits Hz2.out (isTree_below hww4 HRV.out) (isTree_below hww4 HR.out)
  unfold chunkV at ck
  go_simp
  refine ck.mono ?_
  rintro e w5 ⟨p2, rfl, ht2, hb5⟩
  have hww5 : Below w.heap.size w w5 := hww4.trans (hb5.mono hww4.size)
  refine ⟨_, rfl, hK _ _ hb5 ?_⟩
  clear hK K ck
  have ht1' := isTree_below (hbw4.trans (hb5.mono hbw4.size)) ht1
  refine anyG_one (i := 24) rfl (by kernel_rfl) ?_
  intro w6 hbw6 K hK
  have hww6 : Below w.heap.size w w6 := hww5.trans (hbw6.mono hww5.size)
  have ck := link_fits HZ.out (isTree_below hbw6 ht1') (isTree_below hbw6 ht2)
  unfold chunkV at ck
  go_simp
  refine ck.mono ?_
  rintro e w7 ⟨p3, rfl, ht3, hb7⟩
  have hww7 : Below w.heap.size w w7 := hww6.trans (hb7.mono hww6.size)
  refine ⟨_, rfl, hK _ _ hb7 ?_⟩
  clear hK K ck
  clear ht1 ht2 ht1'
  refine anyG_one (i := 25) rfl (by kernel_rfl) ?_
  intro w90 hb90 K hK
  go_simp
  refine hK _ _ (Below.refl _ w90) ?_
  clear hK K
  refine anyG_end (by kernel_rfl) ?_
  intro w91 hb91
  have hb92 := hb90.trans (hb91.mono hb90.size)
  have hw92 : Below w.heap.size w w91 := hww7.trans (hb92.mono hww7.size)
  have HT : Hid _ := isTree_below hb92 ht3
  clear hb90 hb91 hb92 ht3
  go_wp2
  go_ret
  exact ⟨_, rfl, HT.out, hw92⟩

end Go.Proofs.YtldhbjmillfjgabGreatDoor

namespace Go.Proofs.YtldhbjmillfjgabGreatDoor
open Go.RowKit
set_option linter.unusedVariables false
attribute [local go_sem] yieldsUpon okUpon

set_option maxRecDepth 100000 in
set_option maxHeartbeats 2000000 in
theorem turn_B (pl pr : Option Addr) (ll lr r : T) (c lc : List Nat) (w : World) (hl : isTree w pl (.node ll lc lr)) (hr : isTree w pr r) (hz : big (.node ll lc (.node lr c r))) (hd : (T.node ll lc lr).height = r.height + 2) (hc : ¬ ll.height < lr.height) :
    Calls Tryz.prog 190 #[.pointer pl, chunkV c, .pointer pr] w fun e w' => ∃ p, e = .returned (.pointer p) ∧ isTree w' p (.node ll lc (.node lr c r)) ∧ Below w.heap.size w w' := by
  have hb0 : ∀ o, Below w.heap.size w (w.alloc o) := fun o => (Below.refl _ w).alloc (Nat.le_refl _) o
  have HL : Hid (isTree w pl (.node ll lc lr)) := hl
  have HR : Hid (isTree w pr r) := hr
  have cl := fun o => nheight_any pl (.node ll lc lr) (w.alloc o) (isTree_below (hb0 o) hl)
  have cr := fun o => nheight_any pr r (w.alloc o) (isTree_below (hb0 o) hr)
  have hzT := hz
  obtain ⟨_, z2, _, _⟩ := big_node hz
  obtain ⟨b1, pll, plr, rfl, ⟨uc0, uc1, uc2, uc3, uc4⟩, ⟨uc5, uc6⟩, _, _, hlu, hru⟩ := hl
  have hq : ((T.node ll lc lr).height : Int) < 1000000000 ∧ (r.height : Int) < 1000000000 ∧ (lr.height : Int) < 1000000000 ∧ (ll.height : Int) < 1000000000 := by
    have e1 := (big_node hz).2.2.2
    have e2 := height_size (T.node ll lc (.node lr c r))
    have e3 := hz.2
    simp only [T.height, T.size] at *
    omega
  have hp : 0 ≤ ((T.node ll lc lr).height : Int) ∧ 0 ≤ (r.height : Int) := by omega
  have k0 : ((T.node ll lc lr).height : Int) = (r.height : Int) + 2 := by rw [hd]; push_cast; rfl
  have k1 : (((T.node ll lc lr).height : Int) - r.height == 2) = true := by rw [beq_iff_eq]; omega
  have k2 : (((T.node ll lc lr).height : Int) - r.height == -2) = false := by rw [beq_eq_false_iff_ne]; omega
  have k3 : ¬ ((ll.height : Int) < (lr.height : Int)) := by omega
  have ck := fun wx (hb : Below w.heap.size w wx) => (nheight_any plr lr wx (isTree_below hb hru)).mono (R' := fun e w' => e = .returned (.int .i64 lr.height) ∧ Below wx.heap.size wx w') (by rintro e w' ⟨rfl, rfl⟩; exact ⟨rfl, Below.refl _ _⟩)
  have co := fun wx (hb : Below w.heap.size w wx) => (nheight_any pll ll wx (isTree_below hb hlu)).mono (R' := fun e w' => e = .returned (.int .i64 ll.height) ∧ Below wx.heap.size wx w') (by rintro e w' ⟨rfl, rfl⟩; exact ⟨rfl, Below.refl _ _⟩)
  have HLU : Hid _ := hlu
  have HRU : Hid _ := hru
  clear k0 hd hc hzT
  generalize ((T.node ll lc lr).height : Int) = x1 at *
  generalize (r.height : Int) = x2 at *
  generalize (lr.height : Int) = x3 at *
  generalize (ll.height : Int) = x4 at *
  have HZ : Hid _ := hz
  have Hz2 : Hid _ := z2
  clear hz z2 hlu hru
  have d6 := fun o => cell_on (hb0 o) uc6
  unfold chunkV
  go_enter Tryz.func190, Tryz.ntmps190
  go_wp2_with (first | (go_at_call_of 189 b1; refine (cl _).mono ?_; rintro e w1 ⟨rfl, rfl⟩) | (go_at_call_of 189 pr; refine (cr _).mono ?_; rintro e w1 ⟨rfl, rfl⟩) | fail)
  obtain ⟨W1, hW1⟩ : ∃ W1, w.alloc (.cells #[.string (bytesOf c), .int .i64 (C1 c), .int .i64 (C2 c), .int .i64 (C3 c), .int .i64 (C4 c)] 194) = W1 := ⟨_, rfl⟩
  have hbW1 : Below w.heap.size w W1 := by rw [← hW1]; exact hb0 _
  have x0 : W1.cell? ⟨w.heap.size, 0, none⟩ = some (.string (bytesOf c)) := by rw [← hW1]; simp [go_sem]
  have y1 : W1.cell? ⟨w.heap.size, 1, none⟩ = some (.int .i64 (C1 c)) := by rw [← hW1]; simp [go_sem]
  have y2 : W1.cell? ⟨w.heap.size, 2, none⟩ = some (.int .i64 (C2 c)) := by rw [← hW1]; simp [go_sem]
  have y3 : W1.cell? ⟨w.heap.size, 3, none⟩ = some (.int .i64 (C3 c)) := by rw [← hW1]; simp [go_sem]
  have y4 : W1.cell? ⟨w.heap.size, 4, none⟩ = some (.int .i64 (C4 c)) := by rw [← hW1]; simp [go_sem]
  rw [hW1]
  clear hW1 cl cr
  obtain ⟨G0, hG0⟩ := exists_growth W1
  have hb0w : ∀ x, Below w.heap.size w (G0 x) := fun x => hbW1.trans ((hG0.below x).mono hbW1.size)
  have q5 := hG0.cell (cell_on hbW1 uc5)
  have HG0 : Hid (Growth W1 G0) := hG0
  refine wp_region_grow hG0 (by kernel_rfl) (by kernel_rfl) ?_
  clear hG0 d6
  repeat (first
    | go_big_quiet_skip
    | (go_big_quiet_want; go_big_quiet_op; first | go_big_quiet_on | (apply Exists.intro; refine ⟨fun _ => ?_, ?_⟩; (first | (go_at_call_of 189 plr; exact grow_of HG0.out (ck _ (hb0w _))) | (go_at_call_of 189 pll; exact grow_of HG0.out (co _ (hb0w _)))); go_big_quiet_on)))
  refine wpQuiet_nil ?_
  rintro w0 ⟨xx, rfl⟩
  go_wp2
  have hbx := hb0w xx
  have hbx1 : Below W1.heap.size W1 (G0 xx) := HG0.out.below xx
  obtain ⟨w0, hw0⟩ : ∃ w0, G0 xx = w0 := ⟨_, rfl⟩
  rw [hw0] at hbx hbx1 ⊢
  clear hw0 q5 HG0 hb0w ck co
  refine wp_region_rel 17 17 (by kernel_rfl) rfl ?_
  intro w1 hb1
  have hbw : Below w.heap.size w w1 := hbx.trans (hb1.mono hbx.size)
  have hbb : Below W1.heap.size W1 w1 := hbx1.trans (hb1.mono hbx1.size)
  obtain ⟨G, hG⟩ := exists_growth w1
  have g0 := hG.cell (cell_on hbb x0)
  have g1 := hG.cell (cell_on hbb y1)
  have g2 := hG.cell (cell_on hbb y2)
  have g3 := hG.cell (cell_on hbb y3)
  have g4 := hG.cell (cell_on hbb y4)
  have ug0 := hG.cell (cell_on hbw uc0)
  have ug1 := hG.cell (cell_on hbw uc1)
  have ug2 := hG.cell (cell_on hbw uc2)
  have ug3 := hG.cell (cell_on hbw uc3)
  have ug4 := hG.cell (cell_on hbw uc4)
  have ug5 := hG.cell (cell_on hbw uc5)
  have ug6 := hG.cell (cell_on hbw uc6)
  clear uc0 uc1 uc2 uc3 uc4 uc5 uc6  x0 y1 y2 y3 y4 hbb hbx hbx1 hb1
  (refine anyG_step hG (i := 0) rfl (by kernel_rfl) (by kernel_rfl) (by kernel_rfl) (fun K hK => ?_); go_simp; refine hK _ ?_; clear hK K)
  (refine anyG_step hG (i := 1) rfl (by kernel_rfl) (by kernel_rfl) (by kernel_rfl) (fun K hK => ?_); go_simp; refine hK _ ?_; clear hK K)
  (refine anyG_step hG (i := 2) rfl (by kernel_rfl) (by kernel_rfl) (by kernel_rfl) (fun K hK => ?_); go_simp; refine hK _ ?_; clear hK K)
  (refine anyG_step hG (i := 3) rfl (by kernel_rfl) (by kernel_rfl) (by kernel_rfl) (fun K hK => ?_); go_simp; refine hK _ ?_; clear hK K)
  (refine anyG_step hG (i := 4) rfl (by kernel_rfl) (by kernel_rfl) (by kernel_rfl) (fun K hK => ?_); go_simp; refine hK _ ?_; clear hK K)
  (refine anyG_step hG (i := 5) rfl (by kernel_rfl) (by kernel_rfl) (by kernel_rfl) (fun K hK => ?_); go_simp; refine hK _ ?_; clear hK K)
  (refine anyG_step hG (i := 6) rfl (by kernel_rfl) (by kernel_rfl) (by kernel_rfl) (fun K hK => ?_); go_simp; refine hK _ ?_; clear hK K)
  (refine anyG_step hG (i := 7) rfl (by kernel_rfl) (by kernel_rfl) (by kernel_rfl) (fun K hK => ?_); go_simp; refine hK _ ?_; clear hK K)
  (refine anyG_step hG (i := 8) rfl (by kernel_rfl) (by kernel_rfl) (by kernel_rfl) (fun K hK => ?_); go_simp; refine hK _ ?_; clear hK K)
  (refine anyG_step hG (i := 9) rfl (by kernel_rfl) (by kernel_rfl) (by kernel_rfl) (fun K hK => ?_); go_simp; refine hK _ ?_; clear hK K)
  (refine anyG_step hG (i := 10) rfl (by kernel_rfl) (by kernel_rfl) (by kernel_rfl) (fun K hK => ?_); go_simp; refine hK _ ?_; clear hK K)
  (refine anyG_step hG (i := 11) rfl (by kernel_rfl) (by kernel_rfl) (by kernel_rfl) (fun K hK => ?_); go_simp; refine hK _ ?_; clear hK K)
  (refine anyG_step hG (i := 12) rfl (by kernel_rfl) (by kernel_rfl) (by kernel_rfl) (fun K hK => ?_); go_simp; refine hK _ ?_; clear hK K)
  (refine anyG_step hG (i := 13) rfl (by kernel_rfl) (by kernel_rfl) (by kernel_rfl) (fun K hK => ?_); go_simp; refine hK _ ?_; clear hK K)
  clear g0 g1 g2 g3 g4 ug0 ug1 ug2 ug3 ug4 ug5 ug6  hG
  refine anyG_one (i := 14) rfl (by kernel_rfl) ?_
  intro w2 hbw2 K hK
  have hww2 : Below w.heap.size w w2 := hbw.trans (hbw2.mono hbw.size)
  have ck := link_fits Hz2.out (isTree_below hww2 HRU.out) (isTree_below hww2 HR.out)
  unfold chunkV at ck
  go_simp
  refine ck.mono ?_
  rintro e w3 ⟨p1, rfl, ht1, hb3⟩
  have hww3 : Below w.heap.size w w3 := hww2.trans (hb3.mono hww2.size)
  refine ⟨_, rfl, hK _ _ hb3 ?_⟩
  clear hK K ck
  refine anyG_one (i := 15) rfl (by kernel_rfl) ?_
  intro w4 hbw4 K hK
  have hww4 : Below w.heap.size w w4 := hww3.trans (hbw4.mono hww3.size)
  have ck := link_fits HZ.out (isTree_below hww4 HLU.out) (isTree_below hbw4 ht1)
  unfold chunkV at ck
  go_simp
  refine ck.mono ?_
  rintro e w5 ⟨p2, rfl, ht2, hb5⟩
  have hww5 : Below w.heap.size w w5 := hww4.trans (hb5.mono hww4.size)
  refine ⟨_, rfl, hK _ _ hb5 ?_⟩
  clear hK K ck
  clear ht1
  refine anyG_one (i := 16) rfl (by kernel_rfl) ?_
  intro w90 hb90 K hK
  go_simp
  refine hK _ _ (Below.refl _ w90) ?_
  clear hK K
  refine anyG_end (by kernel_rfl) ?_
  intro w91 hb91
  have hb92 := hb90.trans (hb91.mono hb90.size)
  have hw92 : Below w.heap.size w w91 := hww5.trans (hb92.mono hww5.size)
  have HT : Hid _ := isTree_below hb92 ht2
  clear hb90 hb91 hb92 ht2
  go_wp2
  go_ret
  exact ⟨_, rfl, HT.out, hw92⟩

end Go.Proofs.YtldhbjmillfjgabGreatDoor

namespace Go.Proofs.YtldhbjmillfjgabGreatDoor
open Go.RowKit
set_option linter.unusedVariables false
attribute [local go_sem] yieldsUpon okUpon

set_option maxRecDepth 100000 in
set_option maxHeartbeats 2000000 in
theorem turn_C (pl pr : Option Addr) (l a d rr : T) (c b rc : List Nat) (w : World) (hl : isTree w pl l) (hr : isTree w pr (.node (.node a b d) rc rr)) (hz : big (.node (.node l c a) b (.node d rc rr))) (hd : (T.node (.node a b d) rc rr).height = l.height + 2) (hc : rr.height < (T.node a b d).height) :
    Calls Tryz.prog 190 #[.pointer pl, chunkV c, .pointer pr] w fun e w' => ∃ p, e = .returned (.pointer p) ∧ isTree w' p (.node (.node l c a) b (.node d rc rr)) ∧ Below w.heap.size w w' := by
  have hb0 : ∀ o, Below w.heap.size w (w.alloc o) := fun o => (Below.refl _ w).alloc (Nat.le_refl _) o
  have HL : Hid (isTree w pl l) := hl
  have HR : Hid (isTree w pr (.node (.node a b d) rc rr)) := hr
  have cl := fun o => nheight_any pl l (w.alloc o) (isTree_below (hb0 o) hl)
  have cr := fun o => nheight_any pr (.node (.node a b d) rc rr) (w.alloc o) (isTree_below (hb0 o) hr)
  have hzT := hz
  obtain ⟨z1, z2, _, _⟩ := big_node hz
  obtain ⟨b1, prl, prr, rfl, ⟨uc0, uc1, uc2, uc3, uc4⟩, ⟨uc5, uc6⟩, _, _, hlu, hru⟩ := hr
  have hluT := hlu
  obtain ⟨b2, pa, pd, rfl, ⟨vc0, vc1, vc2, vc3, vc4⟩, ⟨vc5, vc6⟩, _, _, hlv, hrv⟩ := hluT
  have hq : (l.height : Int) < 1000000000 ∧ ((T.node (.node a b d) rc rr).height : Int) < 1000000000 ∧ ((T.node a b d).height : Int) < 1000000000 ∧ (rr.height : Int) < 1000000000 := by
    have e1 := (big_node hz).2.2.2
    have e2 := height_size (T.node (.node l c a) b (.node d rc rr))
    have e3 := hz.2
    simp only [T.height, T.size] at *
    omega
  have hp : 0 ≤ (l.height : Int) ∧ 0 ≤ ((T.node (.node a b d) rc rr).height : Int) := by omega
  have k0 : ((T.node (.node a b d) rc rr).height : Int) = (l.height : Int) + 2 := by rw [hd]; push_cast; rfl
  have k1 : ((l.height : Int) - (T.node (.node a b d) rc rr).height == 2) = false := by rw [beq_eq_false_iff_ne]; omega
  have k2 : ((l.height : Int) - (T.node (.node a b d) rc rr).height == -2) = true := by rw [beq_iff_eq]; omega
  have k3 : ((rr.height : Int) < ((T.node a b d).height : Int)) := by omega
  have ck := fun wx (hb : Below w.heap.size w wx) => (nheight_any (some ⟨b2, 0, none⟩) (.node a b d) wx (isTree_below hb hlu)).mono (R' := fun e w' => e = .returned (.int .i64 (T.node a b d).height) ∧ Below wx.heap.size wx w') (by rintro e w' ⟨rfl, rfl⟩; exact ⟨rfl, Below.refl _ _⟩)
  have co := fun wx (hb : Below w.heap.size w wx) => (nheight_any prr rr wx (isTree_below hb hru)).mono (R' := fun e w' => e = .returned (.int .i64 rr.height) ∧ Below wx.heap.size wx w') (by rintro e w' ⟨rfl, rfl⟩; exact ⟨rfl, Below.refl _ _⟩)
  have HLU : Hid _ := hlu
  have HRU : Hid _ := hru
  have HLV : Hid _ := hlv
  have HRV : Hid _ := hrv
  clear k0 hd hc hzT
  generalize (l.height : Int) = x1 at *
  generalize ((T.node (.node a b d) rc rr).height : Int) = x2 at *
  generalize ((T.node a b d).height : Int) = x3 at *
  generalize (rr.height : Int) = x4 at *
  have HZ : Hid _ := hz
  have Hz1 : Hid _ := z1
  have Hz2 : Hid _ := z2
  clear hz z1 z2 hlu hru hlv hrv
  have d5 := fun o => cell_on (hb0 o) uc5
  unfold chunkV
  go_enter Tryz.func190, Tryz.ntmps190
  go_wp2_with (first | (go_at_call_of 189 pl; refine (cl _).mono ?_; rintro e w1 ⟨rfl, rfl⟩) | (go_at_call_of 189 b1; refine (cr _).mono ?_; rintro e w1 ⟨rfl, rfl⟩) | fail)
  obtain ⟨W1, hW1⟩ : ∃ W1, w.alloc (.cells #[.string (bytesOf c), .int .i64 (C1 c), .int .i64 (C2 c), .int .i64 (C3 c), .int .i64 (C4 c)] 194) = W1 := ⟨_, rfl⟩
  have hbW1 : Below w.heap.size w W1 := by rw [← hW1]; exact hb0 _
  have x0 : W1.cell? ⟨w.heap.size, 0, none⟩ = some (.string (bytesOf c)) := by rw [← hW1]; simp [go_sem]
  have y1 : W1.cell? ⟨w.heap.size, 1, none⟩ = some (.int .i64 (C1 c)) := by rw [← hW1]; simp [go_sem]
  have y2 : W1.cell? ⟨w.heap.size, 2, none⟩ = some (.int .i64 (C2 c)) := by rw [← hW1]; simp [go_sem]
  have y3 : W1.cell? ⟨w.heap.size, 3, none⟩ = some (.int .i64 (C3 c)) := by rw [← hW1]; simp [go_sem]
  have y4 : W1.cell? ⟨w.heap.size, 4, none⟩ = some (.int .i64 (C4 c)) := by rw [← hW1]; simp [go_sem]
  rw [hW1]
  clear hW1 cl cr
  obtain ⟨G0, hG0⟩ := exists_growth W1
  have hb0w : ∀ x, Below w.heap.size w (G0 x) := fun x => hbW1.trans ((hG0.below x).mono hbW1.size)
  have q6 := hG0.cell (cell_on hbW1 uc6)
  have HG0 : Hid (Growth W1 G0) := hG0
  refine wp_region_grow hG0 (by kernel_rfl) (by kernel_rfl) ?_
  clear hG0 d5
  repeat (first
    | go_big_quiet_skip
    | (go_big_quiet_want; go_big_quiet_op; first | go_big_quiet_on | (apply Exists.intro; refine ⟨fun _ => ?_, ?_⟩; (first | (go_at_call_of 189 b2; exact grow_of HG0.out (ck _ (hb0w _))) | (go_at_call_of 189 prr; exact grow_of HG0.out (co _ (hb0w _)))); go_big_quiet_on)))
  refine wpQuiet_nil ?_
  rintro w0 ⟨xx, rfl⟩
  go_wp2
  have hbx := hb0w xx
  have hbx1 : Below W1.heap.size W1 (G0 xx) := HG0.out.below xx
  obtain ⟨w0, hw0⟩ : ∃ w0, G0 xx = w0 := ⟨_, rfl⟩
  rw [hw0] at hbx hbx1 ⊢
  clear hw0 q6 HG0 hb0w ck co
  refine wp_region_rel 26 26 (by kernel_rfl) rfl ?_
  intro w1 hb1
  have hbw : Below w.heap.size w w1 := hbx.trans (hb1.mono hbx.size)
  have hbb : Below W1.heap.size W1 w1 := hbx1.trans (hb1.mono hbx1.size)
  obtain ⟨G, hG⟩ := exists_growth w1
  have g0 := hG.cell (cell_on hbb x0)
  have g1 := hG.cell (cell_on hbb y1)
  have g2 := hG.cell (cell_on hbb y2)
  have g3 := hG.cell (cell_on hbb y3)
  have g4 := hG.cell (cell_on hbb y4)
  have ug0 := hG.cell (cell_on hbw uc0)
  have ug1 := hG.cell (cell_on hbw uc1)
  have ug2 := hG.cell (cell_on hbw uc2)
  have ug3 := hG.cell (cell_on hbw uc3)
  have ug4 := hG.cell (cell_on hbw uc4)
  have ug5 := hG.cell (cell_on hbw uc5)
  have ug6 := hG.cell (cell_on hbw uc6)
  have vg0 := hG.cell (cell_on hbw vc0)
  have vg1 := hG.cell (cell_on hbw vc1)
  have vg2 := hG.cell (cell_on hbw vc2)
  have vg3 := hG.cell (cell_on hbw vc3)
  have vg4 := hG.cell (cell_on hbw vc4)
  have vg5 := hG.cell (cell_on hbw vc5)
  have vg6 := hG.cell (cell_on hbw vc6)
  clear uc0 uc1 uc2 uc3 uc4 uc5 uc6 vc0 vc1 vc2 vc3 vc4 vc5 vc6 x0 y1 y2 y3 y4 hbb hbx hbx1 hb1
  (refine anyG_step hG (i := 0) rfl (by kernel_rfl) (by kernel_rfl) (by kernel_rfl) (fun K hK => ?_); go_simp; refine hK _ ?_; clear hK K)
  (refine anyG_step hG (i := 1) rfl (by kernel_rfl) (by kernel_rfl) (by kernel_rfl) (fun K hK => ?_); go_simp; refine hK _ ?_; clear hK K)
  (refine anyG_step hG (i := 2) rfl (by kernel_rfl) (by kernel_rfl) (by kernel_rfl) (fun K hK => ?_); go_simp; refine hK _ ?_; clear hK K)
  (refine anyG_step hG (i := 3) rfl (by kernel_rfl) (by kernel_rfl) (by kernel_rfl) (fun K hK => ?_); go_simp; refine hK _ ?_; clear hK K)
  (refine anyG_step hG (i := 4) rfl (by kernel_rfl) (by kernel_rfl) (by kernel_rfl) (fun K hK => ?_); go_simp; refine hK _ ?_; clear hK K)
  (refine anyG_step hG (i := 5) rfl (by kernel_rfl) (by kernel_rfl) (by kernel_rfl) (fun K hK => ?_); go_simp; refine hK _ ?_; clear hK K)
  (refine anyG_step hG (i := 7) rfl (by kernel_rfl) (by kernel_rfl) (by kernel_rfl) (fun K hK => ?_); go_simp; refine hK _ ?_; clear hK K)
  (refine anyG_step hG (i := 8) rfl (by kernel_rfl) (by kernel_rfl) (by kernel_rfl) (fun K hK => ?_); go_simp; refine hK _ ?_; clear hK K)
  (refine anyG_step hG (i := 9) rfl (by kernel_rfl) (by kernel_rfl) (by kernel_rfl) (fun K hK => ?_); go_simp; refine hK _ ?_; clear hK K)
  (refine anyG_step hG (i := 10) rfl (by kernel_rfl) (by kernel_rfl) (by kernel_rfl) (fun K hK => ?_); go_simp; refine hK _ ?_; clear hK K)
  (refine anyG_step hG (i := 11) rfl (by kernel_rfl) (by kernel_rfl) (by kernel_rfl) (fun K hK => ?_); go_simp; refine hK _ ?_; clear hK K)
  (refine anyG_step hG (i := 12) rfl (by kernel_rfl) (by kernel_rfl) (by kernel_rfl) (fun K hK => ?_); go_simp; refine hK _ ?_; clear hK K)
  (refine anyG_step hG (i := 13) rfl (by kernel_rfl) (by kernel_rfl) (by kernel_rfl) (fun K hK => ?_); go_simp; refine hK _ ?_; clear hK K)
  (refine anyG_step hG (i := 14) rfl (by kernel_rfl) (by kernel_rfl) (by kernel_rfl) (fun K hK => ?_); go_simp; refine hK _ ?_; clear hK K)
  (refine anyG_step hG (i := 15) rfl (by kernel_rfl) (by kernel_rfl) (by kernel_rfl) (fun K hK => ?_); go_simp; refine hK _ ?_; clear hK K)
  (refine anyG_step hG (i := 16) rfl (by kernel_rfl) (by kernel_rfl) (by kernel_rfl) (fun K hK => ?_); go_simp; refine hK _ ?_; clear hK K)
  (refine anyG_step hG (i := 17) rfl (by kernel_rfl) (by kernel_rfl) (by kernel_rfl) (fun K hK => ?_); go_simp; refine hK _ ?_; clear hK K)
  (refine anyG_step hG (i := 18) rfl (by kernel_rfl) (by kernel_rfl) (by kernel_rfl) (fun K hK => ?_); go_simp; refine hK _ ?_; clear hK K)
  (refine anyG_step hG (i := 19) rfl (by kernel_rfl) (by kernel_rfl) (by kernel_rfl) (fun K hK => ?_); go_simp; refine hK _ ?_; clear hK K)
  (refine anyG_step hG (i := 20) rfl (by kernel_rfl) (by kernel_rfl) (by kernel_rfl) (fun K hK => ?_); go_simp; refine hK _ ?_; clear hK K)
  (refine anyG_step hG (i := 21) rfl (by kernel_rfl) (by kernel_rfl) (by kernel_rfl) (fun K hK => ?_); go_simp; refine hK _ ?_; clear hK K)
  (refine anyG_step hG (i := 22) rfl (by kernel_rfl) (by kernel_rfl) (by kernel_rfl) (fun K hK => ?_); go_simp; refine hK _ ?_; clear hK K)
  clear g0 g1 g2 g3 g4 ug0 ug1 ug2 ug3 ug4 ug5 ug6 vg0 vg1 vg2 vg3 vg4 vg5 vg6 hG
  refine anyG_one (i := 6) rfl (by kernel_rfl) ?_
  intro w2 hbw2 K hK
  have hww2 : Below w.heap.size w w2 := hbw.trans (hbw2.mono hbw.size)
  have ck := link_fits Hz1.out (isTree_below hww2 HL.out) (isTree_below hww2 HLV.out)
  unfold chunkV at ck
  go_simp
  refine ck.mono ?_
  rintro e w3 ⟨p1, rfl, ht1, hb3⟩
  have hww3 : Below w.heap.size w w3 := hww2.trans (hb3.mono hww2.size)
  refine ⟨_, rfl, hK _ _ hb3 ?_⟩
  clear hK K ck
  refine anyG_one (i := 23) rfl (by kernel_rfl) ?_
  intro w4 hbw4 K hK
  have hww4 : Below w.heap.size w w4 := hww3.trans (hbw4.mono hww3.size)
  have ck := link_fits Hz2.out (isTree_below hww4 HRV.out) (isTree_below hww4 HRU.out)
  unfold chunkV at ck
  go_simp
  refine ck.mono ?_
  rintro e w5 ⟨p2, rfl, ht2, hb5⟩
  have hww5 : Below w.heap.size w w5 := hww4.trans (hb5.mono hww4.size)
  refine ⟨_, rfl, hK _ _ hb5 ?_⟩
  clear hK K ck
  have ht1' := isTree_below (hbw4.trans (hb5.mono hbw4.size)) ht1
  refine anyG_one (i := 24) rfl (by kernel_rfl) ?_
  intro w6 hbw6 K hK
  have hww6 : Below w.heap.size w w6 := hww5.trans (hbw6.mono hww5.size)
  have ck := link_fits HZ.out (isTree_below hbw6 ht1') (isTree_below hbw6 ht2)
  unfold chunkV at ck
  go_simp
  refine ck.mono ?_
  rintro e w7 ⟨p3, rfl, ht3, hb7⟩
  have hww7 : Below w.heap.size w w7 := hww6.trans (hb7.mono hww6.size)
  refine ⟨_, rfl, hK _ _ hb7 ?_⟩
  clear hK K ck
  clear ht1 ht2 ht1'
  refine anyG_one (i := 25) rfl (by kernel_rfl) ?_
  intro w90 hb90 K hK
  go_simp
  refine hK _ _ (Below.refl _ w90) ?_
  clear hK K
  refine anyG_end (by kernel_rfl) ?_
  intro w91 hb91
  have hb92 := hb90.trans (hb91.mono hb90.size)
  have hw92 : Below w.heap.size w w91 := hww7.trans (hb92.mono hww7.size)
  have HT : Hid _ := isTree_below hb92 ht3
  clear hb90 hb91 hb92 ht3
  go_wp2
  go_ret
  exact ⟨_, rfl, HT.out, hw92⟩

end Go.Proofs.YtldhbjmillfjgabGreatDoor

namespace Go.Proofs.YtldhbjmillfjgabGreatDoor
open Go.RowKit
set_option linter.unusedVariables false
attribute [local go_sem] yieldsUpon okUpon

set_option maxRecDepth 100000 in
set_option maxHeartbeats 2000000 in
theorem turn_D (pl pr : Option Addr) (l rl rr : T) (c rc : List Nat) (w : World) (hl : isTree w pl l) (hr : isTree w pr (.node rl rc rr)) (hz : big (.node (.node l c rl) rc rr)) (hd : (T.node rl rc rr).height = l.height + 2) (hc : ¬ rr.height < rl.height) :
    Calls Tryz.prog 190 #[.pointer pl, chunkV c, .pointer pr] w fun e w' => ∃ p, e = .returned (.pointer p) ∧ isTree w' p (.node (.node l c rl) rc rr) ∧ Below w.heap.size w w' := by
  have hb0 : ∀ o, Below w.heap.size w (w.alloc o) := fun o => (Below.refl _ w).alloc (Nat.le_refl _) o
  have HL : Hid (isTree w pl l) := hl
  have HR : Hid (isTree w pr (.node rl rc rr)) := hr
  have cl := fun o => nheight_any pl l (w.alloc o) (isTree_below (hb0 o) hl)
  have cr := fun o => nheight_any pr (.node rl rc rr) (w.alloc o) (isTree_below (hb0 o) hr)
  have hzT := hz
  obtain ⟨z1, _, _, _⟩ := big_node hz
  obtain ⟨b1, prl, prr, rfl, ⟨uc0, uc1, uc2, uc3, uc4⟩, ⟨uc5, uc6⟩, _, _, hlu, hru⟩ := hr
  have hq : (l.height : Int) < 1000000000 ∧ ((T.node rl rc rr).height : Int) < 1000000000 ∧ (rl.height : Int) < 1000000000 ∧ (rr.height : Int) < 1000000000 := by
    have e1 := (big_node hz).2.2.2
    have e2 := height_size (T.node (.node l c rl) rc rr)
    have e3 := hz.2
    simp only [T.height, T.size] at *
    omega
  have hp : 0 ≤ (l.height : Int) ∧ 0 ≤ ((T.node rl rc rr).height : Int) := by omega
  have k0 : ((T.node rl rc rr).height : Int) = (l.height : Int) + 2 := by rw [hd]; push_cast; rfl
  have k1 : ((l.height : Int) - (T.node rl rc rr).height == 2) = false := by rw [beq_eq_false_iff_ne]; omega
  have k2 : ((l.height : Int) - (T.node rl rc rr).height == -2) = true := by rw [beq_iff_eq]; omega
  have k3 : ¬ ((rr.height : Int) < (rl.height : Int)) := by omega
  have ck := fun wx (hb : Below w.heap.size w wx) => (nheight_any prl rl wx (isTree_below hb hlu)).mono (R' := fun e w' => e = .returned (.int .i64 rl.height) ∧ Below wx.heap.size wx w') (by rintro e w' ⟨rfl, rfl⟩; exact ⟨rfl, Below.refl _ _⟩)
  have co := fun wx (hb : Below w.heap.size w wx) => (nheight_any prr rr wx (isTree_below hb hru)).mono (R' := fun e w' => e = .returned (.int .i64 rr.height) ∧ Below wx.heap.size wx w') (by rintro e w' ⟨rfl, rfl⟩; exact ⟨rfl, Below.refl _ _⟩)
  have HLU : Hid _ := hlu
  have HRU : Hid _ := hru
  clear k0 hd hc hzT
  generalize (l.height : Int) = x1 at *
  generalize ((T.node rl rc rr).height : Int) = x2 at *
  generalize (rl.height : Int) = x3 at *
  generalize (rr.height : Int) = x4 at *
  have HZ : Hid _ := hz
  have Hz1 : Hid _ := z1
  clear hz z1 hlu hru
  have d5 := fun o => cell_on (hb0 o) uc5
  unfold chunkV
  go_enter Tryz.func190, Tryz.ntmps190
  go_wp2_with (first | (go_at_call_of 189 pl; refine (cl _).mono ?_; rintro e w1 ⟨rfl, rfl⟩) | (go_at_call_of 189 b1; refine (cr _).mono ?_; rintro e w1 ⟨rfl, rfl⟩) | fail)
  obtain ⟨W1, hW1⟩ : ∃ W1, w.alloc (.cells #[.string (bytesOf c), .int .i64 (C1 c), .int .i64 (C2 c), .int .i64 (C3 c), .int .i64 (C4 c)] 194) = W1 := ⟨_, rfl⟩
  have hbW1 : Below w.heap.size w W1 := by rw [← hW1]; exact hb0 _
  have x0 : W1.cell? ⟨w.heap.size, 0, none⟩ = some (.string (bytesOf c)) := by rw [← hW1]; simp [go_sem]
  have y1 : W1.cell? ⟨w.heap.size, 1, none⟩ = some (.int .i64 (C1 c)) := by rw [← hW1]; simp [go_sem]
  have y2 : W1.cell? ⟨w.heap.size, 2, none⟩ = some (.int .i64 (C2 c)) := by rw [← hW1]; simp [go_sem]
  have y3 : W1.cell? ⟨w.heap.size, 3, none⟩ = some (.int .i64 (C3 c)) := by rw [← hW1]; simp [go_sem]
  have y4 : W1.cell? ⟨w.heap.size, 4, none⟩ = some (.int .i64 (C4 c)) := by rw [← hW1]; simp [go_sem]
  rw [hW1]
  clear hW1 cl cr
  obtain ⟨G0, hG0⟩ := exists_growth W1
  have hb0w : ∀ x, Below w.heap.size w (G0 x) := fun x => hbW1.trans ((hG0.below x).mono hbW1.size)
  have q6 := hG0.cell (cell_on hbW1 uc6)
  have HG0 : Hid (Growth W1 G0) := hG0
  refine wp_region_grow hG0 (by kernel_rfl) (by kernel_rfl) ?_
  clear hG0 d5
  repeat (first
    | go_big_quiet_skip
    | (go_big_quiet_want; go_big_quiet_op; first | go_big_quiet_on | (apply Exists.intro; refine ⟨fun _ => ?_, ?_⟩; (first | (go_at_call_of 189 prl; exact grow_of HG0.out (ck _ (hb0w _))) | (go_at_call_of 189 prr; exact grow_of HG0.out (co _ (hb0w _)))); go_big_quiet_on)))
  refine wpQuiet_nil ?_
  rintro w0 ⟨xx, rfl⟩
  go_wp2
  have hbx := hb0w xx
  have hbx1 : Below W1.heap.size W1 (G0 xx) := HG0.out.below xx
  obtain ⟨w0, hw0⟩ : ∃ w0, G0 xx = w0 := ⟨_, rfl⟩
  rw [hw0] at hbx hbx1 ⊢
  clear hw0 q6 HG0 hb0w ck co
  refine wp_region_rel 17 17 (by kernel_rfl) rfl ?_
  intro w1 hb1
  have hbw : Below w.heap.size w w1 := hbx.trans (hb1.mono hbx.size)
  have hbb : Below W1.heap.size W1 w1 := hbx1.trans (hb1.mono hbx1.size)
  obtain ⟨G, hG⟩ := exists_growth w1
  have g0 := hG.cell (cell_on hbb x0)
  have g1 := hG.cell (cell_on hbb y1)
  have g2 := hG.cell (cell_on hbb y2)
  have g3 := hG.cell (cell_on hbb y3)
  have g4 := hG.cell (cell_on hbb y4)
  have ug0 := hG.cell (cell_on hbw uc0)
  have ug1 := hG.cell (cell_on hbw uc1)
  have ug2 := hG.cell (cell_on hbw uc2)
  have ug3 := hG.cell (cell_on hbw uc3)
  have ug4 := hG.cell (cell_on hbw uc4)
  have ug5 := hG.cell (cell_on hbw uc5)
  have ug6 := hG.cell (cell_on hbw uc6)
  clear uc0 uc1 uc2 uc3 uc4 uc5 uc6  x0 y1 y2 y3 y4 hbb hbx hbx1 hb1
  (refine anyG_step hG (i := 0) rfl (by kernel_rfl) (by kernel_rfl) (by kernel_rfl) (fun K hK => ?_); go_simp; refine hK _ ?_; clear hK K)
  (refine anyG_step hG (i := 1) rfl (by kernel_rfl) (by kernel_rfl) (by kernel_rfl) (fun K hK => ?_); go_simp; refine hK _ ?_; clear hK K)
  (refine anyG_step hG (i := 2) rfl (by kernel_rfl) (by kernel_rfl) (by kernel_rfl) (fun K hK => ?_); go_simp; refine hK _ ?_; clear hK K)
  (refine anyG_step hG (i := 3) rfl (by kernel_rfl) (by kernel_rfl) (by kernel_rfl) (fun K hK => ?_); go_simp; refine hK _ ?_; clear hK K)
  (refine anyG_step hG (i := 4) rfl (by kernel_rfl) (by kernel_rfl) (by kernel_rfl) (fun K hK => ?_); go_simp; refine hK _ ?_; clear hK K)
  (refine anyG_step hG (i := 5) rfl (by kernel_rfl) (by kernel_rfl) (by kernel_rfl) (fun K hK => ?_); go_simp; refine hK _ ?_; clear hK K)
  (refine anyG_step hG (i := 7) rfl (by kernel_rfl) (by kernel_rfl) (by kernel_rfl) (fun K hK => ?_); go_simp; refine hK _ ?_; clear hK K)
  (refine anyG_step hG (i := 8) rfl (by kernel_rfl) (by kernel_rfl) (by kernel_rfl) (fun K hK => ?_); go_simp; refine hK _ ?_; clear hK K)
  (refine anyG_step hG (i := 9) rfl (by kernel_rfl) (by kernel_rfl) (by kernel_rfl) (fun K hK => ?_); go_simp; refine hK _ ?_; clear hK K)
  (refine anyG_step hG (i := 10) rfl (by kernel_rfl) (by kernel_rfl) (by kernel_rfl) (fun K hK => ?_); go_simp; refine hK _ ?_; clear hK K)
  (refine anyG_step hG (i := 11) rfl (by kernel_rfl) (by kernel_rfl) (by kernel_rfl) (fun K hK => ?_); go_simp; refine hK _ ?_; clear hK K)
  (refine anyG_step hG (i := 12) rfl (by kernel_rfl) (by kernel_rfl) (by kernel_rfl) (fun K hK => ?_); go_simp; refine hK _ ?_; clear hK K)
  (refine anyG_step hG (i := 13) rfl (by kernel_rfl) (by kernel_rfl) (by kernel_rfl) (fun K hK => ?_); go_simp; refine hK _ ?_; clear hK K)
  (refine anyG_step hG (i := 14) rfl (by kernel_rfl) (by kernel_rfl) (by kernel_rfl) (fun K hK => ?_); go_simp; refine hK _ ?_; clear hK K)
  clear g0 g1 g2 g3 g4 ug0 ug1 ug2 ug3 ug4 ug5 ug6  hG
  refine anyG_one (i := 6) rfl (by kernel_rfl) ?_
  intro w2 hbw2 K hK
  have hww2 : Below w.heap.size w w2 := hbw.trans (hbw2.mono hbw.size)
  have ck := link_fits Hz1.out (isTree_below hww2 HL.out) (isTree_below hww2 HLU.out)
  unfold chunkV at ck
  go_simp
  refine ck.mono ?_
  rintro e w3 ⟨p1, rfl, ht1, hb3⟩
  have hww3 : Below w.heap.size w w3 := hww2.trans (hb3.mono hww2.size)
  refine ⟨_, rfl, hK _ _ hb3 ?_⟩
  clear hK K ck
  refine anyG_one (i := 15) rfl (by kernel_rfl) ?_
  intro w4 hbw4 K hK
  have hww4 : Below w.heap.size w w4 := hww3.trans (hbw4.mono hww3.size)
  have ck := link_fits HZ.out (isTree_below hbw4 ht1) (isTree_below hww4 HRU.out)
  unfold chunkV at ck
  go_simp
  refine ck.mono ?_
  rintro e w5 ⟨p2, rfl, ht2, hb5⟩
  have hww5 : Below w.heap.size w w5 := hww4.trans (hb5.mono hww4.size)
  refine ⟨_, rfl, hK _ _ hb5 ?_⟩
  clear hK K ck
  clear ht1
  refine anyG_one (i := 16) rfl (by kernel_rfl) ?_
  intro w90 hb90 K hK
  go_simp
  refine hK _ _ (Below.refl _ w90) ?_
  clear hK K
  refine anyG_end (by kernel_rfl) ?_
  intro w91 hb91
  have hb92 := hb90.trans (hb91.mono hb90.size)
  have hw92 : Below w.heap.size w w91 := hww5.trans (hb92.mono hww5.size)
  have HT : Hid _ := isTree_below hb92 ht2
  clear hb90 hb91 hb92 ht2
  go_wp2
  go_ret
  exact ⟨_, rfl, HT.out, hw92⟩

end Go.Proofs.YtldhbjmillfjgabGreatDoor

namespace Go.Proofs.YtldhbjmillfjgabGreatDoor
open Go.RowKit
set_option linter.unusedVariables false

theorem turn_any (pl pr : Option Addr) (l r : T) (c : List Nat) (w : World) (hl : isTree w pl l) (hr : isTree w pr r) (hz : big (.node l c r)) :
    Calls Tryz.prog 190 #[.pointer pl, chunkV c, .pointer pr] w fun e w' => ∃ p, e = .returned (.pointer p) ∧ isTree w' p (turnT l c r) ∧ Below w.heap.size w w' := by
  have hb : big (turnT l c r) := big_same hz (by rw [turnT_chunks]; rfl)
  by_cases h1 : l.height = r.height + 2
  · unfold turnT at hb ⊢
    rw [if_pos h1] at hb ⊢
    match l, hl, hb, h1 with
    | .nil, _, _, h1 => simp [T.height] at h1
    | .node ll lc .nil, hl, hb, h1 => exact turn_B pl pr ll .nil r c lc w hl hr hb h1 (by simp [T.height])
    | .node ll lc (.node a b d), hl, hb, h1 =>
      by_cases hc : ll.height < (T.node a b d).height
      · simp only [hc, if_true] at hb ⊢
        exact turn_A pl pr ll a d r c lc b w hl hr hb h1 hc
      · simp only [hc, if_false] at hb ⊢
        exact turn_B pl pr ll (.node a b d) r c lc w hl hr hb h1 hc
  · by_cases h2 : r.height = l.height + 2
    · unfold turnT at hb ⊢
      rw [if_neg h1, if_pos h2] at hb ⊢
      match r, hr, hb, h2 with
      | .nil, _, _, h2 => simp [T.height] at h2
      | .node .nil rc rr, hr, hb, h2 => exact turn_D pl pr l .nil rr c rc w hl hr hb h2 (by simp [T.height])
      | .node (.node a b d) rc rr, hr, hb, h2 =>
        by_cases hc : rr.height < (T.node a b d).height
        · simp only [hc, if_true] at hb ⊢
          exact turn_C pl pr l a d rr c b rc w hl hr hb h2 hc
        · simp only [hc, if_false] at hb ⊢
          exact turn_D pl pr l (.node a b d) rr c rc w hl hr hb h2 hc
    · unfold turnT
      rw [if_neg h1, if_neg h2]
      exact turn_E pl pr l r c w hl hr hz h1 h2
end Go.Proofs.YtldhbjmillfjgabGreatDoor

namespace Go.Proofs.YtldhbjmillfjgabGreatDoor
open Go.RowKit
set_option linter.unusedVariables false
attribute [local go_sem] yieldsUpon okUpon

/-- What a joined tree is. -/
def joined (l r : T) (c : List Nat) (t : T) : Prop := t.chunks = l.chunks ++ [c] ++ r.chunks ∧ t.bal ∧ max l.height r.height ≤ t.height ∧ t.height ≤ 1 + max l.height r.height
theorem joined_same {l r : T} (c : List Nat) (hl : l.bal) (hr : r.bal) (h1 : l.height ≤ r.height + 1) (h2 : r.height ≤ l.height + 1) : joined l r c (.node l c r) :=
  ⟨rfl, ⟨hl, hr, h1, h2⟩, by show _ ≤ 1 + max l.height r.height; omega, Nat.le_refl _⟩
theorem joined_left {ll lr r t : T} {lc c : List Nat} (hl : (T.node ll lc lr).bal) (hr : r.bal) (h : r.height + 1 < (T.node ll lc lr).height) (hj : joined lr r c t) : joined (.node ll lc lr) r c (turnT ll lc t) := by
  obtain ⟨j1, j2, j3, j4⟩ := hj
  obtain ⟨b1, b2, b3, b4⟩ := hl
  have eh : (T.node ll lc lr).height = 1 + max ll.height lr.height := rfl
  obtain ⟨t1, t2, t3, t4⟩ := turnT_bal lc b1 j2 (by omega) (by omega)
  refine ⟨by rw [turnT_chunks, j1]; simp [T.chunks], t1, ?_, ?_⟩
  · by_cases h1 : ll.height ≤ t.height + 1
    · by_cases h2 : t.height ≤ ll.height + 1
      · have := t2 h1 h2; omega
      · omega
    · omega
  · by_cases h1 : ll.height ≤ t.height + 1
    · by_cases h2 : t.height ≤ ll.height + 1
      · have := t2 h1 h2; omega
      · omega
    · omega
theorem joined_right {l rl rr t : T} {rc c : List Nat} (hl : l.bal) (hr : (T.node rl rc rr).bal) (h : l.height + 1 < (T.node rl rc rr).height) (hj : joined l rl c t) : joined l (.node rl rc rr) c (turnT t rc rr) := by
  obtain ⟨j1, j2, j3, j4⟩ := hj
  obtain ⟨b1, b2, b3, b4⟩ := hr
  have eh : (T.node rl rc rr).height = 1 + max rl.height rr.height := rfl
  obtain ⟨t1, t2, t3, t4⟩ := turnT_bal rc j2 b2 (by omega) (by omega)
  refine ⟨by rw [turnT_chunks, j1]; simp [T.chunks], t1, ?_, ?_⟩
  · by_cases h1 : t.height ≤ rr.height + 1
    · by_cases h2 : rr.height ≤ t.height + 1
      · have := t2 h1 h2; omega
      · omega
    · omega
  · by_cases h1 : t.height ≤ rr.height + 1
    · by_cases h2 : rr.height ≤ t.height + 1
      · have := t2 h1 h2; omega
      · omega
    · omega
theorem big_join {l r t : T} {c : List Nat} (h : big (.node l c r)) (hj : joined l r c t) : big t := big_same h hj.1

set_option maxRecDepth 100000 in
set_option maxHeartbeats 2000000 in
theorem join_E (pl pr : Option Addr) (l r : T) (c : List Nat) (w : World) (hl : isTree w pl l) (hr : isTree w pr r) (hz : big (.node l c r)) (h1 : l.height ≤ r.height + 1) (h2 : r.height ≤ l.height + 1) :
    Calls Tryz.prog 159 #[.pointer pl, chunkV c, .pointer pr] w fun e w' => ∃ p, e = .returned (.pointer p) ∧ isTree w' p (.node l c r) ∧ Below w.heap.size w w' := by
  have hb0 : ∀ o, Below w.heap.size w (w.alloc o) := fun o => (Below.refl _ w).alloc (Nat.le_refl _) o
  have cl := fun o => nheight_any pl l (w.alloc o) (isTree_below (hb0 o) hl)
  have cr := fun o => nheight_any pr r (w.alloc o) (isTree_below (hb0 o) hr)
  have ck := fun o => link_fits hz (isTree_below (hb0 o) hl) (isTree_below (hb0 o) hr)
  obtain ⟨_, _, _, _, _, s3, s4⟩ := big_node hz
  have k1 : ¬ (1 < (l.height : Int) - r.height) := by omega
  have k2 : ¬ ((l.height : Int) - r.height < -1) := by omega
  have k3 : 0 ≤ (l.height : Int) ∧ (l.height : Int) < 1000000000 := by omega
  have k4 : 0 ≤ (r.height : Int) ∧ (r.height : Int) < 1000000000 := by omega
  clear h1 h2 s3 s4 hz
  have HLR : Hid (isTree w pl l ∧ isTree w pr r) := ⟨hl, hr⟩
  clear hl hr
  generalize (l.height : Int) = x1 at *
  generalize (r.height : Int) = x2 at *
  unfold chunkV at *
  go_enter Tryz.func159, Tryz.ntmps159
  go_wp2_with (first | (go_at_call_of 189 pl; refine (cl _).mono ?_; rintro e w1 ⟨rfl, rfl⟩) | (go_at_call_of 189 pr; refine (cr _).mono ?_; rintro e w1 ⟨rfl, rfl⟩) | (go_at_call 161; refine (ck _).mono ?_; rintro e w2 ⟨p, rfl, ht, hb⟩; have HT : Hid _ := ht; clear ht) | fail)
  go_ret
  exact ⟨p, rfl, HT.out, (hb0 _).trans (hb.mono (hb0 _).size)⟩

set_option maxRecDepth 100000 in
set_option maxHeartbeats 2000000 in
theorem join_L (pl pr : Option Addr) (ll lr r : T) (c lc : List Nat) (w : World) (hl : isTree w pl (.node ll lc lr)) (hr : isTree w pr r) (hz : big (.node (.node ll lc lr) c r)) (hd : r.height + 1 < (T.node ll lc lr).height) (hbl : (T.node ll lc lr).bal) (hbr : r.bal)
    (ih : ∀ (p1 p2 : Option Addr) (w : World), isTree w p1 lr → isTree w p2 r → Calls Tryz.prog 159 #[.pointer p1, chunkV c, .pointer p2] w fun e w' => ∃ p t, e = .returned (.pointer p) ∧ isTree w' p t ∧ joined lr r c t ∧ Below w.heap.size w w') :
    Calls Tryz.prog 159 #[.pointer pl, chunkV c, .pointer pr] w fun e w' => ∃ p t, e = .returned (.pointer p) ∧ isTree w' p t ∧ joined (.node ll lc lr) r c t ∧ Below w.heap.size w w' := by
  have hb0 : ∀ o, Below w.heap.size w (w.alloc o) := fun o => (Below.refl _ w).alloc (Nat.le_refl _) o
  have HL : Hid (isTree w pl (.node ll lc lr)) := hl
  have HR : Hid (isTree w pr r) := hr
  have cl := fun o => nheight_any pl (.node ll lc lr) (w.alloc o) (isTree_below (hb0 o) hl)
  have cr := fun o => nheight_any pr r (w.alloc o) (isTree_below (hb0 o) hr)
  have HJ : Hid (∀ t, joined lr r c t → joined (.node ll lc lr) r c (turnT ll lc t) ∧ big (.node ll lc t)) := fun t ht => by
    have hj := joined_left hbl hbr hd ht
    exact ⟨hj, big_same (big_join hz hj) (by rw [turnT_chunks]; rfl)⟩
  have IH : Hid _ := ih
  obtain ⟨_, _, _, _, _, s3, s4⟩ := big_node hz
  have k1 : (1 < ((T.node ll lc lr).height : Int) - r.height) := by omega
  have k2 : ¬ (((T.node ll lc lr).height : Int) - r.height < -1) := by omega
  have k3 : 0 ≤ ((T.node ll lc lr).height : Int) ∧ ((T.node ll lc lr).height : Int) < 1000000000 := by omega
  have k4 : 0 ≤ (r.height : Int) ∧ (r.height : Int) < 1000000000 := by omega
  clear hd hbl hbr hz s3 s4 ih
  obtain ⟨b1, qa, qb, rfl, ⟨uc0, uc1, uc2, uc3, uc4⟩, ⟨uc5, uc6⟩, _, _, hlu, hru⟩ := hl
  have HLU : Hid _ := hlu
  have HRU : Hid _ := hru
  clear hlu hru
  generalize ((T.node ll lc lr).height : Int) = x1 at *
  generalize (r.height : Int) = x2 at *
  unfold chunkV
  go_enter Tryz.func159, Tryz.ntmps159
  go_wp2_with (first | (go_at_call_of 189 b1; refine (cl _).mono ?_; rintro e w1 ⟨rfl, rfl⟩) | (go_at_call_of 189 pr; refine (cr _).mono ?_; rintro e w1 ⟨rfl, rfl⟩) | fail)
  obtain ⟨W1, hW1⟩ : ∃ W1, w.alloc (.cells #[.string (bytesOf c), .int .i64 (C1 c), .int .i64 (C2 c), .int .i64 (C3 c), .int .i64 (C4 c)] 194) = W1 := ⟨_, rfl⟩
  have hbW1 : Below w.heap.size w W1 := by rw [← hW1]; exact hb0 _
  have x0 : W1.cell? ⟨w.heap.size, 0, none⟩ = some (.string (bytesOf c)) := by rw [← hW1]; simp [go_sem]
  have y1 : W1.cell? ⟨w.heap.size, 1, none⟩ = some (.int .i64 (C1 c)) := by rw [← hW1]; simp [go_sem]
  have y2 : W1.cell? ⟨w.heap.size, 2, none⟩ = some (.int .i64 (C2 c)) := by rw [← hW1]; simp [go_sem]
  have y3 : W1.cell? ⟨w.heap.size, 3, none⟩ = some (.int .i64 (C3 c)) := by rw [← hW1]; simp [go_sem]
  have y4 : W1.cell? ⟨w.heap.size, 4, none⟩ = some (.int .i64 (C4 c)) := by rw [← hW1]; simp [go_sem]
  rw [hW1]
  clear hW1 cl cr
  refine wp_region_rel 17 17 (by kernel_rfl) rfl ?_
  intro w1 hbb
  have hbw : Below w.heap.size w w1 := hbW1.trans (hbb.mono hbW1.size)
  obtain ⟨G, hG⟩ := exists_growth w1
  have g0 := hG.cell (cell_on hbb x0)
  have g1 := hG.cell (cell_on hbb y1)
  have g2 := hG.cell (cell_on hbb y2)
  have g3 := hG.cell (cell_on hbb y3)
  have g4 := hG.cell (cell_on hbb y4)
  have ug0 := hG.cell (cell_on hbw uc0)
  have ug1 := hG.cell (cell_on hbw uc1)
  have ug2 := hG.cell (cell_on hbw uc2)
  have ug3 := hG.cell (cell_on hbw uc3)
  have ug4 := hG.cell (cell_on hbw uc4)
  have ug5 := hG.cell (cell_on hbw uc5)
  have ug6 := hG.cell (cell_on hbw uc6)
  clear uc0 uc1 uc2 uc3 uc4 uc5 uc6 x0 y1 y2 y3 y4 hbb hbW1
  (refine anyG_step hG (i := 0) rfl (by kernel_rfl) (by kernel_rfl) (by kernel_rfl) (fun K hK => ?_); go_simp; refine hK _ ?_; clear hK K)
  (refine anyG_step hG (i := 1) rfl (by kernel_rfl) (by kernel_rfl) (by kernel_rfl) (fun K hK => ?_); go_simp; refine hK _ ?_; clear hK K)
  (refine anyG_step hG (i := 2) rfl (by kernel_rfl) (by kernel_rfl) (by kernel_rfl) (fun K hK => ?_); go_simp; refine hK _ ?_; clear hK K)
  (refine anyG_step hG (i := 3) rfl (by kernel_rfl) (by kernel_rfl) (by kernel_rfl) (fun K hK => ?_); go_simp; refine hK _ ?_; clear hK K)
  (refine anyG_step hG (i := 4) rfl (by kernel_rfl) (by kernel_rfl) (by kernel_rfl) (fun K hK => ?_); go_simp; refine hK _ ?_; clear hK K)
  (refine anyG_step hG (i := 5) rfl (by kernel_rfl) (by kernel_rfl) (by kernel_rfl) (fun K hK => ?_); go_simp; refine hK _ ?_; clear hK K)
  (refine anyG_step hG (i := 6) rfl (by kernel_rfl) (by kernel_rfl) (by kernel_rfl) (fun K hK => ?_); go_simp; refine hK _ ?_; clear hK K)
  (refine anyG_step hG (i := 7) rfl (by kernel_rfl) (by kernel_rfl) (by kernel_rfl) (fun K hK => ?_); go_simp; refine hK _ ?_; clear hK K)
  (refine anyG_step hG (i := 8) rfl (by kernel_rfl) (by kernel_rfl) (by kernel_rfl) (fun K hK => ?_); go_simp; refine hK _ ?_; clear hK K)
  (refine anyG_step hG (i := 9) rfl (by kernel_rfl) (by kernel_rfl) (by kernel_rfl) (fun K hK => ?_); go_simp; refine hK _ ?_; clear hK K)
  (refine anyG_step hG (i := 10) rfl (by kernel_rfl) (by kernel_rfl) (by kernel_rfl) (fun K hK => ?_); go_simp; refine hK _ ?_; clear hK K)
  (refine anyG_step hG (i := 11) rfl (by kernel_rfl) (by kernel_rfl) (by kernel_rfl) (fun K hK => ?_); go_simp; refine hK _ ?_; clear hK K)
  (refine anyG_step hG (i := 12) rfl (by kernel_rfl) (by kernel_rfl) (by kernel_rfl) (fun K hK => ?_); go_simp; refine hK _ ?_; clear hK K)
  (refine anyG_step hG (i := 13) rfl (by kernel_rfl) (by kernel_rfl) (by kernel_rfl) (fun K hK => ?_); go_simp; refine hK _ ?_; clear hK K)
  clear g0 g1 g2 g3 g4 ug0 ug1 ug2 ug3 ug4 ug5 ug6 hG
  refine anyG_one (i := 14) rfl (by kernel_rfl) ?_
  intro w2 hbw2 K hK
  have hww2 : Below w.heap.size w w2 := hbw.trans (hbw2.mono hbw.size)
  have ck := IH.out _ _ w2 (isTree_below hww2 HRU.out) (isTree_below hww2 HR.out)
  unfold chunkV at ck
  go_simp
  refine ck.mono ?_
  rintro e w3 ⟨p1, t1, rfl, ht1, hj1, hb3⟩
  have hww3 : Below w.heap.size w w3 := hww2.trans (hb3.mono hww2.size)
  refine ⟨_, rfl, hK _ _ hb3 ?_⟩
  clear hK K ck
  refine anyG_one (i := 15) rfl (by kernel_rfl) ?_
  intro w4 hbw4 K hK
  have hww4 : Below w.heap.size w w4 := hww3.trans (hbw4.mono hww3.size)
  have ck := turn_any _ _ _ _ _ w4 (isTree_below hww4 HLU.out) (isTree_below hbw4 ht1) (HJ.out _ hj1).2
  unfold chunkV at ck
  go_simp
  refine ck.mono ?_
  rintro e w5 ⟨p2, rfl, ht2, hb5⟩
  have hww5 : Below w.heap.size w w5 := hww4.trans (hb5.mono hww4.size)
  refine ⟨_, rfl, hK _ _ hb5 ?_⟩
  clear hK K ck
  clear ht1
  refine anyG_one (i := 16) rfl (by kernel_rfl) ?_
  intro w90 hb90 K hK
  go_simp
  refine hK _ _ (Below.refl _ w90) ?_
  clear hK K
  refine anyG_end (by kernel_rfl) ?_
  intro w91 hb91
  have hb92 := hb90.trans (hb91.mono hb90.size)
  have hw92 : Below w.heap.size w w91 := hww5.trans (hb92.mono hww5.size)
  have HT : Hid _ := isTree_below hb92 ht2
  clear hb90 hb91 hb92 ht2
  go_wp2
  go_ret
  exact ⟨_, _, rfl, HT.out, (HJ.out _ hj1).1, hw92⟩

set_option maxRecDepth 100000 in
set_option maxHeartbeats 2000000 in
theorem join_R (pl pr : Option Addr) (l rl rr : T) (c rc : List Nat) (w : World) (hl : isTree w pl l) (hr : isTree w pr (.node rl rc rr)) (hz : big (.node l c (.node rl rc rr))) (hd : l.height + 1 < (T.node rl rc rr).height) (hbl : l.bal) (hbr : (T.node rl rc rr).bal)
    (ih : ∀ (p1 p2 : Option Addr) (w : World), isTree w p1 l → isTree w p2 rl → Calls Tryz.prog 159 #[.pointer p1, chunkV c, .pointer p2] w fun e w' => ∃ p t, e = .returned (.pointer p) ∧ isTree w' p t ∧ joined l rl c t ∧ Below w.heap.size w w') :
    Calls Tryz.prog 159 #[.pointer pl, chunkV c, .pointer pr] w fun e w' => ∃ p t, e = .returned (.pointer p) ∧ isTree w' p t ∧ joined l (.node rl rc rr) c t ∧ Below w.heap.size w w' := by
  have hb0 : ∀ o, Below w.heap.size w (w.alloc o) := fun o => (Below.refl _ w).alloc (Nat.le_refl _) o
  have HL : Hid (isTree w pl l) := hl
  have HR : Hid (isTree w pr (.node rl rc rr)) := hr
  have cl := fun o => nheight_any pl l (w.alloc o) (isTree_below (hb0 o) hl)
  have cr := fun o => nheight_any pr (.node rl rc rr) (w.alloc o) (isTree_below (hb0 o) hr)
  have HJ : Hid (∀ t, joined l rl c t → joined l (.node rl rc rr) c (turnT t rc rr) ∧ big (.node t rc rr)) := fun t ht => by
    have hj := joined_right hbl hbr hd ht
    exact ⟨hj, big_same (big_join hz hj) (by rw [turnT_chunks]; rfl)⟩
  have IH : Hid _ := ih
  obtain ⟨_, _, _, _, _, s3, s4⟩ := big_node hz
  have k1 : ¬ (1 < (l.height : Int) - (T.node rl rc rr).height) := by omega
  have k2 : ((l.height : Int) - (T.node rl rc rr).height < -1) := by omega
  have k3 : 0 ≤ (l.height : Int) ∧ (l.height : Int) < 1000000000 := by omega
  have k4 : 0 ≤ ((T.node rl rc rr).height : Int) ∧ ((T.node rl rc rr).height : Int) < 1000000000 := by omega
  clear hd hbl hbr hz s3 s4 ih
  obtain ⟨b1, qa, qb, rfl, ⟨uc0, uc1, uc2, uc3, uc4⟩, ⟨uc5, uc6⟩, _, _, hlu, hru⟩ := hr
  have HLU : Hid _ := hlu
  have HRU : Hid _ := hru
  clear hlu hru
  generalize (l.height : Int) = x1 at *
  generalize ((T.node rl rc rr).height : Int) = x2 at *
  unfold chunkV
  go_enter Tryz.func159, Tryz.ntmps159
  go_wp2_with (first | (go_at_call_of 189 pl; refine (cl _).mono ?_; rintro e w1 ⟨rfl, rfl⟩) | (go_at_call_of 189 b1; refine (cr _).mono ?_; rintro e w1 ⟨rfl, rfl⟩) | fail)
  obtain ⟨W1, hW1⟩ : ∃ W1, w.alloc (.cells #[.string (bytesOf c), .int .i64 (C1 c), .int .i64 (C2 c), .int .i64 (C3 c), .int .i64 (C4 c)] 194) = W1 := ⟨_, rfl⟩
  have hbW1 : Below w.heap.size w W1 := by rw [← hW1]; exact hb0 _
  have x0 : W1.cell? ⟨w.heap.size, 0, none⟩ = some (.string (bytesOf c)) := by rw [← hW1]; simp [go_sem]
  have y1 : W1.cell? ⟨w.heap.size, 1, none⟩ = some (.int .i64 (C1 c)) := by rw [← hW1]; simp [go_sem]
  have y2 : W1.cell? ⟨w.heap.size, 2, none⟩ = some (.int .i64 (C2 c)) := by rw [← hW1]; simp [go_sem]
  have y3 : W1.cell? ⟨w.heap.size, 3, none⟩ = some (.int .i64 (C3 c)) := by rw [← hW1]; simp [go_sem]
  have y4 : W1.cell? ⟨w.heap.size, 4, none⟩ = some (.int .i64 (C4 c)) := by rw [← hW1]; simp [go_sem]
  rw [hW1]
  clear hW1 cl cr
  refine wp_region_rel 17 17 (by kernel_rfl) rfl ?_
  intro w1 hbb
  have hbw : Below w.heap.size w w1 := hbW1.trans (hbb.mono hbW1.size)
  obtain ⟨G, hG⟩ := exists_growth w1
  have g0 := hG.cell (cell_on hbb x0)
  have g1 := hG.cell (cell_on hbb y1)
  have g2 := hG.cell (cell_on hbb y2)
  have g3 := hG.cell (cell_on hbb y3)
  have g4 := hG.cell (cell_on hbb y4)
  have ug0 := hG.cell (cell_on hbw uc0)
  have ug1 := hG.cell (cell_on hbw uc1)
  have ug2 := hG.cell (cell_on hbw uc2)
  have ug3 := hG.cell (cell_on hbw uc3)
  have ug4 := hG.cell (cell_on hbw uc4)
  have ug5 := hG.cell (cell_on hbw uc5)
  have ug6 := hG.cell (cell_on hbw uc6)
  clear uc0 uc1 uc2 uc3 uc4 uc5 uc6 x0 y1 y2 y3 y4 hbb hbW1
  (refine anyG_step hG (i := 0) rfl (by kernel_rfl) (by kernel_rfl) (by kernel_rfl) (fun K hK => ?_); go_simp; refine hK _ ?_; clear hK K)
  (refine anyG_step hG (i := 1) rfl (by kernel_rfl) (by kernel_rfl) (by kernel_rfl) (fun K hK => ?_); go_simp; refine hK _ ?_; clear hK K)
  (refine anyG_step hG (i := 2) rfl (by kernel_rfl) (by kernel_rfl) (by kernel_rfl) (fun K hK => ?_); go_simp; refine hK _ ?_; clear hK K)
  (refine anyG_step hG (i := 3) rfl (by kernel_rfl) (by kernel_rfl) (by kernel_rfl) (fun K hK => ?_); go_simp; refine hK _ ?_; clear hK K)
  (refine anyG_step hG (i := 4) rfl (by kernel_rfl) (by kernel_rfl) (by kernel_rfl) (fun K hK => ?_); go_simp; refine hK _ ?_; clear hK K)
  (refine anyG_step hG (i := 5) rfl (by kernel_rfl) (by kernel_rfl) (by kernel_rfl) (fun K hK => ?_); go_simp; refine hK _ ?_; clear hK K)
  (refine anyG_step hG (i := 7) rfl (by kernel_rfl) (by kernel_rfl) (by kernel_rfl) (fun K hK => ?_); go_simp; refine hK _ ?_; clear hK K)
  (refine anyG_step hG (i := 8) rfl (by kernel_rfl) (by kernel_rfl) (by kernel_rfl) (fun K hK => ?_); go_simp; refine hK _ ?_; clear hK K)
  (refine anyG_step hG (i := 9) rfl (by kernel_rfl) (by kernel_rfl) (by kernel_rfl) (fun K hK => ?_); go_simp; refine hK _ ?_; clear hK K)
  (refine anyG_step hG (i := 10) rfl (by kernel_rfl) (by kernel_rfl) (by kernel_rfl) (fun K hK => ?_); go_simp; refine hK _ ?_; clear hK K)
  (refine anyG_step hG (i := 11) rfl (by kernel_rfl) (by kernel_rfl) (by kernel_rfl) (fun K hK => ?_); go_simp; refine hK _ ?_; clear hK K)
  (refine anyG_step hG (i := 12) rfl (by kernel_rfl) (by kernel_rfl) (by kernel_rfl) (fun K hK => ?_); go_simp; refine hK _ ?_; clear hK K)
  (refine anyG_step hG (i := 13) rfl (by kernel_rfl) (by kernel_rfl) (by kernel_rfl) (fun K hK => ?_); go_simp; refine hK _ ?_; clear hK K)
  (refine anyG_step hG (i := 14) rfl (by kernel_rfl) (by kernel_rfl) (by kernel_rfl) (fun K hK => ?_); go_simp; refine hK _ ?_; clear hK K)
  clear g0 g1 g2 g3 g4 ug0 ug1 ug2 ug3 ug4 ug5 ug6 hG
  refine anyG_one (i := 6) rfl (by kernel_rfl) ?_
  intro w2 hbw2 K hK
  have hww2 : Below w.heap.size w w2 := hbw.trans (hbw2.mono hbw.size)
  have ck := IH.out _ _ w2 (isTree_below hww2 HL.out) (isTree_below hww2 HLU.out)
  unfold chunkV at ck
  go_simp
  refine ck.mono ?_
  rintro e w3 ⟨p1, t1, rfl, ht1, hj1, hb3⟩
  have hww3 : Below w.heap.size w w3 := hww2.trans (hb3.mono hww2.size)
  refine ⟨_, rfl, hK _ _ hb3 ?_⟩
  clear hK K ck
  refine anyG_one (i := 15) rfl (by kernel_rfl) ?_
  intro w4 hbw4 K hK
  have hww4 : Below w.heap.size w w4 := hww3.trans (hbw4.mono hww3.size)
  have ck := turn_any _ _ _ _ _ w4 (isTree_below hbw4 ht1) (isTree_below hww4 HRU.out) (HJ.out _ hj1).2
  unfold chunkV at ck
  go_simp
  refine ck.mono ?_
  rintro e w5 ⟨p2, rfl, ht2, hb5⟩
  have hww5 : Below w.heap.size w w5 := hww4.trans (hb5.mono hww4.size)
  refine ⟨_, rfl, hK _ _ hb5 ?_⟩
  clear hK K ck
  clear ht1
  refine anyG_one (i := 16) rfl (by kernel_rfl) ?_
  intro w90 hb90 K hK
  go_simp
  refine hK _ _ (Below.refl _ w90) ?_
  clear hK K
  refine anyG_end (by kernel_rfl) ?_
  intro w91 hb91
  have hb92 := hb90.trans (hb91.mono hb90.size)
  have hw92 : Below w.heap.size w w91 := hww5.trans (hb92.mono hww5.size)
  have HT : Hid _ := isTree_below hb92 ht2
  clear hb90 hb91 hb92 ht2
  go_wp2
  go_ret
  exact ⟨_, _, rfl, HT.out, (HJ.out _ hj1).1, hw92⟩

theorem join_any : ∀ (n : Nat) (pl pr : Option Addr) (l r : T) (c : List Nat) (w : World), l.size + r.size ≤ n → isTree w pl l → isTree w pr r → big (.node l c r) → l.bal → r.bal →
    Calls Tryz.prog 159 #[.pointer pl, chunkV c, .pointer pr] w fun e w' => ∃ p t, e = .returned (.pointer p) ∧ isTree w' p t ∧ joined l r c t ∧ Below w.heap.size w w' := by
  intro n
  induction n with
  | zero =>
    intro pl pr l r c w hn hl hr hz hbl hbr
    have e1 := height_size l
    have e2 := height_size r
    refine (join_E pl pr l r c w hl hr hz (by omega) (by omega)).mono ?_
    rintro e w' ⟨p, rfl, ht, hb⟩
    exact ⟨p, _, rfl, ht, joined_same c hbl hbr (by omega) (by omega), hb⟩
  | succ n ih =>
    intro pl pr l r c w hn hl hr hz hbl hbr
    by_cases h1 : r.height + 1 < l.height
    · match l, hl, hz, hbl, h1, hn with
      | .nil, _, _, _, h1, _ => simp [T.height] at h1
      | .node ll lc lr, hl, hz, hbl, h1, hn =>
        simp only [T.size] at hn
        exact join_L pl pr ll lr r c lc w hl hr hz h1 hbl hbr fun p1 p2 w' t1 t2 => ih p1 p2 lr r c w' (by omega) t1 t2 (by
          obtain ⟨z1, z2⟩ := hz
          simp only [T.runes, C1_append, T.size] at z1 z2
          have q1 := C1_pos ll.runes
          have q2 := C1_pos lc
          exact ⟨by simp only [T.runes, C1_append]; omega, by simp only [T.size]; omega⟩) hbl.2.1 hbr
    by_cases h2 : l.height + 1 < r.height
    · match r, hr, hz, hbr, h2, hn with
      | .nil, _, _, _, h2, _ => simp [T.height] at h2
      | .node rl rc rr, hr, hz, hbr, h2, hn =>
        simp only [T.size] at hn
        exact join_R pl pr l rl rr c rc w hl hr hz h2 hbl hbr fun p1 p2 w' t1 t2 => ih p1 p2 l rl c w' (by omega) t1 t2 (by
          obtain ⟨z1, z2⟩ := hz
          simp only [T.runes, C1_append, T.size] at z1 z2
          have q1 := C1_pos rr.runes
          have q2 := C1_pos rc
          exact ⟨by simp only [T.runes, C1_append]; omega, by simp only [T.size]; omega⟩) hbl hbr.1
    refine (join_E pl pr l r c w hl hr hz (by omega) (by omega)).mono ?_
    rintro e w' ⟨p, rfl, ht, hb⟩
    exact ⟨p, _, rfl, ht, joined_same c hbl hbr (by omega) (by omega), hb⟩
end Go.Proofs.YtldhbjmillfjgabGreatDoor
