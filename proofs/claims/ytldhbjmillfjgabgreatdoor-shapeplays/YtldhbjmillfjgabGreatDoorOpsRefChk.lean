/-
  The document's own Check: what it says of any operation.
-/
import Derived.Test.YtldhbjmillfjgabGreatDoorOpsChk
import Derived.Test.YtldhbjmillfjgabGreatDoorRefRunes
namespace Go.Proofs.YtldhbjmillfjgabGreatDoor
open Go.RowKit
set_option linter.unusedVariables false

theorem refRunes_told (s : ByteArray) (hs : s.size < 100000000) (w : World) : Calls Tryz.prog 56 #[.string s] w fun e w' => ∃ p n c d, e = .returned (.tuple #[.slice p n c, .agg #[.int .i64 (if (scan s.data.toList).2 then 0 else 3), .int .i64 d]]) ∧ Below w.heap.size w w' := by
  refine (refRunes_any s hs w).mono ?_
  rintro e w' ⟨hb, ⟨h, v, rfl, hv⟩ | ⟨h, rfl⟩⟩
  · rw [if_pos h]
    obtain ⟨p, c, rfl, _⟩ := hv
    exact ⟨_, _, _, _, rfl, hb⟩
  · rw [if_neg (by rw [h]; simp)]
    exact ⟨_, _, _, _, rfl, hb⟩

theorem one_shapes {K D : Int} {U : List UInt8} (h : oneB ⟨K, D, U⟩ = true) : (D = 0 ∧ U = [] ∧ 0 < K) ∨ (K = 0 ∧ U = [] ∧ 0 < D) ∨ (K = 0 ∧ D = 0 ∧ U ≠ []) := by
  unfold oneB at h
  split at h
  · rename_i h1
    exact .inl ⟨h1.1, h1.2, of_decide_eq_true h⟩
  · rename_i h0
    split at h
    · rename_i h1
      exact .inr (.inl ⟨h1.1, h1.2, of_decide_eq_true h⟩)
    · have := of_decide_eq_true h
      exact .inr (.inr ⟨this.1, this.2, fun e => h0 ⟨this.2, e⟩⟩)
theorem none_shapes {K D : Int} {U : List UInt8} (h : oneB ⟨K, D, U⟩ = false) : (K ≠ 0 ∧ D ≠ 0 ∧ U ≠ []) ∨ (K ≠ 0 ∧ D ≠ 0 ∧ U = []) ∨ (K ≠ 0 ∧ D = 0 ∧ U ≠ []) ∨ (K = 0 ∧ D ≠ 0 ∧ U ≠ []) ∨ (K = 0 ∧ D = 0 ∧ U = []) ∨ (K < 0 ∧ D = 0 ∧ U = []) ∨ (K = 0 ∧ D < 0 ∧ U = []) := by
  unfold oneB at h
  by_cases h1 : K = 0 <;> by_cases h2 : D = 0 <;> by_cases h3 : U = [] <;> simp [h1, h2, h3] at h ⊢ <;> omega

set_option maxRecDepth 100000 in
set_option maxHeartbeats 4000000 in
theorem refCheck_any (v : Value) (ps : List Pt) (N : Int) (w : World) (hr : opAt w v ps) (hwf : ∀ p ∈ ps, wfP p) (hsm : ∀ p ∈ ps, p.put.length < 100000000) (hN : -9223372036854775808 ≤ N ∧ N < 9223372036854775808) (hl : ps.length < 10000000) :
    Calls Tryz.prog 62 #[v, .int .i64 N] w fun e w' => e = .returned (.int .i64 (chkE ps N)) ∧ Below w.heap.size w w' := by
  obtain ⟨p, c, rfl, r1, r2, r3⟩ := hr
  obtain ⟨n, hn⟩ : ∃ n, n = ps.length := ⟨_, rfl⟩
  rw [← hn] at r1 hl ⊢
  have HN : Hid (n = ps.length) := hn
  clear hn
  have R3 : Hid (ps ≠ [] → ∃ b o, p = some ⟨b, o, none⟩ ∧ b < w.heap.size ∧ ∀ i q, ps[i]? = some q →
    w.cell? ⟨b, o + i * 3, none⟩ = some (.int .i64 q.keep) ∧ w.cell? ⟨b, o + i * 3 + 1, none⟩ = some (.int .i64 q.drop) ∧ w.cell? ⟨b, o + i * 3 + 2, none⟩ = some (.string ⟨q.put.toArray⟩)) := r3
  have HWF : Hid (∀ p ∈ ps, wfP p) := hwf
  have HSM : Hid (∀ p ∈ ps, p.put.length < 100000000) := hsm
  obtain ⟨hN0, hN1⟩ := hN
  clear r3 hwf hsm
  go_enter Tryz.func62, Tryz.ntmps62
  go_wp2
  go_loopw [14] (fun i wr => ∃ (k : Nat), k ≤ n ∧ i = .int .i64 k ∧ chk1 ps = chk1 (ps.drop k) ∧ Below w.heap.size w wr) (fun i _ => n - (intOf i).toNat)
  case atStart => exact ⟨0, Nat.zero_le _, rfl, rfl, Below.refl _ _⟩
  case round =>
    obtain ⟨k, hk, rfl, hch, hwr⟩ := hrel
    by_cases hlt : k < n
    · have hkr : k < ps.length := by rw [← HN.out]; exact hlt
      have hne : ps ≠ [] := by intro e; rw [e] at hkr; exact absurd hkr (Nat.not_lt_zero _)
      obtain ⟨b, o, rfl, hbw, hcell⟩ := R3.out hne
      obtain ⟨c0, c1, c2⟩ := hcell k ps[k] (List.getElem?_eq_getElem hkr)
      have g0 := (hwr.cell (p := ⟨b, o + k * 3, none⟩) hbw).trans c0
      have g1 := (hwr.cell (p := ⟨b, o + k * 3 + 1, none⟩) hbw).trans c1
      have g2 := (hwr.cell (p := ⟨b, o + k * 3 + 2, none⟩) hbw).trans c2
      rw [List.drop_eq_getElem_cons hkr, chk1] at hch
      have hwq := HWF.out ps[k] (List.getElem_mem _)
      have hsm := HSM.out ps[k] (List.getElem_mem _)
      generalize ps[k] = q at *
      obtain ⟨K, D, U⟩ := q
      have hsize := hwr.size
      have HWR : Hid (Below w.heap.size w wr) := hwr
      have HBA : Hid (∀ o w2, Below (wr.alloc o).heap.size (wr.alloc o) w2 → Below w.heap.size w w2) := fun o w2 h => (hwr.alloc hsize o).trans (h.mono (hwr.alloc hsize o).size)
      have HBO : Hid (∀ o, Below w.heap.size w (wr.alloc o)) := fun o => hwr.alloc hsize o
      have cR' := fun wx => refRunes_told ⟨U.toArray⟩ (by simpa [ByteArray.size] using hsm) wx
      simp only at hch cR' g0 g1 g2
      by_cases h1 : oneB ⟨K, D, U⟩ = true
      · rw [if_pos h1] at hch
        by_cases h2 : (scan U).2 = true
        · rw [if_pos h2] at hch
          simp only [h2, if_true] at cR'
          have HCH : Hid (chk1 ps = chk1 (ps.drop (k + 1))) := hch
          have hsh := one_shapes h1
          clear hcell c0 c1 c2 hch hwq hwr HWF HSM h1 h2 hsm
          rcases hsh with ⟨rfl, rfl, s⟩ | ⟨rfl, rfl, s⟩ | ⟨rfl, rfl, s⟩
          · have sb : (K == 0) = false := beq_eq_false_iff_ne.2 (by omega)
            have sn : ¬ K < 0 := by omega
            have cR : ∀ wx, Calls Tryz.prog 56 #[.string ⟨#[]⟩] wx fun e w' => ∃ p n c d, e = .returned (.tuple #[.slice p n c, .agg #[.int .i64 0, .int .i64 d]]) ∧ Below wx.heap.size wx w' := cR'
            clear cR'
            go_wp2_with (first | (go_at_call 56; refine (cR _).mono ?_; rintro e w2 ⟨pp, nn, cc, dd, rfl, hb2⟩; have HB2 : Hid (Below w.heap.size w w2) := HBA.out _ _ hb2; clear hb2) | fail)
            go_roundw
            case rel => exact ⟨k + 1, by omega, by go_num, HCH.out, HB2.out.alloc HB2.out.size _⟩
            case measure => simp [intOf]; omega
          · have sb : (D == 0) = false := beq_eq_false_iff_ne.2 (by omega)
            have sn : ¬ D < 0 := by omega
            have cR : ∀ wx, Calls Tryz.prog 56 #[.string ⟨#[]⟩] wx fun e w' => ∃ p n c d, e = .returned (.tuple #[.slice p n c, .agg #[.int .i64 0, .int .i64 d]]) ∧ Below wx.heap.size wx w' := cR'
            clear cR'
            go_wp2_with (first | (go_at_call 56; refine (cR _).mono ?_; rintro e w2 ⟨pp, nn, cc, dd, rfl, hb2⟩; have HB2 : Hid (Below w.heap.size w w2) := HBA.out _ _ hb2; clear hb2) | fail)
            go_roundw
            case rel => exact ⟨k + 1, by omega, by go_num, HCH.out, HB2.out.alloc HB2.out.size _⟩
            case measure => simp [intOf]; omega
          · have cR := cR'
            have sU : U.isEmpty = false := by simpa using s
            clear cR'
            go_wp2_with (first | (go_at_call 56; refine (cR _).mono ?_; rintro e w2 ⟨pp, nn, cc, dd, rfl, hb2⟩; have HB2 : Hid (Below w.heap.size w w2) := HBA.out _ _ hb2; clear hb2) | fail)
            go_roundw
            case rel => exact ⟨k + 1, by omega, by go_num, HCH.out, HB2.out.alloc HB2.out.size _⟩
            case measure => simp [intOf]; omega
        · have h2 : (scan U).2 = false := Bool.eq_false_iff.2 h2
          have hU : U ≠ [] := by intro e; rw [e] at h2; cases h2
          rw [h2] at hch
          simp only [h2, Bool.false_eq_true, if_false] at cR'
          have HCH : Hid (chk1 ps = 3) := by show chk1 ps = 3; simpa using hch
          have hsh := one_shapes h1
          clear hcell c0 c1 c2 hch hwq hwr HWF HSM h1 h2 hsm
          rcases hsh with ⟨rfl, rfl, s⟩ | ⟨rfl, rfl, s⟩ | ⟨rfl, rfl, s⟩
          · exact absurd rfl hU
          · exact absurd rfl hU
          · have cR := cR'
            have sU : U.isEmpty = false := by simpa using s
            clear cR'
            go_wp2_with (first | (go_at_call 56; refine (cR _).mono ?_; rintro e w2 ⟨pp, nn, cc, dd, rfl, hb2⟩; have HB2 : Hid (Below w.heap.size w w2) := HBA.out _ _ hb2; clear hb2) | fail)
            go_ret
            refine ⟨?_, HB2.out.alloc HB2.out.size _⟩
            unfold chkE
            rw [HCH.out]
            rfl
      · have h1 : oneB ⟨K, D, U⟩ = false := Bool.eq_false_iff.2 h1
        rw [h1] at hch
        have HCH : Hid (chk1 ps = 1) := by show chk1 ps = 1; simpa using hch
        have hsh := none_shapes h1
        clear hcell c0 c1 c2 hch hwq hwr HWF HSM h1 hsm cR'
        rcases hsh with ⟨s1, s2, s3⟩ | ⟨s1, s2, rfl⟩ | ⟨s1, rfl, s3⟩ | ⟨rfl, s2, s3⟩ | ⟨rfl, rfl, rfl⟩ | ⟨s1, rfl, rfl⟩ | ⟨rfl, s2, rfl⟩
        · have kb : (K == 0) = false := beq_eq_false_iff_ne.2 (by omega)
          have db : (D == 0) = false := beq_eq_false_iff_ne.2 (by omega)
          have sU : U.isEmpty = false := by simpa using s3
          go_wp2
          go_ret
          refine ⟨?_, HBO.out _⟩
          unfold chkE
          rw [HCH.out]
          rfl
        · have kb : (K == 0) = false := beq_eq_false_iff_ne.2 (by omega)
          have db : (D == 0) = false := beq_eq_false_iff_ne.2 (by omega)
          go_wp2
          go_ret
          refine ⟨?_, HBO.out _⟩
          unfold chkE
          rw [HCH.out]
          rfl
        · have kb : (K == 0) = false := beq_eq_false_iff_ne.2 (by omega)
          have sU : U.isEmpty = false := by simpa using s3
          go_wp2
          go_ret
          refine ⟨?_, HBO.out _⟩
          unfold chkE
          rw [HCH.out]
          rfl
        · have db : (D == 0) = false := beq_eq_false_iff_ne.2 (by omega)
          have sU : U.isEmpty = false := by simpa using s3
          go_wp2
          go_ret
          refine ⟨?_, HBO.out _⟩
          unfold chkE
          rw [HCH.out]
          rfl
        · have t0 := HBO.out
          clear t0
          go_wp2
          go_ret
          refine ⟨?_, HBO.out _⟩
          unfold chkE
          rw [HCH.out]
          rfl
        · have kb : (K == 0) = false := beq_eq_false_iff_ne.2 (by omega)
          go_wp2
          go_ret
          refine ⟨?_, HBO.out _⟩
          unfold chkE
          rw [HCH.out]
          rfl
        · have db : (D == 0) = false := beq_eq_false_iff_ne.2 (by omega)
          go_wp2
          go_ret
          refine ⟨?_, HBO.out _⟩
          unfold chkE
          rw [HCH.out]
          rfl
    · have e : ps.drop k = [] := List.drop_of_length_le (by rw [← HN.out]; omega)
      rw [e] at hch
      have H0 : Hid (chk1 ps = 0) := hch
      have HWR : Hid (Below w.heap.size w wr) := hwr
      have HON : Hid (∀ p ∈ ps, soundP p ∧ (p.keep = 0 ∨ p.drop = 0)) := fun p hp => one_sound (chk1_ones hch p hp).1
      clear e hch hwr
      go_wp2
      go_loopw [1, 57] (fun m i wr => ∃ (k : Nat) (M : Int), k ≤ n ∧ i = .int .i64 k ∧ m = .int .i64 M ∧ -9223372036854775808 ≤ M ∧ M < 9223372036854775808 ∧ chk2 ps N = chk2 (ps.drop k) M ∧ Below w.heap.size w wr) (fun _ i _ => n - (intOf i).toNat)
      case atStart => exact ⟨0, N, Nat.zero_le _, rfl, rfl, hN0, hN1, rfl, HWR.out⟩
      case round =>
        obtain ⟨k, M, hk, rfl, rfl, hM0, hM1, hch, hwr⟩ := hrel
        by_cases hlt : k < n
        · have hkr : k < ps.length := by rw [← HN.out]; exact hlt
          have hne : ps ≠ [] := by intro e; rw [e] at hkr; exact absurd hkr (Nat.not_lt_zero _)
          obtain ⟨b, o, rfl, hbw, hcell⟩ := R3.out hne
          obtain ⟨c0, c1, c2⟩ := hcell k ps[k] (List.getElem?_eq_getElem hkr)
          have g0 := (hwr.cell (p := ⟨b, o + k * 3, none⟩) hbw).trans c0
          have g1 := (hwr.cell (p := ⟨b, o + k * 3 + 1, none⟩) hbw).trans c1
          have g2 := (hwr.cell (p := ⟨b, o + k * 3 + 2, none⟩) hbw).trans c2
          rw [List.drop_eq_getElem_cons hkr, chk2] at hch
          have hwq := HWF.out ps[k] (List.getElem_mem _)
          have hon := HON.out ps[k] (List.getElem_mem _)
          generalize ps[k] = q at *
          obtain ⟨⟨s0, s1⟩, s2⟩ := hon
          have hsum0 : 0 ≤ q.keep + q.drop := by omega
          have hsum1 : q.keep + q.drop < 9223372036854775808 := by have := hwq.2.1; have := hwq.2.2.2.1; omega
          have hw1 : IntKind.i64.wrap (q.keep + q.drop) = q.keep + q.drop := by rw [IntKind.wrap_i64]; omega
          have HB0 : Hid (Below w.heap.size w (wr.alloc (.cells #[.int .i64 q.keep, .int .i64 q.drop, .string ⟨q.put.toArray⟩] 50))) := hwr.alloc hwr.size _
          by_cases h1 : M < q.keep + q.drop
          · rw [if_pos h1] at hch
            have HCH : Hid (chk2 ps N = 2) := hch
            by_cases hK : M < q.keep
            · clear hcell c0 c1 c2 hch hwq hwr HWF HSM s2 hw1
              go_wp2
              go_ret
              refine ⟨?_, HB0.out⟩
              unfold chkE
              rw [if_pos H0.out, HCH.out]
              rfl
            · have hD : M < q.drop := by omega
              clear hcell c0 c1 c2 hch hwq hwr HWF HSM s2 hw1
              go_wp2
              go_ret
              refine ⟨?_, HB0.out⟩
              unfold chkE
              rw [if_pos H0.out, HCH.out]
              rfl
          · rw [if_neg h1, ← Int.sub_sub] at hch
            have HCH : Hid (chk2 ps N = chk2 (ps.drop (k + 1)) (M - q.keep - q.drop)) := hch
            have hK : ¬ M < q.keep := by omega
            have hD : ¬ M < q.drop := by omega
            have hw2 : IntKind.i64.wrap (M - q.keep) = M - q.keep := by rw [IntKind.wrap_i64]; omega
            have hw3 : IntKind.i64.wrap (M - q.keep - q.drop) = M - q.keep - q.drop := by rw [IntKind.wrap_i64]; omega
            clear hcell c0 c1 c2 hch hwq hwr HWF HSM s2 hw1
            go_wp2
            go_roundw
            case rel => exact ⟨k + 1, M - q.keep - q.drop, by omega, by go_num, by first | rfl | go_num, by omega, by omega, HCH.out, HB0.out⟩
            case measure => simp [intOf]; omega
        · have e : ps.drop k = [] := List.drop_of_length_le (by rw [← HN.out]; omega)
          rw [e, chk2] at hch
          have HX : Hid (Below w.heap.size w wr) := hwr
          by_cases h0 : M = 0
          · rw [if_pos h0] at hch
            subst h0
            have HCH : Hid (chk2 ps N = 0) := hch
            clear e hch hwr
            go_wp2
            go_ret
            refine ⟨?_, HX.out⟩
            unfold chkE
            rw [if_pos H0.out, HCH.out]
            rfl
          · rw [if_neg h0] at hch
            have hmb : (M == 0) = false := beq_eq_false_iff_ne.2 h0
            have HCH : Hid (chk2 ps N = 2) := hch
            clear e hch hwr
            go_wp2
            go_ret
            refine ⟨?_, HX.out⟩
            unfold chkE
            rw [if_pos H0.out, HCH.out]
            rfl
end Go.Proofs.YtldhbjmillfjgabGreatDoor
