/-
  rosettaref's Apply.
-/
import Derived.Test.YtldhbjmillfjgabGreatDoorOpsEdge
import Derived.Test.YtldhbjmillfjgabGreatDoorOpsInv
import Derived.Test.YtldhbjmillfjgabGreatDoorOpsRefChk
namespace Go.Proofs.YtldhbjmillfjgabGreatDoor
open Go.RowKit
set_option linter.unusedVariables false
attribute [local go_sem] Oper.semAt_some

/-- How far so many parts reach. -/
def atP (ps : List Pt) : Nat := (ps.map fun p => (lenP p).toNat).sum
theorem leftP_at (ps : List Pt) (s : List UInt8) : leftP ps s = s.drop (atP ps) := by
  induction ps generalizing s with
  | nil => rfl
  | cons p ps ih =>
    show leftP ps (s.drop (lenP p).toNat) = _
    rw [ih, List.drop_drop]
    simp [atP]
theorem at_snoc (ps : List Pt) (p : Pt) : atP (ps ++ [p]) = atP ps + (lenP p).toNat := by simp [atP]
theorem fits_le (ps : List Pt) (s : List UInt8) (h : fitsP ps s) (k : Nat) : atP (ps.take k) ≤ s.length := by
  induction ps generalizing s k with
  | nil => simp [atP]
  | cons p ps ih =>
    obtain ⟨h1, h2, h3, h4⟩ := h
    cases k with
    | zero => simp [atP]
    | succ k =>
      have := ih _ h4 k
      rw [List.length_drop] at this
      show atP (p :: ps.take k) ≤ _
      unfold atP at this ⊢
      simp only [List.map_cons, List.sum_cons]
      omega
theorem refBad_at (ps : List Pt) (s : List UInt8) (k : Nat) (hk : k < ps.length) : refBad (ps.drop k) (s.drop (atP (ps.take k))) = (badPiece (s.drop (atP (ps.take k))) || badPiece (s.drop (atP (ps.take (k + 1)))) || refBad (ps.drop (k + 1)) (s.drop (atP (ps.take (k + 1))))) := by
  rw [List.drop_eq_getElem_cons hk, refBad, List.drop_drop, ← at_snoc, ← List.take_succ_eq_append_getElem hk]
theorem applyP_snoc (ps : List Pt) (s : List UInt8) (k : Nat) (hk : k < ps.length) : applyP (ps.take (k + 1)) s = applyP (ps.take k) s ++ madeP (ps[k], (s.drop (atP (ps.take k))).take (lenP ps[k]).toNat) := by
  unfold applyP
  rw [List.take_succ_eq_append_getElem hk, pcs_append, List.flatMap_append, leftP_at]
  simp [pcs]
/-- What the document adds of a part. -/
theorem made_cut (s : List UInt8) (a : Nat) (p : Pt) (h0 : 0 ≤ p.keep) (h1 : 0 ≤ p.drop) (h2 : p.keep = 0 ∨ p.drop = 0) : madeP (p, (s.drop a).take (lenP p).toNat) = (s.drop a).take p.keep.toNat ++ p.put := by
  unfold madeP lenP
  rcases Int.lt_or_le 0 p.keep with h | h
  · rw [if_pos h]
    have : p.drop = 0 := by omega
    simp [this]
  · have : p.keep = 0 := by omega
    simp [this]

theorem apply_lenR {ps : List Pt} {s : List UInt8} (h : fitsP ps s) (k : Nat) : (applyP (ps.take k) s).length ≤ s.length + putsP ps := by
  have e : pcs ps s = pcs (ps.take k) s ++ pcs (ps.drop k) (leftP (ps.take k) s) := by
    conv => lhs; rw [← List.take_append_drop k ps]
    rw [pcs_append]
  exact made_pre h e
theorem cat3 (a u : List UInt8) (X : ByteArray) (x : List UInt8) (h : X.data.toList = x) : ByteArray.mk a.toArray ++ (X ++ ByteArray.mk u.toArray) = ByteArray.mk (a ++ (x ++ u)).toArray := by
  subst h
  apply ByteArray.ext
  simp [ByteArray.data_append]
theorem cut_mid (l : List UInt8) (a n : Nat) : ((ByteArray.mk l.toArray).extract a (a + n)).data.toList = (l.drop a).take n := by
  rw [Lib.extract_data]
  simp

set_option maxRecDepth 100000 in
set_option maxHeartbeats 2000000 in
theorem refApply_err (v : Value) (ps : List Pt) (s : List UInt8) (w : World) (hr : opAt w v ps) (hwf : ∀ p ∈ ps, wfP p) (hsm : ∀ p ∈ ps, p.put.length < 100000000) (hs : s.length < 1000000000) (hl : ps.length < 10000000) (he : chkE ps (s.length : Int) ≠ 0) :
    Calls Tryz.prog 28 #[v, .string ⟨s.toArray⟩] w fun e w' => e = .returned (.tuple #[.string ⟨#[]⟩, .int .i64 (chkE ps (s.length : Int))]) ∧ Below w.heap.size w w' := by
  have cC : Hid _ := refCheck_any v ps (s.length : Int) w hr hwf hsm (by omega) hl
  have hz := str_size s
  obtain ⟨E, hE⟩ : ∃ E, chkE ps (s.length : Int) = E := ⟨_, rfl⟩
  rw [hE] at cC he ⊢
  obtain ⟨p, c, rfl, _⟩ := hr
  clear hwf hsm hE
  go_enter Tryz.func28, Tryz.ntmps28
  go_wp2_with (first | (go_at_call 62; refine Calls.mono cC.out ?_; rintro e w1 ⟨rfl, hb1⟩) | fail)
  go_ret2
  exact ⟨rfl, hb1⟩

set_option maxRecDepth 100000 in
set_option maxHeartbeats 4000000 in
theorem refApply_fine (v : Value) (ps : List Pt) (s : List UInt8) (w : World) (hr : opAt w v ps) (hwf : ∀ p ∈ ps, wfP p) (hsm : ∀ p ∈ ps, p.put.length < 100000000) (hs : s.length < 100000000) (hl : ps.length < 10000000) (hpu : putsP ps < 100000000) (he : chkE ps (s.length : Int) = 0) :
    Calls Tryz.prog 28 #[v, .string ⟨s.toArray⟩] w fun e w' => e = .returned (.tuple #[.string ⟨(if badO ps s then [] else applyP ps s).toArray⟩, .int .i64 (if badO ps s then 10 else 0)]) ∧ Below w.heap.size w w' := by
  have cC : Hid _ := refCheck_any v ps (s.length : Int) w hr hwf hsm (by omega) hl
  have hz := str_size s
  rw [he] at cC
  obtain ⟨hfit, hleft⟩ := chkE_fits he
  have hones : ∀ p ∈ ps, soundP p ∧ (p.keep = 0 ∨ p.drop = 0) := by
    unfold chkE at he
    split at he
    · rename_i h1
      exact fun p hp => one_sound (chk1_ones h1 p hp).1
    · rename_i h1; exact absurd he h1
  have HB : Hid (refBad ps s = badO ps s) := refBad_eq ps s hleft
  have HF : Hid (fitsP ps s) := hfit
  have HO : Hid (∀ p ∈ ps, soundP p ∧ (p.keep = 0 ∨ p.drop = 0)) := hones
  have HSL : Hid (s.length < 1000000000) := (by show _ < _; omega)
  have HSM : Hid (∀ p ∈ ps, p.put.length < 100000000) := hsm
  have HPU : Hid (putsP ps < 100000000) := hpu
  obtain ⟨p, c, rfl, r1, r2, r3⟩ := hr
  obtain ⟨n, hn⟩ : ∃ n, n = ps.length := ⟨_, rfl⟩
  obtain ⟨RS, hRS⟩ : ∃ RS, RS = ByteArray.mk (if badO ps s = true then ([] : List UInt8) else applyP ps s).toArray := ⟨_, rfl⟩
  obtain ⟨RE, hRE⟩ : ∃ RE : Int, RE = if badO ps s = true then 10 else 0 := ⟨_, rfl⟩
  have HRS : Hid (RS = ByteArray.mk (if badO ps s = true then ([] : List UInt8) else applyP ps s).toArray) := hRS
  have HRE : Hid (RE = if badO ps s = true then 10 else 0) := hRE
  rw [← hRS, ← hRE]
  have HN : Hid (n = ps.length) := hn
  rw [← hn] at r1 hl cC ⊢
  have R3 : Hid (ps ≠ [] → ∃ b o, p = some ⟨b, o, none⟩ ∧ b < w.heap.size ∧ ∀ i q, ps[i]? = some q →
    w.cell? ⟨b, o + i * 3, none⟩ = some (.int .i64 q.keep) ∧ w.cell? ⟨b, o + i * 3 + 1, none⟩ = some (.int .i64 q.drop) ∧ w.cell? ⟨b, o + i * 3 + 2, none⟩ = some (.string ⟨q.put.toArray⟩)) := r3
  clear r3 hwf hsm hpu hfit hleft he hones hn hRS hRE
  go_enter Tryz.func28, Tryz.ntmps28
  go_wp2_with (first | (go_at_call 62; refine Calls.mono cC.out ?_; rintro e w1 ⟨rfl, hb1⟩) | fail)
  go_loopw [7, 8, 20] (fun x y i wr => ∃ (k : Nat), k ≤ n ∧ i = .int .i64 k ∧ y = .int .i64 (atP (ps.take k) : Nat) ∧ x = .string ⟨(applyP (ps.take k) s).toArray⟩ ∧ refBad ps s = refBad (ps.drop k) (s.drop (atP (ps.take k))) ∧ Below w.heap.size w wr) (fun _ _ i _ => n - (intOf i).toNat)
  case atStart => exact ⟨0, Nat.zero_le _, rfl, rfl, rfl, rfl, hb1⟩
  case round =>
    obtain ⟨k, hk, rfl, rfl, rfl, hbd, hwr⟩ := hrel
    by_cases hlt : k < n
    · have hkr : k < ps.length := by rw [← HN.out]; exact hlt
      have hne : ps ≠ [] := by intro e; rw [e] at hkr; exact absurd hkr (Nat.not_lt_zero _)
      obtain ⟨b, o, rfl, hbw, hcell⟩ := R3.out hne
      obtain ⟨c0, c1, c2⟩ := hcell k ps[k] (List.getElem?_eq_getElem hkr)
      have g0 := (hwr.cell (p := ⟨b, o + k * 3, none⟩) hbw).trans c0
      have g1 := (hwr.cell (p := ⟨b, o + k * 3 + 1, none⟩) hbw).trans c1
      have g2 := (hwr.cell (p := ⟨b, o + k * 3 + 2, none⟩) hbw).trans c2
      obtain ⟨⟨s0, s1⟩, s2⟩ := HO.out ps[k] (List.getElem_mem _)
      have hA0 := fits_le ps s HF.out k
      have hA1 := fits_le ps s HF.out (k + 1)
      have ha : atP (ps.take (k + 1)) = atP (ps.take k) + (lenP ps[k]).toNat := by rw [List.take_succ_eq_append_getElem hkr, at_snoc]
      have hap := applyP_snoc ps s k hkr
      rw [made_cut s _ _ s0 s1 s2] at hap
      rw [refBad_at ps s k hkr] at hbd
      have hU := HSM.out ps[k] (List.getElem_mem _)
      have hOl := apply_lenR HF.out k
      have hpu := HPU.out
      generalize ps[k] = q at g0 g1 g2 s0 s1 s2 ha hap hU
      obtain ⟨K, D, U⟩ := q
      simp only [lenP] at s0 s1 s2 ha hap g0 g1 g2 hU
      have hzU := str_size U
      obtain ⟨A, hA⟩ : ∃ A, A = atP (ps.take k) := ⟨_, rfl⟩
      obtain ⟨A1, hA1'⟩ : ∃ A1, A1 = atP (ps.take (k + 1)) := ⟨_, rfl⟩
      obtain ⟨O, hO⟩ : ∃ O, O = ByteArray.mk (applyP (ps.take k) s).toArray := ⟨_, rfl⟩
      have HOO : Hid (O = ByteArray.mk (applyP (ps.take k) s).toArray) := hO
      rw [← hA, ← hO]
      rw [← hA] at hA0 ha hap hbd
      rw [← hA1'] at hA1 ha hbd
      have hi : (A1 : Int) = (A : Int) + K + D := by omega
      have HI : Hid (((atP (ps.take (k + 1)) : Nat) : Int) = (A : Int) + K + D) := by show _ = _; rw [← hA1']; exact hi
      have hK : (A : Int) + K + D ≤ s.length := by omega
      obtain ⟨B0, hB0⟩ : ∃ B0, B0 = badPiece (s.drop A) := ⟨_, rfl⟩
      obtain ⟨B1, hB1⟩ : ∃ B1, B1 = badPiece (s.drop A1) := ⟨_, rfl⟩
      rw [← hB0, ← hB1] at hbd
      have cE0 : Hid (∀ wx, Calls Tryz.prog 87 #[.string ⟨s.toArray⟩, .int .i64 A] wx fun e w' => e = .returned (.bool (!B0)) ∧ w' = wx) := fun wx => by rw [hB0]; exact edge_any s A wx HSL.out hA0
      have cE1 : Hid (∀ wx, Calls Tryz.prog 87 #[.string ⟨s.toArray⟩, .int .i64 ((A : Int) + K + D)] wx fun e w' => e = .returned (.bool (!B1)) ∧ w' = wx) := fun wx => by rw [hB1, ← hi]; exact edge_any s A1 wx HSL.out hA1
      have HA : Hid (applyP (ps.take (k + 1)) s = applyP (ps.take k) s ++ ((s.drop A).take K.toNat ++ U)) := hap
      have HBD : Hid (refBad ps s = (B0 || B1 || refBad (ps.drop (k + 1)) (s.drop A1))) := hbd
      have HA1 : Hid (A1 = atP (ps.take (k + 1))) := hA1'
      clear hcell c0 c1 c2 ha hap hbd hi hO hA hA1' hB0 hB1 hA1
      have HWR : Hid (Below w.heap.size w wr) := hwr
      have hsize := hwr.size
      have hOs : O.size ≤ 200000000 := by rw [HOO.out, str_size]; omega
      obtain ⟨X, hX⟩ : ∃ X, (ByteArray.mk s.toArray).extract A ((A : Int) + K).toNat = X := ⟨_, rfl⟩
      have hk2 : ((A : Int) + K).toNat = A + K.toNat := by omega
      have HXL : Hid (X.data.toList = (s.drop A).take K.toNat) := by show _ = _; rw [← hX, hk2]; exact cut_mid s A K.toNat
      have hXs : X.size ≤ 100000000 := by
        have e : X.size = X.data.toList.length := Array.length_toList.symm
        rw [e, HXL.out, List.length_take, List.length_drop]; omega
      have hcat : X.size + (ByteArray.mk U.toArray).size ≤ 200000000 := by rw [hzU]; omega
      have hcat2 : O.size + (X.size + (ByteArray.mk U.toArray).size) ≤ 400000000 := by omega
      clear hk2 hOl hpu
      cases B0 with
      | true =>
        have HT : Hid (badO ps s = true) := by show _ = true; rw [← HB.out, HBD.out]; rfl
        go_wp2_with (first | (go_at_call 87; refine (cE0.out _).mono ?_; rintro e w2 ⟨rfl, rfl⟩) | fail)
        go_ret2
        exact ⟨by rw [HRE.out, HRS.out, if_pos HT.out, if_pos HT.out]; rfl, HWR.out.alloc hsize _⟩
      | false =>
      cases B1 with
      | true =>
        have HT : Hid (badO ps s = true) := by show _ = true; rw [← HB.out, HBD.out]; rfl
        go_wp2_with (first | (have _ := hfirst; go_at_call 87; refine (cE1.out _).mono ?_; rintro e w3 ⟨rfl, rfl⟩) | (go_at_call 87; refine (cE0.out _).mono ?_; rintro e w2 ⟨rfl, rfl⟩; have hfirst := trivial) | fail)
        go_ret2
        exact ⟨by rw [HRE.out, HRS.out, if_pos HT.out, if_pos HT.out]; rfl, HWR.out.alloc hsize _⟩
      | false =>
        go_wp2_with (first | (have _ := hfirst; go_at_call 87; refine (cE1.out _).mono ?_; rintro e w3 ⟨rfl, rfl⟩) | (go_at_call 87; refine (cE0.out _).mono ?_; rintro e w2 ⟨rfl, rfl⟩; have hfirst := trivial) | fail)
        go_region
        all_goals
          go_wp2
          go_roundw
          case rel => exact ⟨k + 1, by omega, by go_num, by rw [HI.out, Int.add_assoc], by rw [HA.out, HOO.out, cat3 _ _ _ _ HXL.out], by rw [HBD.out, ← HA1.out]; rfl, (HWR.out.alloc hsize _).drew⟩
          case measure => simp [intOf]; omega
    · have e : ps.take k = ps := List.take_of_length_le (by rw [← HN.out]; omega)
      have e' : ps.drop k = [] := List.drop_eq_nil_of_le (by rw [← HN.out]; omega)
      rw [e, e'] at hbd
      rw [e]
      have HT : Hid (badO ps s = false) := by show _ = false; rw [← HB.out, hbd]; rfl
      obtain ⟨O, hO⟩ : ∃ O, O = ByteArray.mk (applyP ps s).toArray := ⟨_, rfl⟩
      have HOO : Hid (O = ByteArray.mk (applyP ps s).toArray) := hO
      rw [← hO]
      clear e e' hbd hO
      go_wp2
      go_ret2
      exact ⟨by rw [HRE.out, HRS.out, HT.out, HOO.out]; rfl, hwr⟩

theorem refApply_any (v : Value) (ps : List Pt) (s : List UInt8) (w : World) (hr : opAt w v ps) (hwf : ∀ p ∈ ps, wfP p) (hsm : ∀ p ∈ ps, p.put.length < 100000000) (hs : s.length < 100000000) (hl : ps.length < 10000000) (hpu : putsP ps < 100000000) :
    Calls Tryz.prog 28 #[v, .string ⟨s.toArray⟩] w fun e w' => e = .returned (.tuple #[.string ⟨(if ordE ps s = 0 then applyP ps s else []).toArray⟩, .int .i64 (ordE ps s)]) ∧ Below w.heap.size w w' := by
  unfold ordE
  by_cases he : chkE ps (s.length : Int) = 0
  · rw [if_pos he]
    have := refApply_fine v ps s w hr hwf hsm hs hl hpu he
    cases hb : badO ps s <;> simp only [hb] at this <;> simpa using this
  · rw [if_neg he, if_neg he]
    exact refApply_err v ps s w hr hwf hsm (by omega) hl he
end Go.Proofs.YtldhbjmillfjgabGreatDoor
