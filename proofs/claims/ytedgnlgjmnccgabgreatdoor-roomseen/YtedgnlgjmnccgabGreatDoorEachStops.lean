/-
  utf.each, where the closure may say no: how far it comes.
-/
import Derived.Test.YtedgnlgjmnccgabGreatDoorForms
namespace Go.Proofs.YtedgnlgjmnccgabGreatDoor
open Go.RowKit

/-- What each rune's closure keeps, and what holds where it has said no. -/
structure TakesS (W : World) (F : Nat) (cap : Array Value) (l : List (Nat × Nat)) (I Ix : List (Nat × Nat) → World → Prop) : Prop where
  enters : ∀ args w, (callFunc F args).run Tryz.prog w = .ok (.enter F args) w
  stays : ∀ done w w', I done w → Below w.heap.size w w' → I done w'
  step : ∀ done p rest, l = done ++ p :: rest → ∀ w, I done w → Below W.heap.size W w →
    Calls Tryz.prog F (#[.int .i32 p.1, .int .i64 p.2] ++ cap) w fun e w' => Below W.heap.size W w' ∧ ((e = .returned (.bool true) ∧ I (done ++ [p]) w') ∨ (e = .returned (.bool false) ∧ Ix (done ++ [p]) w'))

set_option maxHeartbeats 2000000 in
theorem each_stops (s : ByteArray) (hs : s.size ≤ maxLen) (F : Nat) (cap : Array Value) (W : World) (hT : Lib.Utf8Tabs 2 3 W) (I Ix : List (Nat × Nat) → World → Prop)
    (H : TakesS W F cap (scan s.data.toList).1 I Ix) (w : World) (hw : Below W.heap.size W w) (h0 : I [] w) :
    Calls Tryz.prog 135 #[.string s, .func (.func F) #[] cap] w fun e w' => (∃ v, e = .returned v) ∧ Below W.heap.size W w' ∧
      (I (scan s.data.toList).1 w' ∨ (∃ pre rest, (scan s.data.toList).1 = pre ++ rest ∧ Ix pre w')) := by
  unfold maxLen at hs
  have hent := H.enters
  go_enter Tryz.func135, Tryz.ntmps135
  go_wp2
  go_loopw [5, 6, 7, 12] (fun at_ _ _ _ wr => ∃ (k : Nat) (done : List (Nat × Nat)), k ≤ s.size ∧ at_ = .int .i64 k ∧ (scan s.data.toList).1 = done ++ (scan (s.data.toList.drop k)).1 ∧ I done wr ∧ Below W.heap.size W wr) (fun at_ _ _ _ _ => s.size - (intOf at_).toNat)
  case atStart => exact ⟨0, [], Nat.zero_le _, rfl, by rw [List.drop_zero]; rfl, h0, hw⟩
  case round =>
    obtain ⟨k, done, hk, rfl, hd1, hI, hwr⟩ := hrel
    have hTr := Go.Proofs.Utf8Tabs_below hT hwr
    by_cases hlt : k < s.size
    · have hne : s.data.toList.drop k ≠ [] := by
        intro e
        have := congrArg List.length e
        rw [List.length_drop, List.length_nil, ← Lib.size_eq] at this
        omega
      have hdec : Lib.decodeGo (s.extract k s.size) = dec (s.data.toList.drop k) := by
        unfold Lib.decodeGo
        rw [if_neg (by rw [ByteArray.size_extract]; omega), decode_dec]
      have hge := dec_ge1 (s.data.toList.drop k)
      have hle := dec_le hne
      have hle4 := dec_le4 (s.data.toList.drop k)
      have cD := Tryz.utf8_DecodeRuneInString (s.extract k s.size) wr hTr
      rw [hdec] at cD
      by_cases hb : badB (dec (s.data.toList.drop k)) = true
      · have hs2 := scan_bad hne hb
        have hfin : Hid (I (scan s.data.toList).1 wr) := by show I _ wr; rw [hd1, hs2, List.append_nil]; exact hI
        have hb' : (dec (s.data.toList.drop k)).1 = 65533 ∧ (dec (s.data.toList.drop k)).2 = 1 := badB_true hb
        rw [hb'.1, hb'.2] at cD
        clear hdec hge hle hle4 hb hb' hd1 hs2 hne hI
        go_wp2_with (first | (go_at_call 193; refine cD.mono ?_; rintro e w1 ⟨rfl, hb1⟩) | (go_at_call 163; refine (wrong_any _ _).mono ?_; rintro e w2 ⟨⟨v, rfl, hv⟩, hb2⟩) | fail)
        go_ret
        have hb12 : Below wr.heap.size wr w2 := hb1.trans (hb2.mono hb1.size)
        exact ⟨⟨_, rfl⟩, hwr.trans (hb12.mono hwr.size), .inl (H.stays _ _ _ hfin hb12)⟩
      · have hb : badB (dec (s.data.toList.drop k)) = false := Bool.eq_false_iff.2 hb
        have hs2 := scan_good hne hb
        have hl : (scan s.data.toList).1 = done ++ dec (s.data.toList.drop k) :: (scan ((s.data.toList.drop k).drop (dec (s.data.toList.drop k)).2)).1 := by rw [hd1, hs2]
        rw [List.drop_drop] at hl
        rw [List.length_drop, ← Lib.size_eq] at hle
        have hstep := H.step done _ _ hl
        obtain ⟨R, hR⟩ : ∃ R, R = (dec (s.data.toList.drop k)).1 := ⟨_, rfl⟩
        obtain ⟨K, hK⟩ : ∃ K, K = (dec (s.data.toList.drop k)).2 := ⟨_, rfl⟩
        have hp : dec (s.data.toList.drop k) = (R, K) := by rw [hR, hK]
        rw [hp] at cD hb hge hle hle4 hl hstep
        have hnext : Hid ((scan s.data.toList).1 = done ++ [(R, K)] ++ (scan (s.data.toList.drop (k + K))).1) := by
          show _ = _
          rw [hl, List.append_assoc]; rfl
        simp only [] at hge hle
        clear hdec hd1 hs2 hne hle4 hl hR hK hp
        have hbF := badB_false hb
        clear hb
        rcases hbF with hr | ⟨hr, hr2⟩
        · have hr0 : ((R : Int) == 65533) = false := by
            rw [beq_eq_false_iff_ne]
            intro e
            exact hr (by omega)
          clear hr
          go_wp2_with (first | (go_at_call 193; refine cD.mono ?_; rintro e w1 ⟨rfl, hb1⟩) | (go_at_fn F; refine (hstep w1 (H.stays _ _ _ hI hb1) (hwr.trans (hb1.mono hwr.size))).mono ?_; rintro e w2 ⟨hb2, ⟨rfl, hI2⟩ | ⟨rfl, hI2⟩⟩) | fail)
          · go_roundw
            case rel => exact ⟨k + K, done ++ [(R, K)], by omega, by go_num, hnext, hI2, hb2⟩
            case measure => simp [intOf]; omega
          · go_ret
            exact ⟨⟨_, rfl⟩, hb2, .inr ⟨_, _, hnext, hI2⟩⟩
        · have hr0 : ((K : Int) == 1) = false := by
            rw [beq_eq_false_iff_ne]
            intro e
            exact hr2 (by omega)
          subst hr
          clear hr2
          go_wp2_with (first | (go_at_call 193; refine cD.mono ?_; rintro e w1 ⟨rfl, hb1⟩) | (go_at_fn F; refine (hstep w1 (H.stays _ _ _ hI hb1) (hwr.trans (hb1.mono hwr.size))).mono ?_; rintro e w2 ⟨hb2, ⟨rfl, hI2⟩ | ⟨rfl, hI2⟩⟩) | fail)
          · go_roundw
            case rel => exact ⟨k + K, done ++ [(65533, K)], by omega, by go_num, hnext, hI2, hb2⟩
            case measure => simp [intOf]; omega
          · go_ret
            exact ⟨⟨_, rfl⟩, hb2, .inr ⟨_, _, hnext, hI2⟩⟩
    · have hend : s.data.toList.drop k = [] := List.drop_eq_nil_of_le (by rw [← Lib.size_eq]; omega)
      rw [hend, scan_nil] at hd1
      rw [List.append_nil] at hd1
      have hfin : Hid (I (scan s.data.toList).1 wr) := by show I _ wr; rw [hd1]; exact hI
      clear hd1 hend hTr
      go_wp2
      go_ret
      exact ⟨⟨_, rfl⟩, hwr, .inl hfin⟩
end Go.Proofs.YtedgnlgjmnccgabGreatDoor
