/-
  utf.wrong and utf.each: a text is walked rune by rune by a closure.
-/
import Derived.Test.YtedgnlgjmnccgabGreatDoorShelf
import Derived.Test.YtedgnlgjmnccgabGreatDoorPure
import Derived.WalkKit
import Derived.WalkSpells
import Derived.WalkLawsBesides
namespace Go.Proofs.YtedgnlgjmnccgabGreatDoor
open Go.RowKit

/-- An error at a place, in memory that is new since w. -/
def isAt (w w' : World) (v : Value) (at_ : Int) : Prop :=
  ∃ b, v = .iface 273 (.pointer (some ⟨b, 0, none⟩)) ∧ w.heap.size ≤ b ∧ b < w'.heap.size ∧ w'.cell? ⟨b, 0, none⟩ = some (.int .i64 3) ∧ w'.cell? ⟨b, 1, none⟩ = some (.int .i64 at_)

set_option maxHeartbeats 400000 in
theorem wrong_any (n : Int) (w : World) :
    Calls Tryz.prog 163 #[.int .i64 n] w fun e w' => (∃ v, e = .returned v ∧ isAt w w' v n) ∧ Below w.heap.size w w' := by
  go_enter Tryz.func163, Tryz.ntmps163
  go_wp2
  go_ret
  refine ⟨⟨_, rfl, w.heap.size, rfl, Nat.le_refl _, by simp, by simp [go_sem], by simp [go_sem]⟩, (Below.refl _ _).alloc (Nat.le_refl _) _⟩

theorem isAt_from {w0 w w' : World} {v : Value} {n : Int} (h : isAt w w' v n) (hb : w0.heap.size ≤ w.heap.size) : isAt w0 w' v n := by
  obtain ⟨b, rfl, h1, h2⟩ := h
  exact ⟨b, rfl, Nat.le_trans hb h1, h2⟩

/-- What each rune's closure keeps. -/
structure Takes (W : World) (F : Nat) (cap : Array Value) (l : List (Nat × Nat)) (I : List (Nat × Nat) → World → Prop) : Prop where
  enters : ∀ args w, (callFunc F args).run Tryz.prog w = .ok (.enter F args) w
  stays : ∀ done w w', I done w → Below w.heap.size w w' → I done w'
  step : ∀ done p rest, l = done ++ p :: rest → ∀ w, I done w → Below W.heap.size W w →
    Calls Tryz.prog F (#[.int .i32 p.1, .int .i64 p.2] ++ cap) w fun e w' => e = .returned (.bool true) ∧ I (done ++ [p]) w' ∧ Below W.heap.size W w'

set_option maxHeartbeats 1000000 in
theorem each_all (s : ByteArray) (hs : s.size ≤ maxLen) (F : Nat) (cap : Array Value) (W : World) (hT : Lib.Utf8Tabs 2 3 W) (I : List (Nat × Nat) → World → Prop)
    (H : Takes W F cap (scan s.data.toList).1 I) (w : World) (hw : Below W.heap.size W w) (h0 : I [] w) :
    Calls Tryz.prog 135 #[.string s, .func (.func F) #[] cap] w fun e w' => Below W.heap.size W w' ∧ I (scan s.data.toList).1 w' ∧
      (((scan s.data.toList).2 = true ∧ e = .returned .nilIface) ∨ ((scan s.data.toList).2 = false ∧ ∃ v, e = .returned v ∧ isAt W w' v (place s.data.toList))) := by
  unfold maxLen at hs
  have hent := H.enters
  have key : ∀ done k, (scan s.data.toList).1 = done ++ (scan (s.data.toList.drop k)).1 → (done.map (·.2)).sum = k → (scan s.data.toList).2 = (scan (s.data.toList.drop k)).2 →
      (scan (s.data.toList.drop k)).1 = [] → place s.data.toList = k := by
    intro done k h1 h2 _ h4
    unfold place
    rw [h1, h4, List.append_nil, h2]
  go_enter Tryz.func135, Tryz.ntmps135
  go_wp2
  go_loopw [5, 6, 7, 12] (fun at_ _ _ _ wr => ∃ (k : Nat) (done : List (Nat × Nat)), k ≤ s.size ∧ at_ = .int .i64 k ∧ (scan s.data.toList).1 = done ++ (scan (s.data.toList.drop k)).1 ∧ (done.map (·.2)).sum = k ∧
      (scan s.data.toList).2 = (scan (s.data.toList.drop k)).2 ∧ I done wr ∧ Below W.heap.size W wr) (fun at_ _ _ _ _ => s.size - (intOf at_).toNat)
  case atStart => exact ⟨0, [], Nat.zero_le _, rfl, by rw [List.drop_zero]; rfl, rfl, by rw [List.drop_zero], h0, hw⟩
  case round =>
    obtain ⟨k, done, hk, rfl, hd1, hd2, hd3, hI, hwr⟩ := hrel
    have hTr := Go.Proofs.Utf8Tabs_below hT hwr
    by_cases hlt : k < s.size
    · have hne : s.data.toList.drop k ≠ [] := by
        intro e
        have := congrArg List.length e
        rw [List.length_drop, List.length_nil, ← Lib.size_eq] at this
        omega
      have hdec : Lib.decodeGo (s.extract k s.size) = dec (s.data.toList.drop k) := by
        unfold Lib.decodeGo
        rw [if_neg (by rw [ByteArray.size_extract]; omega), decode_dec]
      have hge := dec_ge1 (s.data.toList.drop k)
      have hle := dec_le hne
      have hle4 := dec_le4 (s.data.toList.drop k)
      have cD := Tryz.utf8_DecodeRuneInString (s.extract k s.size) wr hTr
      rw [hdec] at cD
      by_cases hb : badB (dec (s.data.toList.drop k)) = true
      · have hs2 := scan_bad hne hb
        have hpl : Hid (place s.data.toList = k) := key done k hd1 hd2 hd3 (by rw [hs2])
        have hf : (scan s.data.toList).2 = false := by rw [hd3, hs2]
        have hfin : Hid (I (scan s.data.toList).1 wr) := by show I _ wr; rw [hd1, hs2, List.append_nil]; exact hI
        have hb' : (dec (s.data.toList.drop k)).1 = 65533 ∧ (dec (s.data.toList.drop k)).2 = 1 := badB_true hb
        rw [hb'.1, hb'.2] at cD
        clear hdec hge hle hle4 hb hb' hd1 hd2 hd3 hs2 hne key hI
        go_wp2_with (first | (go_at_call 193; refine cD.mono ?_; rintro e w1 ⟨rfl, hb1⟩) | (go_at_call 163; refine (wrong_any _ _).mono ?_; rintro e w2 ⟨⟨v, rfl, hv⟩, hb2⟩) | fail)
        go_ret
        have hb12 : Below wr.heap.size wr w2 := hb1.trans (hb2.mono hb1.size)
        refine ⟨hwr.trans (hb12.mono hwr.size), H.stays _ _ _ hfin hb12, .inr ⟨hf, v, rfl, ?_⟩⟩
        rw [hpl]
        exact isAt_from hv (Nat.le_trans hwr.size hb1.size)
      · have hb : badB (dec (s.data.toList.drop k)) = false := Bool.eq_false_iff.2 hb
        have hs2 := scan_good hne hb
        have hl : (scan s.data.toList).1 = done ++ dec (s.data.toList.drop k) :: (scan ((s.data.toList.drop k).drop (dec (s.data.toList.drop k)).2)).1 := by rw [hd1, hs2]
        have hl' : (scan s.data.toList).2 = (scan ((s.data.toList.drop k).drop (dec (s.data.toList.drop k)).2)).2 := by rw [hd3, hs2]
        rw [List.drop_drop] at hl hl'
        rw [List.length_drop, ← Lib.size_eq] at hle
        have hstep := H.step done _ _ hl
        obtain ⟨R, hR⟩ : ∃ R, R = (dec (s.data.toList.drop k)).1 := ⟨_, rfl⟩
        obtain ⟨K, hK⟩ : ∃ K, K = (dec (s.data.toList.drop k)).2 := ⟨_, rfl⟩
        have hp : dec (s.data.toList.drop k) = (R, K) := by rw [hR, hK]
        rw [hp] at cD hb hge hle hle4 hl hl' hstep
        have hnext : Hid ((scan s.data.toList).1 = done ++ [(R, K)] ++ (scan (s.data.toList.drop (k + K))).1) := by
          show _ = _
          rw [hl, List.append_assoc]; rfl
        have hnext2 : Hid (((done ++ [(R, K)]).map (·.2)).sum = k + K) := by
          show _ = _
          rw [List.map_append, List.sum_append, hd2]; rfl
        have hnext3 : Hid ((scan s.data.toList).2 = (scan (s.data.toList.drop (k + K))).2) := hl'
        simp only [] at hge hle
        clear hdec hd1 hd2 hd3 hs2 hne key hle4 hl hl' hR hK hp
        have hbF := badB_false hb
        clear hb
        rcases hbF with hr | ⟨hr, hr2⟩
        · have hr0 : ((R : Int) == 65533) = false := by
            rw [beq_eq_false_iff_ne]
            intro e
            exact hr (by omega)
          clear hr
          go_wp2_with (first | (go_at_call 193; refine cD.mono ?_; rintro e w1 ⟨rfl, hb1⟩) | (go_at_fn F; refine (hstep w1 (H.stays _ _ _ hI hb1) (hwr.trans (hb1.mono hwr.size))).mono ?_; rintro e w2 ⟨rfl, hI2, hb2⟩) | fail)
          go_roundw
          case rel => exact ⟨k + K, done ++ [(R, K)], by omega, by go_num, hnext, hnext2, hnext3, hI2, hb2⟩
          case measure => simp [intOf]; omega
        · have hr0 : ((K : Int) == 1) = false := by
            rw [beq_eq_false_iff_ne]
            intro e
            exact hr2 (by omega)
          subst hr
          clear hr2
          go_wp2_with (first | (go_at_call 193; refine cD.mono ?_; rintro e w1 ⟨rfl, hb1⟩) | (go_at_fn F; refine (hstep w1 (H.stays _ _ _ hI hb1) (hwr.trans (hb1.mono hwr.size))).mono ?_; rintro e w2 ⟨rfl, hI2, hb2⟩) | fail)
          go_roundw
          case rel => exact ⟨k + K, done ++ [(65533, K)], by omega, by go_num, hnext, hnext2, hnext3, hI2, hb2⟩
          case measure => simp [intOf]; omega
    · have hend : s.data.toList.drop k = [] := List.drop_eq_nil_of_le (by rw [← Lib.size_eq]; omega)
      rw [hend, scan_nil] at hd1 hd3
      rw [List.append_nil] at hd1
      have hfin : Hid (I (scan s.data.toList).1 wr) := by show I _ wr; rw [hd1]; exact hI
      clear hd1 hend key hTr
      go_wp2
      go_ret
      refine ⟨hwr, hfin, ?_⟩
      first | exact rfl | exact .inl ⟨hd3, rfl⟩
end Go.Proofs.YtedgnlgjmnccgabGreatDoor
