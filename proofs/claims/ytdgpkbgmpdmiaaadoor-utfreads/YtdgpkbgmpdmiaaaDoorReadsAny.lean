/-
  UtfReads: the law at every text.
-/
import Derived.Test.YtdgpkbgmpdmiaaaDoorReadsLaw
namespace Go.Proofs.YtdgpkbgmpdmiaaaDoor
open Go.RowKit
set_option linter.unusedVariables false

/-- Runes' halves, as numbers. -/
def halZ (rs : List Nat) : List Int := rs.flatMap fun r => (hal r).map fun h : Nat => (h : Int)
theorem halRow_Z (rs : List Nat) : halRow rs = (halZ rs).map (Value.int .u16) := by
  induction rs with
  | nil => rfl
  | cons r rs ih =>
    have e1 : halRow (r :: rs) = halCells r ++ halRow rs := by simp [halRow]
    have e2 : halZ (r :: rs) = ((hal r).map fun h : Nat => (h : Int)) ++ halZ rs := by simp [halZ]
    rw [e1, e2, List.map_append, ih]
    congr 1
    simp [halCells]
theorem cells59_Z (rs : List Nat) : cellsOf59 (wide rs) = (halZ rs).map (Value.int .u16) := by
  rw [← halRow_Z]
  induction rs with
  | nil => rfl
  | cons r rs ih =>
    have e1 : halRow (r :: rs) = halCells r ++ halRow rs := by simp [halRow]
    have e2 : cellsOf59 (wide (r :: rs)) = halCells r ++ cellsOf59 (wide rs) := by simp [cellsOf59, wide]
    rw [e1, e2, ih]
theorem halZ_le (rs : List Nat) : (halZ rs).length ≤ 2 * rs.length := by
  have h := cellsOf59_le (wide rs)
  rw [cells59_Z, List.length_map] at h
  simpa [wide] using h

theorem reads_row {w w' : World} {e : Nat} {k : IntKind} {v : Value} {xs : List Value} {zs : List Int} (hx : xs = zs.map (Value.int k)) (h : isRow w w' e v xs) : ∃ p c, v = .slice p zs.length c ∧ Hid (reads w' k (.slice p zs.length c) zs) := by
  obtain ⟨p, c, rfl, hown⟩ := h
  have e : xs.length = zs.length := by rw [hx, List.length_map]
  rw [e] at hown ⊢
  exact ⟨p, c, rfl, reads_own hx hown⟩

set_option maxRecDepth 100000 in
set_option maxHeartbeats 1000000 in
theorem reads_long (s : ByteArray) (h : (600 : Int) < (s.size : Int)) (hm : s.size < 9223372036854775808) (w : World) : Calls Tryd.prog 3 #[.string s] w fun e w' => e = .returned (.bool true) ∧ Below w.heap.size w w' := by
  refine (callsIn_wide (n := 3)).1 ?_
  refine callsIn_of_wp_marks Tryd.func3 rfl trivial ?_ rfl
  simp only [Tryd.ntmps3, List.size_toArray, List.length_cons, List.length_nil, Nat.reduceAdd, Nat.reduceSub, Array.replicate_succ, Array.replicate_zero, List.push_toArray, List.append_toArray, List.nil_append, List.cons_append]
  gi_wp2
  exact ⟨.bool true, by simp [results, Tryd.results3, go_sem], rfl, (Below.refl _ _).alloc (Nat.le_refl _) _⟩

theorem reads_good (s : ByteArray) (hs : s.size ≤ 600) (w : World) (hT : Lib.Utf8Tabs 1 2 w) (hok : (scan s.data.toList).2 = true) :
    Calls Tryd.prog 3 #[.string s] w fun e w' => e = .returned (.bool true) ∧ Below w.heap.size w w' := by
  have hru : ∀ r ∈ runesOf s.data.toList, isRune r := fun r h => runesOf_rune h
  have hrl : (runesOf s.data.toList).length ≤ 600 := by
    have := scan_len s.data.toList
    rw [← Lib.size_eq] at this
    unfold runesOf
    rw [List.length_map]
    omega
  have hsc := scan_wide s.data.toList
  have hz : (toI (runesOf s.data.toList)).length = (runesOf s.data.toList).length := by simp [toI]
  have hzl := halZ_le (runesOf s.data.toList)
  obtain ⟨q1, q2, q3, q4⟩ := counts_same hok
  have x21 : cellsOf21 (scan s.data.toList).1 = (toI (runesOf s.data.toList)).map (Value.int .i32) := by rw [hsc, cells21_toI]
  have x59 : cellsOf59 (scan s.data.toList).1 = (halZ (runesOf s.data.toList)).map (Value.int .u16) := by rw [hsc, cells59_Z]
  refine reads_core s hs w hT 0 (-1) s.size (toI (runesOf s.data.toList)).length (halZ (runesOf s.data.toList)).length (toI (runesOf s.data.toList)) (halZ (runesOf s.data.toList))
    (sum1 (scan s.data.toList).1) (sum2 (scan s.data.toList).1) (scan s.data.toList).1.length (sum4 (scan s.data.toList).1) (runesOf s.data.toList) rfl rfl (by omega) (by omega) (Nat.le_refl _) ?_ ?_ ?_ ?_ ?_ ?_ hru hsc (.inl ⟨rfl, rfl, ?_⟩)
  · intro wx
    refine (refRunes_any s (by omega) wx).mono ?_
    rintro e w' ⟨hb, ⟨_, v, rfl, hrow⟩ | ⟨h, _⟩⟩
    · obtain ⟨p, c, rfl, hr⟩ := reads_row x21 hrow
      exact ⟨hb, p, c, rfl, hr⟩
    · rw [hok] at h; cases h
  · intro wx hbx
    refine (Runes_any s (by omega) wx (Go.Proofs.Utf8Tabs_below hT hbx)).mono ?_
    rintro e w' ⟨v, x, rfl, hb, ⟨_, rfl, hrow⟩ | ⟨h, _⟩⟩
    · obtain ⟨p, c, rfl, hr⟩ := reads_row x21 hrow
      exact ⟨hb, p, c, _, rfl, hr, fun W' _ => is_any_nil W'⟩
    · rw [hok] at h; cases h
  · intro wx hbx
    refine (Halves_any s (by omega) wx (Go.Proofs.Utf8Tabs_below hT hbx)).mono ?_
    rintro e w' ⟨v, x, rfl, hb, ⟨_, rfl, hrow⟩ | ⟨h, _⟩⟩
    · obtain ⟨p, c, rfl, hr⟩ := reads_row x59 hrow
      exact ⟨hb, p, c, _, rfl, hr, fun W' _ => is_any_nil W'⟩
    · rw [hok] at h; cases h
  · intro wx hbx
    refine (Count_any s (by omega) wx (Go.Proofs.Utf8Tabs_below hT hbx)).mono ?_
    rintro e w' ⟨v, x, rfl, hb, ⟨_, rfl, rfl⟩ | ⟨h, _⟩⟩
    · exact ⟨hb, _, rfl, fun W' _ => is_any_nil W'⟩
    · rw [hok] at h; cases h
  · intro wx
    refine (refCount_good s (by omega) wx hok).mono ?_
    rintro e w' ⟨hb, rfl⟩
    refine ⟨hb, ?_⟩
    rw [q1, q2, q3, q4, ← Lib.size_eq]
    rfl
  · intro wx
    rw [ByteArray.extract_zero_size]
    refine (refEdges_any s (by omega) wx hok).mono ?_
    rintro e w' ⟨v, rfl, hown, hb⟩
    obtain ⟨p, c, rfl⟩ := own_slice hown
    exact ⟨hb, p, c, rfl, hown⟩
  · intro wx v hr
    refine (refHalves_any v (runesOf s.data.toList) wx hru hr (by omega)).mono ?_
    rintro e w' ⟨v', rfl, hrow, hb⟩
    obtain ⟨p, c, rfl, hr'⟩ := reads_row (halRow_Z _) hrow
    exact ⟨hb, p, c, rfl, hr'⟩

theorem reads_none (w : World) (k : IntKind) : reads w k (.slice none 0 0) [] := ⟨none, 0, rfl, Nat.le_refl _, Nat.zero_le _, fun h => absurd rfl h⟩
theorem told_at {w w0 w' : World} (hg : asLaid w) (hb0 : Below w.heap.size w w') {x : Value} {p : Int} (h : isAt w0 w' x p) : told w' x 3 p :=
  fun W' hb => is_at (asLaid_below hg (hb0.trans (hb.mono hb0.size))) h hb

theorem reads_bad (s : ByteArray) (hs : s.size ≤ 600) (w : World) (hT : Lib.Utf8Tabs 1 2 w) (hg : asLaid w) (hok : (scan s.data.toList).2 = false) :
    Calls Tryd.prog 3 #[.string s] w fun e w' => e = .returned (.bool true) ∧ Below w.heap.size w w' := by
  have hru : ∀ r ∈ runesOf s.data.toList, isRune r := fun r h => runesOf_rune h
  have hsc := scan_wide s.data.toList
  obtain ⟨hle, hok2, hro⟩ := scan_place s hok
  refine reads_core s hs w hT 3 (place s.data.toList) (place s.data.toList) 0 0 [] [] 0 0 0 0 (runesOf s.data.toList) rfl rfl (by omega) (by omega) hle ?_ ?_ ?_ ?_ ?_ ?_ hru hsc (.inr ⟨rfl, rfl, rfl⟩)
  · intro wx
    refine (refRunes_any s (by omega) wx).mono ?_
    rintro e w' ⟨hb, ⟨h, _⟩ | ⟨_, rfl⟩⟩
    · rw [hok] at h; cases h
    · exact ⟨hb, none, 0, rfl, reads_none _ _⟩
  · intro wx hbx
    refine (Runes_any s (by omega) wx (Go.Proofs.Utf8Tabs_below hT hbx)).mono ?_
    rintro e w' ⟨v, x, rfl, hb, ⟨h, _⟩ | ⟨_, rfl, hx⟩⟩
    · rw [hok] at h; cases h
    · exact ⟨hb, none, 0, x, rfl, reads_none _ _, told_at hg (hbx.trans (hb.mono hbx.size)) hx⟩
  · intro wx hbx
    refine (Halves_any s (by omega) wx (Go.Proofs.Utf8Tabs_below hT hbx)).mono ?_
    rintro e w' ⟨v, x, rfl, hb, ⟨h, _⟩ | ⟨_, rfl, hx⟩⟩
    · rw [hok] at h; cases h
    · exact ⟨hb, none, 0, x, rfl, reads_none _ _, told_at hg (hbx.trans (hb.mono hbx.size)) hx⟩
  · intro wx hbx
    refine (Count_any s (by omega) wx (Go.Proofs.Utf8Tabs_below hT hbx)).mono ?_
    rintro e w' ⟨v, x, rfl, hb, ⟨h, _⟩ | ⟨_, rfl, hx⟩⟩
    · rw [hok] at h; cases h
    · exact ⟨hb, x, rfl, told_at hg (hbx.trans (hb.mono hbx.size)) hx⟩
  · intro wx
    refine (refCount_bad s (by omega) wx hok).mono ?_
    rintro e w' ⟨hb, rfl⟩
    exact ⟨hb, rfl⟩
  · intro wx
    refine (refEdges_any (s.extract 0 (place s.data.toList)) (by rw [ByteArray.size_extract]; omega) wx hok2).mono ?_
    rintro e w' ⟨v, rfl, hown, hb⟩
    rw [hro] at hown
    obtain ⟨p, c, rfl⟩ := own_slice hown
    exact ⟨hb, p, c, rfl, hown⟩

theorem reads_any (s : ByteArray) (hm : s.size < 9223372036854775808) (w : World) (hT : Lib.Utf8Tabs 1 2 w) (hg : asLaid w) :
    Calls Tryd.prog 3 #[.string s] w fun e w' => e = .returned (.bool true) ∧ Below w.heap.size w w' := by
  by_cases h : s.size ≤ 600
  · by_cases hok : (scan s.data.toList).2 = true
    · exact reads_good s h w hT hok
    · exact reads_bad s h w hT hg (Bool.eq_false_iff.2 hok)
  · exact reads_long s (by omega) hm w
end Go.Proofs.YtdgpkbgmpdmiaaaDoor
