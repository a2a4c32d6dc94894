/-
  utf.Runes, utf.Halves, utf.Count: what they return of any text.
-/
import Derived.Test.YtedgnlgjmnccgabGreatDoorForms
namespace Go.Proofs.YtedgnlgjmnccgabGreatDoor
open Go.RowKit

/-- A slice of new memory that owns the cells xs; or nil, if there are none. -/
def isRow (w w' : World) (e : Nat) (v : Value) (xs : List Value) : Prop := ∃ p c, v = .slice p xs.length c ∧ w'.ownsRow w.heap.size e 1 v xs.length xs

theorem own_mono {w : World} {B B' e size n : Nat} {v : Value} {xs : List Value} (h : w.ownsRow B e size v n xs) (hB : B' ≤ B) : w.ownsRow B' e size v n xs := by
  refine ⟨h.1, ?_⟩
  rcases h.2 with hn | ⟨g, cap, cur, rfl, hg, rest⟩
  · exact .inl hn
  · exact .inr ⟨g, cap, cur, rfl, Nat.le_trans hB hg, rest⟩

set_option maxHeartbeats 1000000 in
theorem Runes_any (s : ByteArray) (hs : s.size < 400000000) (w : World) (hT : Lib.Utf8Tabs 2 3 w) :
    Calls Tryz.prog 103 #[.string s] w fun e w' => ∃ v x, e = .returned (.tuple #[v, x]) ∧ Below w.heap.size w w' ∧
      (((scan s.data.toList).2 = true ∧ x = .nilIface ∧ isRow w w' 21 v (cellsOf21 (scan s.data.toList).1)) ∨
       ((scan s.data.toList).2 = false ∧ v = .slice none 0 0 ∧ isAt w w' x (place s.data.toList))) := by
  have hlen := scan_len s.data.toList
  rw [← Lib.size_eq] at hlen
  have hb0 : Below w.heap.size w (w.alloc (.cells #[.slice none 0 0] 141)) := (Below.refl _ _).alloc (Nat.le_refl _) _
  have cE := each_all s (by unfold maxLen; omega) 168 #[.pointer (some ⟨w.heap.size, 0, none⟩)] w hT _ (runes_takes w w.heap.size (scan s.data.toList).1 (Nat.le_refl _) (by omega)) _ hb0 (gathers_made w 21 141)
  clear hlen hs hb0
  generalize place s.data.toList = pl at cE ⊢
  generalize scan s.data.toList = sc at cE ⊢
  obtain ⟨rs, ok⟩ := sc
  simp only [] at cE ⊢
  generalize cellsOf21 rs = xs at cE ⊢
  go_enter Tryz.func103, Tryz.ntmps103
  go_wp2_with (first | (go_at_call 135; refine cE.mono ?_; rintro e w1 ⟨hb1, ⟨p, c, g1, g2, g3⟩, ⟨rfl, rfl⟩ | ⟨rfl, v, rfl, ⟨b, rfl, v1, v2, v3, v4⟩⟩⟩) | fail)
  · go_ret2
    have hr : isRow w w1 21 (.slice p xs.length c) xs := ⟨_, _, rfl, own_mono g3 (Nat.le_succ _)⟩
    refine ⟨_, _, rfl, hb1, ?_⟩
    first | exact ⟨rfl, hr⟩ | exact .inl ⟨rfl, rfl, hr⟩
  · go_ret2
    have hv : isAt w w1 (.iface 273 (.pointer (some ⟨b, 0, none⟩))) pl := ⟨b, rfl, v1, v2, v3, v4⟩
    refine ⟨_, _, rfl, hb1, ?_⟩
    first | exact ⟨rfl, hv⟩ | exact .inr ⟨rfl, rfl, hv⟩

set_option maxHeartbeats 1000000 in
theorem Halves_any (s : ByteArray) (hs : s.size < 400000000) (w : World) (hT : Lib.Utf8Tabs 2 3 w) :
    Calls Tryz.prog 99 #[.string s] w fun e w' => ∃ v x, e = .returned (.tuple #[v, x]) ∧ Below w.heap.size w w' ∧
      (((scan s.data.toList).2 = true ∧ x = .nilIface ∧ isRow w w' 167 v (cellsOf59 (scan s.data.toList).1)) ∨
       ((scan s.data.toList).2 = false ∧ v = .slice none 0 0 ∧ isAt w w' x (place s.data.toList))) := by
  have hlen := scan_len s.data.toList
  rw [← Lib.size_eq] at hlen
  have hb0 : Below w.heap.size w (w.alloc (.cells #[.slice none 0 0] 144)) := (Below.refl _ _).alloc (Nat.le_refl _) _
  have cE := each_all s (by unfold maxLen; omega) 165 #[.pointer (some ⟨w.heap.size, 0, none⟩)] w hT _ (halves_takes w w.heap.size (scan s.data.toList).1 (Nat.le_refl _) (by omega) fun p hp => ((scan_spec s.data.toList.length _ (Nat.le_refl _)).1 p hp).1) _ hb0 (gathers_made w 167 144)
  clear hlen hs hb0
  generalize place s.data.toList = pl at cE ⊢
  generalize scan s.data.toList = sc at cE ⊢
  obtain ⟨rs, ok⟩ := sc
  simp only [] at cE ⊢
  generalize cellsOf59 rs = xs at cE ⊢
  go_enter Tryz.func99, Tryz.ntmps99
  go_wp2_with (first | (go_at_call 135; refine cE.mono ?_; rintro e w1 ⟨hb1, ⟨p, c, g1, g2, g3⟩, ⟨rfl, rfl⟩ | ⟨rfl, v, rfl, ⟨b, rfl, v1, v2, v3, v4⟩⟩⟩) | fail)
  · go_ret2
    have hr : isRow w w1 167 (.slice p xs.length c) xs := ⟨_, _, rfl, own_mono g3 (Nat.le_succ _)⟩
    refine ⟨_, _, rfl, hb1, ?_⟩
    first | exact ⟨rfl, hr⟩ | exact .inl ⟨rfl, rfl, hr⟩
  · go_ret2
    have hv : isAt w w1 (.iface 273 (.pointer (some ⟨b, 0, none⟩))) pl := ⟨b, rfl, v1, v2, v3, v4⟩
    refine ⟨_, _, rfl, hb1, ?_⟩
    first | exact ⟨rfl, hv⟩ | exact .inr ⟨rfl, rfl, hv⟩

theorem counted_new1 (w : World) : counted ((w.alloc (.cells #[.int .i64 0, .int .i64 0, .int .i64 0, .int .i64 0] 25)).alloc (.cells #[.int .i64 0, .int .i64 0, .int .i64 0, .int .i64 0] 25)) w.heap.size 0 0 0 0 := by
  refine ⟨⟨?_, ?_, ?_, ?_⟩, ?_, ?_, ?_, ?_⟩ <;> simp [go_sem]
theorem counted_new2 (w : World) : counted ((w.alloc (.cells #[.int .i64 0, .int .i64 0, .int .i64 0, .int .i64 0] 25)).alloc (.cells #[.int .i64 0, .int .i64 0, .int .i64 0, .int .i64 0] 25)) (w.heap.size + 1) (sum1 []) (sum2 []) (([] : List (Nat × Nat)).length : Int) (sum4 []) := by
  refine ⟨⟨?_, ?_, ?_, ?_⟩, ?_, ?_, ?_, ?_⟩ <;> simp [go_sem, sum1, sum2, sum4]

theorem count_takes2 (w : World) (l : List (Nat × Nat)) (hl : l.length < 1000000000) (hr : ∀ p ∈ l, p.2 ≤ 4) :
    Takes w 136 #[.pointer (some ⟨w.heap.size + 1, 0, none⟩)] l fun done w' => counted w' (w.heap.size + 1) (sum1 done) (sum2 done) (done.length : Int) (sum4 done) ∧ counted w' w.heap.size 0 0 0 0 := by
  have T := count_takes w (w.heap.size + 1) l (Nat.le_succ _) hl hr
  refine ⟨T.enters, fun done w1 w2 h hb => ⟨T.stays done w1 w2 h.1 hb, counted_below h.2 hb⟩, fun done p rest e w1 hI hw => ?_⟩
  have h1 := sum1_le done fun q hq => hr q (by rw [e]; simp [hq])
  have hlen := congrArg List.length e
  rw [List.length_append] at hlen
  have h2 := sum2_le done
  have h4 := sum4_le done
  have hp := hr p (by rw [e]; simp)
  have hp2 := cH_le p.1
  have hp4 := cL_le p.1
  refine (count1_any p.1 p.2 (w.heap.size + 1) w1 _ _ _ _ hI.1).mono ?_
  rintro e w2 ⟨rfl, k1, k2⟩
  refine ⟨rfl, ⟨?_, counted_old hI.2 k2 (Nat.lt_succ_self _)⟩, hw.trans (k2.mono (Nat.le_succ _))⟩
  rw [wrap64_small (by omega) (by omega), wrap64_small (by omega) (by omega), wrap64_small (by omega) (by omega), wrap64_small (by omega) (by omega)] at k1
  have e1 : sum1 (done ++ [p]) = sum1 done + p.2 := by simp [sum1]
  have e2 : sum2 (done ++ [p]) = sum2 done + cH p.1 := by simp [sum2]
  have e3 : (((done ++ [p]).length : Nat) : Int) = done.length + 1 := by simp
  have e4 : sum4 (done ++ [p]) = sum4 done + cL p.1 := by simp [sum4]
  rw [e1, e2, e3, e4]
  exact k1

/-- Four counts, as a value. -/
def cnt (n1 n2 n3 n4 : Int) : Value := .agg #[.int .i64 n1, .int .i64 n2, .int .i64 n3, .int .i64 n4]

set_option maxHeartbeats 1000000 in
theorem Count_any (s : ByteArray) (hs : s.size < 400000000) (w : World) (hT : Lib.Utf8Tabs 2 3 w) :
    Calls Tryz.prog 78 #[.string s] w fun e w' => ∃ v x, e = .returned (.tuple #[v, x]) ∧ Below w.heap.size w w' ∧
      (((scan s.data.toList).2 = true ∧ x = .nilIface ∧ v = cnt (sum1 (scan s.data.toList).1) (sum2 (scan s.data.toList).1) (scan s.data.toList).1.length (sum4 (scan s.data.toList).1)) ∨
       ((scan s.data.toList).2 = false ∧ v = cnt 0 0 0 0 ∧ isAt w w' x (place s.data.toList))) := by
  have hlen := scan_len s.data.toList
  rw [← Lib.size_eq] at hlen
  have hb0 : Below w.heap.size w ((w.alloc (.cells #[.int .i64 0, .int .i64 0, .int .i64 0, .int .i64 0] 25)).alloc (.cells #[.int .i64 0, .int .i64 0, .int .i64 0, .int .i64 0] 25)) := ((Below.refl _ _).alloc (Nat.le_refl _) _).alloc (by rw [World.size_alloc]; omega) _
  have cE := each_all s (by unfold maxLen; omega) 136 #[.pointer (some ⟨w.heap.size + 1, 0, none⟩)] w hT
    (fun done w' => counted w' (w.heap.size + 1) (sum1 done) (sum2 done) (done.length : Int) (sum4 done) ∧ counted w' w.heap.size 0 0 0 0)
    (count_takes2 w (scan s.data.toList).1 (by omega) (scan_w4 _)) _ hb0 ⟨counted_new2 w, counted_new1 w⟩
  clear hlen hs hb0
  generalize place s.data.toList = pl at cE ⊢
  generalize scan s.data.toList = sc at cE ⊢
  obtain ⟨rs, ok⟩ := sc
  simp only [] at cE ⊢
  generalize sum1 rs = n1 at cE ⊢
  generalize sum2 rs = n2 at cE ⊢
  generalize sum4 rs = n4 at cE ⊢
  generalize (rs.length : Int) = n3 at cE ⊢
  go_enter Tryz.func78, Tryz.ntmps78
  go_wp2_with (first | (go_at_call 135; refine cE.mono ?_; rintro e w1 ⟨hb1, ⟨⟨⟨a0, a1, a2, a3⟩, b0, b1, b2, b3⟩, ⟨c0, c1, c2, c3⟩, d0, d1, d2, d3⟩, ⟨rfl, rfl⟩ | ⟨rfl, v, rfl, ⟨b, rfl, v1, v2, v3, v4⟩⟩⟩) | fail)
  · refine bodyPost_ret (v := .tuple #[cnt n1 n2 n3 n4, .nilIface]) (by simp [results, Tryz.results78, go_sem, cnt, c0, c1, c2, c3]) rfl ?_
    refine ⟨_, _, rfl, ?_, ?_⟩
    · exact below_set hb1 (Nat.le_refl _) _ _ _ _
    · first | exact ⟨rfl, rfl⟩ | exact .inl ⟨rfl, rfl, rfl⟩
  · have hne : b ≠ w.heap.size := by
      intro e
      subst e
      rw [c0] at v3
      cases v3
    refine bodyPost_ret (v := .tuple #[cnt 0 0 0 0, .iface 273 (.pointer (some ⟨b, 0, none⟩))]) (by simp [results, Tryz.results78, go_sem, cnt, c0, c1, c2, c3]) rfl ?_
    refine ⟨_, _, rfl, ?_, ?_⟩
    · exact below_set hb1 (Nat.le_refl _) _ _ _ _
    · have hv : isAt w ((((w1.setCell ⟨w.heap.size, 0, none⟩ (.int .i64 0)).setCell ⟨w.heap.size, 1, none⟩ (.int .i64 0)).setCell ⟨w.heap.size, 2, none⟩ (.int .i64 0)).setCell ⟨w.heap.size, 3, none⟩ (.int .i64 0)) (.iface 273 (.pointer (some ⟨b, 0, none⟩))) pl :=
        ⟨b, rfl, v1, by simpa using v2, by simp [go_sem, v3], by simp [go_sem, v4]⟩
      first | exact ⟨rfl, hv⟩ | exact .inr ⟨rfl, rfl, hv⟩
end Go.Proofs.YtedgnlgjmnccgabGreatDoor
