/-
  The document's own Halves: what it returns of any runes.
-/
import Derived.Test.YtldhbjmillfjgabGreatDoorRefRunes
namespace Go.Proofs.YtldhbjmillfjgabGreatDoor
open Go.RowKit
set_option linter.unusedVariables false

/-- The halves of runes, as cells. -/
def halRow (rs : List Nat) : List Value := rs.flatMap halCells
theorem halRow_snoc (rs : List Nat) (r : Nat) : halRow (rs ++ [r]) = halRow rs ++ halCells r := by simp [halRow]
theorem halRow_len (rs : List Nat) : (halRow rs).length ≤ 2 * rs.length := by
  induction rs with
  | nil => simp [halRow]
  | cons r rs ih =>
    have h : (halCells r).length ≤ 2 := by unfold halCells hal; split <;> simp
    have e : halRow (r :: rs) = halCells r ++ halRow rs := by simp [halRow]
    rw [e, List.length_append, List.length_cons]
    omega
set_option maxRecDepth 100000 in
set_option maxHeartbeats 4000000 in
theorem refHalves_any (v : Value) (rs : List Nat) (w : World) (hz : ∀ r ∈ rs, isRune r) (hr : reads w .i32 v (toI rs)) (hl : rs.length < 100000000) :
    Calls Tryz.prog 57 #[v] w fun e w' => ∃ v, e = .returned v ∧ isRow w w' 139 v (halRow rs) ∧ Below w.heap.size w w' := by
  obtain ⟨p, c, rfl, r1, r2, r3⟩ := hr
  obtain ⟨n, hn⟩ : ∃ n, n = (toI rs).length := ⟨_, rfl⟩
  rw [← hn] at r1 r3 ⊢
  have HN : Hid (n = rs.length) := by show _ = _; rw [hn]; simp [toI]
  have HT : Hid (toI rs ≠ [] ↔ rs ≠ []) := by show _ ↔ _; simp [toI]
  have hln : n < 100000000 := by rw [HN.out]; exact hl
  clear hn hl
  have R3 : Hid (toI rs ≠ [] → ∃ b o, p = some ⟨b, o, none⟩ ∧ b < w.heap.size ∧ ∀ i, i < n → w.cell? ⟨b, o + i, none⟩ = some (.int .i32 ((toI rs).getD i 0))) := r3
  have HZ : Hid (∀ r ∈ rs, isRune r) := hz
  clear r3 hz
  obtain ⟨i0, hi, hz0, hz1, hz2⟩ := info_parts info59
  go_enter Tryz.func57, Tryz.ntmps57
  go_wp2
  go_loopw [3, 9] (fun b i wr => ∃ (k : Nat), k ≤ n ∧ i = .int .i64 k ∧ wr.ownsRow w.heap.size 139 1 b (halRow (rs.take k)).length (halRow (rs.take k)) ∧ Below w.heap.size w wr) (fun _ i _ => n - (intOf i).toNat)
  case atStart => exact ⟨0, Nat.zero_le _, rfl, World.ownsRow_nil _ _ _ _, Below.refl _ _⟩
  case round =>
    obtain ⟨k, hk, rfl, hown, hwr⟩ := hrel
    have hlen := halRow_len (rs.take k)
    rw [List.length_take] at hlen
    by_cases hlt : k < n
    · have hkr : k < rs.length := by rw [← HN.out]; exact hlt
      have hne : rs ≠ [] := by intro e; rw [e] at hkr; exact absurd hkr (Nat.not_lt_zero _)
      obtain ⟨b, o, rfl, hbw, hcell⟩ := R3.out (HT.out.2 hne)
      have hc := (hwr.cell (p := ⟨b, o + k, none⟩) hbw).trans (hcell k hlt)
      have hze : (toI rs).getD k 0 = (rs[k] : Int) := by
        rw [List.getD_eq_getElem?_getD, toI, List.getElem?_map, List.getElem?_eq_getElem hkr]; rfl
      rw [hze] at hc
      have hru := HZ.out rs[k] (List.getElem_mem _)
      have hts : rs.take (k + 1) = rs.take k ++ [rs[k]] := List.take_succ_eq_append_getElem hkr
      have hsn := halRow_snoc (rs.take k) rs[k]
      rw [← hts] at hsn
      generalize rs[k] = r at hc hru hsn
      unfold isRune at hru
      have hm : (halRow (rs.take k)).length < 300000000 := by omega
      by_cases hbig : r < 65536
      · have hh : halCells r = [.int .u16 r] := by simp [halCells, hal, hbig]
        rw [hh] at hsn
        have NX : Hid (∀ w1 v' o, w1.ownsRow w.heap.size 139 1 v' ((halRow (rs.take k)).length + 1) (halRow (rs.take k) ++ [.int .u16 r]) → (wr.alloc o).grownBy w1 (u3).ownBlock →
            w1.ownsRow w.heap.size 139 1 v' (halRow (rs.take (k + 1))).length (halRow (rs.take (k + 1))) ∧ Below w.heap.size w w1) := by
          intro w1 v' o h1 hg
          have hB : Below w.heap.size wr w1 := ((Below.refl _ wr).alloc hwr.size o).grown hg (by rw [World.size_alloc]; have := hwr.size; omega) fun k hk => (hown.lt k hk).1
          refine ⟨?_, hwr.trans hB⟩
          rw [hsn, List.length_append]
          exact h1
        obtain ⟨pb, cb, rfl⟩ := own_slice hown
        have q0 : (0 : Int) ≤ (r : Int) := by omega
        have q1 : (r : Int) < 65536 := by omega
        have hws := hwr.size
        clear hsn hts hze hh hcell hlen hru hbig
        generalize (r : Int) = z at hc q0 q1 NX
        generalize halRow (rs.take k) = xs at hown hm NX
        go_wp2_with (first | (at_builtin; refine wpList_append_own _ rfl (.tmp 30) (.tmp 33) 114 rfl w.heap.size 139 i0 (.int .u16 0) 1 2 Tryz.underlying114 hi hz0 hz1 hz2 rfl (by decide) _ _ _ rfl (hown.alloc _) ⟨wr.heap.size, 0, none⟩ 1 1 [.int .u16 z] rfl rfl (cell_one_new _ _ _) (ints_oneCell .u16 [z]) (by unfold maxLen; omega) (by omega) (by first | omega | (simp; omega)) ?_; intro v' w1 hown1 hg _) | fail)
        have hnx := NX.out w1 v' _ hown1 hg
        obtain ⟨n0, n1⟩ := hnx
        clear hown1 hg hown
        go_wp2
        go_roundw
        case rel => exact ⟨k + 1, by omega, by go_num, n0, n1⟩
        case measure => simp [intOf]; omega
      · have hh : halCells r = [.int .u16 (55296 + ((r : Int) - 65536) / 1024), .int .u16 (56320 + ((r : Int) - 65536) % 1024)] := by
          simp only [halCells, hal, hbig, if_false, List.map_cons, List.map_nil]
          rw [show ((55296 + (r - 65536) / 1024 : Nat) : Int) = 55296 + ((r : Int) - 65536) / 1024 by omega, show ((56320 + (r - 65536) % 1024 : Nat) : Int) = 56320 + ((r : Int) - 65536) % 1024 by omega]
        rw [hh] at hsn
        have NX : Hid (∀ w1 v' o, w1.ownsRow w.heap.size 139 1 v' ((halRow (rs.take k)).length + 2) (halRow (rs.take k) ++ [.int .u16 (55296 + ((r : Int) - 65536) / 1024), .int .u16 (56320 + ((r : Int) - 65536) % 1024)]) → (wr.alloc o).grownBy w1 (u3).ownBlock →
            w1.ownsRow w.heap.size 139 1 v' (halRow (rs.take (k + 1))).length (halRow (rs.take (k + 1))) ∧ Below w.heap.size w w1) := by
          intro w1 v' o h1 hg
          have hB : Below w.heap.size wr w1 := ((Below.refl _ wr).alloc hwr.size o).grown hg (by rw [World.size_alloc]; have := hwr.size; omega) fun k hk => (hown.lt k hk).1
          refine ⟨?_, hwr.trans hB⟩
          rw [hsn, List.length_append]
          exact h1
        obtain ⟨pb, cb, rfl⟩ := own_slice hown
        have q0 : ¬ (r : Int) < 65536 := by omega
        have q1 : (r : Int) ≤ 1114111 := by omega
        have q2 : (65536 : Int) ≤ (r : Int) := by omega
        have hws := hwr.size
        clear hsn hts hze hh hcell hlen hru hbig
        generalize (r : Int) = z at hc q0 q1 q2 NX
        generalize halRow (rs.take k) = xs at hown hm NX
        go_wp2_with (first | (at_builtin; refine wpList_append_own _ rfl (.tmp 17) (.tmp 28) 114 rfl w.heap.size 139 i0 (.int .u16 0) 1 2 Tryz.underlying114 hi hz0 hz1 hz2 rfl (by decide) _ _ _ rfl (hown.alloc _) ⟨wr.heap.size, 0, none⟩ 2 2 [.int .u16 (55296 + (z - 65536) / 1024), .int .u16 (56320 + (z - 65536) % 1024)] rfl rfl (cell_two_new _ _ _ _) (ints_oneCell .u16 [55296 + (z - 65536) / 1024, 56320 + (z - 65536) % 1024]) (by unfold maxLen; omega) (by omega) (by first | omega | (simp; omega)) ?_; intro v' w1 hown1 hg _) | fail)
        have hnx := NX.out w1 v' _ hown1 hg
        obtain ⟨n0, n1⟩ := hnx
        clear hown1 hg hown
        go_wp2
        go_roundw
        case rel => exact ⟨k + 1, by omega, by go_num, n0, n1⟩
        case measure => simp [intOf]; omega
    · have e : rs.take k = rs := List.take_of_length_le (by rw [← HN.out]; omega)
      rw [e] at hown
      obtain ⟨pb, cb, rfl⟩ := own_slice hown
      have HO : Hid (isRow w wr 139 (.slice pb (halRow rs).length cb) (halRow rs)) := ⟨pb, cb, rfl, hown⟩
      clear e hown R3 HZ hlen
      go_wp2
      go_ret
      exact ⟨_, rfl, HO.out, hwr⟩
end Go.Proofs.YtldhbjmillfjgabGreatDoor
