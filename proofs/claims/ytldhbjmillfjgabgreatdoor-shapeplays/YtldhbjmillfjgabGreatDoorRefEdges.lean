/-
  The document's own Edges: what it returns of a sound text.
-/
import Derived.Test.YtldhbjmillfjgabGreatDoorReadsFacts
import Derived.RangeFuncRecord
namespace Go.Proofs.YtldhbjmillfjgabGreatDoor
open Go.RowKit
set_option linter.unusedVariables false

/-- What the first i runes count. -/
def edge1 (rs : List Nat) (i : Nat) : Int := (encs (rs.take i)).length
def edge2 (rs : List Nat) (i : Nat) : Int := (halRow (rs.take i)).length
def edge4 (rs : List Nat) (i : Nat) : Int := Lib.countByte (encs (rs.take i)) 10
def edge (rs : List Nat) (i : Nat) : List Value := [.int .i64 (edge1 rs i), .int .i64 (edge2 rs i), .int .i64 i, .int .i64 (edge4 rs i)]
def edges (rs : List Nat) (m : Nat) : List Value := (List.range m).flatMap (edge rs)
theorem edges_succ (rs : List Nat) (m : Nat) : edges rs (m + 1) = edges rs m ++ edge rs m := by simp [edges, List.range_succ]

theorem info36 : (Tryz.prog.info? 25).map (fun i => (i.zero, i.size, i.bytes)) = some (some (.agg #[.int .i64 0, .int .i64 0, .int .i64 0, .int .i64 0]), 4, 32) := by kernel_rfl
theorem take_extract (s : ByteArray) (k : Nat) : (s.extract 0 k).data.toList = s.data.toList.take k := by
  rw [Lib.extract_data, List.drop_zero, Nat.sub_zero]

/-- What Count tells of the first runes. -/
theorem count_take (s : ByteArray) (hs : s.size < 100000000) (rs : List Nat) (he : encs rs = s.data.toList) (hr : ∀ r ∈ rs, isRune r) (i : Nat) (hi : i ≤ rs.length) (w : World) :
    Calls Tryz.prog 8 #[.string (s.extract 0 (encs (rs.take i)).length)] w fun e w' => e = .returned (.tuple #[.agg #[.int .i64 (edge1 rs i), .int .i64 (edge2 rs i), .int .i64 i, .int .i64 (edge4 rs i)], .agg #[.int .i64 0, .int .i64 (-1)]]) ∧ Below w.heap.size w w' := by
  have hl : (s.extract 0 (encs (rs.take i)).length).data.toList = encs (rs.take i) := by
    rw [take_extract, ← he]
    have e : encs rs = encs (rs.take i) ++ encs (rs.drop i) := by rw [← encs_append, List.take_append_drop]
    rw [e, List.take_left]
  have hri : ∀ r ∈ rs.take i, isRune r := fun r h => hr r (List.mem_of_mem_take h)
  have hsc := scan_encs (rs.take i) hri
  have hro : runesOf (encs (rs.take i)) = rs.take i := by
    unfold runesOf
    rw [hsc]
    simp [wide, List.map_map, Function.comp_def]
  have hsz : (s.extract 0 (encs (rs.take i)).length).size = (encs (rs.take i)).length := by rw [Lib.size_eq, hl]
  have hlt : (s.extract 0 (encs (rs.take i)).length).size < 100000000 := by rw [ByteArray.size_extract]; omega
  refine (refCount_good _ hlt w (by rw [hl, hsc])).mono ?_
  rintro e w' ⟨hb, rfl⟩
  refine ⟨?_, hb⟩
  rw [hsz, hl, hro, List.length_take, Nat.min_eq_left hi]
  rfl

set_option maxRecDepth 100000 in
set_option maxHeartbeats 4000000 in
theorem refEdges_any (s : ByteArray) (hs : s.size < 100000000) (w : World) (hok : (scan s.data.toList).2 = true) :
    Calls Tryz.prog 118 #[.string s] w fun e w' => ∃ v, e = .returned v ∧ w'.ownsRow w.heap.size 25 4 v ((runesOf s.data.toList).length + 1) (edges (runesOf s.data.toList) ((runesOf s.data.toList).length + 1)) ∧ Below w.heap.size w w' := by
  have hru : ∀ r ∈ runesOf s.data.toList, isRune r := fun r h => runesOf_rune h
  have he := encs_runesOf hok
  have hrl : (runesOf s.data.toList).length < 100000000 := by
    have := scan_len s.data.toList
    rw [← Lib.size_eq] at this
    unfold runesOf
    rw [List.length_map]
    omega
  have cR : ∀ w, Calls Tryz.prog 56 #[.string s] w fun e w' => Below w.heap.size w w' ∧ ∃ p c, e = .returned (.tuple #[.slice p (runesOf s.data.toList).length c, .agg #[.int .i64 0, .int .i64 (-1)]]) ∧ reads w' .i32 (.slice p (runesOf s.data.toList).length c) (toI (runesOf s.data.toList)) := fun w => by
    refine (refRunes_any s hs w).mono ?_
    rintro e w' ⟨hb, ⟨_, v, rfl, p, c, rfl, hown⟩ | ⟨h, _⟩⟩
    · have e1 : cellsOf21 (scan s.data.toList).1 = (toI (runesOf s.data.toList)).map (Value.int .i32) := by rw [scan_wide, cells21_toI]
      have e2 : (cellsOf21 (scan s.data.toList).1).length = (toI (runesOf s.data.toList)).length := by rw [e1, List.length_map]
      have e3 : (toI (runesOf s.data.toList)).length = (runesOf s.data.toList).length := by simp [toI]
      rw [e2] at hown
      rw [e2, ← e3]
      exact ⟨hb, p, c, rfl, reads_own e1 hown⟩
    · rw [hok] at h; cases h
  clear hok
  generalize runesOf s.data.toList = rs at *
  have hel : ∀ i, (encs (rs.take i)).length ≤ s.size := fun i => by
    have e : encs rs = encs (rs.take i) ++ encs (rs.drop i) := by rw [← encs_append, List.take_append_drop]
    have := congrArg List.length (he.symm.trans e)
    rw [List.length_append, ← Lib.size_eq] at this
    omega
  have HC : Hid (∀ i, i ≤ rs.length → ∀ w, _) := fun i hi w => count_take s hs rs he hru i hi w
  have HEL : Hid _ := hel
  have HRU : Hid (∀ r ∈ rs, isRune r) := hru
  obtain ⟨n, hn⟩ : ∃ n, n = rs.length := ⟨_, rfl⟩
  rw [← hn] at cR hrl ⊢
  have HN : Hid (n = rs.length) := hn
  clear hru hn he hel
  obtain ⟨i0, hi, hz0, hz1, hz2⟩ := info_parts info36
  go_enter Tryz.func118, Tryz.ntmps118
  go_wp2_with (first | (go_at_call 56; refine (cR _).mono ?_; rintro e w1 ⟨hb1, p, c, rfl, hrd⟩; have HRD : Hid (reads w1 .i32 (.slice p n c) (toI rs)) := hrd; clear hrd) | fail)
  go_loopw [5, 6, 20] (fun b t i wr => ∃ (k : Nat), k ≤ n ∧ i = .int .i64 k ∧ t = .int .i64 (edge1 rs k) ∧ wr.ownsRow w1.heap.size 25 4 b (k + 1) (edges rs (k + 1)) ∧ Below w1.heap.size w1 wr) (fun _ _ i _ => n - (intOf i).toNat)
  case atStart =>
    refine ⟨0, Nat.zero_le _, rfl, rfl, ⟨by simp [edges, edge], .inr ⟨w1.heap.size + 1, 1, #[.int .i64 0, .int .i64 0, .int .i64 0, .int .i64 0], rfl, Nat.le_succ _, by rw [← World.size_alloc w1 _]; exact World.alloc_heap_new (w1.alloc _) _, Nat.le_refl _, by unfold maxLen; omega, rfl, rfl⟩⟩, ((Below.refl _ w1).alloc (Nat.le_refl _) _).alloc (by rw [World.size_alloc]; exact Nat.le_succ _) _⟩
  case round =>
    obtain ⟨k, hk, rfl, rfl, hown, hwr⟩ := hrel
    by_cases hlt : k < n
    · have hkr : k < rs.length := by rw [← HN.out]; exact hlt
      have hrd := reads_below HRD.out hwr (Nat.le_refl _)
      obtain ⟨p', c', hpc, a1, a2, a3⟩ := hrd
      have hne : toI rs ≠ [] := by
        intro e
        have := congrArg List.length e
        simp [toI] at this
        rw [this] at hkr
        exact absurd hkr (Nat.not_lt_zero _)
      obtain ⟨b, o, hp, hbw, hcell⟩ := a3 hne
      have hlen : (toI rs).length = rs.length := by simp [toI]
      have hc := hcell k (by rw [hlen]; exact hkr)
      have hze : (toI rs).getD k 0 = (rs[k] : Int) := by
        rw [List.getD_eq_getElem?_getD, toI, List.getElem?_map, List.getElem?_eq_getElem hkr]; rfl
      rw [hze] at hc
      obtain ⟨hp1, hp2, hp3⟩ := Value.slice.inj hpc
      clear hp2
      subst hp3
      subst hp1
      subst hp
      have hr := HRU.out rs[k] (List.getElem_mem _)
      have hts : rs.take (k + 1) = rs.take k ++ [rs[k]] := List.take_succ_eq_append_getElem hkr
      have h1 : (encs (rs.take (k + 1))).length = (encs (rs.take k)).length + (⟨(enc rs[k]).toArray⟩ : ByteArray).size := by
        rw [hts, encs_append, List.length_append, Lib.size_eq]
        simp [encs]
      have hE : (encs (rs.take (k + 1))).length ≤ s.size := HEL.out (k + 1)
      have cB := Bytes_any rs[k] hr
      have cC := HC.out (k + 1) hkr
      have hes : edges rs (k + 1 + 1) = edges rs (k + 1) ++ edge rs (k + 1) := edges_succ rs (k + 1)
      unfold edge at hes
      have hE1 : Hid (edge1 rs (k + 1) = ((encs (rs.take (k + 1))).length : Int)) := rfl
      have hE0 : edge1 rs k = ((encs (rs.take k)).length : Int) := rfl
      rw [hE1.out] at cC hes
      rw [hE0]
      clear hE0 a1 a2 a3 hcell hne hze hts hr hlen hpc
      generalize (⟨(enc rs[k]).toArray⟩ : ByteArray) = u at cB h1
      generalize (rs[k] : Int) = z at cB hc
      clear hkr
      generalize (encs (rs.take (k + 1))).length = N1 at *
      generalize (encs (rs.take k)).length = N0 at *
      generalize edge2 rs (k + 1) = A2 at *
      generalize edge4 rs (k + 1) = A4 at *
      have hE2 : N0 + u.size ≤ s.size := by omega
      have cC2 : ∀ w, Calls Tryz.prog 8 #[.string (s.extract 0 (N0 + u.size))] w fun e w' => e = .returned (.tuple #[.agg #[.int .i64 (N1 : Int), .int .i64 A2, .int .i64 ((k + 1 : Nat) : Int), .int .i64 A4], .agg #[.int .i64 0, .int .i64 (-1)]]) ∧ Below w.heap.size w w' := by
        rw [← h1]; exact cC
      have H1 : Hid (N1 = N0 + u.size) := h1
      clear cC h1 hE
      have hw1 := hwr.size
      have NX : Hid (∀ w0 w2 v' o, Below wr.heap.size wr w0 → w2.ownsRow w1.heap.size 25 4 v' (k + 1 + 1) (edges rs (k + 1) ++ [.int .i64 N1, .int .i64 A2, .int .i64 ((k + 1 : Nat) : Int), .int .i64 A4]) → (w0.alloc o).grownBy w2 (u5).ownBlock →
          w2.ownsRow w1.heap.size 25 4 v' (k + 1 + 1) (edges rs (k + 1 + 1)) ∧ Below w1.heap.size w1 w2) := by
        intro w0 w2 v' o hb0 h3 hg
        have hB : Below w1.heap.size wr w2 := ((hb0.mono hw1).alloc (Nat.le_trans hw1 hb0.size) o).grown hg (by rw [World.size_alloc]; have := hb0.size; omega) fun k hk => (hown.lt k hk).1
        exact ⟨by rw [hes]; exact h3, hwr.trans hB⟩
      obtain ⟨pb, cb, rfl⟩ := own_slice hown
      clear hes
      generalize edges rs (k + 1) = xs at hown NX
      go_wp2_with (first | (go_at_call 156; refine (cB _).mono ?_; rintro e w2 ⟨rfl, hb2⟩) | (go_at_call 8; refine (cC2 _).mono ?_; rintro e w3 ⟨rfl, hb3⟩; have HBB : Below wr.heap.size wr w3 := hb2.trans (hb3.mono hb2.size)) | (at_builtin; refine wpList_append_own _ rfl _ _ 202 rfl w1.heap.size 25 i0 (.agg #[.int .i64 0, .int .i64 0, .int .i64 0, .int .i64 0]) 4 32 Tryz.underlying202 hi hz0 hz1 hz2 rfl (by decide) _ (k + 1) xs rfl ((((own_below hown HBB).alloc _).alloc _).alloc _) _ 1 1 [.int .i64 N1, .int .i64 A2, .int .i64 ((k : Int) + 1), .int .i64 A4] rfl rfl ?c1 ?c2 ?c3 ?c4 ?c5 ?_) | fail)
      case c1 =>
        intro j u hj
        match j, hj with
        | 0, hj => simp at hj; subst hj; simp [Addr.add, go_sem]
        | 1, hj => simp at hj; subst hj; simp [Addr.add, go_sem]
        | 2, hj => simp at hj; subst hj; simp [Addr.add, go_sem]
        | 3, hj => simp at hj; subst hj; simp [Addr.add, go_sem]
      case c2 => simp [Value.oneCell']
      case c3 => unfold maxLen; omega
      case c4 => omega
      case c5 =>
        have := HBB.size
        simp
        omega
      intro v' w4 hown4 hg _
      have hR := NX.out ((w3.alloc _).alloc _) w4 v' _ (HBB.alloc HBB.size _ |>.alloc (by rw [World.size_alloc]; have := HBB.size; omega) _) hown4 hg
      obtain ⟨R1, R2⟩ := hR
      obtain ⟨p9, c9, hv⟩ := own_slice hown4
      clear hown4 hg hown hi hz0 hz1 hz2 hc cB cC2 HBB hb2 hb3
      rw [hv] at R1 ⊢
      go_wp2
      go_roundw
      case rel => exact ⟨k + 1, by omega, by go_num, by rw [hE1.out, H1.out]; go_num, R1, R2⟩
      case measure => simp [intOf]; omega
    · have hkn : k = n := by omega
      subst hkn
      obtain ⟨pb, cb, rfl⟩ := own_slice hown
      have HO : Hid _ := hown
      clear hown
      go_wp2
      go_ret
      exact ⟨_, rfl, own_mono HO.out hb1.size, hb1.trans (hwr.mono hb1.size)⟩
end Go.Proofs.YtldhbjmillfjgabGreatDoor
