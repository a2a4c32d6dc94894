/-
  bridge.To by runes: what Check tells; else each part in bytes.
  pos.Convert by units that are none, and within a rune.
  Operations in other units: what comes of them (pure).
  bridge.turn by any units: what comes, or a part that ends within a rune.
  The document's own Check: what it says of any operation.
  The document's Gather: its closure.
  The document's Gather: gaps in least form.
-/
import Derived.Test.YtldhbjmillfjgabGreatDoorPartE
import Derived.Test.YtldhbjmillfjgabGreatDoorPartF
import Derived.Test.YtldhbjmillfjgabGreatDoorPartD
import Derived.Test.YtldhbjmillfjgabGreatDoorPartB
import Derived.Laws.EntriesVeiled
namespace Go.Proofs.YtldhbjmillfjgabGreatDoor
open Go.RowKit
set_option linter.unusedVariables false
attribute [local go_sem] Oper.semAt_some

/-- A part in bytes, over the runes that are yet to come. -/
def byt1 (rs : List Nat) (q : Pt) : Pt := if 0 < q.keep then ⟨C1 (rs.take (lenP q).toNat), 0, []⟩ else if 0 < q.drop then ⟨0, C1 (rs.take (lenP q).toNat), []⟩ else ⟨0, 0, q.put⟩
def bytQ : List Nat → List Pt → List Pt
  | _, [] => []
  | rs, q :: qs => byt1 rs q :: bytQ (rs.drop (lenP q).toNat) qs
theorem bytQ_len : ∀ (qs : List Pt) (rs : List Nat), (bytQ rs qs).length = qs.length
  | [], _ => rfl
  | q :: qs, rs => by simp [bytQ, bytQ_len qs]
theorem bytQ_take : ∀ (qs : List Pt) (rs : List Nat) (k : Nat) (hk : k < qs.length), (∀ q ∈ qs, 0 ≤ lenP q) → (bytQ rs qs).take (k + 1) = (bytQ rs qs).take k ++ [byt1 (rs.drop (longP (qs.take k)).toNat) qs[k]]
  | [], rs, k, hk, _ => by simp at hk
  | q :: qs, rs, 0, hk, _ => by simp [bytQ, longP]
  | q :: qs, rs, k + 1, hk, h => by
    have h1 := h q (by simp)
    have h2 : ∀ (l : List Pt), (∀ q ∈ l, 0 ≤ lenP q) → 0 ≤ longP l := by
      intro l hl
      induction l with
      | nil => simp [longP]
      | cons p l ih =>
        have := hl p (by simp)
        have := ih fun x hx => hl x (by simp [hx])
        simp only [longP, List.map_cons, List.sum_cons] at this ⊢
        omega
    have h3 := h2 (qs.take k) fun x hx => h x (by simp [List.mem_of_mem_take hx])
    have ih := bytQ_take qs (rs.drop (lenP q).toNat) k (by simpa using hk) fun x hx => h x (by simp [hx])
    have e : longP ((q :: qs).take (k + 1)) = lenP q + longP (qs.take k) := by simp [longP]
    rw [e, bytQ, List.take_succ_cons, List.take_succ_cons, ih, List.drop_drop, show (lenP q + longP (qs.take k)).toNat = (lenP q).toNat + (longP (qs.take k)).toNat by omega]
    simp

theorem clone_any (u : List UInt8) (hu : u.length ≤ 10000000) (w : World) : Calls Tryz.prog 88 #[.string ⟨u.toArray⟩] w fun e w' => e = .returned (.string ⟨u.toArray⟩) ∧ Below w.heap.size w w' := by
  have c := Tryz.stringslite_Clone ⟨u.toArray⟩ w (by simp [ByteArray.size]; omega)
  have C : Hid _ := c
  clear c
  go_enter Tryz.func88, Tryz.ntmps88
  go_wp2_with (first | (go_at_call 140; refine Calls.mono C.out ?_; rintro e w1 ⟨rfl, hb1⟩) | fail)
  go_ret
  exact ⟨rfl, hb1⟩

theorem sum_pos {l : List Pt} (hl : ∀ q ∈ l, 0 ≤ lenP q) : 0 ≤ longP l := by
  induction l with
  | nil => simp [longP]
  | cons p l ih =>
    have := hl p (by simp)
    have := ih fun x hx => hl x (by simp [hx])
    simp only [longP, List.map_cons, List.sum_cons] at this ⊢
    omega
theorem chk2_long : ∀ {ps : List Pt} {N : Int}, (∀ q ∈ ps, 0 ≤ lenP q) → chk2 ps N = 0 → longP ps = N
  | [], N, _, h => by
    unfold chk2 at h
    split at h
    · rename_i e; simp [longP, e]
    · cases h
  | p :: ps, N, hl, h => by
    unfold chk2 at h
    split at h
    · cases h
    · have := chk2_long (fun q hq => hl q (by simp [hq])) h
      have e : longP (p :: ps) = lenP p + longP ps := by simp [longP]
      rw [e, this]; unfold lenP; omega
theorem chkE_parts {ps : List Pt} {N : Int} (h : chkE ps N = 0) : (∀ p ∈ ps, oneB p = true ∧ (scan p.put).2 = true) ∧ longP ps = N ∧ ∀ q ∈ ps, 0 ≤ lenP q := by
  unfold chkE at h
  split at h
  · rename_i h1
    have h2 := chk1_ones h1
    have h3 : ∀ q ∈ ps, 0 ≤ lenP q := fun q hq => by
      have := (one_sound (h2 q hq).1).1
      unfold soundP at this; unfold lenP; omega
    exact ⟨h2, chk2_long h3 h, h3⟩
  · rename_i h1; exact absurd h h1
theorem C1_take_drop (rs : List Nat) (i j : Nat) : C1 (rs.take (i + j)) = C1 (rs.take i) + C1 ((rs.drop i).take j) := by
  rw [List.take_add, C1_append]
theorem C1_take_le (rs : List Nat) (i : Nat) : C1 (rs.take i) ≤ C1 rs := by
  have e : C1 rs = C1 (rs.take i) + C1 (rs.drop i) := by rw [← C1_append, List.take_append_drop]
  have := C1_pos (rs.drop i)
  omega

theorem stp_grown {W W' : World} {s b : Nat} {u v a h : Int} {row : Option Nat} (k : stp W s b u v a h) (hg : W.grownBy W' row) (hr : ∀ j, row = some j → s + 5 ≤ j) : stp W' s b u v a h := by
  have l0 := World.block_lt_of_cell? W _ k.r
  have l1 := World.block_lt_of_cell? W _ k.u
  have l2 := World.block_lt_of_cell? W _ k.v
  have l3 := World.block_lt_of_cell? W _ k.a
  have l4 := World.block_lt_of_cell? W _ k.h
  have nb : ∀ j, j < s + 5 → some j ≠ row := fun j hj e => by have := hr j e.symm; omega
  have e0 := hg.block s l0 (nb s (by omega))
  have e1 := hg.block (s + 1) l1 (nb (s + 1) (by omega))
  have e2 := hg.block (s + 2) l2 (nb (s + 2) (by omega))
  have e3 := hg.block (s + 3) l3 (nb (s + 3) (by omega))
  have e4 := hg.block (s + 4) l4 (nb (s + 4) (by omega))
  exact ⟨(cellOn e0 0).trans k.r, (cellOn e1 0).trans k.u, (cellOn e2 0).trans k.v, (cellOn e3 0).trans k.a, (frozenOn e3 0).trans k.af, (cellOn e4 0).trans k.h, (frozenOn e4 0).trans k.hf⟩
theorem sz_le {w w2 : World} {o : Obj} (h : (w.alloc o).heap.size ≤ w2.heap.size) : w.heap.size + 1 ≤ w2.heap.size := by
  rw [World.size_alloc] at h
  exact h
theorem oneB_shapes {q : Pt} (h : oneB q = true) : (0 < q.keep ∧ q.drop = 0 ∧ q.put = []) ∨ (q.keep = 0 ∧ 0 < q.drop ∧ q.put = []) ∨ (q.keep = 0 ∧ q.drop = 0 ∧ q.put ≠ []) := by
  unfold oneB at h
  split at h
  · rename_i h1; exact .inl ⟨of_decide_eq_true h, h1.1, h1.2⟩
  · split at h
    · rename_i h1 h2; exact .inr (.inl ⟨h2.1, of_decide_eq_true h, h2.2⟩)
    · rename_i h1 h2
      have h3 := of_decide_eq_true h
      exact .inr (.inr ⟨h3.1, h3.2, fun e => h1 ⟨h3.2, e⟩⟩)
/-- Where the loop stands. -/
def brI (ws : World) (b : Nat) (rs : List Nat) (qs : List Pt) (k : Nat) (v : Value) (wr : World) : Prop :=
  k ≤ qs.length ∧ wr.ownsRow (ws.heap.size + 5) 50 3 v k (cellsP ((bytQ rs qs).take k)) ∧ stp wr ws.heap.size b 3 1 (longP (qs.take k)) (C1 (rs.take (longP (qs.take k)).toNat)) ∧ Below ws.heap.size ws wr ∧ ws.heap.size + 5 ≤ wr.heap.size

set_option maxRecDepth 100000 in
set_option maxHeartbeats 8000000 in
theorem turn_fine (b : Nat) (rs : List Nat) (qs : List Pt) (v : Value) (w : World) (hT : Lib.Utf8Tabs 2 3 w) (hR : isRope w b rs) (hr : opAt w v qs) (hwf : ∀ q ∈ qs, wfP q) (hl : qs.length ≤ 1000) (hpl : ∀ q ∈ qs, q.put.length ≤ 10000000) (hz : C1 rs ≤ 1000000) (hc : chkE qs (rs.length : Int) = 0) (hbw : b < w.heap.size) :
    Calls Tryz.prog 64 #[.pointer (some ⟨b, 0, none⟩), .int .i64 3, .int .i64 1, v] w fun e w' => ∃ v', e = .returned (.tuple #[v', .nilIface]) ∧ opAt w' v' (bytQ rs qs) ∧ Below w.heap.size w w' := by
  obtain ⟨hp1, hp2, hp3⟩ := chkE_parts hc
  have hrl : (rs.length : Int) ≤ C1 rs := by have := C3_le rs; unfold C3 at this; omega
  have cV : Hid (Calls Tryz.prog 119 #[.pointer (some ⟨b, 0, none⟩), .int .i64 3, .int .i64 1, .int .i64 0] w fun e w' => e = .returned (.tuple #[.int .i64 0, .nilIface]) ∧ Below w.heap.size w w') := by
    have := convert_any b rs 3 1 0 (.inr (.inr rfl)) (.inl rfl) (Int.le_refl _) (by_pos 3 rs) w hT hR (by omega) [] (find_zero 3 rs) (by_nil 3)
    rw [by_nil] at this
    exact this
  have cN : Hid (∀ wx, Below w.heap.size w wx → Calls Tryz.prog 20 #[.pointer (some ⟨b, 0, none⟩)] wx fun e w' => e = .returned (cntV rs) ∧ Below wx.heap.size wx w') := fun wx hb => ropecounts_any b rs wx (isRope_below hR hb)
  have cI : Hid (∀ wx, Calls Tryz.prog 19 #[cntV rs, .int .i64 3] wx fun e w' => e = .returned (.int .i64 (rs.length : Int)) ∧ Below wx.heap.size wx w') := fun wx => In_any 3 rs wx
  have cK : Hid (∀ wx, Below w.heap.size w wx → Calls Tryz.prog 68 #[v, .int .i64 (rs.length : Int)] wx fun e w' => e = .returned .nilIface ∧ Below wx.heap.size wx w') := fun wx hb => by
    have := Check_any v qs (rs.length : Int) wx (Go.Proofs.Utf8Tabs_below hT hb) (opAt_below hr hb (Nat.le_refl _)) hwf (by omega) (by omega)
    rw [hc] at this
    exact this
  have cS : Hid (∀ wx, Calls Tryz.prog 120 #[.pointer (some ⟨b, 0, none⟩), .int .i64 3, .int .i64 1] wx fun e w' => e = .returned (stepsV wx.heap.size) ∧ stp w' wx.heap.size b 3 1 0 0 ∧ Below wx.heap.size wx w' ∧ w'.heap.size = wx.heap.size + 5) := fun wx => bsteps_any b 3 1 wx
  have HRW : Hid (isRope w b rs) := hR
  have HTW : Hid (Lib.Utf8Tabs 2 3 w) := hT
  have HOP : Hid (opAt w v qs) := hr
  have HP1 : Hid (∀ p ∈ qs, oneB p = true ∧ (scan p.put).2 = true) := hp1
  have HP2 : Hid (longP qs = rs.length) := hp2
  have HP3 : Hid (∀ q ∈ qs, 0 ≤ lenP q) := hp3
  have HPL : Hid (∀ q ∈ qs, q.put.length ≤ 10000000) := hpl
  obtain ⟨p, c, rfl, r1, r2, r3⟩ := hr
  obtain ⟨n, hn⟩ : ∃ n, qs.length = n := ⟨_, rfl⟩
  have HN : Hid (qs.length = n) := hn
  rw [hn] at r1 hl cK ⊢
  obtain ⟨i0, hi, hz0, hz1, hz2⟩ := info_parts info_part
  obtain ⟨RL, hRL⟩ : ∃ RL : Int, (rs.length : Int) = RL := ⟨_, rfl⟩
  rw [hRL] at cI cK hrl
  have HRL : Hid ((rs.length : Int) = RL) := hRL
  unfold cntV at cN cI
  unfold stepsV at cS
  clear hT hR hwf hp1 hp2 hp3 hpl hc hn r3 hRL
  unfold maxLen at r2
  go_enter Tryz.func64, Tryz.ntmps64
  go_wp2_with (first
    | (go_at_call 119; refine Calls.mono cV.out ?_; rintro e w1 ⟨rfl, hb1⟩; have HB1 : Hid (Below w.heap.size w w1) := hb1; clear hb1)
    | (go_at_call 20; refine (cN.out _ HB1.out).mono ?_; rintro e w2 ⟨rfl, hb2⟩; have HB2 : Hid (Below w.heap.size w w2) := HB1.out.trans (hb2.mono HB1.out.size); clear hb2)
    | (go_at_call 19; refine (cI.out _).mono ?_; rintro e w3 ⟨rfl, hb3⟩; have HB3 : Hid (Below w.heap.size w w3) := HB2.out.trans (hb3.mono HB2.out.size); clear hb3)
    | (go_at_call 68; refine (cK.out _ HB3.out).mono ?_; rintro e w4 ⟨rfl, hb4⟩; have HB4 : Hid (Below w.heap.size w w4) := HB3.out.trans (hb4.mono HB3.out.size); clear hb4)
    | (go_at_call 120; refine (cS.out _).mono ?_; rintro e w5 ⟨rfl, hs5, hb5, hz5⟩; have HB5 : Hid (Below w4.heap.size w4 w5) := hb5; have HS5 : Hid (stp w5 w4.heap.size b 3 1 0 0) := hs5; clear hs5 hb5)
    | (at_make; refine wpList_make_own _ rfl _ _ 23 rfl (w4.heap.size + 5) 50 i0 (.agg #[.int .i64 0, .int .i64 0, .string ⟨#[]⟩]) 3 Tryz.underlying23 hi hz0 hz1 .i64 .i64 n n rfl rfl rfl (by rw [hz2]; omega) (by unfold maxLen; omega) (by omega) ?_)
    | fail)
  intro w6 hown6 hg6
  have HO6 : Hid (w6.ownsRow (w4.heap.size + 5) 50 3 (.slice (some ⟨w4.heap.size + 5, 0, none⟩) 0 n) 0 []) := hown6
  have HB6 : Hid (Below w4.heap.size w4 w6) := HB5.out.grown hg6 HB5.out.size fun k hk => by cases hk
  have HS6 : Hid (stp w6 w4.heap.size b 3 1 0 0) := stp_grown HS5.out hg6 fun k hk => by cases hk
  have hs6 := hg6.size
  rw [hz5] at hs6
  clear hown6 hg6 cV cN cI cK cS HB1 HB2 HB3 HB5 HS5
  go_wp2
  go_loopw [14, 47] (fun v14 i wr => ∃ (k : Nat), i = .int .i64 k ∧ brI w4 b rs qs k v14 wr) (fun _ i _ => n - (intOf i).toNat)
  case atStart =>
    refine ⟨0, rfl, Nat.zero_le _, by rw [List.take_zero]; exact HO6.out, ?_, HB6.out, hs6⟩
    have e1 : longP (qs.take 0) = 0 := by simp [longP]
    have e2 : C1 (rs.take (0 : Int).toNat) = 0 := rfl
    rw [e1, e2]
    exact HS6.out
  case round =>
    obtain ⟨k, rfl, hk, hown, hst, hbw', hsz0⟩ := hrel
    obtain ⟨pv, cv, rfl⟩ := own_slice hown
    clear HO6 HB6 HS6
    by_cases hlt : k < n
    · have hkr : k < qs.length := by rw [HN.out]; exact hlt
      have hne : qs ≠ [] := by intro e; rw [e] at hkr; exact absurd hkr (Nat.not_lt_zero _)
      have HBW0 : Hid (Below w.heap.size w wr) := HB4.out.trans (hbw'.mono HB4.out.size)
      obtain ⟨p0, c0, hv, _, _, hcell⟩ := HOP.out
      obtain ⟨b0, o, rfl, hb0, hcell⟩ := hcell hne
      obtain ⟨f0, f1, f2⟩ := hcell k qs[k] (List.getElem?_eq_getElem hkr)
      have g0 := (HBW0.out.cell (p := ⟨b0, o + k * 3, none⟩) hb0).trans f0
      have g1 := (HBW0.out.cell (p := ⟨b0, o + k * 3 + 1, none⟩) hb0).trans f1
      have g2 := (HBW0.out.cell (p := ⟨b0, o + k * 3 + 2, none⟩) hb0).trans f2
      obtain rfl : p = some ⟨b0, o, none⟩ := by injection hv
      clear hv hcell f0 f1 f2 hne
      have hqm : qs[k] ∈ qs := List.getElem_mem _
      have hsnd := (one_sound (HP1.out _ hqm).1).1
      have hplq := HPL.out _ hqm
      have hts : qs.take (k + 1) = qs.take k ++ [qs[k]] := List.take_succ_eq_append_getElem hkr
      have hA1' : longP (qs.take (k + 1)) = longP (qs.take k) + lenP qs[k] := by rw [hts, long_append]; simp [longP]
      have hA0 : 0 ≤ longP (qs.take k) := sum_pos fun q hq => HP3.out q (List.mem_of_mem_take hq)
      have hAN : longP (qs.take (k + 1)) ≤ RL := by
        have e2 : longP qs = longP (qs.take (k + 1)) + longP (qs.drop (k + 1)) := by rw [← long_append, List.take_append_drop]
        have := sum_pos fun q hq => HP3.out q (List.mem_of_mem_drop (i := k + 1) hq)
        have := HP2.out; have := HRL.out
        omega
      have htk := bytQ_take qs rs k hkr HP3.out
      generalize qs[k] = q at *
      obtain ⟨K, D, U⟩ := q
      obtain ⟨A, hA⟩ : ∃ A, longP (qs.take k) = A := ⟨_, rfl⟩
      rw [hA] at hst hA1' hA0 htk
      have hld : lenP ⟨K, D, U⟩ = K + D := rfl
      rw [hld] at hA1'
      obtain ⟨L, hL⟩ : ∃ L, (bytQ rs qs).take k = L := ⟨_, rfl⟩
      rw [hL] at hown htk
      have HTK : Hid ((bytQ rs qs).take (k + 1) = L ++ [byt1 (rs.drop A.toNat) ⟨K, D, U⟩]) := htk
      have HOW : Hid ((wr.alloc (.cells #[.int .i64 K, .int .i64 D, .string ⟨U.toArray⟩] 50)).ownsRow (w4.heap.size + 5) 50 3 (.slice pv k cv) k (cellsP L)) := hown.alloc _
      have HBW : Hid (Below w4.heap.size w4 (wr.alloc (.cells #[.int .i64 K, .int .i64 D, .string ⟨U.toArray⟩] 50))) := hbw'.alloc hbw'.size _
      obtain ⟨s1, s2⟩ := hsnd
      have s1 : 0 ≤ K := s1
      have s2 : 0 ≤ D := s2
      obtain ⟨X, hX⟩ : ∃ X, rs.take (A + (K + D)).toNat = X := ⟨_, rfl⟩
      have hfind : find (reachesBy 3 (A + (K + D))) [] rs = X := by
        have := find_runes rs [] (A + (K + D)) (by simp; omega) (by have := HRL.out; simp; omega)
        rw [this, ← hX]; simp
      have hX3 : by_ 3 X = A + (K + D) := by
        show ((X.length : Nat) : Int) = _
        rw [← hX, List.length_take]; have := HRL.out; omega
      have hXle : C1 X ≤ C1 rs := by rw [← hX]; exact C1_take_le _ _
      have hsum : C1 X = C1 (rs.take A.toNat) + C1 ((rs.drop A.toNat).take (K + D).toNat) := by
        rw [← hX, show (A + (K + D)).toNat = A.toNat + (K + D).toNat by omega, C1_take_drop]
      have hp0 := C1_pos (rs.take A.toNat)
      have hp1 := C1_pos ((rs.drop A.toNat).take (K + D).toNat)
      have hw0 : IntKind.i64.wrap (K + D) = K + D := by rw [IntKind.wrap_i64]; omega
      have hbx : Below wr.heap.size wr (wr.alloc (.cells #[.int .i64 K, .int .i64 D, .string ⟨U.toArray⟩] 50)) := (Below.refl _ _).alloc (Nat.le_refl _) _
      have cX := steps1_any w4.heap.size b rs X 3 1 A (C1 (rs.take A.toNat)) (K + D) _ (hst.below hbx) (.inr (.inr rfl)) (.inl rfl) (by omega) (by show _ ≤ ((rs.length : Nat) : Int); have := HRL.out; omega) hfind hX3
        (Go.Proofs.Utf8Tabs_below HTW.out (HB4.out.trans (HBW.out.mono HB4.out.size))) (isRope_below HRW.out (HB4.out.trans (HBW.out.mono HB4.out.size))) (by have := HB4.out.size; omega) (by omega) hp0 (by show _ ≤ C1 X; omega) (by show C1 X ≤ _; omega) (by show ((rs.length : Nat) : Int) ≤ _; have := HRL.out; omega)
        (fun W' hW' => ⟨Go.Proofs.Utf8Tabs_below HTW.out (HB4.out.trans ((HBW.out.trans hW').mono HB4.out.size)), isRope_below HRW.out (HB4.out.trans ((HBW.out.trans hW').mono HB4.out.size))⟩)
      have hdiff : by_ 1 X - C1 (rs.take A.toNat) = C1 ((rs.drop A.toNat).take (K + D).toNat) := by show C1 X - _ = _; omega
      have hby1 : by_ 1 X = C1 X := rfl
      rw [hdiff, hby1] at cX
      have CX : Hid _ := cX
      have HA1 : Hid (longP (qs.take (k + 1)) = A + (K + D)) := hA1'
      have HX1 : Hid (C1 (rs.take (A + (K + D)).toNat) = C1 X) := by show C1 _ = _; rw [hX]
      have x0 : (wr.alloc (.cells #[.int .i64 K, .int .i64 D, .string ⟨U.toArray⟩] 50)).cell? ⟨wr.heap.size, 0, none⟩ = some (.int .i64 K) := by simp [go_sem]
      have x1 : (wr.alloc (.cells #[.int .i64 K, .int .i64 D, .string ⟨U.toArray⟩] 50)).cell? ⟨wr.heap.size, 1, none⟩ = some (.int .i64 D) := by simp [go_sem]
      have x2 : (wr.alloc (.cells #[.int .i64 K, .int .i64 D, .string ⟨U.toArray⟩] 50)).cell? ⟨wr.heap.size, 2, none⟩ = some (.string ⟨U.toArray⟩) := by simp [go_sem]
      have hne3 : wr.heap.size ≠ w4.heap.size + 3 := by omega
      have hne4 : wr.heap.size ≠ w4.heap.size + 4 := by omega
      have hltw : wr.heap.size < (wr.alloc (.cells #[.int .i64 K, .int .i64 D, .string ⟨U.toArray⟩] 50)).heap.size := by simp
      have hsz0 : w4.heap.size + 5 ≤ (wr.alloc (.cells #[.int .i64 K, .int .i64 D, .string ⟨U.toArray⟩] 50)).heap.size := by rw [World.size_alloc]; omega
      have hj : (k : Int) < (n : Int) := by omega
      obtain ⟨M, hM⟩ : ∃ M, C1 ((rs.drop A.toNat).take (K + D).toNat) = M := ⟨_, rfl⟩
      rw [hM] at CX hp1
      have HM : Hid (C1 ((rs.drop A.toNat).take (K + D).toNat) = M) := hM
      clear hown hst hbw' hX hfind hX3 hXle hsum hdiff hby1 cX hA1' htk hL hA hM hbx hAN hts hqm hkr hp0
      by_cases hK : 0 < K
      · have e1 : byt1 (rs.drop A.toNat) ⟨K, D, U⟩ = ⟨M, 0, []⟩ := by unfold byt1; rw [if_pos hK]; show (⟨C1 _, 0, []⟩ : Pt) = _; rw [← HM.out]; rfl
        rw [e1] at HTK
        go_wp2_with (first
          | (go_at_call 164; refine Calls.mono CX.out ?_; rintro e w7 ⟨rfl, hs7, hb7, hz7, ho7, hk7⟩; have HS7 : Hid (stp w7 w4.heap.size b 3 1 (A + (K + D)) (C1 X)) := hs7; have HB7 : Hid (Below w4.heap.size w4 w7) := HBW.out.trans hb7; have HO7 : Hid (w7.ownsRow (w4.heap.size + 5) 50 3 (.slice pv k cv) k (cellsP L)) := ho7 _ _ _ _ _ _ (Nat.le_refl _) hsz0 HOW.out; have y0 := (cellOnF (hk7 wr.heap.size hne3 hne4 hltw) 0).trans x0; have y1 := (cellOnF (hk7 wr.heap.size hne3 hne4 hltw) 1).trans x1; have y2 := (cellOnF (hk7 wr.heap.size hne3 hne4 hltw) 2).trans x2; have hs57 := sz_le hz7; clear hs7 hb7 ho7 hk7)
          | (at_builtin; refine wpList_append_own _ rfl _ _ 23 rfl (w4.heap.size + 5) 50 i0 (.agg #[.int .i64 0, .int .i64 0, .string ⟨#[]⟩]) 3 32 Tryz.underlying23 hi hz0 hz1 hz2 rfl (by decide) _ _ _ rfl (HO7.out.alloc _) ⟨w7.heap.size, 0, none⟩ 1 1 (partCells ⟨M, 0, []⟩) rfl rfl (cells_newN _ _ (by first | rfl | simp) _ _) (partCells_one _) (by unfold maxLen; omega) (by omega) (by first | omega | (simp; omega)) ?_)
          | fail)
        intro v' w' hown' hg' _
        obtain ⟨p', c', rfl⟩ := own_slice hown'
        have HB9 : Hid (Below w4.heap.size w4 w') := (HB7.out.alloc HB7.out.size _).grown hg' (by simp; omega) fun k hk => by have := (HO7.out.lt k hk).1; omega
        have HS9 : Hid (stp w' w4.heap.size b 3 1 (A + (K + D)) (C1 X)) := stp_grown (HS7.out.below ((Below.refl _ _).alloc (Nat.le_refl _) _)) hg' fun k hk => (HO7.out.lt k hk).1
        have HO9 : Hid (w'.ownsRow (w4.heap.size + 5) 50 3 (.slice p' (k + 1) c') (k + 1) (cellsP L ++ partCells ⟨M, 0, []⟩)) := hown'
        have hs9 := hg'.size
        rw [World.size_alloc] at hs9
        clear hown' hg'
        go_wp2
        go_roundw
        case rel =>
          refine ⟨k + 1, by go_num, ?_, ?_, ?_, HB9.out, by omega⟩
          · have := HN.out; omega
          · rw [HTK.out]
            rw [cellsP_snoc]
            have e := HO9.out
            exact e
          · rw [HA1.out, HX1.out]; exact HS9.out
        case measure => simp [intOf]; omega

      · by_cases hD : 0 < D
        · have e1 : byt1 (rs.drop A.toNat) ⟨K, D, U⟩ = ⟨0, M, []⟩ := by unfold byt1; rw [if_neg hK, if_pos hD]; show (⟨0, C1 _, []⟩ : Pt) = _; rw [← HM.out]; rfl
          rw [e1] at HTK
          go_wp2_with (first
            | (go_at_call 164; refine Calls.mono CX.out ?_; rintro e w7 ⟨rfl, hs7, hb7, hz7, ho7, hk7⟩; have HS7 : Hid (stp w7 w4.heap.size b 3 1 (A + (K + D)) (C1 X)) := hs7; have HB7 : Hid (Below w4.heap.size w4 w7) := HBW.out.trans hb7; have HO7 : Hid (w7.ownsRow (w4.heap.size + 5) 50 3 (.slice pv k cv) k (cellsP L)) := ho7 _ _ _ _ _ _ (Nat.le_refl _) hsz0 HOW.out; have y0 := (cellOnF (hk7 wr.heap.size hne3 hne4 hltw) 0).trans x0; have y1 := (cellOnF (hk7 wr.heap.size hne3 hne4 hltw) 1).trans x1; have y2 := (cellOnF (hk7 wr.heap.size hne3 hne4 hltw) 2).trans x2; have hs57 := sz_le hz7; clear hs7 hb7 ho7 hk7)
            | (at_builtin; refine wpList_append_own _ rfl _ _ 23 rfl (w4.heap.size + 5) 50 i0 (.agg #[.int .i64 0, .int .i64 0, .string ⟨#[]⟩]) 3 32 Tryz.underlying23 hi hz0 hz1 hz2 rfl (by decide) _ _ _ rfl (HO7.out.alloc _) ⟨w7.heap.size, 0, none⟩ 1 1 (partCells ⟨0, M, []⟩) rfl rfl (cells_newN _ _ (by first | rfl | simp) _ _) (partCells_one _) (by unfold maxLen; omega) (by omega) (by first | omega | (simp; omega)) ?_)
            | fail)
          intro v' w' hown' hg' _
          obtain ⟨p', c', rfl⟩ := own_slice hown'
          have HB9 : Hid (Below w4.heap.size w4 w') := (HB7.out.alloc HB7.out.size _).grown hg' (by simp; omega) fun k hk => by have := (HO7.out.lt k hk).1; omega
          have HS9 : Hid (stp w' w4.heap.size b 3 1 (A + (K + D)) (C1 X)) := stp_grown (HS7.out.below ((Below.refl _ _).alloc (Nat.le_refl _) _)) hg' fun k hk => (HO7.out.lt k hk).1
          have HO9 : Hid (w'.ownsRow (w4.heap.size + 5) 50 3 (.slice p' (k + 1) c') (k + 1) (cellsP L ++ partCells ⟨0, M, []⟩)) := hown'
          have hs9 := hg'.size
          rw [World.size_alloc] at hs9
          clear hown' hg'
          go_wp2
          go_roundw
          case rel =>
            refine ⟨k + 1, by go_num, ?_, ?_, ?_, HB9.out, by omega⟩
            · have := HN.out; omega
            · rw [HTK.out]
              rw [cellsP_snoc]
              have e := HO9.out
              exact e
            · rw [HA1.out, HX1.out]; exact HS9.out
          case measure => simp [intOf]; omega

        · have e1 : byt1 (rs.drop A.toNat) ⟨K, D, U⟩ = ⟨0, 0, U⟩ := by unfold byt1; rw [if_neg hK, if_neg hD]
          rw [e1] at HTK
          have CL : Hid (∀ wx, Calls Tryz.prog 88 #[.string ⟨U.toArray⟩] wx fun e w' => e = .returned (.string ⟨U.toArray⟩) ∧ Below wx.heap.size wx w') := fun wx => clone_any U hplq wx
          go_wp2_with (first
            | (go_at_call 164; refine Calls.mono CX.out ?_; rintro e w7 ⟨rfl, hs7, hb7, hz7, ho7, hk7⟩; have HS7 : Hid (stp w7 w4.heap.size b 3 1 (A + (K + D)) (C1 X)) := hs7; have HB7 : Hid (Below w4.heap.size w4 w7) := HBW.out.trans hb7; have HO7 : Hid (w7.ownsRow (w4.heap.size + 5) 50 3 (.slice pv k cv) k (cellsP L)) := ho7 _ _ _ _ _ _ (Nat.le_refl _) hsz0 HOW.out; have y0 := (cellOnF (hk7 wr.heap.size hne3 hne4 hltw) 0).trans x0; have y1 := (cellOnF (hk7 wr.heap.size hne3 hne4 hltw) 1).trans x1; have y2 := (cellOnF (hk7 wr.heap.size hne3 hne4 hltw) 2).trans x2; have hs57 := sz_le hz7; clear hs7 hb7 ho7 hk7)
            | (go_at_call 88; refine (CL.out _).mono ?_; rintro e w8 ⟨rfl, hb8⟩; have HB8 : Hid (Below w4.heap.size w4 w8) := HB7.out.trans (hb8.mono HB7.out.size); have HS8 : Hid (stp w8 w4.heap.size b 3 1 (A + (K + D)) (C1 X)) := HS7.out.below hb8; have HO8 : Hid (w8.ownsRow (w4.heap.size + 5) 50 3 (.slice pv k cv) k (cellsP L)) := own_below HO7.out hb8; have hs58 := hb8.size; clear hb8)
            | (at_builtin; refine wpList_append_own _ rfl _ _ 23 rfl (w4.heap.size + 5) 50 i0 (.agg #[.int .i64 0, .int .i64 0, .string ⟨#[]⟩]) 3 32 Tryz.underlying23 hi hz0 hz1 hz2 rfl (by decide) _ _ _ rfl (HO8.out.alloc _) ⟨w8.heap.size, 0, none⟩ 1 1 (partCells ⟨0, 0, U⟩) rfl rfl (cells_newN _ _ (by first | rfl | simp) _ _) (partCells_one _) (by unfold maxLen; omega) (by omega) (by first | omega | (simp; omega)) ?_)
            | fail)
          intro v' w' hown' hg' _
          obtain ⟨p', c', rfl⟩ := own_slice hown'
          have HB9 : Hid (Below w4.heap.size w4 w') := (HB8.out.alloc HB8.out.size _).grown hg' (by simp; omega) fun k hk => by have := (HO8.out.lt k hk).1; omega
          have HS9 : Hid (stp w' w4.heap.size b 3 1 (A + (K + D)) (C1 X)) := stp_grown (HS8.out.below ((Below.refl _ _).alloc (Nat.le_refl _) _)) hg' fun k hk => (HO8.out.lt k hk).1
          have HO9 : Hid (w'.ownsRow (w4.heap.size + 5) 50 3 (.slice p' (k + 1) c') (k + 1) (cellsP L ++ partCells ⟨0, 0, U⟩)) := hown'
          have hs9 := hg'.size
          rw [World.size_alloc] at hs9
          clear hown' hg'
          go_wp2
          go_roundw
          case rel =>
            refine ⟨k + 1, by go_num, ?_, ?_, ?_, HB9.out, by omega⟩
            · have := HN.out; omega
            · rw [HTK.out]
              rw [cellsP_snoc]
              have e := HO9.out
              exact e
            · rw [HA1.out, HX1.out]; exact HS9.out
          case measure => simp [intOf]; omega

    · obtain rfl : k = n := by have := HN.out; omega
      have e : (bytQ rs qs).take k = bytQ rs qs := List.take_of_length_le (by rw [bytQ_len, HN.out]; exact Nat.le_refl _)
      have eL : (bytQ rs qs).length = k := by rw [bytQ_len, HN.out]
      rw [e] at hown
      have HO : Hid (wr.ownsRow (w4.heap.size + 5) 50 3 (.slice pv k cv) k (cellsP (bytQ rs qs))) := hown
      have HB : Hid (Below w.heap.size w wr) := HB4.out.trans (hbw'.mono HB4.out.size)
      clear hown e hst hbw'
      have hop : opAt wr (.slice pv k cv) (bytQ rs qs) := by
        have := HO.out
        rw [← eL] at this ⊢
        exact opAt_own this
      have HOPW : Hid (opAt wr (.slice pv k cv) (bytQ rs qs)) := hop
      clear hop eL
      go_wp2
      go_ret2
      exact ⟨.slice pv k cv, rfl, HOPW.out, HB.out⟩
end Go.Proofs.YtldhbjmillfjgabGreatDoor

namespace Go.Proofs.YtldhbjmillfjgabGreatDoor
open Go.RowKit
set_option linter.unusedVariables false
attribute [local go_sem] Oper.semAt_some

def unitOk (u : Int) : Prop := u = 1 ∨ u = 2 ∨ u = 3
theorem isUnit_bad (u : Int) (hu : ¬ unitOk u) (w : World) : Calls Tryz.prog 192 #[.int .i64 u] w fun e w' => e = .returned (.bool false) ∧ w' = w := by
  have k1 : (u == 1) = false := beq_eq_false_iff_ne.2 fun e => hu (.inl e)
  have k2 : (u == 2) = false := beq_eq_false_iff_ne.2 fun e => hu (.inr (.inl e))
  have k3 : (u == 3) = false := beq_eq_false_iff_ne.2 fun e => hu (.inr (.inr e))
  clear hu
  go_enter Tryz.func192, Tryz.ntmps192
  go_wp2
  go_ret
  exact ⟨rfl, rfl⟩
set_option maxRecDepth 100000 in
set_option maxHeartbeats 1000000 in
theorem ahead_bad (b : Nat) (u at_ : Int) (hu : ¬ unitOk u) (w : World) :
    Calls Tryz.prog 163 #[.pointer (some ⟨b, 0, none⟩), .int .i64 u, .int .i64 at_] w fun e w' => e = .returned (.tuple #[cntV [], errV 1]) ∧ Below w.heap.size w w' := by
  have cN := fun wx => isUnit_bad u hu wx
  have hb2 : Below w.heap.size w (((w.alloc (.cells #[.int .i64 u] 3)).alloc (.cells #[.int .i64 at_] 3)).alloc (.cells #[.int .i64 0, .int .i64 0, .int .i64 0, .int .i64 0] 25)) := (((Below.refl _ w).alloc (Nat.le_refl _) _).alloc (by simp) _).alloc (by simp; omega) _
  have HB2 : Hid _ := hb2
  have hV : errV 1 = .iface 26 (.int .i64 1) := rfl
  have hC : cntV [] = .agg #[.int .i64 0, .int .i64 0, .int .i64 0, .int .i64 0] := rfl
  rw [hV, hC]
  clear hu hb2 hV hC
  go_enter Tryz.func163, Tryz.ntmps163
  go_wp2_with (first
    | (go_at_call 192; refine (cN _).mono ?_; rintro e w1 ⟨rfl, hw1⟩; obtain rfl := hw1.symm)
    | fail)
  refine bodyPost_ret (v := .tuple #[.agg #[.int .i64 0, .int .i64 0, .int .i64 0, .int .i64 0], .iface 26 (.int .i64 1)]) (by simp [results, Tryz.results163, go_sem]) rfl ⟨rfl, HB2.out⟩
set_option maxHeartbeats 1000000 in
theorem unitError_bad (b : Nat) (u : Int) (hu : ¬ unitOk u) (w : World) :
    Calls Tryz.prog 162 #[.pointer (some ⟨b, 0, none⟩), .int .i64 u] w fun e w' => e = .returned (errV 1) ∧ Below w.heap.size w w' := by
  have cA : Hid _ := ahead_bad b u 0 hu w
  have hV : errV 1 = .iface 26 (.int .i64 1) := rfl
  have hC : cntV [] = .agg #[.int .i64 0, .int .i64 0, .int .i64 0, .int .i64 0] := rfl
  rw [hV] at cA ⊢
  rw [hC] at cA
  clear hu hV hC
  go_enter Tryz.func162, Tryz.ntmps162
  go_wp2_with (first
    | (go_at_call 163; refine Calls.mono cA.out ?_; rintro e w1 ⟨rfl, hb1⟩)
    | fail)
  go_ret
  exact ⟨rfl, hb1.alloc hb1.size _⟩
set_option maxHeartbeats 1000000 in
theorem convert_to (b : Nat) (u v at_ : Int) (hv : ¬ unitOk v) (w : World) :
    Calls Tryz.prog 119 #[.pointer (some ⟨b, 0, none⟩), .int .i64 u, .int .i64 v, .int .i64 at_] w fun e w' => e = .returned (.tuple #[.int .i64 0, errV 1]) ∧ Below w.heap.size w w' := by
  have cU : Hid _ := unitError_bad b v hv w
  have hV : errV 1 = .iface 26 (.int .i64 1) := rfl
  rw [hV] at cU ⊢
  clear hv hV
  go_enter Tryz.func119, Tryz.ntmps119
  go_wp2_with (first
    | (go_at_call 162; refine Calls.mono cU.out ?_; rintro e w1 ⟨rfl, hb1⟩)
    | fail)
  go_ret2
  exact ⟨rfl, hb1⟩
set_option maxHeartbeats 1000000 in
theorem convert_from (b : Nat) (rs : List Nat) (u v at_ : Int) (hv : unitOk v) (hu : ¬ unitOk u) (w : World) (hT : Lib.Utf8Tabs 2 3 w) (h : isRope w b rs) (hz : C1 rs ≤ 100000000) :
    Calls Tryz.prog 119 #[.pointer (some ⟨b, 0, none⟩), .int .i64 u, .int .i64 v, .int .i64 at_] w fun e w' => e = .returned (.tuple #[.int .i64 0, errV 1]) ∧ Below w.heap.size w w' := by
  have cU : Hid _ := unitError_good b rs v hv w hT h hz
  have cA : Hid (∀ wx, Calls Tryz.prog 163 #[.pointer (some ⟨b, 0, none⟩), .int .i64 u, .int .i64 at_] wx fun e w' => e = .returned (.tuple #[.agg #[.int .i64 0, .int .i64 0, .int .i64 0, .int .i64 0], .iface 26 (.int .i64 1)]) ∧ Below wx.heap.size wx w') := fun wx => ahead_bad b u at_ hu wx
  have hV : errV 1 = .iface 26 (.int .i64 1) := rfl
  rw [hV]
  clear hv hu hV hT h hz
  go_enter Tryz.func119, Tryz.ntmps119
  go_wp2_with (first
    | (go_at_call 162; refine Calls.mono cU.out ?_; rintro e w1 ⟨rfl, hb1⟩; have HB1 : Hid (Below w.heap.size w w1) := hb1; clear hb1)
    | (go_at_call 163; refine (cA.out _).mono ?_; rintro e w2 ⟨rfl, hb2⟩; have HB2 : Hid (Below w.heap.size w w2) := HB1.out.trans (hb2.mono HB1.out.size); clear hb2)
    | fail)
  go_ret2
  exact ⟨rfl, HB2.out.alloc HB2.out.size _⟩
set_option maxHeartbeats 1000000 in
theorem convert_ord (b : Nat) (rs : List Nat) (u v at_ : Int) (hu : unitOk u) (hv : unitOk v) (hl0 : 0 ≤ at_) (hl1 : at_ ≤ by_ u rs) (w : World) (hT : Lib.Utf8Tabs 2 3 w) (h : isRope w b rs) (hz : C1 rs ≤ 100000000) (X : List Nat) (hX : find (reachesBy u at_) [] rs = X) (hfine : by_ u X ≠ at_) :
    Calls Tryz.prog 119 #[.pointer (some ⟨b, 0, none⟩), .int .i64 u, .int .i64 v, .int .i64 at_] w fun e w' => e = .returned (.tuple #[.int .i64 0, errV 10]) ∧ Below w.heap.size w w' := by
  have cU : Hid _ := unitError_good b rs v hv w hT h hz
  have cA : Hid (∀ wx, Below w.heap.size w wx → Calls Tryz.prog 163 #[.pointer (some ⟨b, 0, none⟩), .int .i64 u, .int .i64 at_] wx fun e w' => e = .returned (.tuple #[.agg #[.int .i64 0, .int .i64 0, .int .i64 0, .int .i64 0], .iface 26 (.int .i64 10)]) ∧ Below wx.heap.size wx w') := fun wx hb => by
    have := ahead_any b rs u at_ hu hl0 hl1 wx (Go.Proofs.Utf8Tabs_below hT hb) (isRope_below h hb) hz
    rw [hX, if_neg hfine] at this
    exact this
  have hV : errV 10 = .iface 26 (.int .i64 10) := rfl
  rw [hV]
  clear hT h hu hz hv hl0 hl1 hX hfine hV
  go_enter Tryz.func119, Tryz.ntmps119
  go_wp2_with (first
    | (go_at_call 162; refine Calls.mono cU.out ?_; rintro e w1 ⟨rfl, hb1⟩; have HB1 : Hid (Below w.heap.size w w1) := hb1; clear hb1)
    | (go_at_call 163; refine (cA.out _ HB1.out).mono ?_; rintro e w2 ⟨rfl, hb2⟩; have HB2 : Hid (Below w.heap.size w w2) := HB1.out.trans (hb2.mono HB1.out.size); clear hb2)
    | fail)
  go_ret2
  exact ⟨rfl, HB2.out.alloc HB2.out.size _⟩
end Go.Proofs.YtldhbjmillfjgabGreatDoor

namespace Go.Proofs.YtldhbjmillfjgabGreatDoor
set_option linter.unusedVariables false

/-- A part in another unit. -/
def unit1 (n : Int) (q : Pt) : Pt := if 0 < q.keep then ⟨n, 0, []⟩ else if 0 < q.drop then ⟨0, n, []⟩ else ⟨0, 0, q.put⟩
/-- How much is ahead of a place, as runes. -/
def upTo (rs : List Nat) (u a : Int) : List Nat := find (reachesBy u a) [] rs
def onEdge (rs : List Nat) (u a : Int) : Bool := decide (by_ u (upTo rs u a) = a)
/-- The parts in another unit, and whether all end between two runes. -/
def turnZ (rs : List Nat) (u v : Int) : Int → List Pt → List Pt × Bool
  | _, [] => ([], true)
  | a, q :: qs => if onEdge rs u (a + lenP q) then
      (unit1 (by_ v (upTo rs u (a + lenP q)) - by_ v (upTo rs u a)) q :: (turnZ rs u v (a + lenP q) qs).1, (turnZ rs u v (a + lenP q) qs).2)
    else ([], false)
theorem C2_one (r : Nat) : 1 ≤ C2 [r] := by
  unfold C2 sum2 wide
  simp only [List.map_cons, List.map_nil, List.sum_cons, List.sum_nil, Int.add_zero]
  unfold cH
  split <;> omega
theorem by_one {u : Int} (hu : unitOk u) (r : Nat) : 1 ≤ by_ u [r] := by
  unfold by_
  rcases hu with rfl | rfl | rfl
  · rw [if_pos rfl, C1_len]
    have := List.length_pos_iff.2 (enc_ne r)
    have e : encs [r] = enc r := by simp [encs]
    rw [e]; omega
  · rw [if_neg (by decide), if_pos rfl]
    exact C2_one r
  · rw [if_neg (by decide), if_neg (by decide), if_pos rfl]
    show (1 : Int) ≤ ((1 : Nat) : Int); omega
/-- More runes, more of each unit. -/
theorem by_mono {u : Int} (hu : unitOk u) : ∀ (rs : List Nat) (i j : Nat), i < j → j ≤ rs.length → by_ u (rs.take i) < by_ u (rs.take j)
  | rs, i, j, h, hj => by
    have e : rs.take j = rs.take i ++ (rs.drop i).take (j - i) := by rw [← List.take_add]; congr 1; omega
    rw [e, by_append]
    have hne : (rs.drop i).take (j - i) ≠ [] := fun e => by
      have := congrArg List.length e
      rw [List.length_take, List.length_drop, List.length_nil] at this
      omega
    cases hx : (rs.drop i).take (j - i) with
    | nil => exact absurd hx hne
    | cons r x =>
      have e2 : r :: x = [r] ++ x := rfl
      rw [e2, by_append]
      have := by_one hu r
      have := by_pos u x
      omega
/-- What is ahead of a place: as few runes as reach it. -/
theorem find_least (u a : Int) : ∀ (rs pre : List Nat), a ≤ by_ u (pre ++ rs) → ∃ k, k ≤ rs.length ∧ find (reachesBy u a) pre rs = pre ++ rs.take k ∧ a ≤ by_ u (pre ++ rs.take k) ∧ ∀ i, i < k → by_ u (pre ++ rs.take i) < a
  | [], pre, h => by
    refine ⟨0, Nat.le_refl _, ?_, by simpa using h, fun i hi => absurd hi (Nat.not_lt_zero _)⟩
    have : reachesBy u a pre = true := decide_eq_true (by simpa using h)
    unfold find
    rw [if_pos this]; simp
  | r :: rs, pre, h => by
    by_cases h0 : a ≤ by_ u pre
    · refine ⟨0, Nat.zero_le _, ?_, by simpa using h0, fun i hi => absurd hi (Nat.not_lt_zero _)⟩
      have : reachesBy u a pre = true := decide_eq_true h0
      unfold find
      rw [if_pos this]; simp
    · obtain ⟨k, k1, k2, k3, k4⟩ := find_least u a rs (pre ++ [r]) (by simpa using h)
      have e : ∀ i, pre ++ (r :: rs).take (i + 1) = (pre ++ [r]) ++ rs.take i := fun i => by simp
      refine ⟨k + 1, by simp; omega, ?_, by rw [e]; exact k3, fun i hi => ?_⟩
      · rw [e, ← k2]
        have hf : reachesBy u a pre = false := decide_eq_false h0
        conv => lhs; unfold find
        rw [hf, if_neg (by decide), seek]
        conv => rhs; unfold find
        split
        · rfl
        · simp
      · cases i with
        | zero => rw [List.take_zero, List.append_nil]; omega
        | succ i => rw [e]; exact k4 i (by omega)
/-- What is ahead, as the first runes. -/
theorem upTo_least (rs : List Nat) (u a : Int) (h : a ≤ by_ u rs) : ∃ k, k ≤ rs.length ∧ upTo rs u a = rs.take k ∧ a ≤ by_ u (rs.take k) ∧ ∀ i, i < k → by_ u (rs.take i) < a := by
  obtain ⟨k, h1, h2, h3, h4⟩ := find_least u a rs [] (by simpa using h)
  exact ⟨k, h1, by unfold upTo; simpa using h2, by simpa using h3, fun i hi => by simpa using h4 i hi⟩
/-- The first of the places at which it is just so much; there is one where what is ahead is so much. -/
theorem edge_first {u : Int} (hu : unitOk u) {rs : List Nat} {a : Int} (h : a ≤ by_ u rs) :
    (onEdge rs u a = true → ∃ k, k ≤ rs.length ∧ upTo rs u a = rs.take k ∧ by_ u (rs.take k) = a ∧ ∀ i, i < k → by_ u (rs.take i) ≠ a) ∧
    (onEdge rs u a = false → ∀ i, i ≤ rs.length → by_ u (rs.take i) ≠ a) := by
  obtain ⟨k, h1, h2, h3, h4⟩ := upTo_least rs u a h
  unfold onEdge
  rw [h2]
  refine ⟨fun e => ⟨k, h1, h2 ▸ rfl, of_decide_eq_true e, fun i hi => by have := h4 i hi; omega⟩, fun e i hi e2 => ?_⟩
  have hne : by_ u (rs.take k) ≠ a := of_decide_eq_false e
  by_cases hik : i < k
  · have := h4 i hik; omega
  · by_cases hke : k = i
    · subst hke; exact hne e2
    · have := by_mono hu rs k i (by omega) hi
      omega
theorem upTo_le {u v : Int} (rs : List Nat) {a : Int} (h : a ≤ by_ u rs) : by_ v (upTo rs u a) ≤ by_ v rs := by
  obtain ⟨k, h1, h2, _, _⟩ := upTo_least rs u a h
  rw [h2]
  have e : rs = rs.take k ++ rs.drop k := (List.take_append_drop k rs).symm
  have : by_ v rs = by_ v (rs.take k) + by_ v (rs.drop k) := by rw [← by_append, List.take_append_drop]
  have := by_pos v (rs.drop k)
  omega
theorem upTo_mono {u v : Int} (rs : List Nat) {a b : Int} (hab : a ≤ b) (h : b ≤ by_ u rs) : by_ v (upTo rs u a) ≤ by_ v (upTo rs u b) := by
  obtain ⟨k, k1, k2, k3, k4⟩ := upTo_least rs u a (by omega)
  obtain ⟨j, j1, j2, j3, j4⟩ := upTo_least rs u b h
  rw [k2, j2]
  have hkj : k ≤ j := by
    by_cases hh : k ≤ j
    · exact hh
    · have := k4 j (by omega); omega
  have e : rs.take j = rs.take k ++ (rs.drop k).take (j - k) := by rw [← List.take_add]; congr 1; omega
  rw [e, by_append]
  have := by_pos v ((rs.drop k).take (j - k))
  omega
theorem upTo_zero (rs : List Nat) (u : Int) : upTo rs u 0 = [] := find_zero u rs
end Go.Proofs.YtldhbjmillfjgabGreatDoor

namespace Go.Proofs.YtldhbjmillfjgabGreatDoor
open Go.RowKit
set_option linter.unusedVariables false
attribute [local go_sem] Oper.semAt_some

set_option maxRecDepth 100000 in
set_option maxHeartbeats 2000000 in
theorem steps1_err (s b : Nat) (rs : List Nat) (u v a h n : Int) (W : World) (k : stp W s b u v a h) (hu : unitOk u) (hv : unitOk v) (h0 : 0 ≤ a + n) (h1 : a + n ≤ by_ u rs) (hfine : by_ u (upTo rs u (a + n)) ≠ a + n)
    (hz : C1 rs ≤ 100000000) (hbig : by_ u rs ≤ 300000000)
    (hK : ∀ W', Below s W W' → Lib.Utf8Tabs 2 3 W' ∧ isRope W' b rs) :
    Calls Tryz.prog 164 #[.int .i64 n, .pointer (some ⟨s + 3, 0, none⟩), .pointer (some ⟨s, 0, none⟩), .pointer (some ⟨s + 1, 0, none⟩), .pointer (some ⟨s + 2, 0, none⟩), .pointer (some ⟨s + 4, 0, none⟩)] W fun e w' =>
      e = .returned (.tuple #[.int .i64 0, .iface 26 (.int .i64 10)]) ∧ Below s W w' := by
  have l3 := World.block_lt_of_cell? W _ k.a
  obtain ⟨k1, k2, k3, k4, k5, k6, k7⟩ := k
  have hw1 : IntKind.i64.wrap (a + n) = a + n := by rw [IntKind.wrap_i64]; omega
  have hb1 : Below s W (W.setCell ⟨s + 3, 0, none⟩ (.int .i64 (a + n))) := (Below.refl s W).setCell (p := ⟨s + 3, 0, none⟩) (Nat.le_add_right _ _) _
  obtain ⟨hT1, hR1⟩ := hK _ hb1
  have cC : Hid (Calls Tryz.prog 119 #[.pointer (some ⟨b, 0, none⟩), .int .i64 u, .int .i64 v, .int .i64 (a + n)] (W.setCell ⟨s + 3, 0, none⟩ (.int .i64 (a + n))) fun e w' => e = .returned (.tuple #[.int .i64 0, .iface 26 (.int .i64 10)]) ∧ Below (W.setCell ⟨s + 3, 0, none⟩ (.int .i64 (a + n))).heap.size (W.setCell ⟨s + 3, 0, none⟩ (.int .i64 (a + n))) w') := convert_ord b rs u v (a + n) hu hv h0 h1 (W.setCell ⟨s + 3, 0, none⟩ (.int .i64 (a + n))) hT1 hR1 hz _ rfl hfine
  have HB1 : Hid (Below s W (W.setCell ⟨s + 3, 0, none⟩ (.int .i64 (a + n)))) := hb1
  clear hfine hu hv h0 h1 hz hK hT1 hR1 hb1 hbig
  go_enter Tryz.func164, Tryz.ntmps164
  go_wp2_with (first
    | (go_at_call 119; refine Calls.mono cC.out ?_; rintro e w2 ⟨rfl, hb2⟩; have HB2 : Hid (Below s W w2) := HB1.out.trans (hb2.mono (by simp; omega)); clear hb2)
    | fail)
  go_ret2
  exact ⟨rfl, HB2.out⟩

/-- What comes of parts in another unit; none, where one ends within a rune. -/
def turnO (rs : List Nat) (u v : Int) (qs : List Pt) : List Pt := if (turnZ rs u v 0 qs).2 then (turnZ rs u v 0 qs).1 else []
def turnX (rs : List Nat) (u v : Int) (qs : List Pt) : Int := if (turnZ rs u v 0 qs).2 then 0 else 10
theorem turnZ_len : ∀ (qs : List Pt) (rs : List Nat) (u v a : Int), (turnZ rs u v a qs).1.length ≤ qs.length
  | [], _, _, _, _ => by simp [turnZ]
  | q :: qs, rs, u, v, a => by
    unfold turnZ
    split
    · have := turnZ_len qs rs u v (a + lenP q)
      simp; omega
    · simp
/-- Where the loop stands. -/
def brZ (ws : World) (b : Nat) (rs : List Nat) (u v : Int) (qs : List Pt) (k : Nat) (val : Value) (wr : World) : Prop :=
  ∃ L : List Pt, L.length = k ∧ turnZ rs u v 0 qs = (L ++ (turnZ rs u v (longP (qs.take k)) (qs.drop k)).1, (turnZ rs u v (longP (qs.take k)) (qs.drop k)).2) ∧
  k ≤ qs.length ∧ wr.ownsRow (ws.heap.size + 5) 50 3 val k (cellsP L) ∧ stp wr ws.heap.size b u v (longP (qs.take k)) (by_ v (upTo rs u (longP (qs.take k)))) ∧ Below ws.heap.size ws wr ∧ ws.heap.size + 5 ≤ wr.heap.size

set_option maxRecDepth 100000 in
set_option maxHeartbeats 8000000 in
theorem turnz_chk (b : Nat) (rs : List Nat) (u v : Int) (qs : List Pt) (val : Value) (w : World) (hu : unitOk u) (hv : unitOk v) (hT : Lib.Utf8Tabs 2 3 w) (hR : isRope w b rs) (hr : opAt w val qs) (hwf : ∀ q ∈ qs, wfP q) (hl : qs.length ≤ 1000) (hpl : ∀ q ∈ qs, q.put.length ≤ 10000000) (hz : C1 rs ≤ 1000000) (hbu : by_ u rs ≤ 10000000) (hbv : by_ v rs ≤ 10000000) (hc : chkE qs (by_ u rs) = 0) (hbw : b < w.heap.size) :
    Calls Tryz.prog 64 #[.pointer (some ⟨b, 0, none⟩), .int .i64 u, .int .i64 v, val] w fun e w' => ∃ v', e = .returned (.tuple #[v', errV (turnX rs u v qs)]) ∧ opAt w' v' (turnO rs u v qs) ∧ Below w.heap.size w w' := by
  obtain ⟨hp1, hp2, hp3⟩ := chkE_parts hc
  have cV : Hid (Calls Tryz.prog 119 #[.pointer (some ⟨b, 0, none⟩), .int .i64 u, .int .i64 v, .int .i64 0] w fun e w' => e = .returned (.tuple #[.int .i64 0, .nilIface]) ∧ Below w.heap.size w w') := by
    have := convert_any b rs u v 0 hu hv (Int.le_refl _) (by_pos u rs) w hT hR (by omega) [] (find_zero u rs) (by_nil u)
    rw [by_nil] at this
    exact this
  have cN : Hid (∀ wx, Below w.heap.size w wx → Calls Tryz.prog 20 #[.pointer (some ⟨b, 0, none⟩)] wx fun e w' => e = .returned (cntV rs) ∧ Below wx.heap.size wx w') := fun wx hb => ropecounts_any b rs wx (isRope_below hR hb)
  have cI : Hid (∀ wx, Calls Tryz.prog 19 #[cntV rs, .int .i64 u] wx fun e w' => e = .returned (.int .i64 (by_ u rs)) ∧ Below wx.heap.size wx w') := fun wx => In_any u rs wx
  have hup := by_pos u rs
  have cK : Hid (∀ wx, Below w.heap.size w wx → Calls Tryz.prog 68 #[val, .int .i64 (by_ u rs)] wx fun e w' => e = .returned .nilIface ∧ Below wx.heap.size wx w') := fun wx hb => by
    have := Check_any val qs (by_ u rs) wx (Go.Proofs.Utf8Tabs_below hT hb) (opAt_below hr hb (Nat.le_refl _)) hwf (by omega) (by omega)
    rw [hc] at this
    exact this
  have cS : Hid (∀ wx, Calls Tryz.prog 120 #[.pointer (some ⟨b, 0, none⟩), .int .i64 u, .int .i64 v] wx fun e w' => e = .returned (stepsV wx.heap.size) ∧ stp w' wx.heap.size b u v 0 0 ∧ Below wx.heap.size wx w' ∧ w'.heap.size = wx.heap.size + 5) := fun wx => bsteps_any b u v wx
  have HRW : Hid (isRope w b rs) := hR
  have HTW : Hid (Lib.Utf8Tabs 2 3 w) := hT
  have HOP : Hid (opAt w val qs) := hr
  have HP1 : Hid (∀ p ∈ qs, oneB p = true ∧ (scan p.put).2 = true) := hp1
  have HP2 : Hid (longP qs = by_ u rs) := hp2
  have HP3 : Hid (∀ q ∈ qs, 0 ≤ lenP q) := hp3
  have HPL : Hid (∀ q ∈ qs, q.put.length ≤ 10000000) := hpl
  have HU : Hid (unitOk u) := hu
  have HV : Hid (unitOk v) := hv
  have HZ : Hid (C1 rs ≤ 1000000) := hz
  have HBV : Hid (by_ v rs ≤ 10000000) := hbv
  obtain ⟨p, c, rfl, r1, r2, r3⟩ := hr
  obtain ⟨n, hn⟩ : ∃ n, qs.length = n := ⟨_, rfl⟩
  have HN : Hid (qs.length = n) := hn
  rw [hn] at r1 hl cK ⊢
  obtain ⟨i0, hi, hz0, hz1, hz2⟩ := info_parts info_part
  obtain ⟨RL, hRL⟩ : ∃ RL : Int, by_ u rs = RL := ⟨_, rfl⟩
  rw [hRL] at cI cK hbu hup
  have HRL : Hid (by_ u rs = RL) := hRL
  unfold cntV at cN cI
  unfold stepsV at cS
  clear hT hR hwf hp1 hp2 hp3 hpl hc hn r3 hRL hu hv hz hbv
  unfold maxLen at r2
  go_enter Tryz.func64, Tryz.ntmps64
  go_wp2_with (first
    | (go_at_call 119; refine Calls.mono cV.out ?_; rintro e w1 ⟨rfl, hb1⟩; have HB1 : Hid (Below w.heap.size w w1) := hb1; clear hb1)
    | (go_at_call 20; refine (cN.out _ HB1.out).mono ?_; rintro e w2 ⟨rfl, hb2⟩; have HB2 : Hid (Below w.heap.size w w2) := HB1.out.trans (hb2.mono HB1.out.size); clear hb2)
    | (go_at_call 19; refine (cI.out _).mono ?_; rintro e w3 ⟨rfl, hb3⟩; have HB3 : Hid (Below w.heap.size w w3) := HB2.out.trans (hb3.mono HB2.out.size); clear hb3)
    | (go_at_call 68; refine (cK.out _ HB3.out).mono ?_; rintro e w4 ⟨rfl, hb4⟩; have HB4 : Hid (Below w.heap.size w w4) := HB3.out.trans (hb4.mono HB3.out.size); clear hb4)
    | (go_at_call 120; refine (cS.out _).mono ?_; rintro e w5 ⟨rfl, hs5, hb5, hz5⟩; have HB5 : Hid (Below w4.heap.size w4 w5) := hb5; have HS5 : Hid (stp w5 w4.heap.size b u v 0 0) := hs5; clear hs5 hb5)
    | (at_make; refine wpList_make_own _ rfl _ _ 23 rfl (w4.heap.size + 5) 50 i0 (.agg #[.int .i64 0, .int .i64 0, .string ⟨#[]⟩]) 3 Tryz.underlying23 hi hz0 hz1 .i64 .i64 n n rfl rfl rfl (by rw [hz2]; omega) (by unfold maxLen; omega) (by omega) ?_)
    | fail)
  intro w6 hown6 hg6
  have HO6 : Hid (w6.ownsRow (w4.heap.size + 5) 50 3 (.slice (some ⟨w4.heap.size + 5, 0, none⟩) 0 n) 0 []) := hown6
  have HB6 : Hid (Below w4.heap.size w4 w6) := HB5.out.grown hg6 HB5.out.size fun k hk => by cases hk
  have HS6 : Hid (stp w6 w4.heap.size b u v 0 0) := stp_grown HS5.out hg6 fun k hk => by cases hk
  have hs6 := hg6.size
  rw [hz5] at hs6
  clear hown6 hg6 cV cN cI cK cS HB1 HB2 HB3 HB5 HS5
  go_wp2
  go_loopw [14, 47] (fun v14 i wr => ∃ (k : Nat), i = .int .i64 k ∧ brZ w4 b rs u v qs k v14 wr) (fun _ i _ => n - (intOf i).toNat)
  case atStart =>
    have e1 : longP (qs.take 0) = 0 := by simp [longP]
    refine ⟨0, rfl, [], rfl, ?_, Nat.zero_le _, HO6.out, ?_, HB6.out, hs6⟩
    · rw [e1]; rfl
    · rw [e1, upTo_zero, by_nil]
      exact HS6.out
  case round =>
    obtain ⟨k, rfl, L, hLk, htz, hk, hown, hst, hbw', hsz0⟩ := hrel
    obtain ⟨pv, cv, rfl⟩ := own_slice hown
    clear HO6 HB6 HS6
    by_cases hlt : k < n
    · have hkr : k < qs.length := by rw [HN.out]; exact hlt
      have hne : qs ≠ [] := by intro e; rw [e] at hkr; exact absurd hkr (Nat.not_lt_zero _)
      have HBW0 : Hid (Below w.heap.size w wr) := HB4.out.trans (hbw'.mono HB4.out.size)
      obtain ⟨p0, c0, hvv, _, _, hcell⟩ := HOP.out
      obtain ⟨b0, o, rfl, hb0, hcell⟩ := hcell hne
      obtain ⟨f0, f1, f2⟩ := hcell k qs[k] (List.getElem?_eq_getElem hkr)
      have g0 := (HBW0.out.cell (p := ⟨b0, o + k * 3, none⟩) hb0).trans f0
      have g1 := (HBW0.out.cell (p := ⟨b0, o + k * 3 + 1, none⟩) hb0).trans f1
      have g2 := (HBW0.out.cell (p := ⟨b0, o + k * 3 + 2, none⟩) hb0).trans f2
      obtain rfl : p = some ⟨b0, o, none⟩ := by injection hvv
      clear hvv hcell f0 f1 f2 hne
      have hqm : qs[k] ∈ qs := List.getElem_mem _
      have hsnd := (one_sound (HP1.out _ hqm).1).1
      have hplq := HPL.out _ hqm
      have hts : qs.take (k + 1) = qs.take k ++ [qs[k]] := List.take_succ_eq_append_getElem hkr
      have hA1' : longP (qs.take (k + 1)) = longP (qs.take k) + lenP qs[k] := by rw [hts, long_append]; simp [longP]
      have hA0 : 0 ≤ longP (qs.take k) := sum_pos fun q hq => HP3.out q (List.mem_of_mem_take hq)
      have hAN : longP (qs.take (k + 1)) ≤ RL := by
        have e2 : longP qs = longP (qs.take (k + 1)) + longP (qs.drop (k + 1)) := by rw [← long_append, List.take_append_drop]
        have := sum_pos fun q hq => HP3.out q (List.mem_of_mem_drop (i := k + 1) hq)
        have := HP2.out; have := HRL.out
        omega
      have hdk : qs.drop k = qs[k] :: qs.drop (k + 1) := List.drop_eq_getElem_cons hkr
      rw [hdk] at htz
      have HQD : Hid (∀ a, turnZ rs u v a (qs.drop (k + 1)) = turnZ rs u v a (qs.drop (k + 1))) := fun _ => rfl
      generalize qs[k] = q at *
      obtain ⟨K, D, U⟩ := q
      obtain ⟨A, hA⟩ : ∃ A, longP (qs.take k) = A := ⟨_, rfl⟩
      rw [hA] at hst hA1' hA0 htz
      have hld : lenP ⟨K, D, U⟩ = K + D := rfl
      rw [hld] at hA1'
      have HOW : Hid ((wr.alloc (.cells #[.int .i64 K, .int .i64 D, .string ⟨U.toArray⟩] 50)).ownsRow (w4.heap.size + 5) 50 3 (.slice pv k cv) k (cellsP L)) := hown.alloc _
      have HBW : Hid (Below w4.heap.size w4 (wr.alloc (.cells #[.int .i64 K, .int .i64 D, .string ⟨U.toArray⟩] 50))) := hbw'.alloc hbw'.size _
      obtain ⟨s1, s2⟩ := hsnd
      have s1 : 0 ≤ K := s1
      have s2 : 0 ≤ D := s2
      have hw0 : IntKind.i64.wrap (K + D) = K + D := by rw [IntKind.wrap_i64]; omega
      have hj : (k : Int) < (n : Int) := by omega
      have hbx : Below wr.heap.size wr (wr.alloc (.cells #[.int .i64 K, .int .i64 D, .string ⟨U.toArray⟩] 50)) := (Below.refl _ _).alloc (Nat.le_refl _) _
      have hRLe := HRL.out
      have hKK : ∀ W', Below w4.heap.size (wr.alloc (.cells #[.int .i64 K, .int .i64 D, .string ⟨U.toArray⟩] 50)) W' → Lib.Utf8Tabs 2 3 W' ∧ isRope W' b rs := fun W' hW' => ⟨Go.Proofs.Utf8Tabs_below HTW.out (HB4.out.trans ((HBW.out.trans hW').mono HB4.out.size)), isRope_below HRW.out (HB4.out.trans ((HBW.out.trans hW').mono HB4.out.size))⟩
      have hzz := HZ.out
      by_cases hed : onEdge rs u (A + (K + D)) = true
      · have hX3 : by_ u (upTo rs u (A + (K + D))) = A + (K + D) := of_decide_eq_true hed
        have hXle := upTo_le (v := v) rs (u := u) (a := A + (K + D)) (by omega)
        have hmono := upTo_mono (u := u) (v := v) rs (a := A) (b := A + (K + D)) (by omega) (by omega)
        have hp0 := by_pos v (upTo rs u A)
        have hbv := HBV.out
        have cX := steps1_any w4.heap.size b rs (upTo rs u (A + (K + D))) u v A (by_ v (upTo rs u A)) (K + D) _ (hst.below hbx) HU.out HV.out (by omega) (by omega) rfl hX3
          (hKK _ (Below.refl _ _)).1 (hKK _ (Below.refl _ _)).2 (by have := HB4.out.size; omega) (by omega) hp0 (by omega) (by omega) (by omega) hKK
        rw [turnZ, if_pos (by rw [hld]; exact hed)] at htz
        obtain ⟨XV, hXV⟩ : ∃ XV, by_ v (upTo rs u (A + (K + D))) = XV := ⟨_, rfl⟩
        obtain ⟨M, hM⟩ : ∃ M, XV - by_ v (upTo rs u A) = M := ⟨_, rfl⟩
        rw [hXV, hM] at cX
        rw [hld, hXV, hM] at htz
        have CX : Hid _ := cX
        have HA1 : Hid (longP (qs.take (k + 1)) = A + (K + D)) := hA1'
        have HXV : Hid (by_ v (upTo rs u (A + (K + D))) = XV) := hXV
        have HLL : Hid (L.length = k) := hLk
        have HTK0 : Hid (turnZ rs u v 0 qs = ((L ++ [unit1 M ⟨K, D, U⟩]) ++ (turnZ rs u v (longP (qs.take (k + 1))) (qs.drop (k + 1))).1, (turnZ rs u v (longP (qs.take (k + 1))) (qs.drop (k + 1))).2)) := by
          show turnZ rs u v 0 qs = _
          rw [htz, hA1']; simp
        have x0 : (wr.alloc (.cells #[.int .i64 K, .int .i64 D, .string ⟨U.toArray⟩] 50)).cell? ⟨wr.heap.size, 0, none⟩ = some (.int .i64 K) := by simp [go_sem]
        have x1 : (wr.alloc (.cells #[.int .i64 K, .int .i64 D, .string ⟨U.toArray⟩] 50)).cell? ⟨wr.heap.size, 1, none⟩ = some (.int .i64 D) := by simp [go_sem]
        have x2 : (wr.alloc (.cells #[.int .i64 K, .int .i64 D, .string ⟨U.toArray⟩] 50)).cell? ⟨wr.heap.size, 2, none⟩ = some (.string ⟨U.toArray⟩) := by simp [go_sem]
        have hne3 : wr.heap.size ≠ w4.heap.size + 3 := by omega
        have hne4 : wr.heap.size ≠ w4.heap.size + 4 := by omega
        have hltw : wr.heap.size < (wr.alloc (.cells #[.int .i64 K, .int .i64 D, .string ⟨U.toArray⟩] 50)).heap.size := by simp
        have hsz0 : w4.heap.size + 5 ≤ (wr.alloc (.cells #[.int .i64 K, .int .i64 D, .string ⟨U.toArray⟩] 50)).heap.size := by rw [World.size_alloc]; omega
        clear hown hst hbw' hXle hmono cX hA1' htz hA hbx hAN hts hqm hkr hp0 hbv hX3 hed hKK hRLe hXV hM hLk hdk HQD
        by_cases hK : 0 < K
        · have HTK := HTK0
          have e1 : unit1 M ⟨K, D, U⟩ = ⟨M, 0, []⟩ := by unfold unit1; rw [if_pos hK]
          rw [e1] at HTK
          clear e1 HTK0
          go_wp2_with (first
            | (go_at_call 164; refine Calls.mono CX.out ?_; rintro e w7 ⟨rfl, hs7, hb7, hz7, ho7, hk7⟩; have HS7 : Hid (stp w7 w4.heap.size b u v (A + (K + D)) XV) := hs7; have HB7 : Hid (Below w4.heap.size w4 w7) := HBW.out.trans hb7; have HO7 : Hid (w7.ownsRow (w4.heap.size + 5) 50 3 (.slice pv k cv) k (cellsP L)) := ho7 _ _ _ _ _ _ (Nat.le_refl _) hsz0 HOW.out; have y0 := (cellOnF (hk7 wr.heap.size hne3 hne4 hltw) 0).trans x0; have y1 := (cellOnF (hk7 wr.heap.size hne3 hne4 hltw) 1).trans x1; have y2 := (cellOnF (hk7 wr.heap.size hne3 hne4 hltw) 2).trans x2; have hs57 := sz_le hz7; clear hs7 hb7 ho7 hk7)
            | (at_builtin; refine wpList_append_own _ rfl _ _ 23 rfl (w4.heap.size + 5) 50 i0 (.agg #[.int .i64 0, .int .i64 0, .string ⟨#[]⟩]) 3 32 Tryz.underlying23 hi hz0 hz1 hz2 rfl (by decide) _ _ _ rfl (HO7.out.alloc _) ⟨w7.heap.size, 0, none⟩ 1 1 (partCells ⟨M, 0, []⟩) rfl rfl (cells_newN _ _ (by first | rfl | simp) _ _) (partCells_one _) (by unfold maxLen; omega) (by omega) (by first | omega | (simp; omega)) ?_)
            | fail)
          intro v' w' hown' hg' _
          obtain ⟨p', c', rfl⟩ := own_slice hown'
          have HB9 : Hid (Below w4.heap.size w4 w') := (HB7.out.alloc HB7.out.size _).grown hg' (by simp; omega) fun k hk => by have := (HO7.out.lt k hk).1; omega
          have HS9 : Hid (stp w' w4.heap.size b u v (A + (K + D)) XV) := stp_grown (HS7.out.below ((Below.refl _ _).alloc (Nat.le_refl _) _)) hg' fun k hk => (HO7.out.lt k hk).1
          have HO9 : Hid (w'.ownsRow (w4.heap.size + 5) 50 3 (.slice p' (k + 1) c') (k + 1) (cellsP L ++ partCells ⟨M, 0, []⟩)) := hown'
          have hs9 := hg'.size
          rw [World.size_alloc] at hs9
          clear hown' hg'
          go_wp2
          go_roundw
          case rel =>
            refine ⟨k + 1, by go_num, L ++ [⟨M, 0, []⟩], by rw [List.length_append, HLL.out]; rfl, HTK.out, ?_, ?_, ?_, HB9.out, by omega⟩
            · have := HN.out; omega
            · rw [cellsP_snoc]
              exact HO9.out
            · rw [HA1.out, HXV.out]; exact HS9.out
          case measure => simp [intOf]; omega

        · by_cases hD : 0 < D
          · have HTK := HTK0
            have e1 : unit1 M ⟨K, D, U⟩ = ⟨0, M, []⟩ := by unfold unit1; rw [if_neg hK, if_pos hD]
            rw [e1] at HTK
            clear e1 HTK0
            go_wp2_with (first
              | (go_at_call 164; refine Calls.mono CX.out ?_; rintro e w7 ⟨rfl, hs7, hb7, hz7, ho7, hk7⟩; have HS7 : Hid (stp w7 w4.heap.size b u v (A + (K + D)) XV) := hs7; have HB7 : Hid (Below w4.heap.size w4 w7) := HBW.out.trans hb7; have HO7 : Hid (w7.ownsRow (w4.heap.size + 5) 50 3 (.slice pv k cv) k (cellsP L)) := ho7 _ _ _ _ _ _ (Nat.le_refl _) hsz0 HOW.out; have y0 := (cellOnF (hk7 wr.heap.size hne3 hne4 hltw) 0).trans x0; have y1 := (cellOnF (hk7 wr.heap.size hne3 hne4 hltw) 1).trans x1; have y2 := (cellOnF (hk7 wr.heap.size hne3 hne4 hltw) 2).trans x2; have hs57 := sz_le hz7; clear hs7 hb7 ho7 hk7)
              | (at_builtin; refine wpList_append_own _ rfl _ _ 23 rfl (w4.heap.size + 5) 50 i0 (.agg #[.int .i64 0, .int .i64 0, .string ⟨#[]⟩]) 3 32 Tryz.underlying23 hi hz0 hz1 hz2 rfl (by decide) _ _ _ rfl (HO7.out.alloc _) ⟨w7.heap.size, 0, none⟩ 1 1 (partCells ⟨0, M, []⟩) rfl rfl (cells_newN _ _ (by first | rfl | simp) _ _) (partCells_one _) (by unfold maxLen; omega) (by omega) (by first | omega | (simp; omega)) ?_)
              | fail)
            intro v' w' hown' hg' _
            obtain ⟨p', c', rfl⟩ := own_slice hown'
            have HB9 : Hid (Below w4.heap.size w4 w') := (HB7.out.alloc HB7.out.size _).grown hg' (by simp; omega) fun k hk => by have := (HO7.out.lt k hk).1; omega
            have HS9 : Hid (stp w' w4.heap.size b u v (A + (K + D)) XV) := stp_grown (HS7.out.below ((Below.refl _ _).alloc (Nat.le_refl _) _)) hg' fun k hk => (HO7.out.lt k hk).1
            have HO9 : Hid (w'.ownsRow (w4.heap.size + 5) 50 3 (.slice p' (k + 1) c') (k + 1) (cellsP L ++ partCells ⟨0, M, []⟩)) := hown'
            have hs9 := hg'.size
            rw [World.size_alloc] at hs9
            clear hown' hg'
            go_wp2
            go_roundw
            case rel =>
              refine ⟨k + 1, by go_num, L ++ [⟨0, M, []⟩], by rw [List.length_append, HLL.out]; rfl, HTK.out, ?_, ?_, ?_, HB9.out, by omega⟩
              · have := HN.out; omega
              · rw [cellsP_snoc]
                exact HO9.out
              · rw [HA1.out, HXV.out]; exact HS9.out
            case measure => simp [intOf]; omega

          · have HTK := HTK0
            have e1 : unit1 M ⟨K, D, U⟩ = ⟨0, 0, U⟩ := by unfold unit1; rw [if_neg hK, if_neg hD]
            rw [e1] at HTK
            clear e1 HTK0
            have CL : Hid (∀ wx, Calls Tryz.prog 88 #[.string ⟨U.toArray⟩] wx fun e w' => e = .returned (.string ⟨U.toArray⟩) ∧ Below wx.heap.size wx w') := fun wx => clone_any U hplq wx
            go_wp2_with (first
              | (go_at_call 164; refine Calls.mono CX.out ?_; rintro e w7 ⟨rfl, hs7, hb7, hz7, ho7, hk7⟩; have HS7 : Hid (stp w7 w4.heap.size b u v (A + (K + D)) XV) := hs7; have HB7 : Hid (Below w4.heap.size w4 w7) := HBW.out.trans hb7; have HO7 : Hid (w7.ownsRow (w4.heap.size + 5) 50 3 (.slice pv k cv) k (cellsP L)) := ho7 _ _ _ _ _ _ (Nat.le_refl _) hsz0 HOW.out; have y0 := (cellOnF (hk7 wr.heap.size hne3 hne4 hltw) 0).trans x0; have y1 := (cellOnF (hk7 wr.heap.size hne3 hne4 hltw) 1).trans x1; have y2 := (cellOnF (hk7 wr.heap.size hne3 hne4 hltw) 2).trans x2; have hs57 := sz_le hz7; clear hs7 hb7 ho7 hk7)
              | (go_at_call 88; refine (CL.out _).mono ?_; rintro e w8 ⟨rfl, hb8⟩; have HB8 : Hid (Below w4.heap.size w4 w8) := HB7.out.trans (hb8.mono HB7.out.size); have HS8 : Hid (stp w8 w4.heap.size b u v (A + (K + D)) XV) := HS7.out.below hb8; have HO8 : Hid (w8.ownsRow (w4.heap.size + 5) 50 3 (.slice pv k cv) k (cellsP L)) := own_below HO7.out hb8; have hs58 := hb8.size; clear hb8)
              | (at_builtin; refine wpList_append_own _ rfl _ _ 23 rfl (w4.heap.size + 5) 50 i0 (.agg #[.int .i64 0, .int .i64 0, .string ⟨#[]⟩]) 3 32 Tryz.underlying23 hi hz0 hz1 hz2 rfl (by decide) _ _ _ rfl (HO8.out.alloc _) ⟨w8.heap.size, 0, none⟩ 1 1 (partCells ⟨0, 0, U⟩) rfl rfl (cells_newN _ _ (by first | rfl | simp) _ _) (partCells_one _) (by unfold maxLen; omega) (by omega) (by first | omega | (simp; omega)) ?_)
              | fail)
            intro v' w' hown' hg' _
            obtain ⟨p', c', rfl⟩ := own_slice hown'
            have HB9 : Hid (Below w4.heap.size w4 w') := (HB8.out.alloc HB8.out.size _).grown hg' (by simp; omega) fun k hk => by have := (HO8.out.lt k hk).1; omega
            have HS9 : Hid (stp w' w4.heap.size b u v (A + (K + D)) XV) := stp_grown (HS8.out.below ((Below.refl _ _).alloc (Nat.le_refl _) _)) hg' fun k hk => (HO8.out.lt k hk).1
            have HO9 : Hid (w'.ownsRow (w4.heap.size + 5) 50 3 (.slice p' (k + 1) c') (k + 1) (cellsP L ++ partCells ⟨0, 0, U⟩)) := hown'
            have hs9 := hg'.size
            rw [World.size_alloc] at hs9
            clear hown' hg'
            go_wp2
            go_roundw
            case rel =>
              refine ⟨k + 1, by go_num, L ++ [⟨0, 0, U⟩], by rw [List.length_append, HLL.out]; rfl, HTK.out, ?_, ?_, ?_, HB9.out, by omega⟩
              · have := HN.out; omega
              · rw [cellsP_snoc]
                exact HO9.out
              · rw [HA1.out, HXV.out]; exact HS9.out
            case measure => simp [intOf]; omega

      · have hed : onEdge rs u (A + (K + D)) = false := Bool.eq_false_iff.2 hed
        have hX3 : by_ u (upTo rs u (A + (K + D))) ≠ A + (K + D) := of_decide_eq_false hed
        have cX := steps1_err w4.heap.size b rs u v A (by_ v (upTo rs u A)) (K + D) _ (hst.below hbx) HU.out HV.out (by omega) (by omega) hX3 (by omega) (by omega) hKK
        have CX : Hid _ := cX
        rw [turnZ, if_neg (by rw [hld, hed]; decide)] at htz
        have e2 : (turnZ rs u v 0 qs).2 = false := by rw [htz]
        have HRX : Hid (turnX rs u v qs = 10 ∧ turnO rs u v qs = []) := by
          show turnX rs u v qs = 10 ∧ turnO rs u v qs = []
          unfold turnX turnO
          rw [e2]; exact ⟨rfl, rfl⟩
        clear hown hst hbw' cX hA1' htz hA hbx hAN hts hqm hkr hX3 hed hKK hRLe e2 hLk hdk HQD
        go_wp2_with (first
          | (go_at_call 164; refine Calls.mono CX.out ?_; rintro e w7 ⟨rfl, hb7⟩; have HB7 : Hid (Below w.heap.size w w7) := HB4.out.trans ((HBW.out.trans hb7).mono HB4.out.size); clear hb7)
          | fail)
        go_ret2
        refine ⟨.slice none 0 0, ?_, ?_, HB7.out⟩
        · rw [HRX.out.1]; rfl
        · rw [HRX.out.2]; exact ⟨none, 0, rfl, Nat.le_refl _, Nat.zero_le _, fun h => absurd rfl h⟩
    · obtain rfl : k = n := by have := HN.out; omega
      have e : qs.drop k = [] := List.drop_of_length_le (by rw [HN.out]; exact Nat.le_refl _)
      rw [e] at htz
      have htz2 : turnZ rs u v 0 qs = (L, true) := by rw [htz]; simp [turnZ]
      have HRX : Hid (turnX rs u v qs = 0 ∧ turnO rs u v qs = L) := by
        show turnX rs u v qs = 0 ∧ turnO rs u v qs = L
        unfold turnX turnO
        rw [htz2]; exact ⟨rfl, rfl⟩
      have HO : Hid (wr.ownsRow (w4.heap.size + 5) 50 3 (.slice pv k cv) k (cellsP L)) := hown
      have HB : Hid (Below w.heap.size w wr) := HB4.out.trans (hbw'.mono HB4.out.size)
      have hop : opAt wr (.slice pv k cv) L := by
        have := HO.out
        rw [← hLk] at this ⊢
        exact opAt_own this
      have HOPW : Hid (opAt wr (.slice pv k cv) L) := hop
      clear hop hown e hst hbw' htz htz2 hLk
      go_wp2
      go_ret2
      refine ⟨.slice pv k cv, ?_, ?_, HB.out⟩
      · rw [HRX.out.1]; rfl
      · rw [HRX.out.2]; exact HOPW.out
end Go.Proofs.YtldhbjmillfjgabGreatDoor

namespace Go.Proofs.YtldhbjmillfjgabGreatDoor
open Go.RowKit
set_option linter.unusedVariables false

theorem refRunes_told (s : ByteArray) (hs : s.size < 100000000) (w : World) : Calls Tryz.prog 56 #[.string s] w fun e w' => ∃ p n c d, e = .returned (.tuple #[.slice p n c, .agg #[.int .i64 (if (scan s.data.toList).2 then 0 else 3), .int .i64 d]]) ∧ Below w.heap.size w w' := by
  refine (refRunes_any s hs w).mono ?_
  rintro e w' ⟨hb, ⟨h, v, rfl, hv⟩ | ⟨h, rfl⟩⟩
  · rw [if_pos h]
    obtain ⟨p, c, rfl, _⟩ := hv
    exact ⟨_, _, _, _, rfl, hb⟩
  · rw [if_neg (by rw [h]; simp)]
    exact ⟨_, _, _, _, rfl, hb⟩

theorem one_shapes {K D : Int} {U : List UInt8} (h : oneB ⟨K, D, U⟩ = true) : (D = 0 ∧ U = [] ∧ 0 < K) ∨ (K = 0 ∧ U = [] ∧ 0 < D) ∨ (K = 0 ∧ D = 0 ∧ U ≠ []) := by
  unfold oneB at h
  split at h
  · rename_i h1
    exact .inl ⟨h1.1, h1.2, of_decide_eq_true h⟩
  · rename_i h0
    split at h
    · rename_i h1
      exact .inr (.inl ⟨h1.1, h1.2, of_decide_eq_true h⟩)
    · have := of_decide_eq_true h
      exact .inr (.inr ⟨this.1, this.2, fun e => h0 ⟨this.2, e⟩⟩)
theorem none_shapes {K D : Int} {U : List UInt8} (h : oneB ⟨K, D, U⟩ = false) : (K ≠ 0 ∧ D ≠ 0 ∧ U ≠ []) ∨ (K ≠ 0 ∧ D ≠ 0 ∧ U = []) ∨ (K ≠ 0 ∧ D = 0 ∧ U ≠ []) ∨ (K = 0 ∧ D ≠ 0 ∧ U ≠ []) ∨ (K = 0 ∧ D = 0 ∧ U = []) ∨ (K < 0 ∧ D = 0 ∧ U = []) ∨ (K = 0 ∧ D < 0 ∧ U = []) := by
  unfold oneB at h
  by_cases h1 : K = 0 <;> by_cases h2 : D = 0 <;> by_cases h3 : U = [] <;> simp [h1, h2, h3] at h ⊢ <;> omega

set_option maxRecDepth 100000 in
set_option maxHeartbeats 4000000 in
theorem refCheck_any (v : Value) (ps : List Pt) (N : Int) (w : World) (hr : opAt w v ps) (hwf : ∀ p ∈ ps, wfP p) (hsm : ∀ p ∈ ps, p.put.length < 100000000) (hN : -9223372036854775808 ≤ N ∧ N < 9223372036854775808) (hl : ps.length < 10000000) :
    Calls Tryz.prog 62 #[v, .int .i64 N] w fun e w' => e = .returned (.int .i64 (chkE ps N)) ∧ Below w.heap.size w w' := by
  obtain ⟨p, c, rfl, r1, r2, r3⟩ := hr
  obtain ⟨n, hn⟩ : ∃ n, n = ps.length := ⟨_, rfl⟩
  rw [← hn] at r1 hl ⊢
  have HN : Hid (n = ps.length) := hn
  clear hn
  have R3 : Hid (ps ≠ [] → ∃ b o, p = some ⟨b, o, none⟩ ∧ b < w.heap.size ∧ ∀ i q, ps[i]? = some q →
    w.cell? ⟨b, o + i * 3, none⟩ = some (.int .i64 q.keep) ∧ w.cell? ⟨b, o + i * 3 + 1, none⟩ = some (.int .i64 q.drop) ∧ w.cell? ⟨b, o + i * 3 + 2, none⟩ = some (.string ⟨q.put.toArray⟩)) := r3
  have HWF : Hid (∀ p ∈ ps, wfP p) := hwf
  have HSM : Hid (∀ p ∈ ps, p.put.length < 100000000) := hsm
  obtain ⟨hN0, hN1⟩ := hN
  clear r3 hwf hsm
  go_enter Tryz.func62, Tryz.ntmps62
  go_wp2
  go_loopw [14] (fun i wr => ∃ (k : Nat), k ≤ n ∧ i = .int .i64 k ∧ chk1 ps = chk1 (ps.drop k) ∧ Below w.heap.size w wr) (fun i _ => n - (intOf i).toNat)
  case atStart => exact ⟨0, Nat.zero_le _, rfl, rfl, Below.refl _ _⟩
  case round =>
    obtain ⟨k, hk, rfl, hch, hwr⟩ := hrel
    by_cases hlt : k < n
    · have hkr : k < ps.length := by rw [← HN.out]; exact hlt
      have hne : ps ≠ [] := by intro e; rw [e] at hkr; exact absurd hkr (Nat.not_lt_zero _)
      obtain ⟨b, o, rfl, hbw, hcell⟩ := R3.out hne
      obtain ⟨c0, c1, c2⟩ := hcell k ps[k] (List.getElem?_eq_getElem hkr)
      have g0 := (hwr.cell (p := ⟨b, o + k * 3, none⟩) hbw).trans c0
      have g1 := (hwr.cell (p := ⟨b, o + k * 3 + 1, none⟩) hbw).trans c1
      have g2 := (hwr.cell (p := ⟨b, o + k * 3 + 2, none⟩) hbw).trans c2
      rw [List.drop_eq_getElem_cons hkr, chk1] at hch
      have hwq := HWF.out ps[k] (List.getElem_mem _)
      have hsm := HSM.out ps[k] (List.getElem_mem _)
      generalize ps[k] = q at *
      obtain ⟨K, D, U⟩ := q
      have hsize := hwr.size
      have HWR : Hid (Below w.heap.size w wr) := hwr
      have HBA : Hid (∀ o w2, Below (wr.alloc o).heap.size (wr.alloc o) w2 → Below w.heap.size w w2) := fun o w2 h => (hwr.alloc hsize o).trans (h.mono (hwr.alloc hsize o).size)
      have HBO : Hid (∀ o, Below w.heap.size w (wr.alloc o)) := fun o => hwr.alloc hsize o
      have cR' := fun wx => refRunes_told ⟨U.toArray⟩ (by simpa [ByteArray.size] using hsm) wx
      simp only at hch cR' g0 g1 g2
      by_cases h1 : oneB ⟨K, D, U⟩ = true
      · rw [if_pos h1] at hch
        by_cases h2 : (scan U).2 = true
        · rw [if_pos h2] at hch
          simp only [h2, if_true] at cR'
          have HCH : Hid (chk1 ps = chk1 (ps.drop (k + 1))) := hch
          have hsh := one_shapes h1
          clear hcell c0 c1 c2 hch hwq hwr HWF HSM h1 h2 hsm
          rcases hsh with ⟨rfl, rfl, s⟩ | ⟨rfl, rfl, s⟩ | ⟨rfl, rfl, s⟩
          · have sb : (K == 0) = false := beq_eq_false_iff_ne.2 (by omega)
            have sn : ¬ K < 0 := by omega
            have cR : ∀ wx, Calls Tryz.prog 56 #[.string ⟨#[]⟩] wx fun e w' => ∃ p n c d, e = .returned (.tuple #[.slice p n c, .agg #[.int .i64 0, .int .i64 d]]) ∧ Below wx.heap.size wx w' := cR'
            clear cR'
            go_wp2_with (first | (go_at_call 56; refine (cR _).mono ?_; rintro e w2 ⟨pp, nn, cc, dd, rfl, hb2⟩; have HB2 : Hid (Below w.heap.size w w2) := HBA.out _ _ hb2; clear hb2) | fail)
            go_roundw
            case rel => exact ⟨k + 1, by omega, by go_num, HCH.out, HB2.out.alloc HB2.out.size _⟩
            case measure => simp [intOf]; omega
          · have sb : (D == 0) = false := beq_eq_false_iff_ne.2 (by omega)
            have sn : ¬ D < 0 := by omega
            have cR : ∀ wx, Calls Tryz.prog 56 #[.string ⟨#[]⟩] wx fun e w' => ∃ p n c d, e = .returned (.tuple #[.slice p n c, .agg #[.int .i64 0, .int .i64 d]]) ∧ Below wx.heap.size wx w' := cR'
            clear cR'
            go_wp2_with (first | (go_at_call 56; refine (cR _).mono ?_; rintro e w2 ⟨pp, nn, cc, dd, rfl, hb2⟩; have HB2 : Hid (Below w.heap.size w w2) := HBA.out _ _ hb2; clear hb2) | fail)
            go_roundw
            case rel => exact ⟨k + 1, by omega, by go_num, HCH.out, HB2.out.alloc HB2.out.size _⟩
            case measure => simp [intOf]; omega
          · have cR := cR'
            have sU : U.isEmpty = false := by simpa using s
            clear cR'
            go_wp2_with (first | (go_at_call 56; refine (cR _).mono ?_; rintro e w2 ⟨pp, nn, cc, dd, rfl, hb2⟩; have HB2 : Hid (Below w.heap.size w w2) := HBA.out _ _ hb2; clear hb2) | fail)
            go_roundw
            case rel => exact ⟨k + 1, by omega, by go_num, HCH.out, HB2.out.alloc HB2.out.size _⟩
            case measure => simp [intOf]; omega
        · have h2 : (scan U).2 = false := Bool.eq_false_iff.2 h2
          have hU : U ≠ [] := by intro e; rw [e] at h2; cases h2
          rw [h2] at hch
          simp only [h2, Bool.false_eq_true, if_false] at cR'
          have HCH : Hid (chk1 ps = 3) := by show chk1 ps = 3; simpa using hch
          have hsh := one_shapes h1
          clear hcell c0 c1 c2 hch hwq hwr HWF HSM h1 h2 hsm
          rcases hsh with ⟨rfl, rfl, s⟩ | ⟨rfl, rfl, s⟩ | ⟨rfl, rfl, s⟩
          · exact absurd rfl hU
          · exact absurd rfl hU
          · have cR := cR'
            have sU : U.isEmpty = false := by simpa using s
            clear cR'
            go_wp2_with (first | (go_at_call 56; refine (cR _).mono ?_; rintro e w2 ⟨pp, nn, cc, dd, rfl, hb2⟩; have HB2 : Hid (Below w.heap.size w w2) := HBA.out _ _ hb2; clear hb2) | fail)
            go_ret
            refine ⟨?_, HB2.out.alloc HB2.out.size _⟩
            unfold chkE
            rw [HCH.out]
            rfl
      · have h1 : oneB ⟨K, D, U⟩ = false := Bool.eq_false_iff.2 h1
        rw [h1] at hch
        have HCH : Hid (chk1 ps = 1) := by show chk1 ps = 1; simpa using hch
        have hsh := none_shapes h1
        clear hcell c0 c1 c2 hch hwq hwr HWF HSM h1 hsm cR'
        rcases hsh with ⟨s1, s2, s3⟩ | ⟨s1, s2, rfl⟩ | ⟨s1, rfl, s3⟩ | ⟨rfl, s2, s3⟩ | ⟨rfl, rfl, rfl⟩ | ⟨s1, rfl, rfl⟩ | ⟨rfl, s2, rfl⟩
        · have kb : (K == 0) = false := beq_eq_false_iff_ne.2 (by omega)
          have db : (D == 0) = false := beq_eq_false_iff_ne.2 (by omega)
          have sU : U.isEmpty = false := by simpa using s3
          go_wp2
          go_ret
          refine ⟨?_, HBO.out _⟩
          unfold chkE
          rw [HCH.out]
          rfl
        · have kb : (K == 0) = false := beq_eq_false_iff_ne.2 (by omega)
          have db : (D == 0) = false := beq_eq_false_iff_ne.2 (by omega)
          go_wp2
          go_ret
          refine ⟨?_, HBO.out _⟩
          unfold chkE
          rw [HCH.out]
          rfl
        · have kb : (K == 0) = false := beq_eq_false_iff_ne.2 (by omega)
          have sU : U.isEmpty = false := by simpa using s3
          go_wp2
          go_ret
          refine ⟨?_, HBO.out _⟩
          unfold chkE
          rw [HCH.out]
          rfl
        · have db : (D == 0) = false := beq_eq_false_iff_ne.2 (by omega)
          have sU : U.isEmpty = false := by simpa using s3
          go_wp2
          go_ret
          refine ⟨?_, HBO.out _⟩
          unfold chkE
          rw [HCH.out]
          rfl
        · have t0 := HBO.out
          clear t0
          go_wp2
          go_ret
          refine ⟨?_, HBO.out _⟩
          unfold chkE
          rw [HCH.out]
          rfl
        · have kb : (K == 0) = false := beq_eq_false_iff_ne.2 (by omega)
          go_wp2
          go_ret
          refine ⟨?_, HBO.out _⟩
          unfold chkE
          rw [HCH.out]
          rfl
        · have db : (D == 0) = false := beq_eq_false_iff_ne.2 (by omega)
          go_wp2
          go_ret
          refine ⟨?_, HBO.out _⟩
          unfold chkE
          rw [HCH.out]
          rfl
    · have e : ps.drop k = [] := List.drop_of_length_le (by rw [← HN.out]; omega)
      rw [e] at hch
      have H0 : Hid (chk1 ps = 0) := hch
      have HWR : Hid (Below w.heap.size w wr) := hwr
      have HON : Hid (∀ p ∈ ps, soundP p ∧ (p.keep = 0 ∨ p.drop = 0)) := fun p hp => one_sound (chk1_ones hch p hp).1
      clear e hch hwr
      go_wp2
      go_loopw [1, 57] (fun m i wr => ∃ (k : Nat) (M : Int), k ≤ n ∧ i = .int .i64 k ∧ m = .int .i64 M ∧ -9223372036854775808 ≤ M ∧ M < 9223372036854775808 ∧ chk2 ps N = chk2 (ps.drop k) M ∧ Below w.heap.size w wr) (fun _ i _ => n - (intOf i).toNat)
      case atStart => exact ⟨0, N, Nat.zero_le _, rfl, rfl, hN0, hN1, rfl, HWR.out⟩
      case round =>
        obtain ⟨k, M, hk, rfl, rfl, hM0, hM1, hch, hwr⟩ := hrel
        by_cases hlt : k < n
        · have hkr : k < ps.length := by rw [← HN.out]; exact hlt
          have hne : ps ≠ [] := by intro e; rw [e] at hkr; exact absurd hkr (Nat.not_lt_zero _)
          obtain ⟨b, o, rfl, hbw, hcell⟩ := R3.out hne
          obtain ⟨c0, c1, c2⟩ := hcell k ps[k] (List.getElem?_eq_getElem hkr)
          have g0 := (hwr.cell (p := ⟨b, o + k * 3, none⟩) hbw).trans c0
          have g1 := (hwr.cell (p := ⟨b, o + k * 3 + 1, none⟩) hbw).trans c1
          have g2 := (hwr.cell (p := ⟨b, o + k * 3 + 2, none⟩) hbw).trans c2
          rw [List.drop_eq_getElem_cons hkr, chk2] at hch
          have hwq := HWF.out ps[k] (List.getElem_mem _)
          have hon := HON.out ps[k] (List.getElem_mem _)
          generalize ps[k] = q at *
          obtain ⟨⟨s0, s1⟩, s2⟩ := hon
          have hsum0 : 0 ≤ q.keep + q.drop := by omega
          have hsum1 : q.keep + q.drop < 9223372036854775808 := by have := hwq.2.1; have := hwq.2.2.2.1; omega
          have hw1 : IntKind.i64.wrap (q.keep + q.drop) = q.keep + q.drop := by rw [IntKind.wrap_i64]; omega
          have HB0 : Hid (Below w.heap.size w (wr.alloc (.cells #[.int .i64 q.keep, .int .i64 q.drop, .string ⟨q.put.toArray⟩] 50))) := hwr.alloc hwr.size _
          by_cases h1 : M < q.keep + q.drop
          · rw [if_pos h1] at hch
            have HCH : Hid (chk2 ps N = 2) := hch
            by_cases hK : M < q.keep
            · clear hcell c0 c1 c2 hch hwq hwr HWF HSM s2 hw1
              go_wp2
              go_ret
              refine ⟨?_, HB0.out⟩
              unfold chkE
              rw [if_pos H0.out, HCH.out]
              rfl
            · have hD : M < q.drop := by omega
              clear hcell c0 c1 c2 hch hwq hwr HWF HSM s2 hw1
              go_wp2
              go_ret
              refine ⟨?_, HB0.out⟩
              unfold chkE
              rw [if_pos H0.out, HCH.out]
              rfl
          · rw [if_neg h1, ← Int.sub_sub] at hch
            have HCH : Hid (chk2 ps N = chk2 (ps.drop (k + 1)) (M - q.keep - q.drop)) := hch
            have hK : ¬ M < q.keep := by omega
            have hD : ¬ M < q.drop := by omega
            have hw2 : IntKind.i64.wrap (M - q.keep) = M - q.keep := by rw [IntKind.wrap_i64]; omega
            have hw3 : IntKind.i64.wrap (M - q.keep - q.drop) = M - q.keep - q.drop := by rw [IntKind.wrap_i64]; omega
            clear hcell c0 c1 c2 hch hwq hwr HWF HSM s2 hw1
            go_wp2
            go_roundw
            case rel => exact ⟨k + 1, M - q.keep - q.drop, by omega, by go_num, by first | rfl | go_num, by omega, by omega, HCH.out, HB0.out⟩
            case measure => simp [intOf]; omega
        · have e : ps.drop k = [] := List.drop_of_length_le (by rw [← HN.out]; omega)
          rw [e, chk2] at hch
          have HX : Hid (Below w.heap.size w wr) := hwr
          by_cases h0 : M = 0
          · rw [if_pos h0] at hch
            subst h0
            have HCH : Hid (chk2 ps N = 0) := hch
            clear e hch hwr
            go_wp2
            go_ret
            refine ⟨?_, HX.out⟩
            unfold chkE
            rw [if_pos H0.out, HCH.out]
            rfl
          · rw [if_neg h0] at hch
            have hmb : (M == 0) = false := beq_eq_false_iff_ne.2 h0
            have HCH : Hid (chk2 ps N = 2) := hch
            clear e hch hwr
            go_wp2
            go_ret
            refine ⟨?_, HX.out⟩
            unfold chkE
            rw [if_pos H0.out, HCH.out]
            rfl
end Go.Proofs.YtldhbjmillfjgabGreatDoor

namespace Go.Proofs.YtldhbjmillfjgabGreatDoor
open Go.RowKit
set_option linter.unusedVariables false

/-- The variables of the document's gathering: out in block a, put and drop behind it. -/
structure rgath (w : World) (a : Nat) (s : NSt) : Prop where
  out : ∃ p c, w.cell? ⟨a, 0, none⟩ = some (.slice p s.out.length c) ∧ w.ownsRow (a + 3) 50 3 (.slice p s.out.length c) s.out.length (cellsP s.out)
  outF : w.frozen? ⟨a, 0, none⟩ = false
  put : w.cell? ⟨a + 1, 0, none⟩ = some (.string ⟨s.put.toArray⟩)
  putF : w.frozen? ⟨a + 1, 0, none⟩ = false
  drop : w.cell? ⟨a + 2, 0, none⟩ = some (.int .i64 s.drop)
  dropF : w.frozen? ⟨a + 2, 0, none⟩ = false

theorem rgath_lt {w : World} {a : Nat} {s : NSt} (h : rgath w a s) : a + 2 < w.heap.size := World.block_lt_of_cell? w _ h.drop
theorem rgath_below {w w' : World} {a : Nat} {s : NSt} (h : rgath w a s) (hb : Below w.heap.size w w') : rgath w' a s := by
  have hlt := rgath_lt h
  obtain ⟨⟨p, c, h1, h2⟩, h3, h4, h6, h7, h8⟩ := h
  exact ⟨⟨p, c, (hb.cell (p := ⟨a, 0, none⟩) (by show a < _; omega)).trans h1, own_below h2 hb⟩, (hb.frozen (p := ⟨a, 0, none⟩) (by show a < _; omega)).trans h3,
    (hb.cell (p := ⟨a + 1, 0, none⟩) (by show a + 1 < _; omega)).trans h4, (hb.frozen (p := ⟨a + 1, 0, none⟩) (by show a + 1 < _; omega)).trans h6,
    (hb.cell (p := ⟨a + 2, 0, none⟩) (by show a + 2 < _; omega)).trans h7, (hb.frozen (p := ⟨a + 2, 0, none⟩) (by show a + 2 < _; omega)).trans h8⟩

theorem rgath_push {w w1 : World} {a : Nat} {s : NSt} {p : Option Addr} {c : Nat} {o : Obj} {v' : Value} {q : Pt} (h : rgath w a s) (hc : w.cell? ⟨a, 0, none⟩ = some (.slice p s.out.length c))
    (hown1 : w1.ownsRow (a + 3) 50 3 v' (s.out.length + 1) (cellsP s.out ++ partCells q)) (hg : (w.alloc o).grownBy w1 (Value.slice p s.out.length c).ownBlock) :
    rgath (w1.setCell ⟨a, 0, none⟩ v') a ⟨s.out ++ [q], s.put, s.drop⟩ ∧ Below a w (w1.setCell ⟨a, 0, none⟩ v') ∧ Below (a + 3) w w1 ∧ w1.cell? ⟨a, 0, none⟩ = some (.slice p s.out.length c) ∧ w1.frozen? ⟨a, 0, none⟩ = false := by
  have hlt := rgath_lt h
  obtain ⟨⟨p1, c1, h1, h2⟩, h3, h4, h6, h7, h8⟩ := h
  rw [hc] at h1
  simp only [Option.some.injEq, Value.slice.injEq, true_and] at h1
  obtain ⟨rfl, rfl⟩ := h1
  have hrow : ∀ k, (Value.slice p s.out.length c).ownBlock = some k → a + 3 ≤ k := fun k hk => (h2.lt k hk).1
  have hb1 : Below (a + 3) w w1 := ((Below.refl (a + 3) w).alloc (by omega) o).grown hg (by rw [World.size_alloc]; omega) hrow
  have hc1 : w1.cell? ⟨a, 0, none⟩ = some (.slice p s.out.length c) := by rw [hb1.cell (p := ⟨a, 0, none⟩) (by show a < _; omega)]; exact hc
  have hf1 : w1.frozen? ⟨a, 0, none⟩ = false := by rw [hb1.frozen (p := ⟨a, 0, none⟩) (by show a < _; omega)]; exact h3
  obtain ⟨pv, cv, rfl⟩ := own_slice hown1
  refine ⟨⟨⟨pv, cv, ?_, ?_⟩, ?_, ?_, ?_, ?_, ?_⟩, (hb1.mono (show a ≤ a + 3 by omega)).setCell (Nat.le_refl _) _, hb1, hc1, hf1⟩
  · show _ = some (Value.slice pv (s.out ++ [q]).length cv)
    rw [List.length_append]; exact World.cell?_setCell_same _ _ _ hc1
  · show World.ownsRow _ _ _ _ (.slice pv (s.out ++ [q]).length cv) (s.out ++ [q]).length (cellsP (s.out ++ [q]))
    rw [List.length_append, cellsP_snoc]; exact own_set hown1 (by omega) _
  · rw [World.frozen?_setCell]; exact hf1
  · rw [cell_set_ne (by omega)]; exact (hb1.cell (p := ⟨a + 1, 0, none⟩) (by show a + 1 < _; omega)).trans h4
  · rw [World.frozen?_setCell]; exact (hb1.frozen (p := ⟨a + 1, 0, none⟩) (by show a + 1 < _; omega)).trans h6
  · rw [cell_set_ne (by omega)]; exact (hb1.cell (p := ⟨a + 2, 0, none⟩) (by show a + 2 < _; omega)).trans h7
  · rw [World.frozen?_setCell]; exact (hb1.frozen (p := ⟨a + 2, 0, none⟩) (by show a + 2 < _; omega)).trans h8

theorem rgath_put {w : World} {a : Nat} {s : NSt} (h : rgath w a s) (q : List UInt8) : rgath (w.setCell ⟨a + 1, 0, none⟩ (.string ⟨q.toArray⟩)) a ⟨s.out, q, s.drop⟩ ∧ Below a w (w.setCell ⟨a + 1, 0, none⟩ (.string ⟨q.toArray⟩)) := by
  have hlt := rgath_lt h
  obtain ⟨⟨p, c, h1, h2⟩, h3, h4, h6, h7, h8⟩ := h
  refine ⟨⟨⟨p, c, ?_, own_set h2 (by omega) _⟩, ?_, World.cell?_setCell_same _ _ _ h4, ?_, ?_, ?_⟩, (Below.refl a w).setCell (by show a ≤ a + 1; omega) _⟩
  · rw [cell_set_ne (by omega)]; exact h1
  · rw [World.frozen?_setCell]; exact h3
  · rw [World.frozen?_setCell]; exact h6
  · rw [cell_set_ne (by omega)]; exact h7
  · rw [World.frozen?_setCell]; exact h8
theorem rgath_drop {w : World} {a : Nat} {s : NSt} (h : rgath w a s) (d : Int) : rgath (w.setCell ⟨a + 2, 0, none⟩ (.int .i64 d)) a ⟨s.out, s.put, d⟩ ∧ Below a w (w.setCell ⟨a + 2, 0, none⟩ (.int .i64 d)) := by
  have hlt := rgath_lt h
  obtain ⟨⟨p, c, h1, h2⟩, h3, h4, h6, h7, h8⟩ := h
  refine ⟨⟨⟨p, c, ?_, own_set h2 (by omega) _⟩, ?_, ?_, ?_, World.cell?_setCell_same _ _ _ h7, ?_⟩, (Below.refl a w).setCell (by show a ≤ a + 2; omega) _⟩
  · rw [cell_set_ne (by omega)]; exact h1
  · rw [World.frozen?_setCell]; exact h3
  · rw [cell_set_ne (by omega)]; exact h4
  · rw [World.frozen?_setCell]; exact h6
  · rw [World.frozen?_setCell]; exact h8

set_option maxRecDepth 100000 in
set_option maxHeartbeats 1000000 in
theorem refDone_oo (a : Nat) (s : NSt) (w : World) (h : rgath w a s) (hlen : s.out.length < 1000000000) (hp : s.put = []) (hd : s.drop = 0) :
    Calls Tryz.prog 181 #[.pointer (some ⟨a + 1, 0, none⟩), .pointer (some ⟨a, 0, none⟩), .pointer (some ⟨a + 2, 0, none⟩)] w fun e w' => (∃ v, e = .returned v) ∧ rgath w' a ⟨s.out, [], 0⟩ ∧ Below a w w' := by
  obtain ⟨i0, hi, hz0, hz1, hz2⟩ := info_parts info_part
  have hlt := rgath_lt h
  have H0 : Hid (rgath w a s) := h
  obtain ⟨⟨p, c, h1, h2⟩, h3, h4, h6, h7, h8⟩ := h
  have HO : Hid (w.ownsRow (a + 3) 50 3 (.slice p s.out.length c) s.out.length (cellsP s.out)) := h2
  have HC : Hid (w.cell? ⟨a, 0, none⟩ = some (.slice p s.out.length c)) := h1
  have hpe : s.put.isEmpty = true := by simpa using hp
  have hd0 : ¬ (0 : Int) < s.drop := by omega
  clear h2
  go_enter Tryz.func181, Tryz.ntmps181
  go_wp2
  go_end0
  have F1 := rgath_put H0.out []
  have F2 := rgath_drop F1.1 0
  exact ⟨⟨_, rfl⟩, F2.1, F1.2.trans F2.2⟩

set_option maxRecDepth 100000 in
set_option maxHeartbeats 1000000 in
theorem refDone_od (a : Nat) (s : NSt) (w : World) (h : rgath w a s) (hlen : s.out.length < 1000000000) (hp : s.put = []) (hd : 0 < s.drop) :
    Calls Tryz.prog 181 #[.pointer (some ⟨a + 1, 0, none⟩), .pointer (some ⟨a, 0, none⟩), .pointer (some ⟨a + 2, 0, none⟩)] w fun e w' => (∃ v, e = .returned v) ∧ rgath w' a ⟨s.out ++ [⟨0, s.drop, []⟩], [], 0⟩ ∧ Below a w w' := by
  obtain ⟨i0, hi, hz0, hz1, hz2⟩ := info_parts info_part
  have hlt := rgath_lt h
  have H0 : Hid (rgath w a s) := h
  obtain ⟨⟨p, c, h1, h2⟩, h3, h4, h6, h7, h8⟩ := h
  have HO : Hid (w.ownsRow (a + 3) 50 3 (.slice p s.out.length c) s.out.length (cellsP s.out)) := h2
  have HC : Hid (w.cell? ⟨a, 0, none⟩ = some (.slice p s.out.length c)) := h1
  have hpe : s.put.isEmpty = true := by simpa using hp
  clear h2
  go_enter Tryz.func181, Tryz.ntmps181
  go_wp2_with (first | (at_builtin; refine wpList_append_own _ rfl _ _ 23 rfl (a + 3) 50 i0 (.agg #[.int .i64 0, .int .i64 0, .string ⟨#[]⟩]) 3 32 Tryz.underlying23 hi hz0 hz1 hz2 rfl (by decide) _ _ _ rfl (HO.out.alloc _) ⟨w.heap.size, 0, none⟩ 1 1 (partCells ⟨0, s.drop, []⟩) rfl rfl (cells_new _ _ _) (partCells_one _) (by unfold maxLen; omega) (by omega) (by first | omega | (simp; omega)) ?_) | fail)
  intro v2 w2 hown2 hg2 _
  have P2 := rgath_push (q := ⟨0, s.drop, []⟩) H0.out HC.out hown2 hg2
  have z4 := h4
  have z6 := h6
  have z7 := h7
  have z8 := h8
  clear h1 h3 h4 h6 h7 h8
  obtain ⟨p2, q2, hv2⟩ := own_slice hown2
  rw [hv2] at P2 ⊢
  obtain ⟨G2, B2, hb2, t1, t2⟩ := P2
  have HG2 : Hid (rgath _ a ⟨s.out ++ [⟨0, s.drop, []⟩], s.put, s.drop⟩) := G2
  have HB2 : Hid (Below a _ _) := B2
  have y4 := (hb2.cell (p := ⟨a + 1, 0, none⟩) (by show a + 1 < _; omega)).trans z4
  have y6 := (hb2.frozen (p := ⟨a + 1, 0, none⟩) (by show a + 1 < _; omega)).trans z6
  have y7 := (hb2.cell (p := ⟨a + 2, 0, none⟩) (by show a + 2 < _; omega)).trans z7
  have y8 := (hb2.frozen (p := ⟨a + 2, 0, none⟩) (by show a + 2 < _; omega)).trans z8
  have hs2 := hb2.size
  clear z4 z6 z7 z8 G2 B2 hown2 hg2 hb2 hv2
  go_wp2
  go_end0
  have F1 := rgath_put HG2.out []
  have F2 := rgath_drop F1.1 0
  exact ⟨⟨_, rfl⟩, F2.1, (HB2.out).trans (F1.2.trans F2.2)⟩

set_option maxRecDepth 100000 in
set_option maxHeartbeats 1000000 in
theorem refDone_po (a : Nat) (s : NSt) (w : World) (h : rgath w a s) (hlen : s.out.length < 1000000000) (hp : s.put ≠ []) (hd : s.drop = 0) :
    Calls Tryz.prog 181 #[.pointer (some ⟨a + 1, 0, none⟩), .pointer (some ⟨a, 0, none⟩), .pointer (some ⟨a + 2, 0, none⟩)] w fun e w' => (∃ v, e = .returned v) ∧ rgath w' a ⟨s.out ++ [⟨0, 0, s.put⟩], [], 0⟩ ∧ Below a w w' := by
  obtain ⟨i0, hi, hz0, hz1, hz2⟩ := info_parts info_part
  have hlt := rgath_lt h
  have H0 : Hid (rgath w a s) := h
  obtain ⟨⟨p, c, h1, h2⟩, h3, h4, h6, h7, h8⟩ := h
  have HO : Hid (w.ownsRow (a + 3) 50 3 (.slice p s.out.length c) s.out.length (cellsP s.out)) := h2
  have HC : Hid (w.cell? ⟨a, 0, none⟩ = some (.slice p s.out.length c)) := h1
  have hpe : s.put.isEmpty = false := by simpa using hp
  have hd0 : ¬ (0 : Int) < s.drop := by omega
  clear h2
  go_enter Tryz.func181, Tryz.ntmps181
  go_wp2_with (first | (at_builtin; refine wpList_append_own _ rfl _ _ 23 rfl (a + 3) 50 i0 (.agg #[.int .i64 0, .int .i64 0, .string ⟨#[]⟩]) 3 32 Tryz.underlying23 hi hz0 hz1 hz2 rfl (by decide) _ _ _ rfl (HO.out.alloc _) ⟨w.heap.size, 0, none⟩ 1 1 (partCells ⟨0, 0, s.put⟩) rfl rfl (cells_new _ _ _) (partCells_one _) (by unfold maxLen; omega) (by omega) (by first | omega | (simp; omega)) ?_) | fail)
  intro v1 w1 hown1 hg1 _
  have P1 := rgath_push (q := ⟨0, 0, s.put⟩) H0.out HC.out hown1 hg1
  obtain ⟨p1, q1, hv1⟩ := own_slice hown1
  rw [hv1] at P1 hown1 ⊢
  obtain ⟨G1, B1, hb1, r1, r2⟩ := P1
  have HG1 : Hid (rgath (w1.setCell ⟨a, 0, none⟩ (.slice p1 (s.out.length + 1) q1)) a ⟨s.out ++ [⟨0, 0, s.put⟩], s.put, s.drop⟩) := G1
  have HB1 : Hid (Below a w (w1.setCell ⟨a, 0, none⟩ (.slice p1 (s.out.length + 1) q1))) := B1
  have HO1 : Hid ((w1.setCell ⟨a, 0, none⟩ (.slice p1 (s.out.length + 1) q1)).ownsRow (a + 3) 50 3 (.slice p1 (s.out.length + 1) q1) (s.out.length + 1) (cellsP s.out ++ partCells ⟨0, 0, s.put⟩)) := own_set hown1 (show a < a + 3 by omega) (.slice p1 (s.out.length + 1) q1)
  have HK1 : Hid ((w1.setCell ⟨a, 0, none⟩ (.slice p1 (s.out.length + 1) q1)).cell? ⟨a, 0, none⟩ = some (.slice p1 (s.out.length + 1) q1)) := World.cell?_setCell_same _ _ _ r1
  have k4 := (hb1.cell (p := ⟨a + 1, 0, none⟩) (by show a + 1 < _; omega)).trans h4
  have k6 := (hb1.frozen (p := ⟨a + 1, 0, none⟩) (by show a + 1 < _; omega)).trans h6
  have k7 := (hb1.cell (p := ⟨a + 2, 0, none⟩) (by show a + 2 < _; omega)).trans h7
  have k8 := (hb1.frozen (p := ⟨a + 2, 0, none⟩) (by show a + 2 < _; omega)).trans h8
  have hs1 := hb1.size
  clear h1 h3 h4 h6 h7 h8 G1 B1 hown1 hg1 hb1 hv1
  go_wp2
  go_end0
  have F1 := rgath_put HG1.out []
  have F2 := rgath_drop F1.1 0
  exact ⟨⟨_, rfl⟩, F2.1, (HB1.out).trans (F1.2.trans F2.2)⟩

set_option maxRecDepth 100000 in
set_option maxHeartbeats 1000000 in
theorem refDone_pd (a : Nat) (s : NSt) (w : World) (h : rgath w a s) (hlen : s.out.length < 1000000000) (hp : s.put ≠ []) (hd : 0 < s.drop) :
    Calls Tryz.prog 181 #[.pointer (some ⟨a + 1, 0, none⟩), .pointer (some ⟨a, 0, none⟩), .pointer (some ⟨a + 2, 0, none⟩)] w fun e w' => (∃ v, e = .returned v) ∧ rgath w' a ⟨s.out ++ [⟨0, 0, s.put⟩, ⟨0, s.drop, []⟩], [], 0⟩ ∧ Below a w w' := by
  obtain ⟨i0, hi, hz0, hz1, hz2⟩ := info_parts info_part
  have hlt := rgath_lt h
  have H0 : Hid (rgath w a s) := h
  obtain ⟨⟨p, c, h1, h2⟩, h3, h4, h6, h7, h8⟩ := h
  have HO : Hid (w.ownsRow (a + 3) 50 3 (.slice p s.out.length c) s.out.length (cellsP s.out)) := h2
  have HC : Hid (w.cell? ⟨a, 0, none⟩ = some (.slice p s.out.length c)) := h1
  have hpe : s.put.isEmpty = false := by simpa using hp
  clear h2
  go_enter Tryz.func181, Tryz.ntmps181
  go_wp2_with (first | (at_builtin; refine wpList_append_own _ rfl _ _ 23 rfl (a + 3) 50 i0 (.agg #[.int .i64 0, .int .i64 0, .string ⟨#[]⟩]) 3 32 Tryz.underlying23 hi hz0 hz1 hz2 rfl (by decide) _ _ _ rfl (HO.out.alloc _) ⟨w.heap.size, 0, none⟩ 1 1 (partCells ⟨0, 0, s.put⟩) rfl rfl (cells_new _ _ _) (partCells_one _) (by unfold maxLen; omega) (by omega) (by first | omega | (simp; omega)) ?_) | fail)
  intro v1 w1 hown1 hg1 _
  have P1 := rgath_push (q := ⟨0, 0, s.put⟩) H0.out HC.out hown1 hg1
  obtain ⟨p1, q1, hv1⟩ := own_slice hown1
  rw [hv1] at P1 hown1 ⊢
  obtain ⟨G1, B1, hb1, r1, r2⟩ := P1
  have HG1 : Hid (rgath (w1.setCell ⟨a, 0, none⟩ (.slice p1 (s.out.length + 1) q1)) a ⟨s.out ++ [⟨0, 0, s.put⟩], s.put, s.drop⟩) := G1
  have HB1 : Hid (Below a w (w1.setCell ⟨a, 0, none⟩ (.slice p1 (s.out.length + 1) q1))) := B1
  have HO1 : Hid ((w1.setCell ⟨a, 0, none⟩ (.slice p1 (s.out.length + 1) q1)).ownsRow (a + 3) 50 3 (.slice p1 (s.out.length + 1) q1) (s.out.length + 1) (cellsP s.out ++ partCells ⟨0, 0, s.put⟩)) := own_set hown1 (show a < a + 3 by omega) (.slice p1 (s.out.length + 1) q1)
  have HK1 : Hid ((w1.setCell ⟨a, 0, none⟩ (.slice p1 (s.out.length + 1) q1)).cell? ⟨a, 0, none⟩ = some (.slice p1 (s.out.length + 1) q1)) := World.cell?_setCell_same _ _ _ r1
  have k4 := (hb1.cell (p := ⟨a + 1, 0, none⟩) (by show a + 1 < _; omega)).trans h4
  have k6 := (hb1.frozen (p := ⟨a + 1, 0, none⟩) (by show a + 1 < _; omega)).trans h6
  have k7 := (hb1.cell (p := ⟨a + 2, 0, none⟩) (by show a + 2 < _; omega)).trans h7
  have k8 := (hb1.frozen (p := ⟨a + 2, 0, none⟩) (by show a + 2 < _; omega)).trans h8
  have hs1 := hb1.size
  clear h1 h3 h4 h6 h7 h8 G1 B1 hown1 hg1 hb1 hv1
  go_wp2_with (first | (at_builtin; refine wpList_append_own _ rfl _ _ 23 rfl (a + 3) 50 i0 (.agg #[.int .i64 0, .int .i64 0, .string ⟨#[]⟩]) 3 32 Tryz.underlying23 hi hz0 hz1 hz2 rfl (by decide) _ _ _ rfl (HO1.out.alloc _) ⟨w1.heap.size, 0, none⟩ 1 1 (partCells ⟨0, s.drop, []⟩) rfl rfl (cells_new_set _ _ _ _ _) (partCells_one _) (by unfold maxLen; omega) (by omega) (by first | omega | (simp; omega)) ?_) | fail)
  intro v2 w2 hown2 hg2 _
  have hown2' : w2.ownsRow (a + 3) 50 3 v2 ((s.out ++ [(⟨0, 0, s.put⟩ : Pt)]).length + 1) (cellsP (s.out ++ [(⟨0, 0, s.put⟩ : Pt)]) ++ partCells ⟨0, s.drop, []⟩) := by
    rw [cellsP_snoc, List.length_append, List.append_assoc]; exact hown2
  have hls : (s.out ++ [(⟨0, 0, s.put⟩ : Pt)]).length = s.out.length + 1 := by rw [List.length_append]; rfl
  have HK1' : (w1.setCell ⟨a, 0, none⟩ (.slice p1 (s.out.length + 1) q1)).cell? ⟨a, 0, none⟩ = some (.slice p1 (s.out ++ [(⟨0, 0, s.put⟩ : Pt)]).length q1) := by rw [hls]; exact HK1.out
  have P2 := rgath_push (q := ⟨0, s.drop, []⟩) HG1.out HK1' hown2' (by rw [hls]; exact hg2)
  have z4 : (w1.setCell ⟨a, 0, none⟩ (.slice p1 (s.out.length + 1) q1)).cell? ⟨a + 1, 0, none⟩ = some (.string ⟨s.put.toArray⟩) := (cell_set_ne (by omega) _).trans k4
  have z6 : (w1.setCell ⟨a, 0, none⟩ (.slice p1 (s.out.length + 1) q1)).frozen? ⟨a + 1, 0, none⟩ = false := by rw [World.frozen?_setCell]; exact k6
  have z7 : (w1.setCell ⟨a, 0, none⟩ (.slice p1 (s.out.length + 1) q1)).cell? ⟨a + 2, 0, none⟩ = some (.int .i64 s.drop) := (cell_set_ne (by omega) _).trans k7
  have z8 : (w1.setCell ⟨a, 0, none⟩ (.slice p1 (s.out.length + 1) q1)).frozen? ⟨a + 2, 0, none⟩ = false := by rw [World.frozen?_setCell]; exact k8
  clear HK1' hown2' k4 k6 k7 k8 r1 r2
  obtain ⟨p2, q2, hv2⟩ := own_slice hown2
  rw [hv2] at P2 ⊢
  obtain ⟨G2, B2, hb2, t1, t2⟩ := P2
  have HG2 : Hid (rgath _ a ⟨s.out ++ [⟨0, 0, s.put⟩] ++ [⟨0, s.drop, []⟩], s.put, s.drop⟩) := G2
  have HB2 : Hid (Below a _ _) := B2
  have y4 := (hb2.cell (p := ⟨a + 1, 0, none⟩) (by show a + 1 < _; omega)).trans z4
  have y6 := (hb2.frozen (p := ⟨a + 1, 0, none⟩) (by show a + 1 < _; omega)).trans z6
  have y7 := (hb2.cell (p := ⟨a + 2, 0, none⟩) (by show a + 2 < _; omega)).trans z7
  have y8 := (hb2.frozen (p := ⟨a + 2, 0, none⟩) (by show a + 2 < _; omega)).trans z8
  have hs2 := hb2.size
  clear z4 z6 z7 z8 G2 B2 hown2 hg2 hb2 hv2
  go_wp2
  go_end0
  have F1 := rgath_put HG2.out []
  have F2 := rgath_drop F1.1 0
  have F3 := F2.1
  rw [List.append_assoc] at F3
  exact ⟨⟨_, rfl⟩, F3, (HB1.out.trans HB2.out).trans (F1.2.trans F2.2)⟩

theorem refDone_any (a : Nat) (s : NSt) (w : World) (h : rgath w a s) (hlen : s.out.length < 1000000000) (h0 : 0 ≤ s.drop) :
    Calls Tryz.prog 181 #[.pointer (some ⟨a + 1, 0, none⟩), .pointer (some ⟨a, 0, none⟩), .pointer (some ⟨a + 2, 0, none⟩)] w fun e w' => (∃ v, e = .returned v) ∧ rgath w' a ⟨tellP s, [], 0⟩ ∧ Below a w w' := by
  unfold tellP
  by_cases hp : s.put = []
  · by_cases hd : s.drop = 0
    · have := refDone_oo a s w h hlen hp hd
      simpa [hp, hd] using this
    · have := refDone_od a s w h hlen hp (by omega)
      simpa [hp, hd] using this
  · by_cases hd : s.drop = 0
    · have := refDone_po a s w h hlen hp hd
      simpa [hp, hd] using this
    · have := refDone_pd a s w h hlen hp (by omega)
      simpa [hp, hd] using this
end Go.Proofs.YtldhbjmillfjgabGreatDoor

namespace Go.Proofs.YtldhbjmillfjgabGreatDoor
open Go.RowKit
set_option linter.unusedVariables false

/-- What the document's gathering keeps is at most so much. -/
structure BdK (s : KSt) (T k : Nat) : Prop where
  put : s.put.length ≤ T
  d0 : 0 ≤ s.drop
  dk : s.drop ≤ k
  k0 : 0 ≤ s.keep
  kk : s.keep ≤ k
  len : s.out.length ≤ 3 * k
theorem bdk0 : BdK kst0 0 0 := ⟨by simp [kst0], by simp [kst0], by simp [kst0], by simp [kst0], by simp [kst0], by simp [kst0]⟩
theorem tellP_len (s : NSt) : (tellP s).length ≤ s.out.length + 2 := by
  unfold tellP
  simp only [List.length_append]
  split <;> split <;> simp
theorem BdK.step {s : KSt} {T k : Nat} (h : BdK s T k) (x : List UInt8 × Bool) : BdK (stepK s x) (T + x.1.length) (k + 1) := by
  obtain ⟨q, d⟩ := x
  obtain ⟨h1, h2, h3, h4, h5, h6⟩ := h
  have hf : (flushK s q d).put.length ≤ T + q.length ∧ (flushK s q d).drop = s.drop ∧ 0 ≤ (flushK s q d).keep ∧ (flushK s q d).keep ≤ k ∧ (flushK s q d).out.length ≤ 3 * k + 1 := by
    unfold flushK
    split
    · refine ⟨by show (s.put ++ q).length ≤ _; rw [List.length_append]; omega, rfl, ?_, ?_, ?_⟩
      · show 0 ≤ if 0 < s.keep then 0 else s.keep; split <;> omega
      · show (if 0 < s.keep then 0 else s.keep) ≤ _; split <;> omega
      · show (if 0 < s.keep then s.out ++ [⟨s.keep, 0, []⟩] else s.out).length ≤ _
        split
        · rw [List.length_append, List.length_singleton]; omega
        · omega
    · exact ⟨by omega, rfl, h4, h5, by omega⟩
  obtain ⟨f1, f2, f3, f4, f5⟩ := hf
  show BdK (byteK (flushK s q d) d) (T + q.length) (k + 1)
  generalize flushK s q d = t at *
  unfold byteK
  cases d with
  | true => exact ⟨f1, by show 0 ≤ t.drop + 1; omega, by show t.drop + 1 ≤ _; omega, f3, by show t.keep ≤ _; omega, by show t.out.length ≤ _; omega⟩
  | false =>
    have : (tellP ⟨t.out, t.put, t.drop⟩).length ≤ t.out.length + 2 := tellP_len _
    exact ⟨Nat.zero_le _, Int.le_refl _, by show (0 : Int) ≤ _; omega, by show 0 ≤ t.keep + 1; omega, by show t.keep + 1 ≤ _; omega, by show (tellP ⟨t.out, t.put, t.drop⟩).length ≤ _; omega⟩
def putsK (l : List (List UInt8 × Bool)) : Nat := (l.map fun x => x.1.length).sum
theorem putsK_snoc (l : List (List UInt8 × Bool)) (x : List UInt8 × Bool) : putsK (l ++ [x]) = putsK l + x.1.length := by simp [putsK]
theorem bdks (l : List (List UInt8 × Bool)) (k : Nat) (hk : k ≤ l.length) : BdK ((l.take k).foldl stepK kst0) (putsK (l.take k)) k := by
  induction k with
  | zero => exact bdk0
  | succ k ih =>
    have := ih (by omega)
    rw [List.take_succ_eq_append_getElem (by omega), List.foldl_append]
    rw [putsK_snoc]
    exact this.step _
theorem putsK_take (l : List (List UInt8 × Bool)) (k : Nat) : putsK (l.take k) ≤ putsK l := by
  have h1 : putsK l = putsK (l.take k) + putsK (l.drop k) := by
    unfold putsK
    rw [← List.sum_append, ← List.map_append, List.take_append_drop]
  omega

set_option maxRecDepth 100000 in
set_option maxHeartbeats 8000000 in
theorem Gather_any (g1 g2 n : Nat) (G : GSt) (w : World) (hn : G.1.length = n) (hn' : n < 10000000) (hsz : putsK G.1 + G.2.length < 1000000000)
    (h1 : ∀ (i : Nat) q, (G.1.map (·.1) ++ [G.2])[i]? = some q → w.cell? ⟨g1, i, none⟩ = some (strV q)) (h2 : ∀ (i : Nat) d, (G.1.map (·.2))[i]? = some d → w.cell? ⟨g2, i, none⟩ = some (.bool d)) (lt1 : g1 < w.heap.size) (lt2 : g2 < w.heap.size) :
    Calls Tryz.prog 149 #[.agg #[.slice (some ⟨g1, 0, none⟩) (n + 1) (n + 1), .slice (some ⟨g2, 0, none⟩) n n]] w fun e w' => ∃ v, e = .returned v ∧ w'.ownsRow w.heap.size 50 3 v (gatherP G).length (cellsP (gatherP G)) ∧ Below w.heap.size w w' := by
  obtain ⟨i0, hi, hz0, hz1, hz2⟩ := info_parts info_part
  have H1 : Hid (∀ (i : Nat) q, (G.1.map (·.1) ++ [G.2])[i]? = some q → w.cell? ⟨g1, i, none⟩ = some (strV q)) := h1
  have H2 : Hid (∀ (i : Nat) d, (G.1.map (·.2))[i]? = some d → w.cell? ⟨g2, i, none⟩ = some (.bool d)) := h2
  have HN : Hid (G.1.length = n) := hn
  have HSZ : Hid (putsK G.1 + G.2.length < 1000000000) := hsz
  have hwn : IntKind.i64.wrap ((n : Int) + 1) = (n : Int) + 1 := by rw [IntKind.wrap_i64]; omega
  clear h1 h2 hn hsz
  go_enter Tryz.func149, Tryz.ntmps149
  go_wp2
  go_loopw [6, 14] (fun kp i wr => ∃ (k : Nat), k ≤ n ∧ i = .int .i64 k ∧ kp = .int .i64 ((G.1.take k).foldl stepK kst0).keep ∧
      rgath wr (w.heap.size + 1) ⟨((G.1.take k).foldl stepK kst0).out, ((G.1.take k).foldl stepK kst0).put, ((G.1.take k).foldl stepK kst0).drop⟩ ∧
      wr.cell? ⟨w.heap.size, 0, none⟩ = some (.slice (some ⟨g1, 0, none⟩) (n + 1) (n + 1)) ∧ wr.cell? ⟨w.heap.size, 1, none⟩ = some (.slice (some ⟨g2, 0, none⟩) n n) ∧ Below w.heap.size w wr) (fun _ i _ => n + 1 - (intOf i).toNat)
  case atStart =>
    refine ⟨0, Nat.zero_le _, rfl, rfl, ⟨⟨none, 0, by simp [go_sem, kst0], World.ownsRow_nil _ _ _ _⟩, by simp [go_sem], by simp [go_sem, kst0], by simp [go_sem], by simp [go_sem, kst0], by simp [go_sem]⟩, by simp [go_sem], by simp [go_sem], ?_⟩
    have b1 := (Below.refl w.heap.size w).alloc (Nat.le_refl _) (.cells #[.slice (some ⟨g1, 0, none⟩) (n + 1) (n + 1), .slice (some ⟨g2, 0, none⟩) n n] 252)
    have b2 := b1.alloc b1.size (.cells #[.slice none 0 0] 23)
    have b3 := b2.alloc b2.size (.cells #[.string ⟨#[]⟩] 9)
    exact b3.alloc b3.size _
  case round =>
    obtain ⟨k, hk, rfl, rfl, hg, b0, b1, hwr⟩ := hrel
    have hbd := bdks G.1 k (by rw [HN.out]; exact hk)
    have hpt := putsK_take G.1 k
    have hlt := rgath_lt hg
    by_cases hkn : k < n
    · have hkr : k < G.1.length := by rw [HN.out]; exact hkn
      have e1 := H1.out k G.1[k].1 (by rw [List.getElem?_append_left (by simpa using hkr), List.getElem?_map, List.getElem?_eq_getElem hkr]; rfl)
      have e2 := H2.out k G.1[k].2 (by rw [List.getElem?_map, List.getElem?_eq_getElem hkr]; rfl)
      have c1 := (hwr.cell (p := ⟨g1, k, none⟩) lt1).trans e1
      have c2 := (hwr.cell (p := ⟨g2, k, none⟩) lt2).trans e2
      have hst : (G.1.take (k + 1)).foldl stepK kst0 = stepK ((G.1.take k).foldl stepK kst0) G.1[k] := by rw [List.take_succ_eq_append_getElem hkr, List.foldl_append]; rfl
      have hql : G.1[k].1.length ≤ putsK G.1 := by
        have := putsK_take G.1 (k + 1)
        rw [List.take_succ_eq_append_getElem hkr, putsK_snoc] at this
        omega
      have hsz := HSZ.out
      generalize G.1[k] = x at *
      generalize (G.1.take k).foldl stepK kst0 = K at *
      obtain ⟨q, d⟩ := x
      obtain ⟨out, put, drop, keep⟩ := K
      have hbd' := hbd
      obtain ⟨f1, f2, f3, f4, f5, f6⟩ := hbd'
      simp only at f1 f2 f3 f4 f5 f6 c1 c2 hg hql ⊢
      unfold strV at c1
      have hcat := str_append put q
      have hcb : ¬ 9223372036854775807 < put.length + q.length := by omega
      have HG : Hid (rgath wr (w.heap.size + 1) ⟨out, put, drop⟩) := hg
      obtain ⟨⟨p, c, o0, o1⟩, o2, o3, o4, o5, o6⟩ := hg
      have HO : Hid (wr.ownsRow (w.heap.size + 1 + 3) 50 3 (.slice p out.length c) out.length (cellsP out)) := o1
      have HC : Hid (wr.cell? ⟨w.heap.size + 1, 0, none⟩ = some (.slice p out.length c)) := o0
      have HW : Hid (Below w.heap.size w wr) := hwr
      have lt1' : g1 < wr.heap.size := Nat.lt_of_lt_of_le lt1 hwr.size
      have hkz : (k : Int) < (n : Int) + 1 := by omega
      have hkz2 : (k : Int) < (n : Int) := by omega
      have hkb : ((k : Int) == (n : Int)) = false := beq_eq_false_iff_ne.2 (by omega)
      have hw1 : IntKind.i64.wrap (drop + 1) = drop + 1 := by rw [IntKind.wrap_i64]; omega
      have hw2 : IntKind.i64.wrap (keep + 1) = keep + 1 := by rw [IntKind.wrap_i64]; omega
      have hw3 : IntKind.i64.wrap ((0 : Int) + 1) = 1 := by rw [IntKind.wrap_i64]; rfl
      have hol : out.length < 500000000 := by omega
      clear e1 e2 o1 hwr hbd hpt hsz hql
      by_cases hq : q = []
      · cases d with
        | true =>
          by_cases hkp : (0 : Int) < keep
          · skip
            subst hq
            have hcat0 : (ByteArray.mk put.toArray ++ ByteArray.mk #[] : ByteArray) = ⟨put.toArray⟩ := by have := str_append put []; simpa using this
            have hcb0 : ¬ 9223372036854775807 < put.length := by have := hcb; simp at this; omega
            clear hcat hcb
            go_wp2_with (first | (at_builtin; refine wpList_append_own _ rfl _ _ 23 rfl (w.heap.size + 1 + 3) 50 i0 (.agg #[.int .i64 0, .int .i64 0, .string ⟨#[]⟩]) 3 32 Tryz.underlying23 hi hz0 hz1 hz2 rfl (by decide) _ _ _ rfl (HO.out.alloc _) ⟨wr.heap.size, 0, none⟩ 1 1 (partCells ⟨keep, 0, []⟩) rfl rfl (cells_new _ _ _) (partCells_one _) (by unfold maxLen; omega) (by omega) (by first | omega | (simp; omega)) ?_) | fail)
            intro v1 w1 hown1 hg1 _
            have P1 := rgath_push (q := ⟨keep, 0, []⟩) HG.out HC.out hown1 hg1
            obtain ⟨p1, q1, hv1⟩ := own_slice hown1
            rw [hv1] at P1 ⊢
            obtain ⟨G1, B1, hb1, r1, r2⟩ := P1
            have k3 := (hb1.cell (p := ⟨w.heap.size + 1 + 1, 0, none⟩) (by show w.heap.size + 1 + 1 < _; omega)).trans o3
            have k4 := (hb1.frozen (p := ⟨w.heap.size + 1 + 1, 0, none⟩) (by show w.heap.size + 1 + 1 < _; omega)).trans o4
            have k5 := (hb1.cell (p := ⟨w.heap.size + 1 + 2, 0, none⟩) (by show w.heap.size + 1 + 2 < _; omega)).trans o5
            have k6 := (hb1.frozen (p := ⟨w.heap.size + 1 + 2, 0, none⟩) (by show w.heap.size + 1 + 2 < _; omega)).trans o6
            have k7 := (hb1.cell (p := ⟨w.heap.size, 0, none⟩) (by show w.heap.size < _; omega)).trans b0
            have k8 := (hb1.cell (p := ⟨w.heap.size, 1, none⟩) (by show w.heap.size < _; omega)).trans b1
            have k9 := (hb1.cell (p := ⟨g1, k, none⟩) (by show g1 < _; omega)).trans c1
            have k10 := (hb1.cell (p := ⟨g2, k, none⟩) (by show g2 < _; omega)).trans c2
            have HG2 : Hid (rgath (w1.setCell ⟨w.heap.size + 1, 0, none⟩ (.slice p1 (out.length + 1) q1)) (w.heap.size + 1) ⟨out ++ [⟨keep, 0, []⟩], put, drop⟩) := G1
            have HW2 : Hid (Below w.heap.size w (w1.setCell ⟨w.heap.size + 1, 0, none⟩ (.slice p1 (out.length + 1) q1))) := HW.out.trans (B1.mono (by omega))
            clear hown1 hg1 hv1 G1 B1 hb1 o0 o2 o3 o4 o5 o6 b0 b1 c1 HG HC HO HW c2
            go_wp2
            have m3 := (cell_set_ne (show w.heap.size + 1 + 1 ≠ w.heap.size + 1 by omega) (.slice p1 (out.length + 1) q1)).trans k3
            have m4 : (w1.setCell ⟨w.heap.size + 1, 0, none⟩ (.slice p1 (out.length + 1) q1)).frozen? ⟨w.heap.size + 1 + 1, 0, none⟩ = false := by rw [World.frozen?_setCell]; exact k4
            have m5 := (cell_set_ne (show w.heap.size + 1 + 2 ≠ w.heap.size + 1 by omega) (.slice p1 (out.length + 1) q1)).trans k5
            have m6 : (w1.setCell ⟨w.heap.size + 1, 0, none⟩ (.slice p1 (out.length + 1) q1)).frozen? ⟨w.heap.size + 1 + 2, 0, none⟩ = false := by rw [World.frozen?_setCell]; exact k6
            have m7 := (cell_set_ne (show w.heap.size ≠ w.heap.size + 1 by omega) (.slice p1 (out.length + 1) q1)).trans k7
            have m8 := (cell_set_ne (show w.heap.size ≠ w.heap.size + 1 by omega) (.slice p1 (out.length + 1) q1)).trans k8
            have m9 := (cell_set_ne (show g1 ≠ w.heap.size + 1 by omega) (.slice p1 (out.length + 1) q1)).trans k9
            have m10 := (cell_set_ne (show g2 ≠ w.heap.size + 1 by omega) (.slice p1 (out.length + 1) q1)).trans k10
            clear k3 k4 k5 k6 k7 k8 k9 r1 r2 k10
            generalize w1.setCell ⟨w.heap.size + 1, 0, none⟩ (.slice p1 (out.length + 1) q1) = W2 at *
            have hl2 := rgath_lt HG2.out
            have P3 := rgath_put HG2.out (put)
            have HG3 : Hid (rgath (W2.setCell ⟨w.heap.size + 1 + 1, 0, none⟩ (.string ⟨(put).toArray⟩)) (w.heap.size + 1) ⟨out ++ [⟨keep, 0, []⟩], put, drop⟩) := P3.1
            have HW3 : Hid (Below w.heap.size w (W2.setCell ⟨w.heap.size + 1 + 1, 0, none⟩ (.string ⟨(put).toArray⟩))) := HW2.out.trans (P3.2.mono (show w.heap.size ≤ w.heap.size + 1 by omega))
            clear P3
            go_region
            have HST : Hid ((G.1.take (k + 1)).foldl stepK kst0 = ⟨out ++ [⟨keep, 0, []⟩], put, drop + 1, 0⟩) := by
              show _ = _
              rw [hst]
              show byteK (flushK ⟨out, put, drop, keep⟩ [] true) true = _
              unfold flushK
              rw [if_pos (.inr rfl)]
              have hi0 : ∀ (x y : List Pt), (if 0 < keep then x else y) = x := fun x y => if_pos hkp
              have hi1 : (if 0 < keep then (0 : Int) else keep) = 0 := if_pos hkp
              simp only [hi0, hi1, List.append_nil]
              rfl
            clear hst
            have z7 : (W2.setCell ⟨w.heap.size + 1 + 1, 0, none⟩ (.string ⟨(put).toArray⟩)).cell? ⟨w.heap.size, 0, none⟩ = some (.slice (some ⟨g1, 0, none⟩) (n + 1) (n + 1)) := (cell_set_ne (show w.heap.size ≠ w.heap.size + 1 + 1 by omega) _).trans m7
            have z8 : (W2.setCell ⟨w.heap.size + 1 + 1, 0, none⟩ (.string ⟨(put).toArray⟩)).cell? ⟨w.heap.size, 1, none⟩ = some (.slice (some ⟨g2, 0, none⟩) n n) := (cell_set_ne (show w.heap.size ≠ w.heap.size + 1 + 1 by omega) _).trans m8
            have Z7 : Hid _ := z7
            have Z8 : Hid _ := z8
            have P4 := rgath_drop HG3.out (drop + 1)
            have HP4 : Hid _ := rgath_below P4.1 (Below.refl _ _).drew
            have HP5 : Hid _ := (HW3.out.trans (P4.2.mono (show w.heap.size ≤ w.heap.size + 1 by omega))).drew
            clear P4 z7 z8
            go_wp2
            go_roundw
            case rel => exact ⟨k + 1, by omega, by go_num, by rw [HST.out], by rw [HST.out]; exact HP4.out, (cell_set_ne (show w.heap.size ≠ w.heap.size + 1 + 2 by omega) _).trans Z7.out, (cell_set_ne (show w.heap.size ≠ w.heap.size + 1 + 2 by omega) _).trans Z8.out, HP5.out⟩
            case measure => simp [intOf]; omega
          · skip
            subst hq
            have hcat0 : (ByteArray.mk put.toArray ++ ByteArray.mk #[] : ByteArray) = ⟨put.toArray⟩ := by have := str_append put []; simpa using this
            have hcb0 : ¬ 9223372036854775807 < put.length := by have := hcb; simp at this; omega
            clear hcat hcb
            have hkp' : ¬ (0 : Int) < keep := hkp
            go_wp2
            have m3 := o3
            have m4 := o4
            have m5 := o5
            have m6 := o6
            have m7 := b0
            have m8 := b1
            have m9 := c1
            have HG2 := HG
            have HW2 := HW
            have m10 := c2
            clear o0 o2 o3 o4 o5 o6 b0 b1 c1 HG HC HO HW c2
            obtain ⟨W2, hW2⟩ : ∃ W, W = wr := ⟨_, rfl⟩
            rw [← hW2] at m3 m4 m5 m6 m7 m8 m9 m10 HG2 HW2 lt1' ⊢
            clear hW2
            have hl2 := rgath_lt HG2.out
            have P3 := rgath_put HG2.out (put)
            have HG3 : Hid (rgath (W2.setCell ⟨w.heap.size + 1 + 1, 0, none⟩ (.string ⟨(put).toArray⟩)) (w.heap.size + 1) ⟨out, put, drop⟩) := P3.1
            have HW3 : Hid (Below w.heap.size w (W2.setCell ⟨w.heap.size + 1 + 1, 0, none⟩ (.string ⟨(put).toArray⟩))) := HW2.out.trans (P3.2.mono (show w.heap.size ≤ w.heap.size + 1 by omega))
            clear P3
            go_region
            have HST : Hid ((G.1.take (k + 1)).foldl stepK kst0 = ⟨out, put, drop + 1, keep⟩) := by
              show _ = _
              rw [hst]
              show byteK (flushK ⟨out, put, drop, keep⟩ [] true) true = _
              unfold flushK
              rw [if_pos (.inr rfl)]
              have hi0 : ∀ (x y : List Pt), (if 0 < keep then x else y) = y := fun x y => if_neg (by omega)
              have hi1 : (if 0 < keep then (0 : Int) else keep) = keep := if_neg (by omega)
              simp only [hi0, hi1, List.append_nil]
              rfl
            clear hst
            have z7 : (W2.setCell ⟨w.heap.size + 1 + 1, 0, none⟩ (.string ⟨(put).toArray⟩)).cell? ⟨w.heap.size, 0, none⟩ = some (.slice (some ⟨g1, 0, none⟩) (n + 1) (n + 1)) := (cell_set_ne (show w.heap.size ≠ w.heap.size + 1 + 1 by omega) _).trans m7
            have z8 : (W2.setCell ⟨w.heap.size + 1 + 1, 0, none⟩ (.string ⟨(put).toArray⟩)).cell? ⟨w.heap.size, 1, none⟩ = some (.slice (some ⟨g2, 0, none⟩) n n) := (cell_set_ne (show w.heap.size ≠ w.heap.size + 1 + 1 by omega) _).trans m8
            have Z7 : Hid _ := z7
            have Z8 : Hid _ := z8
            have P4 := rgath_drop HG3.out (drop + 1)
            have HP4 : Hid _ := rgath_below P4.1 (Below.refl _ _).drew
            have HP5 : Hid _ := (HW3.out.trans (P4.2.mono (show w.heap.size ≤ w.heap.size + 1 by omega))).drew
            clear P4 z7 z8
            go_wp2
            go_roundw
            case rel => exact ⟨k + 1, by omega, by go_num, by rw [HST.out], by rw [HST.out]; exact HP4.out, (cell_set_ne (show w.heap.size ≠ w.heap.size + 1 + 2 by omega) _).trans Z7.out, (cell_set_ne (show w.heap.size ≠ w.heap.size + 1 + 2 by omega) _).trans Z8.out, HP5.out⟩
            case measure => simp [intOf]; omega
        | false =>
          subst hq
          have hcat0 : (ByteArray.mk put.toArray ++ ByteArray.mk #[] : ByteArray) = ⟨put.toArray⟩ := by have := str_append put []; simpa using this
          have hcb0 : ¬ 9223372036854775807 < put.length := by have := hcb; simp at this; omega
          clear hcat hcb
          have m3 := o3
          have m4 := o4
          have m5 := o5
          have m6 := o6
          have m7 := b0
          have m8 := b1
          have m9 := c1
          have HG2 := HG
          have HW2 := HW
          have m10 := c2
          clear o0 o2 o3 o4 o5 o6 b0 b1 c1 HG HC HO HW c2
          obtain ⟨W2, hW2⟩ : ∃ W, W = wr := ⟨_, rfl⟩
          rw [← hW2] at m3 m4 m5 m6 m7 m8 m9 m10 HG2 HW2 lt1' ⊢
          clear hW2
          have hl2 := rgath_lt HG2.out
          have HG3 := HG2
          have HW3 := HW2
          have HST : Hid ((G.1.take (k + 1)).foldl stepK kst0 = ⟨tellP ⟨out, put, drop⟩, [], 0, keep + 1⟩) := by
            show _ = _
            rw [hst]
            show byteK (flushK ⟨out, put, drop, keep⟩ [] false) false = _
            unfold flushK
            rw [if_neg (by simp)]
            rfl
          clear hst
          have z7 := m7
          have z8 := m8
          have Z7 : Hid _ := z7
          have Z8 : Hid _ := z8
          have HGD := HG3.out
          have cD := refDone_any (w.heap.size + 1) _ _ HGD (by show (out).length < _; first | omega | (rw [List.length_append]; show out.length + 1 < _; omega)) (by show 0 ≤ drop; omega)
          have HL3 := HW3.out.size
          clear z7 z8 HGD
          go_wp2_with (first | (go_at_call 181; refine cD.mono ?_; rintro e w4 ⟨⟨v4, rfl⟩, hg4, hb4⟩; have HG4 : Hid _ := hg4; have HB4 : Hid _ := hb4; clear hg4 hb4) | fail)
          go_roundw
          case rel => exact ⟨k + 1, by omega, by go_num, by rw [HST.out] <;> first | rfl | go_num, by rw [HST.out]; exact HG4.out, (HB4.out.cell (p := ⟨w.heap.size, 0, none⟩) (by show w.heap.size < _; omega)).trans Z7.out, (HB4.out.cell (p := ⟨w.heap.size, 1, none⟩) (by show w.heap.size < _; omega)).trans Z8.out, HW3.out.trans (HB4.out.mono (show w.heap.size ≤ w.heap.size + 1 by omega))⟩
          case measure => simp [intOf]; omega
      · cases d with
        | true =>
          by_cases hkp : (0 : Int) < keep
          · skip
            have hqe : q.isEmpty = false := by simpa using hq
            go_wp2_with (first | (at_builtin; refine wpList_append_own _ rfl _ _ 23 rfl (w.heap.size + 1 + 3) 50 i0 (.agg #[.int .i64 0, .int .i64 0, .string ⟨#[]⟩]) 3 32 Tryz.underlying23 hi hz0 hz1 hz2 rfl (by decide) _ _ _ rfl (HO.out.alloc _) ⟨wr.heap.size, 0, none⟩ 1 1 (partCells ⟨keep, 0, []⟩) rfl rfl (cells_new _ _ _) (partCells_one _) (by unfold maxLen; omega) (by omega) (by first | omega | (simp; omega)) ?_) | fail)
            intro v1 w1 hown1 hg1 _
            have P1 := rgath_push (q := ⟨keep, 0, []⟩) HG.out HC.out hown1 hg1
            obtain ⟨p1, q1, hv1⟩ := own_slice hown1
            rw [hv1] at P1 ⊢
            obtain ⟨G1, B1, hb1, r1, r2⟩ := P1
            have k3 := (hb1.cell (p := ⟨w.heap.size + 1 + 1, 0, none⟩) (by show w.heap.size + 1 + 1 < _; omega)).trans o3
            have k4 := (hb1.frozen (p := ⟨w.heap.size + 1 + 1, 0, none⟩) (by show w.heap.size + 1 + 1 < _; omega)).trans o4
            have k5 := (hb1.cell (p := ⟨w.heap.size + 1 + 2, 0, none⟩) (by show w.heap.size + 1 + 2 < _; omega)).trans o5
            have k6 := (hb1.frozen (p := ⟨w.heap.size + 1 + 2, 0, none⟩) (by show w.heap.size + 1 + 2 < _; omega)).trans o6
            have k7 := (hb1.cell (p := ⟨w.heap.size, 0, none⟩) (by show w.heap.size < _; omega)).trans b0
            have k8 := (hb1.cell (p := ⟨w.heap.size, 1, none⟩) (by show w.heap.size < _; omega)).trans b1
            have k9 := (hb1.cell (p := ⟨g1, k, none⟩) (by show g1 < _; omega)).trans c1
            have k10 := (hb1.cell (p := ⟨g2, k, none⟩) (by show g2 < _; omega)).trans c2
            have HG2 : Hid (rgath (w1.setCell ⟨w.heap.size + 1, 0, none⟩ (.slice p1 (out.length + 1) q1)) (w.heap.size + 1) ⟨out ++ [⟨keep, 0, []⟩], put, drop⟩) := G1
            have HW2 : Hid (Below w.heap.size w (w1.setCell ⟨w.heap.size + 1, 0, none⟩ (.slice p1 (out.length + 1) q1))) := HW.out.trans (B1.mono (by omega))
            clear hown1 hg1 hv1 G1 B1 hb1 o0 o2 o3 o4 o5 o6 b0 b1 c1 HG HC HO HW c2
            go_wp2
            have m3 := (cell_set_ne (show w.heap.size + 1 + 1 ≠ w.heap.size + 1 by omega) (.slice p1 (out.length + 1) q1)).trans k3
            have m4 : (w1.setCell ⟨w.heap.size + 1, 0, none⟩ (.slice p1 (out.length + 1) q1)).frozen? ⟨w.heap.size + 1 + 1, 0, none⟩ = false := by rw [World.frozen?_setCell]; exact k4
            have m5 := (cell_set_ne (show w.heap.size + 1 + 2 ≠ w.heap.size + 1 by omega) (.slice p1 (out.length + 1) q1)).trans k5
            have m6 : (w1.setCell ⟨w.heap.size + 1, 0, none⟩ (.slice p1 (out.length + 1) q1)).frozen? ⟨w.heap.size + 1 + 2, 0, none⟩ = false := by rw [World.frozen?_setCell]; exact k6
            have m7 := (cell_set_ne (show w.heap.size ≠ w.heap.size + 1 by omega) (.slice p1 (out.length + 1) q1)).trans k7
            have m8 := (cell_set_ne (show w.heap.size ≠ w.heap.size + 1 by omega) (.slice p1 (out.length + 1) q1)).trans k8
            have m9 := (cell_set_ne (show g1 ≠ w.heap.size + 1 by omega) (.slice p1 (out.length + 1) q1)).trans k9
            have m10 := (cell_set_ne (show g2 ≠ w.heap.size + 1 by omega) (.slice p1 (out.length + 1) q1)).trans k10
            clear k3 k4 k5 k6 k7 k8 k9 r1 r2 k10
            generalize w1.setCell ⟨w.heap.size + 1, 0, none⟩ (.slice p1 (out.length + 1) q1) = W2 at *
            have hl2 := rgath_lt HG2.out
            have P3 := rgath_put HG2.out (put ++ q)
            have HG3 : Hid (rgath (W2.setCell ⟨w.heap.size + 1 + 1, 0, none⟩ (.string ⟨(put ++ q).toArray⟩)) (w.heap.size + 1) ⟨out ++ [⟨keep, 0, []⟩], put ++ q, drop⟩) := P3.1
            have HW3 : Hid (Below w.heap.size w (W2.setCell ⟨w.heap.size + 1 + 1, 0, none⟩ (.string ⟨(put ++ q).toArray⟩))) := HW2.out.trans (P3.2.mono (show w.heap.size ≤ w.heap.size + 1 by omega))
            clear P3
            go_region
            have HST : Hid ((G.1.take (k + 1)).foldl stepK kst0 = ⟨out ++ [⟨keep, 0, []⟩], put ++ q, drop + 1, 0⟩) := by
              show _ = _
              rw [hst]
              show byteK (flushK ⟨out, put, drop, keep⟩ q true) true = _
              unfold flushK
              rw [if_pos (.inl hq)]
              have hi0 : ∀ (x y : List Pt), (if 0 < keep then x else y) = x := fun x y => if_pos hkp
              have hi1 : (if 0 < keep then (0 : Int) else keep) = 0 := if_pos hkp
              simp only [hi0, hi1]
              rfl
            clear hst
            have z7 : (W2.setCell ⟨w.heap.size + 1 + 1, 0, none⟩ (.string ⟨(put ++ q).toArray⟩)).cell? ⟨w.heap.size, 0, none⟩ = some (.slice (some ⟨g1, 0, none⟩) (n + 1) (n + 1)) := (cell_set_ne (show w.heap.size ≠ w.heap.size + 1 + 1 by omega) _).trans m7
            have z8 : (W2.setCell ⟨w.heap.size + 1 + 1, 0, none⟩ (.string ⟨(put ++ q).toArray⟩)).cell? ⟨w.heap.size, 1, none⟩ = some (.slice (some ⟨g2, 0, none⟩) n n) := (cell_set_ne (show w.heap.size ≠ w.heap.size + 1 + 1 by omega) _).trans m8
            have Z7 : Hid _ := z7
            have Z8 : Hid _ := z8
            have P4 := rgath_drop HG3.out (drop + 1)
            have HP4 : Hid _ := rgath_below P4.1 (Below.refl _ _).drew
            have HP5 : Hid _ := (HW3.out.trans (P4.2.mono (show w.heap.size ≤ w.heap.size + 1 by omega))).drew
            clear P4 z7 z8
            go_wp2
            go_roundw
            case rel => exact ⟨k + 1, by omega, by go_num, by rw [HST.out], by rw [HST.out]; exact HP4.out, (cell_set_ne (show w.heap.size ≠ w.heap.size + 1 + 2 by omega) _).trans Z7.out, (cell_set_ne (show w.heap.size ≠ w.heap.size + 1 + 2 by omega) _).trans Z8.out, HP5.out⟩
            case measure => simp [intOf]; omega
          · skip
            have hqe : q.isEmpty = false := by simpa using hq
            have hkp' : ¬ (0 : Int) < keep := hkp
            go_wp2
            have m3 := o3
            have m4 := o4
            have m5 := o5
            have m6 := o6
            have m7 := b0
            have m8 := b1
            have m9 := c1
            have HG2 := HG
            have HW2 := HW
            have m10 := c2
            clear o0 o2 o3 o4 o5 o6 b0 b1 c1 HG HC HO HW c2
            obtain ⟨W2, hW2⟩ : ∃ W, W = wr := ⟨_, rfl⟩
            rw [← hW2] at m3 m4 m5 m6 m7 m8 m9 m10 HG2 HW2 lt1' ⊢
            clear hW2
            have hl2 := rgath_lt HG2.out
            have P3 := rgath_put HG2.out (put ++ q)
            have HG3 : Hid (rgath (W2.setCell ⟨w.heap.size + 1 + 1, 0, none⟩ (.string ⟨(put ++ q).toArray⟩)) (w.heap.size + 1) ⟨out, put ++ q, drop⟩) := P3.1
            have HW3 : Hid (Below w.heap.size w (W2.setCell ⟨w.heap.size + 1 + 1, 0, none⟩ (.string ⟨(put ++ q).toArray⟩))) := HW2.out.trans (P3.2.mono (show w.heap.size ≤ w.heap.size + 1 by omega))
            clear P3
            go_region
            have HST : Hid ((G.1.take (k + 1)).foldl stepK kst0 = ⟨out, put ++ q, drop + 1, keep⟩) := by
              show _ = _
              rw [hst]
              show byteK (flushK ⟨out, put, drop, keep⟩ q true) true = _
              unfold flushK
              rw [if_pos (.inl hq)]
              have hi0 : ∀ (x y : List Pt), (if 0 < keep then x else y) = y := fun x y => if_neg (by omega)
              have hi1 : (if 0 < keep then (0 : Int) else keep) = keep := if_neg (by omega)
              simp only [hi0, hi1]
              rfl
            clear hst
            have z7 : (W2.setCell ⟨w.heap.size + 1 + 1, 0, none⟩ (.string ⟨(put ++ q).toArray⟩)).cell? ⟨w.heap.size, 0, none⟩ = some (.slice (some ⟨g1, 0, none⟩) (n + 1) (n + 1)) := (cell_set_ne (show w.heap.size ≠ w.heap.size + 1 + 1 by omega) _).trans m7
            have z8 : (W2.setCell ⟨w.heap.size + 1 + 1, 0, none⟩ (.string ⟨(put ++ q).toArray⟩)).cell? ⟨w.heap.size, 1, none⟩ = some (.slice (some ⟨g2, 0, none⟩) n n) := (cell_set_ne (show w.heap.size ≠ w.heap.size + 1 + 1 by omega) _).trans m8
            have Z7 : Hid _ := z7
            have Z8 : Hid _ := z8
            have P4 := rgath_drop HG3.out (drop + 1)
            have HP4 : Hid _ := rgath_below P4.1 (Below.refl _ _).drew
            have HP5 : Hid _ := (HW3.out.trans (P4.2.mono (show w.heap.size ≤ w.heap.size + 1 by omega))).drew
            clear P4 z7 z8
            go_wp2
            go_roundw
            case rel => exact ⟨k + 1, by omega, by go_num, by rw [HST.out], by rw [HST.out]; exact HP4.out, (cell_set_ne (show w.heap.size ≠ w.heap.size + 1 + 2 by omega) _).trans Z7.out, (cell_set_ne (show w.heap.size ≠ w.heap.size + 1 + 2 by omega) _).trans Z8.out, HP5.out⟩
            case measure => simp [intOf]; omega
        | false =>
          by_cases hkp : (0 : Int) < keep
          · skip
            have hqe : q.isEmpty = false := by simpa using hq
            go_wp2_with (first | (at_builtin; refine wpList_append_own _ rfl _ _ 23 rfl (w.heap.size + 1 + 3) 50 i0 (.agg #[.int .i64 0, .int .i64 0, .string ⟨#[]⟩]) 3 32 Tryz.underlying23 hi hz0 hz1 hz2 rfl (by decide) _ _ _ rfl (HO.out.alloc _) ⟨wr.heap.size, 0, none⟩ 1 1 (partCells ⟨keep, 0, []⟩) rfl rfl (cells_new _ _ _) (partCells_one _) (by unfold maxLen; omega) (by omega) (by first | omega | (simp; omega)) ?_) | fail)
            intro v1 w1 hown1 hg1 _
            have P1 := rgath_push (q := ⟨keep, 0, []⟩) HG.out HC.out hown1 hg1
            obtain ⟨p1, q1, hv1⟩ := own_slice hown1
            rw [hv1] at P1 ⊢
            obtain ⟨G1, B1, hb1, r1, r2⟩ := P1
            have k3 := (hb1.cell (p := ⟨w.heap.size + 1 + 1, 0, none⟩) (by show w.heap.size + 1 + 1 < _; omega)).trans o3
            have k4 := (hb1.frozen (p := ⟨w.heap.size + 1 + 1, 0, none⟩) (by show w.heap.size + 1 + 1 < _; omega)).trans o4
            have k5 := (hb1.cell (p := ⟨w.heap.size + 1 + 2, 0, none⟩) (by show w.heap.size + 1 + 2 < _; omega)).trans o5
            have k6 := (hb1.frozen (p := ⟨w.heap.size + 1 + 2, 0, none⟩) (by show w.heap.size + 1 + 2 < _; omega)).trans o6
            have k7 := (hb1.cell (p := ⟨w.heap.size, 0, none⟩) (by show w.heap.size < _; omega)).trans b0
            have k8 := (hb1.cell (p := ⟨w.heap.size, 1, none⟩) (by show w.heap.size < _; omega)).trans b1
            have k9 := (hb1.cell (p := ⟨g1, k, none⟩) (by show g1 < _; omega)).trans c1
            have k10 := (hb1.cell (p := ⟨g2, k, none⟩) (by show g2 < _; omega)).trans c2
            have HG2 : Hid (rgath (w1.setCell ⟨w.heap.size + 1, 0, none⟩ (.slice p1 (out.length + 1) q1)) (w.heap.size + 1) ⟨out ++ [⟨keep, 0, []⟩], put, drop⟩) := G1
            have HW2 : Hid (Below w.heap.size w (w1.setCell ⟨w.heap.size + 1, 0, none⟩ (.slice p1 (out.length + 1) q1))) := HW.out.trans (B1.mono (by omega))
            clear hown1 hg1 hv1 G1 B1 hb1 o0 o2 o3 o4 o5 o6 b0 b1 c1 HG HC HO HW c2
            go_wp2
            have m3 := (cell_set_ne (show w.heap.size + 1 + 1 ≠ w.heap.size + 1 by omega) (.slice p1 (out.length + 1) q1)).trans k3
            have m4 : (w1.setCell ⟨w.heap.size + 1, 0, none⟩ (.slice p1 (out.length + 1) q1)).frozen? ⟨w.heap.size + 1 + 1, 0, none⟩ = false := by rw [World.frozen?_setCell]; exact k4
            have m5 := (cell_set_ne (show w.heap.size + 1 + 2 ≠ w.heap.size + 1 by omega) (.slice p1 (out.length + 1) q1)).trans k5
            have m6 : (w1.setCell ⟨w.heap.size + 1, 0, none⟩ (.slice p1 (out.length + 1) q1)).frozen? ⟨w.heap.size + 1 + 2, 0, none⟩ = false := by rw [World.frozen?_setCell]; exact k6
            have m7 := (cell_set_ne (show w.heap.size ≠ w.heap.size + 1 by omega) (.slice p1 (out.length + 1) q1)).trans k7
            have m8 := (cell_set_ne (show w.heap.size ≠ w.heap.size + 1 by omega) (.slice p1 (out.length + 1) q1)).trans k8
            have m9 := (cell_set_ne (show g1 ≠ w.heap.size + 1 by omega) (.slice p1 (out.length + 1) q1)).trans k9
            have m10 := (cell_set_ne (show g2 ≠ w.heap.size + 1 by omega) (.slice p1 (out.length + 1) q1)).trans k10
            clear k3 k4 k5 k6 k7 k8 k9 r1 r2 k10
            generalize w1.setCell ⟨w.heap.size + 1, 0, none⟩ (.slice p1 (out.length + 1) q1) = W2 at *
            have hl2 := rgath_lt HG2.out
            have P3 := rgath_put HG2.out (put ++ q)
            have HG3 : Hid (rgath (W2.setCell ⟨w.heap.size + 1 + 1, 0, none⟩ (.string ⟨(put ++ q).toArray⟩)) (w.heap.size + 1) ⟨out ++ [⟨keep, 0, []⟩], put ++ q, drop⟩) := P3.1
            have HW3 : Hid (Below w.heap.size w (W2.setCell ⟨w.heap.size + 1 + 1, 0, none⟩ (.string ⟨(put ++ q).toArray⟩))) := HW2.out.trans (P3.2.mono (show w.heap.size ≤ w.heap.size + 1 by omega))
            clear P3
            go_region
            have HST : Hid ((G.1.take (k + 1)).foldl stepK kst0 = ⟨tellP ⟨out ++ [⟨keep, 0, []⟩], put ++ q, drop⟩, [], 0, 0 + 1⟩) := by
              show _ = _
              rw [hst]
              show byteK (flushK ⟨out, put, drop, keep⟩ q false) false = _
              unfold flushK
              rw [if_pos (.inl hq)]
              have hi0 : ∀ (x y : List Pt), (if 0 < keep then x else y) = x := fun x y => if_pos hkp
              have hi1 : (if 0 < keep then (0 : Int) else keep) = 0 := if_pos hkp
              simp only [hi0, hi1]
              rfl
            clear hst
            have z7 : (W2.setCell ⟨w.heap.size + 1 + 1, 0, none⟩ (.string ⟨(put ++ q).toArray⟩)).cell? ⟨w.heap.size, 0, none⟩ = some (.slice (some ⟨g1, 0, none⟩) (n + 1) (n + 1)) := (cell_set_ne (show w.heap.size ≠ w.heap.size + 1 + 1 by omega) _).trans m7
            have z8 : (W2.setCell ⟨w.heap.size + 1 + 1, 0, none⟩ (.string ⟨(put ++ q).toArray⟩)).cell? ⟨w.heap.size, 1, none⟩ = some (.slice (some ⟨g2, 0, none⟩) n n) := (cell_set_ne (show w.heap.size ≠ w.heap.size + 1 + 1 by omega) _).trans m8
            have Z7 : Hid _ := z7
            have Z8 : Hid _ := z8
            have HGD := rgath_below HG3.out (Below.refl _ _).drew
            have cD := refDone_any (w.heap.size + 1) _ _ HGD (by show (out ++ [(⟨keep, 0, []⟩ : Pt)]).length < _; first | omega | (rw [List.length_append]; show out.length + 1 < _; omega)) (by show 0 ≤ drop; omega)
            have HL3 := HW3.out.size
            clear z7 z8 HGD
            go_wp2_with (first | (go_at_call 181; refine cD.mono ?_; rintro e w4 ⟨⟨v4, rfl⟩, hg4, hb4⟩; have HG4 : Hid _ := hg4; have HB4 : Hid _ := hb4; clear hg4 hb4) | fail)
            go_roundw
            case rel => exact ⟨k + 1, by omega, by go_num, by rw [HST.out] <;> first | rfl | go_num, by rw [HST.out]; exact HG4.out, (HB4.out.cell (p := ⟨w.heap.size, 0, none⟩) (by show w.heap.size < _; omega)).trans Z7.out, (HB4.out.cell (p := ⟨w.heap.size, 1, none⟩) (by show w.heap.size < _; omega)).trans Z8.out, HW3.out.drew.trans (HB4.out.mono (show w.heap.size ≤ w.heap.size + 1 by omega))⟩
            case measure => simp [intOf]; omega
          · skip
            have hqe : q.isEmpty = false := by simpa using hq
            have hkp' : ¬ (0 : Int) < keep := hkp
            go_wp2
            have m3 := o3
            have m4 := o4
            have m5 := o5
            have m6 := o6
            have m7 := b0
            have m8 := b1
            have m9 := c1
            have HG2 := HG
            have HW2 := HW
            have m10 := c2
            clear o0 o2 o3 o4 o5 o6 b0 b1 c1 HG HC HO HW c2
            obtain ⟨W2, hW2⟩ : ∃ W, W = wr := ⟨_, rfl⟩
            rw [← hW2] at m3 m4 m5 m6 m7 m8 m9 m10 HG2 HW2 lt1' ⊢
            clear hW2
            have hl2 := rgath_lt HG2.out
            have P3 := rgath_put HG2.out (put ++ q)
            have HG3 : Hid (rgath (W2.setCell ⟨w.heap.size + 1 + 1, 0, none⟩ (.string ⟨(put ++ q).toArray⟩)) (w.heap.size + 1) ⟨out, put ++ q, drop⟩) := P3.1
            have HW3 : Hid (Below w.heap.size w (W2.setCell ⟨w.heap.size + 1 + 1, 0, none⟩ (.string ⟨(put ++ q).toArray⟩))) := HW2.out.trans (P3.2.mono (show w.heap.size ≤ w.heap.size + 1 by omega))
            clear P3
            go_region
            have HST : Hid ((G.1.take (k + 1)).foldl stepK kst0 = ⟨tellP ⟨out, put ++ q, drop⟩, [], 0, keep + 1⟩) := by
              show _ = _
              rw [hst]
              show byteK (flushK ⟨out, put, drop, keep⟩ q false) false = _
              unfold flushK
              rw [if_pos (.inl hq)]
              have hi0 : ∀ (x y : List Pt), (if 0 < keep then x else y) = y := fun x y => if_neg (by omega)
              have hi1 : (if 0 < keep then (0 : Int) else keep) = keep := if_neg (by omega)
              simp only [hi0, hi1]
              rfl
            clear hst
            have z7 : (W2.setCell ⟨w.heap.size + 1 + 1, 0, none⟩ (.string ⟨(put ++ q).toArray⟩)).cell? ⟨w.heap.size, 0, none⟩ = some (.slice (some ⟨g1, 0, none⟩) (n + 1) (n + 1)) := (cell_set_ne (show w.heap.size ≠ w.heap.size + 1 + 1 by omega) _).trans m7
            have z8 : (W2.setCell ⟨w.heap.size + 1 + 1, 0, none⟩ (.string ⟨(put ++ q).toArray⟩)).cell? ⟨w.heap.size, 1, none⟩ = some (.slice (some ⟨g2, 0, none⟩) n n) := (cell_set_ne (show w.heap.size ≠ w.heap.size + 1 + 1 by omega) _).trans m8
            have Z7 : Hid _ := z7
            have Z8 : Hid _ := z8
            have HGD := rgath_below HG3.out (Below.refl _ _).drew
            have cD := refDone_any (w.heap.size + 1) _ _ HGD (by show (out).length < _; first | omega | (rw [List.length_append]; show out.length + 1 < _; omega)) (by show 0 ≤ drop; omega)
            have HL3 := HW3.out.size
            clear z7 z8 HGD
            go_wp2_with (first | (go_at_call 181; refine cD.mono ?_; rintro e w4 ⟨⟨v4, rfl⟩, hg4, hb4⟩; have HG4 : Hid _ := hg4; have HB4 : Hid _ := hb4; clear hg4 hb4) | fail)
            go_roundw
            case rel => exact ⟨k + 1, by omega, by go_num, by rw [HST.out] <;> first | rfl | go_num, by rw [HST.out]; exact HG4.out, (HB4.out.cell (p := ⟨w.heap.size, 0, none⟩) (by show w.heap.size < _; omega)).trans Z7.out, (HB4.out.cell (p := ⟨w.heap.size, 1, none⟩) (by show w.heap.size < _; omega)).trans Z8.out, HW3.out.drew.trans (HB4.out.mono (show w.heap.size ≤ w.heap.size + 1 by omega))⟩
            case measure => simp [intOf]; omega
    · have hke : k = n := by omega
      have e1 := H1.out k G.2 (by rw [List.getElem?_append_right (by rw [List.length_map, HN.out]; omega), List.length_map, HN.out, hke, Nat.sub_self]; rfl)
      have c1 := (hwr.cell (p := ⟨g1, k, none⟩) lt1).trans e1
      have hta : G.1.take k = G.1 := List.take_of_length_le (by rw [HN.out]; omega)
      rw [hta] at hg hbd ⊢
      have HGP : Hid (gatherP G = endK (flushK (G.1.foldl stepK kst0) G.2 false)) := by show _ = _; rfl
      have hql := HSZ.out
      generalize G.2 = q at *
      generalize G.1.foldl stepK kst0 = K at *
      obtain ⟨out, put, drop, keep⟩ := K
      have hbd' := hbd
      obtain ⟨f1, f2, f3, f4, f5, f6⟩ := hbd'
      simp only at f1 f2 f3 f4 f5 f6 c1 hg ⊢
      unfold strV at c1
      have hcat := str_append put q
      have hcb : ¬ 9223372036854775807 < put.length + q.length := by omega
      have HG : Hid (rgath wr (w.heap.size + 1) ⟨out, put, drop⟩) := hg
      obtain ⟨⟨p, c, o0, o1⟩, o2, o3, o4, o5, o6⟩ := hg
      have HO : Hid (wr.ownsRow (w.heap.size + 1 + 3) 50 3 (.slice p out.length c) out.length (cellsP out)) := o1
      have HC : Hid (wr.cell? ⟨w.heap.size + 1, 0, none⟩ = some (.slice p out.length c)) := o0
      have HW : Hid (Below w.heap.size w wr) := hwr
      have lt1' : g1 < wr.heap.size := Nat.lt_of_lt_of_le lt1 hwr.size
      have hkz : (k : Int) < (n : Int) + 1 := by omega
      have hkz2 : ¬ (k : Int) < (n : Int) := by omega
      have hkb : ((k : Int) == (n : Int)) = true := beq_iff_eq.2 (by omega)
      have hol : out.length < 500000000 := by omega
      clear e1 o1 hwr hbd hpt hql hta hke
      by_cases hq : q = []
      · by_cases hkp : (0 : Int) < keep
        · skip
          have hqe : q.isEmpty = true := by simpa using hq
          have HRES : Hid (gatherP G = tellP ⟨out ++ [⟨keep, 0, []⟩], put, drop⟩) := by
            show _ = _
            rw [HGP.out]
            simp [endK, flushK, hq, hkp]
          go_wp2_with (first | (at_builtin; refine wpList_append_own _ rfl _ _ 23 rfl (w.heap.size + 1 + 3) 50 i0 (.agg #[.int .i64 0, .int .i64 0, .string ⟨#[]⟩]) 3 32 Tryz.underlying23 hi hz0 hz1 hz2 rfl (by decide) _ _ _ rfl (HO.out.alloc _) ⟨wr.heap.size, 0, none⟩ 1 1 (partCells ⟨keep, 0, []⟩) rfl rfl (cells_new _ _ _) (partCells_one _) (by unfold maxLen; omega) (by omega) (by first | omega | (simp; omega)) ?_) | fail)
          intro v1 w1 hown1 hg1 _
          have P1 := rgath_push (q := ⟨keep, 0, []⟩) HG.out HC.out hown1 hg1
          obtain ⟨p1, q1, hv1⟩ := own_slice hown1
          rw [hv1] at P1 ⊢
          obtain ⟨G1, B1, hb1, r1, r2⟩ := P1
          have k3 := (hb1.cell (p := ⟨w.heap.size + 1 + 1, 0, none⟩) (by show w.heap.size + 1 + 1 < _; omega)).trans o3
          have k4 := (hb1.frozen (p := ⟨w.heap.size + 1 + 1, 0, none⟩) (by show w.heap.size + 1 + 1 < _; omega)).trans o4
          have k5 := (hb1.cell (p := ⟨w.heap.size + 1 + 2, 0, none⟩) (by show w.heap.size + 1 + 2 < _; omega)).trans o5
          have k6 := (hb1.frozen (p := ⟨w.heap.size + 1 + 2, 0, none⟩) (by show w.heap.size + 1 + 2 < _; omega)).trans o6
          have k7 := (hb1.cell (p := ⟨w.heap.size, 0, none⟩) (by show w.heap.size < _; omega)).trans b0
          have k8 := (hb1.cell (p := ⟨w.heap.size, 1, none⟩) (by show w.heap.size < _; omega)).trans b1
          have k9 := (hb1.cell (p := ⟨g1, k, none⟩) (by show g1 < _; omega)).trans c1
          have HG2 : Hid (rgath (w1.setCell ⟨w.heap.size + 1, 0, none⟩ (.slice p1 (out.length + 1) q1)) (w.heap.size + 1) ⟨out ++ [⟨keep, 0, []⟩], put, drop⟩) := G1
          have HW2 : Hid (Below w.heap.size w (w1.setCell ⟨w.heap.size + 1, 0, none⟩ (.slice p1 (out.length + 1) q1))) := HW.out.trans (B1.mono (by omega))
          clear hown1 hg1 hv1 G1 B1 hb1 o0 o2 o3 o4 o5 o6 b0 b1 c1 HG HC HO HW
          have HG3 := HG2
          have HW3 := HW2
          have cD := refDone_any (w.heap.size + 1) _ _ HG3.out (by show (out ++ [(⟨keep, 0, []⟩ : Pt)]).length < _; first | omega | (rw [List.length_append]; show out.length + 1 < _; omega)) (by show 0 ≤ drop; omega)
          go_wp2_with (first | (go_at_call 181; refine cD.mono ?_; rintro e w4 ⟨⟨v4, rfl⟩, ⟨⟨p4, c4, h40, h41⟩, _⟩, hb4⟩; have HB4 : Hid (Below (w.heap.size + 1) _ w4) := hb4; clear hb4) | fail)
          go_ret
          exact ⟨_, rfl, by rw [HRES.out]; exact own_mono h41 (by omega), HW3.out.trans (HB4.out.mono (show w.heap.size ≤ w.heap.size + 1 by omega))⟩
        · skip
          have hqe : q.isEmpty = true := by simpa using hq
          have hkp' : ¬ (0 : Int) < keep := hkp
          have HRES : Hid (gatherP G = tellP ⟨out, put, drop⟩) := by
            show _ = _
            rw [HGP.out]
            simp [endK, flushK, hq, hkp]
          have HG3 := HG
          have HW3 := HW
          have cD := refDone_any (w.heap.size + 1) _ _ HG3.out (by show (out).length < _; first | omega | (rw [List.length_append]; show out.length + 1 < _; omega)) (by show 0 ≤ drop; omega)
          go_wp2_with (first | (go_at_call 181; refine cD.mono ?_; rintro e w4 ⟨⟨v4, rfl⟩, ⟨⟨p4, c4, h40, h41⟩, _⟩, hb4⟩; have HB4 : Hid (Below (w.heap.size + 1) _ w4) := hb4; clear hb4) | fail)
          go_ret
          exact ⟨_, rfl, by rw [HRES.out]; exact own_mono h41 (by omega), HW3.out.trans (HB4.out.mono (show w.heap.size ≤ w.heap.size + 1 by omega))⟩
      · by_cases hkp : (0 : Int) < keep
        · skip
          have hqe : q.isEmpty = false := by simpa using hq
          have HRES : Hid (gatherP G = tellP ⟨out ++ [⟨keep, 0, []⟩], put ++ q, drop⟩) := by
            show _ = _
            rw [HGP.out]
            simp [endK, flushK, hq, hkp]
          go_wp2_with (first | (at_builtin; refine wpList_append_own _ rfl _ _ 23 rfl (w.heap.size + 1 + 3) 50 i0 (.agg #[.int .i64 0, .int .i64 0, .string ⟨#[]⟩]) 3 32 Tryz.underlying23 hi hz0 hz1 hz2 rfl (by decide) _ _ _ rfl (HO.out.alloc _) ⟨wr.heap.size, 0, none⟩ 1 1 (partCells ⟨keep, 0, []⟩) rfl rfl (cells_new _ _ _) (partCells_one _) (by unfold maxLen; omega) (by omega) (by first | omega | (simp; omega)) ?_) | fail)
          intro v1 w1 hown1 hg1 _
          have P1 := rgath_push (q := ⟨keep, 0, []⟩) HG.out HC.out hown1 hg1
          obtain ⟨p1, q1, hv1⟩ := own_slice hown1
          rw [hv1] at P1 ⊢
          obtain ⟨G1, B1, hb1, r1, r2⟩ := P1
          have k3 := (hb1.cell (p := ⟨w.heap.size + 1 + 1, 0, none⟩) (by show w.heap.size + 1 + 1 < _; omega)).trans o3
          have k4 := (hb1.frozen (p := ⟨w.heap.size + 1 + 1, 0, none⟩) (by show w.heap.size + 1 + 1 < _; omega)).trans o4
          have k5 := (hb1.cell (p := ⟨w.heap.size + 1 + 2, 0, none⟩) (by show w.heap.size + 1 + 2 < _; omega)).trans o5
          have k6 := (hb1.frozen (p := ⟨w.heap.size + 1 + 2, 0, none⟩) (by show w.heap.size + 1 + 2 < _; omega)).trans o6
          have k7 := (hb1.cell (p := ⟨w.heap.size, 0, none⟩) (by show w.heap.size < _; omega)).trans b0
          have k8 := (hb1.cell (p := ⟨w.heap.size, 1, none⟩) (by show w.heap.size < _; omega)).trans b1
          have k9 := (hb1.cell (p := ⟨g1, k, none⟩) (by show g1 < _; omega)).trans c1
          have HG2 : Hid (rgath (w1.setCell ⟨w.heap.size + 1, 0, none⟩ (.slice p1 (out.length + 1) q1)) (w.heap.size + 1) ⟨out ++ [⟨keep, 0, []⟩], put, drop⟩) := G1
          have HW2 : Hid (Below w.heap.size w (w1.setCell ⟨w.heap.size + 1, 0, none⟩ (.slice p1 (out.length + 1) q1))) := HW.out.trans (B1.mono (by omega))
          clear hown1 hg1 hv1 G1 B1 hb1 o0 o2 o3 o4 o5 o6 b0 b1 c1 HG HC HO HW
          go_wp2
          have m3 := (cell_set_ne (show w.heap.size + 1 + 1 ≠ w.heap.size + 1 by omega) (.slice p1 (out.length + 1) q1)).trans k3
          have m4 : (w1.setCell ⟨w.heap.size + 1, 0, none⟩ (.slice p1 (out.length + 1) q1)).frozen? ⟨w.heap.size + 1 + 1, 0, none⟩ = false := by rw [World.frozen?_setCell]; exact k4
          have m5 := (cell_set_ne (show w.heap.size + 1 + 2 ≠ w.heap.size + 1 by omega) (.slice p1 (out.length + 1) q1)).trans k5
          have m6 : (w1.setCell ⟨w.heap.size + 1, 0, none⟩ (.slice p1 (out.length + 1) q1)).frozen? ⟨w.heap.size + 1 + 2, 0, none⟩ = false := by rw [World.frozen?_setCell]; exact k6
          have m7 := (cell_set_ne (show w.heap.size ≠ w.heap.size + 1 by omega) (.slice p1 (out.length + 1) q1)).trans k7
          have m8 := (cell_set_ne (show w.heap.size ≠ w.heap.size + 1 by omega) (.slice p1 (out.length + 1) q1)).trans k8
          have m9 := (cell_set_ne (show g1 ≠ w.heap.size + 1 by omega) (.slice p1 (out.length + 1) q1)).trans k9
          clear k3 k4 k5 k6 k7 k8 k9 r1 r2
          generalize w1.setCell ⟨w.heap.size + 1, 0, none⟩ (.slice p1 (out.length + 1) q1) = W2 at *
          have hl2 := rgath_lt HG2.out
          have P3 := rgath_put HG2.out (put ++ q)
          have HG3 : Hid (rgath (W2.setCell ⟨w.heap.size + 1 + 1, 0, none⟩ (.string ⟨(put ++ q).toArray⟩)) (w.heap.size + 1) ⟨out ++ [⟨keep, 0, []⟩], put ++ q, drop⟩) := P3.1
          have HW3 : Hid (Below w.heap.size w (W2.setCell ⟨w.heap.size + 1 + 1, 0, none⟩ (.string ⟨(put ++ q).toArray⟩))) := HW2.out.trans (P3.2.mono (show w.heap.size ≤ w.heap.size + 1 by omega))
          clear P3
          go_region
          have cD := refDone_any (w.heap.size + 1) _ _ (rgath_below HG3.out (Below.refl _ _).drew) (by show (out ++ [(⟨keep, 0, []⟩ : Pt)]).length < _; first | omega | (rw [List.length_append]; show out.length + 1 < _; omega)) (by show 0 ≤ drop; omega)
          go_wp2_with (first | (go_at_call 181; refine cD.mono ?_; rintro e w4 ⟨⟨v4, rfl⟩, ⟨⟨p4, c4, h40, h41⟩, _⟩, hb4⟩; have HB4 : Hid (Below (w.heap.size + 1) _ w4) := hb4; clear hb4) | fail)
          go_ret
          exact ⟨_, rfl, by rw [HRES.out]; exact own_mono h41 (by omega), HW3.out.drew.trans (HB4.out.mono (show w.heap.size ≤ w.heap.size + 1 by omega))⟩
        · skip
          have hqe : q.isEmpty = false := by simpa using hq
          have hkp' : ¬ (0 : Int) < keep := hkp
          have HRES : Hid (gatherP G = tellP ⟨out, put ++ q, drop⟩) := by
            show _ = _
            rw [HGP.out]
            simp [endK, flushK, hq, hkp]
          go_wp2
          have m3 := o3
          have m4 := o4
          have m5 := o5
          have m6 := o6
          have m7 := b0
          have m8 := b1
          have m9 := c1
          have HG2 := HG
          have HW2 := HW
          clear o0 o2 o3 o4 o5 o6 b0 b1 c1 HG HC HO HW
          obtain ⟨W2, hW2⟩ : ∃ W, W = wr := ⟨_, rfl⟩
          rw [← hW2] at m3 m4 m5 m6 m7 m8 m9 HG2 HW2 lt1' ⊢
          clear hW2
          have hl2 := rgath_lt HG2.out
          have P3 := rgath_put HG2.out (put ++ q)
          have HG3 : Hid (rgath (W2.setCell ⟨w.heap.size + 1 + 1, 0, none⟩ (.string ⟨(put ++ q).toArray⟩)) (w.heap.size + 1) ⟨out, put ++ q, drop⟩) := P3.1
          have HW3 : Hid (Below w.heap.size w (W2.setCell ⟨w.heap.size + 1 + 1, 0, none⟩ (.string ⟨(put ++ q).toArray⟩))) := HW2.out.trans (P3.2.mono (show w.heap.size ≤ w.heap.size + 1 by omega))
          clear P3
          go_region
          have cD := refDone_any (w.heap.size + 1) _ _ (rgath_below HG3.out (Below.refl _ _).drew) (by show (out).length < _; first | omega | (rw [List.length_append]; show out.length + 1 < _; omega)) (by show 0 ≤ drop; omega)
          go_wp2_with (first | (go_at_call 181; refine cD.mono ?_; rintro e w4 ⟨⟨v4, rfl⟩, ⟨⟨p4, c4, h40, h41⟩, _⟩, hb4⟩; have HB4 : Hid (Below (w.heap.size + 1) _ w4) := hb4; clear hb4) | fail)
          go_ret
          exact ⟨_, rfl, by rw [HRES.out]; exact own_mono h41 (by omega), HW3.out.drew.trans (HB4.out.mono (show w.heap.size ≤ w.heap.size + 1 by omega))⟩
end Go.Proofs.YtldhbjmillfjgabGreatDoor
