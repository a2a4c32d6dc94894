/-
  bridge.To and From, and the document's Turn, of any operation by any units.
-/
import Derived.Test.YtldhbjmillfjgabGreatDoorRefTurn
namespace Go.Proofs.YtldhbjmillfjgabGreatDoor
open Go.RowKit
set_option linter.unusedVariables false
attribute [local go_sem] Oper.semAt_some

def uB (u : Int) : Bool := decide (u = 1 ∨ u = 2 ∨ u = 3)
theorem uB_iff (u : Int) : uB u = true ↔ unitOk u := by unfold uB unitOk; exact decide_eq_true_iff
def tzE (rs : List Nat) (u v : Int) (qs : List Pt) : Int := if (uB u && uB v) = true then (if chkE qs (by_ u rs) = 0 then turnX rs u v qs else chkE qs (by_ u rs)) else 1
def tzO (rs : List Nat) (u v : Int) (qs : List Pt) : List Pt := if (uB u && uB v) = true then (if chkE qs (by_ u rs) = 0 then turnO rs u v qs else []) else []
theorem opAt_none (w : World) : opAt w (.slice none 0 0) [] := ⟨none, 0, rfl, Nat.le_refl _, Nat.zero_le _, fun h => absurd rfl h⟩
set_option maxRecDepth 100000 in
set_option maxHeartbeats 2000000 in
theorem turn_unit (b : Nat) (u v : Int) (val : Value) (w : World) (hC : Calls Tryz.prog 119 #[.pointer (some ⟨b, 0, none⟩), .int .i64 u, .int .i64 v, .int .i64 0] w fun e w' => e = .returned (.tuple #[.int .i64 0, errV 1]) ∧ Below w.heap.size w w') :
    Calls Tryz.prog 64 #[.pointer (some ⟨b, 0, none⟩), .int .i64 u, .int .i64 v, val] w fun e w' => e = .returned (.tuple #[.slice none 0 0, errV 1]) ∧ Below w.heap.size w w' := by
  have hV : errV 1 = .iface 26 (.int .i64 1) := rfl
  rw [hV] at hC ⊢
  have CC : Hid _ := hC
  clear hC hV
  go_enter Tryz.func64, Tryz.ntmps64
  go_wp2_with (first
    | (go_at_call 119; refine Calls.mono CC.out ?_; rintro e w1 ⟨rfl, hb1⟩)
    | fail)
  go_ret2
  exact ⟨rfl, hb1⟩
set_option maxRecDepth 100000 in
set_option maxHeartbeats 4000000 in
theorem turn_no (b : Nat) (rs : List Nat) (u v : Int) (qs : List Pt) (val : Value) (w : World) (hu : unitOk u) (hv : unitOk v) (hT : Lib.Utf8Tabs 2 3 w) (hR : isRope w b rs) (hr : opAt w val qs) (hwf : ∀ q ∈ qs, wfP q) (hl : qs.length ≤ 1000) (hz : C1 rs ≤ 1000000) (hbu : by_ u rs ≤ 10000000) (hc : chkE qs (by_ u rs) ≠ 0) :
    Calls Tryz.prog 64 #[.pointer (some ⟨b, 0, none⟩), .int .i64 u, .int .i64 v, val] w fun e w' => e = .returned (.tuple #[.slice none 0 0, errV (chkE qs (by_ u rs))]) ∧ Below w.heap.size w w' := by
  have hup := by_pos u rs
  have cV : Hid (Calls Tryz.prog 119 #[.pointer (some ⟨b, 0, none⟩), .int .i64 u, .int .i64 v, .int .i64 0] w fun e w' => e = .returned (.tuple #[.int .i64 0, .nilIface]) ∧ Below w.heap.size w w') := by
    have := convert_any b rs u v 0 hu hv (Int.le_refl _) (by_pos u rs) w hT hR (by omega) [] (find_zero u rs) (by_nil u)
    rw [by_nil] at this
    exact this
  have cN : Hid (∀ wx, Below w.heap.size w wx → Calls Tryz.prog 20 #[.pointer (some ⟨b, 0, none⟩)] wx fun e w' => e = .returned (cntV rs) ∧ Below wx.heap.size wx w') := fun wx hb => ropecounts_any b rs wx (isRope_below hR hb)
  have cI : Hid (∀ wx, Calls Tryz.prog 19 #[cntV rs, .int .i64 u] wx fun e w' => e = .returned (.int .i64 (by_ u rs)) ∧ Below wx.heap.size wx w') := fun wx => In_any u rs wx
  have hV : errV (chkE qs (by_ u rs)) = .iface 26 (.int .i64 (chkE qs (by_ u rs))) := by unfold errV; rw [if_neg hc]
  have cK : Hid (∀ wx, Below w.heap.size w wx → Calls Tryz.prog 68 #[val, .int .i64 (by_ u rs)] wx fun e w' => e = .returned (.iface 26 (.int .i64 (chkE qs (by_ u rs)))) ∧ Below wx.heap.size wx w') := fun wx hb => by
    have := Check_any val qs (by_ u rs) wx (Go.Proofs.Utf8Tabs_below hT hb) (opAt_below hr hb (Nat.le_refl _)) hwf (by omega) (by omega)
    rw [hV] at this
    exact this
  rw [hV]
  obtain ⟨p, c, rfl, _⟩ := hr
  generalize chkE qs (by_ u rs) = E at *
  generalize by_ u rs = Bu at *
  unfold cntV at cN cI
  clear hT hR hwf hc hV hu hv hz hbu hup
  go_enter Tryz.func64, Tryz.ntmps64
  go_wp2_with (first
    | (go_at_call 119; refine Calls.mono cV.out ?_; rintro e w1 ⟨rfl, hb1⟩; have HB1 : Hid (Below w.heap.size w w1) := hb1; clear hb1)
    | (go_at_call 20; refine (cN.out _ HB1.out).mono ?_; rintro e w2 ⟨rfl, hb2⟩; have HB2 : Hid (Below w.heap.size w w2) := HB1.out.trans (hb2.mono HB1.out.size); clear hb2)
    | (go_at_call 19; refine (cI.out _).mono ?_; rintro e w3 ⟨rfl, hb3⟩; have HB3 : Hid (Below w.heap.size w w3) := HB2.out.trans (hb3.mono HB2.out.size); clear hb3)
    | (go_at_call 68; refine (cK.out _ HB3.out).mono ?_; rintro e w4 ⟨rfl, hb4⟩; have HB4 : Hid (Below w.heap.size w w4) := HB3.out.trans (hb4.mono HB3.out.size); clear hb4)
    | fail)
  go_ret2
  exact ⟨rfl, HB4.out⟩

theorem by_small (rs : List Nat) (h : C1 rs ≤ 1000000) (x : Int) : by_ x rs ≤ 3000000 := by
  have h2 := C2_le rs; have h3 := C3_le rs; have h1 := C1_pos rs
  unfold by_; split <;> (try split) <;> (try split) <;> omega
theorem turn_all (b : Nat) (rs : List Nat) (u v : Int) (qs : List Pt) (val : Value) (w : World) (hT : Lib.Utf8Tabs 2 3 w) (hR : isRope w b rs) (hr : opAt w val qs) (hwf : ∀ q ∈ qs, wfP q) (hl : qs.length ≤ 1000) (hpl : ∀ q ∈ qs, q.put.length ≤ 10000000) (hz : C1 rs ≤ 1000000) :
    Calls Tryz.prog 64 #[.pointer (some ⟨b, 0, none⟩), .int .i64 u, .int .i64 v, val] w fun e w' => ∃ v', e = .returned (.tuple #[v', errV (tzE rs u v qs)]) ∧ opAt w' v' (tzO rs u v qs) ∧ Below w.heap.size w w' := by
  have hbw : b < w.heap.size := by obtain ⟨q, t, h5, _⟩ := hR; exact World.block_lt_of_cell? w _ h5
  unfold tzE tzO
  by_cases hv : unitOk v
  · by_cases hu : unitOk u
    · rw [(uB_iff u).2 hu, (uB_iff v).2 hv, Bool.and_self, if_pos rfl, if_pos rfl]
      by_cases hc : chkE qs (by_ u rs) = 0
      · rw [if_pos hc, if_pos hc]
        exact turnz_chk b rs u v qs val w hu hv hT hR hr hwf hl hpl hz (by have := by_small rs hz u; omega) (by have := by_small rs hz v; omega) hc hbw
      · rw [if_neg hc, if_neg hc]
        exact (turn_no b rs u v qs val w hu hv hT hR hr hwf hl hz (by have := by_small rs hz u; omega) hc).mono fun e w' h => ⟨_, h.1, opAt_none w', h.2⟩
    · have e : uB u = false := Bool.eq_false_iff.2 fun e => hu ((uB_iff u).1 e)
      rw [e, Bool.false_and, if_neg (by decide), if_neg (by decide)]
      exact (turn_unit b u v val w (convert_from b rs u v 0 hv hu w hT hR (by omega))).mono fun e w' h => ⟨_, h.1, opAt_none w', h.2⟩
  · have e : uB v = false := Bool.eq_false_iff.2 fun e => hv ((uB_iff v).1 e)
    rw [e, Bool.and_false, if_neg (by decide), if_neg (by decide)]
    exact (turn_unit b u v val w (convert_to b u v 0 hv w)).mono fun e w' h => ⟨_, h.1, opAt_none w', h.2⟩
set_option maxHeartbeats 1000000 in
theorem to_all (b : Nat) (rs : List Nat) (u : Int) (qs : List Pt) (val : Value) (w : World) (hT : Lib.Utf8Tabs 2 3 w) (hR : isRope w b rs) (hr : opAt w val qs) (hwf : ∀ q ∈ qs, wfP q) (hl : qs.length ≤ 1000) (hpl : ∀ q ∈ qs, q.put.length ≤ 10000000) (hz : C1 rs ≤ 1000000) :
    Calls Tryz.prog 11 #[.pointer (some ⟨b, 0, none⟩), .int .i64 u, val] w fun e w' => ∃ v', e = .returned (.tuple #[v', errV (tzE rs u 1 qs)]) ∧ opAt w' v' (tzO rs u 1 qs) ∧ Below w.heap.size w w' := by
  have cC : Hid _ := turn_all b rs u 1 qs val w hT hR hr hwf hl hpl hz
  obtain ⟨p, c, rfl, _⟩ := hr
  generalize errV (tzE rs u 1 qs) = E at *
  clear hT hR hwf hpl hz
  go_enter Tryz.func11, Tryz.ntmps11
  go_wp2_with (first
    | (go_at_call 64; refine Calls.mono cC.out ?_; rintro e w1 ⟨v1, rfl, h1, hb1⟩; have H1 : Hid _ := h1; clear h1)
    | fail)
  go_ret2
  exact ⟨v1, rfl, H1.out, hb1⟩
set_option maxHeartbeats 1000000 in
theorem from_all (b : Nat) (rs : List Nat) (u : Int) (qs : List Pt) (val : Value) (w : World) (hT : Lib.Utf8Tabs 2 3 w) (hR : isRope w b rs) (hr : opAt w val qs) (hwf : ∀ q ∈ qs, wfP q) (hl : qs.length ≤ 1000) (hpl : ∀ q ∈ qs, q.put.length ≤ 10000000) (hz : C1 rs ≤ 1000000) :
    Calls Tryz.prog 12 #[.pointer (some ⟨b, 0, none⟩), .int .i64 u, val] w fun e w' => ∃ v', e = .returned (.tuple #[v', errV (tzE rs 1 u qs)]) ∧ opAt w' v' (tzO rs 1 u qs) ∧ Below w.heap.size w w' := by
  have cC : Hid _ := turn_all b rs 1 u qs val w hT hR hr hwf hl hpl hz
  obtain ⟨p, c, rfl, _⟩ := hr
  generalize errV (tzE rs 1 u qs) = E at *
  clear hT hR hwf hpl hz
  go_enter Tryz.func12, Tryz.ntmps12
  go_wp2_with (first
    | (go_at_call 64; refine Calls.mono cC.out ?_; rintro e w1 ⟨v1, rfl, h1, hb1⟩; have H1 : Hid _ := h1; clear h1)
    | fail)
  go_ret2
  exact ⟨v1, rfl, H1.out, hb1⟩
end Go.Proofs.YtldhbjmillfjgabGreatDoor
