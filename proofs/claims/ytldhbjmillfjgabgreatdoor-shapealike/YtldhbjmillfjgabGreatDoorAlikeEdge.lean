/-
  rosettakeep.ShapeAlike: the law's own walk.
-/
import Derived.Test.YtldhbjmillfjgabGreatDoorAlikeFact
import Derived.Test.YtldhbjmillfjgabGreatDoorKeep
import Derived.Test.YtldhbjmillfjgabGreatDoorOpsOpen
import Derived.Deep.CutRange
namespace Go.Proofs.YtldhbjmillfjgabGreatDoor
open Go.RowKit
set_option linter.unusedVariables false
attribute [local go_sem] Oper.semAt_some

set_option maxHeartbeats 1000000 in
theorem alike_none (u0 : Int) (hu0 : -9223372036854775808 ≤ u0 ∧ u0 < 9223372036854775808) (s : List UInt8) (v : Value) (ps : List Pt) (raw : Bool) (w : World) (hT : Lib.Utf8Tabs 2 3 w) (hr : opAt w v ps) (h : ¬ isDoc s ∨ 60 < ps.length) :
    Calls Tryz.prog 4 #[.int .i64 u0, .string ⟨s.toArray⟩, v, .bool raw] w fun e w' => e = .returned (.bool true) ∧ Below w.heap.size w w' := by
  have cS : Hid _ := shaped_any w hT
  have HT : Hid _ := hT
  have cP : Hid (∀ wx, Calls Tryz.prog 16 #[.int .i64 u0, .int .i64 3] wx fun e w' => e = .returned (.int .i64 (pk u0 3)) ∧ Below wx.heap.size wx w') := fun wx => pick_any u0 3 hu0 (by decide) (by decide) wx
  have hpb := pk_bd u0 3 (by decide)
  obtain ⟨p, c, rfl, r1, r2, _⟩ := hr
  unfold maxLen at r2
  by_cases hd : isDoc s
  · have h60 : (60 : Int) < (ps.length : Int) := by rcases h with h | h; exact absurd hd h; omega
    have cD : Hid (∀ wx, Below w.heap.size w wx → _) := fun wx (hb : Below w.heap.size w wx) => document_some s hd wx (Go.Proofs.Utf8Tabs_below HT.out hb)
    clear hT h hd
    generalize ByteArray.mk s.toArray = S at *
    generalize runesOf s = rs at *
    generalize pk u0 3 = P at *
    go_enter Tryz.func4, Tryz.ntmps4
    go_wp2_with (first
      | (go_at_call 15; refine Calls.mono cS.out ?_; rintro e w1 ⟨rfl, hb1⟩; have HB1 : Hid (Below w.heap.size w w1) := hb1; clear hb1)
      | (go_at_call 16; refine (cP.out _).mono ?_; rintro e w2 ⟨rfl, hb2⟩; have HB2 : Hid (Below w.heap.size w w2) := HB1.out.trans (hb2.mono HB1.out.size); clear hb2)
      | (go_at_call 17; refine (cD.out _ HB2.out).mono ?_; rintro e w3 ⟨b, rfl, _, hb3⟩; have HB3 : Hid (Below w.heap.size w w3) := HB2.out.trans (hb3.mono HB2.out.size); clear hb3)
      | fail)
    go_ret
    exact ⟨rfl, HB3.out⟩
  · have cD : Hid (∀ wx, Below w.heap.size w wx → _) := fun wx (hb : Below w.heap.size w wx) => document_none s hd wx (Go.Proofs.Utf8Tabs_below HT.out hb)
    clear hT h hd
    generalize ByteArray.mk s.toArray = S at *
    generalize pk u0 3 = P at *
    go_enter Tryz.func4, Tryz.ntmps4
    go_wp2_with (first
      | (go_at_call 15; refine Calls.mono cS.out ?_; rintro e w1 ⟨rfl, hb1⟩; have HB1 : Hid (Below w.heap.size w w1) := hb1; clear hb1)
      | (go_at_call 16; refine (cP.out _).mono ?_; rintro e w2 ⟨rfl, hb2⟩; have HB2 : Hid (Below w.heap.size w w2) := HB1.out.trans (hb2.mono HB1.out.size); clear hb2)
      | (go_at_call 17; refine (cD.out _ HB2.out).mono ?_; rintro e w3 ⟨rfl, hb3⟩; have HB3 : Hid (Below w.heap.size w w3) := HB2.out.trans (hb3.mono HB2.out.size); clear hb3)
      | fail)
    go_ret
    exact ⟨rfl, HB3.out⟩

/-- What is known of the operation that is played. -/
def playWf (qs : List Pt) : Prop := ∀ q ∈ qs, q.put.length ≤ 150 → wfP q
theorem back_self {u : Int} (hu : unitOk u) {rs : List Nat} {q : List Pt} (hR : ∀ r ∈ rs, isRune r) (h : tzE rs u 1 q = 0) : tzE rs 1 u (tzO rs u 1 q) = 0 ∧ tzO rs 1 u (tzO rs u 1 q) = q := by
  obtain ⟨g1, g2, g3, g4, g5, g6, g7, g8⟩ := sh_fine hu hR h
  obtain ⟨hp1, h2, h3⟩ := chkE_parts g6
  obtain ⟨i1, i2⟩ := in_back hu q rs (fun p hp => (hp1 p hp).1) h2 g7
  have hc : chkE (tzO rs u 1 q) (by_ 1 rs) = 0 := by
    have := g1.chk
    unfold by_
    rw [if_pos rfl, C1_len]
    exact this
  obtain ⟨k1, k2, k3⟩ := chkE_parts hc
  obtain ⟨t1, t2⟩ := turn_in (u := 1) (.inl rfl) u (tzO rs u 1 q) rs k3 (Int.le_of_eq k2)
  rw [g8] at t1 t2 hc ⊢
  have hB : (uB 1 && uB u) = true := by rw [(uB_iff u).2 hu, (uB_iff 1).2 (.inl rfl)]; rfl
  unfold tzE
  constructor
  · rw [hB, if_pos rfl, if_pos hc, t1, i1]; rfl
  · conv => lhs; unfold tzO
    rw [hB, if_pos rfl, if_pos hc, t2, i1, if_pos rfl, i2]
end Go.Proofs.YtldhbjmillfjgabGreatDoor
