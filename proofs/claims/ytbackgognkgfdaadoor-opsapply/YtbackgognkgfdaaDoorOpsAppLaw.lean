/-
  rosettalaw.OpsApply: what an operation makes of a text, and what takes it back, is the document's.
-/
import Derived.Test.YtbackgognkgfdaaDoorOpsRefInv
import Derived.Test.YtbackgognkgfdaaDoorRefCount
import Derived.Test.YtbackgognkgfdaaDoorErrNum
namespace Go.Proofs.YtbackgognkgfdaaDoor
open Go.RowKit
set_option linter.unusedVariables false
attribute [local go_sem] Oper.semAt_some

set_option maxRecDepth 100000 in
set_option maxHeartbeats 4000000 in
theorem opsApply_any (v : Value) (ps : List Pt) (s : List UInt8) (w : World) (hg : asLaid w) (hT : Lib.Utf8Tabs 0 1 w) (hr : opAt w v ps) (hwf : ∀ p ∈ ps, wfP p) (hsm : ∀ p ∈ ps, p.put.length < 100000000) (hpu : putsP ps < 9000000) (hsl : s.length < 9223372036854775808) :
    Calls Tryd.prog 9 #[v, .string ⟨s.toArray⟩] w fun e w' => e = .returned (.bool true) ∧ Below w.heap.size w w' := by
  have hz := str_size s
  by_cases hl : 100 < ps.length
  · obtain ⟨p, c, rfl, r1, r2, _⟩ := hr
    unfold maxLen at r2
    have h2 : (100 : Int) < (ps.length : Int) := by omega
    clear hT hg hwf hsm hpu
    go_enter Tryd.func9, Tryd.ntmps9
    go_wp2
    go_ret
    exact ⟨rfl, Below.refl _ _⟩
  have hl2 : ¬ (100 : Int) < (ps.length : Int) := by omega
  by_cases hs : 3000 < s.length
  · obtain ⟨p, c, rfl, r1, r2, _⟩ := hr
    unfold maxLen at r2
    have h2 : (3000 : Int) < (s.length : Int) := by omega
    clear hT hg hwf hsm hpu
    go_enter Tryd.func9, Tryd.ntmps9
    go_wp2
    go_ret
    exact ⟨rfl, Below.refl _ _⟩
  have hs2 : ¬ (3000 : Int) < (s.length : Int) := by omega
  by_cases hok : (scan s).2 = true
  case neg =>
    have cN := refCount_bad ⟨s.toArray⟩ (by rw [hz]; omega) w (Bool.eq_false_iff.2 hok)
    generalize place (ByteArray.mk s.toArray).data.toList = PL at cN
    unfold cnt fault at cN
    obtain ⟨p, c, rfl, r1, r2, _⟩ := hr
    clear hT hg hwf hsm hpu hok
    go_enter Tryd.func9, Tryd.ntmps9
    go_wp2_with (first | (go_at_call 16; refine Calls.mono cN ?_; rintro e w1 ⟨hb1, rfl⟩) | fail)
    go_ret
    exact ⟨rfl, (hb1.alloc hb1.size _).alloc (Nat.le_trans hb1.size (by simp)) _⟩
  case pos =>
    have cN := refCount_good ⟨s.toArray⟩ (by rw [hz]; omega) w hok
    have hl' : ps.length < 10000000 := by omega
    unfold cnt fault at cN
    generalize ((halRow (runesOf (ByteArray.mk s.toArray).data.toList)).length : Int) = N1 at cN
    generalize ((runesOf (ByteArray.mk s.toArray).data.toList).length : Int) = N2 at cN
    generalize (Lib.countByte (ByteArray.mk s.toArray).data.toList 10 : Int) = N3 at cN
    obtain ⟨AP, hAP⟩ : ∃ AP, ByteArray.mk (if ordE ps s = 0 then applyP ps s else []).toArray = AP := ⟨_, rfl⟩
    obtain ⟨IV, hIV⟩ : ∃ IV, (if ordE ps s = 0 then invertP ps s else []) = IV := ⟨_, rfl⟩
    have hIl : IV.length < 10000000 := by
      rw [← hIV]
      split
      · rename_i h0
        have hc : chkE ps (s.length : Int) = 0 := by
          unfold ordE at h0
          split at h0
          · assumption
          · rename_i h; exact absurd h0 h
        have h1 := tellP_len (((pcs ps s).map invP).foldl addP nst0)
        have h2 := (bds ((pcs ps s).map invP) (inv_sound (chkE_fits hc).1)).len
        rw [List.length_map, pcs_length] at h2
        unfold invertP normP
        omega
      · simp
    have cRA : Hid (∀ wx, Below w.heap.size w wx → Calls Tryd.prog 52 #[v, .string ⟨s.toArray⟩] wx fun e w' => e = .returned (.tuple #[.string AP, .int .i64 (ordE ps s)]) ∧ Below wx.heap.size wx w') := fun wx hb => by
      rw [← hAP]; exact refApply_any v ps s wx (opAt_grown hr hb) hwf hsm (by omega) hl' (by omega)
    have cPA : Hid (∀ wx, Below w.heap.size w wx → Calls Tryd.prog 53 #[v, .string ⟨s.toArray⟩] wx fun e w' => e = .returned (.tuple #[.string AP, errV (ordE ps s)]) ∧ Below wx.heap.size wx w') := fun wx hb => by
      rw [← hAP]; exact Apply_any v ps s wx (Go.Proofs.Utf8Tabs_below hT hb) (opAt_grown hr hb) hwf (by omega) hl' (by omega)
    have cRI : Hid (∀ wx, Below w.heap.size w wx → Calls Tryd.prog 54 #[v, .string ⟨s.toArray⟩] wx fun e w' => ∃ v', e = .returned (.tuple #[v', .int .i64 (ordE ps s)]) ∧ opAt w' v' IV ∧ Below wx.heap.size wx w') := fun wx hb => by
      rw [← hIV]; exact refInvert_any v ps s wx (opAt_grown hr hb) hwf hsm hl' (by omega) (by omega) (fun _ => by omega)
    have cPI : Hid (∀ wx, Below w.heap.size w wx → Calls Tryd.prog 55 #[v, .string ⟨s.toArray⟩] wx fun e w' => ∃ v', e = .returned (.tuple #[v', errV (ordE ps s)]) ∧ opAt w' v' IV ∧ Below wx.heap.size wx w') := fun wx hb => by
      rw [← hIV]; exact Invert_any v ps s wx (Go.Proofs.Utf8Tabs_below hT hb) (opAt_grown hr hb) hwf (by omega) hl' (by omega)
    have cB : Hid (∀ wx, Below w.heap.size w wx → Calls Tryd.prog 30 #[errV (ordE ps s), .int .i64 (ordE ps s)] wx fun e w' => e = .returned (.bool true) ∧ Below wx.heap.size wx w') := fun wx hb => bare_any _ wx (asLaid_below hg hb)
    obtain ⟨E, hE⟩ : ∃ E, ordE ps s = E := ⟨_, rfl⟩
    rw [hE] at cRA cPA cRI cPI cB
    obtain ⟨V, hV⟩ : ∃ V, errV E = V := ⟨_, rfl⟩
    rw [hV] at cPA cPI cB
    have HIL : Hid (IV.length < 10000000) := hIl
    obtain ⟨p, c, rfl, r1, r2, _⟩ := hr
    clear hT hg hwf hsm hpu hok hAP hIV hIl hE hV
    go_enter Tryd.func9, Tryd.ntmps9
    go_wp2_with (first
      | (go_at_call 16; refine Calls.mono cN ?_; rintro e w1 ⟨hb1, rfl⟩; have hB1 : Hid (Below w.heap.size w w1) := hb1)
      | (go_at_call 52; refine (cRA.out _ ((hB1.out.alloc hB1.out.size _).alloc (Nat.le_trans hB1.out.size (by simp)) _)).mono ?_; rintro e w2 ⟨rfl, hb2⟩; have hB2 : Hid (Below w.heap.size w w2) := ((hB1.out.alloc hB1.out.size _).alloc (Nat.le_trans hB1.out.size (by simp)) _).trans (hb2.mono (Nat.le_trans hB1.out.size (by simp; omega))))
      | (go_at_call 53; refine (cPA.out _ hB2.out).mono ?_; rintro e w3 ⟨rfl, hb3⟩; have hB3 : Hid (Below w.heap.size w w3) := hB2.out.trans (hb3.mono hB2.out.size))
      | (go_at_call 54; refine (cRI.out _ hB3.out).mono ?_; rintro e w4 ⟨v4, rfl, ho4, hb4⟩; have hB4 : Hid (Below w.heap.size w w4) := hB3.out.trans (hb4.mono hB3.out.size); have HO4 : Hid (opAt w4 v4 IV) := ho4)
      | (go_at_call 55; refine (cPI.out _ hB4.out).mono ?_; rintro e w5 ⟨v5, rfl, ho5, hb5⟩; have hB5 : Hid (Below w.heap.size w w5) := hB4.out.trans (hb5.mono hB4.out.size); have HO5 : Hid (opAt w5 v5 IV) := ho5; have HO45 : Hid (opAt w5 v4 IV) := opAt_grown HO4.out hb5)
      | (have _ := hB6; go_at_call 30; refine (cB.out _ hB6.out).mono ?_; rintro e w7 ⟨rfl, hb7⟩; have hB7 : Hid (Below w.heap.size w w7) := hB6.out.trans (hb7.mono hB6.out.size); have HO7 : Hid (opAt w7 v5 IV) := opAt_grown HO6.out hb7; have HO47 : Hid (opAt w7 v4 IV) := opAt_grown HO46.out hb7)
      | (go_at_call 30; refine (cB.out _ hB5.out).mono ?_; rintro e w6 ⟨rfl, hb6⟩; have hB6 : Hid (Below w.heap.size w w6) := hB5.out.trans (hb6.mono hB5.out.size); have HO6 : Hid (opAt w6 v5 IV) := opAt_grown HO5.out hb6; have HO46 : Hid (opAt w6 v4 IV) := opAt_grown HO45.out hb6)
      | (go_at_call 48; refine (Same_any _ _ IV w7 HO7.out HO47.out HIL.out).mono ?_; rintro e w8 ⟨rfl, hb8⟩; have hB8 : Hid (Below w.heap.size w w8) := hB7.out.trans (hb8.mono hB7.out.size))
      | fail)
    go_ret
    exact ⟨rfl, hB8.out⟩
end Go.Proofs.YtbackgognkgfdaaDoor
