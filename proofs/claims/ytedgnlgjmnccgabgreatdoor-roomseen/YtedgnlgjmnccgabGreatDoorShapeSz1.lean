/-
  shape.sizeOf, form 1: how many bytes come, or that a part ends within a rune.
-/
import Derived.Test.YtedgnlgjmnccgabGreatDoorShapeSz
namespace Go.Proofs.YtedgnlgjmnccgabGreatDoor
open Go.RowKit
set_option linter.unusedVariables false
attribute [local go_sem] Oper.semAt_some

set_option maxRecDepth 100000 in
set_option maxHeartbeats 800000 in
theorem size1_any (p : Option Addr) (n c : Nat) (R : List Nat) (qs : List Pt) (v : Value) (w : World) (hT : Lib.Utf8Tabs 2 3 w) (hR : ∀ r ∈ R, isRune r) (hsl : sl w .u8 p n c (rowZ 1 R)) (hr : opAt w v qs) (hc : chkE qs (by_ 1 R) = 0) (hl : qs.length ≤ 1000) (hz : C1 R ≤ 1000000) (hpl : ∀ q ∈ qs, q.put.length ≤ 1000000) :
    Calls Tryz.prog 159 #[.slice p n c, v, .func (.func 94) #[] #[]] w fun e w' => e = .returned (.tuple #[.int .i64 (szV 1 R qs), errV (szE 1 R qs)]) ∧ Below w.heap.size w w' := by
  have hu : unitOk 1 := by unfold unitOk; omega
  obtain ⟨hp1, hp2, hp3⟩ := chkE_parts hc
  have HU : Hid (unitOk 1) := hu
  have HT : Hid (Lib.Utf8Tabs 2 3 w) := hT
  have HOP : Hid (opAt w v qs) := hr
  have HP1 : Hid (∀ p ∈ qs, oneB p = true ∧ (scan p.put).2 = true) := hp1
  have HPL : Hid (∀ q ∈ qs, q.put.length ≤ 1000000) := hpl
  have HST : Hid (szI w 1 .u8 R qs 0 (.int .i64 0) (.slice p n c) w) := szI_start hz hsl hR hp2
  obtain ⟨pq, cq, rfl, r1, r2, r3⟩ := hr
  unfold maxLen at r2
  obtain ⟨N, hN⟩ : ∃ N, qs.length = N := ⟨_, rfl⟩
  rw [hN] at r1 hl ⊢
  have HN : Hid (qs.length = N) := hN
  have hN0 : (N : Int) ≤ 1000 := by omega
  clear hT hR hsl hc hp1 hp2 hp3 r3 hz hpl hu hN
  go_enter Tryz.func159, Tryz.ntmps159
  go_wp2
  go_loopw [8, 9, 18] (fun v8 v9 i wr => ∃ x : Nat, i = .int .i64 x ∧ szI w 1 .u8 R qs x v8 v9 wr) (fun _ _ i _ => N - (intOf i).toNat)
  case atStart => exact ⟨0, rfl, HST.out⟩
  case round =>
    obtain ⟨x, rfl, hst⟩ := hrel
    obtain ⟨S, p', n', c', R', rfl, rfl, hsl, hR', hlong, hok, hcome, hS0, hS1, hCR, hx, hbw⟩ := hst
    clear HST
    by_cases hlt : x < N
    · have hxr : x < qs.length := by rw [HN.out]; exact hlt
      have hne : qs ≠ [] := by intro e; rw [e] at hxr; exact absurd hxr (Nat.not_lt_zero _)
      obtain ⟨p0, c0, hvv, _, _, hcell⟩ := HOP.out
      obtain ⟨b0, o, rfl, hb0, hcell⟩ := hcell hne
      obtain ⟨f0, f1, f2⟩ := hcell x qs[x] (List.getElem?_eq_getElem hxr)
      have g0 := (hbw.cell (p := ⟨b0, o + x * 3, none⟩) hb0).trans f0
      have g1 := (hbw.cell (p := ⟨b0, o + x * 3 + 1, none⟩) hb0).trans f1
      have g2 := (hbw.cell (p := ⟨b0, o + x * 3 + 2, none⟩) hb0).trans f2
      obtain rfl : pq = some ⟨b0, o, none⟩ := by injection hvv
      clear hvv hcell f0 f1 f2 hne
      have hq := HP1.out _ (List.getElem_mem hxr)
      have hputl := HPL.out _ (List.getElem_mem hxr)
      have hdk : qs.drop x = qs[x] :: qs.drop (x + 1) := List.drop_eq_getElem_cons hxr
      have hstep := sz_step HU.out hdk hq (fun y hy => HP1.out y (List.mem_of_mem_drop hy)) hsl hR' hlong hCR
      rw [hdk] at hok hcome
      have HOK : Hid (okZ 1 R qs = okZ 1 R' (qs[x] :: qs.drop (x + 1))) := hok
      have HCOME : Hid (okZ 1 R qs = true → S + C1 (comesZ 1 R' (qs[x] :: qs.drop (x + 1))) = C1 (comesZ 1 R qs)) := hcome
      have HBW : Hid (Below w.heap.size w wr) := hbw
      have HX : Hid (x < qs.length) := hxr
      have HSL : Hid (sl wr .u8 p' n' c' (rowZ 1 R')) := hsl
      have HR' : Hid (∀ r ∈ R', isRune r) := hR'
      have HCR : Hid (C1 R' ≤ 1000000) := hCR
      clear hok hcome hbw hsl hR' hlong hdk
      generalize qs[x] = q at *
      obtain ⟨K, D, U⟩ := q
      simp only at g0 g1 g2 hputl
      have hK0 : 0 ≤ K := hstep.k0
      have hD0 : 0 ≤ D := hstep.d0
      have hKD : K + D ≤ (n' : Int) := hstep.le
      obtain ⟨hcc, hcm, hnn⟩ := sl_cap HSL.out
      unfold maxLen at hcm
      have HSTEP : Hid (szStep 1 R' ⟨K, D, U⟩ (qs.drop (x + 1)) n') := hstep
      have hUz : (ByteArray.mk U.toArray).size = U.length := by simp [ByteArray.size]
      obtain ⟨M, hM⟩ : ∃ M : Nat, K + D = (M : Int) := ⟨(K + D).toNat, by omega⟩
      have hMn : M ≤ n' := by omega
      have HM : Hid (K + D = (M : Int)) := hM
      have HPC : Hid (sl wr .u8 p' M c' ((rowZ 1 R').take M)) := sl_head HSL.out hMn
      have hxlN : (x : Int) < (N : Int) := by omega
      clear hstep hnn hxr
      by_cases he : onEdge R' 1 (K + D) = true
      · obtain ⟨hpX, hX1, hX2, hX3⟩ := szStep_good HU.out HSTEP.out HR'.out HCR.out he
        have hMt : (K + D).toNat = M := by omega
        rw [hMt] at hpX
        obtain ⟨X, hXe⟩ : ∃ X, upTo R' 1 (K + D) = X := ⟨_, rfl⟩
        rw [hXe] at hpX hX1 hX2 hX3
        have HXE : Hid (upTo R' 1 (K + D) = X) := hXe
        have HHE : Hid (onEdge R' 1 (K + D) = true) := he
        have hbz : (bytesOf X).size = (encs X).length := by simp [bytesOf, ByteArray.size]
        have hXl : ((encs X).length : Int) ≤ 1000000 := by have := C1_len X; omega
        have cT : Hid (∀ wx, Below w.heap.size w wx → sl wx .u8 p' M c' ((rowZ 1 R').take M) → Calls Tryz.prog 94 #[.slice p' M c'] wx fun e w' => e = .returned (.tuple #[.string (bytesOf X), .nilIface]) ∧ Below wx.heap.size wx w') := fun wx hb hs => text1_good X hX2 hX1 p' M c' wx (Go.Proofs.Utf8Tabs_below HT.out hb) (by rw [← hpX]; exact hs)
        have HX3 : Hid _ := hX3
        have hS3 : S ≤ 2000000 * (x : Int) := hS1
        have hxx : (x : Int) < 1000 := by omega
        generalize bytesOf X = bX at *
        clear hX1 hX2 hX3 hpX hXe he hM hS1
        by_cases hK : 0 < K
        · go_wp2_with (first
            | (go_at_call 94; refine (cT.out _ (by exact HBW.out.alloc HBW.out.size _) (by exact sl_below HPC.out ((Below.refl wr.heap.size wr).alloc (Nat.le_refl _) _) (Nat.le_refl _))).mono ?_; rintro e w2 ⟨rfl, hb2⟩; have HB2 : Hid (Below wr.heap.size wr w2) := ((Below.refl wr.heap.size wr).alloc (Nat.le_refl _) _).trans (hb2.mono (by simp)); have hz2 : wr.heap.size + 1 ≤ w2.heap.size := by have := hb2.size; simpa using this
               have x0 : w2.cell? ⟨wr.heap.size, 0, none⟩ = some (.int .i64 K) := (hb2.cell (p := ⟨wr.heap.size, 0, none⟩) (by simp)).trans (by simp)
               have x1 : w2.cell? ⟨wr.heap.size, 1, none⟩ = some (.int .i64 D) := (hb2.cell (p := ⟨wr.heap.size, 1, none⟩) (by simp)).trans (by simp)
               have x2 : w2.cell? ⟨wr.heap.size, 2, none⟩ = some (.string ⟨U.toArray⟩) := (hb2.cell (p := ⟨wr.heap.size, 2, none⟩) (by simp)).trans (by simp); clear hb2)
            | fail)
          refine ⟨⟨x + 1, by go_num, ?_⟩, by simp [intOf]; omega⟩
          obtain ⟨y1, y2, y3, y4, y5, y6⟩ := HX3.out
          have hs2 := sl_below (sl_cut HSL.out hMn) HB2.out (Nat.le_refl _)
          have hy1 : (rowZ 1 R').drop M = rowZ 1 (restZ 1 R' (K + D)) := by rw [← hMt]; exact y1
          rw [hy1] at hs2
          exact szI_next (A := ((encs X).length : Int)) HX.out HOK.out HCOME.out ⟨y2, y3, y4, y5, by rw [y6, if_pos hK, C1_len]⟩ hs2 hS0 hS3 (by omega) (by omega) hputl (HBW.out.trans (HB2.out.mono HBW.out.size))
        · go_wp2_with (first
            | (go_at_call 94; refine (cT.out _ (by exact HBW.out.alloc HBW.out.size _) (by exact sl_below HPC.out ((Below.refl wr.heap.size wr).alloc (Nat.le_refl _) _) (Nat.le_refl _))).mono ?_; rintro e w2 ⟨rfl, hb2⟩; have HB2 : Hid (Below wr.heap.size wr w2) := ((Below.refl wr.heap.size wr).alloc (Nat.le_refl _) _).trans (hb2.mono (by simp)); have hz2 : wr.heap.size + 1 ≤ w2.heap.size := by have := hb2.size; simpa using this
               have x0 : w2.cell? ⟨wr.heap.size, 0, none⟩ = some (.int .i64 K) := (hb2.cell (p := ⟨wr.heap.size, 0, none⟩) (by simp)).trans (by simp)
               have x1 : w2.cell? ⟨wr.heap.size, 1, none⟩ = some (.int .i64 D) := (hb2.cell (p := ⟨wr.heap.size, 1, none⟩) (by simp)).trans (by simp)
               have x2 : w2.cell? ⟨wr.heap.size, 2, none⟩ = some (.string ⟨U.toArray⟩) := (hb2.cell (p := ⟨wr.heap.size, 2, none⟩) (by simp)).trans (by simp); clear hb2)
            | fail)
          refine ⟨⟨x + 1, by go_num, ?_⟩, by simp [intOf]; omega⟩
          obtain ⟨y1, y2, y3, y4, y5, y6⟩ := HX3.out
          have hs2 := sl_below (sl_cut HSL.out hMn) HB2.out (Nat.le_refl _)
          have hy1 : (rowZ 1 R').drop M = rowZ 1 (restZ 1 R' (K + D)) := by rw [← hMt]; exact y1
          rw [hy1] at hs2
          have hfin := szI_next (A := 0) HX.out HOK.out HCOME.out ⟨y2, y3, y4, y5, by rw [y6, if_neg (by omega)]⟩ hs2 hS0 hS3 (by omega) (by omega) hputl (HBW.out.trans (HB2.out.mono HBW.out.size))
          rw [Int.add_zero] at hfin
          exact hfin
      · have he : onEdge R' 1 (K + D) = false := by simpa using he
        have hbad := szStep_bad HU.out HSTEP.out HR'.out he
        have hMt : (K + D).toNat = M := by omega
        rw [hMt] at hbad
        have HV : Hid (szV 1 R qs = 0 ∧ szE 1 R qs = 10) := sz_bad (by rw [HOK.out]; unfold okZ; rw [show lenP ⟨K, D, U⟩ = K + D from rfl, he]; rfl)
        have cT : Hid (∀ wx, Below w.heap.size w wx → sl wx .u8 p' M c' ((rowZ 1 R').take M) → Calls Tryz.prog 94 #[.slice p' M c'] wx fun e w' => ∃ s bx, e = .returned (.tuple #[.string s, atV bx]) ∧ Below wx.heap.size wx w') := fun wx hb hs => text1_bad R' M hbad HCR.out p' M c' wx (Go.Proofs.Utf8Tabs_below HT.out hb) hs
        unfold atV at cT
        clear hbad he hM
        go_wp2_with (first
          | (go_at_call 94; refine (cT.out _ (by exact HBW.out.alloc HBW.out.size _) (by exact sl_below HPC.out ((Below.refl wr.heap.size wr).alloc (Nat.le_refl _) _) (Nat.le_refl _))).mono ?_; rintro e w2 ⟨s2, bx, rfl, hb2⟩; have HB2 : Hid (Below wr.heap.size wr w2) := ((Below.refl wr.heap.size wr).alloc (Nat.le_refl _) _).trans (hb2.mono (by simp)); clear hb2)
          | fail)
        go_ret2
        refine ⟨?_, HBW.out.trans (HB2.out.mono HBW.out.size)⟩
        rw [HV.out.1, HV.out.2]; rfl
    · obtain rfl : x = N := by have := HN.out; omega
      have hxlN : ¬ ((x : Int) < (x : Int)) := by omega
      have HV : Hid (szV 1 R qs = S ∧ szE 1 R qs = 0) := by
        rw [← HN.out, List.drop_length] at hok hcome
        exact sz_good hok hcome
      have HBW : Hid (Below w.heap.size w wr) := hbw
      clear hok hcome hsl hR' hlong hbw
      go_wp2
      go_ret2
      refine ⟨?_, HBW.out⟩
      rw [HV.out.1, HV.out.2]; rfl
end Go.Proofs.YtedgnlgjmnccgabGreatDoor
