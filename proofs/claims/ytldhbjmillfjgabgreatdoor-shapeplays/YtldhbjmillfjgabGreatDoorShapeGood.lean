/-
  rosettalaw.ShapePlays: whatever is done, the document's answer.
-/
import Derived.Test.YtldhbjmillfjgabGreatDoorShapeLaw
import Derived.Test.YtldhbjmillfjgabGreatDoorKeep
import Derived.Test.YtldhbjmillfjgabGreatDoorRefCnt
import Derived.Deep.QuietTactic
import Derived.BigQuiet
import Derived.Stop.RegionWithIn
namespace Go.Proofs.YtldhbjmillfjgabGreatDoor
open Go.RowKit
set_option linter.unusedVariables false
attribute [local go_sem] Oper.semAt_some

theorem cellsCnt (w : World) (n1 n2 n3 n4 : Int) (t t' : TypeId) (b : Obj) : ∀ (j : Nat) u, (#[Value.int .i64 n1, .int .i64 n2, .int .i64 n3, .int .i64 n4] : Array Value)[j]? = some u → ((w.alloc (.cells #[.int .i64 n1, .int .i64 n2, .int .i64 n3, .int .i64 n4] t)).alloc b).cell? ⟨w.heap.size, j, none⟩ = some u := fun j u h => by
  have h2 : ((w.alloc (.cells #[.int .i64 n1, .int .i64 n2, .int .i64 n3, .int .i64 n4] t)).alloc b).heap[w.heap.size]? = some (.cells #[.int .i64 n1, .int .i64 n2, .int .i64 n3, .int .i64 n4] t (0, 0)) := (heap_alloc_old _ _ (by simp)).trans (heap_alloc_new _ _)
  simp [World.cell?, h2, h]
set_option maxRecDepth 100000 in
set_option maxHeartbeats 3000000 in
theorem shapeLaw_good (u : Nat) (hu : unitN u) (rs0 : List Nat) (hR0 : ∀ r ∈ rs0, isRune r) (hz0 : C1 rs0 ≤ 400) (v : Value) (l : List (List Pt)) (w : World) (hg : asLaid w) (hT : Lib.Utf8Tabs 2 3 w) (hr : opsAt w v l) (hwf : ∀ q ∈ l, smallWf q) (hl : l.length ≤ 12) :
    Calls Tryz.prog 5 #[.int .i64 (u : Int), .string (bytesOf rs0), v] w fun e w' => e = .returned (.bool true) ∧ Below w.heap.size w w' := by
  have huo := unitN_ok hu
  have HUN : Hid (unitN u) := hu
  have HUO : Hid (unitOk (u : Int)) := huo
  have HG : Hid (asLaid w) := hg
  have HT : Hid (Lib.Utf8Tabs 2 3 w) := hT
  have HOP : Hid (opsAt w v l) := hr
  have HWF : Hid (∀ q ∈ l, smallWf q) := hwf
  have hbz : ∀ rs : List Nat, (bytesOf rs).size = (encs rs).length := fun rs => by simp [bytesOf, ByteArray.size]
  have cN : Hid (Calls Tryz.prog 21 #[.int .i64 (u : Int), .string (bytesOf rs0)] w fun e w' => ∃ b, e = .returned (.tuple #[.pointer (some ⟨b, 0, none⟩), .nilIface]) ∧ isShape w' b u rs0 ∧ w.heap.size ≤ b ∧ Below w.heap.size w w') := shnew_good u hu rs0 hR0 (by omega) w hT
  have cC : Hid (∀ rs wx, (∀ r ∈ rs, isRune r) → C1 rs ≤ 8000 → Calls Tryz.prog 8 #[.string (bytesOf rs)] wx fun e w' => e = .returned (.tuple #[.agg #[.int .i64 (C1 rs), .int .i64 (C2 rs), .int .i64 (C3 rs), .int .i64 (C4 rs)], .agg #[.int .i64 0, .int .i64 (-1)]]) ∧ Below wx.heap.size wx w') := fun rs wx h1 h2 => refCount_of (bytesOf rs) rs h1 rfl (by rw [hbz]; have := C1_len rs; omega) wx
  have cTx : Hid (∀ b rs wx, Below w.heap.size w wx → isShape wx b u rs → (∀ r ∈ rs, isRune r) → C1 rs ≤ 8000 → Calls Tryz.prog 24 #[.pointer (some ⟨b, 0, none⟩)] wx fun e w' => e = .returned (.string (bytesOf rs)) ∧ Below wx.heap.size wx w') := fun b rs wx hb h1 h2 h3 => shtext_any b u HUN.out rs wx h1 h2 (by omega) (Go.Proofs.Utf8Tabs_below HT.out hb)
  have cL : Hid (∀ b rs wx, isShape wx b u rs → Calls Tryz.prog 29 #[.pointer (some ⟨b, 0, none⟩)] wx fun e w' => e = .returned (.int .i64 (by_ (u : Int) rs)) ∧ w' = wx) := fun b rs wx h => shlen_any b u HUN.out rs wx h
  have cU : Hid (∀ b rs wx, isShape wx b u rs → Calls Tryz.prog 31 #[.pointer (some ⟨b, 0, none⟩)] wx fun e w' => e = .returned (.int .i64 (u : Int)) ∧ w' = wx) := fun b rs wx h => shunit_any b u rs wx h
  have cI : Hid (∀ rs wx, C1 rs ≤ 8000 → Calls Tryz.prog 30 #[.agg #[.int .i64 (C1 rs), .int .i64 (C2 rs), .int .i64 (C3 rs), .int .i64 (C4 rs)], .int .i64 (u : Int)] wx fun e w' => e = .returned (.int .i64 (by_ (u : Int) rs)) ∧ Below wx.heap.size wx w') := fun rs wx h => refIn_any (u : Int) rs (by have := HUN.out; unfold unitN at this; omega) (by have := HUN.out; unfold unitN at this; omega) (by omega) wx
  have hu1 : ¬ ((u : Int) < 1) ∧ ¬ (3 < (u : Int)) := by unfold unitN at hu; omega
  obtain ⟨hu1, hu2⟩ := hu1
  have hs0 : ((bytesOf rs0).size : Int) ≤ 400 := by rw [hbz, ← C1_len]; exact hz0
  have HR0 : Hid (∀ r ∈ rs0, isRune r) := hR0
  have HZ0 : Hid (C1 rs0 ≤ 8000) := show C1 rs0 ≤ 8000 by omega
  obtain ⟨pl, cl, rfl, r1, r2, r3⟩ := hr
  obtain ⟨N, hN⟩ : ∃ N, l.length = N := ⟨_, rfl⟩
  rw [hN] at hl r1 ⊢
  have HN : Hid (l.length = N) := hN
  unfold maxLen at r2
  have hN0 : (N : Int) ≤ 12 := by omega
  clear hT hg hwf r3 hu huo hR0 hz0 hN hbz
  obtain ⟨S0, hS0⟩ : ∃ S0, bytesOf rs0 = S0 := ⟨_, rfl⟩
  have cC0 : Hid (∀ wx, Calls Tryz.prog 8 #[.string S0] wx fun e w' => e = .returned (.tuple #[.agg #[.int .i64 (C1 rs0), .int .i64 (C2 rs0), .int .i64 (C3 rs0), .int .i64 (C4 rs0)], .agg #[.int .i64 0, .int .i64 (-1)]]) ∧ Below wx.heap.size wx w') := fun wx => hS0 ▸ cC.out rs0 wx HR0.out HZ0.out
  rw [hS0] at cN hs0 ⊢
  have HS0 : Hid (S0 = bytesOf rs0) := hS0.symm
  clear hS0
  go_enter Tryz.func5, Tryz.ntmps5
  go_wp2_with (first
    | (go_at_call 21; refine Calls.mono cN.out ?_; rintro e w1 ⟨b, rfl, hs1, hb1, hB1⟩; have HB1 : Hid (Below w.heap.size w w1) := hB1; have HS1 : Hid (isShape w1 b u rs0) := hs1; have HBW : Hid (w.heap.size ≤ b) := hb1; have HBL : Hid (b < w1.heap.size) := isShape_lt hs1; clear hB1 hs1 hb1)
    | (go_at_call 8; refine (cC0.out _).mono ?_; rintro e w2 ⟨rfl, hb2⟩; have HB2 : Hid (Below w1.heap.size w1 w2) := hb2; clear hb2)
    | fail)
  have HB3 : Hid (Below w1.heap.size w1 ((w2.alloc (.cells #[.int .i64 (C1 rs0), .int .i64 (C2 rs0), .int .i64 (C3 rs0), .int .i64 (C4 rs0)] 25)).alloc (.cells #[.int .i64 0, .int .i64 (-1)] 28))) := (HB2.out.alloc HB2.out.size _).alloc (Nat.le_trans HB2.out.size (by simp)) _
  have HST : Hid (shI w b u 0 (.string S0) ((w2.alloc (.cells #[.int .i64 (C1 rs0), .int .i64 (C2 rs0), .int .i64 (C3 rs0), .int .i64 (C4 rs0)] 25)).alloc (.cells #[.int .i64 0, .int .i64 (-1)] 28))) := ⟨rs0, by rw [HS0.out], isShape_below HS1.out HB3.out, HR0.out, HZ0.out, HB1.out.trans (HB3.out.mono HB1.out.size)⟩
  clear cN cC0 HB2 HB3 HB1 HS1 HR0 HZ0 HS0 hs0
  go_loopw [1, 11] (fun v1 i wr => ∃ x : Nat, i = .int .i64 x ∧ x ≤ N + 1 ∧ shI w b u x v1 wr) (fun _ i _ => N + 1 - (intOf i).toNat)
  case atStart => exact ⟨0, rfl, by omega, HST.out⟩
  case round =>
    obtain ⟨x, rfl, hxN, rs, rfl, hsh, hR, hz, hbw⟩ := hrel
    have HSH : Hid (isShape wr b u rs) := hsh
    have HR : Hid (∀ r ∈ rs, isRune r) := hR
    have HZ : Hid (C1 rs ≤ 8000) := hz
    have HBR : Hid (Below w.heap.size w wr) := hbw
    have hxi : (x : Int) ≤ 13 := by omega
    clear HST hsh hR hz hbw
    by_cases hlt : x ≤ N
    case neg =>
      obtain rfl : x = N + 1 := by omega
      have hn : ¬ (((N + 1 : Nat) : Int) ≤ (N : Int)) := by omega
      clear hlt
      go_wp2
      go_ret
      exact ⟨rfl, HBR.out⟩
    case pos =>
      have hle : (x : Int) ≤ (N : Int) := by omega
      go_upto_if 72 with fail
      go_cut [1, 12, 13, 14, 15] from 65 to 149 (fun v1 v12 v13 v14 v15 wc => ∃ rs2, v1 = .string (bytesOf rs2) ∧ isShape wc b u rs2 ∧ (∀ r ∈ rs2, isRune r) ∧ C1 rs2 ≤ 8000 ∧ Below w.heap.size w wc)
      case first =>
        by_cases hx0 : x = 0
        case pos =>
          subst hx0
          go_wp2
          go_meet
          case rel => exact ⟨rs, rfl, HSH.out, HR.out, HZ.out, HBR.out⟩
        case neg =>
          obtain ⟨k, hk⟩ : ∃ k, x = k + 1 := ⟨x - 1, by omega⟩
          have hkl : k < l.length := by have := HN.out; omega
          have hne : l ≠ [] := by intro e; rw [e] at hkl; exact absurd hkl (Nat.not_lt_zero _)
          obtain ⟨p0, c0, hvv, _, _, hcell⟩ := HOP.out
          obtain ⟨b0, o, rfl, hb0, hcell⟩ := hcell hne
          obtain ⟨v', hv', hop'⟩ := hcell k l[k] (List.getElem?_eq_getElem hkl)
          have hvr := (HBR.out.cell (p := ⟨b0, o + k, none⟩) hb0).trans hv'
          obtain rfl : pl = some ⟨b0, o, none⟩ := by injection hvv
          have hsw := HWF.out _ (List.getElem_mem hkl)
          obtain ⟨q, hq⟩ : ∃ q, l[k] = q := ⟨_, rfl⟩
          rw [hq] at hop' hsw
          have HQ : Hid (opAt w v' q) := hop'
          have hvs : ∃ p c, v' = .slice p q.length c := by obtain ⟨p, c, e, _⟩ := hop'; exact ⟨p, c, e⟩
          obtain ⟨pq, cq, rfl⟩ := hvs
          have HSW : Hid (smallWf q) := hsw
          have hqm : q.length ≤ maxLen := by
            obtain ⟨p1, c1, e1, e2, e3, _⟩ := hop'
            exact Nat.le_trans e2 e3
          unfold maxLen at hqm
          have hk1 : (x : Int) - 1 = (k : Int) := by omega
          have hkp : (0 : Int) < (x : Int) := by omega
          have hkN : (k : Int) < (N : Int) := by omega
          have cF : Hid (∀ wx, Below w.heap.size w wx → Calls Tryz.prog 27 #[.slice pq q.length cq] wx fun e w' => e = .returned (.bool (fewB q)) ∧ Below wx.heap.size wx w') := fun wx hb => fewX_any _ q wx (opAt_below HQ.out hb (Nat.le_refl _))
          have HFB : Hid (b < wr.heap.size ∧ w.heap.size ≤ b) := ⟨isShape_lt HSH.out, HBW.out⟩
          have hSz : ((bytesOf rs).size : Int) = C1 rs := by rw [C1_len]; simp [bytesOf, ByteArray.size]
          clear hcell hvv hv' hop' hsw hq hne hx0 hk
          by_cases hf : fewB q = true
          case neg =>
            have hf : fewB q = false := by simpa using hf
            rw [hf] at cF
            go_wp2_with (first
              | (go_at_call 27; refine (cF.out _ HBR.out).mono ?_; rintro e w3 ⟨rfl, hb3⟩; have HB3 : Hid (Below w.heap.size w w3) := HBR.out.trans (hb3.mono HBR.out.size); clear hb3)
              | fail)
            go_ret
            exact ⟨rfl, HB3.out⟩
          case pos =>
            rw [hf] at cF
            have HF : Hid (fewB q = true) := hf
            clear hf
            by_cases h40 : 40 < q.length
            case pos =>
              have h40' : (40 : Int) < (q.length : Int) := by omega
              go_wp2_with (first
                | (go_at_call 27; refine (cF.out _ HBR.out).mono ?_; rintro e w3 ⟨rfl, hb3⟩; have HB3 : Hid (Below w.heap.size w w3) := HBR.out.trans (hb3.mono HBR.out.size); have hvr3 := (hb3.cell (p := ⟨b0, o + k, none⟩) (World.block_lt_of_cell? wr _ hvr)).trans hvr; clear hb3)
                | fail)
              go_ret
              exact ⟨rfl, HB3.out⟩
            case neg =>
              have h40' : ¬ (40 : Int) < (q.length : Int) := by omega
              obtain ⟨S, hS⟩ : ∃ S, bytesOf rs = S := ⟨_, rfl⟩
              rw [hS] at hSz ⊢
              have HS : Hid (bytesOf rs = S) := hS
              clear hS
              by_cases h2k : 2000 < C1 rs
              case pos =>
                have h2k' : (2000 : Int) < (S.size : Int) := by omega
                go_wp2_with (first
                  | (go_at_call 27; refine (cF.out _ HBR.out).mono ?_; rintro e w3 ⟨rfl, hb3⟩; have HB3 : Hid (Below w.heap.size w w3) := HBR.out.trans (hb3.mono HBR.out.size); have hvr3 := (hb3.cell (p := ⟨b0, o + k, none⟩) (World.block_lt_of_cell? wr _ hvr)).trans hvr; clear hb3)
                  | fail)
                go_ret
                exact ⟨rfl, HB3.out⟩
              case neg =>
                have h2k' : ¬ (2000 : Int) < (S.size : Int) := by omega
                obtain ⟨hq1, hq2⟩ := few_small HF.out
                have hwq : ∀ p ∈ q, wfP p := fun p hp => HSW.out p hp (hq2 p hp)
                have cT : Hid (∀ wx, Below w.heap.size w wx → Calls Tryz.prog 10 #[.string S, .int .i64 (u : Int), .int .i64 1, .slice pq q.length cq] wx fun e w' => ∃ p2 c2, e = .returned (.tuple #[.slice p2 (tzO rs (u : Int) 1 q).length c2, .int .i64 (tzE rs (u : Int) 1 q)]) ∧ opAt w' (.slice p2 (tzO rs (u : Int) 1 q).length c2) (tzO rs (u : Int) 1 q) ∧ Below wx.heap.size wx w') := fun wx hb => by
                  have := refTurn_all S rs (u : Int) 1 q _ wx HR.out (by rw [← HS.out]; rfl) (by have := HZ.out; omega) (opAt_below HQ.out hb (Nat.le_refl _)) hwq (fun p hp => by have := hq2 p hp; omega) (by omega)
                  refine this.mono ?_
                  rintro e w' ⟨v2, h1, h2, h3⟩
                  have h2' := h2
                  obtain ⟨p2, c2, rfl, _⟩ := h2'
                  exact ⟨p2, c2, h1, h2, h3⟩
                have cA : Hid (∀ wx, Below w.heap.size w wx → isShape wx b u rs → Calls Tryz.prog 22 #[.pointer (some ⟨b, 0, none⟩), .slice pq q.length cq] wx fun e w' => e = .returned (errV (shE (u : Int) rs q)) ∧ isShape w' b u (shR (u : Int) rs q) ∧ Below b wx w') := fun wx hb hs => shapply_any b u HUN.out rs q _ wx hs HR.out (by have := HZ.out; omega) (Go.Proofs.Utf8Tabs_below HT.out hb) (opAt_below HQ.out hb (Nat.le_refl _)) hwq (by omega) (fun p hp => by have := hq2 p hp; omega)
                have cB : Hid (∀ E wx, Below w.heap.size w wx → Calls Tryz.prog 13 #[errV E, .int .i64 E] wx fun e w' => e = .returned (.bool true) ∧ Below wx.heap.size wx w') := fun E wx hb => bare_any E wx (asLaid_below HG.out hb)
                have HQ2 : Hid (∀ p ∈ q, p.put.length ≤ 300) := hq2
                have HQ1 : Hid (q.length ≤ 40) := show q.length ≤ 40 by omega
                clear hwq hq1 hq2 h40 h2k
                by_cases hE : tzE rs (u : Int) 1 q = 0
                case neg =>
                  obtain ⟨b1, b2⟩ := sh_bad HUO.out hE
                  rw [b1, b2] at cA
                  have cB2 : Hid (∀ wx, Below w.heap.size w wx → Calls Tryz.prog 13 #[errV (tzE rs (u : Int) 1 q), .int .i64 (tzE rs (u : Int) 1 q)] wx fun e w' => e = .returned (.bool true) ∧ Below wx.heap.size wx w') := cB.out _
                  obtain ⟨V, hV⟩ : ∃ V, errV (tzE rs (u : Int) 1 q) = V := ⟨_, rfl⟩
                  rw [hV] at cA cB2
                  generalize tzE rs (u : Int) 1 q = E at *
                  generalize (tzO rs (u : Int) 1 q) = TO at *
                  have hE0 : (E == 0) = false := by simpa using hE
                  clear b1 b2 hV cB hE
                  go_wp2_with (first
                    | (go_at_call 27; refine (cF.out _ HBR.out).mono ?_; rintro e w3 ⟨rfl, hb3⟩; have HB3 : Hid (Below wr.heap.size wr w3) := hb3; have hvr3 := (hb3.cell (p := ⟨b0, o + k, none⟩) (World.block_lt_of_cell? wr _ hvr)).trans hvr; clear hb3)
                    | (go_at_call 10; refine (cT.out _ (HBR.out.trans (HB3.out.mono HBR.out.size))).mono ?_; rintro e w4 ⟨p2, c2, rfl, ho4, hb4⟩; have HO4 : Hid _ := ho4; have HB4 : Hid (Below wr.heap.size wr w4) := HB3.out.trans (hb4.mono HB3.out.size); have hvr4 := (HB4.out.cell (p := ⟨b0, o + k, none⟩) (World.block_lt_of_cell? wr _ hvr)).trans hvr; clear hb4 ho4)
                    | (go_at_call 22; refine (cA.out _ (HBR.out.trans (HB4.out.mono HBR.out.size)) (isShape_below HSH.out HB4.out)).mono ?_; rintro e w6 ⟨rfl, hs6, hb6⟩; have HS6 : Hid (isShape w6 b u rs) := hs6; have HB6 : Hid (Below w.heap.size w w6) := (HBR.out.trans (HB4.out.mono HBR.out.size)).trans (hb6.mono HFB.out.2); clear hb6 hs6)
                    | (go_at_call 13; refine (cB2.out _ HB6.out).mono ?_; rintro e w7 ⟨rfl, hb7⟩; have HB7 : Hid (Below w.heap.size w w7) := HB6.out.trans (hb7.mono HB6.out.size); have HS7 : Hid (isShape w7 b u rs) := isShape_below HS6.out hb7; clear hb7)
                    | fail)
                  go_meet
                  case rel => exact ⟨rs, by rw [HS.out], HS7.out, HR.out, HZ.out, HB7.out⟩
                case pos =>
                  obtain ⟨g1, g2, g3, g4, g5, g6, g7, g8⟩ := sh_fine HUO.out HR.out hE
                  have hones : ∀ p ∈ q, oneB p = true := fun p hp => ((chkE_parts g6).1 p hp).1
                  have hpu : putsP (tzO rs (u : Int) 1 q) ≤ 12000 := by
                    rw [g8, in_puts q rs hones]
                    have := putsP_le q HQ2.out
                    have := HQ1.out
                    omega
                  have hCl := C1_len rs
                  have hbd : (encs rs).length + putsP (tzO rs (u : Int) 1 q) < 1000000 := by have := HZ.out; omega
                  have hwt := g1.wf hbd
                  have hlt2 : (tzO rs (u : Int) 1 q).length ≤ 40 := by rw [g8, in_len]; exact HQ1.out
                  have cR : Hid (∀ p2 c2 wx, opAt wx (.slice p2 (tzO rs (u : Int) 1 q).length c2) (tzO rs (u : Int) 1 q) → Calls Tryz.prog 28 #[.slice p2 (tzO rs (u : Int) 1 q).length c2, .string S] wx fun e w' => e = .returned (.tuple #[.string (bytesOf (comesZ (u : Int) rs q)), .int .i64 0]) ∧ Below wx.heap.size wx w') := fun p2 c2 wx ho => by
                    have := refApply_any _ (tzO rs (u : Int) 1 q) (encs rs) wx ho hwt (fun p hp => by have := put_le_puts p (tzO rs (u : Int) 1 q) hp; omega) (by omega) (by omega) (by omega)
                    rw [g1.ord, if_pos rfl, g2] at this
                    rw [← HS.out]
                    exact this
                  rw [hE] at cT
                  rw [g4, g5] at cA
                  have hcs : ((bytesOf (comesZ (u : Int) rs q)).size : Int) = C1 (comesZ (u : Int) rs q) := by rw [C1_len]; simp [bytesOf, ByteArray.size]
                  have HG3 : Hid (∀ r ∈ comesZ (u : Int) rs q, isRune r) := g3
                  generalize (tzO rs (u : Int) 1 q) = TO at *
                  generalize (comesZ (u : Int) rs q) = CZ at *
                  clear g1 g2 g3 g4 g5 g6 g7 g8 hones hpu hCl hbd hwt hlt2 hE
                  by_cases h8 : C1 CZ ≤ 8000
                  case pos =>
                    rw [if_pos h8, if_pos h8, errV_0] at cA
                    have cB2 : Hid (∀ wx, Below w.heap.size w wx → Calls Tryz.prog 13 #[.nilIface, .int .i64 0] wx fun e w' => e = .returned (.bool true) ∧ Below wx.heap.size wx w') := cB.out 0
                    have h8' : ¬ (8000 : Int) < ((bytesOf CZ).size : Int) := by omega
                    have H8 : Hid (C1 CZ ≤ 8000) := h8
                    obtain ⟨S2, hS2⟩ : ∃ S2, bytesOf CZ = S2 := ⟨_, rfl⟩
                    rw [hS2] at cR hcs h8'
                    have HS2 : Hid (bytesOf CZ = S2) := hS2
                    clear hS2 cB h8 hcs
                    go_wp2_with (first
                      | (go_at_call 27; refine (cF.out _ HBR.out).mono ?_; rintro e w3 ⟨rfl, hb3⟩; have HB3 : Hid (Below wr.heap.size wr w3) := hb3; have hvr3 := (hb3.cell (p := ⟨b0, o + k, none⟩) (World.block_lt_of_cell? wr _ hvr)).trans hvr; clear hb3)
                      | (go_at_call 10; refine (cT.out _ (HBR.out.trans (HB3.out.mono HBR.out.size))).mono ?_; rintro e w4 ⟨p2, c2, rfl, ho4, hb4⟩; have HO4 : Hid _ := ho4; have HB4 : Hid (Below wr.heap.size wr w4) := HB3.out.trans (hb4.mono HB3.out.size); have hvr4 := (HB4.out.cell (p := ⟨b0, o + k, none⟩) (World.block_lt_of_cell? wr _ hvr)).trans hvr; clear hb4 ho4)
                      | (go_at_call 28; refine (cR.out _ _ _ HO4.out).mono ?_; rintro e w5 ⟨rfl, hb5⟩; have HB5 : Hid (Below wr.heap.size wr w5) := HB4.out.trans (hb5.mono HB4.out.size); have hvr5 := (HB5.out.cell (p := ⟨b0, o + k, none⟩) (World.block_lt_of_cell? wr _ hvr)).trans hvr; clear hb5)
                      | (go_at_call 22; refine (cA.out _ (HBR.out.trans (HB5.out.mono HBR.out.size)) (isShape_below HSH.out HB5.out)).mono ?_; rintro e w6 ⟨rfl, hs6, hb6⟩; have HS6 : Hid (isShape w6 b u CZ) := hs6; have HB6 : Hid (Below w.heap.size w w6) := (HBR.out.trans (HB5.out.mono HBR.out.size)).trans (hb6.mono HFB.out.2); clear hb6 hs6)
                      | (go_at_call 13; refine (cB2.out _ HB6.out).mono ?_; rintro e w7 ⟨rfl, hb7⟩; have HB7 : Hid (Below w.heap.size w w7) := HB6.out.trans (hb7.mono HB6.out.size); have HS7 : Hid (isShape w7 b u CZ) := isShape_below HS6.out hb7; clear hb7)
                      | fail)
                    go_meet
                    case rel => exact ⟨CZ, by rw [HS2.out], HS7.out, HG3.out, H8.out, HB7.out⟩
                  case neg =>
                    rw [if_neg h8, if_neg h8] at cA
                    have cB2 : Hid (∀ wx, Below w.heap.size w wx → Calls Tryz.prog 13 #[errV 12, .int .i64 12] wx fun e w' => e = .returned (.bool true) ∧ Below wx.heap.size wx w') := cB.out 12
                    have h8' : (8000 : Int) < ((bytesOf CZ).size : Int) := by omega
                    obtain ⟨S2, hS2⟩ : ∃ S2, bytesOf CZ = S2 := ⟨_, rfl⟩
                    rw [hS2] at cR hcs h8'
                    obtain ⟨V, hV⟩ : ∃ V, errV 12 = V := ⟨_, rfl⟩
                    rw [hV] at cA cB2
                    clear hS2 cB h8 hcs hV
                    go_wp2_with (first
                      | (go_at_call 27; refine (cF.out _ HBR.out).mono ?_; rintro e w3 ⟨rfl, hb3⟩; have HB3 : Hid (Below wr.heap.size wr w3) := hb3; have hvr3 := (hb3.cell (p := ⟨b0, o + k, none⟩) (World.block_lt_of_cell? wr _ hvr)).trans hvr; clear hb3)
                      | (go_at_call 10; refine (cT.out _ (HBR.out.trans (HB3.out.mono HBR.out.size))).mono ?_; rintro e w4 ⟨p2, c2, rfl, ho4, hb4⟩; have HO4 : Hid _ := ho4; have HB4 : Hid (Below wr.heap.size wr w4) := HB3.out.trans (hb4.mono HB3.out.size); have hvr4 := (HB4.out.cell (p := ⟨b0, o + k, none⟩) (World.block_lt_of_cell? wr _ hvr)).trans hvr; clear hb4 ho4)
                      | (go_at_call 28; refine (cR.out _ _ _ HO4.out).mono ?_; rintro e w5 ⟨rfl, hb5⟩; have HB5 : Hid (Below wr.heap.size wr w5) := HB4.out.trans (hb5.mono HB4.out.size); have hvr5 := (HB5.out.cell (p := ⟨b0, o + k, none⟩) (World.block_lt_of_cell? wr _ hvr)).trans hvr; clear hb5)
                      | (go_at_call 22; refine (cA.out _ (HBR.out.trans (HB5.out.mono HBR.out.size)) (isShape_below HSH.out HB5.out)).mono ?_; rintro e w6 ⟨rfl, hs6, hb6⟩; have HS6 : Hid (isShape w6 b u rs) := hs6; have HB6 : Hid (Below w.heap.size w w6) := (HBR.out.trans (HB5.out.mono HBR.out.size)).trans (hb6.mono HFB.out.2); clear hb6 hs6)
                      | (go_at_call 13; refine (cB2.out _ HB6.out).mono ?_; rintro e w7 ⟨rfl, hb7⟩; have HB7 : Hid (Below w.heap.size w w7) := HB6.out.trans (hb7.mono HB6.out.size); have HS7 : Hid (isShape w7 b u rs) := isShape_below HS6.out hb7; clear hb7)
                      | fail)
                    go_meet
                    case rel => exact ⟨rs, by rw [HS.out], HS7.out, HR.out, HZ.out, HB7.out⟩
      case rest =>
        obtain ⟨rs2, rfl, hsh2, hR2, hz2, hbw2⟩ := hcut
        clear HSH HR HZ HBR
        have HSH : Hid (isShape wc b u rs2) := hsh2
        have HR : Hid (∀ r ∈ rs2, isRune r) := hR2
        have HZ : Hid (C1 rs2 ≤ 8000) := hz2
        have HBR : Hid (Below w.heap.size w wc) := hbw2
        clear hsh2 hR2 hz2 hbw2
        obtain ⟨S, hS⟩ : ∃ S, bytesOf rs2 = S := ⟨_, rfl⟩
        have cCr : Hid (∀ wx, Calls Tryz.prog 8 #[.string S] wx fun e w' => e = .returned (.tuple #[.agg #[.int .i64 (C1 rs2), .int .i64 (C2 rs2), .int .i64 (C3 rs2), .int .i64 (C4 rs2)], .agg #[.int .i64 0, .int .i64 (-1)]]) ∧ Below wx.heap.size wx w') := fun wx => hS ▸ cC.out rs2 wx HR.out HZ.out
        have cTr : Hid (∀ wx, Below wc.heap.size wc wx → Calls Tryz.prog 24 #[.pointer (some ⟨b, 0, none⟩)] wx fun e w' => e = .returned (.string S) ∧ Below wx.heap.size wx w') := fun wx hb => hS ▸ cTx.out b rs2 wx (HBR.out.trans (hb.mono HBR.out.size)) (isShape_below HSH.out hb) HR.out HZ.out
        have HS : Hid (bytesOf rs2 = S) := hS
        rw [hS]
        clear hS
        go_wp2_with (first
          | (go_at_call 8; refine (cCr.out _).mono ?_; rintro e w2 ⟨rfl, hb2⟩; have HB2 : Hid (Below wc.heap.size wc w2) := hb2; have HZ2 : Hid (wc.heap.size ≤ w2.heap.size) := hb2.size; clear hb2)
          | fail)
        obtain ⟨β, hβ⟩ : ∃ β, w2.heap.size = β := ⟨_, rfl⟩
        obtain ⟨X, hX⟩ : ∃ X, X = ((w2.alloc (.cells #[.int .i64 (C1 rs2), .int .i64 (C2 rs2), .int .i64 (C3 rs2), .int .i64 (C4 rs2)] 25)).alloc (.cells #[.int .i64 0, .int .i64 (-1)] 28)) := ⟨_, rfl⟩
        have HX : Hid (Below wc.heap.size wc X) := by rw [hX]; exact (HB2.out.alloc HB2.out.size _).alloc (Nat.le_trans HB2.out.size (by simp)) _
        have y0 : X.cell? ⟨β, 0, none⟩ = some (.int .i64 (C1 rs2)) := by rw [hX, ← hβ]; exact cellsCnt _ _ _ _ _ _ 0 _ 0 _ rfl
        have y1 : X.cell? ⟨β, 1, none⟩ = some (.int .i64 (C2 rs2)) := by rw [hX, ← hβ]; exact cellsCnt _ _ _ _ _ _ 0 _ 1 _ rfl
        have y2 : X.cell? ⟨β, 2, none⟩ = some (.int .i64 (C3 rs2)) := by rw [hX, ← hβ]; exact cellsCnt _ _ _ _ _ _ 0 _ 2 _ rfl
        have y3 : X.cell? ⟨β, 3, none⟩ = some (.int .i64 (C4 rs2)) := by rw [hX, ← hβ]; exact cellsCnt _ _ _ _ _ _ 0 _ 3 _ rfl
        rw [← hX, hβ]
        have hβX : β < X.heap.size := World.block_lt_of_cell? X _ y0
        have HBX : Hid (β < X.heap.size) := hβX
        clear hX hβ
        go_region_with (first
          | (go_at_call 24; refine (cTr.out _ (by first | exact HX.out.drew | exact HX.out)).mono ?_; rintro e w3 ⟨rfl, hb3⟩; have HB3 : Hid (Below X.heap.size X w3) := (by first | exact hb3 | exact (Below.refl _ X).drew.trans hb3)
             have z0 := (HB3.out.cell (p := ⟨β, 0, none⟩) HBX.out).trans y0
             have z1 := (HB3.out.cell (p := ⟨β, 1, none⟩) HBX.out).trans y1
             have z2 := (HB3.out.cell (p := ⟨β, 2, none⟩) HBX.out).trans y2
             have z3 := (HB3.out.cell (p := ⟨β, 3, none⟩) HBX.out).trans y3
             have HX3 : Hid (Below wc.heap.size wc w3) := HX.out.trans (HB3.out.mono HX.out.size)
             clear hb3)
          | (go_at_call 29; refine (cL.out b rs2 _ (by first | exact isShape_below HSH.out HX3.out | exact isShape_below HSH.out HX3.out.drew)).mono ?_; rintro e w4 ⟨rfl, hw4⟩; obtain rfl := hw4.symm)
          | (go_at_call 30; refine (cI.out rs2 _ HZ.out).mono ?_; rintro e w5 ⟨rfl, hb5⟩; have HX5 : Hid (Below wc.heap.size wc w5) := (by first | exact HX3.out.trans (hb5.mono HX3.out.size) | exact HX3.out.drew.trans (hb5.mono HX3.out.size)); clear hb5)
          | (go_at_call 31; refine (cU.out b rs2 _ (by first | exact isShape_below HSH.out HX5.out | exact isShape_below HSH.out HX5.out.drew)).mono ?_; rintro e w6 ⟨rfl, hw6⟩; obtain rfl := hw6.symm)
          | fail)
        all_goals
          go_wp2
          refine ⟨⟨x + 1, by go_num, by omega, rs2, by rw [HS.out], isShape_below HSH.out HX5.out, HR.out, HZ.out, HBR.out.trans (HX5.out.mono HBR.out.size)⟩, by simp [intOf]; omega⟩
end Go.Proofs.YtldhbjmillfjgabGreatDoor
