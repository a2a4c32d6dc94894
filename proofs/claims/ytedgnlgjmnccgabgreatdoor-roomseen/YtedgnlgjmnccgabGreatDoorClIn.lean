/-
  client.inBytes: an operation that counts in a unit, over a text, in bytes.
-/
import Derived.Test.YtedgnlgjmnccgabGreatDoorClHead
import Derived.Test.YtedgnlgjmnccgabGreatDoorClMuch
import Derived.Test.YtedgnlgjmnccgabGreatDoorBridgeAll
namespace Go.Proofs.YtedgnlgjmnccgabGreatDoor
open Go.RowKit
set_option linter.unusedVariables false
attribute [local go_sem] Oper.semAt_some

theorem rest_bytes {u : Int} (hu : unitOk u) {R : List Nat} {n : Int} (h1 : n ≤ by_ u R) (he : onEdge R u n = true) :
    ∃ N : Nat, by_ 1 (upTo R u n) = (N : Int) ∧ N ≤ (bytesOf R).size ∧ (bytesOf R).extract N (bytesOf R).size = bytesOf (restZ u R n) := by
  obtain ⟨e1, e2⟩ := edge_at hu h1 he
  have e3 : encs R = encs (upTo R u n) ++ encs (restZ u R n) := by rw [← encs_append]; exact congrArg _ e1
  refine ⟨(encs (upTo R u n)).length, ?_, ?_, ?_⟩
  · unfold by_; rw [if_pos rfl, C1_len]
  · rw [bytesOf_size, e3, List.length_append]; omega
  · apply ByteArray.ext
    apply Array.ext'
    rw [Lib.extract_to_end, bytesOf_list, bytesOf_list, e3, List.drop_left' rfl]
theorem rest_C1 {u : Int} {R : List Nat} {n : Int} : C1 (restZ u R n) ≤ C1 R := by
  have e : R = R.take (upTo R u n).length ++ restZ u R n := (List.take_append_drop _ R).symm
  have h : C1 R = C1 (R.take (upTo R u n).length) + C1 (restZ u R n) := by rw [← C1_append]; exact congrArg _ e
  have := C1_pos (R.take (upTo R u n).length)
  omega
theorem okZ_cons (u : Int) (R : List Nat) (q : Pt) (qs : List Pt) : okZ u R (q :: qs) = (onEdge R u (lenP q) && okZ u (restZ u R (lenP q)) qs) := rfl
theorem inZ_cons (u v : Int) (R : List Nat) (q : Pt) (qs : List Pt) : inZ u v R (q :: qs) = unit1 (by_ v (upTo R u (lenP q))) q :: inZ u v (restZ u R (lenP q)) qs := rfl
/-- Where the loop stands. -/
structure inI (w : World) (u : Int) (rs : List Nat) (qs : List Pt) (k : Nat) (R : List Nat) (L : List Pt) (v : Value) (wr : World) : Prop where
  le : k ≤ qs.length
  len : L.length = k
  own : wr.ownsRow w.heap.size 50 3 v k (cellsP L)
  ok : okZ u rs qs = okZ u R (qs.drop k)
  out : inZ u 1 rs qs = L ++ inZ u 1 R (qs.drop k)
  long : longP (qs.drop k) = by_ u R
  rune : ∀ r ∈ R, isRune r
  few : C1 R ≤ 1000000
  low : Below w.heap.size w wr

set_option maxRecDepth 100000 in
set_option maxHeartbeats 2000000 in
theorem inB_chk (rs : List Nat) (hr : ∀ r ∈ rs, isRune r) (hz : C1 rs ≤ 1000000) (u : Int) (qs : List Pt) (val : Value) (w : World) (hu : unitOk u) (hT : Lib.Utf8Tabs 2 3 w) (ho : opAt w val qs) (hwf : ∀ q ∈ qs, wfP q) (hl : qs.length ≤ 1000) (hc : chkE qs (by_ u rs) ≠ 0) :
    Calls Tryz.prog 119 #[val, .int .i64 u, .string (bytesOf rs)] w fun e w' => e = .returned (.tuple #[.slice none 0 0, errV (chkE qs (by_ u rs))]) ∧ Below w.heap.size w w' := by
  have hby := by_small rs hz u
  have hup := by_pos u rs
  have cC : Hid _ := count_of rs hr (by omega) w hT
  have cI : Hid (∀ wx, Calls Tryz.prog 23 #[cntV rs, .int .i64 u] wx fun e w' => e = .returned (.int .i64 (by_ u rs)) ∧ Below wx.heap.size wx w') := fun wx => In_any u rs wx
  have hV : errV (chkE qs (by_ u rs)) = .iface 26 (.int .i64 (chkE qs (by_ u rs))) := by unfold errV; rw [if_neg hc]
  have cK : Hid (∀ wx, Below w.heap.size w wx → Calls Tryz.prog 92 #[val, .int .i64 (by_ u rs)] wx fun e w' => e = .returned (.iface 26 (.int .i64 (chkE qs (by_ u rs)))) ∧ Below wx.heap.size wx w') := fun wx hb => by
    have := Check_any val qs (by_ u rs) wx (Go.Proofs.Utf8Tabs_below hT hb) (opAt_below ho hb (Nat.le_refl _)) hwf (by omega) (by omega)
    rw [hV] at this
    exact this
  rw [hV]
  obtain ⟨p, c, rfl, _⟩ := ho
  generalize chkE qs (by_ u rs) = E at *
  generalize by_ u rs = Bu at *
  unfold cntV at cI
  clear hT hwf hc hV hu hz hby hup hr
  generalize hS : bytesOf rs = S at *
  clear hS
  go_enter Tryz.func119, Tryz.ntmps119
  go_wp2_with (first
    | (go_at_call 78; refine Calls.mono cC.out ?_; rintro e w1 ⟨rfl, hb1⟩; have HB1 : Hid (Below w.heap.size w (w1.alloc (.cells #[.int .i64 (C1 rs), .int .i64 (C2 rs), .int .i64 (C3 rs), .int .i64 (C4 rs)] 25))) := hb1.alloc hb1.size _; clear hb1)
    | (go_at_call 23; refine (cI.out _).mono ?_; rintro e w3 ⟨rfl, hb3⟩; have HB3 : Hid (Below w.heap.size w w3) := HB1.out.trans (hb3.mono HB1.out.size); clear hb3)
    | (go_at_call 92; refine (cK.out _ HB3.out).mono ?_; rintro e w4 ⟨rfl, hb4⟩; have HB4 : Hid (Below w.heap.size w w4) := HB3.out.trans (hb4.mono HB3.out.size); clear hb4)
    | fail)
  go_ret2
  exact ⟨rfl, HB4.out⟩
set_option maxRecDepth 100000 in
set_option maxHeartbeats 4000000 in
theorem inB_fine (rs : List Nat) (hr : ∀ r ∈ rs, isRune r) (hz : C1 rs ≤ 1000000) (u : Int) (qs : List Pt) (val : Value) (w : World) (hu : unitOk u) (hT : Lib.Utf8Tabs 2 3 w) (ho : opAt w val qs) (hwf : ∀ q ∈ qs, wfP q) (hpl : ∀ q ∈ qs, q.put.length ≤ 1000000) (hl : qs.length ≤ 1000) (hc : chkE qs (by_ u rs) = 0) :
    Calls Tryz.prog 119 #[val, .int .i64 u, .string (bytesOf rs)] w fun e w' => ∃ v', e = .returned (.tuple #[v', errV (if okZ u rs qs then 0 else 10)]) ∧ opN w.heap.size w' v' (if okZ u rs qs then inZ u 1 rs qs else []) ∧ Below w.heap.size w w' := by
  have hby := by_small rs hz u
  have hup := by_pos u rs
  obtain ⟨hp1, hp2, hp3⟩ := chkE_parts hc
  have cC : Hid _ := count_of rs hr (by omega) w hT
  have cI : Hid (∀ wx, Calls Tryz.prog 23 #[cntV rs, .int .i64 u] wx fun e w' => e = .returned (.int .i64 (by_ u rs)) ∧ Below wx.heap.size wx w') := fun wx => In_any u rs wx
  have cK : Hid (∀ wx, Below w.heap.size w wx → Calls Tryz.prog 92 #[val, .int .i64 (by_ u rs)] wx fun e w' => e = .returned .nilIface ∧ Below wx.heap.size wx w') := fun wx hb => by
    have := Check_any val qs (by_ u rs) wx (Go.Proofs.Utf8Tabs_below hT hb) (opAt_below ho hb (Nat.le_refl _)) hwf (by omega) (by omega)
    rw [hc] at this
    exact this
  have HOP : Hid (opAt w val qs) := ho
  have HT : Hid (Lib.Utf8Tabs 2 3 w) := hT
  have HP1 : Hid (∀ p ∈ qs, oneB p = true ∧ (scan p.put).2 = true) := hp1
  have HP3 : Hid (∀ q ∈ qs, 0 ≤ lenP q) := hp3
  have HPL : Hid (∀ q ∈ qs, q.put.length ≤ 1000000) := hpl
  have HU : Hid (unitOk u) := hu
  have H0 : Hid (inI w u rs qs 0 rs [] (.slice none 0 0) w) := ⟨Nat.zero_le _, rfl, World.ownsRow_nil _ _ _ _, rfl, rfl, hp2, hr, hz, Below.refl _ _⟩
  obtain ⟨p, c, rfl, r1, r2, r3⟩ := ho
  obtain ⟨n, hn⟩ : ∃ n, qs.length = n := ⟨_, rfl⟩
  have HN : Hid (qs.length = n) := hn
  rw [hn] at r1 hl cK ⊢
  obtain ⟨i0, hi, hz0, hz1, hz2⟩ := info_parts info_part
  have HI : Hid _ := hi
  have HZ0 : Hid _ := hz0
  have HZ1 : Hid _ := hz1
  have HZ2 : Hid _ := hz2
  generalize by_ u rs = Bu at *
  unfold cntV at cI
  obtain ⟨EV, hEV⟩ : ∃ EV, errV (if okZ u rs qs then 0 else 10) = EV := ⟨_, rfl⟩
  obtain ⟨OP, hOP⟩ : ∃ OP, (if okZ u rs qs then inZ u 1 rs qs else []) = OP := ⟨_, rfl⟩
  have HEV : Hid (EV = errV (if okZ u rs qs then 0 else 10)) := hEV.symm
  have HOPV : Hid (OP = if okZ u rs qs then inZ u 1 rs qs else []) := hOP.symm
  rw [hEV, hOP]
  clear hEV hOP
  obtain ⟨S, hS⟩ : ∃ S, bytesOf rs = S := ⟨_, rfl⟩
  have HS : Hid (S = bytesOf rs) := hS.symm
  rw [hS] at cC ⊢
  clear hT hwf hpl hp1 hp2 hp3 hc hn r3 hS hu hz hby hup hr hi hz0 hz1 hz2
  unfold maxLen at r2
  go_enter Tryz.func119, Tryz.ntmps119
  go_wp2_with (first
    | (go_at_call 78; refine Calls.mono cC.out ?_; rintro e w1 ⟨rfl, hb1⟩; have HB1 : Hid (Below w.heap.size w (w1.alloc (.cells #[.int .i64 (C1 rs), .int .i64 (C2 rs), .int .i64 (C3 rs), .int .i64 (C4 rs)] 25))) := hb1.alloc hb1.size _; clear hb1)
    | (go_at_call 23; refine (cI.out _).mono ?_; rintro e w3 ⟨rfl, hb3⟩; have HB3 : Hid (Below w.heap.size w w3) := HB1.out.trans (hb3.mono HB1.out.size); clear hb3)
    | (go_at_call 92; refine (cK.out _ HB3.out).mono ?_; rintro e w4 ⟨rfl, hb4⟩; have HB4 : Hid (Below w.heap.size w w4) := HB3.out.trans (hb4.mono HB3.out.size); clear hb4)
    | fail)
  have H4 : Hid (inI w u rs qs 0 rs [] (.slice none 0 0) w4) := ⟨Nat.zero_le _, rfl, World.ownsRow_nil _ _ _ _, rfl, rfl, H0.out.long, H0.out.rune, H0.out.few, HB4.out⟩
  have hni : (n : Int) ≤ 1000 := by omega
  clear cC cI cK H0 HB1 HB3
  go_loopw [2, 11, 34] (fun v2 v11 i wr => ∃ (k : Nat) (R : List Nat) (L : List Pt), i = .int .i64 k ∧ v2 = .string (bytesOf R) ∧ inI w u rs qs k R L v11 wr) (fun _ _ i _ => n - (intOf i).toNat)
  case atStart => exact ⟨0, rs, [], rfl, by rw [HS.out], H4.out⟩
  case round =>
    obtain ⟨k, R, L, rfl, rfl, hI⟩ := hrel
    have HI1 : Hid _ := hI
    have hk : k ≤ n := by have := HN.out; have := hI.le; omega
    have hown := hI.own
    obtain ⟨pv, cv, rfl⟩ := own_slice hown
    clear H4 HS
    by_cases hlt : k < n
    · have hkr : k < qs.length := by rw [HN.out]; exact hlt
      have hne : qs ≠ [] := by intro e; rw [e] at hkr; exact absurd hkr (Nat.not_lt_zero _)
      obtain ⟨p0, c0, hvv, _, _, hcell⟩ := HOP.out
      obtain ⟨b0, o, rfl, hb0, hcell⟩ := hcell hne
      obtain ⟨f0, f1, f2⟩ := hcell k qs[k] (List.getElem?_eq_getElem hkr)
      have g0 := (hI.low.cell (p := ⟨b0, o + k * 3, none⟩) hb0).trans f0
      have g1 := (hI.low.cell (p := ⟨b0, o + k * 3 + 1, none⟩) hb0).trans f1
      have g2 := (hI.low.cell (p := ⟨b0, o + k * 3 + 2, none⟩) hb0).trans f2
      obtain rfl : p = some ⟨b0, o, none⟩ := by injection hvv
      have hqm : qs[k] ∈ qs := List.getElem_mem _
      have hsnd := (one_sound (HP1.out _ hqm).1).1
      have hplq := HPL.out _ hqm
      have hdk : qs.drop k = qs[k] :: qs.drop (k + 1) := List.drop_eq_getElem_cons hkr
      have hlong := hI.long
      rw [hdk] at hlong
      have hl2 : longP (qs[k] :: qs.drop (k + 1)) = lenP qs[k] + longP (qs.drop (k + 1)) := long_cons _ _
      have hrest := sum_pos fun q hq => HP3.out q (List.mem_of_mem_drop (i := k + 1) hq)
      have hok := hI.ok
      have hout := hI.out
      rw [hdk, okZ_cons] at hok
      rw [hdk, inZ_cons] at hout
      have hle : lenP qs[k] ≤ by_ u R := by omega
      have CH := fun (wx : World) (hb : Below w.heap.size w wx) => head_any R hI.rune (by have := hI.few; omega) u (lenP qs[k]) HU.out hle wx (Go.Proofs.Utf8Tabs_below HT.out hb)
      have HLR : Hid (longP (qs.drop (k + 1)) = by_ u R - lenP qs[k]) := by show _ = _; omega
      have hbs := by_small R hI.few u
      have HLE : Hid (lenP qs[k] ≤ by_ u R) := hle
      clear hcell hvv f0 f1 f2 hne hqm hl2 hrest hlong hdk
      generalize qs[k] = q at *
      obtain ⟨K, D, U⟩ := q
      obtain ⟨s1, s2⟩ := hsnd
      have s1 : 0 ≤ K := s1
      have s2 : 0 ≤ D := s2
      have hld : lenP ⟨K, D, U⟩ = K + D := rfl
      rw [hld] at CH hok hout HLR HLE hle
      have hw0 : IntKind.i64.wrap (K + D) = K + D := by rw [IntKind.wrap_i64]; omega
      have hj : (k : Int) < (n : Int) := by omega
      obtain ⟨β, hβ⟩ : ∃ β, wr.heap.size = β := ⟨_, rfl⟩
      have HBT : Hid (wr.heap.size = β) := hβ
      have HOW : Hid (wr.ownsRow w.heap.size 50 3 (.slice pv k cv) k (cellsP L)) := hown
      have HBW : Hid (Below w.heap.size w wr) := hI.low
      have HLL : Hid (L.length = k) := hI.len
      have HRN : Hid (∀ r ∈ R, isRune r) := hI.rune
      have HFW : Hid (C1 R ≤ 1000000) := hI.few
      clear hI hown HI1
      by_cases hed : onEdge R u (K + D) = true
      · obtain ⟨N1, e1, e2, e3⟩ := rest_bytes HU.out hle hed
        have HED : Hid (onEdge R u (K + D) = true) := hed
        rw [e1] at hout
        rw [hed, Bool.true_and] at hok
        rw [hed, e1] at CH
        obtain ⟨X, hX⟩ : ∃ X, bytesOf R = X := ⟨_, rfl⟩
        obtain ⟨X2, hX2⟩ : ∃ X2, bytesOf (restZ u R (K + D)) = X2 := ⟨_, rfl⟩
        rw [hX, hX2] at e3
        rw [hX] at e2 CH ⊢
        have HX2 : Hid (bytesOf (restZ u R (K + D)) = X2) := hX2
        have HE3 : Hid (X.extract N1 X.size = X2) := e3
        have hni1 : (N1 : Int) ≤ (X.size : Int) := by omega
        have hxs : (X.size : Int) ≤ 1000000 := by rw [← hX, bytesOf_size]; have := HFW.out; rw [C1_len] at this; exact this
        have HCH : Hid (∀ wx, Below w.heap.size w wx → Calls Tryz.prog 180 #[.string X, .int .i64 u, .int .i64 (K + D)] wx fun e w' => e = .returned (.tuple #[.int .i64 (N1 : Int), .bool true]) ∧ Below wx.heap.size wx w') := CH
        have CS : Hid (∀ wx, Calls Tryz.prog 181 #[.agg #[.int .i64 K, .int .i64 D, .string ⟨U.toArray⟩], .int .i64 (N1 : Int)] wx fun e w' => e = .returned (ptV (unit1 N1 ⟨K, D, U⟩)) ∧ Below wx.heap.size wx w') := fun wx => sized_any ⟨K, D, U⟩ N1 wx hplq
        generalize hQ : unit1 (N1 : Int) ⟨K, D, U⟩ = Q1 at *
        have HOK : Hid (okZ u rs qs = okZ u (restZ u R (K + D)) (qs.drop (k + 1))) := hok
        have HOUT : Hid (inZ u 1 rs qs = (L ++ [Q1]) ++ inZ u 1 (restZ u R (K + D)) (qs.drop (k + 1))) := by show _ = _; rw [hout]; simp
        obtain ⟨QK, QD, QU⟩ := Q1
        unfold ptV at CS
        simp only at CS
        have HLE2 : Hid (K + D ≤ by_ u R) := hle
        clear hed e1 e3 hX hX2 CH hok hout hplq hQ hle hbs HLE
        go_wp2_with (first
          | (go_at_call 180; refine (HCH.out _ (HBW.out.alloc HBW.out.size _)).mono ?_; rintro e w5 ⟨rfl, hb5⟩
             have hbox : w5.heap[β]? = some (.cells #[.int .i64 K, .int .i64 D, .string ⟨U.toArray⟩] 50 (0, 0)) := (hb5.block β (by rw [World.size_alloc, HBT.out]; omega)).trans (by have := heap_alloc_new wr (.cells #[.int .i64 K, .int .i64 D, .string ⟨U.toArray⟩] 50); rwa [HBT.out] at this)
             have y0 : w5.cell? ⟨β, 0, none⟩ = some (.int .i64 K) := Lib.cell_of_heap hbox 0
             have y1 : w5.cell? ⟨β, 1, none⟩ = some (.int .i64 D) := Lib.cell_of_heap hbox 1
             have y2 : w5.cell? ⟨β, 2, none⟩ = some (.string ⟨U.toArray⟩) := Lib.cell_of_heap hbox 2
             have HB5 : Hid (Below w.heap.size w w5) := (HBW.out.alloc HBW.out.size _).trans (hb5.mono (by rw [World.size_alloc]; have := HBW.out.size; omega))
             have HO5 : Hid (w5.ownsRow w.heap.size 50 3 (.slice pv k cv) k (cellsP L)) := own_below (HOW.out.alloc _) hb5
             clear hb5 hbox)
          | (go_at_call 181; refine (CS.out _).mono ?_; rintro e w6 ⟨rfl, hb6⟩
             have HB6 : Hid (Below w.heap.size w w6) := HB5.out.trans (hb6.mono HB5.out.size)
             have HO6 : Hid (w6.ownsRow w.heap.size 50 3 (.slice pv k cv) k (cellsP L)) := own_below HO5.out hb6
             have hs6 : w.heap.size ≤ w6.heap.size := HB6.out.size
             clear hb6)
          | (at_builtin; refine wpList_append_own _ rfl _ _ 23 rfl w.heap.size 50 i0 (.agg #[.int .i64 0, .int .i64 0, .string ⟨#[]⟩]) 3 32 Tryz.underlying23 HI.out HZ0.out HZ1.out HZ2.out rfl (by decide) _ _ _ rfl (HO6.out.alloc _) ⟨w6.heap.size, 0, none⟩ 1 1 (partCells ⟨QK, QD, QU⟩) rfl rfl (cells_newN _ _ (by first | rfl | simp) _ _) (partCells_one _) (by unfold maxLen; omega) (by omega) (by first | omega | (simp; omega)) ?_)
          | fail)
        intro v' w' hown' hg' _
        obtain ⟨p', c', rfl⟩ := own_slice hown'
        have HB9 : Hid (Below w.heap.size w w') := (HB6.out.alloc HB6.out.size _).grown hg' (by simp; omega) fun j hj => (HO6.out.lt j hj).1
        have HO9 : Hid (w'.ownsRow w.heap.size 50 3 (.slice p' (k + 1) c') (k + 1) (cellsP L ++ partCells ⟨QK, QD, QU⟩)) := hown'
        have HLT : Hid (k < n) := hlt
        clear hown' hg'
        go_wp2
        go_roundw
        case rel =>
          obtain ⟨q1, q2⟩ := edge_at HU.out HLE2.out HED.out
          have q3 : by_ u R = by_ u (upTo R u (K + D)) + by_ u (restZ u R (K + D)) := by rw [← by_append]; exact congrArg _ q1
          refine ⟨k + 1, restZ u R (K + D), L ++ [⟨QK, QD, QU⟩], by go_num, by rw [HE3.out, HX2.out], ⟨by have := HN.out; have := HLT.out; omega, by rw [List.length_append, HLL.out]; rfl, ?_, HOK.out, HOUT.out, ?_, rest_rune HRN.out, Int.le_trans rest_C1 HFW.out, HB9.out⟩⟩
          · rw [cellsP_snoc]; exact HO9.out
          · have := HLR.out; omega
        case measure => have := HLT.out; simp [intOf]; omega
      · have hed : onEdge R u (K + D) = false := Bool.eq_false_iff.2 hed
        rw [hed] at CH hok
        rw [Bool.false_and] at hok
        have HOK : Hid (okZ u rs qs = false) := hok
        obtain ⟨M1, hM1⟩ : ∃ M1, by_ 1 (upTo R u (K + D)) = M1 := ⟨_, rfl⟩
        rw [hM1] at CH
        have HCH : Hid (∀ wx, Below w.heap.size w wx → Calls Tryz.prog 180 #[.string (bytesOf R), .int .i64 u, .int .i64 (K + D)] wx fun e w' => e = .returned (.tuple #[.int .i64 M1, .bool false]) ∧ Below wx.heap.size wx w') := CH
        clear hed hM1 CH hok hout hplq hle hbs HLE
        generalize bytesOf R = X at *
        go_wp2_with (first
          | (go_at_call 180; refine (HCH.out _ (HBW.out.alloc HBW.out.size _)).mono ?_; rintro e w5 ⟨rfl, hb5⟩; have HB5 : Hid (Below w.heap.size w w5) := (HBW.out.alloc HBW.out.size _).trans (hb5.mono (by rw [World.size_alloc]; have := HBW.out.size; omega)); clear hb5)
          | fail)
        go_ret2
        refine ⟨.slice none 0 0, ?_, ?_, HB5.out⟩
        · rw [HEV.out, HOK.out]; rfl
        · rw [HOPV.out, HOK.out]; exact opN_none _ _
    · obtain rfl : k = n := by omega
      have e : qs.drop k = [] := List.drop_of_length_le (by rw [HN.out]; exact Nat.le_refl _)
      have hok := hI.ok
      have hout := hI.out
      rw [e] at hok hout
      have HOK : Hid (okZ u rs qs = true) := hok
      have HOUT : Hid (inZ u 1 rs qs = L) := hout.trans (by simp [inZ])
      have HOW : Hid (wr.ownsRow w.heap.size 50 3 (.slice pv k cv) k (cellsP L)) := hown
      have HBW : Hid (Below w.heap.size w wr) := hI.low
      have HLL : Hid (L.length = k) := hI.len
      have hj : ¬ ((k : Int) < (k : Int)) := by omega
      clear hI HI1 e hok hout hown
      generalize bytesOf R = X at *
      go_wp2
      go_ret2
      refine ⟨.slice pv k cv, ?_, ?_, HBW.out⟩
      · rw [HEV.out, HOK.out]; rfl
      · rw [HOPV.out, HOK.out, if_pos rfl, HOUT.out]
        have := HOW.out
        rw [← HLL.out] at this ⊢
        exact opN_own (Nat.le_refl _) this
theorem inBytes_any (rs : List Nat) (hr : ∀ r ∈ rs, isRune r) (hz : C1 rs ≤ 1000000) (u : Int) (qs : List Pt) (val : Value) (w : World) (hu : unitOk u) (hT : Lib.Utf8Tabs 2 3 w) (ho : opAt w val qs) (hwf : ∀ q ∈ qs, wfP q) (hpl : ∀ q ∈ qs, q.put.length ≤ 1000000) (hl : qs.length ≤ 1000) :
    Calls Tryz.prog 119 #[val, .int .i64 u, .string (bytesOf rs)] w fun e w' => ∃ v', e = .returned (.tuple #[v', errV (tzE rs u 1 qs)]) ∧ opN w.heap.size w' v' (tzO rs u 1 qs) ∧ Below w.heap.size w w' := by
  have h1 : (uB u && uB 1) = true := by rw [(uB_iff u).2 hu, (uB_iff 1).2 (.inl rfl)]; rfl
  unfold tzE tzO
  rw [h1, if_pos rfl, if_pos rfl]
  by_cases hc : chkE qs (by_ u rs) = 0
  · rw [if_pos hc, if_pos hc]
    obtain ⟨_, h2, h3⟩ := chkE_parts hc
    obtain ⟨t1, t2⟩ := turn_in hu 1 qs rs h3 (Int.le_of_eq h2)
    rw [t1, t2]
    exact inB_fine rs hr hz u qs val w hu hT ho hwf hpl hl hc
  · rw [if_neg hc, if_neg hc]
    exact (inB_chk rs hr hz u qs val w hu hT ho hwf hl hc).mono fun e w' h => ⟨_, h.1, opN_none _ _, h.2⟩
end Go.Proofs.YtedgnlgjmnccgabGreatDoor
