/-
  shape.play, form 1: what comes of an operation, or its error.
-/
import Derived.Test.YtedgnlgjmnccgabGreatDoorShapeSz1
import Derived.Test.YtedgnlgjmnccgabGreatDoorShapePl
namespace Go.Proofs.YtedgnlgjmnccgabGreatDoor
open Go.RowKit
set_option linter.unusedVariables false
attribute [local go_sem] Oper.semAt_some

theorem infoE1 : (Tryz.prog.info? 5).map (fun i => (i.zero, i.size, i.bytes)) = some (some (.int .u8 0), 1, 1) := by kernel_rfl
set_option maxRecDepth 100000 in
set_option maxHeartbeats 800000 in
theorem play1_err (b : Nat) (p : Option Addr) (n c : Nat) (R : List Nat) (qs : List Pt) (v : Value) (w : World) (hT : Lib.Utf8Tabs 2 3 w) (hR : ∀ r ∈ R, isRune r) (hcell : w.cell? ⟨b, 1, none⟩ = some (.slice p n c)) (hsl : sl w .u8 p n c (rowZ 1 R)) (hr : opAt w v qs) (hc : chkE qs (by_ 1 R) = 0) (hl : qs.length ≤ 1000) (hz : C1 R ≤ 1000000) (hpl : ∀ q ∈ qs, q.put.length ≤ 1000000) (hno : plE 1 R qs ≠ 0) :
    Calls Tryz.prog 93 #[.pointer (some ⟨b, 1, none⟩), v, .func (.func 94) #[] #[], .func (.func 95) #[] #[]] w fun e w' => e = .returned (errV (plE 1 R qs)) ∧ Below w.heap.size w w' := by
  have cS : Hid _ := size1_any p n c R qs v w hT hR hsl hr hc hl hz hpl
  obtain ⟨hop, cop, rfl, _⟩ := hr
  rcases pl_no hno with ⟨e1, e2, e3⟩ | ⟨e1, e2, e3, e4⟩
  · rw [e1, e2] at cS
    rw [e3]
    clear hT hR hsl hc hl hz hpl hno e1 e2 e3
    go_enter Tryz.func93, Tryz.ntmps93
    go_wp2_with (first
      | (go_at_call 159; refine Calls.mono cS.out ?_; rw [errV_10]; rintro e w1 ⟨rfl, hb1⟩)
      | fail)
    go_ret
    exact ⟨rfl, hb1⟩
  · rw [e1, e2] at cS
    rw [e3]
    generalize C1 (comesZ 1 R qs) = Z at cS e4
    clear hT hR hsl hc hl hz hpl hno e1 e2 e3
    go_enter Tryz.func93, Tryz.ntmps93
    go_wp2_with (first
      | (go_at_call 159; refine Calls.mono cS.out ?_; rw [errV_0]; rintro e w1 ⟨rfl, hb1⟩)
      | fail)
    go_ret
    exact ⟨rfl, hb1⟩

set_option maxRecDepth 100000 in
set_option maxHeartbeats 800000 in
theorem play1_good (b : Nat) (p : Option Addr) (n c : Nat) (R : List Nat) (qs : List Pt) (v : Value) (w : World) (hT : Lib.Utf8Tabs 2 3 w) (hR : ∀ r ∈ R, isRune r) (hcell : w.cell? ⟨b, 1, none⟩ = some (.slice p n c)) (hfz : w.frozen? ⟨b, 1, none⟩ = false) (hsl : sl w .u8 p n c (rowZ 1 R)) (hr : opAt w v qs) (hc : chkE qs (by_ 1 R) = 0) (hl : qs.length ≤ 1000) (hz : C1 R ≤ 1000000) (hpl : ∀ q ∈ qs, q.put.length ≤ 1000000) (hok : okZ 1 R qs = true) (hsm : C1 (comesZ 1 R qs) ≤ 8000) :
    Calls Tryz.prog 93 #[.pointer (some ⟨b, 1, none⟩), v, .func (.func 94) #[] #[], .func (.func 95) #[] #[]] w fun e w' => e = .returned .nilIface ∧ ∃ W p' n' c', Below w.heap.size w W ∧ w' = W.setCell ⟨b, 1, none⟩ (.slice p' n' c') ∧ sl W .u8 p' n' c' (rowZ 1 (comesZ 1 R qs)) ∧ ∀ a, p' = some a → w.heap.size ≤ a.block := by
  have hu : unitOk 1 := by unfold unitOk; omega
  obtain ⟨hp1, hp2, hp3⟩ := chkE_parts hc
  have cS : Hid (Calls Tryz.prog 159 #[.slice p n c, v, .func (.func 94) #[] #[]] w fun e w' => e = .returned (.tuple #[.int .i64 (C1 (comesZ 1 R qs)), .nilIface]) ∧ Below w.heap.size w w') := by
    have := size1_any p n c R qs v w hT hR hsl hr hc hl hz hpl
    unfold szV szE at this
    rw [hok, if_pos rfl, if_pos rfl, errV_0] at this
    exact this
  have hbw0 := World.block_lt_of_cell? w _ hcell
  have hbw0 : b < w.heap.size := hbw0
  have HU : Hid (unitOk 1) := hu
  have HT : Hid (Lib.Utf8Tabs 2 3 w) := hT
  have HOP : Hid (opAt w v qs) := hr
  have HP1 : Hid (∀ p ∈ qs, oneB p = true ∧ (scan p.put).2 = true) := hp1
  have HPL : Hid (∀ q ∈ qs, q.put.length ≤ 1000000) := hpl
  have HCE : Hid (w.cell? ⟨b, 1, none⟩ = some (.slice p n c)) := hcell
  have HFZ : Hid (w.frozen? ⟨b, 1, none⟩ = false) := hfz
  have HST : Hid (∀ w1, Below w.heap.size w w1 → plI w 5 1 .u8 R qs 0 (.slice none 0 0) (.slice p n c) w1) := fun w1 hb => plI_start hz hsl hR hp2 hok hb
  have hC0 := C1_pos (comesZ 1 R qs)
  have HSM : Hid (C1 (comesZ 1 R qs) ≤ 8000) := hsm
  obtain ⟨Z, hZ⟩ : ∃ Z, C1 (comesZ 1 R qs) = Z := ⟨_, rfl⟩
  rw [hZ] at cS hsm hC0
  obtain ⟨pq, cq, rfl, r1, r2, r3⟩ := hr
  unfold maxLen at r2
  obtain ⟨N, hN⟩ : ∃ N, qs.length = N := ⟨_, rfl⟩
  rw [hN] at r1 hl cS ⊢
  have HN : Hid (qs.length = N) := hN
  have hN0 : (N : Int) ≤ 1000 := by omega
  obtain ⟨i0, hi, hz0, hz1, hz2⟩ := info_parts infoE1
  clear hT hR hsl hc hp1 hp2 hp3 r3 hz hpl hu hN hok hZ hfz
  go_enter Tryz.func93, Tryz.ntmps93
  go_wp2_with (first
    | (go_at_call 159; refine Calls.mono cS.out ?_; rintro e w1 ⟨rfl, hb1⟩; have HB1 : Hid (Below w.heap.size w w1) := hb1; have hc1 : w1.cell? ⟨b, 1, none⟩ = some (.slice p n c) := (hb1.cell (p := ⟨b, 1, none⟩) hbw0).trans HCE.out; clear hb1 hcell)
    | fail)
  have HI : Hid (plI w 5 1 .u8 R qs 0 (.slice none 0 0) (.slice p n c) w1) := HST.out w1 HB1.out
  clear hc1 HST cS HB1 hsm hC0
  go_loopw [11, 12, 35] (fun v11 v12 i wr => ∃ x : Nat, i = .int .i64 x ∧ plI w 5 1 .u8 R qs x v11 v12 wr) (fun _ _ i _ => N - (intOf i).toNat)
  case atStart => exact ⟨0, rfl, HI.out⟩
  case round =>
    obtain ⟨x, rfl, hst⟩ := hrel
    obtain ⟨L, p', n', c', R', hown, rfl, hsl, hR', hlong, hok, hcome, hCR, hx, hbw, hsz⟩ := hst
    obtain ⟨p11, c11, rfl⟩ := own_slice hown
    clear HI
    by_cases hlt : x < N
    · have hxr : x < qs.length := by rw [HN.out]; exact hlt
      have hne : qs ≠ [] := by intro e; rw [e] at hxr; exact absurd hxr (Nat.not_lt_zero _)
      obtain ⟨p0, c0, hvv, _, _, hcell⟩ := HOP.out
      obtain ⟨b0, o, rfl, hb0, hcell⟩ := hcell hne
      obtain ⟨f0, f1, f2⟩ := hcell x qs[x] (List.getElem?_eq_getElem hxr)
      have g0 := (hbw.cell (p := ⟨b0, o + x * 3, none⟩) hb0).trans f0
      have g1 := (hbw.cell (p := ⟨b0, o + x * 3 + 1, none⟩) hb0).trans f1
      have g2 := (hbw.cell (p := ⟨b0, o + x * 3 + 2, none⟩) hb0).trans f2
      obtain rfl : pq = some ⟨b0, o, none⟩ := by injection hvv
      clear hvv hcell f0 f1 f2 hne
      have hq := HP1.out _ (List.getElem_mem hxr)
      have hputl := HPL.out _ (List.getElem_mem hxr)
      have hdk : qs.drop x = qs[x] :: qs.drop (x + 1) := List.drop_eq_getElem_cons hxr
      have hstep := sz_step HU.out hdk hq (fun y hy => HP1.out y (List.mem_of_mem_drop hy)) hsl hR' hlong hCR
      rw [hdk] at hok hcome
      have HOK : Hid (okZ 1 R' (qs[x] :: qs.drop (x + 1)) = true) := hok
      have HCOME : Hid (comesZ 1 R qs = L ++ comesZ 1 R' (qs[x] :: qs.drop (x + 1))) := hcome
      have HBW : Hid (Below w.heap.size w wr) := hbw
      have HSZ : Hid (w.heap.size ≤ wr.heap.size) := hsz
      have HX : Hid (x < qs.length) := hxr
      have HSL : Hid (sl w .u8 p' n' c' (rowZ 1 R')) := hsl
      have HR' : Hid (∀ r ∈ R', isRune r) := hR'
      have HCR : Hid (C1 R' ≤ 1000000) := hCR
      have HOWN : Hid (wr.ownsRow w.heap.size 5 1 (.slice p11 (rowZ 1 L).length c11) (rowZ 1 L).length ((rowZ 1 L).map (Value.int .u8))) := hown
      clear hok hcome hbw hsl hR' hlong hdk hown hsz
      generalize qs[x] = q at *
      obtain ⟨K, D, U⟩ := q
      simp only at g0 g1 g2 hputl
      have hK0 : 0 ≤ K := hstep.k0
      have hD0 : 0 ≤ D := hstep.d0
      have hKD : K + D ≤ (n' : Int) := hstep.le
      obtain ⟨hcc, hcm, hnn⟩ := sl_cap HSL.out
      unfold maxLen at hcm
      have hUz : (ByteArray.mk U.toArray).size = U.length := by simp [ByteArray.size]
      obtain ⟨M, hM⟩ : ∃ M : Nat, K + D = (M : Int) := ⟨(K + D).toNat, by omega⟩
      obtain ⟨Kn, rfl⟩ : ∃ Kn : Nat, K = (Kn : Int) := ⟨K.toNat, by omega⟩
      have hMn : M ≤ n' := by omega
      have hKn : Kn ≤ n' := by omega
      have HM : Hid ((Kn : Int) + D = (M : Int)) := hM
      have he : onEdge R' 1 ((Kn : Int) + D) = true := by
        have := HOK.out
        unfold okZ at this
        rw [Bool.and_eq_true] at this
        exact this.1
      have hsg := szStep_good HU.out hstep HR'.out HCR.out he
      obtain ⟨hpX, hX1, hX2, hX3, hX4, hX5, hX6, hX7, _⟩ := hsg
      have hMt : ((Kn : Int) + D).toNat = M := by omega
      rw [hMt] at hpX hX3
      obtain ⟨Y, hY⟩ : ∃ Y, (if 0 < (Kn : Int) then upTo R' 1 ((Kn : Int) + D) else []) = Y := ⟨_, rfl⟩
      have hrowY : (rowZ 1 R').take Kn = rowZ 1 Y := pl_kept hq.1 hM hY hpX
      have hcomes : comesZ 1 R qs = (L ++ Y ++ runesOf U) ++ comesZ 1 (restZ 1 R' ((Kn : Int) + D)) (qs.drop (x + 1)) := by
        rw [HCOME.out]
        show L ++ (((if 0 < (Kn : Int) then upTo R' 1 ((Kn : Int) + D) else []) ++ runesOf U) ++ _) = _
        rw [hY]
        simp only [List.append_assoc]
        rfl
      have hlens := pl_lens HU.out HSM.out hcomes
      have HROW : Hid ((rowZ 1 L).map (Value.int .u8) ++ (rowZ 1 Y).map (Value.int .u8) ++ (rowZ 1 (runesOf U)).map (Value.int .u8) = (rowZ 1 (L ++ Y ++ runesOf U)).map (Value.int .u8)) := by
        show _ = _
        rw [rowZ_append, rowZ_append, List.map_append, List.map_append]
      have HLN : Hid ((rowZ 1 (L ++ Y ++ runesOf U)).length = (rowZ 1 L).length + Kn + (rowZ 1 (runesOf U)).length) := by
        show _ = _
        have : (rowZ 1 Y).length = Kn := by rw [← hrowY, List.length_take]; omega
        rw [rowZ_append, rowZ_append, List.length_append, List.length_append, this]
      have HPC : Hid (sl w .u8 p' Kn c' (rowZ 1 Y)) := by
        show sl w .u8 p' Kn c' (rowZ 1 Y)
        rw [← hrowY]; exact sl_head HSL.out hKn
      have HNEXT : Hid (∀ (v : Value) (pp : Option Addr) (nn cc : Nat) wn, wn.ownsRow w.heap.size 5 1 v ((rowZ 1 (L ++ Y ++ runesOf U)).length) ((rowZ 1 (L ++ Y ++ runesOf U)).map (Value.int .u8)) → sl w .u8 pp nn cc (rowZ 1 (restZ 1 R' ((Kn : Int) + D))) → Below w.heap.size w wn → plI w 5 1 .u8 R qs (x + 1) v (.slice pp nn cc) wn) :=
        fun v pp nn cc wn h1 h2 h3 => ⟨_, pp, nn, cc, _, h1, rfl, h2, hX4, hX5, hX7.symm.trans HOK.out, hcomes, hX6, HX.out, h3, h3.size⟩
      have HX3 : Hid ((rowZ 1 R').drop M = rowZ 1 (restZ 1 R' ((Kn : Int) + D))) := hX3
      have cP : Hid (∀ wx, Below w.heap.size w wx → Calls Tryz.prog 95 #[.string ⟨U.toArray⟩] wx fun e w' => ∃ p n c, e = .returned (.slice p n c) ∧ sl w' .u8 p n c (rowZ 1 (runesOf U)) ∧ Below wx.heap.size wx w') := fun wx hb => put1_any U hq.2 hputl wx
      obtain ⟨hl1, hl2, hl3⟩ := hlens
      have hxlN : (x : Int) < (N : Int) := by omega
      have hYl : (rowZ 1 Y).length = Kn := by rw [← hrowY, List.length_take]; omega
      obtain ⟨LL, hLL⟩ : ∃ LL, (rowZ 1 L).length = LL := ⟨_, rfl⟩
      obtain ⟨UL, hUL⟩ : ∃ UL, (rowZ 1 (runesOf U)).length = UL := ⟨_, rfl⟩
      rw [hLL] at hl1 HOWN HLN ⊢
      rw [hYl] at hl2
      rw [hUL] at hl3 HLN
      have HUL : Hid ((rowZ 1 (runesOf U)).length = UL) := hUL
      clear hstep hnn hxr hpX hX1 hX2 hX3 hX4 hX5 hX6 hX7 he hrowY hcomes hY hq hM hLL hUL hYl HOK
      go_wp2_with (first
        | (at_builtin; refine wpList_append_sl _ rfl _ _ 158 rfl w.heap.size 5 i0 (.int .u8 0) 1 Tryz.underlying158 hi hz0 hz1 hz2 rfl _ _ _ rfl (HOWN.out.alloc _) .u8 p' Kn c' (rowZ 1 Y) rfl (sl_below HPC.out (HBW.out.alloc HSZ.out _) (Nat.le_refl _)) (by unfold maxLen; omega) (by omega) (by have := HSZ.out; simp; omega) ?_)
        | fail)
      intro v' w2 hown' hg'
      obtain ⟨p12, c12, rfl⟩ := own_slice hown'
      have hbox : w2.heap[wr.heap.size]? = some (.cells #[.int .i64 (Kn : Int), .int .i64 D, .string ⟨U.toArray⟩] 50 (0, 0)) := grown_boxT (heap_alloc_new _ _) (HOWN.out.alloc _) hg' (by intro c fz e; cases e)
      have x0 : w2.cell? ⟨wr.heap.size, 0, none⟩ = some (.int .i64 (Kn : Int)) := Lib.cell_of_heap hbox 0
      have x1 : w2.cell? ⟨wr.heap.size, 1, none⟩ = some (.int .i64 D) := Lib.cell_of_heap hbox 1
      have x2 : w2.cell? ⟨wr.heap.size, 2, none⟩ = some (.string ⟨U.toArray⟩) := Lib.cell_of_heap hbox 2
      have HBOX : Hid (w2.heap[wr.heap.size]? = some (.cells #[.int .i64 (Kn : Int), .int .i64 D, .string ⟨U.toArray⟩] 50 (0, 0))) := hbox
      have HO2 : Hid (w2.ownsRow w.heap.size 5 1 (.slice p12 (LL + Kn) c12) (LL + Kn) ((rowZ 1 L).map (Value.int .u8) ++ (rowZ 1 Y).map (Value.int .u8))) := hown'
      have HBW2 : Hid (Below w.heap.size w w2) := (HBW.out.alloc HSZ.out _).grown hg' (by rw [World.size_alloc]; have := HSZ.out; omega) fun k hk => (HOWN.out.lt k hk).1
      have hsz2 : wr.heap.size + 1 ≤ w2.heap.size := by have := hg'.size; rwa [World.size_alloc] at this
      have HSZ2 : Hid (wr.heap.size + 1 ≤ w2.heap.size) := hsz2
      clear hbox hown' hg' HOWN HPC HBW g0 g1 g2
      go_wp2_with (first
        | (go_at_call 95; refine (cP.out _ HBW2.out).mono ?_; rintro e w3 ⟨pz, nz, cz, rfl, hs3, hb3⟩; have HS3 : Hid (sl w3 .u8 pz nz cz (rowZ 1 (runesOf U))) := hs3; have hnz : nz = UL := by rw [hs3.1]; exact HUL.out
           have HO3 : Hid (w3.ownsRow w.heap.size 5 1 (.slice p12 (LL + Kn) c12) (LL + Kn) ((rowZ 1 L).map (Value.int .u8) ++ (rowZ 1 Y).map (Value.int .u8))) := own_below HO2.out hb3
           have HBW3 : Hid (Below w.heap.size w w3) := HBW2.out.trans (hb3.mono HBW2.out.size)
           have hbox : w3.heap[wr.heap.size]? = some (.cells #[.int .i64 (Kn : Int), .int .i64 D, .string ⟨U.toArray⟩] 50 (0, 0)) := (hb3.block wr.heap.size (by have := HSZ2.out; omega)).trans HBOX.out
           have HBOX3 : Hid (w3.heap[wr.heap.size]? = some (.cells #[.int .i64 (Kn : Int), .int .i64 D, .string ⟨U.toArray⟩] 50 (0, 0))) := hbox
           subst hnz
           clear hs3 hb3 hbox x0 x1 x2)
        | (at_builtin; refine wpList_append_sl _ rfl _ _ 158 rfl w.heap.size 5 i0 (.int .u8 0) 1 Tryz.underlying158 hi hz0 hz1 hz2 rfl _ _ _ rfl HO3.out .u8 pz nz cz (rowZ 1 (runesOf U)) rfl HS3.out (by unfold maxLen; omega) (by omega) HBW3.out.size ?_)
        | fail)
      intro v' w4 hown' hg'
      obtain ⟨p14, c14, rfl⟩ := own_slice hown'
      have hbox : w4.heap[wr.heap.size]? = some (.cells #[.int .i64 (Kn : Int), .int .i64 D, .string ⟨U.toArray⟩] 50 (0, 0)) := grown_boxT HBOX3.out HO3.out hg' (by intro c fz e; cases e)
      have x0 : w4.cell? ⟨wr.heap.size, 0, none⟩ = some (.int .i64 (Kn : Int)) := Lib.cell_of_heap hbox 0
      have x1 : w4.cell? ⟨wr.heap.size, 1, none⟩ = some (.int .i64 D) := Lib.cell_of_heap hbox 1
      rw [← List.append_assoc] at hown'
      have HO4 : Hid (w4.ownsRow w.heap.size 5 1 (.slice p14 (LL + Kn + nz) c14) (LL + Kn + nz) ((rowZ 1 L).map (Value.int .u8) ++ (rowZ 1 Y).map (Value.int .u8) ++ (rowZ 1 (runesOf U)).map (Value.int .u8))) := hown'
      have HBW4 : Hid (Below w.heap.size w w4) := HBW3.out.grown hg' HBW3.out.size fun k hk => (HO3.out.lt k hk).1
      clear hbox hown' hg' HO3 HS3 HBW3 HBOX3 HBOX
      go_wp2
      refine ⟨⟨x + 1, by go_num, ?_⟩, by simp [intOf]; omega⟩
      have hs5 := sl_cut HSL.out hMn
      rw [HX3.out] at hs5
      refine HNEXT.out _ _ _ _ _ ?_ hs5 HBW4.out
      have ho4 := HO4.out
      rw [HROW.out, ← HLN.out] at ho4
      rw [← HLN.out]
      exact ho4
    · obtain rfl : x = N := by have := HN.out; omega
      have hxlN : ¬ ((x : Int) < (x : Int)) := by omega
      rw [← HN.out, List.drop_length] at hcome
      have HE : Hid (comesZ 1 R qs = L) := by show _ = _; rw [hcome]; exact List.append_nil _
      have HBW : Hid (Below w.heap.size w wr) := hbw
      have HOWN : Hid (wr.ownsRow w.heap.size 5 1 (.slice p11 (rowZ 1 L).length c11) (rowZ 1 L).length ((rowZ 1 L).map (Value.int .u8))) := hown
      have hc2 : wr.cell? ⟨b, 1, none⟩ = some (.slice p n c) := (hbw.cell (p := ⟨b, 1, none⟩) hbw0).trans HCE.out
      have hf2 : wr.frozen? ⟨b, 1, none⟩ = false := (hbw.frozen (p := ⟨b, 1, none⟩) hbw0).trans HFZ.out
      clear hok hcome hsl hR' hlong hbw hown hsz hlt
      go_wp2
      go_ret
      obtain ⟨p2, c2, e2, s2⟩ := sl_own rfl HOWN.out
      injection e2 with e2 e3 e4
      subst e2 e4
      refine ⟨rfl, ?_⟩
      exact ⟨wr, HBW.out, p11, _, c11, rfl, by rw [HE.out]; exact s2, fun a ha => (HOWN.out.lt a.block (by rw [ha]; rfl)).1⟩
end Go.Proofs.YtedgnlgjmnccgabGreatDoor
