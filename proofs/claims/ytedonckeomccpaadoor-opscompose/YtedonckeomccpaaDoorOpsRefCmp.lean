/-
  The document's Compose.
-/
import Derived.Test.YtedonckeomccpaaDoorOpsCmpP
import Derived.Deep.LoopGhost
import Derived.Deep.CutRange
import Derived.Laws.AppendOwnNone
namespace Go.Proofs.YtedonckeomccpaaDoor
open Go.RowKit
set_option linter.unusedVariables false
attribute [local go_sem] Oper.semAt_some

set_option maxRecDepth 100000 in
set_option maxHeartbeats 16000000 in
theorem refComp_fine (v1 v2 : Value) (a b : List Pt) (w : World) (h1 : opAt w v1 a) (h2 : opAt w v2 b) (w1 : ∀ p ∈ a, wfP p) (w2 : ∀ p ∈ b, wfP p) (s1 : ∀ p ∈ a, p.put.length < 100000000) (s2 : ∀ p ∈ b, p.put.length < 100000000) (f1 : fineP a) (f2 : fineP b) (he : bothE a b = 0) (hl : (lensW b).1 = (lensW a).2) (n : Nat) (hn : longP a = n) :
    Calls Tryd.prog 57 #[v1, v2] w fun e w' => ∃ v', e = .returned (.tuple #[v', .int .i64 0]) ∧ opAt w' v' (gatherP (gapE n (endP (midP 0 a) b) [] 0)) ∧ Below w.heap.size w w' := by
  have cB : Hid _ := refBoth_any v1 v2 a b w h1 h2 w1 w2 s1 s2 f1.len f2.len
  rw [he] at cB
  have cL1 : Hid (∀ wx, Below w.heap.size w wx → Calls Tryd.prog 47 #[v1] wx fun e w' => e = .returned (.tuple #[.int .i64 (lensW a).1, .int .i64 (lensW a).2]) ∧ Below wx.heap.size wx w') := fun wx hb => refLens_any v1 a wx (opAt_grown h1 hb) f1.len
  have cL2 : Hid (∀ wx, Below w.heap.size w wx → Calls Tryd.prog 47 #[v2] wx fun e w' => e = .returned (.tuple #[.int .i64 (lensW b).1, .int .i64 (lensW b).2]) ∧ Below wx.heap.size wx w') := fun wx hb => refLens_any v2 b wx (opAt_grown h2 hb) f2.len
  have F1 : Hid (fineP a) := f1
  have F2 : Hid (fineP b) := f2
  have HA1 : Hid ((lensW a).1 = (n : Int)) := (fine_lens f1).1.trans hn
  have HN : Hid (longP a = (n : Int)) := hn
  have HLE : Hid ((lensW b).1 = (lensW a).2) := hl
  rw [hl] at cL2
  generalize (lensW a).1 = N1 at *
  have hN1 : -9223372036854775808 ≤ N1 := by have := HA1.out; omega
  have hn9 : n < 3000000 := by
    have e1 := (lens_plain a (ones_sound f1.one) (by have := f1.w; omega)).2.2.1
    rw [spreads_eq] at e1
    have e2 := lensU_long a (ones_sound f1.one)
    unfold lensU at e2
    have e3 := f1.w
    omega
  obtain ⟨A2, hA2⟩ : ∃ A, (lensW a).2 = A := ⟨_, rfl⟩
  obtain ⟨B2, hB2⟩ : ∃ A, (lensW b).2 = A := ⟨_, rfl⟩
  rw [hA2] at cL1 cL2
  rw [hB2] at cL2
  clear hA2 hB2
  obtain ⟨p1, c1, rfl, ha1, ha2, ha3⟩ := h1
  obtain ⟨p2, c2, rfl, hb1', hb2', hb3'⟩ := h2
  have R1 : Hid (a ≠ [] → ∃ b o, p1 = some ⟨b, o, none⟩ ∧ b < w.heap.size ∧ ∀ i q, a[i]? = some q → w.cell? ⟨b, o + i * 3, none⟩ = some (.int .i64 q.keep) ∧ w.cell? ⟨b, o + i * 3 + 1, none⟩ = some (.int .i64 q.drop) ∧ w.cell? ⟨b, o + i * 3 + 2, none⟩ = some (.string ⟨q.put.toArray⟩)) := ha3
  have R2 : Hid (b ≠ [] → ∃ b' o, p2 = some ⟨b', o, none⟩ ∧ b' < w.heap.size ∧ ∀ i q, b[i]? = some q → w.cell? ⟨b', o + i * 3, none⟩ = some (.int .i64 q.keep) ∧ w.cell? ⟨b', o + i * 3 + 1, none⟩ = some (.int .i64 q.drop) ∧ w.cell? ⟨b', o + i * 3 + 2, none⟩ = some (.string ⟨q.put.toArray⟩)) := hb3'
  obtain ⟨la, hla⟩ : ∃ la, a.length = la := ⟨_, rfl⟩
  obtain ⟨lb, hlb⟩ : ∃ lb, b.length = lb := ⟨_, rfl⟩
  have HLA : Hid (a.length = la) := hla
  have HLB : Hid (b.length = lb) := hlb
  have hla9 : la < 10000000 := by have := f1.len; omega
  have hlb9 : lb < 10000000 := by have := f2.len; omega
  rw [hla] at cB cL1 ⊢
  rw [hlb] at cB cL2 ⊢
  clear w1 w2 s1 s2 f1 f2 he hl ha3 hb3' hla hlb hn
  go_enter Tryd.func57, Tryd.ntmps57
  go_wp2_with (first
    | (have _ := HB2; go_at_call 47; refine (cL2.out _ HB2.out).mono ?_; rintro e w3 ⟨rfl, hb3⟩; have HB3 : Hid (Below w.heap.size w w3) := HB2.out.trans (hb3.mono HB2.out.size); clear hb3)
    | (have _ := HB1; go_at_call 47; refine (cL1.out _ HB1.out).mono ?_; rintro e w2 ⟨rfl, hb2⟩; have HB2 : Hid (Below w.heap.size w w2) := HB1.out.trans (hb2.mono HB1.out.size); clear hb2)
    | (go_at_call 103; refine Calls.mono cB.out ?_; rintro e w1 ⟨rfl, hb1⟩; have HB1 : Hid (Below w.heap.size w w1) := hb1; clear hb1)
    | fail)
  have hst : cmpA w3 w3.heap.size a la (.slice none 0 0) (.int .i64 0) (.int .i64 0) w3 := ⟨0, rfl, by rw [Nat.zero_add]; exact HLA.out.symm, rfl, World.ownsRow_nil _ _ _ _, .refl _ _⟩
  have HST : Hid (cmpA w3 w3.heap.size a la (.slice none 0 0) (.int .i64 0) (.int .i64 0) w3) := hst
  clear hst HB1 HB2 cB cL1 cL2
  go_loopg [11, 12, 46] la (fun k u11 u12 u46 wr => cmpA w3 w3.heap.size a k u11 u12 u46 wr)
  case atStart => exact HST.out
  case round =>
    obtain ⟨j, rfl, hjk, rfl, hown, hbw⟩ := hrel
    have HBW : Hid (Below w3.heap.size w3 wr) := hbw
    have HOW : Hid (wr.ownsRow w3.heap.size 163 2 u11 (midP 0 (a.take j)).length (cellsC (midP 0 (a.take j)))) := hown
    have hws : w3.heap.size ≤ wr.heap.size := hbw.size
    clear HST
    by_cases hj : j < la
    · have hja : j < a.length := by rw [HLA.out]; exact hj
      have hne : a ≠ [] := by intro e; rw [e] at hja; exact absurd hja (Nat.not_lt_zero _)
      obtain ⟨b0, o, rfl, hb0, hcell⟩ := R1.out hne
      obtain ⟨c0, c1', c2'⟩ := hcell j a[j] (List.getElem?_eq_getElem hja)
      have hbb := HB3.out.trans (HBW.out.mono HB3.out.size)
      have g0 := (hbb.cell (p := ⟨b0, o + j * 3, none⟩) hb0).trans c0
      have g1 := (hbb.cell (p := ⟨b0, o + j * 3 + 1, none⟩) hb0).trans c1'
      have g2 := (hbb.cell (p := ⟨b0, o + j * 3 + 2, none⟩) hb0).trans c2'
      have hone := F1.out.one a[j] (List.getElem_mem _)
      have hso := ones_sound F1.out.one a[j] (List.getElem_mem _)
      have hts : a.take (j + 1) = a.take j ++ [a[j]] := List.take_succ_eq_append_getElem hja
      have hlong : longP (a.take (j + 1)) ≤ n := by
        have e := HN.out
        have e2 : longP a = longP (a.take (j + 1)) + longP (a.drop (j + 1)) := by rw [← long_append, List.take_append_drop]
        have e3 := long_nonneg (a.drop (j + 1)) fun q hq => ones_sound F1.out.one q (List.mem_of_mem_drop hq)
        omega
      have hlong0 := long_nonneg (a.take j) fun q hq => ones_sound F1.out.one q (List.mem_of_mem_take hq)
      have hmid := mid_snoc (a.take j) a[j] 0
      rw [← hts, Int.zero_add] at hmid
      have hln := long_snoc (a.take j) a[j]
      rw [← hts] at hln
      have hML := mid_small F1.out j
      have hML1 := mid_small F1.out (j + 1)
      generalize a[j] = q at *
      obtain ⟨K, D, U⟩ := q
      obtain ⟨hK0, hD0⟩ := hso
      simp only at g0 g1 g2 hK0 hD0 hmid hln
      obtain ⟨M, hM⟩ : ∃ M, midP 0 (a.take j) = M := ⟨_, rfl⟩
      obtain ⟨M1, hM1⟩ : ∃ M1, midP 0 (a.take (j + 1)) = M1 := ⟨_, rfl⟩
      obtain ⟨A0, hA0⟩ : ∃ A0, longP (a.take j) = A0 := ⟨_, rfl⟩
      obtain ⟨A1, hA1'⟩ : ∃ A1, longP (a.take (j + 1)) = A1 := ⟨_, rfl⟩
      rw [hM, hM1, hA0] at hmid
      rw [hA0, hA1'] at hln
      rw [hA0] at hlong0 ⊢
      rw [hA1'] at hlong
      rw [hM] at HOW hML
      rw [hM1] at hML1
      obtain ⟨Kn, rfl⟩ : ∃ Kn : Nat, K = (Kn : Int) := ⟨K.toNat, by omega⟩
      rw [Int.toNat_natCast] at hmid
      have hlenM : M1.length = M.length + (Kn + U.length) := by rw [hmid, List.length_append, List.length_append, fromC_len, putC_len]
      have HM1 : Hid (midP 0 (a.take (j + 1)) = M1) := hM1
      have HMID : Hid (M1 = M ++ (fromC A0 Kn ++ putC U)) := hmid
      have HA1 : Hid (longP (a.take (j + 1)) = A1) := hA1'
      have HLN : Hid (A1 = A0 + ((Kn : Int) + D)) := hln
      obtain ⟨k, rfl⟩ : ∃ k, gk = k + 1 := ⟨gk - 1, by have := HLA.out; omega⟩
      have HJK : Hid (j + (k + 1) = a.length) := hjk
      have hMs : M.length + Kn + U.length < 3000000 := by omega
      have hAs : A0 + Kn + D < 3000000 := by omega
      have hjla : (j : Int) < (la : Int) := by omega
      have hj9 : (j : Int) < 10000000 := by omega
      have hUz : (ByteArray.mk U.toArray).size = U.length := by simp [ByteArray.size]
      clear hcell c0 c1' c2' hbb hone hts hM hM1 hA0 hA1' hjk hown hbw hmid hln hML hML1 hlong hlenM hne hja
      go_wp2
      obtain ⟨W1, hW1⟩ : ∃ W1, wr.alloc (.cells #[.int .i64 (Kn : Int), .int .i64 D, .string ⟨U.toArray⟩] 151) = W1 := ⟨_, rfl⟩
      rw [hW1]
      obtain ⟨β, hβ⟩ : ∃ β, wr.heap.size = β := ⟨_, rfl⟩
      rw [hβ]
      have hstK : cmpK w3 w3.heap.size M A0 Kn β (.cells #[.int .i64 (Kn : Int), .int .i64 D, .string ⟨U.toArray⟩] 151 (0, 0)) Kn u11 (.int .i64 A0) (.int .i64 0) W1 := by
        rw [← hW1, ← hβ]
        refine ⟨0, rfl, by omega, by simp, ?_, HBW.out.alloc HBW.out.size _, heap_alloc_new _ _⟩
        simpa [fromC] using HOW.out.alloc _
      have HSTK : Hid (cmpK w3 w3.heap.size M A0 Kn β (.cells #[.int .i64 (Kn : Int), .int .i64 D, .string ⟨U.toArray⟩] 151 (0, 0)) Kn u11 (.int .i64 A0) (.int .i64 0) W1) := hstK
      clear hstK HBW HOW hW1 hβ hws g0 g1 g2
      go_loopg [11, 12, 52] Kn (fun k u11 u12 u52 wx => cmpK w3 w3.heap.size M A0 Kn β (.cells #[.int .i64 (Kn : Int), .int .i64 D, .string ⟨U.toArray⟩] 151 (0, 0)) k u11 u12 u52 wx)
      case atStart => exact HSTK.out
      case round =>
        obtain ⟨t, rfl, htk, rfl, hown, hbw, hbox⟩ := hrel
        clear HSTK
        obtain ⟨L, hL⟩ : ∃ L, M ++ fromC A0 t = L := ⟨_, rfl⟩
        have hLl : L.length = M.length + t := by rw [← hL, List.length_append, fromC_len]
        have HL : Hid (M ++ fromC A0 t = L) := hL
        rw [hL] at hown
        obtain ⟨pm, cm, rfl⟩ := own_slice hown
        have HOX : Hid (wr.ownsRow w3.heap.size 163 2 (.slice pm L.length cm) L.length (cellsC L)) := hown
        have HBX : Hid (Below w3.heap.size w3 wr) := hbw
        have HBO : Hid (wr.heap[β]? = some (.cells #[.int .i64 (Kn : Int), .int .i64 D, .string ⟨U.toArray⟩] 151 (0, 0))) := hbox
        have hwsx := hbw.size
        have hLs : L.length < 3000000 := by omega
        have hts' : t ≤ Kn := by omega
        clear hL hown hbw hbox
        by_cases ht : t < Kn
        · obtain ⟨kK, rfl⟩ : ∃ kK, gk = kK + 1 := ⟨gk - 1, by omega⟩
          have HTK : Hid (t + (kK + 1) = Kn) := htk
          have ht' : (t : Int) < (Kn : Int) := by omega
          have HLL : Hid (L.length = M.length + t) := hLl
          obtain ⟨i0, hi, hz0, hz1, hz2⟩ := info_parts info_cel
          clear htk hLl ht
          go_wp2_with (first
            | (at_builtin; refine wpList_append_own _ rfl _ _ 161 rfl w3.heap.size 163 i0 (.agg #[.int .i64 0, .int .u8 0]) 2 16 Tryd.underlying161 hi hz0 hz1 hz2 rfl (by decide) _ _ _ rfl (HOX.out.alloc _) ⟨wr.heap.size, 0, none⟩ 1 1 (celCells (A0 + t, 0)) rfl rfl (cells_new _ _ _) (celCells_one _) (by unfold maxLen; omega) (by omega) (by first | omega | (simp; omega)) ?_)
            | fail)
          intro v' w' hown' hg' _
          obtain ⟨p', c', rfl⟩ := own_slice hown'
          have HB' : Hid (w'.heap[β]? = some (.cells #[.int .i64 (Kn : Int), .int .i64 D, .string ⟨U.toArray⟩] 151 (0, 0))) := grown_box ((heap_alloc_old _ _ (heap_lt HBO.out)).trans HBO.out) (HOX.out.alloc _) hg' (by intro c fz e; cases e)
          have HBW' : Hid (Below w3.heap.size w3 w') := (HBX.out.alloc HBX.out.size _).grown hg' (by rw [World.size_alloc]; omega) fun k hk => (HOX.out.lt k hk).1
          have HO' : Hid (w'.ownsRow w3.heap.size 163 2 (.slice p' (L.length + 1) c') (L.length + 1) (cellsC L ++ celCells (A0 + t, 0))) := hown'
          clear hown' hg'
          go_wp2
          go_roundg kK
          case measure => omega
          case rel =>
            have e1 : M ++ fromC A0 (t + 1) = L ++ [(A0 + t, 0)] := by rw [fromC_snoc, ← HL.out, List.append_assoc]
            refine ⟨t + 1, by go_num, by have := HTK.out; omega, by go_num, ?_, HBW'.out, HB'.out⟩
            rw [e1, cellsC_append, List.length_append]
            exact HO'.out
        · obtain rfl : t = Kn := by omega
          obtain rfl : gk = 0 := by omega
          have x2 : wr.cell? ⟨β, 2, none⟩ = some (.string ⟨U.toArray⟩) := Lib.cell_of_heap HBO.out 2
          have hlt' : ¬ (t : Int) < (t : Int) := by omega
          have HLL : Hid (L.length = M.length + t) := hLl
          clear htk hLl ht hts'
          go_wp2
          have hstU : cmpU w3 w3.heap.size L U β (.cells #[.int .i64 (t : Int), .int .i64 D, .string ⟨U.toArray⟩] 151 (0, 0)) U.length (.slice pm L.length cm) (.int .i64 0) wr := ⟨0, rfl, by omega, by simpa [putC] using HOX.out, HBX.out, HBO.out⟩
          have HSTU : Hid (cmpU w3 w3.heap.size L U β (.cells #[.int .i64 (t : Int), .int .i64 D, .string ⟨U.toArray⟩] 151 (0, 0)) U.length (.slice pm L.length cm) (.int .i64 0) wr) := hstU
          clear hstU HBO HOX HBX
          go_loopg [11, 65] U.length (fun k u11 u65 wx => cmpU w3 w3.heap.size L U β (.cells #[.int .i64 (t : Int), .int .i64 D, .string ⟨U.toArray⟩] 151 (0, 0)) k u11 u65 wx)
          case atStart => exact HSTU.out
          case round =>
            obtain ⟨x, rfl, hxk, hown, hbw, hbox⟩ := hrel
            clear HSTU
            obtain ⟨L2, hL2⟩ : ∃ L2, L ++ putC (U.take x) = L2 := ⟨_, rfl⟩
            have hLl2 : L2.length = L.length + x := by rw [← hL2, List.length_append, putC_len, List.length_take]; omega
            have HL2 : Hid (L ++ putC (U.take x) = L2) := hL2
            rw [hL2] at hown
            obtain ⟨pm2, cm2, rfl⟩ := own_slice hown
            have HOX : Hid (wr.ownsRow w3.heap.size 163 2 (.slice pm2 L2.length cm2) L2.length (cellsC L2)) := hown
            have HBX : Hid (Below w3.heap.size w3 wr) := hbw
            have HBO : Hid (wr.heap[β]? = some (.cells #[.int .i64 (t : Int), .int .i64 D, .string ⟨U.toArray⟩] 151 (0, 0))) := hbox
            have y0 : wr.cell? ⟨β, 0, none⟩ = some (.int .i64 (t : Int)) := Lib.cell_of_heap HBO.out 0
            have y1 : wr.cell? ⟨β, 1, none⟩ = some (.int .i64 D) := Lib.cell_of_heap HBO.out 1
            have y2 : wr.cell? ⟨β, 2, none⟩ = some (.string ⟨U.toArray⟩) := Lib.cell_of_heap HBO.out 2
            have hwsx2 := hbw.size
            have hLs2 : L2.length < 3000000 := by have := HLL.out; omega
            clear hL2 hown hbw hbox
            by_cases hx : x < U.length
            · obtain ⟨kU, rfl⟩ : ∃ kU, gk = kU + 1 := ⟨gk - 1, by omega⟩
              have HXK : Hid (x + (kU + 1) = U.length) := hxk
              have hx' : (x : Int) < (U.length : Int) := by omega
              have HX : Hid (x < U.length) := hx
              obtain ⟨i0, hi, hz0, hz1, hz2⟩ := info_parts info_cel
              clear hxk hLl2 hx
              go_wp2_with (first
                | (at_builtin; refine wpList_append_own _ rfl _ _ 161 rfl w3.heap.size 163 i0 (.agg #[.int .i64 0, .int .u8 0]) 2 16 Tryd.underlying161 hi hz0 hz1 hz2 rfl (by decide) _ _ _ rfl (HOX.out.alloc _) ⟨wr.heap.size, 0, none⟩ 1 1 (celCells (-1, U[x]'HX.out)) rfl rfl (cells_new _ _ _) (celCells_one _) (by unfold maxLen; omega) (by omega) (by first | omega | (simp; omega)) ?_)
                | fail)
              intro v' w' hown' hg' _
              obtain ⟨p', c', rfl⟩ := own_slice hown'
              have HB' : Hid (w'.heap[β]? = some (.cells #[.int .i64 (t : Int), .int .i64 D, .string ⟨U.toArray⟩] 151 (0, 0))) := grown_box ((heap_alloc_old _ _ (heap_lt HBO.out)).trans HBO.out) (HOX.out.alloc _) hg' (by intro c fz e; cases e)
              have HBW' : Hid (Below w3.heap.size w3 w') := (HBX.out.alloc HBX.out.size _).grown hg' (by rw [World.size_alloc]; omega) fun k hk => (HOX.out.lt k hk).1
              have HO' : Hid (w'.ownsRow w3.heap.size 163 2 (.slice p' (L2.length + 1) c') (L2.length + 1) (cellsC L2 ++ celCells (-1, U[x]'HX.out))) := hown'
              clear hown' hg'
              go_wp2
              go_roundg kU
              case measure => omega
              case rel =>
                have e1 : L ++ putC (U.take (x + 1)) = L2 ++ [(-1, U[x]'HX.out)] := by rw [putC_snoc U x HX.out, ← HL2.out, List.append_assoc]
                refine ⟨x + 1, by go_num, by have := HXK.out; omega, ?_, HBW'.out, HB'.out⟩
                rw [e1, cellsC_append, List.length_append]
                exact HO'.out
            · obtain rfl : x = U.length := by omega
              obtain rfl : gk = 0 := by omega
              have hlt2 : ¬ (U.length : Int) < (U.length : Int) := by omega
              clear hxk hLl2 hx
              go_wp2
              go_roundg k
              case measure => omega
              case rel =>
                have e1 : M1 = L2 := by rw [HMID.out, ← HL2.out, ← HL.out, List.take_length, List.append_assoc]
                refine ⟨j + 1, by go_num, by have := HJK.out; omega, ?_, ?_, HBX.out⟩
                · rw [HA1.out, HLN.out]; go_num
                · rw [HM1.out, e1]; exact HOX.out
    · obtain rfl : j = la := by have := HLA.out; omega
      obtain rfl : gk = 0 := by have := HLA.out; omega
      have eT : a.take j = a := List.take_of_length_le (by rw [HLA.out]; exact Nat.le_refl _)
      have hmlen := mid_len a 0 fun q hq => (ones_sound F1.out.one q hq).1
      obtain ⟨M, hM⟩ : ∃ M, midP 0 a = M := ⟨_, rfl⟩
      have HME : Hid (midP 0 a = M) := hM
      rw [eT, hM] at HOW
      rw [hM] at hmlen
      have hLM : longP b = (M.length : Int) := by rw [hmlen, ← (fine_lens F1.out).2, ← HLE.out]; exact (fine_lens F2.out).1.symm
      have HLM : Hid (longP b = (M.length : Int)) := hLM
      have hMs : M.length < 2000000 := by rw [← hM]; have := mid_small F1.out a.length; rwa [List.take_length] at this
      rw [eT, HN.out]
      have how := HOW.out
      obtain ⟨pm, cm, rfl⟩ := own_slice how
      have HOM : Hid (wr.ownsRow w3.heap.size 163 2 (.slice pm M.length cm) M.length (cellsC M)) := how
      have hcm : M.length ≤ cm ∧ cm ≤ maxLen := by
        rcases how.2 with ⟨hx, h0⟩ | ⟨g, cap, cur, hx, _, _, h4, h5, _⟩
        · simp only [Value.slice.injEq] at hx
          omega
        · simp only [Value.slice.injEq, true_and] at hx
          obtain ⟨_, rfl⟩ := hx
          exact ⟨h4, h5⟩
      have hMp : pm = none → M = [] ∧ cm = 0 := by
        intro e
        rcases how.2 with ⟨hx, h0⟩ | ⟨g, cap, cur, hx, _, _, h4, h5, _⟩
        · simp only [Value.slice.injEq] at hx
          exact ⟨List.eq_nil_of_length_eq_zero h0, hx.2.2⟩
        · simp only [Value.slice.injEq, true_and] at hx
          rw [e] at hx; cases hx.1
      have hMg : ∀ ad, pm = some ad → ∃ gm, ad = ⟨gm, 0, none⟩ ∧ gm < wr.heap.size ∧ ∀ (i : Nat) u, (cellsC M)[i]? = some u → wr.cell? ⟨gm, i, none⟩ = some u := by
        intro ad e
        rcases how.2 with ⟨hx, h0⟩ | ⟨g, cap, cur, hx, _, hgg, h4, h5, _⟩
        · simp only [Value.slice.injEq] at hx
          rw [e] at hx; cases hx.1
        · simp only [Value.slice.injEq, true_and] at hx
          rw [e] at hx
          obtain ⟨hx1, rfl⟩ := hx
          obtain rfl := Option.some.inj hx1
          subst e
          refine ⟨g, rfl, heap_lt hgg, fun i u hi => ?_⟩
          have hlt := (List.getElem?_eq_some_iff.1 hi).1
          rw [cellsC_len] at hlt
          rw [how.cellAt i hlt]; exact hi
      have HMp : Hid (pm = none → M = [] ∧ cm = 0) := hMp
      have HMg : Hid (∀ ad, pm = some ad → ∃ gm, ad = ⟨gm, 0, none⟩ ∧ gm < wr.heap.size ∧ ∀ (i : Nat) u, (cellsC M)[i]? = some u → wr.cell? ⟨gm, i, none⟩ = some u) := hMg
      obtain ⟨hcm1, hcm2⟩ := hcm
      unfold maxLen at hcm2
      have hjl : ¬ (j : Int) < (j : Int) := by omega
      clear hj hjk hown hbw how hMp hMg eT hM hmlen hLM
      go_wp2
      obtain ⟨NB, hNB⟩ : ∃ NB, wr.heap.size = NB := ⟨_, rfl⟩
      have HNB : Hid (wr.heap.size = NB) := hNB
      have hstE : cmpE wr NB M b lb (.slice none 0 0) (.int .i64 0) (.int .i64 0) wr := ⟨0, rfl, by rw [Nat.zero_add]; exact HLB.out.symm, rfl, World.ownsRow_nil _ _ _ _, .refl _ _⟩
      obtain ⟨W2, hW2⟩ : ∃ W2, wr = W2 := ⟨_, rfl⟩
      rw [hW2] at hstE HBW HOM HMg HNB hws ⊢
      have HSTE : Hid (cmpE W2 NB M b lb (.slice none 0 0) (.int .i64 0) (.int .i64 0) W2) := hstE
      clear hstE HOW hNB hW2
      go_loopg [12, 16, 84] lb (fun k u12 u16 u84 wx => cmpE W2 NB M b k u16 u12 u84 wx)
      case atStart => exact HSTE.out
      case round =>
        obtain ⟨x, rfl, hxk, rfl, hown, hbw⟩ := hrel
        obtain ⟨E, hE⟩ : ∃ E, endP M (b.take x) = E := ⟨_, rfl⟩
        rw [hE] at hown
        have hEs : E.length < 2000000 := by rw [← hE]; exact end_small F2.out M x
        obtain ⟨pe, ce, rfl⟩ := own_slice hown
        have HOX : Hid (wr.ownsRow NB 163 2 (.slice pe E.length ce) E.length (cellsC E)) := hown
        have HBX : Hid (Below NB W2 wr) := hbw
        have hNB : NB ≤ wr.heap.size := by rw [← HNB.out]; exact hbw.size
        have HE : Hid (endP M (b.take x) = E) := hE
        clear HSTE hown hbw
        by_cases hx : x < lb
        · have hxb : x < b.length := by rw [HLB.out]; exact hx
          have hne : b ≠ [] := by intro e; rw [e] at hxb; exact absurd hxb (Nat.not_lt_zero _)
          obtain ⟨b0, o, rfl, hb0, hcell⟩ := R2.out hne
          obtain ⟨c0, c1', c2'⟩ := hcell x b[x] (List.getElem?_eq_getElem hxb)
          have hbW := HB3.out.trans (HBW.out.mono HB3.out.size)
          have hbb := hbW.trans (HBX.out.mono (show w.heap.size ≤ NB by rw [← HNB.out]; exact hbW.size))
          have g0 := (hbb.cell (p := ⟨b0, o + x * 3, none⟩) hb0).trans c0
          have g1 := (hbb.cell (p := ⟨b0, o + x * 3 + 1, none⟩) hb0).trans c1'
          have g2 := (hbb.cell (p := ⟨b0, o + x * 3 + 2, none⟩) hb0).trans c2'
          have hso := ones_sound F2.out.one b[x] (List.getElem_mem _)
          have hts : b.take (x + 1) = b.take x ++ [b[x]] := List.take_succ_eq_append_getElem hxb
          have hlong : longP (b.take (x + 1)) ≤ (M.length : Int) := by
            have e := HLM.out
            have e2 : longP b = longP (b.take (x + 1)) + longP (b.drop (x + 1)) := by rw [← long_append, List.take_append_drop]
            have e3 := long_nonneg (b.drop (x + 1)) fun q hq => ones_sound F2.out.one q (List.mem_of_mem_drop hq)
            omega
          have hlong0 := long_nonneg (b.take x) fun q hq => ones_sound F2.out.one q (List.mem_of_mem_take hq)
          have hend := end_snoc (b.take x) b[x] M fun q hq => ones_sound F2.out.one q (List.mem_of_mem_take hq)
          rw [← hts, hE] at hend
          have hln := long_snoc (b.take x) b[x]
          rw [← hts] at hln
          have hES1 := end_small F2.out M (x + 1)
          generalize b[x] = q at *
          obtain ⟨K, D, U⟩ := q
          obtain ⟨hK0, hD0⟩ := hso
          simp only at g0 g1 g2 hK0 hD0 hend hln
          obtain ⟨Kn, rfl⟩ : ∃ Kn : Nat, K = (Kn : Int) := ⟨K.toNat, by omega⟩
          obtain ⟨An, hAn⟩ : ∃ An : Nat, longP (b.take x) = (An : Int) := ⟨(longP (b.take x)).toNat, by omega⟩
          rw [hAn] at hend hln ⊢
          rw [Int.toNat_natCast, Int.toNat_natCast] at hend
          have hAK : An + Kn ≤ M.length := by omega
          have hAD : (An : Int) + Kn + D ≤ (M.length : Int) := by omega
          obtain ⟨E1, hE1⟩ : ∃ E1, E ++ (M.drop An).take Kn = E1 := ⟨_, rfl⟩
          have hE1l : E1.length = E.length + Kn := by rw [← hE1, List.length_append, List.length_take, List.length_drop]; omega
          have HEND : Hid (endP M (b.take (x + 1)) = E1 ++ putC U) := show endP M (b.take (x + 1)) = E1 ++ putC U by rw [hend, ← List.append_assoc, hE1]
          have hE1s : E1.length + U.length < 2000000 := by rw [HEND.out, List.length_append, putC_len] at hES1; omega
          have HLN : Hid (longP (b.take (x + 1)) = (An : Int) + ((Kn : Int) + D)) := hln
          have HE1 : Hid (E ++ (M.drop An).take Kn = E1) := hE1
          have HE1l : Hid (E1.length = E.length + Kn) := hE1l
          obtain ⟨k, rfl⟩ : ∃ k, gk = k + 1 := ⟨gk - 1, by have := HLB.out; omega⟩
          have HXK : Hid (x + (k + 1) = b.length) := hxk
          have hxlb : (x : Int) < (lb : Int) := by omega
          have hx9 : (x : Int) < 10000000 := by omega
          have hUz : (ByteArray.mk U.toArray).size = U.length := by simp [ByteArray.size]
          have hq0 : (0 : Int) ≤ (An : Int) := by omega
          have hq1 : (An : Int) ≤ (An : Int) + (Kn : Int) := by omega
          have hq2 : (An : Int) + (Kn : Int) ≤ (cm : Int) := by omega
          have hq3 : (An : Int) + (Kn : Int) < 3000000 := by omega
          have hT1 : ((An : Int) + (Kn : Int)).toNat = An + Kn := by omega
          have hT2 : An + Kn - An = Kn := by omega
          clear hcell c0 c1' c2' hbW hbb hts hE hend hln hES1 hlong hE1 hE1l hne hxb hxk hlong0 hAn
          obtain ⟨i0, hi, hz0, hz1, hz2⟩ := info_parts info_cel
          go_upto_region 30 with fail
          go_cut [16] from 85 to 119 (fun u16 wc => wc.ownsRow NB 163 2 u16 E1.length (cellsC E1) ∧ Below NB W2 wc ∧ wc.heap[wr.heap.size]? = some (.cells #[.int .i64 (Kn : Int), .int .i64 D, .string ⟨U.toArray⟩] 151 (0, 0)))
          case first =>
            by_cases hpm : pm = none
            · obtain ⟨hM0, hcm0⟩ := HMp.out hpm
              subst hpm hM0 hcm0
              simp only [List.length_nil] at hAK hAD
              obtain rfl : An = 0 := by omega
              obtain rfl : Kn = 0 := by omega
              have hEE : E1 = E := by rw [← HE1.out]; simp
              have HEE : Hid (E1 = E) := hEE
              clear hEE hAK hAD
              go_wp2_with (first
                | (at_builtin; refine wpList_append_own_none rfl _ _ 161 rfl NB 163 i0 2 Tryd.underlying161 hi _ _ _ rfl (HOX.out.alloc _) rfl ?_)
                | fail)
              go_meet
              case rel =>
                refine ⟨?_, HBX.out.alloc hNB _, heap_alloc_new _ _⟩
                rw [HEE.out]; exact HOX.out.alloc _
            · obtain ⟨ad, rfl⟩ : ∃ ad, pm = some ad := by
                cases pm with
                | none => exact absurd rfl hpm
                | some ad => exact ⟨ad, rfl⟩
              obtain ⟨gm, rfl, hgm, hcells⟩ := HMg.out ad rfl
              have HCL : Hid (∀ (i : Nat) u, (cellsC M)[i]? = some u → (wr.alloc (.cells #[.int .i64 (Kn : Int), .int .i64 D, .string ⟨U.toArray⟩] 151)).cell? ⟨gm, i, none⟩ = some u) := fun i u hi => by
                have hlt : gm < NB := by rw [← HNB.out]; exact hgm
                exact (World.cell?_of_block (w := wr) (a := ⟨gm, i, none⟩) (heap_alloc_old _ _ (by show gm < wr.heap.size; omega))).trans ((HBX.out.cell (p := ⟨gm, i, none⟩) hlt).trans (hcells i u hi))
              clear hcells hpm
              by_cases hc : cm = An
              · subst hc
                have hK0' : Kn = 0 := by omega
                have HK0 : Hid (Kn = 0) := hK0'
                have HEE : Hid (E1 = E) := show E1 = E by rw [← HE1.out, hK0']; simp
                clear hK0'
                go_wp2_with (first
                  | (at_builtin; refine wpList_append_own _ rfl _ _ 161 rfl NB 163 i0 (.agg #[.int .i64 0, .int .u8 0]) 2 16 Tryd.underlying161 hi hz0 hz1 hz2 rfl (by decide) _ _ _ rfl (HOX.out.alloc _) ⟨gm, 0, none⟩ Kn _ [] rfl (by rw [HK0.out]; rfl) (fun j u hj => by cases hj) (fun u hu => by cases hu) (by unfold maxLen; omega) (by omega) (by first | omega | (simp; omega)) ?_)
                  | fail)
                intro v' w' hown' hg' _
                obtain ⟨p', c', rfl⟩ := own_slice hown'
                have HB' : Hid (w'.heap[wr.heap.size]? = some (.cells #[.int .i64 (Kn : Int), .int .i64 D, .string ⟨U.toArray⟩] 151 (0, 0))) := grown_box (heap_alloc_new _ _) (HOX.out.alloc _) hg' (by intro c fz e; cases e)
                have HBW' : Hid (Below NB W2 w') := (HBX.out.alloc hNB _).grown hg' (by rw [World.size_alloc]; omega) fun k hk => (HOX.out.lt k hk).1
                have HO' : Hid (w'.ownsRow NB 163 2 (.slice p' (E.length + Kn) c') (E.length + Kn) (cellsC E)) := hown'
                clear hown' hg'
                go_wp2
                go_meet
                case rel =>
                  refine ⟨?_, HBW'.out, HB'.out⟩
                  have e : cellsC E1 = cellsC E := by rw [HEE.out]
                  rw [HE1l.out, e]; exact HO'.out
              · go_wp2_with (first
                  | (at_builtin; refine wpList_append_own _ rfl _ _ 161 rfl NB 163 i0 (.agg #[.int .i64 0, .int .u8 0]) 2 16 Tryd.underlying161 hi hz0 hz1 hz2 rfl (by decide) _ _ _ rfl (HOX.out.alloc _) ⟨gm, An * 2, none⟩ Kn _ (cellsC ((M.drop An).take Kn)) rfl (by rw [cellsC_len, List.length_take, List.length_drop]; congr 1; omega) (fun j u hj => by rw [Addr.add_lit]; exact HCL.out _ u (cellsC_window M An Kn j u hj)) (cellsC_one _) (by unfold maxLen; omega) (by omega) (by first | omega | (simp; omega)) ?_)
                  | fail)
                intro v' w' hown' hg' _
                obtain ⟨p', c', rfl⟩ := own_slice hown'
                have HB' : Hid (w'.heap[wr.heap.size]? = some (.cells #[.int .i64 (Kn : Int), .int .i64 D, .string ⟨U.toArray⟩] 151 (0, 0))) := grown_box (heap_alloc_new _ _) (HOX.out.alloc _) hg' (by intro c fz e; cases e)
                have HBW' : Hid (Below NB W2 w') := (HBX.out.alloc hNB _).grown hg' (by rw [World.size_alloc]; omega) fun k hk => (HOX.out.lt k hk).1
                have HO' : Hid (w'.ownsRow NB 163 2 (.slice p' (E.length + Kn) c') (E.length + Kn) (cellsC E ++ (cellsC ((M.drop An).take Kn)))) := hown'
                clear hown' hg'
                go_wp2
                go_meet
                case rel =>
                  refine ⟨?_, HBW'.out, HB'.out⟩
                  rw [← HE1.out, cellsC_append, List.length_append]
                  have e : ((M.drop An).take Kn).length = Kn := by rw [List.length_take, List.length_drop]; omega
                  rw [e]
                  exact HO'.out
          case rest =>
            obtain ⟨ho, hbc, hbox⟩ := hcut
            obtain ⟨p', c', rfl⟩ := own_slice ho
            obtain ⟨β, hβ⟩ : ∃ β, wr.heap.size = β := ⟨_, rfl⟩
            rw [hβ] at hbox ⊢
            have x0 : wc.cell? ⟨β, 0, none⟩ = some (.int .i64 (Kn : Int)) := Lib.cell_of_heap hbox 0
            have x1 : wc.cell? ⟨β, 1, none⟩ = some (.int .i64 D) := Lib.cell_of_heap hbox 1
            have x2 : wc.cell? ⟨β, 2, none⟩ = some (.string ⟨U.toArray⟩) := Lib.cell_of_heap hbox 2
            have hst : cmpU W2 NB E1 U β (.cells #[.int .i64 (Kn : Int), .int .i64 D, .string ⟨U.toArray⟩] 151 (0, 0)) U.length (.slice p' E1.length c') (.int .i64 0) wc := ⟨0, rfl, by omega, by simpa [putC] using ho, hbc, hbox⟩
            have HST : Hid (cmpU W2 NB E1 U β (.cells #[.int .i64 (Kn : Int), .int .i64 D, .string ⟨U.toArray⟩] 151 (0, 0)) U.length (.slice p' E1.length c') (.int .i64 0) wc) := hst
            clear hst ho hbc hbox hβ g0 g1 g2
            go_wp2
            go_loopg [16, 100] U.length (fun k u16 u100 wx => cmpU W2 NB E1 U β (.cells #[.int .i64 (Kn : Int), .int .i64 D, .string ⟨U.toArray⟩] 151 (0, 0)) k u16 u100 wx)
            case atStart => exact HST.out
            case round =>
              obtain ⟨z, rfl, hzk, hown, hbw, hbox⟩ := hrel
              clear HST x0 x1 x2
              obtain ⟨L2, hL2⟩ : ∃ L2, E1 ++ putC (U.take z) = L2 := ⟨_, rfl⟩
              have hLl2 : L2.length = E1.length + z := by rw [← hL2, List.length_append, putC_len, List.length_take]; omega
              have HL2 : Hid (E1 ++ putC (U.take z) = L2) := hL2
              rw [hL2] at hown
              obtain ⟨pm2, cm2, rfl⟩ := own_slice hown
              have HOX2 : Hid (wr.ownsRow NB 163 2 (.slice pm2 L2.length cm2) L2.length (cellsC L2)) := hown
              have HBX2 : Hid (Below NB W2 wr) := hbw
              have HBO : Hid (wr.heap[β]? = some (.cells #[.int .i64 (Kn : Int), .int .i64 D, .string ⟨U.toArray⟩] 151 (0, 0))) := hbox
              have y0 : wr.cell? ⟨β, 0, none⟩ = some (.int .i64 (Kn : Int)) := Lib.cell_of_heap HBO.out 0
              have y1 : wr.cell? ⟨β, 1, none⟩ = some (.int .i64 D) := Lib.cell_of_heap HBO.out 1
              have y2 : wr.cell? ⟨β, 2, none⟩ = some (.string ⟨U.toArray⟩) := Lib.cell_of_heap HBO.out 2
              have hwsx2 : NB ≤ wr.heap.size := by rw [← HNB.out]; exact hbw.size
              have hLs2 : L2.length < 3000000 := by omega
              clear hL2 hown hbw hbox
              by_cases hz : z < U.length
              · obtain ⟨kU, rfl⟩ : ∃ kU, gk = kU + 1 := ⟨gk - 1, by omega⟩
                have HZK : Hid (z + (kU + 1) = U.length) := hzk
                have hz' : (z : Int) < (U.length : Int) := by omega
                have HZ : Hid (z < U.length) := hz
                clear hzk hLl2 hz
                go_wp2_with (first
                  | (at_builtin; refine wpList_append_own _ rfl _ _ 161 rfl NB 163 i0 (.agg #[.int .i64 0, .int .u8 0]) 2 16 Tryd.underlying161 hi hz0 hz1 hz2 rfl (by decide) _ _ _ rfl (HOX2.out.alloc _) ⟨wr.heap.size, 0, none⟩ 1 1 (celCells (-1, U[z]'HZ.out)) rfl rfl (cells_new _ _ _) (celCells_one _) (by unfold maxLen; omega) (by omega) (by first | omega | (simp; omega)) ?_)
                  | fail)
                intro v' w' hown' hg' _
                obtain ⟨p', c', rfl⟩ := own_slice hown'
                have HB' : Hid (w'.heap[β]? = some (.cells #[.int .i64 (Kn : Int), .int .i64 D, .string ⟨U.toArray⟩] 151 (0, 0))) := grown_box ((heap_alloc_old _ _ (heap_lt HBO.out)).trans HBO.out) (HOX2.out.alloc _) hg' (by intro c fz e; cases e)
                have HBW' : Hid (Below NB W2 w') := (HBX2.out.alloc hwsx2 _).grown hg' (by rw [World.size_alloc]; omega) fun k hk => (HOX2.out.lt k hk).1
                have HO' : Hid (w'.ownsRow NB 163 2 (.slice p' (L2.length + 1) c') (L2.length + 1) (cellsC L2 ++ celCells (-1, U[z]'HZ.out))) := hown'
                clear hown' hg'
                go_wp2
                go_roundg kU
                case measure => omega
                case rel =>
                  have e1 : E1 ++ putC (U.take (z + 1)) = L2 ++ [(-1, U[z]'HZ.out)] := by rw [putC_snoc U z HZ.out, ← HL2.out, List.append_assoc]
                  refine ⟨z + 1, by go_num, by have := HZK.out; omega, ?_, HBW'.out, HB'.out⟩
                  rw [e1, cellsC_append, List.length_append]
                  exact HO'.out
              · obtain rfl : z = U.length := by omega
                obtain rfl : gk = 0 := by omega
                have hlt2 : ¬ (U.length : Int) < (U.length : Int) := by omega
                clear hzk hLl2 hz
                go_wp2
                go_roundg k
                case measure => omega
                case rel =>
                  have e1 : endP M (b.take (x + 1)) = L2 := by rw [HEND.out, ← HL2.out, List.take_length]
                  refine ⟨x + 1, by go_num, by have := HXK.out; omega, ?_, ?_, HBX2.out⟩
                  · rw [HLN.out]
                  · rw [e1]; exact HOX2.out
        · obtain rfl : x = lb := by have := HLB.out; omega
          obtain rfl : gk = 0 := by have := HLB.out; omega
          have eT : b.take x = b := List.take_of_length_le (by rw [HLB.out]; exact Nat.le_refl _)
          have HEE : Hid (endP (midP 0 a) b = E) := show endP (midP 0 a) b = E by rw [HME.out, ← HE.out, eT]
          have hok : okC n (endP (midP 0 a) b) 0 := ok_ends n b (midP 0 a) 0 (ones_sound F2.out.one) (ok_mid n a 0 F1.out.one (Int.le_refl 0) (by rw [HN.out]; omega))
          rw [HEE.out] at hok
          have HOK : Hid (okC n E 0) := hok
          have hN := HA1.out
          subst hN
          have hxx : ¬ (x : Int) < (x : Int) := by omega
          obtain ⟨NC, hNC⟩ : ∃ NC, wr.heap.size = NC := ⟨_, rfl⟩
          obtain ⟨W3, hW3⟩ : ∃ W3, wr = W3 := ⟨_, rfl⟩
          rw [hW3] at HOX HBX hNB hNC ⊢
          have HNC : Hid (W3.heap.size = NC) := hNC
          have HNBC : Hid (NB ≤ NC) := show NB ≤ NC by rw [← hNC]; exact hNB
          have hE0 : (0 : Int) ≤ (E.length : Int) := by omega
          clear hx hxk eT hok hW3 hNC
          go_upto_region 38 with fail
          go_cut [20] from 120 to 125 (fun u20 wc => ∃ g1 g2 q, u20 = .pointer (some ⟨q, 0, none⟩) ∧ gapR W3 NC g1 g2 q n (List.replicate (n + 1) []) (List.replicate n false) wc)
          case first =>
            have hm1 := mk_str n (by omega)
            have hm2 := mk_bool n (by omega)
            have hwn : IntKind.i64.wrap ((n : Int) + 1) = (n : Int) + 1 := by rw [IntKind.wrap_i64]; omega
            have hNCw := HNC.out
            have HNW : Hid _ := hNCw
            clear hNCw
            go_region
            all_goals
              have hm0 : n + 1 ≤ maxLen := by unfold maxLen; omega
              have hm3 : n ≤ maxLen := by omega
              go_wp2
              go_meet
              case rel =>
                first
                  | (refine ⟨W3.heap.size, W3.heap.size + 1, _, rfl, ?_, ?_, ?_, ?_, ?_, ?_⟩; rotate_left 2; (focus (simp [go_sem]; done)); (focus (simp [go_sem]; done)); (exact ⟨by omega, by omega, by omega⟩); (rw [← HNW.out]; exact below_three _ _ _ _); (rw [List.map_replicate]; first | exact (own_made _ NC _ _ _ _ (by simp) (by have := HNW.out; omega) hm0).drew | exact ((own_made _ NC _ _ _ _ (by simp) (by have := HNW.out; omega) hm0).alloc _).drew | exact (((own_made _ NC _ _ _ _ (by simp) (by have := HNW.out; omega) hm0).alloc _).alloc _).drew); (rw [List.map_replicate]; first | exact (own_made _ NC _ _ _ _ (by simp) (by have := HNW.out; omega) hm3).drew | exact ((own_made _ NC _ _ _ _ (by simp) (by have := HNW.out; omega) hm3).alloc _).drew | exact (((own_made _ NC _ _ _ _ (by simp) (by have := HNW.out; omega) hm3).alloc _).alloc _).drew))
                  | (refine ⟨W3.heap.size, W3.heap.size + 1 + 1, _, rfl, ?_, ?_, ?_, ?_, ?_, ?_⟩; rotate_left 2; (focus (simp [go_sem]; done)); (focus (simp [go_sem]; done)); (exact ⟨by omega, by omega, by omega⟩); (rw [← HNW.out]; exact below_three _ _ _ _); (rw [List.map_replicate]; first | exact (own_made _ NC _ _ _ _ (by simp) (by have := HNW.out; omega) hm0).drew | exact ((own_made _ NC _ _ _ _ (by simp) (by have := HNW.out; omega) hm0).alloc _).drew | exact (((own_made _ NC _ _ _ _ (by simp) (by have := HNW.out; omega) hm0).alloc _).alloc _).drew); (rw [List.map_replicate]; first | exact (own_made _ NC _ _ _ _ (by simp) (by have := HNW.out; omega) hm3).drew | exact ((own_made _ NC _ _ _ _ (by simp) (by have := HNW.out; omega) hm3).alloc _).drew | exact (((own_made _ NC _ _ _ _ (by simp) (by have := HNW.out; omega) hm3).alloc _).alloc _).drew))
                  | (refine ⟨W3.heap.size + 1, W3.heap.size + 1 + 1, _, rfl, ?_, ?_, ?_, ?_, ?_, ?_⟩; rotate_left 2; (focus (simp [go_sem]; done)); (focus (simp [go_sem]; done)); (exact ⟨by omega, by omega, by omega⟩); (rw [← HNW.out]; exact below_three _ _ _ _); (rw [List.map_replicate]; first | exact (own_made _ NC _ _ _ _ (by simp) (by have := HNW.out; omega) hm0).drew | exact ((own_made _ NC _ _ _ _ (by simp) (by have := HNW.out; omega) hm0).alloc _).drew | exact (((own_made _ NC _ _ _ _ (by simp) (by have := HNW.out; omega) hm0).alloc _).alloc _).drew); (rw [List.map_replicate]; first | exact (own_made _ NC _ _ _ _ (by simp) (by have := HNW.out; omega) hm3).drew | exact ((own_made _ NC _ _ _ _ (by simp) (by have := HNW.out; omega) hm3).alloc _).drew | exact (((own_made _ NC _ _ _ _ (by simp) (by have := HNW.out; omega) hm3).alloc _).alloc _).drew))
                  | (refine ⟨W3.heap.size + 1, W3.heap.size, _, rfl, ?_, ?_, ?_, ?_, ?_, ?_⟩; rotate_left 2; (focus (simp [go_sem]; done)); (focus (simp [go_sem]; done)); (exact ⟨by omega, by omega, by omega⟩); (rw [← HNW.out]; exact below_three _ _ _ _); (rw [List.map_replicate]; first | exact (own_made _ NC _ _ _ _ (by simp) (by have := HNW.out; omega) hm0).drew | exact ((own_made _ NC _ _ _ _ (by simp) (by have := HNW.out; omega) hm0).alloc _).drew | exact (((own_made _ NC _ _ _ _ (by simp) (by have := HNW.out; omega) hm0).alloc _).alloc _).drew); (rw [List.map_replicate]; first | exact (own_made _ NC _ _ _ _ (by simp) (by have := HNW.out; omega) hm3).drew | exact ((own_made _ NC _ _ _ _ (by simp) (by have := HNW.out; omega) hm3).alloc _).drew | exact (((own_made _ NC _ _ _ _ (by simp) (by have := HNW.out; omega) hm3).alloc _).alloc _).drew))
                  | (refine ⟨W3.heap.size + 1 + 1, W3.heap.size, _, rfl, ?_, ?_, ?_, ?_, ?_, ?_⟩; rotate_left 2; (focus (simp [go_sem]; done)); (focus (simp [go_sem]; done)); (exact ⟨by omega, by omega, by omega⟩); (rw [← HNW.out]; exact below_three _ _ _ _); (rw [List.map_replicate]; first | exact (own_made _ NC _ _ _ _ (by simp) (by have := HNW.out; omega) hm0).drew | exact ((own_made _ NC _ _ _ _ (by simp) (by have := HNW.out; omega) hm0).alloc _).drew | exact (((own_made _ NC _ _ _ _ (by simp) (by have := HNW.out; omega) hm0).alloc _).alloc _).drew); (rw [List.map_replicate]; first | exact (own_made _ NC _ _ _ _ (by simp) (by have := HNW.out; omega) hm3).drew | exact ((own_made _ NC _ _ _ _ (by simp) (by have := HNW.out; omega) hm3).alloc _).drew | exact (((own_made _ NC _ _ _ _ (by simp) (by have := HNW.out; omega) hm3).alloc _).alloc _).drew))
                  | (refine ⟨W3.heap.size + 1 + 1, W3.heap.size + 1, _, rfl, ?_, ?_, ?_, ?_, ?_, ?_⟩; rotate_left 2; (focus (simp [go_sem]; done)); (focus (simp [go_sem]; done)); (exact ⟨by omega, by omega, by omega⟩); (rw [← HNW.out]; exact below_three _ _ _ _); (rw [List.map_replicate]; first | exact (own_made _ NC _ _ _ _ (by simp) (by have := HNW.out; omega) hm0).drew | exact ((own_made _ NC _ _ _ _ (by simp) (by have := HNW.out; omega) hm0).alloc _).drew | exact (((own_made _ NC _ _ _ _ (by simp) (by have := HNW.out; omega) hm0).alloc _).alloc _).drew); (rw [List.map_replicate]; first | exact (own_made _ NC _ _ _ _ (by simp) (by have := HNW.out; omega) hm3).drew | exact ((own_made _ NC _ _ _ _ (by simp) (by have := HNW.out; omega) hm3).alloc _).drew | exact (((own_made _ NC _ _ _ _ (by simp) (by have := HNW.out; omega) hm3).alloc _).alloc _).drew))
          case rest =>
            obtain ⟨g1, g2, q, rfl, hgr⟩ := hcut
            have y0 := hgr.c0
            have y1 := hgr.c1
            have hst : cmpD W3 NC g1 g2 q n n (.int .i64 0) wc := ⟨0, rfl, by omega, by simpa using hgr⟩
            have HST : Hid (cmpD W3 NC g1 g2 q n n (.int .i64 0) wc) := hst
            clear hst hgr
            go_wp2
            go_loopg [129] n (fun k i wx => cmpD W3 NC g1 g2 q n k i wx)
            case atStart => exact HST.out
            case round =>
              obtain ⟨j2, rfl, hjk, hg⟩ := hrel
              have HG : Hid (gapR W3 NC g1 g2 q n (List.replicate (n + 1) []) (List.replicate j2 true ++ List.replicate (n - j2) false) wr) := hg
              clear HST y0 y1
              have z0 := hg.c0
              have z1 := hg.c1
              by_cases hj2 : j2 < n
              · obtain ⟨k, rfl⟩ : ∃ k, gk = k + 1 := ⟨gk - 1, by omega⟩
                have HJK : Hid (j2 + (k + 1) = n) := hjk
                have z2 : wr.cell? ⟨g2, j2, none⟩ = some (.bool false) := by
                  rw [hg.r2.cellAt j2 (by omega), List.getElem?_map, List.getElem?_append_right (by simp), List.length_replicate, Nat.sub_self, List.getElem?_replicate, if_pos (by omega)]; rfl
                have z3 : wr.frozen? ⟨g2, j2, none⟩ = false := hg.r2.frozenAt j2
                have hjn : (j2 : Int) < (n : Int) := by omega
                clear hg hjk
                go_wp2
                go_roundg k
                case measure => omega
                case rel =>
                  have e1 : (List.replicate j2 true ++ List.replicate (n - j2) false).set j2 true = List.replicate (j2 + 1) true ++ List.replicate (n - (j2 + 1)) false := by
                    rw [List.set_append_right _ _ (by simp), List.length_replicate, Nat.sub_self, show n - j2 = (n - (j2 + 1)) + 1 by omega, List.replicate_succ, List.set_cons_zero, List.replicate_succ' (n := j2), List.append_assoc]
                    rfl
                  have := gapR_drop HG.out j2 true
                  rw [e1] at this
                  exact ⟨j2 + 1, by go_num, by have := HJK.out; omega, this⟩
              · obtain rfl : j2 = n := by omega
                obtain rfl : gk = 0 := by omega
                have hjn : ¬ (j2 : Int) < (j2 : Int) := by omega
                have HGF : Hid (gapR W3 NC g1 g2 q j2 (cst0 j2).put (cst0 j2).drop wr) := by
                  have := HG.out
                  rw [Nat.sub_self, List.replicate_zero, List.append_nil] at this
                  exact this
                clear hg hjk hj2
                go_wp2
                have hst : cmpG W3 NC g1 g2 q j2 E E.length (.int .i64 0) (.int .i64 0) wr := ⟨0, rfl, by omega, rfl, HGF.out⟩
                have HST : Hid (cmpG W3 NC g1 g2 q j2 E E.length (.int .i64 0) (.int .i64 0) wr) := hst
                clear hst HG HGF z0 z1
                go_loopg [22, 139] E.length (fun k u22 i wx => cmpG W3 NC g1 g2 q j2 E k u22 i wx)
                case atStart => exact HST.out
                case round =>
                  obtain ⟨t, rfl, htk, rfl, hg⟩ := hrel
                  clear HST
                  have hinv := cinvs j2 E (okC_mem j2 E 0 (Int.le_refl 0) HOK.out) t (by omega)
                  obtain ⟨st, hst⟩ : ∃ st, (E.take t).foldl stepC (cst0 j2) = st := ⟨_, rfl⟩
                  rw [hst] at hg hinv ⊢
                  have HST4 : Hid ((E.take t).foldl stepC (cst0 j2) = st) := hst
                  have HG : Hid (gapR W3 NC g1 g2 q j2 st.put st.drop wr) := hg
                  have z0 := hg.c0
                  have z1 := hg.c1
                  have hNCw : NC ≤ wr.heap.size := by have := hg.below.size; have := HNC.out; omega
                  have hql : q < wr.heap.size := World.block_lt_of_cell? wr _ z0
                  have hg1l : g1 < wr.heap.size := (hg.r1.lt g1 rfl).2
                  have hg2l : g2 < wr.heap.size := (hg.r2.lt g2 rfl).2
                  clear hst
                  by_cases ht : t < E.length
                  · obtain ⟨k, rfl⟩ : ∃ k, gk = k + 1 := ⟨gk - 1, by omega⟩
                    have HTK : Hid (t + (k + 1) = E.length) := htk
                    obtain ⟨⟨i, c⟩, hx⟩ : ∃ z, E[t] = z := ⟨_, rfl⟩
                    have hEt : E[t]? = some (i, c) := by rw [List.getElem?_eq_getElem ht, hx]
                    have hfold : (E.take (t + 1)).foldl stepC (cst0 j2) = stepC st (i, c) := by
                      rw [List.take_succ_eq_append_getElem ht, List.foldl_append, HST4.out, hx]; rfl
                    have HFOLD : Hid ((E.take (t + 1)).foldl stepC (cst0 j2) = stepC st (i, c)) := hfold
                    have hxi := okC_mem j2 E 0 (Int.le_refl 0) HOK.out (i, c) (List.mem_of_getElem? hEt)
                    simp only at hxi
                    have hox := HOX.out
                    obtain ⟨ge, rfl, hge1, hge2⟩ : ∃ ge, pe = some ⟨ge, 0, none⟩ ∧ NB ≤ ge ∧ ge < W3.heap.size := by
                      rcases hox.2 with ⟨hx', h0⟩ | ⟨g, cap, cur, hx', hgb, hgg, _⟩
                      · omega
                      · simp only [Value.slice.injEq, true_and] at hx'
                        exact ⟨g, hx'.1, hgb, heap_lt hgg⟩
                    obtain ⟨e0, e1⟩ := cellsC_get E t (i, c) hEt
                    have q0 : wr.cell? ⟨ge, t * 2, none⟩ = some (.int .i64 i) := (hg.below.cell (p := ⟨ge, t * 2, none⟩) (by show ge < NC; rw [← HNC.out]; exact hge2)).trans ((hox.cellAt (t * 2) (by omega)).trans e0)
                    have q1 : wr.cell? ⟨ge, t * 2 + 1, none⟩ = some (.int .u8 (c.toNat : Int)) := (hg.below.cell (p := ⟨ge, t * 2 + 1, none⟩) (by show ge < NC; rw [← HNC.out]; exact hge2)).trans ((hox.cellAt (t * 2 + 1) (by omega)).trans e1)
                    have htE : (t : Int) < (E.length : Int) := by omega
                    obtain ⟨i1, i2, i3, i4⟩ := hinv
                    clear hox e0 e1 hfold htk hx hEt
                    by_cases hi : i < 0
                    · obtain ⟨u0, hu0⟩ : ∃ u0, st.put[st.last]? = some u0 := ⟨_, List.getElem?_eq_getElem (by omega)⟩
                      have hus : u0.length ≤ t := i4 u0 (List.mem_of_getElem? hu0)
                      have q2 : wr.cell? ⟨g1, st.last, none⟩ = some (.string ⟨u0.toArray⟩) := by
                        rw [hg.r1.cellAt st.last (by omega), List.getElem?_map, hu0]; rfl
                      have q3 : wr.frozen? ⟨g1, st.last, none⟩ = false := hg.r1.frozenAt st.last
                      have HSTEP : Hid (stepC st (i, c) = ⟨st.put.set st.last (u0 ++ [c]), st.drop, st.last⟩) := show stepC st (i, c) = ⟨st.put.set st.last (u0 ++ [c]), st.drop, st.last⟩ by
                        unfold stepC
                        rw [if_pos hi, hu0]; rfl
                      have hlast : (st.last : Int) < (j2 : Int) + 1 := by omega
                      have hsz : (ByteArray.mk u0.toArray).size + 1 ≤ 400000000 := by
                        have : (ByteArray.mk u0.toArray).size = u0.length := by simp [ByteArray.size]
                        omega
                      clear hg hu0 i4 hxi
                      go_upto_region 49 with fail
                      have hcv : (convert 125 9 (.slice (some ⟨wr.heap.size + 1, 0, none⟩) 1 1)).run Tryd.prog ((wr.alloc (.cells #[.int .i64 i, .int .u8 (c.toNat : Int)] 163)).alloc (.cells #[.int .u8 (c.toNat : Int)] 5)).drew = .ok (.string ⟨[c].toArray⟩) ((wr.alloc (.cells #[.int .i64 i, .int .u8 (c.toNat : Int)] 163)).alloc (.cells #[.int .u8 (c.toNat : Int)] 5)).drew := by
                        refine run_convert_bytes_back _ 125 9 5 ⟨wr.heap.size + 1, 0, none⟩ 1 [c] Tryd.underlying125 Tryd.underlying5 Tryd.underlying9 fun j hj => ?_
                        obtain rfl : j = 0 := by simpa using hj
                        simp [go_sem, Addr.add]
                      go_region
                      go_wp2
                      go_roundg k
                      case measure => omega
                      case rel =>
                        refine ⟨t + 1, by go_num, by have := HTK.out; omega, ?_, ?_⟩
                        · rw [HFOLD.out, HSTEP.out]
                        · rw [HFOLD.out, HSTEP.out]
                          have hg := gapR_put HG.out st.last (u0 ++ [c])
                          rw [← bytes_snoc] at hg
                          exact gapR_drew (gapR_alloc (gapR_alloc hg (by simpa using hNCw) _) (by simp; omega) _)
                    · have q4 : wr.frozen? ⟨g2, i.toNat, none⟩ = false := hg.r2.frozenAt i.toNat
                      have hi2 : 0 ≤ i ∧ i < (j2 : Int) := by
                        rcases hxi with h | h
                        · exact absurd h hi
                        · exact h
                      obtain ⟨iN, rfl⟩ : ∃ iN : Nat, i = (iN : Int) := ⟨i.toNat, by omega⟩
                      rw [Int.toNat_natCast] at q4
                      obtain ⟨dd, hdd⟩ : ∃ dd, st.drop[iN]? = some dd := ⟨_, List.getElem?_eq_getElem (by omega)⟩
                      have q2 : wr.cell? ⟨g2, iN, none⟩ = some (.bool dd) := by
                        rw [hg.r2.cellAt iN (by omega), List.getElem?_map, hdd]; rfl
                      have HSTEP : Hid (stepC st ((iN : Int), c) = ⟨st.put, st.drop.set iN false, iN + 1⟩) := show stepC st ((iN : Int), c) = ⟨st.put, st.drop.set iN false, iN + 1⟩ by
                        unfold stepC
                        rw [if_neg hi]
                        rfl
                      have hi3 := hi2.2
                      clear hg hdd i4 hxi hi2
                      go_wp2
                      go_roundg k
                      case measure => omega
                      case rel =>
                        refine ⟨t + 1, by go_num, by have := HTK.out; omega, ?_, ?_⟩
                        · rw [HFOLD.out, HSTEP.out]; go_num
                        · rw [HFOLD.out, HSTEP.out]; exact gapR_alloc (gapR_drop HG.out iN false) (by simpa using hNCw) _
                  · obtain rfl : t = E.length := by omega
                    obtain rfl : gk = 0 := by omega
                    have hrow := rows_gapE j2 E j2 [] [] [] 0 rfl rfl (by omega) HOK.out
                    have hcst : (⟨[] ++ [] :: List.replicate j2 [], [] ++ List.replicate j2 true, 0⟩ : CSt) = cst0 j2 := rfl
                    rw [hcst] at hrow
                    have hst' := HST4.out
                    rw [List.take_length] at hst'
                    rw [hst', List.nil_append, List.nil_append, show ((0 : Nat) : Int) = 0 from rfl] at hrow
                    obtain ⟨i1, i2, i3, i4⟩ := hinv
                    have hGl : (gapE j2 E [] 0).1.length = j2 := by
                      have e : (boolsG (gapE j2 E [] 0)).length = j2 := by rw [← hrow.2]; exact i2
                      simpa [boolsG] using e
                    have hGp : putsK (gapE j2 E [] 0).1 + (gapE j2 E [] 0).2.length < 1000000000 := by
                      have := puts_gapE j2 E [] 0
                      simp only [List.length_nil] at this
                      omega
                    have hGP := hg.r1
                    have hGD := hg.r2
                    rw [hrow.1] at hGP
                    rw [hrow.2] at hGD
                    have CG : Hid _ := Gather_any g1 g2 j2 (gapE j2 E [] 0) wr hGl (by omega) hGp
                      (fun i qq hi => by
                        have hlt := (List.getElem?_eq_some_iff.1 hi).1
                        have hl : (strsG (gapE j2 E [] 0)).length = j2 + 1 := by simp [strsG, hGl]
                        rw [hGP.cellAt i (by unfold strsG at hl; omega), List.getElem?_map, show (strsG (gapE j2 E [] 0))[i]? = some qq from hi]; rfl)
                      (fun i d hi => by
                        have hlt := (List.getElem?_eq_some_iff.1 hi).1
                        rw [List.length_map, hGl] at hlt
                        rw [hGD.cellAt i (by omega), List.getElem?_map, show (boolsG (gapE j2 E [] 0))[i]? = some d from hi]; rfl)
                      hg1l hg2l
                    have HBF : Hid (Below NC W3 wr) := hg.below
                    have htt : ¬ (E.length : Int) < (E.length : Int) := by omega
                    have HGG : Hid (endP (midP 0 a) b = E) := HEE
                    clear hg hrow hcst hst' i4 hGl hGp hGP hGD htk ht
                    go_wp2_with (first
                      | (go_at_call 50; refine Calls.mono CG.out ?_; rintro e w9 ⟨v9, rfl, o9, hb9⟩)
                      | fail)
                    obtain ⟨p9, c9, rfl⟩ := own_slice o9
                    go_ret2
                    refine ⟨_, rfl, ?_, ?_⟩
                    · rw [HGG.out]; exact opAt_own o9
                    · have k1 := HB3.out.trans (HBW.out.mono HB3.out.size)
                      have k2 := k1.trans (HBX.out.mono (show w.heap.size ≤ NB by rw [← HNB.out]; exact k1.size))
                      have k3 := k2.trans (HBF.out.mono (show w.heap.size ≤ NC by rw [← HNC.out]; exact k2.size))
                      exact k3.trans (hb9.mono k3.size)
end Go.Proofs.YtedonckeomccpaaDoor
