/-
  room.New, where there is one.
-/
import Derived.Test.YtedgnlgjmnccgabGreatDoorRoomQuiet
import Derived.Test.YtedgnlgjmnccgabGreatDoorSrvNew
import Derived.Test.YtedgnlgjmnccgabGreatDoorAppNew
namespace Go.Proofs.YtedgnlgjmnccgabGreatDoor
open Go.RowKit Go.Maps
set_option linter.unusedVariables false
attribute [local go_sem] Oper.semAt_some yieldsUpon okUpon

/-- A slice of numbers. -/
def intsAt (w : World) (v : Value) (us : List Int) : Prop := ∃ p c, v = .slice p us.length c ∧ us.length ≤ c ∧ c ≤ maxLen ∧ (us ≠ [] → ∃ b o, p = some ⟨b, o, none⟩ ∧ b < w.heap.size ∧ ∀ (i : Nat) (u : Int), us[i]? = some u → w.cell? ⟨b, o + i, none⟩ = some (.int .i64 u))
def firstR (s : List UInt8) (us : List Int) : Rm := ⟨s, [], fun _ => none, 0, us.map fun u => (u, clFirst s), [], 0⟩
theorem firstR_inv {s : List UInt8} (hV : V s) (hs : s.length ≤ 2000) {us : List Int} (hu : ∀ u ∈ us, unitOk u) : Inv (s.length : Int) 0 [s] (firstR s us) ∧ Inv2 (firstR s us) ∧ potR (firstR s us) = 0 := by
  have hcl : ∀ (k : Nat) (q : Int × Cl), (firstR s us).cl[k]? = some q → q.2 = clFirst s ∧ unitOk q.1 := fun k q hq => by
    have hq : (us.map fun u => (u, clFirst s))[k]? = some q := hq
    rw [List.getElem?_map] at hq
    cases h : us[k]? with
    | none => rw [h] at hq; cases hq
    | some u =>
      rw [h] at hq
      obtain rfl := Option.some.inj hq
      exact ⟨rfl, hu u (List.mem_of_getElem? h)⟩
  refine ⟨⟨⟨hV, hs, by omega, by omega, trivial, rfl⟩, ⟨rfl, fun k hk => ?_, rfl⟩, ⟨rfl, fun i x d hx => ?_, fun d hd => ?_⟩, Nat.zero_le _, fun k q hq => ?_, fun p hp => ?_, Nat.zero_le _⟩, ⟨fun k q hq => ?_, fun p hp => ?_⟩, rfl⟩
  · obtain rfl : k = 0 := Nat.le_zero.1 hk
    exact ⟨s, rfl, rfl⟩
  · simp [firstR] at hx
  · rw [List.mem_singleton.1 hd]; exact ⟨hV, hs⟩
  · obtain ⟨e, h1⟩ := hcl k q hq
    obtain ⟨u, S⟩ := q
    obtain rfl : S = clFirst s := e
    exact ⟨h1, okK_first hV, Int.le_refl _, rfl, ⟨Int.le_refl _, by simp [clFirst]⟩, ⟨Int.le_refl _, by simp [clFirst]⟩⟩
  · simp [firstR] at hp
  · obtain ⟨e, h1⟩ := hcl k q hq
    rw [e]
    refine ⟨Int.le_refl _, fun _ => rfl, fun j x _ hx => ?_, fun hm => absurd rfl hm, by show (0 : Int) ≠ 8; decide⟩
    simp [firstR] at hx
  · simp [firstR] at hp
/-- A client more. -/
theorem isCls_snoc {lo : Nat} {w w' : World} {bs : List Nat} {cl : List (Int × Cl)} (h : isCls lo w bs cl) (hb : Below w.heap.size w w') {b : Nat} {u : Int} {S : Cl} (hc : isCl lo w' b (bs.length : Int) u S) (hn : w.heap.size ≤ b) (own1 : ∀ x, ownC w' b x → x = b) : isCls lo w' (bs ++ [b]) (cl ++ [(u, S)]) := by
  have h' := isCls_below h hb
  have old : ∀ (j c x : Nat), bs[j]? = some c → ownC w' c x → x < w.heap.size := fun j c x hc hx => by
    have hj : j < cl.length := by rw [← h.len]; exact (List.getElem?_eq_some_iff.1 hc).1
    have hcl := h.each j c cl[j] hc (List.getElem?_eq_getElem hj)
    have := ownC_same (X := fun _ => False) (sameBut_below hb _) (isCl_lt hcl) id hx
    exact (ownC_of hcl this).2.1
  have at_ : ∀ (j c : Nat), (bs ++ [b])[j]? = some c → bs[j]? = some c ∨ j = bs.length ∧ c = b := fun j c hc => by
    rcases Nat.lt_or_ge j bs.length with hj | hj
    · rw [List.getElem?_append_left hj] at hc; exact .inl hc
    · have : j < (bs ++ [b]).length := (List.getElem?_eq_some_iff.1 hc).1
      have hje : j = bs.length := by simp at this; omega
      subst hje
      rw [List.getElem?_append_right (Nat.le_refl _), Nat.sub_self] at hc
      exact .inr ⟨rfl, (Option.some.inj hc).symm⟩
  refine ⟨by simp [h.len], fun k c q hk hq => ?_, fun j k c c' hj hk hne x hx hx' => ?_⟩
  · rcases at_ k c hk with hk | ⟨rfl, rfl⟩
    · have hkl : k < cl.length := by rw [← h.len]; exact (List.getElem?_eq_some_iff.1 hk).1
      rw [List.getElem?_append_left hkl] at hq
      exact h'.each k c q hk hq
    · rw [h.len, List.getElem?_append_right (Nat.le_refl _), Nat.sub_self] at hq
      obtain rfl : (u, S) = q := by simpa using hq
      exact hc
  · rcases at_ j c hj with hj1 | ⟨ej, ec⟩
    · rcases at_ k c' hk with hk1 | ⟨ek, ec'⟩
      · exact h'.apart j k c c' hj1 hk1 hne x hx hx'
      · have h1 := old j c x hj1 hx
        rw [ec'] at hx'
        have h2 := own1 x hx'
        omega
    · rcases at_ k c' hk with hk1 | ⟨ek, ec'⟩
      · have h1 := old k c' x hk1 hx'
        rw [ec] at hx
        have h2 := own1 x hx
        omega
      · exact hne (ej.trans ek.symm)
theorem info_ptr : (Tryz.prog.info? 93).map (fun i => (i.zero, i.size, i.bytes)) = some (some (.pointer none), 1, 8) := by kernel_rfl
theorem new_one (w : World) (v : Value) (T : TypeId) (j : Nat) (u : Value) (hj : [v][j]? = some u) : (w.alloc (.cells #[v] T)).cell? ((⟨w.heap.size, 0, none⟩ : Addr).add j) = some u := by
  have hj0 : j = 0 := by have := (List.getElem?_eq_some_iff.1 hj).1; simp at this; exact this
  subst hj0
  rw [Addr.add_lit]
  have := Lib.cell_of_heap (heap_alloc_new w (.cells #[v] T)) 0
  obtain rfl : v = u := by simpa using hj
  exact this
/-- What there is while clients are made. -/
structure NewI (lo : Nat) (s : List UInt8) (us : List Int) (r bx bmx : Nat) (vc : Value) (bs : List Nat) (k : Nat) (w : World) : Prop where
  low : lo ≤ r
  len : bs.length = k
  blk : w.heap[r]? = some (.cells #[.pointer (some ⟨bx, 0, none⟩), vc, .slice none 0 0, .int .i64 0] 215 (0, 0))
  row : w.ownsRow lo 93 1 vc bs.length (ptrs bs)
  cls : isCls lo w bs ((us.take k).map fun u => (u, clFirst s))
  srv : isSrv lo 0 w bx bmx s [] (fun _ => none)
theorem NewI.below {lo : Nat} {s : List UInt8} {us : List Int} {r bx bmx : Nat} {vc : Value} {bs : List Nat} {k : Nat} {w w' : World} (h : NewI lo s us r bx bmx vc bs k w) (hb : Below w.heap.size w w') : NewI lo s us r bx bmx vc bs k w' :=
  ⟨h.low, h.len, (hb.block r (Array.getElem?_eq_some_iff.1 h.blk).1).trans h.blk, own_below h.row hb, isCls_below h.cls hb, isSrv_below h.srv hb⟩
theorem NewI.push {lo : Nat} {s : List UInt8} {us : List Int} {r bx bmx : Nat} {vc : Value} {bs : List Nat} {k : Nat} {w w1 : World} (h : NewI lo s us r bx bmx vc bs k w) (hb : Below w.heap.size w w1) {b : Nat} {u : Int} (hu : us[k]? = some u) (hc : isCl lo w1 b (k : Int) u (clFirst s)) (hn : w.heap.size ≤ b) (own1 : ∀ x, ownC w1 b x → x = b) (w2 : World) (hb2 : Below w1.heap.size w1 w2) :
    w2.ownsRow lo 93 1 vc bs.length (ptrs bs) ∧ ∀ w6 v2, w6.ownsRow lo 93 1 v2 (bs.length + 1) (ptrs bs ++ [.pointer (some ⟨b, 0, none⟩)]) → w2.grownBy w6 vc.ownBlock →
      w6.cell? ⟨r, 1, none⟩ = some vc ∧ w6.frozen? ⟨r, 1, none⟩ = false ∧ NewI lo s us r bx bmx v2 (bs ++ [b]) (k + 1) (w6.setCell ⟨r, 1, none⟩ v2) := by
  have hbb : Below w.heap.size w w2 := hb.trans (hb2.mono hb.size)
  have h2 := h.below hbb
  have hcl2 := isCls_below (isCls_snoc h.cls hb (b := b) (u := u) (S := clFirst s) (by rw [h.len]; exact hc) hn own1) hb2
  have hown := fun k => own_cells (k := k) h2.row
  refine ⟨h2.row, fun w6 v2 hnew hg => ?_⟩
  have hnb : some r ≠ vc.ownBlock := fun e => by
    obtain ⟨_, _, cs, hc⟩ := hown r e.symm
    have := not_type h2.blk hc
    revert this; decide
  have hb6 := (hg.block r (Array.getElem?_eq_some_iff.1 h2.blk).1 hnb).trans h2.blk
  have hfin := heap_setCell_same w6 r 1 _ _ v2 hb6
  have hS : sameBut w2 (w6.setCell ⟨r, 1, none⟩ v2) (fun k => k = r ∨ vc.ownBlock = some k) := (sameBut_grown (S := fun k => k = r ∨ vc.ownBlock = some k) hg fun k e => .inr e).comp (sameBut_set (S := fun k => k = r ∨ vc.ownBlock = some k) (.inl rfl)) fun k _ h => h
  have hX : ∀ k, k < w2.heap.size → (k = r ∨ vc.ownBlock = some k) → lo ≤ k ∧ ∃ cs T, w2.heap[k]? = some (.cells cs T (0, 0)) ∧ (T = 215 ∨ T = 93) := fun k hk e => by
    rcases e with rfl | e
    · exact ⟨h.low, _, _, h2.blk, .inl rfl⟩
    · obtain ⟨a, _, cs, hc⟩ := hown k e
      exact ⟨a, cs, _, hc, .inr rfl⟩
  have hpl : ptrs (bs ++ [b]) = ptrs bs ++ [.pointer (some ⟨b, 0, none⟩)] := by simp [ptrs]
  have hul : k < us.length := (List.getElem?_eq_some_iff.1 hu).1
  have htk : us.take (k + 1) = us.take k ++ [u] := by rw [List.take_add_one, hu]; rfl
  refine ⟨Lib.cell_of_heap hb6 1, frozen_block hb6, h.low, by simp [h.len], hfin, ?_, ?_, isSrv_other h2.srv hS fun x hx e => ?_⟩
  · rw [hpl, List.length_append]
    refine own_same (S := fun k => k = r) hnew (sameBut_set rfl) fun k hk e => ?_
    subst e
    obtain ⟨_, _, cs, hc⟩ := own_cells hnew hk
    have := not_type hb6 hc
    revert this; decide
  · rw [htk, List.map_append]
    refine isCls_but hcl2 hS (fun x hx e => ?_) fun c hc x e hx => ?_
    · obtain ⟨a, cs, T, hc, hT⟩ := hX x hx e
      exact ⟨a, noPart_of hc (by rcases hT with rfl | rfl <;> decide)⟩
    · obtain ⟨_, hlt, cs, T, hc', hT⟩ := cls_own hcl2 hc hx
      obtain ⟨_, cs2, T2, hc2, hT2⟩ := hX x hlt e
      have := not_type hc' hc2
      subst this
      rcases hT with rfl | rfl <;> rcases hT2 with e | e <;> revert e <;> decide
  · obtain ⟨a, cs, T, hc, hT⟩ := hX x hx e
    exact ⟨a, cs, T, _, hc, by rcases hT with rfl | rfl <;> decide, by rcases hT with rfl | rfl <;> decide, by rcases hT with rfl | rfl <;> decide⟩
set_option maxRecDepth 100000 in
set_option maxHeartbeats 2000000 in
theorem rmNew_good (s : List UInt8) (hV : V s) (hs : s.length ≤ 2000) (us : List Int) (hu : ∀ u ∈ us, unitOk u) (hul : us.length ≤ 6) (v : Value) (lo : Nat) (w : World) (he : Env lo w) (hlo : lo ≤ w.heap.size) (hus : intsAt w v us) :
    Calls Tryz.prog 60 #[.string ⟨s.toArray⟩, v] w fun e w' => ∃ r bx bmx bs, e = .returned (.tuple #[.pointer (some ⟨r, 0, none⟩), .nilIface]) ∧ isRoom lo w' r bx bmx bs (firstR s us) ∧ Below w.heap.size w w' ∧ w.heap.size ≤ r := by
  have hsc := V_scan hV
  have CN : Hid _ := srvNew_good lo s hs hsc w hlo he.tabs
  have CC : Hid (∀ wx (k : Int) (u : Int), Below w.heap.size w wx → unitOk u → Calls Tryz.prog 46 #[.int .i64 k, .int .i64 u, .string ⟨s.toArray⟩] wx fun e w' => ∃ b, e = .returned (.tuple #[.pointer (some ⟨b, 0, none⟩), .nilIface]) ∧ isCl lo w' b k u (clFirst s) ∧ wx.heap.size ≤ b ∧ Below wx.heap.size wx w' ∧ ∀ x, ownC w' b x → x = b) := fun wx k u hb hu => by
    obtain ⟨rs, hR, rfl⟩ := hV
    obtain ⟨m, hm, hmu⟩ : ∃ m : Nat, u = (m : Int) ∧ unitN m := by
      rcases hu with rfl | rfl | rfl
      · exact ⟨1, rfl, .inl rfl⟩
      · exact ⟨2, rfl, .inr (.inl rfl)⟩
      · exact ⟨3, rfl, .inr (.inr rfl)⟩
    rw [hm]
    have hc1 : (encs rs).length = C1 rs := (C1_len rs).symm
    exact clNew_good k lo m hmu rs hR (by omega) wx (Nat.le_trans hlo hb.size) (Go.Proofs.Utf8Tabs_below he.tabs hb)
  obtain ⟨p, c, rfl, q1, q2, q3⟩ := hus
  have HUS : Hid _ := q3
  have HU : Hid (∀ u ∈ us, unitOk u) := hu
  have HLO : Hid (lo ≤ w.heap.size) := hlo
  obtain ⟨N, hN⟩ : ∃ N, us.length = N := ⟨_, rfl⟩
  have HN : Hid (us.length = N) := hN
  rw [hN] at q1 hul ⊢
  unfold maxLen at q2
  have hNi : (N : Int) ≤ 6 := by omega
  have hNj : ¬ (6 : Int) < (N : Int) := by omega
  obtain ⟨i0, hi0, hq0, hq1, hq2⟩ := info_parts info_ptr
  clear he hlo hV hs hsc hu q3 hN
  go_enter Tryz.func60, Tryz.ntmps60
  go_wp2_with (first
    | (go_at_call 36; refine Calls.mono CN.out ?_; rintro e w1 ⟨bx, bmx, rfl, h1, hm1, hb1⟩; have H1 : Hid _ := h1; have HB1 : Hid (Below w.heap.size w w1) := hb1; clear h1 hb1 hm1)
    | fail)
  have hb2 : Below w1.heap.size w1 (w1.alloc (.cells #[.pointer (some ⟨bx, 0, none⟩), .slice none 0 0, .slice none 0 0, .int .i64 0] 215)) := (Below.refl _ _).alloc (Nat.le_refl _) _
  have HI : Hid (NewI lo s us w1.heap.size bx bmx (.slice none 0 0) [] 0 (w1.alloc (.cells #[.pointer (some ⟨bx, 0, none⟩), .slice none 0 0, .slice none 0 0, .int .i64 0] 215))) :=
    ⟨Nat.le_trans HLO.out HB1.out.size, rfl, heap_alloc_new _ _, World.ownsRow_nil _ _ _ _, ⟨rfl, fun k b q hk => by simp at hk, fun j k b b' hj => by simp at hj⟩, isSrv_below H1.out hb2⟩
  have HB2 : Hid (Below w.heap.size w (w1.alloc (.cells #[.pointer (some ⟨bx, 0, none⟩), .slice none 0 0, .slice none 0 0, .int .i64 0] 215))) := HB1.out.trans (hb2.mono HB1.out.size)
  obtain ⟨r, hr⟩ : ∃ r, w1.heap.size = r := ⟨_, rfl⟩
  rw [hr] at HI ⊢
  have HRW : Hid (w.heap.size ≤ r) := hr ▸ HB1.out.size
  clear hb2 hr
  go_loopw [30] (fun i wr => ∃ k : Nat, i = .int .i64 k ∧ k ≤ N ∧ ∃ vc bs, NewI lo s us r bx bmx vc bs k wr ∧ Below w.heap.size w wr ∧ ∀ j, vc.ownBlock = some j → w.heap.size ≤ j) (fun i _ => N - (intOf i).toNat)
  case atStart => exact ⟨0, rfl, Nat.zero_le _, _, [], HI.out, HB2.out, fun j hj => by cases hj⟩
  case round =>
    obtain ⟨k, rfl, hk, vc, bs, h1, h2, h3⟩ := hrel
    have HI1 : Hid _ := h1
    have HW1 : Hid (Below w.heap.size w wr) := h2
    have hki : (k : Int) ≤ 6 := by omega
    clear HI HB2
    by_cases hlt : k < N
    · have hki2 : (k : Int) < (N : Int) := by omega
      have hkul : k < us.length := by rw [HN.out]; exact hlt
      have hku : us[k]? = some us[k] := List.getElem?_eq_getElem hkul
      have hne : us ≠ [] := fun e => by have := HN.out; rw [e] at this; simp at this; omega
      obtain ⟨b0, o, rfl, hb0, hat⟩ := HUS.out hne
      have g0 := (h2.cell (p := ⟨b0, o + k, none⟩) hb0).trans (hat k _ hku)
      have hou := HU.out _ (List.getElem_mem hkul)
      have HKU : Hid (us[k]? = some us[k]) := hku
      generalize us[k] = u at *
      have CCK : Hid _ := CC.out wr (k : Int) u h2 hou
      obtain ⟨pc, cc, evc⟩ := own_slice h1.row
      subst evc
      have hrow := h1.row
      have hlen := h1.len
      have hcm : bs.length ≤ 6 := by omega
      have HOWN : Hid (∀ j, (Value.slice pc bs.length cc).ownBlock = some j → w.heap.size ≤ j) := h3
      clear h1 h2 h3 hat hku hne hou hrow hlen
      go_wp2_with (first
        | (go_at_call 46; refine Calls.mono CCK.out ?_
           rintro e w3 ⟨b, rfl, hc3, hn3, hb3, ho3⟩
           have hpush := fun w2 hb2 => NewI.push HI1.out hb3 HKU.out hc3 hn3 ho3 w2 hb2
           have HP : Hid _ := hpush
           have HB3 : Hid (Below w.heap.size w w3) := HW1.out.trans (hb3.mono HW1.out.size)
           have x1 : w3.cell? ⟨r, 1, none⟩ = some (.slice pc bs.length cc) := (hb3.cell (p := ⟨r, 1, none⟩) (Array.getElem?_eq_some_iff.1 HI1.out.blk).1).trans (Lib.cell_of_heap HI1.out.blk 1)
           have hr3 : r < w3.heap.size := Nat.lt_of_lt_of_le (Array.getElem?_eq_some_iff.1 HI1.out.blk).1 hb3.size
           clear hpush hc3 hn3 hb3 ho3)
        | (at_builtin
           obtain ⟨hrow2, hfin2⟩ := HP.out _ ((Below.refl _ _).alloc (Nat.le_refl _) (.cells #[.pointer (some ⟨b, 0, none⟩)] 93))
           have HF : Hid _ := hfin2
           have HBA : Hid (Below w.heap.size w (w3.alloc (.cells #[.pointer (some ⟨b, 0, none⟩)] 93))) := HB3.out.alloc HB3.out.size _
           refine wpList_append_new _ rfl _ _ 212 rfl lo 93 i0 (.pointer none) 1 8 Tryz.underlying212 hi0 hq0 hq1 hq2 rfl (by decide) _ _ _ rfl hrow2 ⟨w3.heap.size, 0, none⟩ 1 1 [.pointer (some ⟨b, 0, none⟩)] rfl rfl (new_one _ _ _) (fun u hu => by rw [List.mem_singleton.1 hu]; rfl) (by unfold maxLen; omega) (by omega) (by have h1 := HLO.out; have h2 := HBA.out.size; omega) (by omega) ?_
           clear hfin2 hrow2)
        | fail)
      intro v2 w6 hown' hg' hvn
      obtain ⟨y1, y2, y3⟩ := HF.out w6 v2 hown' hg'
      have Y3 : Hid _ := y3
      have HB6 : Hid (Below w.heap.size w (w6.setCell ⟨r, 1, none⟩ v2)) := (HBA.out.grown hg' HBA.out.size fun j hj => HOWN.out j hj).setCell (p := ⟨r, 1, none⟩) HRW.out v2
      have HVN : Hid (∀ j, v2.ownBlock = some j → w.heap.size ≤ j) := fun j hj => (hvn j hj).elim (HOWN.out j) fun h => by have h1 := HBA.out.size; rw [World.size_alloc] at h1; have h : w3.heap.size + 1 ≤ j := h; omega
      obtain ⟨p6, c6, rfl⟩ := own_slice hown'
      clear hown' hg' y3 hvn
      go_wp2
      go_roundw
      case rel => exact ⟨k + 1, by go_num, by omega, _, _, Y3.out, HB6.out, HVN.out⟩
      case measure => simp [intOf]; omega
    · obtain rfl : k = N := by omega
      have hki2 : ¬ ((k : Int) < (k : Int)) := by omega
      go_wp2
      go_ret2
      refine ⟨r, rfl, ⟨bx, bmx, bs, ?_⟩, HW1.out, HRW.out⟩
      have h := HI1.out
      have hc := h.cls
      rw [List.take_of_length_le (Nat.le_of_eq HN.out)] at hc
      exact ⟨h.low, ⟨_, _, h.blk, h.row, isPks_nil _ _ _⟩, hc, h.srv⟩
end Go.Proofs.YtedgnlgjmnccgabGreatDoor
