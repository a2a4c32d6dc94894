/-
  ops.checkOver: what it says of an operation over a text.
-/
import Derived.Test.YtedgnlgjmnccgabGreatDoorOpsOver
import Derived.Test.YtedgnlgjmnccgabGreatDoorOpsChk
import Derived.Test.YtedgnlgjmnccgabGreatDoorShelfR
namespace Go.Proofs.YtedgnlgjmnccgabGreatDoor
open Go.RowKit
set_option linter.unusedVariables false
attribute [local go_sem] Oper.semAt_some

/-- A byte that begins a rune. -/
def startO (b : UInt8) : Bool := Lib.runeStart (b.toNat : Int)
/-- A piece that begins within a rune. -/
def badPiece (l : List UInt8) : Bool := match l with
  | [] => false
  | b :: _ => !startO b
def badO : List Pt → List UInt8 → Bool
  | [], _ => false
  | p :: ps, s => badPiece (s.take (lenP p).toNat) || badO ps (s.drop (lenP p).toNat)
theorem badO_pcs (ps : List Pt) (s : List UInt8) : badO ps s = (pcs ps s).any fun x => badPiece x.2 := by
  induction ps generalizing s with
  | nil => rfl
  | cons p ps ih => simp [badO, pcs, ih]

theorem chkE_ok {ps : List Pt} {n : Int} (h : chkE ps n = 0) : ∀ p ∈ ps, soundP p := by
  unfold chkE at h
  split at h
  · rename_i h1
    exact fun p hp => (one_sound (chk1_ones h1 p hp).1).1
  · rename_i h1
    exact absurd h h1
theorem chk2_fits {ps : List Pt} {s : List UInt8} (hs : ∀ p ∈ ps, soundP p) (h : chk2 ps (s.length : Int) = 0) : fitsP ps s ∧ leftP ps s = [] := by
  induction ps generalizing s with
  | nil =>
    unfold chk2 at h
    refine ⟨trivial, ?_⟩
    split at h
    · exact List.eq_nil_of_length_eq_zero (by show s.length = 0; omega)
    · cases h
  | cons p ps ih =>
    unfold chk2 at h
    have hp := hs p (List.mem_cons_self ..)
    obtain ⟨h1, h2⟩ := hp
    split at h
    · cases h
    · rename_i h3
      have hl : lenP p = p.keep + p.drop := rfl
      have e : ((s.drop (lenP p).toNat).length : Int) = (s.length : Int) - (p.keep + p.drop) := by rw [List.length_drop]; omega
      rw [← e] at h
      obtain ⟨i1, i2⟩ := ih (fun q hq => hs q (List.mem_cons_of_mem _ hq)) h
      exact ⟨⟨h1, h2, by omega, i1⟩, i2⟩
theorem chkE_fits {ps : List Pt} {s : List UInt8} (h : chkE ps (s.length : Int) = 0) : fitsP ps s ∧ leftP ps s = [] := by
  have hs := chkE_ok h
  unfold chkE at h
  split at h
  · exact chk2_fits hs h
  · rename_i h1; exact absurd h h1

/-- What checkOver says. -/
def ordE (ps : List Pt) (s : List UInt8) : Int := if chkE ps (s.length : Int) = 0 then (if badO ps s then 10 else 0) else chkE ps (s.length : Int)

set_option maxRecDepth 100000 in
set_option maxHeartbeats 2000000 in
theorem checkOver_err (v : Value) (ps : List Pt) (s : List UInt8) (w : World) (hT : Lib.Utf8Tabs 2 3 w) (hr : opAt w v ps) (hwf : ∀ p ∈ ps, wfP p) (hs : s.length < 1000000000) (hl : ps.length < 10000000) (he : chkE ps (s.length : Int) ≠ 0) :
    Calls Tryz.prog 105 #[v, .string ⟨s.toArray⟩] w fun e w' => e = .returned (errV (ordE ps s)) ∧ Below w.heap.size w w' := by
  have cC : Hid (∀ wx, Below w.heap.size w wx → Calls Tryz.prog 92 #[v, .int .i64 (s.length : Int)] wx fun e w' => e = .returned (errV (chkE ps (s.length : Int))) ∧ Below wx.heap.size wx w') := fun wx hb => Check_any v ps _ wx (Go.Proofs.Utf8Tabs_below hT hb) (opAt_below hr hb (Nat.le_refl _)) hwf (by omega) hl
  unfold ordE
  rw [if_neg he]
  have hV : errV (chkE ps (s.length : Int)) = .iface 26 (.int .i64 (chkE ps (s.length : Int))) := by unfold errV; rw [if_neg he]
  rw [hV] at cC ⊢
  generalize chkE ps (s.length : Int) = E at *
  obtain ⟨p, c, rfl, _⟩ := hr
  clear hT hwf hV
  go_enter Tryz.func105, Tryz.ntmps105
  go_wp2_with (first | (go_at_call 92; refine (cC.out _ ((Below.refl _ _).alloc (Nat.le_refl _) _)).mono ?_; rintro e w1 ⟨rfl, hb1⟩; have c0 : w1.cell? ⟨w.heap.size, 0, none⟩ = some .nilIface := (hb1.cell (p := ⟨w.heap.size, 0, none⟩) (by simp)).trans (by simp [go_sem]); have c1 : w1.frozen? ⟨w.heap.size, 0, none⟩ = false := (hb1.frozen (p := ⟨w.heap.size, 0, none⟩) (by simp)).trans (by simp [go_sem])) | fail)
  refine bodyPost_ret (v := .iface 26 (.int .i64 E)) (by simp [results, Tryz.results105, go_sem, c0]) rfl ?_
  exact ⟨rfl, (((Below.refl _ _).alloc (Nat.le_refl _) _).trans (hb1.mono (by simp))).setCell (p := ⟨w.heap.size, 0, none⟩) (Nat.le_refl _) _⟩

set_option maxRecDepth 100000 in
set_option maxHeartbeats 4000000 in
theorem checkOver_fine (v : Value) (ps : List Pt) (s : List UInt8) (w : World) (hT : Lib.Utf8Tabs 2 3 w) (hr : opAt w v ps) (hwf : ∀ p ∈ ps, wfP p) (hs : s.length < 1000000000) (hl : ps.length < 10000000) (he : chkE ps (s.length : Int) = 0) :
    Calls Tryz.prog 105 #[v, .string ⟨s.toArray⟩] w fun e w' => e = .returned (errV (ordE ps s)) ∧ Below w.heap.size w w' := by
  have cC : Hid (∀ wx, Below w.heap.size w wx → Calls Tryz.prog 92 #[v, .int .i64 (s.length : Int)] wx fun e w' => e = .returned (errV (chkE ps (s.length : Int))) ∧ Below wx.heap.size wx w') := fun wx hb => Check_any v ps _ wx (Go.Proofs.Utf8Tabs_below hT hb) (opAt_below hr hb (Nat.le_refl _)) hwf (by omega) hl
  obtain ⟨hfit, hleft⟩ := chkE_fits he
  unfold ordE
  rw [if_pos he]
  have hV : errV (chkE ps (s.length : Int)) = .nilIface := by unfold errV; rw [if_pos he]
  rw [hV] at cC
  have HF : Hid (fitsP ps s) := hfit
  have HR : Hid (opAt w v ps) := hr
  have HSL : Hid (s.length < 1000000000) := hs
  have HLP : Hid (ps.length < 10000000) := hl
  have HBO : Hid (badO ps s = (pcs ps s).any fun x => badPiece x.2) := badO_pcs ps s
  obtain ⟨BB, hBB⟩ : ∃ BB, badO ps s = BB := ⟨_, rfl⟩
  have HBB : Hid (badO ps s = BB) := hBB
  rw [hBB]
  obtain ⟨V, hV0⟩ : ∃ V, errV (if BB = true then 10 else 0) = V := ⟨_, rfl⟩
  have HV : Hid (errV (if BB = true then 10 else 0) = V) := hV0
  rw [hV0]
  clear hV0
  have hrow : ∀ x o n c, v = .slice (some ⟨x, o, none⟩) n c → ps ≠ [] → x < w.heap.size := by
    intro x o n c e hne
    obtain ⟨p, c', rfl, _, _, h3⟩ := hr
    obtain ⟨b, o', e1, e2, _⟩ := h3 hne
    simp only [Value.slice.injEq] at e
    rw [e.1] at e1
    simp only [Option.some.injEq, Addr.mk.injEq] at e1
    rw [e1.1]; exact e2
  have HROW : Hid _ := hrow
  obtain ⟨p, c, rfl, _⟩ := hr
  clear hT hwf hV hfit hleft hrow he hBB
  have cO := fun (wx : World) => over_any p ps.length c ⟨s.toArray⟩ wx
  refine (callsIn_wide (n := 3)).1 ?_
  refine callsIn_of_wp_marks Tryz.func105 rfl trivial ?_ rfl
  simp only [Tryz.ntmps105, List.size_toArray, List.length_cons, List.length_nil, Nat.reduceAdd, Nat.reduceSub, Array.replicate_succ, Array.replicate_zero, List.push_toArray, List.append_toArray, List.nil_append, List.cons_append]
  gi_wp2_with (first
    | (refine ⟨trivial, ?_⟩; gi_at_call 92; refine (callsIn_wide.2 (cC.out _ ((Below.refl _ _).alloc (Nat.le_refl _) _))).mono ?_; rintro e w1 ⟨rfl, hb1⟩; have c0 : w1.cell? ⟨w.heap.size, 0, none⟩ = some .nilIface := (hb1.cell (p := ⟨w.heap.size, 0, none⟩) (by simp)).trans (by simp [go_sem]); have c1 : w1.frozen? ⟨w.heap.size, 0, none⟩ = false := (hb1.frozen (p := ⟨w.heap.size, 0, none⟩) (by simp)).trans (by simp [go_sem]))
    | (refine ⟨trivial, ?_⟩; gi_at_call 106; refine (callsIn_wide.2 (cO _)).mono ?_; rintro e w13 ⟨rfl, rfl⟩)
    | fail)
  have hb0 : Below w.heap.size w w1 := ((Below.refl _ _).alloc (Nat.le_refl _) _).trans (hb1.mono (by simp))
  have hlt1 : w.heap.size < w1.heap.size := World.block_lt_of_cell? w1 _ c0
  obtain ⟨sb, hsb⟩ : ∃ sb, w1.heap.size = sb := ⟨_, rfl⟩
  obtain ⟨W4, hW4⟩ : ∃ W4, W4 = (w1.alloc (.cells #[.slice p ps.length c] 23)).alloc (.cells #[.string ⟨s.toArray⟩] 9) := ⟨_, rfl⟩
  have hb4 : Below w.heap.size w W4 := by rw [hW4]; exact (hb0.alloc hb0.size _).alloc (by simp; omega) _
  have hs4 : W4.heap.size = sb + 2 := by rw [hW4, ← hsb]; simp
  have k0 : W4.cell? ⟨sb, 0, none⟩ = some (.slice p ps.length c) := by rw [hW4, ← hsb]; simp [go_sem]
  have k1 : W4.cell? ⟨sb + 1, 0, none⟩ = some (.string ⟨s.toArray⟩) := by rw [hW4, ← hsb]; simp [go_sem]
  have c0' : W4.cell? ⟨w.heap.size, 0, none⟩ = some .nilIface := by
    have hB : Below w1.heap.size w1 W4 := by rw [hW4]; exact ((Below.refl _ _).alloc (Nat.le_refl _) _).alloc (by simp) _
    exact (hB.cell (p := ⟨w.heap.size, 0, none⟩) hlt1).trans c0
  have c1' : W4.frozen? ⟨w.heap.size, 0, none⟩ = false := by
    have hB : Below w1.heap.size w1 W4 := by rw [hW4]; exact ((Below.refl _ _).alloc (Nat.le_refl _) _).alloc (by simp) _
    exact (hB.frozen (p := ⟨w.heap.size, 0, none⟩) hlt1).trans c1
  rw [← hW4, hsb]
  rw [hsb] at hlt1
  clear hW4 cC cO c0 c1 hb0 hb1 hsb
  refine wp_range_own (gf := 174) (lb := #[.pointer (some ⟨sb + 1, 0, none⟩), .pointer (some ⟨sb, 0, none⟩)]) rfl (enters_of Tryz.func174 (by kernel_rfl) rfl) (encs := fun _ (x : Pt × List UInt8) => #[partV x.1, .string ⟨x.2.toArray⟩]) (fun _ _ => rfl)
    (It := fun A B => Below A.heap.size A B ∧ sb + 4 ≤ A.heap.size) (Kp := fun A B => A.heap.size ≤ B.heap.size ∧ ∀ x, (x = sb ∨ x = sb + 1 ∨ x < w.heap.size) → B.heap[x]? = A.heap[x]?) (Z := fun _ => True) (S := fun xs => xs = pcs ps s) (Sp := fun pre => ∃ rest, pcs ps s = pre ++ rest)
    ?seq ?its (fun h k => ⟨Nat.le_trans h.1 k.1, fun x hx => (k.2 x hx).trans (h.2 x hx)⟩) ?hkb
    (fun pre W => Below w.heap.size w W ∧ sb + 4 ≤ W.heap.size ∧ W.cell? ⟨w.heap.size, 0, none⟩ = some .nilIface ∧ W.frozen? ⟨w.heap.size, 0, none⟩ = false ∧ (pre.any fun x => badPiece x.2) = false)
    (fun k pre W => k = .ret ∧ Below w.heap.size w W ∧ sb + 4 ≤ W.heap.size ∧ W.cell? ⟨w.heap.size, 0, none⟩ = some (.iface 26 (.int .i64 10)) ∧ (pre.any fun x => badPiece x.2) = true) (fun _ _ _ => trivial) (fun _ _ _ _ => trivial) ?ii ?ib ?ix ?ixb ?h0 ?round ?done ?stop
  case seq =>
    intro W hs1 hb1
    rw [hs4] at hs1 hb1
    have hb9 : Below w.heap.size w W := hb4.trans (hb1.mono (by omega))
    have := over_seq (.slice p ps.length c) ps s HSL.out HLP.out HF.out (fun x => (x = sb ∨ x = sb + 1 ∨ x < w.heap.size)) sb W ((hb1.cell (p := ⟨sb, 0, none⟩) (by show sb < _; omega)).trans k0) ((hb1.cell (p := ⟨sb + 1, 0, none⟩) (by show sb + 1 < _; omega)).trans k1) (opAt_below HR.out hb9 (Nat.le_refl _)) (.inl rfl) (.inr (.inl rfl)) (fun b o n c' e hne => .inr (.inr (HROW.out b o n c' e hne))) (by rintro x (rfl | rfl | hx) <;> omega) (fun _ => True)
    rw [hs1] at this
    exact this
  case its => exact fun A B h => Same2.of_below h.1 (by rw [hs4]; omega)
  case hkb =>
    intro A r
    rw [hs4]
    exact ⟨by simp, fun x hx => World.putObj_heap_other (by omega)⟩
  case ii =>
    rintro pre A B ⟨h1, h2, h3, h4, h5⟩ ⟨hb, hA⟩
    exact ⟨h1.trans (hb.mono h1.size), Nat.le_trans h2 hb.size, (hb.cell (p := ⟨w.heap.size, 0, none⟩) (by show w.heap.size < _; omega)).trans h3, (hb.frozen (p := ⟨w.heap.size, 0, none⟩) (by show w.heap.size < _; omega)).trans h4, h5⟩
  case ib =>
    rintro pre A r ⟨h1, h2, h3, h4, h5⟩
    rw [hs4]
    have hp := Put1.putObj (sb + 2 + 1) A (.loop r)
    exact ⟨h1.trans (hp.below (by omega)), by rw [hp.size]; exact h2, (hp.cell (by omega)).trans h3, (hp.frozen (by omega)).trans h4, h5⟩
  case ix =>
    rintro k pre A B ⟨h0, h1, h2, h3, h5⟩ ⟨hb, hA⟩
    exact ⟨h0, h1.trans (hb.mono h1.size), Nat.le_trans h2 hb.size, (hb.cell (p := ⟨w.heap.size, 0, none⟩) (by show w.heap.size < _; omega)).trans h3, h5⟩
  case ixb =>
    rintro k pre A r ⟨h0, h1, h2, h3, h5⟩
    rw [hs4]
    have hp := Put1.putObj (sb + 2 + 1) A (.loop r)
    exact ⟨h0, h1.trans (hp.below (by omega)), by rw [hp.size]; exact h2, (hp.cell (by omega)).trans h3, h5⟩
  case h0 =>
    rintro W hs hb _
    rw [hs4] at hs hb
    exact ⟨hb4.trans (hb.mono (by omega)), by omega, (hb.cell (p := ⟨w.heap.size, 0, none⟩) (by show w.heap.size < _; omega)).trans c0', (hb.frozen (p := ⟨w.heap.size, 0, none⟩) (by show w.heap.size < _; omega)).trans c1', rfl⟩
  case round =>
    rintro l pre x W ⟨h1, h2, h3, h4, h5⟩ hlW hSp
    rw [hs4] at hlW ⊢
    obtain ⟨q, T⟩ := x
    have HP5 : Hid ((pre.any fun x => badPiece x.2) = false) := h5
    have HB : Hid (Below w.heap.size w W) := h1
    clear h5 hSp h1 k0 k1 c0' c1' hb4
    unfold partV
    gi_wp2
    refine ⟨Same2.refl _ W, ⟨Nat.le_refl _, fun _ _ => trivial⟩, ?_⟩
    intro w2 hp _
    have hs2 : sb + 4 ≤ w2.heap.size := by rw [hp.size]; exact h2
    have y3 := (hp.cell (b := w.heap.size) (o := 0) (by omega)).trans h3
    have y4 := (hp.frozen (b := w.heap.size) (o := 0) (by omega)).trans h4
    have HB2 : Hid (Below w.heap.size w w2) := HB.out.trans (hp.below (by omega))
    clear h3 h4 hp hlW
    cases T with
    | nil =>
      gi_wp2_with (first | (refine ⟨trivial, ?_⟩) | fail)
      exact ⟨Same2.refl _ _, ⟨Nat.le_refl _, fun _ _ => rfl⟩, HB2.out, hs2, y3, y4, by rw [List.any_append, HP5.out]; rfl⟩
    | cons b T =>
      have cR : ∀ wx, Calls Tryz.prog 173 #[.int .u8 (((ByteArray.mk (b :: T).toArray)[0]'(by simp [ByteArray.size])).toNat : Int)] wx fun e w' => e = .returned (.bool (startO b)) ∧ w' = wx := fun wx => Tryz.utf8_RuneStart (b.toNat : Int) wx (by omega) (by have := b.toNat_lt; omega)
      by_cases hst : startO b = true
      · rw [hst] at cR
        have HB5 : Hid (((pre ++ [(q, b :: T)]).any fun x => badPiece x.2) = false) := by
          show _ = _
          rw [List.any_append, HP5.out]
          simp [badPiece, hst]
        clear hst
        gi_wp2_with (first | (refine ⟨trivial, rfl, ?_⟩; refine (CallsIn.inRound l (callsIn_wide.2 (cR _))).mono ?_; rintro e wx ⟨rfl, hwx⟩; obtain rfl := hwx.symm) | fail)
        exact ⟨Same2.refl _ _, ⟨Nat.le_refl _, fun _ _ => rfl⟩, HB2.out, hs2, y3, y4, HB5.out⟩
      · have hst : startO b = false := Bool.eq_false_iff.2 hst
        rw [hst] at cR
        have HB5 : Hid (((pre ++ [(q, b :: T)]).any fun x => badPiece x.2) = true) := by
          show _ = _
          rw [List.any_append]
          simp [badPiece, hst]
        clear hst
        gi_wp2_with (first | (refine ⟨trivial, rfl, ?_⟩; refine (CallsIn.inRound l (callsIn_wide.2 (cR _))).mono ?_; rintro e wx ⟨rfl, hwx⟩; obtain rfl := hwx.symm) | fail)
        refine ⟨(Same2.refl _ _).setCell (by show w.heap.size ≠ _; omega) (by show w.heap.size ≠ _; omega) _, ⟨by simp, fun x hx => ?_⟩, rfl, HB2.out.setCell (p := ⟨w.heap.size, 0, none⟩) (Nat.le_refl _) _, by simpa using hs2, World.cell?_setCell_same _ _ _ y3, HB5.out⟩
        exact Below.heap_setCell _ _ _ _ (by show x ≠ w.heap.size; omega)
  case done =>
    rintro xs W rfl ⟨h1, h2, h3, h4, h5⟩ hDef
    rw [hs4] at hDef ⊢
    have HB : Hid (Below w.heap.size w W) := h1
    have HE : Hid (BB = false) := by
      show _ = _
      rw [← HBB.out, HBO.out]
      exact h5
    clear h1 h5 k0 k1 c0' c1' hb4
    gi_wp2
    have hDef' : (W.setCell ⟨w.heap.size, 0, none⟩ .nilIface).heap[sb + 2]? = some (.deferred (some [])) := (Below.heap_setCell _ _ _ _ (by show sb + 2 ≠ w.heap.size; omega)).trans hDef
    have hP := Put1.putObj (sb + 2) (W.setCell ⟨w.heap.size, 0, none⟩ .nilIface) (.deferred none)
    have p0 := (hP.cell (b := w.heap.size) (o := 0) (by omega)).trans (World.cell?_setCell_same _ _ .nilIface h3)
    refine ⟨by simp, .inl ⟨_, _, rfl, run_takeDeferred hDef', ?_⟩⟩
    refine ⟨.nilIface, by simp [results, Tryz.results105, go_sem, p0], ?_, (HB.out.setCell (p := ⟨w.heap.size, 0, none⟩) (Nat.le_refl _) _).trans (hP.below (by omega))⟩
    rw [← HV.out, HE.out]
    rfl
  case stop =>
    rintro k pre W ⟨rest, hsp⟩ ⟨rfl, h1, h2, h3, h5⟩ hDef
    rw [hs4] at hDef ⊢
    have HB : Hid (Below w.heap.size w W) := h1
    have HE : Hid (BB = true) := by
      show _ = _
      rw [← HBB.out, HBO.out, hsp, List.any_append, h5]
      rfl
    clear h1 h5 k0 k1 c0' c1' hb4
    gi_wp2
    have hP := Put1.putObj (sb + 2) W (.deferred none)
    have p0 := (hP.cell (b := w.heap.size) (o := 0) (by omega)).trans h3
    refine ⟨by simp, .inl ⟨_, _, rfl, run_takeDeferred hDef, ?_⟩⟩
    refine ⟨.iface 26 (.int .i64 10), by simp [results, Tryz.results105, go_sem, p0], ?_, HB.out.trans (hP.below (by omega))⟩
    rw [← HV.out, HE.out]
    rfl

theorem checkOver_any (v : Value) (ps : List Pt) (s : List UInt8) (w : World) (hT : Lib.Utf8Tabs 2 3 w) (hr : opAt w v ps) (hwf : ∀ p ∈ ps, wfP p) (hs : s.length < 1000000000) (hl : ps.length < 10000000) :
    Calls Tryz.prog 105 #[v, .string ⟨s.toArray⟩] w fun e w' => e = .returned (errV (ordE ps s)) ∧ Below w.heap.size w w' := by
  by_cases he : chkE ps (s.length : Int) = 0
  · exact checkOver_fine v ps s w hT hr hwf hs hl he
  · exact checkOver_err v ps s w hT hr hwf hs hl he
end Go.Proofs.YtedgnlgjmnccgabGreatDoor
