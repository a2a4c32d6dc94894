/-
  ops.checkOver: what it says of an operation over a text.
  rosettaref's edge, and what it says of an operation's parts.
  The document's own Count, of a sound text.
  The document's Splice: as rope.Splice tells it.
  A splice, by the program and by the document: what both tell, put side by side.
  LoopOwn's law for a body that never leaves its loop: the iterator is asked for rounds that all go on.
  rope's chunks: the iterator that calls itself through a variable.
  rope's chunks: what a range over them is given, in their order.
  The library's contracts that these texts use, laid at this program by the shelf's own command, its plain mode.
  strings.Builder, as this program's text has it: what is written is behind what was.
  LoopOwn's law once more: what its rounds begin with knows the loop's first block, too.
  ops.Apply: what an operation makes of a text.
  rope.Text: all of a document.
  rosettalaw.RopeGreat: the law's own walk.
  rosettakeep's document and pick.
  A place is a place (pure): there and back.
-/
import Derived.Test.YtgmgkbbnciglhaaDoorPartG
import Derived.Test.YtgmgkbbnciglhaaDoorPartC
import Derived.Test.YtgmgkbbnciglhaaDoorPartE
import Derived.Test.YtgmgkbbnciglhaaDoorPartB
import Derived.Test.YtgmgkbbnciglhaaDoorPartD
import Derived.Stop.RegionWithIn
import Derived.Sort.QuietIn
import Derived.Lib.FrozenHead
import Derived.Test.YtgmgkbbnciglhaaDoorPartF
import Derived.Laws.EntriesVeiled
import Derived.Shelf.Strings.Builder1
import Derived.Shelf.Small.Utf8
import Derived.Shelf.Strings.BuilderF
import Derived.Shelf.Strings.BuilderK
import Derived.Shelf.Utf8.AppendRune
import Derived.Shelf.Utf8.AppendRunePlain
import Derived.Shelf.Utf8.RuneCount
import Derived.Shelf.LaysM
import Derived.Shelf.Strconv.Clone
import Derived.Shelf.Strings.Search1
import Derived.Shelf.Strings.Search2
import Derived.Shelf.Strings.Search3
import Derived.Shelf.Strings.Count
import Derived.Shelf.Strings.Shaped
import Derived.Shelf.Strings.Split
import Derived.Shelf.Unicode.Decode
import Derived.Shelf.Strings.RuneCount
import Derived.Shelf.Unicode.DecodeSlow
import Derived.Shelf.Unicode.DecodeAny
import Derived.Shelf.Strings.BuilderCap
import Derived.Test.YtgmgkbbnciglhaaDoorProg
import Derived.Lib.Builder
import Derived.Lib.OthersKept
import Derived.Test.YtgmgkbbnciglhaaDoorPartA
namespace Go.Proofs.YtgmgkbbnciglhaaDoor
open Go.RowKit
set_option linter.unusedVariables false
attribute [local go_sem] Oper.semAt_some

/-- A byte that begins a rune. -/
def startO (b : UInt8) : Bool := Lib.runeStart (b.toNat : Int)
/-- A piece that begins within a rune. -/
def badPiece (l : List UInt8) : Bool := match l with
  | [] => false
  | b :: _ => !startO b
def badO : List Pt → List UInt8 → Bool
  | [], _ => false
  | p :: ps, s => badPiece (s.take (lenP p).toNat) || badO ps (s.drop (lenP p).toNat)
theorem badO_pcs (ps : List Pt) (s : List UInt8) : badO ps s = (pcs ps s).any fun x => badPiece x.2 := by
  induction ps generalizing s with
  | nil => rfl
  | cons p ps ih => simp [badO, pcs, ih]

theorem chkE_ok {ps : List Pt} {n : Int} (h : chkE ps n = 0) : ∀ p ∈ ps, soundP p := by
  unfold chkE at h
  split at h
  · rename_i h1
    exact fun p hp => (one_sound (chk1_ones h1 p hp).1).1
  · rename_i h1
    exact absurd h h1
theorem chk2_fits {ps : List Pt} {s : List UInt8} (hs : ∀ p ∈ ps, soundP p) (h : chk2 ps (s.length : Int) = 0) : fitsP ps s ∧ leftP ps s = [] := by
  induction ps generalizing s with
  | nil =>
    unfold chk2 at h
    refine ⟨trivial, ?_⟩
    split at h
    · exact List.eq_nil_of_length_eq_zero (by show s.length = 0; omega)
    · cases h
  | cons p ps ih =>
    unfold chk2 at h
    have hp := hs p (List.mem_cons_self ..)
    obtain ⟨h1, h2⟩ := hp
    split at h
    · cases h
    · rename_i h3
      have hl : lenP p = p.keep + p.drop := rfl
      have e : ((s.drop (lenP p).toNat).length : Int) = (s.length : Int) - (p.keep + p.drop) := by rw [List.length_drop]; omega
      rw [← e] at h
      obtain ⟨i1, i2⟩ := ih (fun q hq => hs q (List.mem_cons_of_mem _ hq)) h
      exact ⟨⟨h1, h2, by omega, i1⟩, i2⟩
theorem chkE_fits {ps : List Pt} {s : List UInt8} (h : chkE ps (s.length : Int) = 0) : fitsP ps s ∧ leftP ps s = [] := by
  have hs := chkE_ok h
  unfold chkE at h
  split at h
  · exact chk2_fits hs h
  · rename_i h1; exact absurd h h1

/-- What checkOver says. -/
def ordE (ps : List Pt) (s : List UInt8) : Int := if chkE ps (s.length : Int) = 0 then (if badO ps s then 10 else 0) else chkE ps (s.length : Int)

theorem str_size (s : List UInt8) : (ByteArray.mk s.toArray).size = s.length := by simp [ByteArray.size]

set_option maxRecDepth 100000 in
set_option maxHeartbeats 2000000 in
theorem checkOver_err (v : Value) (ps : List Pt) (s : List UInt8) (w : World) (hT : Lib.Utf8Tabs 0 1 w) (hr : opAt w v ps) (hwf : ∀ p ∈ ps, wfP p) (hs : s.length < 1000000000) (hl : ps.length < 10000000) (he : chkE ps (s.length : Int) ≠ 0) :
    Calls Tryd.prog 99 #[v, .string ⟨s.toArray⟩] w fun e w' => e = .returned (errV (ordE ps s)) ∧ Below w.heap.size w w' := by
  have cC : Hid (∀ wx, Below w.heap.size w wx → Calls Tryd.prog 43 #[v, .int .i64 (s.length : Int)] wx fun e w' => e = .returned (errV (chkE ps (s.length : Int))) ∧ Below wx.heap.size wx w') := fun wx hb => Check_any v ps _ wx (Go.Proofs.Utf8Tabs_below hT hb) (opAt_below hr hb (Nat.le_refl _)) hwf (by omega) hl
  unfold ordE
  rw [if_neg he]
  have hV : errV (chkE ps (s.length : Int)) = .iface 23 (.int .i64 (chkE ps (s.length : Int))) := by unfold errV; rw [if_neg he]
  rw [hV] at cC ⊢
  generalize chkE ps (s.length : Int) = E at *
  obtain ⟨p, c, rfl, _⟩ := hr
  clear hT hwf hV
  go_enter Tryd.func99, Tryd.ntmps99
  go_wp2_with (first | (go_at_call 43; refine (cC.out _ ((Below.refl _ _).alloc (Nat.le_refl _) _)).mono ?_; rintro e w1 ⟨rfl, hb1⟩; have c0 : w1.cell? ⟨w.heap.size, 0, none⟩ = some .nilIface := (hb1.cell (p := ⟨w.heap.size, 0, none⟩) (by simp)).trans (by simp [go_sem]); have c1 : w1.frozen? ⟨w.heap.size, 0, none⟩ = false := (hb1.frozen (p := ⟨w.heap.size, 0, none⟩) (by simp)).trans (by simp [go_sem])) | fail)
  refine bodyPost_ret (v := .iface 23 (.int .i64 E)) (by simp [results, Tryd.results99, go_sem, c0]) rfl ?_
  exact ⟨rfl, (((Below.refl _ _).alloc (Nat.le_refl _) _).trans (hb1.mono (by simp))).setCell (p := ⟨w.heap.size, 0, none⟩) (Nat.le_refl _) _⟩

set_option maxRecDepth 100000 in
set_option maxHeartbeats 4000000 in
theorem checkOver_fine (v : Value) (ps : List Pt) (s : List UInt8) (w : World) (hT : Lib.Utf8Tabs 0 1 w) (hr : opAt w v ps) (hwf : ∀ p ∈ ps, wfP p) (hs : s.length < 1000000000) (hl : ps.length < 10000000) (he : chkE ps (s.length : Int) = 0) :
    Calls Tryd.prog 99 #[v, .string ⟨s.toArray⟩] w fun e w' => e = .returned (errV (ordE ps s)) ∧ Below w.heap.size w w' := by
  have cC : Hid (∀ wx, Below w.heap.size w wx → Calls Tryd.prog 43 #[v, .int .i64 (s.length : Int)] wx fun e w' => e = .returned (errV (chkE ps (s.length : Int))) ∧ Below wx.heap.size wx w') := fun wx hb => Check_any v ps _ wx (Go.Proofs.Utf8Tabs_below hT hb) (opAt_below hr hb (Nat.le_refl _)) hwf (by omega) hl
  obtain ⟨hfit, hleft⟩ := chkE_fits he
  unfold ordE
  rw [if_pos he]
  have hV : errV (chkE ps (s.length : Int)) = .nilIface := by unfold errV; rw [if_pos he]
  rw [hV] at cC
  have HF : Hid (fitsP ps s) := hfit
  have HR : Hid (opAt w v ps) := hr
  have HSL : Hid (s.length < 1000000000) := hs
  have HLP : Hid (ps.length < 10000000) := hl
  have HBO : Hid (badO ps s = (pcs ps s).any fun x => badPiece x.2) := badO_pcs ps s
  obtain ⟨BB, hBB⟩ : ∃ BB, badO ps s = BB := ⟨_, rfl⟩
  have HBB : Hid (badO ps s = BB) := hBB
  rw [hBB]
  obtain ⟨V, hV0⟩ : ∃ V, errV (if BB = true then 10 else 0) = V := ⟨_, rfl⟩
  have HV : Hid (errV (if BB = true then 10 else 0) = V) := hV0
  rw [hV0]
  clear hV0
  have hrow : ∀ x o n c, v = .slice (some ⟨x, o, none⟩) n c → ps ≠ [] → x < w.heap.size := by
    intro x o n c e hne
    obtain ⟨p, c', rfl, _, _, h3⟩ := hr
    obtain ⟨b, o', e1, e2, _⟩ := h3 hne
    simp only [Value.slice.injEq] at e
    rw [e.1] at e1
    simp only [Option.some.injEq, Addr.mk.injEq] at e1
    rw [e1.1]; exact e2
  have HROW : Hid _ := hrow
  obtain ⟨p, c, rfl, _⟩ := hr
  clear hT hwf hV hfit hleft hrow he hBB
  have cO := fun (wx : World) => over_any p ps.length c ⟨s.toArray⟩ wx
  refine (callsIn_wide (n := 3)).1 ?_
  refine callsIn_of_wp_marks Tryd.func99 rfl trivial ?_ rfl
  simp only [Tryd.ntmps99, List.size_toArray, List.length_cons, List.length_nil, Nat.reduceAdd, Nat.reduceSub, Array.replicate_succ, Array.replicate_zero, List.push_toArray, List.append_toArray, List.nil_append, List.cons_append]
  gi_wp2_with (first
    | (refine ⟨trivial, ?_⟩; gi_at_call 43; refine (callsIn_wide.2 (cC.out _ ((Below.refl _ _).alloc (Nat.le_refl _) _))).mono ?_; rintro e w1 ⟨rfl, hb1⟩; have c0 : w1.cell? ⟨w.heap.size, 0, none⟩ = some .nilIface := (hb1.cell (p := ⟨w.heap.size, 0, none⟩) (by simp)).trans (by simp [go_sem]); have c1 : w1.frozen? ⟨w.heap.size, 0, none⟩ = false := (hb1.frozen (p := ⟨w.heap.size, 0, none⟩) (by simp)).trans (by simp [go_sem]))
    | (refine ⟨trivial, ?_⟩; gi_at_call 100; refine (callsIn_wide.2 (cO _)).mono ?_; rintro e w13 ⟨rfl, rfl⟩)
    | fail)
  have hb0 : Below w.heap.size w w1 := ((Below.refl _ _).alloc (Nat.le_refl _) _).trans (hb1.mono (by simp))
  have hlt1 : w.heap.size < w1.heap.size := World.block_lt_of_cell? w1 _ c0
  obtain ⟨sb, hsb⟩ : ∃ sb, w1.heap.size = sb := ⟨_, rfl⟩
  obtain ⟨W4, hW4⟩ : ∃ W4, W4 = (w1.alloc (.cells #[.slice p ps.length c] 84)).alloc (.cells #[.string ⟨s.toArray⟩] 9) := ⟨_, rfl⟩
  have hb4 : Below w.heap.size w W4 := by rw [hW4]; exact (hb0.alloc hb0.size _).alloc (by simp; omega) _
  have hs4 : W4.heap.size = sb + 2 := by rw [hW4, ← hsb]; simp
  have k0 : W4.cell? ⟨sb, 0, none⟩ = some (.slice p ps.length c) := by rw [hW4, ← hsb]; simp [go_sem]
  have k1 : W4.cell? ⟨sb + 1, 0, none⟩ = some (.string ⟨s.toArray⟩) := by rw [hW4, ← hsb]; simp [go_sem]
  have c0' : W4.cell? ⟨w.heap.size, 0, none⟩ = some .nilIface := by
    have hB : Below w1.heap.size w1 W4 := by rw [hW4]; exact ((Below.refl _ _).alloc (Nat.le_refl _) _).alloc (by simp) _
    exact (hB.cell (p := ⟨w.heap.size, 0, none⟩) hlt1).trans c0
  have c1' : W4.frozen? ⟨w.heap.size, 0, none⟩ = false := by
    have hB : Below w1.heap.size w1 W4 := by rw [hW4]; exact ((Below.refl _ _).alloc (Nat.le_refl _) _).alloc (by simp) _
    exact (hB.frozen (p := ⟨w.heap.size, 0, none⟩) hlt1).trans c1
  rw [← hW4, hsb]
  rw [hsb] at hlt1
  clear hW4 cC cO c0 c1 hb0 hb1 hsb
  refine wp_range_own (gf := 138) (lb := #[.pointer (some ⟨sb + 1, 0, none⟩), .pointer (some ⟨sb, 0, none⟩)]) rfl (enters_of Tryd.func138 (by kernel_rfl) rfl) (encs := fun _ (x : Pt × List UInt8) => #[partV x.1, .string ⟨x.2.toArray⟩]) (fun _ _ => rfl)
    (It := fun A B => Below A.heap.size A B ∧ sb + 4 ≤ A.heap.size) (Kp := fun A B => A.heap.size ≤ B.heap.size ∧ ∀ x, (x = sb ∨ x = sb + 1 ∨ x < w.heap.size) → B.heap[x]? = A.heap[x]?) (Z := fun _ => True) (S := fun xs => xs = pcs ps s) (Sp := fun pre => ∃ rest, pcs ps s = pre ++ rest)
    ?seq ?its (fun h k => ⟨Nat.le_trans h.1 k.1, fun x hx => (k.2 x hx).trans (h.2 x hx)⟩) ?hkb
    (fun pre W => Below w.heap.size w W ∧ sb + 4 ≤ W.heap.size ∧ W.cell? ⟨w.heap.size, 0, none⟩ = some .nilIface ∧ W.frozen? ⟨w.heap.size, 0, none⟩ = false ∧ (pre.any fun x => badPiece x.2) = false)
    (fun k pre W => k = .ret ∧ Below w.heap.size w W ∧ sb + 4 ≤ W.heap.size ∧ W.cell? ⟨w.heap.size, 0, none⟩ = some (.iface 23 (.int .i64 10)) ∧ (pre.any fun x => badPiece x.2) = true) (fun _ _ _ => trivial) (fun _ _ _ _ => trivial) ?ii ?ib ?ix ?ixb ?h0 ?round ?done ?stop
  case seq =>
    intro W hs1 hb1
    rw [hs4] at hs1 hb1
    have hb9 : Below w.heap.size w W := hb4.trans (hb1.mono (by omega))
    have := over_seq (.slice p ps.length c) ps s HSL.out HLP.out HF.out (fun x => (x = sb ∨ x = sb + 1 ∨ x < w.heap.size)) sb W ((hb1.cell (p := ⟨sb, 0, none⟩) (by show sb < _; omega)).trans k0) ((hb1.cell (p := ⟨sb + 1, 0, none⟩) (by show sb + 1 < _; omega)).trans k1) (opAt_below HR.out hb9 (Nat.le_refl _)) (.inl rfl) (.inr (.inl rfl)) (fun b o n c' e hne => .inr (.inr (HROW.out b o n c' e hne))) (by rintro x (rfl | rfl | hx) <;> omega) (fun _ => True)
    rw [hs1] at this
    exact this
  case its => exact fun A B h => Same2.of_below h.1 (by rw [hs4]; omega)
  case hkb =>
    intro A r
    rw [hs4]
    exact ⟨by simp, fun x hx => World.putObj_heap_other (by omega)⟩
  case ii =>
    rintro pre A B ⟨h1, h2, h3, h4, h5⟩ ⟨hb, hA⟩
    exact ⟨h1.trans (hb.mono h1.size), Nat.le_trans h2 hb.size, (hb.cell (p := ⟨w.heap.size, 0, none⟩) (by show w.heap.size < _; omega)).trans h3, (hb.frozen (p := ⟨w.heap.size, 0, none⟩) (by show w.heap.size < _; omega)).trans h4, h5⟩
  case ib =>
    rintro pre A r ⟨h1, h2, h3, h4, h5⟩
    rw [hs4]
    have hp := Put1.putObj (sb + 2 + 1) A (.loop r)
    exact ⟨h1.trans (hp.below (by omega)), by rw [hp.size]; exact h2, (hp.cell (by omega)).trans h3, (hp.frozen (by omega)).trans h4, h5⟩
  case ix =>
    rintro k pre A B ⟨h0, h1, h2, h3, h5⟩ ⟨hb, hA⟩
    exact ⟨h0, h1.trans (hb.mono h1.size), Nat.le_trans h2 hb.size, (hb.cell (p := ⟨w.heap.size, 0, none⟩) (by show w.heap.size < _; omega)).trans h3, h5⟩
  case ixb =>
    rintro k pre A r ⟨h0, h1, h2, h3, h5⟩
    rw [hs4]
    have hp := Put1.putObj (sb + 2 + 1) A (.loop r)
    exact ⟨h0, h1.trans (hp.below (by omega)), by rw [hp.size]; exact h2, (hp.cell (by omega)).trans h3, h5⟩
  case h0 =>
    rintro W hs hb _
    rw [hs4] at hs hb
    exact ⟨hb4.trans (hb.mono (by omega)), by omega, (hb.cell (p := ⟨w.heap.size, 0, none⟩) (by show w.heap.size < _; omega)).trans c0', (hb.frozen (p := ⟨w.heap.size, 0, none⟩) (by show w.heap.size < _; omega)).trans c1', rfl⟩
  case round =>
    rintro l pre x W ⟨h1, h2, h3, h4, h5⟩ hlW hSp
    rw [hs4] at hlW ⊢
    obtain ⟨q, T⟩ := x
    have HP5 : Hid ((pre.any fun x => badPiece x.2) = false) := h5
    have HB : Hid (Below w.heap.size w W) := h1
    clear h5 hSp h1 k0 k1 c0' c1' hb4
    unfold partV
    gi_wp2
    refine ⟨Same2.refl _ W, ⟨Nat.le_refl _, fun _ _ => trivial⟩, ?_⟩
    intro w2 hp _
    have hs2 : sb + 4 ≤ w2.heap.size := by rw [hp.size]; exact h2
    have y3 := (hp.cell (b := w.heap.size) (o := 0) (by omega)).trans h3
    have y4 := (hp.frozen (b := w.heap.size) (o := 0) (by omega)).trans h4
    have HB2 : Hid (Below w.heap.size w w2) := HB.out.trans (hp.below (by omega))
    clear h3 h4 hp hlW
    cases T with
    | nil =>
      gi_wp2_with (first | (refine ⟨trivial, ?_⟩) | fail)
      exact ⟨Same2.refl _ _, ⟨Nat.le_refl _, fun _ _ => rfl⟩, HB2.out, hs2, y3, y4, by rw [List.any_append, HP5.out]; rfl⟩
    | cons b T =>
      have cR : ∀ wx, Calls Tryd.prog 137 #[.int .u8 (((ByteArray.mk (b :: T).toArray)[0]'(by simp [ByteArray.size])).toNat : Int)] wx fun e w' => e = .returned (.bool (startO b)) ∧ w' = wx := fun wx => Tryd.utf8_RuneStart (b.toNat : Int) wx (by omega) (by have := b.toNat_lt; omega)
      by_cases hst : startO b = true
      · rw [hst] at cR
        have HB5 : Hid (((pre ++ [(q, b :: T)]).any fun x => badPiece x.2) = false) := by
          show _ = _
          rw [List.any_append, HP5.out]
          simp [badPiece, hst]
        clear hst
        gi_wp2_with (first | (refine ⟨trivial, rfl, ?_⟩; refine (CallsIn.inRound l (callsIn_wide.2 (cR _))).mono ?_; rintro e wx ⟨rfl, hwx⟩; obtain rfl := hwx.symm) | fail)
        exact ⟨Same2.refl _ _, ⟨Nat.le_refl _, fun _ _ => rfl⟩, HB2.out, hs2, y3, y4, HB5.out⟩
      · have hst : startO b = false := Bool.eq_false_iff.2 hst
        rw [hst] at cR
        have HB5 : Hid (((pre ++ [(q, b :: T)]).any fun x => badPiece x.2) = true) := by
          show _ = _
          rw [List.any_append]
          simp [badPiece, hst]
        clear hst
        gi_wp2_with (first | (refine ⟨trivial, rfl, ?_⟩; refine (CallsIn.inRound l (callsIn_wide.2 (cR _))).mono ?_; rintro e wx ⟨rfl, hwx⟩; obtain rfl := hwx.symm) | fail)
        refine ⟨(Same2.refl _ _).setCell (by show w.heap.size ≠ _; omega) (by show w.heap.size ≠ _; omega) _, ⟨by simp, fun x hx => ?_⟩, rfl, HB2.out.setCell (p := ⟨w.heap.size, 0, none⟩) (Nat.le_refl _) _, by simpa using hs2, World.cell?_setCell_same _ _ _ y3, HB5.out⟩
        exact Below.heap_setCell _ _ _ _ (by show x ≠ w.heap.size; omega)
  case done =>
    rintro xs W rfl ⟨h1, h2, h3, h4, h5⟩ hDef
    rw [hs4] at hDef ⊢
    have HB : Hid (Below w.heap.size w W) := h1
    have HE : Hid (BB = false) := by
      show _ = _
      rw [← HBB.out, HBO.out]
      exact h5
    clear h1 h5 k0 k1 c0' c1' hb4
    gi_wp2
    have hDef' : (W.setCell ⟨w.heap.size, 0, none⟩ .nilIface).heap[sb + 2]? = some (.deferred (some [])) := (Below.heap_setCell _ _ _ _ (by show sb + 2 ≠ w.heap.size; omega)).trans hDef
    have hP := Put1.putObj (sb + 2) (W.setCell ⟨w.heap.size, 0, none⟩ .nilIface) (.deferred none)
    have p0 := (hP.cell (b := w.heap.size) (o := 0) (by omega)).trans (World.cell?_setCell_same _ _ .nilIface h3)
    refine ⟨by simp, .inl ⟨_, _, rfl, run_takeDeferred hDef', ?_⟩⟩
    refine ⟨.nilIface, by simp [results, Tryd.results99, go_sem, p0], ?_, (HB.out.setCell (p := ⟨w.heap.size, 0, none⟩) (Nat.le_refl _) _).trans (hP.below (by omega))⟩
    rw [← HV.out, HE.out]
    rfl
  case stop =>
    rintro k pre W ⟨rest, hsp⟩ ⟨rfl, h1, h2, h3, h5⟩ hDef
    rw [hs4] at hDef ⊢
    have HB : Hid (Below w.heap.size w W) := h1
    have HE : Hid (BB = true) := by
      show _ = _
      rw [← HBB.out, HBO.out, hsp, List.any_append, h5]
      rfl
    clear h1 h5 k0 k1 c0' c1' hb4
    gi_wp2
    have hP := Put1.putObj (sb + 2) W (.deferred none)
    have p0 := (hP.cell (b := w.heap.size) (o := 0) (by omega)).trans h3
    refine ⟨by simp, .inl ⟨_, _, rfl, run_takeDeferred hDef, ?_⟩⟩
    refine ⟨.iface 23 (.int .i64 10), by simp [results, Tryd.results99, go_sem, p0], ?_, HB.out.trans (hP.below (by omega))⟩
    rw [← HV.out, HE.out]
    rfl

theorem checkOver_any (v : Value) (ps : List Pt) (s : List UInt8) (w : World) (hT : Lib.Utf8Tabs 0 1 w) (hr : opAt w v ps) (hwf : ∀ p ∈ ps, wfP p) (hs : s.length < 1000000000) (hl : ps.length < 10000000) :
    Calls Tryd.prog 99 #[v, .string ⟨s.toArray⟩] w fun e w' => e = .returned (errV (ordE ps s)) ∧ Below w.heap.size w w' := by
  by_cases he : chkE ps (s.length : Int) = 0
  · exact checkOver_fine v ps s w hT hr hwf hs hl he
  · exact checkOver_err v ps s w hT hr hwf hs hl he
end Go.Proofs.YtgmgkbbnciglhaaDoor

namespace Go.Proofs.YtgmgkbbnciglhaaDoor
open Go.RowKit
set_option linter.unusedVariables false
attribute [local go_sem] Oper.semAt_some

/-- What the document asks of the places where parts meet. -/
def refBad : List Pt → List UInt8 → Bool
  | [], _ => false
  | p :: ps, s => badPiece s || badPiece (s.drop (lenP p).toNat) || refBad ps (s.drop (lenP p).toNat)
theorem badO_head (ps : List Pt) (s : List UInt8) (hl : leftP ps s = []) (h : badPiece s = true) : badO ps s = true := by
  induction ps generalizing s with
  | nil =>
    have : s = [] := hl
    rw [this] at h
    cases h
  | cons p ps ih =>
    rw [badO, Bool.or_eq_true]
    cases hn : (lenP p).toNat with
    | zero =>
      refine .inr ?_
      have hl' : leftP ps (s.drop (lenP p).toNat) = [] := hl
      rw [hn] at hl'
      exact ih _ hl' h
    | succ m =>
      refine .inl ?_
      cases s with
      | nil => cases h
      | cons b l => exact h
theorem refBad_eq (ps : List Pt) (s : List UInt8) (hl : leftP ps s = []) : refBad ps s = badO ps s := by
  induction ps generalizing s with
  | nil => rfl
  | cons p ps ih =>
    have hl' : leftP ps (s.drop (lenP p).toNat) = [] := hl
    have e := ih _ hl'
    rw [Bool.eq_iff_iff]
    constructor
    · intro h
      rw [refBad, Bool.or_eq_true, Bool.or_eq_true] at h
      rcases h with (h | h) | h
      · exact badO_head (p :: ps) s hl h
      · rw [badO, Bool.or_eq_true]; exact .inr (badO_head ps _ hl' h)
      · rw [badO, Bool.or_eq_true]; rw [e] at h; exact .inr h
    · intro h
      rw [badO, Bool.or_eq_true] at h
      rw [refBad, Bool.or_eq_true, Bool.or_eq_true]
      rcases h with h | h
      · refine .inl (.inl ?_)
        cases s with
        | nil => simp [badPiece] at h
        | cons b l =>
          cases hn : (lenP p).toNat with
          | zero => rw [hn] at h; cases h
          | succ m => rw [hn] at h; exact h
      · rw [← e] at h; exact .inr h

theorem startO_eq (b : UInt8) : startO b = (decide ((b.toNat : Int) < 128) || decide (192 ≤ (b.toNat : Int))) := by
  have hb := b.toNat_lt
  unfold startO Lib.runeStart
  rw [Bool.eq_iff_iff]
  simp only [bne_iff_ne, ne_eq, Bool.or_eq_true, decide_eq_true_eq]
  omega
theorem byte_at (s : List UInt8) (k : Nat) (h1 : k < (ByteArray.mk s.toArray).size) (h2 : k < s.length) : (ByteArray.mk s.toArray)[k] = s[k] := rfl

set_option maxRecDepth 100000 in
set_option maxHeartbeats 1000000 in
theorem edge_end (s : List UInt8) (w : World) (hs : s.length < 1000000000) :
    Calls Tryd.prog 81 #[.string ⟨s.toArray⟩, .int .i64 s.length] w fun e w' => e = .returned (.bool true) ∧ w' = w := by
  have hz := str_size s
  go_enter Tryd.func81, Tryd.ntmps81
  go_wp2
  go_ret
  exact ⟨rfl, rfl⟩
set_option maxRecDepth 100000 in
set_option maxHeartbeats 1000000 in
theorem edge_mid (s : List UInt8) (k : Nat) (w : World) (hs : s.length < 1000000000) (hk : k < s.length) :
    Calls Tryd.prog 81 #[.string ⟨s.toArray⟩, .int .i64 k] w fun e w' => e = .returned (.bool (!badPiece (s.drop k))) ∧ w' = w := by
  have hz := str_size s
  have hd : s.drop k = s[k] :: s.drop (k + 1) := List.drop_eq_getElem_cons hk
  have hb : badPiece (s.drop k) = !startO s[k] := by rw [hd]; rfl
  rw [startO_eq] at hb
  obtain ⟨R, hR⟩ : ∃ R, (!badPiece (s.drop k)) = R := ⟨_, rfl⟩
  have HB : Hid (R = (decide ((s[k].toNat : Int) < 128) || decide (192 ≤ (s[k].toNat : Int)))) := by
    show R = _
    rw [← hR, hb, Bool.not_not]
  rw [hR]
  clear hd hb hR
  go_enter Tryd.func81, Tryd.ntmps81
  go_wp2
  all_goals go_ret
  all_goals refine ⟨?_, rfl⟩
  all_goals rw [HB.out]
  all_goals have hne : ((k : Int) == (s.length : Int)) = false := beq_eq_false_iff_ne.2 (by omega)
  all_goals first
    | (rw [hne, Bool.false_or]; rfl)
    | (rename_i h; have h' : (s[k].toNat : Int) < 128 := h; rw [decide_eq_true h']; rfl)
theorem edge_any (s : List UInt8) (k : Nat) (w : World) (hs : s.length < 1000000000) (hk : k ≤ s.length) :
    Calls Tryd.prog 81 #[.string ⟨s.toArray⟩, .int .i64 k] w fun e w' => e = .returned (.bool (!badPiece (s.drop k))) ∧ w' = w := by
  rcases Nat.lt_or_ge k s.length with h | h
  · exact edge_mid s k w hs h
  · obtain rfl : k = s.length := Nat.le_antisymm hk h
    rw [List.drop_length]
    exact edge_end s w hs
end Go.Proofs.YtgmgkbbnciglhaaDoor

namespace Go.Proofs.YtgmgkbbnciglhaaDoor
open Go.RowKit
set_option linter.unusedVariables false

/-- What Count tells of a sound text. -/
theorem refCount_of (s : ByteArray) (rs : List Nat) (hr : ∀ r ∈ rs, isRune r) (he : encs rs = s.data.toList) (hs : s.size < 100000000) (w : World) :
    Calls Tryd.prog 16 #[.string s] w fun e w' => e = .returned (.tuple #[cntV rs, .agg #[.int .i64 0, .int .i64 (-1)]]) ∧ Below w.heap.size w w' := by
  have hsc := scan_encs rs hr
  rw [he] at hsc
  have hro : runesOf s.data.toList = rs := by
    unfold runesOf
    rw [hsc]
    simp [wide, List.map_map, Function.comp_def]
  refine (refCount_good s hs w (by rw [hsc])).mono fun e w' h => ⟨?_, h.1⟩
  rw [h.2, hro]
  have h1 : (s.size : Int) = C1 rs := by rw [C1_len, he, ← Lib.size_eq]
  have h2 : ((halRow rs).length : Int) = C2 rs := by unfold C2; rw [sum2_wide]
  have h4 : (Lib.countByte s.data.toList 10 : Int) = C4 rs := by unfold C4; rw [sum4_wide hr, he]
  unfold cnt cntV
  rw [h1, h2, h4]
  rfl
end Go.Proofs.YtgmgkbbnciglhaaDoor

namespace Go.Proofs.YtgmgkbbnciglhaaDoor
open Go.RowKit
set_option linter.unusedVariables false

theorem ba_of {x : ByteArray} {r : List Nat} (h : x.data.toList = encs r) : x = bytesOf r := by
  apply ByteArray.ext
  apply Array.ext'
  rw [h]; rfl
theorem spl_first (s : ByteArray) (a b : List UInt8) (he : s.data.toList = a ++ b) : (s.extract 0 a.length).data.toList = a := by
  rw [Lib.extract_data, he]; simp
theorem spl_rest (s : ByteArray) (a b : List UInt8) (he : s.data.toList = a ++ b) : (s.extract a.length s.size).data.toList = b := by
  have h : s.size = (a ++ b).length := by rw [Lib.size_eq, he]
  rw [h, Lib.extract_data, he]; simp
theorem edge_on (rs : List Nat) (hr : ∀ r ∈ rs, isRune r) (k : Nat) (hk : k ≤ (encs rs).length) : (!badPiece ((encs rs).drop k)) = onEdge rs 1 (k : Int) := by
  have hC : ((encs rs).length : Int) = C1 rs := (C1_len rs).symm
  have hu : unitOk 1 := .inl rfl
  obtain ⟨e1, e2⟩ := edge_first hu (rs := rs) (a := (k : Int)) (by rw [by1]; omega)
  have key : onEdge rs 1 (k : Int) = true ↔ edgeAt rs k := by
    constructor
    · intro h
      obtain ⟨i, hi, _, ci, _⟩ := e1 h
      rw [by1, C1_len] at ci
      exact ⟨i, hi, by omega⟩
    · rintro ⟨i, hi, ci⟩
      cases h : onEdge rs 1 (k : Int) with
      | true => rfl
      | false =>
        have := e2 h i hi
        rw [by1, C1_len] at this
        exact absurd (by omega) this
  by_cases hlt : k < (encs rs).length
  · rw [List.drop_eq_getElem_cons hlt]
    have hb : (encs rs)[k]? = some (encs rs)[k] := List.getElem?_eq_getElem hlt
    show (!(!startO (encs rs)[k])) = _
    rw [Bool.not_not]
    show startB (encs rs)[k] = _
    cases h : startB (encs rs)[k] with
    | true => exact (key.2 (edgeAt_of_start hr hb h)).symm
    | false =>
      cases h2 : onEdge rs 1 (k : Int) with
      | false => rfl
      | true =>
        have := start_of_edgeAt hr (key.1 h2) hb
        rw [h] at this; cases this
  · obtain rfl : k = (encs rs).length := by omega
    rw [List.drop_length]
    exact (key.2 (edgeAt_end rs)).symm

theorem refSplice_all (rs ps : List Nat) (at_ drop : Int) (hr : ∀ r ∈ rs, isRune r) (hps : ∀ r ∈ ps, isRune r) (hz : C1 rs ≤ 10000000) (hpz : C1 ps ≤ 10000000) (w : World) :
    Calls Tryd.prog 31 #[.string (bytesOf rs), .int .i64 at_, .int .i64 drop, .string (bytesOf ps)] w fun e w' => e = .returned (.tuple #[.string (bytesOf (spliceR rs ps at_ drop)), .agg #[.int .i64 (spliceE rs at_ drop (C1 ps)), .int .i64 (-1)]]) ∧ Below w.heap.size w w' := by
  have hs : ((bytesOf rs).size : Int) = C1 rs := by rw [bytesOf_size, C1_len]
  have hp : ((bytesOf ps).size : Int) = C1 ps := by rw [bytesOf_size, C1_len]
  have hl : ((encs rs).length : Int) = C1 rs := (C1_len rs).symm
  have p0 := C1_pos rs
  have p1 := C1_pos ps
  have zs : (bytesOf rs).size < 100000000 := by omega
  have zp : (bytesOf ps).size < 100000000 := by omega
  have cC := fun wx => refCount_of (bytesOf ps) ps hps rfl (by omega) wx
  unfold cntV at cC
  have cI1 := fun (wx : World) => in_any at_ 0 (C1 rs) wx
  have cI2 := fun (wx : World) => in_any drop 0 (C1 rs - at_) wx
  rw [← hs] at cI1 cI2
  have cE := fun (k : Nat) (hk : k ≤ (encs rs).length) (wx : World) => edge_any (encs rs) k wx (by omega) hk
  have cE2 : ∀ (k : Nat), k ≤ (encs rs).length → ∀ (wx : World), Calls Tryd.prog 81 #[.string (bytesOf rs), .int .i64 (k : Int)] wx fun e w' => e = .returned (.bool (onEdge rs 1 (k : Int))) ∧ w' = wx := fun k hk wx => by
    have := cE k hk wx
    rw [edge_on rs hr k hk] at this
    exact this
  unfold spliceR
  by_cases c1 : at_ < 0 ∨ C1 rs < at_
  · have hE : spliceE rs at_ drop (C1 ps) = 2 := by unfold spliceE; rw [if_pos (by omega)]
    have hb : inB at_ 0 ((bytesOf rs).size : Int) = false := decide_eq_false (by omega)
    rw [hb] at cI1
    rw [hE]
    exact refSplice_rng1 (bytesOf rs) (bytesOf ps) 0 0 0 0 at_ drop _ _ _ _ 0 zs zp w cC cI1
  have hb1 : inB at_ 0 ((bytesOf rs).size : Int) = true := decide_eq_true (by omega)
  rw [hb1] at cI1
  by_cases c2 : drop < 0 ∨ C1 rs - at_ < drop
  · have hE : spliceE rs at_ drop (C1 ps) = 2 := by unfold spliceE; rw [if_pos (by omega)]
    have hb : inB drop 0 ((bytesOf rs).size - at_ : Int) = false := decide_eq_false (by omega)
    rw [hb] at cI2
    rw [hE]
    exact refSplice_rng2 (bytesOf rs) (bytesOf ps) 0 0 0 0 at_ drop _ _ _ _ 0 zs zp (by omega) w cC cI1 cI2
  have hb2 : inB drop 0 ((bytesOf rs).size - at_ : Int) = true := decide_eq_true (by omega)
  rw [hb2] at cI2
  have hin : ¬ (at_ < 0 ∨ C1 rs < at_ ∨ drop < 0 ∨ C1 rs - at_ < drop) := by omega
  obtain ⟨k, hk⟩ : ∃ k : Nat, at_ = (k : Int) := ⟨at_.toNat, by omega⟩
  obtain ⟨d, hd⟩ : ∃ d : Nat, drop = (d : Int) := ⟨drop.toNat, by omega⟩
  have hj : ((k + d : Nat) : Int) = at_ + drop := by omega
  have hjl : k + d ≤ (encs rs).length := by omega
  have hjs : k + d ≤ (bytesOf rs).size := by omega
  have eA := cE2 k (by omega)
  have eB := cE2 (k + d) hjl
  rw [hj] at eB
  rw [← hk] at eA
  cases h1 : onEdge rs 1 at_ with
  | false =>
    rw [h1] at eA
    have hE : spliceE rs at_ drop (C1 ps) = 1 := by unfold spliceE; rw [if_neg hin, if_pos (.inl h1)]
    rw [hE]
    exact refSplice_arg1 (bytesOf rs) (bytesOf ps) k d (k + d) 0 at_ drop _ _ _ _ 0 zs zp hk hd rfl hjs w cC cI1 cI2 eA
  | true =>
  rw [h1] at eA
  rw [← hj] at eB
  cases h2 : onEdge rs 1 (at_ + drop) with
  | false =>
    rw [hj, h2, ← hj] at eB
    have hE : spliceE rs at_ drop (C1 ps) = 1 := by unfold spliceE; rw [if_neg hin, if_pos (.inr h2)]
    rw [hE]
    exact refSplice_arg2 (bytesOf rs) (bytesOf ps) k d (k + d) 0 at_ drop _ _ _ _ 0 zs zp hk hd rfl hjs w cC cI1 cI2 eA eB
  | true =>
  rw [hj, h2, ← hj] at eB
  have hed : ¬ (onEdge rs 1 at_ = false ∨ onEdge rs 1 (at_ + drop) = false) := by rw [h1, h2]; simp
  by_cases c5 : 8000 - (C1 rs - drop) < C1 ps
  · have hE : spliceE rs at_ drop (C1 ps) = 12 := by unfold spliceE; rw [if_neg hin, if_neg hed, if_pos c5]
    rw [hE]
    exact refSplice_full (bytesOf rs) (bytesOf ps) k d (k + d) 0 at_ drop _ _ _ _ 0 zs zp hk hd rfl hjs (by omega) w cC cI1 cI2 eA eB
  obtain ⟨ra, rd, rb, er, ca, cd, eu, ev⟩ := cut_three (rs := rs) (at_ := at_) (drop := drop) (by omega) (by omega) (by omega) (by omega) h1 h2
  have hE : spliceE rs at_ drop (C1 ps) = 0 := by unfold spliceE; rw [if_neg hin, if_neg hed, if_neg c5]
  have g := refSplice_good (bytesOf rs) (bytesOf ps) k d (k + d) 0 at_ drop _ _ _ _ 0 zs zp hk hd rfl hjs (by omega) w cC cI1 cI2 eA eB
  rw [C1_len] at ca cd
  have hka : k = (encs ra).length := by omega
  have hjd : k + d = (encs ra ++ encs rd).length := by rw [List.length_append]; omega
  have hdat : (bytesOf rs).data.toList = encs ra ++ encs rd ++ encs rb := by
    show encs rs = _
    rw [er, encs_append, encs_append, List.append_assoc]
  have x1 : (bytesOf rs).extract 0 k = bytesOf ra := by
    rw [hka]; exact ba_of (spl_first _ _ (encs rd ++ encs rb) (by rw [hdat, List.append_assoc]))
  have x2 : (bytesOf rs).extract (k + d) (bytesOf rs).size = bytesOf rb := by
    rw [hjd]; exact ba_of (spl_rest _ _ _ hdat)
  rw [x1, x2, bytesOf_append, bytesOf_append] at g
  rw [hE, if_pos rfl, eu, ev]
  exact g
end Go.Proofs.YtgmgkbbnciglhaaDoor

namespace Go.Proofs.YtgmgkbbnciglhaaDoor
open Go.RowKit
set_option linter.unusedVariables false

theorem spliceR_fine (rs ps : List Nat) (at_ drop : Int) (hr : ∀ r ∈ rs, isRune r) (hps : ∀ r ∈ ps, isRune r) (hz : C1 rs ≤ 8000) : (∀ r ∈ spliceR rs ps at_ drop, isRune r) ∧ C1 (spliceR rs ps at_ drop) ≤ 8000 := by
  unfold spliceR
  by_cases hE : spliceE rs at_ drop (C1 ps) = 0
  · rw [if_pos hE]
    unfold spliceE at hE
    split at hE
    · cases hE
    · rename_i h1
      split at hE
      · cases hE
      · rename_i h2
        split at hE
        · cases hE
        · rename_i h3
          rw [not_or] at h2
          obtain ⟨ra, rd, rb, er, ca, cd, eu, ev⟩ := cut_three (rs := rs) (at_ := at_) (drop := drop) (by omega) (by omega) (by omega) (by omega) (by simpa using h2.1) (by simpa using h2.2)
          rw [eu, ev]
          have hC : C1 rs = C1 ra + (C1 rd + C1 rb) := by rw [er, C1_append, C1_append]
          refine ⟨fun r h => ?_, by rw [C1_append, C1_append]; omega⟩
          rcases List.mem_append.1 h with h | h
          · rcases List.mem_append.1 h with h | h
            · exact hr r (by rw [er]; exact List.mem_append_left _ h)
            · exact hps r h
          · exact hr r (by rw [er]; exact List.mem_append_right _ (List.mem_append_right _ h))
  · rw [if_neg hE]
    exact ⟨hr, hz⟩

theorem splice_pack (put : ByteArray) (hp : put.size ≤ 1000000) (rs : List Nat) (hr : ∀ r ∈ rs, isRune r) (hz : C1 rs ≤ 8000) (at_ drop : Int) :
    ∃ rs' E P, (∀ r ∈ rs', isRune r) ∧ C1 rs' ≤ 8000 ∧
      (∀ wx, Calls Tryd.prog 31 #[.string (bytesOf rs), .int .i64 at_, .int .i64 drop, .string put] wx fun e w' => e = .returned (.tuple #[.string (bytesOf rs'), .agg #[.int .i64 E, .int .i64 P]]) ∧ Below wx.heap.size wx w') ∧
      (∀ b wx, Lib.Utf8Tabs 0 1 wx → isRope wx b rs → Calls Tryd.prog 32 #[.pointer (some ⟨b, 0, none⟩), .int .i64 at_, .int .i64 drop, .string put] wx fun e w' =>
        ∃ x, e = .returned x ∧ isRope w' b rs' ∧ But b wx w' ∧ ∀ w2, asLaid w2 → Below w'.heap.size w' w2 → Calls Tryd.prog 17 #[x, .agg #[.int .i64 E, .int .i64 P]] w2 fun e w3 => e = .returned (.bool true) ∧ Below w2.heap.size w2 w3) := by
  by_cases hok : (scan put.data.toList).2 = true
  · obtain ⟨ps, hps0⟩ : ∃ ps, runesOf put.data.toList = ps := ⟨_, rfl⟩
    have he : encs ps = put.data.toList := by rw [← hps0]; exact encs_runesOf hok
    have hps : ∀ r ∈ ps, isRune r := fun r h => runesOf_rune (by rw [hps0]; exact h)
    obtain rfl : put = bytesOf ps := ba_of he.symm
    have hpz : C1 ps ≤ 10000000 := by rw [bytesOf_size] at hp; rw [C1_len]; omega
    obtain ⟨f1, f2⟩ := spliceR_fine rs ps at_ drop hr hps hz
    refine ⟨spliceR rs ps at_ drop, spliceE rs at_ drop (C1 ps), -1, f1, f2, fun wx => refSplice_all rs ps at_ drop hr hps (by omega) hpz wx, fun b wx hT h => ?_⟩
    refine (splice_all b rs ps at_ drop hps hpz wx hT h (by omega)).mono ?_
    rintro e w' ⟨rfl, hR, hB⟩
    refine ⟨_, rfl, hR, hB, fun w2 hg hb => ?_⟩
    by_cases hE : spliceE rs at_ drop (C1 ps) = 0
    · rw [hE]
      exact is_any_nil w2
    · unfold errV
      rw [if_neg hE]
      exact is_any_number _ w2 hg
  · have hok2 := Bool.eq_false_iff.2 hok
    have cC : ∀ wx, Calls Tryd.prog 16 #[.string put] wx fun e w' => e = .returned (.tuple #[.agg #[.int .i64 0, .int .i64 0, .int .i64 0, .int .i64 0], .agg #[.int .i64 3, .int .i64 (place put.data.toList)]]) ∧ Below wx.heap.size wx w' := fun wx => (refCount_bad put (by omega) wx hok2).mono fun e w' h => ⟨h.2, h.1⟩
    have hsz : (bytesOf rs).size < 100000000 := by rw [bytesOf_size]; rw [C1_len] at hz; omega
    refine ⟨rs, 3, place put.data.toList, hr, hz, fun wx => refSplice_bad (bytesOf rs) put 0 0 0 0 at_ drop _ _ _ _ _ hsz (by omega) wx cC, fun b wx hT h => ?_⟩
    refine (splice_bad b at_ drop put (by omega) hok2 wx hT).mono ?_
    rintro e w' ⟨x, rfl, hx, hb⟩
    exact ⟨x, rfl, isRope_below h hb, But.of_below hb, fun w2 hg hb2 => is_at hg hx hb2⟩
end Go.Proofs.YtgmgkbbnciglhaaDoor

namespace Go.Proofs.YtgmgkbbnciglhaaDoor
open Go.RowKit

/-- What an iterator does, called with a yield that always says 'go on'. -/
def SeqAll {α : Type} (P : Program) (g : Nat) (lb : Array Value) (encs : List α → α → Array Value) (It Kp : World → World → Prop) (Z : World → Prop) (S Sp : List α → Prop) (W : World) : Prop :=
  ∀ (l : Nat) (J : List α → World → Prop), (∀ pre A, J pre A → Z A) → (∀ pre A B, J pre A → It A B → J pre B) →
    (∀ pre x A, J pre A → Sp (pre ++ [x]) → YieldAt Fence.wide 0 P l (encs pre x) A fun e A' => e = .returned (.bool true) ∧ J (pre ++ [x]) A' ∧ Kp A A') →
    J [] W →
    CallsIn Fence.wide 0 P g (#[.func (.yield l) #[] #[]] ++ lb) W fun e W' => (∃ v, e = .returned v) ∧ ∃ xs, S xs ∧ J xs W'

/-- How a round is left: at its end. -/
def allPost {α : Type} (n : Nat) (Kp : World → World → Prop) (I : List α → World → Prop) (xs : List α) (W : World) : Exit → Act → World → Prop
  | .normal, _, W' => Same2 n W W' ∧ Kp W W' ∧ I xs W'
  | _, _, _ => False

theorem wp_range_all {α : Type} {P : Program} {g : Operand} {ps : Array Tmp} {assign body : Code} {Q : Exit → Act → World → Prop} {a : Act} {w : World} {n : Nat}
    {gf : Nat} {lb : Array Value} (hg : a.eval g = .func (.func gf) #[] lb) (eg : ∀ args w, (callFunc gf args).run P w = .ok (.enter gf args) w)
    {encs : List α → α → Array Value} (hps : ∀ pre x, (encs pre x).size = ps.size)
    {It Kp : World → World → Prop} {Z : World → Prop} {S Sp : List α → Prop}
    (hseq : ∀ W, W.heap.size = w.heap.size + 2 → Below w.heap.size w W → SeqAll P gf lb encs It Kp Z S Sp W)
    (hIt : ∀ A B, It A B → Same2 w.heap.size A B)
    (hKt : ∀ {A B C : World}, Kp A B → Kp B C → Kp A C) (hKb : ∀ (A : World) (r : Loop), Kp A (A.putObj (w.heap.size + 1) (.loop r)))
    (I : List α → World → Prop)
    (hIz : ∀ pre A, I pre A → Z A)
    (hI : ∀ pre A B, I pre A → It A B → I pre B) (hIb : ∀ pre A (r : Loop), I pre A → I pre (A.putObj (w.heap.size + 1) (.loop r)))
    (h0 : ∀ W, W.heap.size = w.heap.size + 2 → Below w.heap.size w W → (∃ r, W.heap[w.heap.size + 1]? = some (.loop r)) → W.heap[w.heap.size]? = some (.deferred (some [])) → I [] W)
    (hround : ∀ (l : Nat) (pre : List α) (x : α) (W : World), I pre W → w.heap.size + 2 ≤ W.heap.size → Sp (pre ++ [x]) →
      assign.wpIn (Fence.wide.inRound l) 0 P (Exit.then (fun a₁ w₁ => Same2 w.heap.size W w₁ ∧ Kp W w₁ ∧ ∀ w₂, Put1 (w.heap.size + 1) w₁ w₂ → (∃ r, w₂.heap[w.heap.size + 1]? = some (.loop r)) → body.wpIn (Fence.wide.inRound l) 0 P (allPost w.heap.size Kp I (pre ++ [x]) w₂) a₁ w₂) (fun _ _ _ => False))
        { tmps := (ps.zip (encs pre x)).foldl (fun t (p, v) => t.setIfInBounds p v) a.tmps, defers := [] } W)
    (hdone : ∀ (xs : List α) (W : World), S xs → I xs W → W.heap[w.heap.size]? = some (.deferred (some [])) → Q .normal { a with defers := { target := .collected w.heap.size, args := #[] } :: a.defers } W) :
    (Code.rangeFunc g ps assign body).wpIn Fence.wide n P Q a w := by
  refine wpIn_rangeFunc ?_
  intro fn hfn
  obtain ⟨rec, hrec⟩ : ∃ rec : LoopState → Option Code → Loop, rec = fun st pe => { state := st, pending := pe, fn, tmps := a.tmps, params := ps, assign, body, defers := w.heap.size } := ⟨_, rfl⟩
  obtain ⟨W1, hW1⟩ : ∃ W1, (w.alloc (.deferred (some []))).alloc (.loop (rec .ready none)) = W1 := ⟨_, rfl⟩
  have hL1 : W1.heap[w.heap.size + 1]? = some (.loop (rec .ready none)) := by
    rw [← hW1]; have := World.alloc_heap_new (w.alloc (.deferred (some []))) (.loop (rec .ready none)); rwa [World.size_alloc] at this
  have hK1 : W1.heap[w.heap.size]? = some (.deferred (some [])) := by
    rw [← hW1]; exact (Below.heap_alloc _ _ _ (by simp)).trans (World.alloc_heap_new w _)
  have hs1 : W1.heap.size = w.heap.size + 2 := by rw [← hW1, World.size_alloc, World.size_alloc]
  have hb1 : Below w.heap.size w W1 := by
    rw [← hW1]; exact ((Below.refl _ w).alloc (Nat.le_refl _) _).alloc (by simp) _
  have hI1 : I [] W1 := h0 W1 hs1 hb1 ⟨_, hL1⟩ hK1
  refine ⟨w.heap.size + 1, [{ target := .collected w.heap.size, args := #[] }], W1, { target := .fn (.func gf) lb, args := #[.func (.yield (w.heap.size + 1)) #[] #[]] }, W1, gf,
    #[.func (.yield (w.heap.size + 1)) #[] #[]] ++ lb, W1, ?_, ?_, ?_, ?_, fun h => (by cases h), ?_⟩
  · rw [← hW1, hrec]; exact run_enterLoop_outer _ _ _ _ _
  · simp only [resolve, hg]
    simp [go_sem]
  · intro f' hf'; trivial
  · simp [invoke, go_sem, eg]
  · refine CallsIn.more ((hseq W1 hs1 hb1 (w.heap.size + 1)
      (fun pre W => I pre W ∧ W.heap[w.heap.size + 1]? = some (.loop (rec .ready none)) ∧ W.heap[w.heap.size]? = some (.deferred (some [])))
      (fun s A hs => hIz s A hs.1)
      (fun s A B hs hg' => ⟨hI s A B hs.1 hg', (hIt A B hg').b.trans hs.2.1, (hIt A B hg').a.trans hs.2.2⟩)
      ?_ ⟨hI1, hL1, hK1⟩).mono ?_) (Nat.zero_le _)
    · -- one round
      rintro pre x W ⟨hi, hl, hk⟩ hSp
      have hlt : w.heap.size + 1 < W.heap.size := (Array.getElem?_eq_some_iff.1 hl).1
      have hy := run_yield (P := P) (args := encs pre x) hl (by rw [hrec]; exact hps pre x)
      rw [hrec] at hy
      refine ⟨fn, _, assign, body, hy, roundIn_of_wpIn hfn (wpIn_mono (hround _ pre x W hi (by omega) hSp) ?_)⟩
      clear hy
      rintro ea a' Wa hq
      cases ea with
      | normal => ?_
      | ret => exact hq.elim
      | exit id => exact hq.elim
      | goto t => exact hq.elim
      | panic c => exact hq.elim
      | outgrown => exact hq.elim
      obtain ⟨h2a, hkpa, hbody⟩ := hq
      replace hl := h2a.b.trans hl
      replace hk := h2a.a.trans hk
      replace hlt : w.heap.size + 1 < Wa.heap.size := (Array.getElem?_eq_some_iff.1 hl).1
      refine ⟨_, run_beginRound hl (by rw [hrec]), ?_⟩
      have hl2 : (Wa.putObj (w.heap.size + 1) (.loop { rec .ready none with state := .busy })).heap[w.heap.size + 1]? = some (.loop { rec .ready none with state := .busy }) := World.putObj_heap_same hlt
      have hk2 : (Wa.putObj (w.heap.size + 1) (.loop { rec .ready none with state := .busy })).heap[w.heap.size]? = some (.deferred (some [])) := (World.putObj_heap_other (by omega)).trans hk
      have hw2 : Kp Wa (Wa.putObj (w.heap.size + 1) (.loop { rec .ready none with state := .busy })) := hKb _ _
      refine wpIn_mono (hbody _ (Put1.putObj _ _ _) ⟨_, hl2⟩) ?_
      have fin : ∀ (jump : Option Code) (W3 : World), Same2 w.heap.size (Wa.putObj (w.heap.size + 1) (.loop { rec .ready none with state := .busy })) W3 →
          (Instr.endRound (w.heap.size + 1) jump).run P W3 = .ok (.bool jump.isNone) (W3.putObj (w.heap.size + 1) (.loop (rec (if jump.isNone then .ready else .done) jump))) ∧
          (W3.putObj (w.heap.size + 1) (.loop (rec (if jump.isNone then .ready else .done) jump))).heap[w.heap.size + 1]? = some (.loop (rec (if jump.isNone then .ready else .done) jump)) ∧
          (W3.putObj (w.heap.size + 1) (.loop (rec (if jump.isNone then .ready else .done) jump))).heap[w.heap.size]? = some (.deferred (some [])) := fun jump W3 hk3 => by
        have hl3 := hk3.b.trans hl2
        have := run_endRound (P := P) jump hl3
        rw [hrec] at this ⊢
        exact ⟨this, World.putObj_heap_same (Array.getElem?_eq_some_iff.1 hl3).1, (World.putObj_heap_other (by omega)).trans (hk3.a.trans hk2)⟩
      rintro e a3 W3 hp
      cases e with
      | normal =>
        obtain ⟨hk3, hkp3, hi3⟩ := hp
        obtain ⟨hr, hl4, hk4⟩ := fin none W3 hk3
        exact ⟨_, _, hr, rfl, ⟨hIb _ _ _ hi3, hl4, hk4⟩, hKt hkpa (hKt (hKt hw2 hkp3) (hKb _ _))⟩
      | ret => exact hp.elim
      | exit id => exact hp.elim
      | goto t => exact hp.elim
      | panic ch => exact hp.elim
      | outgrown => exact hp.elim
    · -- behind the iterator
      rintro e W2 ⟨⟨v, rfl⟩, xs, hS, hi, hl, hk⟩
      exact ⟨none, _, by have := run_endLoop (P := P) hl (by rw [hrec]; simp); rw [hrec] at this; exact this, hdone xs _ hS (hIb _ _ _ hi) ((World.putObj_heap_other (by omega)).trans hk)⟩

end Go.Proofs.YtgmgkbbnciglhaaDoor

namespace Go.Proofs.YtgmgkbbnciglhaaDoor
open Go.RowKit
set_option linter.unusedVariables false
attribute [local go_sem] Oper.semAt_some yieldsUpon okUpon

theorem chunks_any (b : Nat) (w : World) : Calls Tryd.prog 86 #[.pointer (some ⟨b, 0, none⟩)] w fun e w' => e = .returned (.func (.func 128) #[] #[.pointer (some ⟨w.heap.size, 0, none⟩)]) ∧ w' = w.alloc (.cells #[.pointer (some ⟨b, 0, none⟩)] 62) := by
  go_enter Tryd.func86, Tryd.ntmps86
  go_wp2
  go_ret
  exact ⟨rfl, rfl⟩

/-- What lies in the iterator's own boxes. -/
def walkB (l yb wb : Nat) (A : World) : Prop :=
  A.heap[wb]? = some (.cells #[.func (.func 129) #[] #[.pointer (some ⟨wb, 0, none⟩), .pointer (some ⟨yb, 0, none⟩)]] 191 (0, 0)) ∧
  A.heap[yb]? = some (.cells #[.func (.yield l) #[] #[]] 50 (0, 0))

theorem below_drewN0 (A : World) (n : Nat) : Below A.heap.size A (A.drewN n) := ⟨rfl, rfl, rfl, Nat.le_refl _, fun _ _ => rfl⟩
set_option maxRecDepth 100000 in
set_option maxHeartbeats 4000000 in
theorem walk_nil (wb yb : Nat) (A : World) : Calls Tryd.prog 129 #[.pointer none, .pointer (some ⟨wb, 0, none⟩), .pointer (some ⟨yb, 0, none⟩)] A fun e A' => e = .returned (.bool true) ∧ ∃ n, A' = A.drewN n := by
  go_enter Tryd.func129, Tryd.ntmps129
  go_wp2
  go_quiet (fail)
  go_wp2
  go_ret
  exact ⟨rfl, _, rfl⟩

set_option maxRecDepth 100000 in
set_option maxHeartbeats 4000000 in
theorem walk_tree (l yb wb : Nat) (w : World) (N : List (List Nat)) (J : List (List Nat) → World → Prop) (Kp It : World → World → Prop)
    (hZ : ∀ pre A, J pre A → Below w.heap.size w A) (hIt : ∀ A B, Below A.heap.size A B → walkB l yb wb A → It A B) (hJ : ∀ pre A B, J pre A → It A B → J pre B)
    (hK : ∀ A B, Kp A B → walkB l yb wb A → walkB l yb wb B)
    (hY : ∀ pre x A, J pre A → (∃ rest, N = (pre ++ [x]) ++ rest) → YieldAt Fence.wide 0 Tryd.prog l #[.string (bytesOf x)] A fun e A' => e = .returned (.bool true) ∧ J (pre ++ [x]) A' ∧ Kp A A') :
    ∀ (t : T) (p : Option Addr) (pre : List (List Nat)) (A : World), isTree w p t → J pre A → walkB l yb wb A → (∃ rest, N = pre ++ t.chunks ++ rest) →
      CallsIn Fence.wide 0 Tryd.prog 129 #[.pointer p, .pointer (some ⟨wb, 0, none⟩), .pointer (some ⟨yb, 0, none⟩)] A fun e A' => e = .returned (.bool true) ∧ J (pre ++ t.chunks) A' ∧ walkB l yb wb A' := by
  intro t
  induction t with
  | nil =>
    intro p pre A ht hj hb hN
    obtain rfl : p = none := ht
    refine (callsIn_wide.2 (walk_nil wb yb A)).mono ?_
    rintro e A' ⟨rfl, n, rfl⟩
    exact ⟨rfl, by simpa [T.chunks] using hJ _ _ _ hj (hIt _ _ (below_drewN0 A n) hb), hb⟩
  | node tl c tr ihl ihr =>
    intro p pre A ht hj hb hN
    obtain ⟨b, pl, pr, rfl, ⟨a0, _⟩, ⟨a5, a6⟩, _, _, hl, hr⟩ := ht
    obtain ⟨rest, hrest⟩ := hN
    have hN1 : ∃ rest, N = pre ++ tl.chunks ++ rest := ⟨[c] ++ tr.chunks ++ rest, by rw [hrest]; simp [T.chunks]⟩
    have hN2 : ∃ rest, N = (pre ++ tl.chunks ++ [c]) ++ rest := ⟨tr.chunks ++ rest, by rw [hrest]; simp [T.chunks]⟩
    have hN3 : ∃ rest, N = (pre ++ tl.chunks ++ [c]) ++ tr.chunks ++ rest := ⟨rest, by rw [hrest]; simp [T.chunks]⟩
    -- the right tree, behind the node's own chunk
    have h3 : ∀ A2, J (pre ++ tl.chunks ++ [c]) A2 → walkB l yb wb A2 → (A2.cell? ⟨wb, 0, none⟩ = some (.func (.func 129) #[] #[.pointer (some ⟨wb, 0, none⟩), .pointer (some ⟨yb, 0, none⟩)]) ∧ A2.cell? ⟨b, 6, none⟩ = some (.pointer pr) ∧
        CallsIn Fence.wide 0 Tryd.prog 129 #[.pointer pr, .pointer (some ⟨wb, 0, none⟩), .pointer (some ⟨yb, 0, none⟩)] A2 fun e A' => e = .returned (.bool true) ∧ J (pre ++ (T.node tl c tr).chunks) A' ∧ walkB l yb wb A') := fun A2 hj2 hb2 =>
      ⟨Lib.cell_of_heap hb2.1 0, cell_on (hZ _ _ hj2) a6, (ihr pr _ A2 hr hj2 hb2 hN3).mono fun e A' h => ⟨h.1, by simpa [T.chunks] using h.2.1, h.2.2⟩⟩
    -- the node's own chunk, behind the left tree
    have h2 : ∀ A1, J (pre ++ tl.chunks) A1 → walkB l yb wb A1 → (A1.cell? ⟨yb, 0, none⟩ = some (.func (.yield l) #[] #[]) ∧ A1.cell? ⟨b, 0, none⟩ = some (.string (bytesOf c)) ∧
        YieldAt Fence.wide 0 Tryd.prog l #[.string (bytesOf c)] A1 fun e A2 => e = .returned (.bool true) ∧ (A2.cell? ⟨wb, 0, none⟩ = some (.func (.func 129) #[] #[.pointer (some ⟨wb, 0, none⟩), .pointer (some ⟨yb, 0, none⟩)]) ∧ A2.cell? ⟨b, 6, none⟩ = some (.pointer pr) ∧
        CallsIn Fence.wide 0 Tryd.prog 129 #[.pointer pr, .pointer (some ⟨wb, 0, none⟩), .pointer (some ⟨yb, 0, none⟩)] A2 fun e A' => e = .returned (.bool true) ∧ J (pre ++ (T.node tl c tr).chunks) A' ∧ walkB l yb wb A')) := fun A1 hj1 hb1 =>
      ⟨Lib.cell_of_heap hb1.2 0, cell_on (hZ _ _ hj1) a0, YieldAt.mono (hY _ c A1 hj1 hN2) fun e A2 h => ⟨h.1, h3 A2 h.2.1 (hK _ _ h.2.2 hb1)⟩⟩
    have hbd : walkB l yb wb A.drew := hb
    have hjd : J pre A.drew := hJ _ _ _ hj (hIt _ _ (Below.refl _ _).drew hb)
    have h1 := (ihl pl pre A.drew hl hjd hbd hN1).mono fun e A1 h => (⟨h.1, h2 A1 h.2.1 h.2.2⟩ : e = .returned (.bool true) ∧ _)
    have b0 : A.cell? ⟨wb, 0, none⟩ = some (.func (.func 129) #[] #[.pointer (some ⟨wb, 0, none⟩), .pointer (some ⟨yb, 0, none⟩)]) := Lib.cell_of_heap hb.1 0
    have b1 : A.cell? ⟨b, 5, none⟩ = some (.pointer pl) := cell_on (hZ _ _ hj) a5
    have HP : Hid (∀ A', J (pre ++ (T.node tl c tr).chunks) A' → walkB l yb wb A' → True) := fun _ _ _ => trivial
    clear hZ hIt hJ hK hY hj hb hN1 hN2 hN3 h3 h2 hbd hjd a0 a5 a6 hl hr ihl ihr hrest
    refine callsIn_of_wp Tryd.func129 rfl trivial ?_ rfl
    simp only [Tryd.ntmps129, List.size_toArray, List.length_cons, List.length_nil, Nat.reduceAdd, Nat.reduceSub, Array.replicate_succ, Array.replicate_zero, List.push_toArray, List.append_toArray, List.nil_append, List.cons_append]
    gi_wp2
    gi_region_with (first
      | (refine ⟨trivial, rfl, ?_⟩; gi_at_call 129; refine h1.mono ?_; clear h1; rintro e A1 ⟨rfl, c0, c1, fn, tmps, assign, body, hy, hR⟩)
      | (refine ⟨rfl, hR.mono ?_⟩; clear hR; rintro e A2 ⟨rfl, d0, d1, hR3⟩)
      | (refine ⟨trivial, rfl, ?_⟩; gi_at_call 129; refine hR3.mono ?_; clear hR3; rintro e A3 ⟨rfl, hJ3, hB3⟩))
    all_goals
      gi_wp2
      go_ret
      exact ⟨rfl, hJ3, hB3⟩
end Go.Proofs.YtgmgkbbnciglhaaDoor

namespace Go.Proofs.YtgmgkbbnciglhaaDoor
open Go.RowKit
set_option linter.unusedVariables false
attribute [local go_sem] Oper.semAt_some yieldsUpon okUpon

/-- A round keeps all but the builder's box, the loop's record, and rows of bytes. -/
def keptR (bb lp : Nat) (A B : World) : Prop := A.heap.size ≤ B.heap.size ∧ ∀ x obj, A.heap[x]? = some obj → x ≠ bb → x ≠ lp → (∀ c fz, obj ≠ .cells c 5 fz) → B.heap[x]? = some obj
theorem keptR_trans {bb lp : Nat} {A B C : World} (h : keptR bb lp A B) (k : keptR bb lp B C) : keptR bb lp A C :=
  ⟨Nat.le_trans h.1 k.1, fun x obj h0 h1 h2 h3 => k.2 x obj (h.2 x obj h0 h1 h2 h3) h1 h2 h3⟩
theorem set_new (W : World) (v u : Value) (t : TypeId) : ((W.alloc (.cells #[v] t)).setCell ⟨W.heap.size, 0, none⟩ u).heap[W.heap.size]? = some (.cells #[u] t (0, 0)) := by
  have h := World.alloc_heap_new W (.cells #[v] t)
  obtain ⟨hlt, hk⟩ := Array.getElem?_eq_some_iff.1 h
  show ((W.alloc (.cells #[v] t)).heap.modify W.heap.size _)[W.heap.size]? = _
  rw [Array.getElem?_eq_getElem (by rw [Array.size_modify]; exact hlt), Array.getElem_modify_self, hk]
  rfl

set_option maxRecDepth 100000 in
set_option maxHeartbeats 4000000 in
theorem chunks_seq (b rb bb lp : Nat) (w W : World) (q : Option Addr) (t : T) (hq : w.cell? ⟨b, 0, none⟩ = some (.pointer q)) (ht : isTree w q t) (hrb : rb < W.heap.size) (hbb : bb < W.heap.size) (hlp : lp < W.heap.size) :
    SeqAll Tryd.prog 128 #[.pointer (some ⟨rb, 0, none⟩)] (fun _ (x : List Nat) => #[.string (bytesOf x)]) (fun A B => Below A.heap.size A B ∧ W.heap.size ≤ A.heap.size) (keptR bb lp)
      (fun A => Below w.heap.size w A ∧ A.heap[rb]? = some (.cells #[.pointer (some ⟨b, 0, none⟩)] 62 (0, 0))) (fun xs => xs = t.chunks) (fun pre => ∃ rest, t.chunks = pre ++ rest) W := by
  intro l J hZ hJ hY hj0
  obtain ⟨W2, hW2⟩ : ∃ W2, W2 = ((W.alloc (.cells #[.func (.yield l) #[] #[]] 50)).alloc (.cells #[.nilFunc] 191)).setCell ⟨W.heap.size + 1, 0, none⟩ (.func (.func 129) #[] #[.pointer (some ⟨W.heap.size + 1, 0, none⟩), .pointer (some ⟨W.heap.size, 0, none⟩)]) := ⟨_, rfl⟩
  have hb2 : Below W.heap.size W W2 := by
    rw [hW2]
    exact ((((Below.refl _ W).alloc (Nat.le_refl _) _).alloc (by simp) _)).setCell (p := ⟨W.heap.size + 1, 0, none⟩) (by show W.heap.size ≤ W.heap.size + 1; omega) _
  have hwb : walkB l W.heap.size (W.heap.size + 1) W2 := by
    rw [hW2]
    refine ⟨?_, ?_⟩
    · have := set_new (W.alloc (.cells #[.func (.yield l) #[] #[]] 50)) .nilFunc (.func (.func 129) #[] #[.pointer (some ⟨W.heap.size + 1, 0, none⟩), .pointer (some ⟨W.heap.size, 0, none⟩)]) 191
      rwa [World.size_alloc] at this
    · rw [Below.heap_setCell _ _ _ _ (by show W.heap.size ≠ W.heap.size + 1; omega)]
      exact (Below.heap_alloc _ _ _ (by simp)).trans (World.alloc_heap_new _ _)
  have hj2 : J [] W2.drew := hJ _ _ _ hj0 ⟨hb2.trans ((Below.refl _ _).drew), Nat.le_refl _⟩
  have hz2 := hZ _ _ hj2
  have cR : W2.cell? ⟨rb, 0, none⟩ = some (.pointer (some ⟨b, 0, none⟩)) := Lib.cell_of_heap hz2.2 0
  have cW : W2.cell? ⟨W.heap.size + 1, 0, none⟩ = some (.func (.func 129) #[] #[.pointer (some ⟨W.heap.size + 1, 0, none⟩), .pointer (some ⟨W.heap.size, 0, none⟩)]) := Lib.cell_of_heap hwb.1 0
  have cT := ropetree_any b q W2.drew (cell_on hz2.1 hq)
  have hW := walk_tree l W.heap.size (W.heap.size + 1) w t.chunks J (keptR bb lp) (fun A B => Below A.heap.size A B ∧ W.heap.size ≤ A.heap.size) (fun pre A h => (hZ pre A h).1)
    (fun A B h k => ⟨h, by have := (Array.getElem?_eq_some_iff.1 k.2).1; omega⟩) hJ
    (fun A B h k => ⟨h.2 _ _ k.1 (by omega) (by omega) (by intro c fz e; cases e), h.2 _ _ k.2 (by omega) (by omega) (by intro c fz e; cases e)⟩)
    (fun pre x A hj hr => hY pre x A hj hr) t q [] W2.drew ht hj2 hwb ⟨[], by simp⟩
  have s0 : ((W.alloc (.cells #[.func (.yield l) #[] #[]] 50)).alloc (.cells #[.nilFunc] 191)).cell? ⟨W.heap.size + 1, 0, none⟩ = some .nilFunc := by simp [go_sem]
  have s1 : ((W.alloc (.cells #[.func (.yield l) #[] #[]] 50)).alloc (.cells #[.nilFunc] 191)).frozen? ⟨W.heap.size + 1, 0, none⟩ = false := by simp [go_sem]
  obtain ⟨W1, hW1⟩ : ∃ W1, ((W.alloc (.cells #[.func (.yield l) #[] #[]] 50)).alloc (.cells #[.nilFunc] 191)) = W1 := ⟨_, rfl⟩
  rw [hW1] at s0 s1 hW2
  have HW1 : Hid _ := hW1
  have HW2 : Hid _ := hW2
  clear hW1 hW2
  clear hZ hJ hY hj0 hb2 hwb hj2 hz2 hq ht hrb hbb hlp
  refine callsIn_of_wp Tryd.func128 rfl trivial ?_ rfl
  simp only [Tryd.ntmps128, List.size_toArray, List.length_cons, List.length_nil, Nat.reduceAdd, Nat.reduceSub, Array.replicate_succ, Array.replicate_zero, List.push_toArray, List.append_toArray, List.nil_append, List.cons_append]
  refine wpIn_seq_key (fun a' w' => a' = { tmps := #[.func (.yield l) #[] #[], .pointer (some ⟨rb, 0, none⟩), .pointer (some ⟨W.heap.size, 0, none⟩), undef, undef, undef, undef, undef, undef], defers := [] } ∧ w' = W.alloc (.cells #[.func (.yield l) #[] #[]] 50)) (fun Q' hQ => ?_) ?_
  · have HQ : Hid _ := hQ
    clear hQ
    gi_wp2
    exact HQ.out _ _ ⟨rfl, rfl⟩
  rintro a' w' ⟨rfl, rfl⟩
  refine wpIn_seq_key (fun a' w' => a' = { tmps := #[.func (.yield l) #[] #[], .pointer (some ⟨rb, 0, none⟩), .pointer (some ⟨W.heap.size, 0, none⟩), .pointer (some ⟨W.heap.size + 1, 0, none⟩), undef, undef, undef, undef, undef], defers := [] } ∧ w' = W1) (fun Q' hQ => ?_) ?_
  · have HQ : Hid _ := hQ
    clear hQ
    gi_wp2
    exact HQ.out _ _ ⟨rfl, HW1.out⟩
  rintro a' w' ⟨rfl, rfl⟩
  gi_wp2
  rw [← HW2.out]
  gi_region_with (first
    | (refine ⟨trivial, rfl, ?_⟩; gi_at_call 82; refine (callsIn_wide.2 cT).mono ?_; rintro e wx ⟨rfl, hwx⟩; obtain rfl := hwx.symm)
    | (refine ⟨trivial, rfl, ?_⟩; gi_at_call 129; refine hW.mono ?_; rintro e A3 ⟨rfl, hJ3, hB3⟩))
  all_goals
    gi_wp2
    go_end0
    exact ⟨⟨_, rfl⟩, _, rfl, by simpa using hJ3⟩
end Go.Proofs.YtgmgkbbnciglhaaDoor

namespace Go.Proofs
open Go.Shelf
def Tryd.lays169_ren : Go.Shelf.Ren := ⟨fun | 169 => 88 | n => n, fun | 70 => 139 | 9 => 9 | 0 => 0 | 72 => 141 | 37 => 125 | 127 => 192 | 3 => 3 | 5 => 5 | n => n, fun | n => n⟩
theorem Tryd.lays169 : Go.Proofs.Lays.n169 Tryd.prog Tryd.lays169_ren := {
  mixed := by kernel_rfl
  f169 := Tryd.func88.trans (congrArg some (by kernel_rfl))
  t0 := Tryd.underlying0
  a0 := Tryd.isAgg0
  z0 := Tryd.sizeOf0
  v0 := Tryd.zeroValue0
  t3 := Tryd.underlying3
  a3 := Tryd.isAgg3
  z3 := Tryd.sizeOf3
  v3 := Tryd.zeroValue3
  t9 := Tryd.underlying9
  a9 := Tryd.isAgg9
  z9 := Tryd.sizeOf9
  v9 := Tryd.zeroValue9
  t37 := Tryd.underlying125
  a37 := Tryd.isAgg125
  z37 := Tryd.sizeOf125
  v37 := Tryd.zeroValue125
  t70 := Tryd.underlying139
  a70 := Tryd.isAgg139
  z70 := Tryd.sizeOf139
  v70 := Tryd.zeroValue139
  t72 := Tryd.underlying141
  a72 := Tryd.isAgg141
  z72 := Tryd.sizeOf141
  v72 := Tryd.zeroValue141
  t127 := Tryd.underlying192
  a127 := Tryd.isAgg192
  z127 := Tryd.sizeOf192
  v127 := Tryd.zeroValue192 }
theorem Tryd.Builder_Extra_169 : Builder.Extra Tryd.prog Tryd.lays169_ren := {
  sizeBuilder := by kernel_rfl
  liesBuilder := by kernel_rfl
  t5 := Tryd.underlying5
  a5 := Tryd.isAgg5
  z5 := Tryd.sizeOf5
  v5 := Tryd.zeroValue5
  infoByte := by kernel_rfl
  cellsByte := by kernel_rfl
  sizeByte := by kernel_rfl
  neB5 := by decide }
open Go.RowKit in
theorem Tryd.Builder_String_any (B b : Nat) (l : List UInt8) (w : World) (h : Lib.IsBuilder 141 5 B b (Lib.byteCells l) w) (hBw : B ≤ w.heap.size) :
    Calls Tryd.prog 88 #[.pointer (some ⟨b, 0, none⟩)] w fun e w' => e = .returned (.string ⟨l.toArray⟩) ∧ Below B w w' := Any.Builder_String_any Tryd.lays169 Tryd.Builder_Extra_169 B b l w h hBw
end Go.Proofs

namespace Go.Proofs.YtgmgkbbnciglhaaDoor
open Go.RowKit
set_option linter.unusedVariables false

theorem size_builder : (Tryd.prog.info? 141).map (·.size) = some 2 := by kernel_rfl
theorem lies_builder : liesAt Tryd.prog Tryd.prog.depth 141 (2 / Tryd.prog.cellsOf 141) 0 141 1 = true := by kernel_rfl

set_option maxHeartbeats 1000000 in
set_option maxRecDepth 100000 in
theorem copyCheck_fresh (b : Nat) (w : World) (h0 : w.cell? ⟨b, 0, none⟩ = some (.pointer none)) (hsh : w.shape? b = some (141, 2)) (hfz : w.frozen? ⟨b, 0, none⟩ = false) :
    Calls Tryd.prog 130 #[.pointer (some ⟨b, 0, none⟩)] w fun e w' => e = .returned (.tuple #[]) ∧ w' = w.setCell ⟨b, 0, none⟩ (.pointer (some ⟨b, 0, none⟩)) := by
  obtain ⟨j, hj, hjs⟩ := Option.map_eq_some_iff.1 size_builder
  have h1 := fun w => Lib.run_to_unsafe (P := Tryd.prog) w ⟨b, 0, none⟩ Tryd.underlying139 Tryd.underlying209 hj (by rw [hjs]; decide) (e := 141) (cells := 2)
  have h3 := Lib.run_from_unsafe (P := Tryd.prog) w ⟨b, 0, none⟩ Tryd.underlying209 Tryd.underlying139 hj hsh lies_builder
  have h1' := h1 w hsh (Nat.zero_lt_succ 1)
  have hNE := @run_callFunc_extern Tryd.prog 149 _ Extern.AbiNoEscape.same Tryd.func149 (by kernel_rfl) (by kernel_rfl) (by kernel_rfl) (by kernel_rfl)
  have hNR := fun (x : Value) (w : World) => Lib.run_noEscape (P := Tryd.prog) w x
  clear h1
  go_enter Tryd.func130, Tryd.ntmps130
  go_wp2
  go_end0
  exact ⟨rfl, rfl⟩
set_option maxHeartbeats 1000000 in
set_option maxRecDepth 100000 in
theorem copyCheck_used (b : Nat) (w : World) (h0 : w.cell? ⟨b, 0, none⟩ = some (.pointer (some ⟨b, 0, none⟩))) :
    Calls Tryd.prog 130 #[.pointer (some ⟨b, 0, none⟩)] w fun e w' => e = .returned (.tuple #[]) ∧ w' = w := by
  obtain ⟨j, hj, _⟩ := Option.map_eq_some_iff.1 size_builder
  have hne := Lib.run_neq_ptr_same (P := Tryd.prog) w ⟨b, 0, none⟩ Tryd.underlying139 hj
  go_enter Tryd.func130, Tryd.ntmps130
  go_wp2
  go_end0
  exact ⟨rfl, rfl⟩

theorem copyCheck_any (B b : Nat) (bs : List Value) (w : World) (h : Lib.IsBuilder 141 5 B b bs w) :
    Calls Tryd.prog 130 #[.pointer (some ⟨b, 0, none⟩)] w fun e w' => e = .returned (.tuple #[]) ∧ (Lib.BuilderAt 141 5 B b (.pointer (some ⟨b, 0, none⟩)) bs w' ∧ Below B w w' ∧ Lib.OthersKept 5 (some b) w w') := by
  rcases h with h | h
  · refine (copyCheck_fresh b w h.cell0 h.shape h.frozen0).mono ?_
    rintro e w' ⟨rfl, rfl⟩
    exact ⟨rfl, h.used _, (Below.refl B w).setCell (p := ⟨b, 0, none⟩) h.1 _, (Lib.OthersKept.refl _ _ w).setCell ⟨b, 0, none⟩ rfl _⟩
  · refine (copyCheck_used b w h.cell0).mono ?_
    rintro e w' ⟨rfl, rfl⟩
    exact ⟨rfl, h, Below.refl B _, Lib.OthersKept.refl _ _ _⟩

set_option maxHeartbeats 2000000 in
set_option maxRecDepth 100000 in
theorem WriteString_any (B b : Nat) (bs : List Value) (s : ByteArray) (w : World) (h : Lib.IsBuilder 141 5 B b bs w) (hlen : bs.length + s.size ≤ 1000000000000) (hBw : B ≤ w.heap.size) :
    Calls Tryd.prog 87 #[.pointer (some ⟨b, 0, none⟩), .string s] w fun e w' => (∃ v, e = .returned v) ∧ (Lib.IsBuilder 141 5 B b (bs ++ Lib.strCells s) w' ∧ Below B w w' ∧ Lib.OthersKept 5 (some b) w w') := by
  obtain ⟨i0, hi, hz0, hz1, hz2⟩ := info_parts info_u8
  have cC := copyCheck_any B b bs w h
  clear h
  go_enter Tryd.func87, Tryd.ntmps87
  go_wp2_with (first | (go_at_call 130; refine cC.mono ?_; rintro e w1 ⟨rfl, ⟨hB, v, hbk, hown, hne⟩, hb1, hk1⟩; have c0 : w1.cell? ⟨b, 0, none⟩ = some (.pointer (some ⟨b, 0, none⟩)) := (by rw [Lib.cell_of_heap hbk]; rfl); have c1 : w1.cell? ⟨b, 1, none⟩ = some v := (by rw [Lib.cell_of_heap hbk]; rfl)) | (at_builtin; refine Lib.wpList_append_own_string _ rfl _ _ 125 9 rfl B 5 i0 Tryd.underlying125 Tryd.underlying9 hi hz0 hz1 hz2 _ _ _ rfl hown s rfl (by unfold maxLen; omega) (by omega) (by have := hb1.size; omega) ?_) | fail)
  intro v' w2 hown' hgrow _
  have hlt : b < w1.heap.size := World.block_lt_of_cell? w1 _ c0
  have hb2 : w2.heap[b]? = some (.cells #[.pointer (some ⟨b, 0, none⟩), v] 141 (0, 0)) := by
    rw [hgrow.block b hlt (fun e => hne e.symm)]
    exact hbk
  have d0 : w2.cell? ⟨b, 0, none⟩ = some (.pointer (some ⟨b, 0, none⟩)) := by rw [Lib.cell_of_heap hb2]; rfl
  have d1 : w2.cell? ⟨b, 1, none⟩ = some v := by rw [Lib.cell_of_heap hb2]; rfl
  have f1 : w2.frozen? ⟨b, 1, none⟩ = false := Lib.frozen_of_heap hb2 1
  obtain ⟨ao, cap, rfl⟩ := own_slice hown'
  have HP : Hid (Lib.IsBuilder 141 5 B b (bs ++ Lib.strCells s) (w2.setCell ⟨b, 1, none⟩ (.slice ao (bs.length + s.size) cap)) ∧ Below B w (w2.setCell ⟨b, 1, none⟩ (.slice ao (bs.length + s.size) cap)) ∧ Lib.OthersKept 5 (some b) w (w2.setCell ⟨b, 1, none⟩ (.slice ao (bs.length + s.size) cap))) := by
    refine ⟨.inr ?_, ?_, (hk1.grown hgrow (Lib.ownsRowF_kind (World.ownsRowF_of hown))).setCell ⟨b, 1, none⟩ rfl _⟩
    · exact Lib.BuilderAt.put (T := 141) (e := 5) hB hb2 (bs' := bs ++ Lib.strCells s) (by simpa [Lib.strCells_length] using hown') (by decide)
    · exact (hb1.grown hgrow (by have := hb1.size; omega) (fun k hk => (hown.lt k hk).1)).setCell (p := ⟨b, 1, none⟩) hB _
  clear hown hown' hgrow hb2 hbk hb1 hk1 c0 c1
  go_wp2
  go_ret2
  exact ⟨⟨_, rfl⟩, HP.out⟩
end Go.Proofs.YtgmgkbbnciglhaaDoor

namespace Go.Proofs.YtgmgkbbnciglhaaDoor
open Go.RowKit

theorem wp_range_ownD {α : Type} {P : Program} {g : Operand} {ps : Array Tmp} {assign body : Code} {Q : Exit → Act → World → Prop} {a : Act} {w : World} {n : Nat}
    {gf : Nat} {lb : Array Value} (hg : a.eval g = .func (.func gf) #[] lb) (eg : ∀ args w, (callFunc gf args).run P w = .ok (.enter gf args) w)
    {encs : List α → α → Array Value} (hps : ∀ pre x, (encs pre x).size = ps.size)
    {It Kp : World → World → Prop} {Z : World → Prop} {S Sp : List α → Prop}
    (hseq : ∀ W, W.heap.size = w.heap.size + 2 → Below w.heap.size w W → SeqOwn P gf lb encs It Kp Z S Sp W)
    (hIt : ∀ A B, It A B → Same2 w.heap.size A B)
    (hKt : ∀ {A B C : World}, Kp A B → Kp B C → Kp A C) (hKb : ∀ (A : World) (r : Loop), Kp A (A.putObj (w.heap.size + 1) (.loop r)))
    (I : List α → World → Prop) (Ix : Code → List α → World → Prop)
    (hIz : ∀ pre A, I pre A → Z A) (hIxz : ∀ c pre A, Ix c pre A → Z A)
    (hI : ∀ pre A B, I pre A → It A B → I pre B) (hIb : ∀ pre A (r : Loop), I pre A → I pre (A.putObj (w.heap.size + 1) (.loop r)))
    (hIx : ∀ c pre A B, Ix c pre A → It A B → Ix c pre B) (hIxb : ∀ c pre A (r : Loop), Ix c pre A → Ix c pre (A.putObj (w.heap.size + 1) (.loop r)))
    (h0 : ∀ W, W.heap.size = w.heap.size + 2 → Below w.heap.size w W → (∃ r, W.heap[w.heap.size + 1]? = some (.loop r)) → W.heap[w.heap.size]? = some (.deferred (some [])) → I [] W)
    (hround : ∀ (l : Nat) (pre : List α) (x : α) (W : World), I pre W → w.heap.size + 2 ≤ W.heap.size → Sp (pre ++ [x]) →
      assign.wpIn (Fence.wide.inRound l) 0 P (Exit.then (fun a₁ w₁ => Same2 w.heap.size W w₁ ∧ Kp W w₁ ∧ ∀ w₂, Put1 (w.heap.size + 1) w₁ w₂ → (∃ r, w₂.heap[w.heap.size + 1]? = some (.loop r)) → body.wpIn (Fence.wide.inRound l) 0 P (ownPostO w.heap.size Kp I Ix (pre ++ [x]) w₂) a₁ w₂) (fun _ _ _ => False))
        { tmps := (ps.zip (encs pre x)).foldl (fun t (p, v) => t.setIfInBounds p v) a.tmps, defers := [] } W)
    (hdone : ∀ (xs : List α) (W : World), S xs → I xs W → W.heap[w.heap.size]? = some (.deferred (some [])) → Q .normal { a with defers := { target := .collected w.heap.size, args := #[] } :: a.defers } W)
    (hstop : ∀ (c : Code) (pre : List α) (W : World), Sp pre → Ix c pre W → W.heap[w.heap.size]? = some (.deferred (some [])) → c.wpIn Fence.wide n P Q { a with defers := { target := .collected w.heap.size, args := #[] } :: a.defers } W) :
    (Code.rangeFunc g ps assign body).wpIn Fence.wide n P Q a w := by
  refine wpIn_rangeFunc ?_
  intro fn hfn
  obtain ⟨rec, hrec⟩ : ∃ rec : LoopState → Option Code → Loop, rec = fun st pe => { state := st, pending := pe, fn, tmps := a.tmps, params := ps, assign, body, defers := w.heap.size } := ⟨_, rfl⟩
  obtain ⟨W1, hW1⟩ : ∃ W1, (w.alloc (.deferred (some []))).alloc (.loop (rec .ready none)) = W1 := ⟨_, rfl⟩
  have hL1 : W1.heap[w.heap.size + 1]? = some (.loop (rec .ready none)) := by
    rw [← hW1]; have := World.alloc_heap_new (w.alloc (.deferred (some []))) (.loop (rec .ready none)); rwa [World.size_alloc] at this
  have hK1 : W1.heap[w.heap.size]? = some (.deferred (some [])) := by
    rw [← hW1]; exact (Below.heap_alloc _ _ _ (by simp)).trans (World.alloc_heap_new w _)
  have hs1 : W1.heap.size = w.heap.size + 2 := by rw [← hW1, World.size_alloc, World.size_alloc]
  have hb1 : Below w.heap.size w W1 := by
    rw [← hW1]; exact ((Below.refl _ w).alloc (Nat.le_refl _) _).alloc (by simp) _
  have hI1 : I [] W1 := h0 W1 hs1 hb1 ⟨_, hL1⟩ hK1
  refine ⟨w.heap.size + 1, [{ target := .collected w.heap.size, args := #[] }], W1, { target := .fn (.func gf) lb, args := #[.func (.yield (w.heap.size + 1)) #[] #[]] }, W1, gf,
    #[.func (.yield (w.heap.size + 1)) #[] #[]] ++ lb, W1, ?_, ?_, ?_, ?_, fun h => (by cases h), ?_⟩
  · rw [← hW1, hrec]; exact run_enterLoop_outer _ _ _ _ _
  · simp only [resolve, hg]
    simp [go_sem]
  · intro f' hf'; trivial
  · simp [invoke, go_sem, eg]
  · refine CallsIn.more ((hseq W1 hs1 hb1 (w.heap.size + 1)
      (fun pre W => I pre W ∧ W.heap[w.heap.size + 1]? = some (.loop (rec .ready none)) ∧ W.heap[w.heap.size]? = some (.deferred (some [])))
      (fun pre W => ∃ c, Ix c pre W ∧ W.heap[w.heap.size + 1]? = some (.loop (rec .done (some c))) ∧ W.heap[w.heap.size]? = some (.deferred (some [])))
      (fun s A hs => hIz s A hs.1) (fun s A hs => (by obtain ⟨c, hc, _⟩ := hs; exact hIxz c s A hc))
      (fun s A B hs hg' => ⟨hI s A B hs.1 hg', (hIt A B hg').b.trans hs.2.1, (hIt A B hg').a.trans hs.2.2⟩)
      (fun s A B hs hg' => by
        obtain ⟨c, hc, hl, hk⟩ := hs
        exact ⟨c, hIx c s A B hc hg', (hIt A B hg').b.trans hl, (hIt A B hg').a.trans hk⟩)
      ?_ ⟨hI1, hL1, hK1⟩).mono ?_) (Nat.zero_le _)
    · -- one round
      rintro pre x W ⟨hi, hl, hk⟩ hSp
      have hlt : w.heap.size + 1 < W.heap.size := (Array.getElem?_eq_some_iff.1 hl).1
      have hy := run_yield (P := P) (args := encs pre x) hl (by rw [hrec]; exact hps pre x)
      rw [hrec] at hy
      refine ⟨fn, _, assign, body, hy, roundIn_of_wpIn hfn (wpIn_mono (hround _ pre x W hi (by omega) hSp) ?_)⟩
      clear hy
      rintro ea a' Wa hq
      cases ea with
      | normal => ?_
      | ret => exact hq.elim
      | exit id => exact hq.elim
      | goto t => exact hq.elim
      | panic c => exact hq.elim
      | outgrown => exact hq.elim
      obtain ⟨h2a, hkpa, hbody⟩ := hq
      replace hl := h2a.b.trans hl
      replace hk := h2a.a.trans hk
      replace hlt : w.heap.size + 1 < Wa.heap.size := (Array.getElem?_eq_some_iff.1 hl).1
      refine ⟨_, run_beginRound hl (by rw [hrec]), ?_⟩
      have hl2 : (Wa.putObj (w.heap.size + 1) (.loop { rec .ready none with state := .busy })).heap[w.heap.size + 1]? = some (.loop { rec .ready none with state := .busy }) := World.putObj_heap_same hlt
      have hk2 : (Wa.putObj (w.heap.size + 1) (.loop { rec .ready none with state := .busy })).heap[w.heap.size]? = some (.deferred (some [])) := (World.putObj_heap_other (by omega)).trans hk
      have hw2 : Kp Wa (Wa.putObj (w.heap.size + 1) (.loop { rec .ready none with state := .busy })) := hKb _ _
      refine wpIn_mono (hbody _ (Put1.putObj _ _ _) ⟨_, hl2⟩) ?_
      have fin : ∀ (jump : Option Code) (W3 : World), Same2 w.heap.size (Wa.putObj (w.heap.size + 1) (.loop { rec .ready none with state := .busy })) W3 →
          (Instr.endRound (w.heap.size + 1) jump).run P W3 = .ok (.bool jump.isNone) (W3.putObj (w.heap.size + 1) (.loop (rec (if jump.isNone then .ready else .done) jump))) ∧
          (W3.putObj (w.heap.size + 1) (.loop (rec (if jump.isNone then .ready else .done) jump))).heap[w.heap.size + 1]? = some (.loop (rec (if jump.isNone then .ready else .done) jump)) ∧
          (W3.putObj (w.heap.size + 1) (.loop (rec (if jump.isNone then .ready else .done) jump))).heap[w.heap.size]? = some (.deferred (some [])) := fun jump W3 hk3 => by
        have hl3 := hk3.b.trans hl2
        have := run_endRound (P := P) jump hl3
        rw [hrec] at this ⊢
        exact ⟨this, World.putObj_heap_same (Array.getElem?_eq_some_iff.1 hl3).1, (World.putObj_heap_other (by omega)).trans (hk3.a.trans hk2)⟩
      rintro e a3 W3 hp
      cases e with
      | normal =>
        obtain ⟨hk3, hkp3, hi3⟩ := hp
        obtain ⟨hr, hl4, hk4⟩ := fin none W3 hk3
        exact ⟨_, _, hr, .inl ⟨rfl, ⟨hIb _ _ _ hi3, hl4, hk4⟩, hKt hkpa (hKt (hKt hw2 hkp3) (hKb _ _))⟩⟩
      | ret =>
        obtain ⟨hk3, hkp3, hi3⟩ := hp
        obtain ⟨hr, hl4, hk4⟩ := fin (some .ret) W3 hk3
        exact ⟨_, _, hr, .inr ⟨rfl, ⟨.ret, hIxb _ _ _ _ hi3, hl4, hk4⟩, hKt hkpa (hKt (hKt hw2 hkp3) (hKb _ _))⟩⟩
      | exit id =>
        obtain ⟨hk3, hkp3, hi3⟩ := hp
        obtain ⟨hr, hl4, hk4⟩ := fin (some (.exit id)) W3 hk3
        exact ⟨_, _, hr, .inr ⟨rfl, ⟨.exit id, hIxb _ _ _ _ hi3, hl4, hk4⟩, hKt hkpa (hKt (hKt hw2 hkp3) (hKb _ _))⟩⟩
      | goto t =>
        obtain ⟨hk3, hkp3, hi3⟩ := hp
        obtain ⟨hr, hl4, hk4⟩ := fin (some (.goto t)) W3 hk3
        exact ⟨_, _, hr, .inr ⟨rfl, ⟨.goto t, hIxb _ _ _ _ hi3, hl4, hk4⟩, hKt hkpa (hKt (hKt hw2 hkp3) (hKb _ _))⟩⟩
      | panic ch => exact hp.elim
      | outgrown => exact hp.elim
    · -- behind the iterator
      rintro e W2 ⟨⟨v, rfl⟩, (⟨xs, hS, hi, hl, hk⟩ | ⟨pre, hSp, c, hi, hl, hk⟩)⟩
      · exact ⟨none, _, by have := run_endLoop (P := P) hl (by rw [hrec]; simp); rw [hrec] at this; exact this, hdone xs _ hS (hIb _ _ _ hi) ((World.putObj_heap_other (by omega)).trans hk)⟩
      · exact ⟨some c, _, by have := run_endLoop (P := P) hl (by rw [hrec]; simp); rw [hrec] at this; exact this, hstop c pre _ hSp (hIxb _ _ _ _ hi) ((World.putObj_heap_other (by omega)).trans hk)⟩

end Go.Proofs.YtgmgkbbnciglhaaDoor

namespace Go.Proofs.YtgmgkbbnciglhaaDoor
open Go.RowKit
set_option linter.unusedVariables false
attribute [local go_sem] Oper.semAt_some

theorem String_any (B b : Nat) (l : List UInt8) (w : World) (h : Lib.IsBuilder 141 5 B b (Lib.byteCells l) w) (hBw : B ≤ w.heap.size) :
    Calls Tryd.prog 88 #[.pointer (some ⟨b, 0, none⟩)] w fun e w' => e = .returned (.string ⟨l.toArray⟩) ∧ (Below B w w' ∧ Lib.OthersKept 5 (some b) w w') := by
  have c : Calls Tryd.prog 88 #[.pointer (some ⟨b, 0, none⟩)] w fun e w' => e = .returned (.string ⟨l.toArray⟩) ∧ (Lib.IsBuilderF 141 5 B b (Lib.byteCells l) w' ∧ Below B w w' ∧ Lib.OthersKept 5 (some b) w w') := Any.Builder_String_any_k Tryd.lays169 Tryd.Builder_Extra_169 B b l w (.of h) hBw
  exact c.mono fun e w' h => ⟨h.1, h.2.2⟩

/-- What a part makes of its piece. -/
def madeP (x : Pt × List UInt8) : List UInt8 := (if 0 < x.1.keep then x.2 else []) ++ x.1.put
def applyP (ps : List Pt) (s : List UInt8) : List UInt8 := (pcs ps s).flatMap madeP

theorem pcs_len (ps : List Pt) (s : List UInt8) (h : fitsP ps s) : (((pcs ps s).map fun x => x.2.length).sum : Nat) ≤ s.length := by
  induction ps generalizing s with
  | nil => simp [pcs]
  | cons p ps ih =>
    obtain ⟨h1, h2, h3, h4⟩ := h
    have := ih _ h4
    simp only [pcs, List.map_cons, List.sum_cons]
    rw [List.length_take]
    rw [List.length_drop] at this
    omega
theorem pcs_puts (ps : List Pt) (s : List UInt8) : (pcs ps s).map (fun x => x.1.put.length) = ps.map fun p => p.put.length := by
  induction ps generalizing s with
  | nil => rfl
  | cons p ps ih => simp [pcs, ih]
def putsP (ps : List Pt) : Nat := (ps.map fun p => p.put.length).sum
theorem made_len (l : List (Pt × List UInt8)) : (l.flatMap madeP).length ≤ (l.map fun x => x.2.length).sum + (l.map fun x => x.1.put.length).sum := by
  induction l with
  | nil => simp
  | cons x l ih =>
    simp only [List.flatMap_cons, List.length_append, List.map_cons, List.sum_cons]
    have : (madeP x).length ≤ x.2.length + x.1.put.length := by
      unfold madeP
      rw [List.length_append]
      split <;> simp
    omega
theorem made_pre {ps : List Pt} {s : List UInt8} (h : fitsP ps s) {pre rest : List (Pt × List UInt8)} (e : pcs ps s = pre ++ rest) : (pre.flatMap madeP).length ≤ s.length + putsP ps := by
  have h1 := made_len pre
  have h2 := pcs_len ps s h
  have h3 := congrArg List.sum (pcs_puts ps s)
  rw [e] at h2 h3
  rw [List.map_append, List.sum_append] at h2 h3
  unfold putsP
  omega

theorem own_put {A B : World} {n N e size k : Nat} {v : Value} {xs : List Value} {r : Loop} (h : A.ownsRow N e size v k xs) (hn : A.heap[n]? = some (.loop r)) (hp : Put1 n A B) : B.ownsRow N e size v k xs := by
  obtain ⟨h0, hrow⟩ := h
  refine ⟨h0, ?_⟩
  rcases hrow with hx | ⟨g, cap, cur, rfl, hg, hgg, rest⟩
  · exact .inl hx
  · refine .inr ⟨g, cap, cur, rfl, hg, (hp.block g ?_).trans hgg, rest⟩
    rintro rfl
    rw [hn] at hgg
    cases hgg
theorem bld_at {T e B b : Nat} {p : Value} {bs : List Value} {w w' : World} (h : Lib.BuilderAt T e B b p bs w) (hb : w'.heap[b]? = w.heap[b]?) (ho : ∀ v, w.ownsRow B e 1 v bs.length bs → w'.ownsRow B e 1 v bs.length bs) : Lib.BuilderAt T e B b p bs w' := by
  obtain ⟨h1, v, h2, h3, h4⟩ := h
  exact ⟨h1, v, hb.trans h2, ho v h3, h4⟩
theorem bld_is {T e B b : Nat} {bs : List Value} {w w' : World} (h : Lib.IsBuilder T e B b bs w) (hb : w'.heap[b]? = w.heap[b]?) (ho : ∀ v, w.ownsRow B e 1 v bs.length bs → w'.ownsRow B e 1 v bs.length bs) : Lib.IsBuilder T e B b bs w' :=
  h.elim (fun h => .inl (bld_at h hb ho)) (fun h => .inr (bld_at h hb ho))
theorem bld_lt {T e B b : Nat} {bs : List Value} {w : World} (h : Lib.IsBuilder T e B b bs w) : b < w.heap.size := h.elim Lib.BuilderAt.lt Lib.BuilderAt.lt

/-- What a round of Apply's loop keeps. -/
structure apI (w : World) (β : Nat) (v1 v2 : Value) (r : Loop) (bs : List UInt8) (A : World) : Prop where
  below : Below w.heap.size w A
  size : β + 5 ≤ A.heap.size
  bld : Lib.IsBuilder 141 5 β β (Lib.byteCells bs) A
  h1 : A.heap[β + 1]? = some (.cells #[v1] 84 (0, 0))
  h2 : A.heap[β + 2]? = some (.cells #[v2] 9 (0, 0))
  h3 : A.heap[β + 3]? = some (.deferred (some []))
  h4 : A.heap[β + 4]? = some (.loop r)
theorem apI.grow {w : World} {β : Nat} {v1 v2 : Value} {r : Loop} {bs : List UInt8} {A B : World} (h : apI w β v1 v2 r bs A) (hb : Below A.heap.size A B) : apI w β v1 v2 r bs B := by
  have hs := h.size
  exact ⟨h.below.trans (hb.mono h.below.size), Nat.le_trans hs hb.size, bld_is h.bld (hb.block β (by omega)) (fun v hv => own_below hv hb), (hb.block (β + 1) (by omega)).trans h.h1, (hb.block (β + 2) (by omega)).trans h.h2, (hb.block (β + 3) (by omega)).trans h.h3, (hb.block (β + 4) (by omega)).trans h.h4⟩
theorem apI.put {w : World} {β : Nat} {v1 v2 : Value} {r r' : Loop} {bs : List UInt8} {A B : World} (h : apI w β v1 v2 r bs A) (hw : w.heap.size ≤ β) (hp : Put1 (β + 4) A B) (hl : B.heap[β + 4]? = some (.loop r')) : apI w β v1 v2 r' bs B :=
  ⟨h.below.trans (hp.below (by omega)), by rw [hp.size]; exact h.size, bld_is h.bld (hp.block β (by omega)) (fun v hv => own_put hv h.h4 hp), (hp.block (β + 1) (by omega)).trans h.h1, (hp.block (β + 2) (by omega)).trans h.h2, (hp.block (β + 3) (by omega)).trans h.h3, hl⟩
theorem apI.wrote {w : World} {β : Nat} {v1 v2 : Value} {r : Loop} {bs u : List UInt8} {A B : World} (h : apI w β v1 v2 r bs A) (hw : w.heap.size ≤ β) (h1 : Lib.IsBuilder 141 5 β β (Lib.byteCells bs ++ Lib.strCells ⟨u.toArray⟩) B) (h2 : Below β A B) (h3 : Lib.OthersKept 5 (some β) A B) : apI w β v1 v2 r (bs ++ u) B := by
  refine ⟨h.below.trans (h2.mono hw), Nat.le_trans h.size h2.size, ?_, h3 _ _ h.h1 (by simp) (by intro c fz e; cases e), h3 _ _ h.h2 (by simp) (by intro c fz e; cases e), h3 _ _ h.h3 (by simp) (by intro c fz e; cases e), h3 _ _ h.h4 (by simp) (by intro c fz e; cases e)⟩
  rw [Lib.byteCells_append]
  exact h1

theorem apI.kept {w : World} {β : Nat} {v1 v2 : Value} {r : Loop} {bs bs' : List UInt8} {A B : World} (h : apI w β v1 v2 r bs A) (h' : apI w β v1 v2 r bs' B) (hs : A.heap.size ≤ B.heap.size) :
    Same2 (β + 3) A B ∧ A.heap.size ≤ B.heap.size ∧ ∀ (x : Nat), x = β + 1 ∨ x = β + 1 + 1 ∨ x < w.heap.size → B.heap[x]? = A.heap[x]? := by
  refine ⟨⟨h'.h3.trans h.h3.symm, h'.h4.trans h.h4.symm⟩, hs, ?_⟩
  rintro x (rfl | rfl | hx)
  · exact h'.h1.trans h.h1.symm
  · exact h'.h2.trans h.h2.symm
  · exact (h'.below.block x hx).trans (h.below.block x hx).symm

set_option maxRecDepth 100000 in
set_option maxHeartbeats 2000000 in
theorem Apply_err (v : Value) (ps : List Pt) (s : List UInt8) (w : World) (hT : Lib.Utf8Tabs 0 1 w) (hr : opAt w v ps) (hwf : ∀ p ∈ ps, wfP p) (hs : s.length < 1000000000) (hl : ps.length < 10000000) (he : ordE ps s ≠ 0) :
    Calls Tryd.prog 53 #[v, .string ⟨s.toArray⟩] w fun e w' => e = .returned (.tuple #[.string ⟨#[]⟩, errV (ordE ps s)]) ∧ Below w.heap.size w w' := by
  have cC : Hid _ := checkOver_any v ps s w hT hr hwf hs hl
  have hV : errV (ordE ps s) = .iface 23 (.int .i64 (ordE ps s)) := by unfold errV; rw [if_neg he]
  rw [hV] at cC ⊢
  generalize ordE ps s = E at *
  obtain ⟨p, c, rfl, _⟩ := hr
  clear hT hwf hV
  go_enter Tryd.func53, Tryd.ntmps53
  go_wp2_with (first | (go_at_call 99; refine Calls.mono cC.out ?_; rintro e w1 ⟨rfl, hb1⟩) | fail)
  go_ret2
  exact ⟨rfl, hb1⟩

set_option maxRecDepth 100000 in
set_option maxHeartbeats 16000000 in
theorem Apply_fine (v : Value) (ps : List Pt) (s : List UInt8) (w : World) (hT : Lib.Utf8Tabs 0 1 w) (hr : opAt w v ps) (hwf : ∀ p ∈ ps, wfP p) (hs : s.length < 1000000000) (hl : ps.length < 10000000) (hpu : putsP ps < 100000000000) (he : chkE ps (s.length : Int) = 0) (hbad : badO ps s = false) :
    Calls Tryd.prog 53 #[v, .string ⟨s.toArray⟩] w fun e w' => e = .returned (.tuple #[.string ⟨(applyP ps s).toArray⟩, .nilIface]) ∧ Below w.heap.size w w' := by
  have cC : Hid _ := checkOver_any v ps s w hT hr hwf hs hl
  obtain ⟨hfit, hleft⟩ := chkE_fits he
  have hV : errV (ordE ps s) = .nilIface := by unfold ordE; rw [if_pos he, hbad]; rfl
  rw [hV] at cC
  have HF : Hid (fitsP ps s) := hfit
  have HR : Hid (opAt w v ps) := hr
  have HSL : Hid (s.length < 1000000000) := hs
  have HLP : Hid (ps.length < 10000000) := hl
  have HPU : Hid (putsP ps < 100000000000) := hpu
  have hrow : ∀ x o n c, v = .slice (some ⟨x, o, none⟩) n c → ps ≠ [] → x < w.heap.size := by
    intro x o n c e hne
    obtain ⟨p, c', rfl, _, _, h3⟩ := hr
    obtain ⟨b, o', e1, e2, _⟩ := h3 hne
    simp only [Value.slice.injEq] at e
    rw [e.1] at e1
    simp only [Option.some.injEq, Addr.mk.injEq] at e1
    rw [e1.1]; exact e2
  have HROW : Hid _ := hrow
  obtain ⟨p, c, rfl, _⟩ := hr
  obtain ⟨S, hS⟩ : ∃ S : ByteArray, (ByteArray.mk (applyP ps s).toArray) = S := ⟨_, rfl⟩
  have HS : Hid (ByteArray.mk (applyP ps s).toArray = S) := hS
  rw [hS]
  clear hT hwf hV hfit hleft hrow he hbad hS hpu
  have cO := fun (wx : World) => over_any p ps.length c ⟨s.toArray⟩ wx
  refine (callsIn_wide (n := 3)).1 ?_
  refine callsIn_of_wp_marks Tryd.func53 rfl trivial ?_ rfl
  simp only [Tryd.ntmps53, List.size_toArray, List.length_cons, List.length_nil, Nat.reduceAdd, Nat.reduceSub, Array.replicate_succ, Array.replicate_zero, List.push_toArray, List.append_toArray, List.nil_append, List.cons_append]
  gi_wp2_with (first
    | (refine ⟨trivial, ?_⟩; gi_at_call 99; refine (callsIn_wide.2 cC.out).mono ?_; rintro e w1 ⟨rfl, hb1⟩)
    | (refine ⟨trivial, ?_⟩; gi_at_call 100; refine (callsIn_wide.2 (cO _)).mono ?_; rintro e w13 ⟨rfl, rfl⟩)
    | fail)
  have hlt1 : w.heap.size ≤ w1.heap.size := hb1.size
  obtain ⟨β, hβ⟩ : ∃ β, w1.heap.size = β := ⟨_, rfl⟩
  obtain ⟨W4, hW4⟩ : ∃ W4, W4 = ((w1.alloc (.cells #[.pointer none, .slice none 0 0] 141)).alloc (.cells #[.slice p ps.length c] 84)).alloc (.cells #[.string ⟨s.toArray⟩] 9) := ⟨_, rfl⟩
  have hb4 : Below w.heap.size w W4 := by rw [hW4]; exact ((hb1.alloc hb1.size _).alloc (by simp; omega) _).alloc (by simp; omega) _
  have hs4 : W4.heap.size = β + 3 := by rw [hW4, ← hβ]; simp
  have q0 : W4.heap[β]? = some (.cells #[.pointer none, .slice none 0 0] 141 (0, 0)) := by rw [hW4, ← hβ]; exact (heap_alloc_old _ _ (by rw [World.size_alloc, World.size_alloc]; omega)).trans ((heap_alloc_old _ _ (by rw [World.size_alloc]; omega)).trans (heap_alloc_new _ _))
  have q1 : W4.heap[β + 1]? = some (.cells #[.slice p ps.length c] 84 (0, 0)) := by rw [hW4, ← hβ]; exact (heap_alloc_old _ _ (by simp)).trans (by have := heap_alloc_new (w1.alloc (.cells #[.pointer none, .slice none 0 0] 141)) (.cells #[.slice p ps.length c] 84); rwa [World.size_alloc] at this)
  have q2 : W4.heap[β + 2]? = some (.cells #[.string ⟨s.toArray⟩] 9 (0, 0)) := by rw [hW4, ← hβ]; have := heap_alloc_new ((w1.alloc (.cells #[.pointer none, .slice none 0 0] 141)).alloc (.cells #[.slice p ps.length c] 84)) (.cells #[.string ⟨s.toArray⟩] 9); rwa [World.size_alloc, World.size_alloc] at this
  rw [← hW4, hβ]
  rw [hβ] at hlt1
  clear hW4 cC cO hb1 hβ
  refine wp_range_ownD (gf := 138) (lb := #[.pointer (some ⟨β + 1 + 1, 0, none⟩), .pointer (some ⟨β + 1, 0, none⟩)]) rfl (enters_of Tryd.func138 (by kernel_rfl) rfl) (encs := fun _ (x : Pt × List UInt8) => #[partV x.1, .string ⟨x.2.toArray⟩]) (fun _ _ => rfl)
    (It := fun A B => Below A.heap.size A B ∧ β + 5 ≤ A.heap.size) (Kp := fun A B => A.heap.size ≤ B.heap.size ∧ ∀ x, (x = β + 1 ∨ x = β + 1 + 1 ∨ x < w.heap.size) → B.heap[x]? = A.heap[x]?) (Z := fun _ => True) (S := fun xs => xs = pcs ps s) (Sp := fun pre => ∃ rest, pcs ps s = pre ++ rest)
    ?seq ?its (fun h k => ⟨Nat.le_trans h.1 k.1, fun x hx => (k.2 x hx).trans (h.2 x hx)⟩) ?hkb
    (fun pre W => ∃ r, apI w β (.slice p ps.length c) (.string ⟨s.toArray⟩) r (pre.flatMap madeP) W)
    (fun _ _ _ => False) (fun _ _ _ => trivial) (fun _ _ _ h => h.elim) ?ii ?ib (fun _ _ _ _ h _ => h) (fun _ _ _ _ h => h) ?h0 ?round ?done (fun _ _ _ _ h => h.elim)
  case seq =>
    intro W hs1 hb1
    rw [hs4] at hs1 hb1
    have hb9 : Below w.heap.size w W := hb4.trans (hb1.mono (by omega))
    have := over_seq (.slice p ps.length c) ps s HSL.out HLP.out HF.out (fun x => (x = β + 1 ∨ x = β + 1 + 1 ∨ x < w.heap.size)) (β + 1) W (Lib.cell_of_heap ((hb1.block (β + 1) (by omega)).trans q1) 0) (Lib.cell_of_heap ((hb1.block (β + 2) (by omega)).trans q2) 0) (opAt_below HR.out hb9 (Nat.le_refl _)) (.inl rfl) (.inr (.inl rfl)) (fun b o n c' e hne => .inr (.inr (HROW.out b o n c' e hne))) (by rintro x (rfl | rfl | hx) <;> omega) (fun _ => True)
    rw [hs1] at this
    exact this
  case its => exact fun A B h => Same2.of_below h.1 (by rw [hs4]; omega)
  case hkb =>
    intro A r
    rw [hs4]
    exact ⟨by simp, fun x hx => World.putObj_heap_other (by omega)⟩
  case ii => exact fun pre A B h hb => by obtain ⟨r, h⟩ := h; exact ⟨r, h.grow hb.1⟩
  case ib =>
    rintro pre A r ⟨r0, h⟩
    rw [hs4]
    exact ⟨r, h.put hlt1 (Put1.putObj _ _ _) (World.putObj_heap_same (by have := h.size; omega))⟩
  case h0 =>
    rintro W hs hb ⟨r, hr⟩ hd
    rw [hs4] at hs hb hr hd
    exact ⟨r, hb4.trans (hb.mono (by omega)), by omega, .inl ⟨Nat.le_refl _, .slice none 0 0, (hb.block β (by omega)).trans q0, World.ownsRow_nil _ _ _ _, by simp [Value.ownBlock]⟩, (hb.block (β + 1) (by omega)).trans q1, (hb.block (β + 2) (by omega)).trans q2, hd, hr⟩
  case round =>
    rintro l pre ⟨q, T⟩ W ⟨r0, hI⟩ hlW ⟨rest, hSp⟩
    rw [hs4] at hlW ⊢
    have hml := made_pre HF.out hSp
    have hpp := HPU.out
    have hss := HSL.out
    have HML : Hid ((pre.flatMap madeP).length + T.length + q.put.length ≤ 1000000000000) := by
      show _ ≤ _
      have h1 := pcs_len ps s HF.out
      have h2 := congrArg List.sum (pcs_puts ps s)
      have h3 := made_len pre
      rw [hSp] at h1 h2
      simp only [List.map_append, List.sum_append, List.map_cons, List.map_nil, List.sum_cons, List.sum_nil] at h1 h2
      unfold putsP at hpp
      omega
    have HI : Hid (apI w β (.slice p ps.length c) (.string ⟨s.toArray⟩) r0 (pre.flatMap madeP) W) := hI
    have HNX : Hid ((pre ++ [(q, T)]).flatMap madeP = pre.flatMap madeP ++ madeP (q, T)) := by show _ = _; simp
    have HWB : Hid (¬ β = W.heap.size) := by show ¬ _; omega
    have cK := isKeep_any q
    unfold partV at cK ⊢
    clear hI hSp q0 q1 q2 hb4 hml hpp hss
    gi_wp2
    refine ⟨(Same2.refl _ W).alloc (by omega) _, ⟨by simp, fun x hx => heap_alloc_old _ _ (by omega)⟩, ?_⟩
    intro w2 hp ⟨r, hr⟩
    have hI1 := HI.out.grow (B := W.alloc (.cells #[.int .i64 q.keep, .int .i64 q.drop, .string ⟨q.put.toArray⟩] 151)) ((Below.refl _ _).alloc (Nat.le_refl _) _)
    have HI2 : Hid (apI w β (.slice p ps.length c) (.string ⟨s.toArray⟩) r (pre.flatMap madeP) w2) := hI1.put hlt1 hp hr
    have hbx : w2.heap[W.heap.size]? = some (.cells #[.int .i64 q.keep, .int .i64 q.drop, .string ⟨q.put.toArray⟩] 151 (0, 0)) := (hp.block W.heap.size (by omega)).trans (heap_alloc_new _ _)
    have HBX : Hid (w2.heap[W.heap.size]? = some (.cells #[.int .i64 q.keep, .int .i64 q.drop, .string ⟨q.put.toArray⟩] 151 (0, 0))) := hbx
    have x0 : w2.cell? ⟨W.heap.size, 0, none⟩ = some (.int .i64 q.keep) := Lib.cell_of_heap hbx 0
    have x1 : w2.cell? ⟨W.heap.size, 1, none⟩ = some (.int .i64 q.drop) := Lib.cell_of_heap hbx 1
    have x2 : w2.cell? ⟨W.heap.size, 2, none⟩ = some (.string ⟨q.put.toArray⟩) := Lib.cell_of_heap hbx 2
    clear hp hr hbx hI1
    by_cases hk : 0 < q.keep
    · have hkd : decide (0 < q.keep) = true := decide_eq_true hk
      rw [hkd] at cK
      have HMK : Hid (madeP (q, T) = T ++ q.put) := by show _ = _; unfold madeP; rw [if_pos hk]
      clear hk hkd
      gi_wp2_with (first
        | (refine ⟨trivial, rfl, ?_⟩; gi_at_call 101; refine (CallsIn.inRound l (callsIn_wide.2 (cK _))).mono ?_; rintro e w3 ⟨rfl, hb3⟩; have hI3 := HI2.out.grow hb3; have hL3 : (Lib.byteCells (pre.flatMap madeP)).length + (ByteArray.mk T.toArray).size ≤ 1000000000000 := (by have := HML.out; rw [Lib.byteCells_length]; show _ + T.toArray.size ≤ _; simp only [List.size_toArray]; omega); have hB3 : β ≤ w3.heap.size := (by have := hI3.size; omega); have hx3 := (hb3.block W.heap.size (World.block_lt_of_cell? w2 _ x0)).trans HBX.out)
        | (refine ⟨trivial, rfl, ?_⟩; gi_at_call 87; refine (CallsIn.inRound l (callsIn_wide.2 (WriteString_any β β _ _ _ hI4.bld hL4 hB4))).mono ?_; rintro e w5 ⟨⟨v5, rfl⟩, hw5, hb5, hk5⟩; have hI5 := hI4.wrote hlt1 hw5 hb5 hk5)
        | (refine ⟨trivial, rfl, ?_⟩; gi_at_call 87; refine (CallsIn.inRound l (callsIn_wide.2 (WriteString_any β β _ _ _ hI3.bld hL3 hB3))).mono ?_; rintro e w4 ⟨⟨v4, rfl⟩, hw4, hb4, hk4⟩; have hI4 := hI3.wrote hlt1 hw4 hb4 hk4; have hx4 := hk4 _ _ hx3 (fun e => HWB.out (Option.some.inj e).symm) (by intro c fz e; cases e); have hy4 : w4.cell? ⟨W.heap.size, 2, none⟩ = some (.string ⟨q.put.toArray⟩) := Lib.cell_of_heap hx4 2; have hL4 : (Lib.byteCells (pre.flatMap madeP ++ T)).length + (ByteArray.mk q.put.toArray).size ≤ 1000000000000 := (by have := HML.out; rw [Lib.byteCells_length, List.length_append]; show _ + q.put.toArray.size ≤ _; simp only [List.size_toArray]; omega); have hB4 : β ≤ w4.heap.size := (by have := hI4.size; omega))
        | fail)
      have hK := HI2.out.kept hI5 (Nat.le_trans hb3.size (Nat.le_trans hb4.size hb5.size))
      refine ⟨hK.1, hK.2, r, ?_⟩
      rw [HNX.out, HMK.out, ← List.append_assoc]
      exact hI5
    · have hkd : decide (0 < q.keep) = false := decide_eq_false hk
      rw [hkd] at cK
      have HMK : Hid (madeP (q, T) = q.put) := by show _ = _; unfold madeP; rw [if_neg hk, List.nil_append]
      clear hk hkd
      gi_wp2_with (first
        | (refine ⟨trivial, rfl, ?_⟩; gi_at_call 101; refine (CallsIn.inRound l (callsIn_wide.2 (cK _))).mono ?_; rintro e w3 ⟨rfl, hb3⟩; have hI3 := HI2.out.grow hb3; have hL3 : (Lib.byteCells (pre.flatMap madeP)).length + (ByteArray.mk q.put.toArray).size ≤ 1000000000000 := (by have := HML.out; rw [Lib.byteCells_length]; show _ + q.put.toArray.size ≤ _; simp only [List.size_toArray]; omega); have hB3 : β ≤ w3.heap.size := (by have := hI3.size; omega); have y3 : w3.cell? ⟨W.heap.size, 2, none⟩ = some (.string ⟨q.put.toArray⟩) := Lib.cell_of_heap ((hb3.block W.heap.size (World.block_lt_of_cell? w2 _ x0)).trans HBX.out) 2)
        | (refine ⟨trivial, rfl, ?_⟩; gi_at_call 87; refine (CallsIn.inRound l (callsIn_wide.2 (WriteString_any β β _ _ _ hI3.bld hL3 hB3))).mono ?_; rintro e w4 ⟨⟨v4, rfl⟩, hw4, hb4, hk4⟩; have hI4 := hI3.wrote hlt1 hw4 hb4 hk4)
        | (refine ⟨trivial, ?_⟩)
        | fail)
      have hK := HI2.out.kept hI4 (Nat.le_trans hb3.size hb4.size)
      refine ⟨hK.1, hK.2, r, ?_⟩
      rw [HNX.out, HMK.out]
      exact hI4
  case done =>
    rintro xs W rfl ⟨r, hI⟩ hDef
    rw [hs4] at hDef ⊢
    have HI : Hid (apI w β (.slice p ps.length c) (.string ⟨s.toArray⟩) r (applyP ps s) W) := hI
    have cS := String_any β β (applyP ps s) W HI.out.bld (by have := HI.out.size; omega)
    rw [HS.out] at cS
    clear hI q0 q1 q2 hb4
    gi_wp2_with (first
      | (refine ⟨trivial, ?_⟩; gi_at_call 88; refine (callsIn_wide.2 cS).mono ?_; rintro e w6 ⟨rfl, hb6, hk6⟩)
      | fail)
    have hDef6 := hk6 _ _ hDef (fun e => by have := Option.some.inj e; omega) (by intro c fz e; cases e)
    have hP := Put1.putObj (β + 3) w6 (.deferred none)
    refine ⟨by simp, .inl ⟨_, _, rfl, run_takeDeferred hDef6, ?_⟩⟩
    exact ⟨.tuple #[.string S, .nilIface], by simp [results, Tryd.results53, go_sem], rfl, (HI.out.below.trans (hb6.mono hlt1)).trans (hP.below (by omega))⟩

theorem Apply_any (v : Value) (ps : List Pt) (s : List UInt8) (w : World) (hT : Lib.Utf8Tabs 0 1 w) (hr : opAt w v ps) (hwf : ∀ p ∈ ps, wfP p) (hs : s.length < 1000000000) (hl : ps.length < 10000000) (hpu : putsP ps < 100000000000) :
    Calls Tryd.prog 53 #[v, .string ⟨s.toArray⟩] w fun e w' => e = .returned (.tuple #[.string ⟨(if ordE ps s = 0 then applyP ps s else []).toArray⟩, errV (ordE ps s)]) ∧ Below w.heap.size w w' := by
  by_cases he : ordE ps s = 0
  · rw [if_pos he, he]
    have hc : chkE ps (s.length : Int) = 0 ∧ badO ps s = false := by
      unfold ordE at he
      split at he
      · rename_i h
        refine ⟨h, ?_⟩
        cases hb : badO ps s with
        | false => rfl
        | true => rw [hb] at he; simp at he
      · rename_i h; exact absurd he h
    exact Apply_fine v ps s w hT hr hwf hs hl hpu hc.1 hc.2
  · rw [if_neg he]
    exact Apply_err v ps s w hT hr hwf hs hl he
end Go.Proofs.YtgmgkbbnciglhaaDoor

namespace Go.Proofs.YtgmgkbbnciglhaaDoor
open Go.RowKit
set_option linter.unusedVariables false
attribute [local go_sem] Oper.semAt_some

/-- What a round of Text's loop keeps. -/
structure txI (w : World) (β : Nat) (v1 : Value) (r : Loop) (bs : List UInt8) (A : World) : Prop where
  below : Below w.heap.size w A
  size : β + 4 ≤ A.heap.size
  bld : Lib.IsBuilder 141 5 β β (Lib.byteCells bs) A
  h1 : A.heap[β + 1]? = some (.cells #[v1] 62 (0, 0))
  h3 : A.heap[β + 2]? = some (.deferred (some []))
  h4 : A.heap[β + 3]? = some (.loop r)
theorem txI.grow {w : World} {β : Nat} {v1 : Value} {r : Loop} {bs : List UInt8} {A B : World} (h : txI w β v1 r bs A) (hb : Below A.heap.size A B) : txI w β v1 r bs B := by
  have hs := h.size
  exact ⟨h.below.trans (hb.mono h.below.size), Nat.le_trans hs hb.size, bld_is h.bld (hb.block β (by omega)) (fun v hv => own_below hv hb), (hb.block (β + 1) (by omega)).trans h.h1, (hb.block (β + 2) (by omega)).trans h.h3, (hb.block (β + 3) (by omega)).trans h.h4⟩
theorem txI.put {w : World} {β : Nat} {v1 : Value} {r r' : Loop} {bs : List UInt8} {A B : World} (h : txI w β v1 r bs A) (hw : w.heap.size ≤ β) (hp : Put1 (β + 3) A B) (hl : B.heap[β + 3]? = some (.loop r')) : txI w β v1 r' bs B :=
  ⟨h.below.trans (hp.below (by omega)), by rw [hp.size]; exact h.size, bld_is h.bld (hp.block β (by omega)) (fun v hv => own_put hv h.h4 hp), (hp.block (β + 1) (by omega)).trans h.h1, (hp.block (β + 2) (by omega)).trans h.h3, hl⟩
theorem txI.wrote {w : World} {β : Nat} {v1 : Value} {r : Loop} {bs u : List UInt8} {A B : World} (h : txI w β v1 r bs A) (hw : w.heap.size ≤ β) (h1 : Lib.IsBuilder 141 5 β β (Lib.byteCells bs ++ Lib.strCells ⟨u.toArray⟩) B) (h2 : Below β A B) (h3 : Lib.OthersKept 5 (some β) A B) : txI w β v1 r (bs ++ u) B := by
  refine ⟨h.below.trans (h2.mono hw), Nat.le_trans h.size h2.size, ?_, h3 _ _ h.h1 (by simp) (by intro c fz e; cases e), h3 _ _ h.h3 (by simp) (by intro c fz e; cases e), h3 _ _ h.h4 (by simp) (by intro c fz e; cases e)⟩
  rw [Lib.byteCells_append]
  exact h1

set_option maxRecDepth 100000 in
set_option maxHeartbeats 8000000 in
theorem ropetext_any (b : Nat) (rs : List Nat) (w : World) (h : isRope w b rs) (hz : C1 rs ≤ 10000000) :
    Calls Tryd.prog 33 #[.pointer (some ⟨b, 0, none⟩)] w fun e w' => e = .returned (.string (bytesOf rs)) ∧ Below w.heap.size w w' := by
  obtain ⟨q, t, k1, k2, k3, k4, k5, k6⟩ := h
  have hen : (encs rs).length ≤ 10000000 := by rw [C1_len] at hz; omega
  have HQ : Hid (w.cell? ⟨b, 0, none⟩ = some (.pointer q)) := k1
  have HT : Hid (isTree w q t) := k4
  have HEN : Hid ((encs rs).length ≤ 10000000) := hen
  have hfl : t.chunks.flatten = rs := by rw [← runes_chunks]; exact k6
  have HFL : Hid (t.chunks.flatten = rs) := hfl
  have cK := fun (wx : World) => chunks_any b wx
  clear k1 k2 k3 k4 k5 k6 hz hen hfl
  refine (callsIn_wide (n := 3)).1 ?_
  refine callsIn_of_wp_marks Tryd.func33 rfl trivial ?_ rfl
  simp only [Tryd.ntmps33, List.size_toArray, List.length_cons, List.length_nil, Nat.reduceAdd, Nat.reduceSub, Array.replicate_succ, Array.replicate_zero, List.push_toArray, List.append_toArray, List.nil_append, List.cons_append]
  gi_wp2_with (first
    | (refine ⟨trivial, ?_⟩; gi_at_call 86; refine (callsIn_wide.2 (cK _)).mono ?_; rintro e w13 ⟨rfl, rfl⟩)
    | fail)
  obtain ⟨β, hβ⟩ : ∃ β, w.heap.size = β := ⟨_, rfl⟩
  obtain ⟨W4, hW4⟩ : ∃ W4, W4 = (w.alloc (.cells #[.pointer none, .slice none 0 0] 141)).alloc (.cells #[.pointer (some ⟨b, 0, none⟩)] 62) := ⟨_, rfl⟩
  have hb4 : Below w.heap.size w W4 := by rw [hW4]; exact ((Below.refl _ w).alloc (Nat.le_refl _) _).alloc (by simp) _
  have hs4 : W4.heap.size = β + 2 := by rw [hW4, ← hβ]; simp
  have q0 : W4.heap[β]? = some (.cells #[.pointer none, .slice none 0 0] 141 (0, 0)) := by rw [hW4, ← hβ]; exact (Below.heap_alloc _ _ _ (by simp)).trans (World.alloc_heap_new _ _)
  have q1 : W4.heap[β + 1]? = some (.cells #[.pointer (some ⟨b, 0, none⟩)] 62 (0, 0)) := by rw [hW4, ← hβ]; have := World.alloc_heap_new (w.alloc (.cells #[.pointer none, .slice none 0 0] 141)) (.cells #[.pointer (some ⟨b, 0, none⟩)] 62); rwa [World.size_alloc] at this
  rw [← hW4, hβ]
  have hlt1 : w.heap.size ≤ β := by omega
  clear hW4 cK
  refine wp_range_all (gf := 128) (lb := #[.pointer (some ⟨β + 1, 0, none⟩)]) rfl (enters_of Tryd.func128 (by kernel_rfl) rfl) (encs := fun _ (x : List Nat) => #[.string (bytesOf x)]) (fun _ _ => rfl)
    (It := fun A B => Below A.heap.size A B ∧ β + 4 ≤ A.heap.size) (Kp := keptR β (β + 3)) (Z := fun A => Below w.heap.size w A ∧ A.heap[β + 1]? = some (.cells #[.pointer (some ⟨b, 0, none⟩)] 62 (0, 0))) (S := fun xs => xs = t.chunks) (Sp := fun pre => ∃ rest, t.chunks = pre ++ rest)
    ?seq ?its (fun h k => keptR_trans h k) ?hkb
    (fun pre W => ∃ r, txI w β (.pointer (some ⟨b, 0, none⟩)) r (encs pre.flatten) W) ?iz ?ii ?ib ?h0 ?round ?done
  case seq =>
    intro W hs1 hb1
    rw [hs4] at hs1 hb1
    have := chunks_seq b (β + 1) β (β + 3) w W q t HQ.out HT.out (by omega) (by omega) (by omega)
    rw [hs1] at this
    exact this
  case its => exact fun A B h => Same2.of_below h.1 (by rw [hs4]; omega)
  case hkb =>
    intro A r
    rw [hs4]
    exact ⟨by simp, fun x obj h _ h2 _ => (World.putObj_heap_other h2).trans h⟩
  case iz => exact fun pre A h => by obtain ⟨r, h⟩ := h; exact ⟨h.below, h.h1⟩
  case ii => exact fun pre A B h hb => by obtain ⟨r, h⟩ := h; exact ⟨r, h.grow hb.1⟩
  case ib =>
    rintro pre A r ⟨r0, h⟩
    rw [hs4]
    exact ⟨r, h.put hlt1 (Put1.putObj _ _ _) (World.putObj_heap_same (by have := h.size; omega))⟩
  case h0 =>
    rintro W hs hb ⟨r, hr⟩ hd
    rw [hs4] at hs hb hr hd
    exact ⟨r, hb4.trans (hb.mono (by omega)), by omega, .inl ⟨Nat.le_refl _, .slice none 0 0, (hb.block β (by omega)).trans q0, World.ownsRow_nil _ _ _ _, by simp [Value.ownBlock]⟩, (hb.block (β + 1) (by omega)).trans q1, hd, hr⟩
  case round =>
    rintro l pre x W ⟨r0, hI⟩ hlW ⟨rest, hSp⟩
    rw [hs4] at hlW ⊢
    have hml : (encs pre.flatten).length + (encs x).length ≤ 10000000 := by
      have h1 := HEN.out
      rw [← HFL.out, hSp] at h1
      simp only [List.flatten_append, List.flatten_cons, List.flatten_nil, List.append_nil, encs_append, List.length_append] at h1
      omega
    have HML : Hid _ := hml
    have HI : Hid (txI w β (.pointer (some ⟨b, 0, none⟩)) r0 (encs pre.flatten) W) := hI
    have HNX : Hid (encs (pre ++ [x]).flatten = encs pre.flatten ++ encs x) := by show _ = _; simp [encs_append]
    clear hI hSp q0 q1 hb4 hml
    gi_wp2
    refine ⟨Same2.refl _ W, ⟨Nat.le_refl _, fun x obj h _ _ _ => h⟩, ?_⟩
    intro w2 hp ⟨r, hr⟩
    have hI2 := HI.out.put hlt1 hp hr
    have hL2 : (Lib.byteCells (encs pre.flatten)).length + (bytesOf x).size ≤ 1000000000000 := by have := HML.out; rw [Lib.byteCells_length, bytesOf_size]; omega
    have hB2 : β ≤ w2.heap.size := by have := hI2.size; omega
    have cW := WriteString_any β β (Lib.byteCells (encs pre.flatten)) (bytesOf x) w2 hI2.bld hL2 hB2
    have HI2 : Hid (txI w β (.pointer (some ⟨b, 0, none⟩)) r (encs pre.flatten) w2) := hI2
    clear hp hr hI2
    gi_wp2_with (first
      | (refine ⟨trivial, rfl, ?_⟩; gi_at_call 87; refine (CallsIn.inRound l (callsIn_wide.2 cW)).mono ?_; rintro e w5 ⟨⟨v5, rfl⟩, hw5, hb5, hk5⟩)
      | fail)
    have hI5 := HI2.out.wrote (u := encs x) hlt1 hw5 hb5 hk5
    refine ⟨⟨hI5.h3.trans HI2.out.h3.symm, hI5.h4.trans HI2.out.h4.symm⟩, ⟨hb5.size, fun y obj h h1 h2 h3 => hk5 y obj h (fun e => h1 (Option.some.inj e)) h3⟩, r, ?_⟩
    rw [HNX.out]
    exact hI5
  case done =>
    rintro xs W rfl ⟨r, hI⟩ hDef
    rw [hs4] at hDef ⊢
    rw [HFL.out] at hI
    have HI : Hid (txI w β (.pointer (some ⟨b, 0, none⟩)) r (encs rs) W) := hI
    have cS := String_any β β (encs rs) W HI.out.bld (by have := HI.out.size; omega)
    clear hI q0 q1 hb4
    gi_wp2_with (first
      | (refine ⟨trivial, ?_⟩; gi_at_call 88; refine (callsIn_wide.2 cS).mono ?_; rintro e w6 ⟨rfl, hb6, hk6⟩)
      | fail)
    have hDef6 := hk6 _ _ hDef (fun e => by have := Option.some.inj e; omega) (by intro c fz e; cases e)
    have hP := Put1.putObj (β + 2) w6 (.deferred none)
    refine ⟨by simp, .inl ⟨_, _, rfl, run_takeDeferred hDef6, ?_⟩⟩
    exact ⟨.string (bytesOf rs), by simp [results, Tryd.results33, go_sem]; rfl, rfl, (HI.out.below.trans (hb6.mono hlt1)).trans (hP.below (by omega))⟩
end Go.Proofs.YtgmgkbbnciglhaaDoor

namespace Go.Proofs.YtgmgkbbnciglhaaDoor
open Go.RowKit
set_option linter.unusedVariables false
attribute [local go_sem] Oper.semAt_some

theorem wp_seq_key {P : Program} {Q : Exit → Act → World → Prop} {a : Act} {w : World} {x y : Code} (Fp : Act → World → Prop)
    (h1 : ∀ Q' : Exit → Act → World → Prop, (∀ a' w', Fp a' w' → Q' .normal a' w') → x.wp P Q' a w) (h2 : ∀ a' w', Fp a' w' → y.wp P Q a' w') : (Code.seq x y).wp P Q a w :=
  wp_seq (h1 _ fun a' w' h => h2 a' w' h)
theorem rope_lt {w : World} {b : Nat} {rs : List Nat} (h : isRope w b rs) : b < w.heap.size := by obtain ⟨q, t, h1, _⟩ := h; exact World.block_lt_of_cell? w _ h1
theorem spotW_but {A B : World} {a b : Nat} {x y : Int} (h : spotW A a x y) (hb : But b A B) (hne : a ≠ b) : spotW B a x y := by
  have hlt := World.block_lt_of_cell? A _ h.1.1
  have e := hb.block a hlt hne
  obtain ⟨⟨h0, h1⟩, h2, h3⟩ := h
  exact ⟨⟨(cellOn e 0).trans h0, (cellOn e 1).trans h1⟩, (frozenOn e 0).trans h2, (frozenOn e 1).trans h3⟩
def strLen (v : Value) : Nat := match v with | .string s => s.size | _ => 0
theorem digits_eq : (⟨#[48, 49, 50, 51, 52, 53, 54, 55, 56, 57]⟩ : ByteArray) = bytesOf [48, 49, 50, 51, 52, 53, 54, 55, 56, 57] := by decide
theorem ex_eq : (⟨#[120]⟩ : ByteArray) = bytesOf [120] := by decide
theorem digits_rune : ∀ r ∈ [48, 49, 50, 51, 52, 53, 54, 55, 56, 57], isRune r := fun r h => by simp at h; unfold isRune; omega
theorem ex_rune : ∀ r ∈ [120], isRune r := fun r h => by simp at h; unfold isRune; omega
theorem digits_len : C1 [48, 49, 50, 51, 52, 53, 54, 55, 56, 57] = 10 := by decide
theorem ex_len : C1 [120] = 1 := by decide

set_option maxRecDepth 100000 in
set_option maxHeartbeats 2000000 in
theorem great_any (many : Int) (put : ByteArray) (w : World) (hm : -9223372036854775808 ≤ many ∧ many < 9223372036854775808) (hg : asLaid w) (hT : Lib.Utf8Tabs 0 1 w) :
    Calls Tryd.prog 6 #[.int .i64 many, .string put] w fun e w' => e = .returned (.bool true) ∧ Below w.heap.size w w' := by
  obtain ⟨m1, m2⟩ := hm
  have HG : Hid (asLaid w) := hg
  have HT : Hid (Lib.Utf8Tabs 0 1 w) := hT
  clear hg hT
  go_enter Tryd.func6, Tryd.ntmps6
  refine wp_seq_key (fun a' w' => a' = { tmps := #[.int .i64 many, .string put, undef, undef, .bool false, undef, undef, undef, undef, undef, undef, undef, undef, undef, undef, undef, undef, undef, undef, undef, undef, undef, undef, undef, undef, undef, undef, undef, undef, undef, undef, undef, undef, undef, undef, undef, undef, undef, undef, undef, undef, undef, undef, undef, undef, undef, undef, undef, undef, undef, undef, undef, undef, undef, undef, undef, undef, undef, undef, undef, undef, undef, undef, undef, undef, undef, undef, undef, undef, undef, undef], defers := [] } ∧ w = w') (fun Q' hQ => ?_) ?_
  · have HQ : Hid _ := hQ
    clear hQ
    go_wp2
    exact HQ.out _ _ ⟨rfl, rfl⟩
  rintro a' w' ⟨rfl, rfl⟩
  refine wp_seq_key (fun a' w' => ∃ M u11 u12 u13 u14, (0 ≤ M ∧ M ≤ 59) ∧ a' = { tmps := #[.int .i64 M, .string put, undef, undef, .bool false, undef, undef, undef, undef, undef, undef, u11, u12, u13, u14, undef, undef, undef, undef, undef, undef, undef, undef, undef, undef, undef, undef, undef, undef, undef, undef, undef, undef, undef, undef, undef, undef, undef, undef, undef, undef, undef, undef, undef, undef, undef, undef, undef, undef, undef, undef, undef, undef, undef, undef, undef, undef, undef, undef, undef, undef, undef, undef, undef, undef, undef, undef, undef, undef, undef, undef], defers := [] } ∧ w = w') (fun Q' hQ => ?_) ?_
  · have HQ : Hid _ := hQ
    clear hQ
    go_wp2
    have h1 : 0 ≤ IntKind.u64.wrap many := by rw [IntKind.wrap_u64]; omega
    have h2 : (IntKind.u64.wrap many).tmod 60 = IntKind.u64.wrap many % 60 := Int.tmod_eq_emod_of_nonneg h1
    have h3 := Int.emod_nonneg (IntKind.u64.wrap many) (by decide : (60 : Int) ≠ 0)
    have h4 := Int.emod_lt_of_pos (IntKind.u64.wrap many) (by decide : (0 : Int) < 60)
    refine HQ.out _ _ ⟨_, _, _, _, _, ?_, rfl, rfl⟩
    first
      | (rw [h2]; unfold wrap64; omega)
      | (rw [h2, IntKind.wrap_i64]; omega)
  rintro a' w' ⟨M, u11, u12, u13, u14, ⟨hM0, hM1⟩, rfl, rfl⟩
  clear m1 m2
  by_cases hp : (100 : Int) < (put.size : Int)
  · have HB0 : Hid (Below w.heap.size w w) := Below.refl _ w
    go_wp2
    go_ret
    exact ⟨rfl, HB0.out⟩
  have hpN : put.size ≤ 100 := by omega
  obtain ⟨H, hq⟩ : ∃ H, M.tdiv 2 = H := ⟨_, rfl⟩
  have hH : 0 ≤ H ∧ H ≤ 29 := by rw [← hq, Int.tdiv_eq_ediv_of_nonneg hM0]; omega
  obtain ⟨hH0, hH1⟩ := hH
  have HPK : Hid (∀ rs, (∀ r ∈ rs, isRune r) → C1 rs ≤ 8000 → _) := fun rs hr hz => splice_pack put (by omega) rs hr hz 5 H
  have HD : Hid (∀ rs, bytesOf rs ++ ⟨#[48, 49, 50, 51, 52, 53, 54, 55, 56, 57]⟩ = bytesOf (rs ++ [48, 49, 50, 51, 52, 53, 54, 55, 56, 57])) := fun rs => by rw [digits_eq, bytesOf_append]
  have HX : Hid (∀ rs, bytesOf rs ++ ⟨#[120]⟩ = bytesOf (rs ++ [120])) := fun rs => by rw [ex_eq, bytesOf_append]
  have HE0 : Hid ((⟨#[]⟩ : ByteArray) = bytesOf []) := rfl
  clear hpN
  go_wp2
  go_loopw [5] (fun s wr => ∃ (k : Nat) (rs : List Nat), s = .string (bytesOf rs) ∧ k ≤ 797 ∧ C1 rs = 10 * (k : Int) ∧ (∀ r ∈ rs, isRune r) ∧ Below w.heap.size w wr) (fun s _ => 8000 - strLen s)
  case atStart => exact ⟨0, [], by rw [HE0.out], by omega, rfl, fun _ h => (by cases h), Below.refl _ _⟩
  case round =>
    obtain ⟨k, rs, rfl, hk, hc, hr, hb⟩ := hrel
    have hz : ((bytesOf rs).size : Int) = 10 * (k : Int) := by rw [bytesOf_size, ← C1_len]; exact hc
    have HC : Hid (C1 rs = 10 * (k : Int)) := hc
    have HR : Hid (∀ r ∈ rs, isRune r) := hr
    have HB : Hid (Below w.heap.size w wr) := hb
    by_cases hlt : k < 797
    · have hlen : ((bytesOf rs).size : Int) < 7970 := by omega
      have hsm : (bytesOf rs).size + 10 ≤ 400000000 := by omega
      have hd := HD.out rs
      have HS2 : Hid ((bytesOf (rs ++ [48, 49, 50, 51, 52, 53, 54, 55, 56, 57])).size = (bytesOf rs).size + 10) := by show _ = _; rw [← hd, ByteArray.size_append]; rfl
      obtain ⟨n, hn⟩ : ∃ n, (bytesOf rs).size = n := ⟨_, rfl⟩
      have HN : Hid ((bytesOf rs).size = n) := hn
      clear hc hr hb
      go_wp2
      refine ⟨⟨k + 1, rs ++ [48, 49, 50, 51, 52, 53, 54, 55, 56, 57], rfl, by omega, by rw [C1_append, HC.out, digits_len]; omega, fun r h => (List.mem_append.1 h).elim (HR.out r) (digits_rune r), HB.out⟩, ?_⟩
      show 8000 - (bytesOf _).size < 8000 - (bytesOf rs).size; rw [HS2.out]; omega
    · have hlen : ¬ ((bytesOf rs).size : Int) < 7970 := by omega
      have hk7 : k = 797 := by omega
      subst hk7
      clear hlt hc hr hb hz
      go_wp2
      go_loopw [5, 6] (fun s iv wr => ∃ (i : Nat) (rs : List Nat), s = .string (bytesOf rs) ∧ iv = .int .i64 i ∧ (i : Int) ≤ M ∧ C1 rs = 7970 + (i : Int) ∧ (∀ r ∈ rs, isRune r) ∧ Below w.heap.size w wr) (fun _ iv _ => (M - intOf iv).toNat)
      case atStart => exact ⟨0, rs, rfl, rfl, hM0, by rw [HC.out]; rfl, HR.out, HB.out⟩
      case round =>
        obtain ⟨i, rs2, rfl, rfl, hi, hc, hr, hb⟩ := hrel
        have hz : ((bytesOf rs2).size : Int) = 7970 + (i : Int) := by rw [bytesOf_size, ← C1_len]; exact hc
        clear HC HR HB
        have HC : Hid (C1 rs2 = 7970 + (i : Int)) := hc
        have HR : Hid (∀ r ∈ rs2, isRune r) := hr
        have HB : Hid (Below w.heap.size w wr) := hb
        by_cases hlt : (i : Int) < M
        · have hsm : (bytesOf rs2).size + 1 ≤ 400000000 := by omega
          have hd := HX.out rs2
          clear hc hr hb
          go_wp2
          go_roundw
          case rel => exact ⟨i + 1, rs2 ++ [120], rfl, by go_num, by omega, by rw [C1_append, HC.out, ex_len]; omega, fun r h => (List.mem_append.1 h).elim (HR.out r) (ex_rune r), HB.out⟩
          case measure => simp [intOf]; omega
        · have hiM : (i : Int) = M := by omega
          have hTr := Go.Proofs.Utf8Tabs_below HT.out hb
          by_cases hf : 8000 < C1 rs2
          · have hzf : (8000 : Int) < ((bytesOf rs2).size : Int) := by omega
            have cN := new_full rs2 hr hf (by omega) wr hTr
            have cB : Hid (∀ wx, Below w.heap.size w wx → Calls Tryd.prog 30 #[.iface 23 (.int .i64 12), .int .i64 12] wx fun e w' => e = .returned (.bool true) ∧ Below wx.heap.size wx w') := fun wx hbx => bare_any 12 wx (asLaid_below HG.out hbx)
            clear hc hr hb hz hTr hf
            go_wp2_with (first
              | (go_at_call 29; refine cN.mono ?_; rintro e w2 ⟨rfl, hb2⟩; have HB2 : Hid (Below w.heap.size w w2) := HB.out.trans (hb2.mono HB.out.size); clear hb2)
              | (go_at_call 30; refine (cB.out _ HB2.out).mono ?_; rintro e w3 ⟨rfl, hb3⟩; have HB3 : Hid (Below w.heap.size w w3) := HB2.out.trans (hb3.mono HB2.out.size); clear hb3)
              | fail)
            go_ret
            exact ⟨rfl, HB3.out⟩
          · have hzf : ¬ (8000 : Int) < ((bytesOf rs2).size : Int) := by omega
            have cN := new_good rs2 hr (by omega) wr hTr
            obtain ⟨rs', E, P, hr', hz', cRef, cSp⟩ := HPK.out rs2 hr (by omega)
            have CS : Hid _ := cSp
            have CR : Hid _ := cRef
            have HZ' : Hid (C1 rs' ≤ 8000) := hz'
            clear hc hr hb hz hTr hf cSp cRef hr' hz' HPK
            go_wp2_with (first
              | (go_at_call 29; refine cN.mono ?_; rintro e w2 ⟨b, rfl, hbl, hR, hb2⟩; have HR2 : Hid (isRope w2 b rs2) := hR; have HL2 : Hid (w.heap.size ≤ b) := Nat.le_trans HB.out.size hbl; have HB2 : Hid (Below w.heap.size w w2) := HB.out.trans (hb2.mono HB.out.size); clear hb2 hR hbl)
              | (go_at_call 31; refine (CR.out _).mono ?_; rintro e w3 ⟨rfl, hb3⟩; have hby : Below w2.heap.size w2 (w3.alloc (.cells #[.int .i64 E, .int .i64 P] 25)) := hb3.alloc hb3.size _; have HB3 : Hid (Below w.heap.size w (w3.alloc (.cells #[.int .i64 E, .int .i64 P] 25))) := HB2.out.trans (hby.mono HB2.out.size); have HR3 : Hid (isRope (w3.alloc (.cells #[.int .i64 E, .int .i64 P] 25)) b rs2) := isRope_below HR2.out hby; have HN3 : Hid (b ≠ w3.heap.size) := Nat.ne_of_lt (Nat.lt_of_lt_of_le (rope_lt HR2.out) hb3.size); clear hb3 hby)
              | fail)
            have hb3 := HB3.out
            have hr3 := HR3.out
            have hf3 := spotW_new w3 E P 25
            have hn3 := HN3.out
            have hl3 := HL2.out
            generalize w3.alloc (.cells #[.int .i64 E, .int .i64 P] 25) = WX at *
            generalize w3.heap.size = BF at *
            clear HB HC HR HB2 HR2 HB3 HR3 HN3 cN
            have hfd : spotW WX.drew BF E P := hf3
            have cS := CS.out b WX.drew (Go.Proofs.Utf8Tabs_below HT.out (hb3.trans ((Below.refl _ WX).drew.mono hb3.size))) (isRope_below hr3 (Below.refl _ WX).drew)
            obtain ⟨⟨x0, x1⟩, _⟩ := hf3
            have HB3 : Hid (Below w.heap.size w WX.drew) := hb3.trans ((Below.refl _ WX).drew.mono hb3.size)
            have HFD : Hid (spotW WX.drew BF E P) := hfd
            have HN3 : Hid (b ≠ BF) := hn3
            have HL3 : Hid (w.heap.size ≤ b) := hl3
            have HLB : Hid (b ≤ WX.drew.heap.size) := Nat.le_of_lt (rope_lt (isRope_below hr3 (Below.refl _ WX).drew))
            clear hb3 hr3 hfd hn3 hl3 CS CR
            have wH : IntKind.i64.wrap H = H := by rw [IntKind.wrap_i64]; omega
            go_region_with (first
              | (go_at_call 32; refine cS.mono ?_; clear cS; rintro e w4 ⟨x, rfl, hR4, hB4, hI4⟩; have HR4 : Hid (isRope w4 b rs') := hR4; have HB4 : Hid (Below w.heap.size w w4) := HB3.out.trans ((hB4.below HLB.out).mono HL3.out); have cI4 := hI4 w4 (asLaid_below HG.out HB4.out) (Below.refl _ _); clear hI4 hR4; have hf4 : spotW w4 BF E P := spotW_but HFD.out hB4 (Ne.symm HN3.out); clear hB4; obtain ⟨⟨y0, y1⟩, _⟩ := hf4)
              | (go_at_call 17; refine cI4.mono ?_; clear cI4; rintro e w5 ⟨rfl, hb5⟩; have HB5 : Hid (Below w.heap.size w w5) := HB4.out.trans (hb5.mono HB4.out.size); have cT5 := ropetext_any b rs' w5 (isRope_below HR4.out hb5) (Int.le_trans HZ'.out (by decide)); clear hb5)
              | (go_at_call 33; refine cT5.mono ?_; clear cT5; rintro e w6 ⟨rfl, hb6⟩; have HB6 : Hid (Below w.heap.size w w6) := HB5.out.trans (hb6.mono HB5.out.size); clear hb6))
            all_goals
              go_wp2
              go_ret
              exact ⟨rfl, HB6.out⟩
end Go.Proofs.YtgmgkbbnciglhaaDoor

namespace Go.Proofs.YtgmgkbbnciglhaaDoor
open Go.RowKit
set_option linter.unusedVariables false
attribute [local go_sem] Oper.semAt_some

/-- What pick picks. -/
def pkb (a m : Int) : Int := IntKind.u64.wrap a % m
theorem pkb_bd (a m : Int) (h : 0 < m) : 0 ≤ pkb a m ∧ pkb a m < m := ⟨Int.emod_nonneg _ (by omega), Int.emod_lt_of_pos _ h⟩
set_option maxHeartbeats 1000000 in
theorem pickb_any (a m : Int) (ha : -9223372036854775808 ≤ a ∧ a < 9223372036854775808) (h0 : 0 < m) (hm : m < 1000000) (w : World) :
    Calls Tryd.prog 36 #[.int .i64 a, .int .i64 m] w fun e w' => e = .returned (.int .i64 (pkb a m)) ∧ Below w.heap.size w w' := by
  obtain ⟨a1, a2⟩ := ha
  have hne : m ≠ 0 := by omega
  have e1 : IntKind.u64.wrap m = m := by rw [IntKind.wrap_u64]; omega
  go_enter Tryd.func36, Tryd.ntmps36
  go_wp2
  go_ret
  have h1 : 0 ≤ IntKind.u64.wrap a := by rw [IntKind.wrap_u64]; omega
  have h2 : (IntKind.u64.wrap a).tmod m = IntKind.u64.wrap a % m := Int.tmod_eq_emod_of_nonneg h1
  have h3 := Int.emod_nonneg (IntKind.u64.wrap a) hne
  have h4 := Int.emod_lt_of_pos (IntKind.u64.wrap a) h0
  have h5 : wrap64 ((IntKind.u64.wrap a).tmod m) = pkb a m := by rw [h2]; unfold wrap64 pkb; omega
  exact ⟨by rw [← h5]; rfl, Below.refl _ _⟩
theorem new_bad (s : List UInt8) (hs : s.length ≤ 100000) (hsc : (scan s).2 = false) (w : World) (hT : Lib.Utf8Tabs 0 1 w) :
    Calls Tryd.prog 29 #[.string ⟨s.toArray⟩] w fun e w' => ∃ bx, e = .returned (.tuple #[.pointer none, .iface 172 (.pointer (some ⟨bx, 0, none⟩))]) ∧ Below w.heap.size w w' := by
  have c := Count_any ⟨s.toArray⟩ (by simp [ByteArray.size]; omega) w hT
  have C : Hid (Calls Tryd.prog 15 #[.string ⟨s.toArray⟩] w fun e w' => ∃ n1 n2 n3 n4 bx, e = .returned (.tuple #[.agg #[.int .i64 n1, .int .i64 n2, .int .i64 n3, .int .i64 n4], .iface 172 (.pointer (some ⟨bx, 0, none⟩))]) ∧ Below w.heap.size w w') := Calls.mono c fun e w' h => by
    obtain ⟨v, x, rfl, hb, ⟨h0, _⟩ | ⟨_, rfl, bx, rfl, _⟩⟩ := h
    · rw [show (ByteArray.mk s.toArray).data.toList = s from rfl, hsc] at h0; cases h0
    · exact ⟨_, _, _, _, bx, rfl, hb⟩
  clear c hT hsc
  go_enter Tryd.func29, Tryd.ntmps29
  go_wp2_with (first
    | (go_at_call 15; refine Calls.mono C.out ?_; rintro e w1 ⟨n1, n2, n3, n4, bx, rfl, hb1⟩)
    | fail)
  go_ret2
  exact ⟨bx, rfl, hb1.alloc hb1.size _⟩

/-- A document of a text, or none. -/
def isDoc (s : List UInt8) : Prop := (scan s).2 = true ∧ s.length ≤ 1500
set_option maxHeartbeats 1000000 in
theorem document_none (s : List UInt8) (h : ¬ isDoc s) (w : World) (hT : Lib.Utf8Tabs 0 1 w) :
    Calls Tryd.prog 35 #[.string ⟨s.toArray⟩] w fun e w' => e = .returned (.pointer none) ∧ Below w.heap.size w w' := by
  have hz : (ByteArray.mk s.toArray).size = s.length := by simp [ByteArray.size]
  by_cases hs : 1500 < s.length
  · have hs' : (1500 : Int) < (s.length : Int) := by omega
    clear hT h
    go_enter Tryd.func35, Tryd.ntmps35
    go_wp2
    go_ret
    exact ⟨rfl, Below.refl _ _⟩
  · have hs' : ¬ (1500 : Int) < (s.length : Int) := by omega
    have hsc : (scan s).2 = false := Bool.eq_false_iff.2 fun e => h ⟨e, by omega⟩
    have C : Hid _ := new_bad s (by omega) hsc w hT
    clear hT h hsc
    go_enter Tryd.func35, Tryd.ntmps35
    go_wp2_with (first
      | (go_at_call 29; refine Calls.mono C.out ?_; rintro e w1 ⟨bx, rfl, hb1⟩)
      | fail)
    go_ret
    exact ⟨rfl, hb1⟩
set_option maxHeartbeats 1000000 in
theorem document_some (s : List UInt8) (h : isDoc s) (w : World) (hT : Lib.Utf8Tabs 0 1 w) :
    Calls Tryd.prog 35 #[.string ⟨s.toArray⟩] w fun e w' => ∃ b, e = .returned (.pointer (some ⟨b, 0, none⟩)) ∧ isRope w' b (runesOf s) ∧ Below w.heap.size w w' := by
  obtain ⟨h1, h2⟩ := h
  have hz : (ByteArray.mk s.toArray).size = s.length := by simp [ByteArray.size]
  have hs' : ¬ (1500 : Int) < (s.length : Int) := by omega
  have e1 : bytesOf (runesOf s) = ⟨s.toArray⟩ := by unfold bytesOf; rw [encs_runesOf h1]
  have hC1 : C1 (runesOf s) = s.length := by rw [C1_len, encs_runesOf h1]
  have c := new_good (runesOf s) (fun r hr => runesOf_rune hr) (by omega) w hT
  rw [e1] at c
  have C : Hid _ := c
  clear c hT h1 e1 hC1
  go_enter Tryd.func35, Tryd.ntmps35
  go_wp2_with (first
    | (go_at_call 29; refine Calls.mono C.out ?_; rintro e w1 ⟨b, rfl, hlo, hR, hb1⟩; have HR : Hid (isRope w1 b (runesOf s)) := hR; clear hR)
    | fail)
  go_ret
  exact ⟨b, rfl, HR.out, hb1⟩

end Go.Proofs.YtgmgkbbnciglhaaDoor

namespace Go.Proofs.YtgmgkbbnciglhaaDoor
set_option linter.unusedVariables false

theorem upTo_back {v : Int} (hv : unitOk v) (rs : List Nat) (k : Nat) (hk : k ≤ rs.length) : upTo rs v (by_ v (rs.take k)) = rs.take k := by
  have hle : by_ v (rs.take k) ≤ by_ v rs := by
    have := by_append v (rs.take k) (rs.drop k)
    rw [List.take_append_drop] at this
    have := by_pos v (rs.drop k)
    omega
  obtain ⟨j, hj, ej, h1, h2⟩ := upTo_least rs v _ hle
  rw [ej]
  have : j = k := by
    by_cases h : j < k
    · have := by_mono hv rs j k h hk; omega
    · by_cases h3 : k < j
      · have := h2 k h3; omega
      · omega
  rw [this]
theorem noLF_pre : ∀ {Z L rest R : List Nat}, Z ++ rest = L ++ R → noLF Z → noLF L → (R = [] ∨ ∃ R', R = 10 :: R') → ∃ L', L = Z ++ L'
  | [], L, _, _, _, _, _, _ => ⟨L, rfl⟩
  | z :: Z, [], rest, R, e, hz, _, hR => by
    rcases hR with rfl | ⟨R', rfl⟩
    · cases e
    · have e0 : z = 10 := (List.cons.inj e).1
      exact absurd e0 (hz z (List.mem_cons_self ..))
  | z :: Z, l :: L, rest, R, e, hz, hl, hR => by
    obtain ⟨e1, e2⟩ := List.cons.inj e
    obtain ⟨L', e3⟩ := noLF_pre (Z := Z) (L := L) e2 (fun x hx => hz x (List.mem_cons_of_mem _ hx)) (fun x hx => hl x (List.mem_cons_of_mem _ hx)) hR
    exact ⟨L', by rw [e1, e3]; rfl⟩
theorem lf_split0 : ∀ (m : List Nat), ∃ L R, m = L ++ R ∧ noLF L ∧ (R = [] ∨ ∃ R', R = 10 :: R')
  | [] => ⟨[], [], rfl, fun _ h => (by cases h), .inl rfl⟩
  | r :: m => by
    by_cases e : r = 10
    · exact ⟨[], r :: m, rfl, fun _ h => (by cases h), .inr ⟨m, by rw [e]⟩⟩
    · obtain ⟨L, R, rfl, hz, hR⟩ := lf_split0 m
      exact ⟨r :: L, R, rfl, fun x hx => by
        rcases List.mem_cons.1 hx with rfl | hx
        · exact e
        · exact hz x hx, hR⟩
theorem by_lf0 {u : Int} (hu : unitOk u) : by_ u [10] = 1 := by
  rcases hu with rfl | rfl | rfl <;> rfl
/-- A spot, and back. -/
theorem place_back {u a : Int} (hu : unitOk u) (rs : List Nat) (k : Nat) (hk : k ≤ rs.length) (hx : by_ u (rs.take k) = a) :
    placeE u (C4 (rs.take k)) (a - by_ u (find (reachesLine (C4 (rs.take k))) [] rs)) rs = .tuple #[.int .i64 a, .nilIface] := by
  obtain ⟨Y, Z, e1, hz, hy, e2, e3⟩ := find_line_of (X := rs.take k) (rs.drop k)
  rw [List.take_append_drop] at e3
  obtain ⟨L, R, em, hl, hR⟩ := lf_split0 (Z ++ rs.drop k)
  obtain ⟨L', rfl⟩ := noLF_pre em hz hl hR
  have ers : rs = Y ++ (Z ++ L') ++ R := by
    have := List.take_append_drop k rs
    rw [← this, e1, List.append_assoc, em]
    simp
  have h0 := (C4_le Y).1
  have hC4 : C4 rs = C4 Y + C4 R := by
    rw [ers, C4_append, C4_append, C4_none hl]; omega
  have hR0 := (C4_le R).1
  have eB : beginL u (C4 (rs.take k)) rs = by_ u Y := by unfold beginL; rw [e3]
  have e10 : C4 [10] = 1 := rfl
  have eE : endL u (C4 (rs.take k)) rs = by_ u Y + by_ u (Z ++ L') := by
    unfold endL
    rw [e2]
    rcases hR with rfl | ⟨R', rfl⟩
    · have : C4 ([] : List Nat) = 0 := rfl
      rw [hC4, this, if_pos (by omega), ers, by_append, by_append]
      have : by_ u [] = 0 := by_nil u
      omega
    · have h1 : C4 (10 :: R') = 1 + C4 R' := by
        show C4 ([10] ++ R') = _
        rw [C4_append, e10]
      have h2 := (C4_le R').1
      rw [hC4, h1, if_neg (by omega)]
      have hf : find (reachesLine (C4 Y + 1)) [] rs = Y ++ (Z ++ L') ++ [10] := by
        have hc : C4 (Y ++ (Z ++ L') ++ [10]) = C4 Y + 1 := by rw [C4_append, C4_append, C4_none hl, e10]; omega
        have er : rs = (Y ++ (Z ++ L') ++ [10]) ++ R' := by rw [ers]; simp
        have := find_line (Y := Y ++ (Z ++ L') ++ [10]) (.inr ⟨Y ++ (Z ++ L'), rfl⟩) R'
        rw [hc, ← er] at this
        exact this
      rw [hf, by_append, by_append, by_lf0 hu]
      omega
  have hxa : by_ u Y + by_ u Z = a := by rw [← hx, e1, by_append]
  have hl' := by_pos u L'
  have hzp := by_pos u Z
  have hyp := by_pos u Y
  have hrp := by_pos u R
  have hrs : by_ u rs = by_ u Y + (by_ u Z + by_ u L') + by_ u R := by rw [ers, by_append, by_append, by_append]
  rw [by_append] at eE
  unfold placeE
  rw [if_neg (show ¬ ¬ (u = 1 ∨ u = 2 ∨ u = 3) from not_not_intro hu), eB, eE, e3, if_neg (by rw [e2]; omega), if_neg (by omega), if_neg (by omega)]
  have ea : by_ u Y + (a - by_ u Y) = a := by omega
  rw [ea, ← hx, upTo_back hu rs k hk, if_pos rfl]
end Go.Proofs.YtgmgkbbnciglhaaDoor
