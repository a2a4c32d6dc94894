/-
  ops.checkOver: what it says of an operation over a text.
  The library's contracts that these texts use, laid at this program by the shelf's own command, its plain mode.
  strings.Builder, as this program's text has it: what is written is behind what was.
  LoopOwn's law once more: what its rounds begin with knows the loop's first block, too.
  ops.Apply: what an operation makes of a text.
  ops.Invert: what takes back what an operation made of a text.
  ops.cut: so much off an operation's first part; the operation's own row is written.
  Side by side: what the walk keeps.
  Compose, pure: what comes of two operations as cells, and what the pairs that are side by side add up to.
  Compose, pure: the cells' gaps, as the document builds them; and that a least form makes the same cells.
  What Transform and Compose go through side by side: ready, and how heavy (pure, and worlds).
  Operations that never cut a rune (pure): what they make, and that a least form cuts none.
  Transform and Compose of operations that never cut a rune (pure): neither do what they tell; and what these make.
  A document in its own form (pure): its rows, their pieces, and what an operation makes of it.
  A slice of integers that is read: nil, or a row's part; its head and tail; appended to a row of one's own; bytes as a string.
  What a piece of a document is in bytes, and what a text is in a document's form: package shape's functions for the three forms.
  How many bytes come of an operation over a document in its own form: what sizeOf's loop keeps (pure, but for the rest's row).
  shape.sizeOf, form 1: how many bytes come, or that a part ends within a rune.
-/
import Derived.Test.YtldhbjmillfjgabGreatDoorPartD
import Derived.Test.YtldhbjmillfjgabGreatDoorPartB
import Derived.Shelf.Strings.Builder1
import Derived.Shelf.Small.Utf8
import Derived.Shelf.Strings.BuilderF
import Derived.Shelf.Strings.BuilderK
import Derived.Shelf.Utf8.AppendRune
import Derived.Shelf.Utf8.AppendRunePlain
import Derived.Shelf.Utf8.RuneCount
import Derived.Shelf.LaysM
import Derived.Shelf.Strconv.Clone
import Derived.Shelf.Strings.Search1
import Derived.Shelf.Strings.Search2
import Derived.Shelf.Strings.Search3
import Derived.Shelf.Strings.Count
import Derived.Shelf.Strings.Shaped
import Derived.Shelf.Strings.Split
import Derived.Shelf.Unicode.Decode
import Derived.Shelf.Strings.RuneCount
import Derived.Shelf.Unicode.DecodeSlow
import Derived.Shelf.Unicode.DecodeAny
import Derived.Shelf.Strings.BuilderCap
import Derived.Test.YtldhbjmillfjgabGreatDoorProg
import Derived.Test.YtldhbjmillfjgabGreatDoorPartC
import Derived.Lib.Builder
import Derived.Lib.OthersKept
import Derived.Lib.FrozenHead
import Derived.Laws.EntriesVeiled
import Derived.Deep.LoopGhost
import Derived.Test.YtldhbjmillfjgabGreatDoorPartA
import Derived.Laws.AppendOwnNone
import Derived.Lib.ConvBytes
namespace Go.Proofs.YtldhbjmillfjgabGreatDoor
open Go.RowKit
set_option linter.unusedVariables false
attribute [local go_sem] Oper.semAt_some

/-- A byte that begins a rune. -/
def startO (b : UInt8) : Bool := Lib.runeStart (b.toNat : Int)
/-- A piece that begins within a rune. -/
def badPiece (l : List UInt8) : Bool := match l with
  | [] => false
  | b :: _ => !startO b
def badO : List Pt → List UInt8 → Bool
  | [], _ => false
  | p :: ps, s => badPiece (s.take (lenP p).toNat) || badO ps (s.drop (lenP p).toNat)
theorem badO_pcs (ps : List Pt) (s : List UInt8) : badO ps s = (pcs ps s).any fun x => badPiece x.2 := by
  induction ps generalizing s with
  | nil => rfl
  | cons p ps ih => simp [badO, pcs, ih]

theorem chkE_ok {ps : List Pt} {n : Int} (h : chkE ps n = 0) : ∀ p ∈ ps, soundP p := by
  unfold chkE at h
  split at h
  · rename_i h1
    exact fun p hp => (one_sound (chk1_ones h1 p hp).1).1
  · rename_i h1
    exact absurd h h1
theorem chk2_fits {ps : List Pt} {s : List UInt8} (hs : ∀ p ∈ ps, soundP p) (h : chk2 ps (s.length : Int) = 0) : fitsP ps s ∧ leftP ps s = [] := by
  induction ps generalizing s with
  | nil =>
    unfold chk2 at h
    refine ⟨trivial, ?_⟩
    split at h
    · exact List.eq_nil_of_length_eq_zero (by show s.length = 0; omega)
    · cases h
  | cons p ps ih =>
    unfold chk2 at h
    have hp := hs p (List.mem_cons_self ..)
    obtain ⟨h1, h2⟩ := hp
    split at h
    · cases h
    · rename_i h3
      have hl : lenP p = p.keep + p.drop := rfl
      have e : ((s.drop (lenP p).toNat).length : Int) = (s.length : Int) - (p.keep + p.drop) := by rw [List.length_drop]; omega
      rw [← e] at h
      obtain ⟨i1, i2⟩ := ih (fun q hq => hs q (List.mem_cons_of_mem _ hq)) h
      exact ⟨⟨h1, h2, by omega, i1⟩, i2⟩
theorem chkE_fits {ps : List Pt} {s : List UInt8} (h : chkE ps (s.length : Int) = 0) : fitsP ps s ∧ leftP ps s = [] := by
  have hs := chkE_ok h
  unfold chkE at h
  split at h
  · exact chk2_fits hs h
  · rename_i h1; exact absurd h h1

/-- What checkOver says. -/
def ordE (ps : List Pt) (s : List UInt8) : Int := if chkE ps (s.length : Int) = 0 then (if badO ps s then 10 else 0) else chkE ps (s.length : Int)

set_option maxRecDepth 100000 in
set_option maxHeartbeats 2000000 in
theorem checkOver_err (v : Value) (ps : List Pt) (s : List UInt8) (w : World) (hT : Lib.Utf8Tabs 2 3 w) (hr : opAt w v ps) (hwf : ∀ p ∈ ps, wfP p) (hs : s.length < 1000000000) (hl : ps.length < 10000000) (he : chkE ps (s.length : Int) ≠ 0) :
    Calls Tryz.prog 81 #[v, .string ⟨s.toArray⟩] w fun e w' => e = .returned (errV (ordE ps s)) ∧ Below w.heap.size w w' := by
  have cC : Hid (∀ wx, Below w.heap.size w wx → Calls Tryz.prog 68 #[v, .int .i64 (s.length : Int)] wx fun e w' => e = .returned (errV (chkE ps (s.length : Int))) ∧ Below wx.heap.size wx w') := fun wx hb => Check_any v ps _ wx (Go.Proofs.Utf8Tabs_below hT hb) (opAt_below hr hb (Nat.le_refl _)) hwf (by omega) hl
  unfold ordE
  rw [if_neg he]
  have hV : errV (chkE ps (s.length : Int)) = .iface 26 (.int .i64 (chkE ps (s.length : Int))) := by unfold errV; rw [if_neg he]
  rw [hV] at cC ⊢
  generalize chkE ps (s.length : Int) = E at *
  obtain ⟨p, c, rfl, _⟩ := hr
  clear hT hwf hV
  go_enter Tryz.func81, Tryz.ntmps81
  go_wp2_with (first | (go_at_call 68; refine (cC.out _ ((Below.refl _ _).alloc (Nat.le_refl _) _)).mono ?_; rintro e w1 ⟨rfl, hb1⟩; have c0 : w1.cell? ⟨w.heap.size, 0, none⟩ = some .nilIface := (hb1.cell (p := ⟨w.heap.size, 0, none⟩) (by simp)).trans (by simp [go_sem]); have c1 : w1.frozen? ⟨w.heap.size, 0, none⟩ = false := (hb1.frozen (p := ⟨w.heap.size, 0, none⟩) (by simp)).trans (by simp [go_sem])) | fail)
  refine bodyPost_ret (v := .iface 26 (.int .i64 E)) (by simp [results, Tryz.results81, go_sem, c0]) rfl ?_
  exact ⟨rfl, (((Below.refl _ _).alloc (Nat.le_refl _) _).trans (hb1.mono (by simp))).setCell (p := ⟨w.heap.size, 0, none⟩) (Nat.le_refl _) _⟩

set_option maxRecDepth 100000 in
set_option maxHeartbeats 4000000 in
theorem checkOver_fine (v : Value) (ps : List Pt) (s : List UInt8) (w : World) (hT : Lib.Utf8Tabs 2 3 w) (hr : opAt w v ps) (hwf : ∀ p ∈ ps, wfP p) (hs : s.length < 1000000000) (hl : ps.length < 10000000) (he : chkE ps (s.length : Int) = 0) :
    Calls Tryz.prog 81 #[v, .string ⟨s.toArray⟩] w fun e w' => e = .returned (errV (ordE ps s)) ∧ Below w.heap.size w w' := by
  have cC : Hid (∀ wx, Below w.heap.size w wx → Calls Tryz.prog 68 #[v, .int .i64 (s.length : Int)] wx fun e w' => e = .returned (errV (chkE ps (s.length : Int))) ∧ Below wx.heap.size wx w') := fun wx hb => Check_any v ps _ wx (Go.Proofs.Utf8Tabs_below hT hb) (opAt_below hr hb (Nat.le_refl _)) hwf (by omega) hl
  obtain ⟨hfit, hleft⟩ := chkE_fits he
  unfold ordE
  rw [if_pos he]
  have hV : errV (chkE ps (s.length : Int)) = .nilIface := by unfold errV; rw [if_pos he]
  rw [hV] at cC
  have HF : Hid (fitsP ps s) := hfit
  have HR : Hid (opAt w v ps) := hr
  have HSL : Hid (s.length < 1000000000) := hs
  have HLP : Hid (ps.length < 10000000) := hl
  have HBO : Hid (badO ps s = (pcs ps s).any fun x => badPiece x.2) := badO_pcs ps s
  obtain ⟨BB, hBB⟩ : ∃ BB, badO ps s = BB := ⟨_, rfl⟩
  have HBB : Hid (badO ps s = BB) := hBB
  rw [hBB]
  obtain ⟨V, hV0⟩ : ∃ V, errV (if BB = true then 10 else 0) = V := ⟨_, rfl⟩
  have HV : Hid (errV (if BB = true then 10 else 0) = V) := hV0
  rw [hV0]
  clear hV0
  have hrow : ∀ x o n c, v = .slice (some ⟨x, o, none⟩) n c → ps ≠ [] → x < w.heap.size := by
    intro x o n c e hne
    obtain ⟨p, c', rfl, _, _, h3⟩ := hr
    obtain ⟨b, o', e1, e2, _⟩ := h3 hne
    simp only [Value.slice.injEq] at e
    rw [e.1] at e1
    simp only [Option.some.injEq, Addr.mk.injEq] at e1
    rw [e1.1]; exact e2
  have HROW : Hid _ := hrow
  obtain ⟨p, c, rfl, _⟩ := hr
  clear hT hwf hV hfit hleft hrow he hBB
  have cO := fun (wx : World) => over_any p ps.length c ⟨s.toArray⟩ wx
  refine (callsIn_wide (n := 3)).1 ?_
  refine callsIn_of_wp_marks Tryz.func81 rfl trivial ?_ rfl
  simp only [Tryz.ntmps81, List.size_toArray, List.length_cons, List.length_nil, Nat.reduceAdd, Nat.reduceSub, Array.replicate_succ, Array.replicate_zero, List.push_toArray, List.append_toArray, List.nil_append, List.cons_append]
  gi_wp2_with (first
    | (refine ⟨trivial, ?_⟩; gi_at_call 68; refine (callsIn_wide.2 (cC.out _ ((Below.refl _ _).alloc (Nat.le_refl _) _))).mono ?_; rintro e w1 ⟨rfl, hb1⟩; have c0 : w1.cell? ⟨w.heap.size, 0, none⟩ = some .nilIface := (hb1.cell (p := ⟨w.heap.size, 0, none⟩) (by simp)).trans (by simp [go_sem]); have c1 : w1.frozen? ⟨w.heap.size, 0, none⟩ = false := (hb1.frozen (p := ⟨w.heap.size, 0, none⟩) (by simp)).trans (by simp [go_sem]))
    | (refine ⟨trivial, ?_⟩; gi_at_call 82; refine (callsIn_wide.2 (cO _)).mono ?_; rintro e w13 ⟨rfl, rfl⟩)
    | fail)
  have hb0 : Below w.heap.size w w1 := ((Below.refl _ _).alloc (Nat.le_refl _) _).trans (hb1.mono (by simp))
  have hlt1 : w.heap.size < w1.heap.size := World.block_lt_of_cell? w1 _ c0
  obtain ⟨sb, hsb⟩ : ∃ sb, w1.heap.size = sb := ⟨_, rfl⟩
  obtain ⟨W4, hW4⟩ : ∃ W4, W4 = (w1.alloc (.cells #[.slice p ps.length c] 23)).alloc (.cells #[.string ⟨s.toArray⟩] 9) := ⟨_, rfl⟩
  have hb4 : Below w.heap.size w W4 := by rw [hW4]; exact (hb0.alloc hb0.size _).alloc (by simp; omega) _
  have hs4 : W4.heap.size = sb + 2 := by rw [hW4, ← hsb]; simp
  have k0 : W4.cell? ⟨sb, 0, none⟩ = some (.slice p ps.length c) := by rw [hW4, ← hsb]; simp [go_sem]
  have k1 : W4.cell? ⟨sb + 1, 0, none⟩ = some (.string ⟨s.toArray⟩) := by rw [hW4, ← hsb]; simp [go_sem]
  have c0' : W4.cell? ⟨w.heap.size, 0, none⟩ = some .nilIface := by
    have hB : Below w1.heap.size w1 W4 := by rw [hW4]; exact ((Below.refl _ _).alloc (Nat.le_refl _) _).alloc (by simp) _
    exact (hB.cell (p := ⟨w.heap.size, 0, none⟩) hlt1).trans c0
  have c1' : W4.frozen? ⟨w.heap.size, 0, none⟩ = false := by
    have hB : Below w1.heap.size w1 W4 := by rw [hW4]; exact ((Below.refl _ _).alloc (Nat.le_refl _) _).alloc (by simp) _
    exact (hB.frozen (p := ⟨w.heap.size, 0, none⟩) hlt1).trans c1
  rw [← hW4, hsb]
  rw [hsb] at hlt1
  clear hW4 cC cO c0 c1 hb0 hb1 hsb
  refine wp_range_own (gf := 138) (lb := #[.pointer (some ⟨sb + 1, 0, none⟩), .pointer (some ⟨sb, 0, none⟩)]) rfl (enters_of Tryz.func138 (by kernel_rfl) rfl) (encs := fun _ (x : Pt × List UInt8) => #[partV x.1, .string ⟨x.2.toArray⟩]) (fun _ _ => rfl)
    (It := fun A B => Below A.heap.size A B ∧ sb + 4 ≤ A.heap.size) (Kp := fun A B => A.heap.size ≤ B.heap.size ∧ ∀ x, (x = sb ∨ x = sb + 1 ∨ x < w.heap.size) → B.heap[x]? = A.heap[x]?) (Z := fun _ => True) (S := fun xs => xs = pcs ps s) (Sp := fun pre => ∃ rest, pcs ps s = pre ++ rest)
    ?seq ?its (fun h k => ⟨Nat.le_trans h.1 k.1, fun x hx => (k.2 x hx).trans (h.2 x hx)⟩) ?hkb
    (fun pre W => Below w.heap.size w W ∧ sb + 4 ≤ W.heap.size ∧ W.cell? ⟨w.heap.size, 0, none⟩ = some .nilIface ∧ W.frozen? ⟨w.heap.size, 0, none⟩ = false ∧ (pre.any fun x => badPiece x.2) = false)
    (fun k pre W => k = .ret ∧ Below w.heap.size w W ∧ sb + 4 ≤ W.heap.size ∧ W.cell? ⟨w.heap.size, 0, none⟩ = some (.iface 26 (.int .i64 10)) ∧ (pre.any fun x => badPiece x.2) = true) (fun _ _ _ => trivial) (fun _ _ _ _ => trivial) ?ii ?ib ?ix ?ixb ?h0 ?round ?done ?stop
  case seq =>
    intro W hs1 hb1
    rw [hs4] at hs1 hb1
    have hb9 : Below w.heap.size w W := hb4.trans (hb1.mono (by omega))
    have := over_seq (.slice p ps.length c) ps s HSL.out HLP.out HF.out (fun x => (x = sb ∨ x = sb + 1 ∨ x < w.heap.size)) sb W ((hb1.cell (p := ⟨sb, 0, none⟩) (by show sb < _; omega)).trans k0) ((hb1.cell (p := ⟨sb + 1, 0, none⟩) (by show sb + 1 < _; omega)).trans k1) (opAt_below HR.out hb9 (Nat.le_refl _)) (.inl rfl) (.inr (.inl rfl)) (fun b o n c' e hne => .inr (.inr (HROW.out b o n c' e hne))) (by rintro x (rfl | rfl | hx) <;> omega) (fun _ => True)
    rw [hs1] at this
    exact this
  case its => exact fun A B h => Same2.of_below h.1 (by rw [hs4]; omega)
  case hkb =>
    intro A r
    rw [hs4]
    exact ⟨by simp, fun x hx => World.putObj_heap_other (by omega)⟩
  case ii =>
    rintro pre A B ⟨h1, h2, h3, h4, h5⟩ ⟨hb, hA⟩
    exact ⟨h1.trans (hb.mono h1.size), Nat.le_trans h2 hb.size, (hb.cell (p := ⟨w.heap.size, 0, none⟩) (by show w.heap.size < _; omega)).trans h3, (hb.frozen (p := ⟨w.heap.size, 0, none⟩) (by show w.heap.size < _; omega)).trans h4, h5⟩
  case ib =>
    rintro pre A r ⟨h1, h2, h3, h4, h5⟩
    rw [hs4]
    have hp := Put1.putObj (sb + 2 + 1) A (.loop r)
    exact ⟨h1.trans (hp.below (by omega)), by rw [hp.size]; exact h2, (hp.cell (by omega)).trans h3, (hp.frozen (by omega)).trans h4, h5⟩
  case ix =>
    rintro k pre A B ⟨h0, h1, h2, h3, h5⟩ ⟨hb, hA⟩
    exact ⟨h0, h1.trans (hb.mono h1.size), Nat.le_trans h2 hb.size, (hb.cell (p := ⟨w.heap.size, 0, none⟩) (by show w.heap.size < _; omega)).trans h3, h5⟩
  case ixb =>
    rintro k pre A r ⟨h0, h1, h2, h3, h5⟩
    rw [hs4]
    have hp := Put1.putObj (sb + 2 + 1) A (.loop r)
    exact ⟨h0, h1.trans (hp.below (by omega)), by rw [hp.size]; exact h2, (hp.cell (by omega)).trans h3, h5⟩
  case h0 =>
    rintro W hs hb _
    rw [hs4] at hs hb
    exact ⟨hb4.trans (hb.mono (by omega)), by omega, (hb.cell (p := ⟨w.heap.size, 0, none⟩) (by show w.heap.size < _; omega)).trans c0', (hb.frozen (p := ⟨w.heap.size, 0, none⟩) (by show w.heap.size < _; omega)).trans c1', rfl⟩
  case round =>
    rintro l pre x W ⟨h1, h2, h3, h4, h5⟩ hlW hSp
    rw [hs4] at hlW ⊢
    obtain ⟨q, T⟩ := x
    have HP5 : Hid ((pre.any fun x => badPiece x.2) = false) := h5
    have HB : Hid (Below w.heap.size w W) := h1
    clear h5 hSp h1 k0 k1 c0' c1' hb4
    unfold partV
    gi_wp2
    refine ⟨Same2.refl _ W, ⟨Nat.le_refl _, fun _ _ => trivial⟩, ?_⟩
    intro w2 hp _
    have hs2 : sb + 4 ≤ w2.heap.size := by rw [hp.size]; exact h2
    have y3 := (hp.cell (b := w.heap.size) (o := 0) (by omega)).trans h3
    have y4 := (hp.frozen (b := w.heap.size) (o := 0) (by omega)).trans h4
    have HB2 : Hid (Below w.heap.size w w2) := HB.out.trans (hp.below (by omega))
    clear h3 h4 hp hlW
    cases T with
    | nil =>
      gi_wp2_with (first | (refine ⟨trivial, ?_⟩) | fail)
      exact ⟨Same2.refl _ _, ⟨Nat.le_refl _, fun _ _ => rfl⟩, HB2.out, hs2, y3, y4, by rw [List.any_append, HP5.out]; rfl⟩
    | cons b T =>
      have cR : ∀ wx, Calls Tryz.prog 137 #[.int .u8 (((ByteArray.mk (b :: T).toArray)[0]'(by simp [ByteArray.size])).toNat : Int)] wx fun e w' => e = .returned (.bool (startO b)) ∧ w' = wx := fun wx => Tryz.utf8_RuneStart (b.toNat : Int) wx (by omega) (by have := b.toNat_lt; omega)
      by_cases hst : startO b = true
      · rw [hst] at cR
        have HB5 : Hid (((pre ++ [(q, b :: T)]).any fun x => badPiece x.2) = false) := by
          show _ = _
          rw [List.any_append, HP5.out]
          simp [badPiece, hst]
        clear hst
        gi_wp2_with (first | (refine ⟨trivial, rfl, ?_⟩; refine (CallsIn.inRound l (callsIn_wide.2 (cR _))).mono ?_; rintro e wx ⟨rfl, hwx⟩; obtain rfl := hwx.symm) | fail)
        exact ⟨Same2.refl _ _, ⟨Nat.le_refl _, fun _ _ => rfl⟩, HB2.out, hs2, y3, y4, HB5.out⟩
      · have hst : startO b = false := Bool.eq_false_iff.2 hst
        rw [hst] at cR
        have HB5 : Hid (((pre ++ [(q, b :: T)]).any fun x => badPiece x.2) = true) := by
          show _ = _
          rw [List.any_append]
          simp [badPiece, hst]
        clear hst
        gi_wp2_with (first | (refine ⟨trivial, rfl, ?_⟩; refine (CallsIn.inRound l (callsIn_wide.2 (cR _))).mono ?_; rintro e wx ⟨rfl, hwx⟩; obtain rfl := hwx.symm) | fail)
        refine ⟨(Same2.refl _ _).setCell (by show w.heap.size ≠ _; omega) (by show w.heap.size ≠ _; omega) _, ⟨by simp, fun x hx => ?_⟩, rfl, HB2.out.setCell (p := ⟨w.heap.size, 0, none⟩) (Nat.le_refl _) _, by simpa using hs2, World.cell?_setCell_same _ _ _ y3, HB5.out⟩
        exact Below.heap_setCell _ _ _ _ (by show x ≠ w.heap.size; omega)
  case done =>
    rintro xs W rfl ⟨h1, h2, h3, h4, h5⟩ hDef
    rw [hs4] at hDef ⊢
    have HB : Hid (Below w.heap.size w W) := h1
    have HE : Hid (BB = false) := by
      show _ = _
      rw [← HBB.out, HBO.out]
      exact h5
    clear h1 h5 k0 k1 c0' c1' hb4
    gi_wp2
    have hDef' : (W.setCell ⟨w.heap.size, 0, none⟩ .nilIface).heap[sb + 2]? = some (.deferred (some [])) := (Below.heap_setCell _ _ _ _ (by show sb + 2 ≠ w.heap.size; omega)).trans hDef
    have hP := Put1.putObj (sb + 2) (W.setCell ⟨w.heap.size, 0, none⟩ .nilIface) (.deferred none)
    have p0 := (hP.cell (b := w.heap.size) (o := 0) (by omega)).trans (World.cell?_setCell_same _ _ .nilIface h3)
    refine ⟨by simp, .inl ⟨_, _, rfl, run_takeDeferred hDef', ?_⟩⟩
    refine ⟨.nilIface, by simp [results, Tryz.results81, go_sem, p0], ?_, (HB.out.setCell (p := ⟨w.heap.size, 0, none⟩) (Nat.le_refl _) _).trans (hP.below (by omega))⟩
    rw [← HV.out, HE.out]
    rfl
  case stop =>
    rintro k pre W ⟨rest, hsp⟩ ⟨rfl, h1, h2, h3, h5⟩ hDef
    rw [hs4] at hDef ⊢
    have HB : Hid (Below w.heap.size w W) := h1
    have HE : Hid (BB = true) := by
      show _ = _
      rw [← HBB.out, HBO.out, hsp, List.any_append, h5]
      rfl
    clear h1 h5 k0 k1 c0' c1' hb4
    gi_wp2
    have hP := Put1.putObj (sb + 2) W (.deferred none)
    have p0 := (hP.cell (b := w.heap.size) (o := 0) (by omega)).trans h3
    refine ⟨by simp, .inl ⟨_, _, rfl, run_takeDeferred hDef, ?_⟩⟩
    refine ⟨.iface 26 (.int .i64 10), by simp [results, Tryz.results81, go_sem, p0], ?_, HB.out.trans (hP.below (by omega))⟩
    rw [← HV.out, HE.out]
    rfl

theorem checkOver_any (v : Value) (ps : List Pt) (s : List UInt8) (w : World) (hT : Lib.Utf8Tabs 2 3 w) (hr : opAt w v ps) (hwf : ∀ p ∈ ps, wfP p) (hs : s.length < 1000000000) (hl : ps.length < 10000000) :
    Calls Tryz.prog 81 #[v, .string ⟨s.toArray⟩] w fun e w' => e = .returned (errV (ordE ps s)) ∧ Below w.heap.size w w' := by
  by_cases he : chkE ps (s.length : Int) = 0
  · exact checkOver_fine v ps s w hT hr hwf hs hl he
  · exact checkOver_err v ps s w hT hr hwf hs hl he
end Go.Proofs.YtldhbjmillfjgabGreatDoor

namespace Go.Proofs
open Go.Shelf
def Tryz.lays169_ren : Go.Shelf.Ren := ⟨fun | 169 => 85 | n => n, fun | 70 => 154 | 9 => 9 | 0 => 0 | 72 => 156 | 37 => 130 | 127 => 232 | 3 => 3 | 5 => 5 | n => n, fun | n => n⟩
theorem Tryz.lays169 : Go.Proofs.Lays.n169 Tryz.prog Tryz.lays169_ren := {
  mixed := by kernel_rfl
  f169 := Tryz.func85.trans (congrArg some (by kernel_rfl))
  t0 := Tryz.underlying0
  a0 := Tryz.isAgg0
  z0 := Tryz.sizeOf0
  v0 := Tryz.zeroValue0
  t3 := Tryz.underlying3
  a3 := Tryz.isAgg3
  z3 := Tryz.sizeOf3
  v3 := Tryz.zeroValue3
  t9 := Tryz.underlying9
  a9 := Tryz.isAgg9
  z9 := Tryz.sizeOf9
  v9 := Tryz.zeroValue9
  t37 := Tryz.underlying130
  a37 := Tryz.isAgg130
  z37 := Tryz.sizeOf130
  v37 := Tryz.zeroValue130
  t70 := Tryz.underlying154
  a70 := Tryz.isAgg154
  z70 := Tryz.sizeOf154
  v70 := Tryz.zeroValue154
  t72 := Tryz.underlying156
  a72 := Tryz.isAgg156
  z72 := Tryz.sizeOf156
  v72 := Tryz.zeroValue156
  t127 := Tryz.underlying232
  a127 := Tryz.isAgg232
  z127 := Tryz.sizeOf232
  v127 := Tryz.zeroValue232 }
theorem Tryz.Builder_Extra_169 : Builder.Extra Tryz.prog Tryz.lays169_ren := {
  sizeBuilder := by kernel_rfl
  liesBuilder := by kernel_rfl
  t5 := Tryz.underlying5
  a5 := Tryz.isAgg5
  z5 := Tryz.sizeOf5
  v5 := Tryz.zeroValue5
  infoByte := by kernel_rfl
  cellsByte := by kernel_rfl
  sizeByte := by kernel_rfl
  neB5 := by decide }
end Go.Proofs

namespace Go.Proofs.YtldhbjmillfjgabGreatDoor
open Go.RowKit
set_option linter.unusedVariables false

theorem size_builder : (Tryz.prog.info? 156).map (·.size) = some 2 := by kernel_rfl
theorem lies_builder : liesAt Tryz.prog Tryz.prog.depth 156 (2 / Tryz.prog.cellsOf 156) 0 156 1 = true := by kernel_rfl

set_option maxHeartbeats 1000000 in
set_option maxRecDepth 100000 in
theorem copyCheck_fresh (b : Nat) (w : World) (h0 : w.cell? ⟨b, 0, none⟩ = some (.pointer none)) (hsh : w.shape? b = some (156, 2)) (hfz : w.frozen? ⟨b, 0, none⟩ = false) :
    Calls Tryz.prog 139 #[.pointer (some ⟨b, 0, none⟩)] w fun e w' => e = .returned (.tuple #[]) ∧ w' = w.setCell ⟨b, 0, none⟩ (.pointer (some ⟨b, 0, none⟩)) := by
  obtain ⟨j, hj, hjs⟩ := Option.map_eq_some_iff.1 size_builder
  have h1 := fun w => Lib.run_to_unsafe (P := Tryz.prog) w ⟨b, 0, none⟩ Tryz.underlying154 Tryz.underlying218 hj (by rw [hjs]; decide) (e := 156) (cells := 2)
  have h3 := Lib.run_from_unsafe (P := Tryz.prog) w ⟨b, 0, none⟩ Tryz.underlying218 Tryz.underlying154 hj hsh lies_builder
  have h1' := h1 w hsh (Nat.zero_lt_succ 1)
  have hNE := @run_callFunc_extern Tryz.prog 173 _ Extern.AbiNoEscape.same Tryz.func173 (by kernel_rfl) (by kernel_rfl) (by kernel_rfl) (by kernel_rfl)
  have hNR := fun (x : Value) (w : World) => Lib.run_noEscape (P := Tryz.prog) w x
  clear h1
  go_enter Tryz.func139, Tryz.ntmps139
  go_wp2
  go_end0
  exact ⟨rfl, rfl⟩
set_option maxHeartbeats 1000000 in
set_option maxRecDepth 100000 in
theorem copyCheck_used (b : Nat) (w : World) (h0 : w.cell? ⟨b, 0, none⟩ = some (.pointer (some ⟨b, 0, none⟩))) :
    Calls Tryz.prog 139 #[.pointer (some ⟨b, 0, none⟩)] w fun e w' => e = .returned (.tuple #[]) ∧ w' = w := by
  obtain ⟨j, hj, _⟩ := Option.map_eq_some_iff.1 size_builder
  have hne := Lib.run_neq_ptr_same (P := Tryz.prog) w ⟨b, 0, none⟩ Tryz.underlying154 hj
  go_enter Tryz.func139, Tryz.ntmps139
  go_wp2
  go_end0
  exact ⟨rfl, rfl⟩

theorem copyCheck_any (B b : Nat) (bs : List Value) (w : World) (h : Lib.IsBuilder 156 5 B b bs w) :
    Calls Tryz.prog 139 #[.pointer (some ⟨b, 0, none⟩)] w fun e w' => e = .returned (.tuple #[]) ∧ (Lib.BuilderAt 156 5 B b (.pointer (some ⟨b, 0, none⟩)) bs w' ∧ Below B w w' ∧ Lib.OthersKept 5 (some b) w w') := by
  rcases h with h | h
  · refine (copyCheck_fresh b w h.cell0 h.shape h.frozen0).mono ?_
    rintro e w' ⟨rfl, rfl⟩
    exact ⟨rfl, h.used _, (Below.refl B w).setCell (p := ⟨b, 0, none⟩) h.1 _, (Lib.OthersKept.refl _ _ w).setCell ⟨b, 0, none⟩ rfl _⟩
  · refine (copyCheck_used b w h.cell0).mono ?_
    rintro e w' ⟨rfl, rfl⟩
    exact ⟨rfl, h, Below.refl B _, Lib.OthersKept.refl _ _ _⟩

set_option maxHeartbeats 2000000 in
set_option maxRecDepth 100000 in
theorem WriteString_any (B b : Nat) (bs : List Value) (s : ByteArray) (w : World) (h : Lib.IsBuilder 156 5 B b bs w) (hlen : bs.length + s.size ≤ 1000000000000) (hBw : B ≤ w.heap.size) :
    Calls Tryz.prog 84 #[.pointer (some ⟨b, 0, none⟩), .string s] w fun e w' => (∃ v, e = .returned v) ∧ (Lib.IsBuilder 156 5 B b (bs ++ Lib.strCells s) w' ∧ Below B w w' ∧ Lib.OthersKept 5 (some b) w w') := by
  obtain ⟨i0, hi, hz0, hz1, hz2⟩ := info_parts info_u8
  have cC := copyCheck_any B b bs w h
  clear h
  go_enter Tryz.func84, Tryz.ntmps84
  go_wp2_with (first | (go_at_call 139; refine cC.mono ?_; rintro e w1 ⟨rfl, ⟨hB, v, hbk, hown, hne⟩, hb1, hk1⟩; have c0 : w1.cell? ⟨b, 0, none⟩ = some (.pointer (some ⟨b, 0, none⟩)) := (by rw [Lib.cell_of_heap hbk]; rfl); have c1 : w1.cell? ⟨b, 1, none⟩ = some v := (by rw [Lib.cell_of_heap hbk]; rfl)) | (at_builtin; refine Lib.wpList_append_own_string _ rfl _ _ 130 9 rfl B 5 i0 Tryz.underlying130 Tryz.underlying9 hi hz0 hz1 hz2 _ _ _ rfl hown s rfl (by unfold maxLen; omega) (by omega) (by have := hb1.size; omega) ?_) | fail)
  intro v' w2 hown' hgrow _
  have hlt : b < w1.heap.size := World.block_lt_of_cell? w1 _ c0
  have hb2 : w2.heap[b]? = some (.cells #[.pointer (some ⟨b, 0, none⟩), v] 156 (0, 0)) := by
    rw [hgrow.block b hlt (fun e => hne e.symm)]
    exact hbk
  have d0 : w2.cell? ⟨b, 0, none⟩ = some (.pointer (some ⟨b, 0, none⟩)) := by rw [Lib.cell_of_heap hb2]; rfl
  have d1 : w2.cell? ⟨b, 1, none⟩ = some v := by rw [Lib.cell_of_heap hb2]; rfl
  have f1 : w2.frozen? ⟨b, 1, none⟩ = false := Lib.frozen_of_heap hb2 1
  obtain ⟨ao, cap, rfl⟩ := own_slice hown'
  have HP : Hid (Lib.IsBuilder 156 5 B b (bs ++ Lib.strCells s) (w2.setCell ⟨b, 1, none⟩ (.slice ao (bs.length + s.size) cap)) ∧ Below B w (w2.setCell ⟨b, 1, none⟩ (.slice ao (bs.length + s.size) cap)) ∧ Lib.OthersKept 5 (some b) w (w2.setCell ⟨b, 1, none⟩ (.slice ao (bs.length + s.size) cap))) := by
    refine ⟨.inr ?_, ?_, (hk1.grown hgrow (Lib.ownsRowF_kind (World.ownsRowF_of hown))).setCell ⟨b, 1, none⟩ rfl _⟩
    · exact Lib.BuilderAt.put (T := 156) (e := 5) hB hb2 (bs' := bs ++ Lib.strCells s) (by simpa [Lib.strCells_length] using hown') (by decide)
    · exact (hb1.grown hgrow (by have := hb1.size; omega) (fun k hk => (hown.lt k hk).1)).setCell (p := ⟨b, 1, none⟩) hB _
  clear hown hown' hgrow hb2 hbk hb1 hk1 c0 c1
  go_wp2
  go_ret2
  exact ⟨⟨_, rfl⟩, HP.out⟩
end Go.Proofs.YtldhbjmillfjgabGreatDoor

namespace Go.Proofs.YtldhbjmillfjgabGreatDoor
open Go.RowKit

theorem wp_range_ownD {α : Type} {P : Program} {g : Operand} {ps : Array Tmp} {assign body : Code} {Q : Exit → Act → World → Prop} {a : Act} {w : World} {n : Nat}
    {gf : Nat} {lb : Array Value} (hg : a.eval g = .func (.func gf) #[] lb) (eg : ∀ args w, (callFunc gf args).run P w = .ok (.enter gf args) w)
    {encs : List α → α → Array Value} (hps : ∀ pre x, (encs pre x).size = ps.size)
    {It Kp : World → World → Prop} {Z : World → Prop} {S Sp : List α → Prop}
    (hseq : ∀ W, W.heap.size = w.heap.size + 2 → Below w.heap.size w W → SeqOwn P gf lb encs It Kp Z S Sp W)
    (hIt : ∀ A B, It A B → Same2 w.heap.size A B)
    (hKt : ∀ {A B C : World}, Kp A B → Kp B C → Kp A C) (hKb : ∀ (A : World) (r : Loop), Kp A (A.putObj (w.heap.size + 1) (.loop r)))
    (I : List α → World → Prop) (Ix : Code → List α → World → Prop)
    (hIz : ∀ pre A, I pre A → Z A) (hIxz : ∀ c pre A, Ix c pre A → Z A)
    (hI : ∀ pre A B, I pre A → It A B → I pre B) (hIb : ∀ pre A (r : Loop), I pre A → I pre (A.putObj (w.heap.size + 1) (.loop r)))
    (hIx : ∀ c pre A B, Ix c pre A → It A B → Ix c pre B) (hIxb : ∀ c pre A (r : Loop), Ix c pre A → Ix c pre (A.putObj (w.heap.size + 1) (.loop r)))
    (h0 : ∀ W, W.heap.size = w.heap.size + 2 → Below w.heap.size w W → (∃ r, W.heap[w.heap.size + 1]? = some (.loop r)) → W.heap[w.heap.size]? = some (.deferred (some [])) → I [] W)
    (hround : ∀ (l : Nat) (pre : List α) (x : α) (W : World), I pre W → w.heap.size + 2 ≤ W.heap.size → Sp (pre ++ [x]) →
      assign.wpIn (Fence.wide.inRound l) 0 P (Exit.then (fun a₁ w₁ => Same2 w.heap.size W w₁ ∧ Kp W w₁ ∧ ∀ w₂, Put1 (w.heap.size + 1) w₁ w₂ → (∃ r, w₂.heap[w.heap.size + 1]? = some (.loop r)) → body.wpIn (Fence.wide.inRound l) 0 P (ownPostO w.heap.size Kp I Ix (pre ++ [x]) w₂) a₁ w₂) (fun _ _ _ => False))
        { tmps := (ps.zip (encs pre x)).foldl (fun t (p, v) => t.setIfInBounds p v) a.tmps, defers := [] } W)
    (hdone : ∀ (xs : List α) (W : World), S xs → I xs W → W.heap[w.heap.size]? = some (.deferred (some [])) → Q .normal { a with defers := { target := .collected w.heap.size, args := #[] } :: a.defers } W)
    (hstop : ∀ (c : Code) (pre : List α) (W : World), Sp pre → Ix c pre W → W.heap[w.heap.size]? = some (.deferred (some [])) → c.wpIn Fence.wide n P Q { a with defers := { target := .collected w.heap.size, args := #[] } :: a.defers } W) :
    (Code.rangeFunc g ps assign body).wpIn Fence.wide n P Q a w := by
  refine wpIn_rangeFunc ?_
  intro fn hfn
  obtain ⟨rec, hrec⟩ : ∃ rec : LoopState → Option Code → Loop, rec = fun st pe => { state := st, pending := pe, fn, tmps := a.tmps, params := ps, assign, body, defers := w.heap.size } := ⟨_, rfl⟩
  obtain ⟨W1, hW1⟩ : ∃ W1, (w.alloc (.deferred (some []))).alloc (.loop (rec .ready none)) = W1 := ⟨_, rfl⟩
  have hL1 : W1.heap[w.heap.size + 1]? = some (.loop (rec .ready none)) := by
    rw [← hW1]; have := World.alloc_heap_new (w.alloc (.deferred (some []))) (.loop (rec .ready none)); rwa [World.size_alloc] at this
  have hK1 : W1.heap[w.heap.size]? = some (.deferred (some [])) := by
    rw [← hW1]; exact (Below.heap_alloc _ _ _ (by simp)).trans (World.alloc_heap_new w _)
  have hs1 : W1.heap.size = w.heap.size + 2 := by rw [← hW1, World.size_alloc, World.size_alloc]
  have hb1 : Below w.heap.size w W1 := by
    rw [← hW1]; exact ((Below.refl _ w).alloc (Nat.le_refl _) _).alloc (by simp) _
  have hI1 : I [] W1 := h0 W1 hs1 hb1 ⟨_, hL1⟩ hK1
  refine ⟨w.heap.size + 1, [{ target := .collected w.heap.size, args := #[] }], W1, { target := .fn (.func gf) lb, args := #[.func (.yield (w.heap.size + 1)) #[] #[]] }, W1, gf,
    #[.func (.yield (w.heap.size + 1)) #[] #[]] ++ lb, W1, ?_, ?_, ?_, ?_, fun h => (by cases h), ?_⟩
  · rw [← hW1, hrec]; exact run_enterLoop_outer _ _ _ _ _
  · simp only [resolve, hg]
    simp [go_sem]
  · intro f' hf'; trivial
  · simp [invoke, go_sem, eg]
  · refine CallsIn.more ((hseq W1 hs1 hb1 (w.heap.size + 1)
      (fun pre W => I pre W ∧ W.heap[w.heap.size + 1]? = some (.loop (rec .ready none)) ∧ W.heap[w.heap.size]? = some (.deferred (some [])))
      (fun pre W => ∃ c, Ix c pre W ∧ W.heap[w.heap.size + 1]? = some (.loop (rec .done (some c))) ∧ W.heap[w.heap.size]? = some (.deferred (some [])))
      (fun s A hs => hIz s A hs.1) (fun s A hs => (by obtain ⟨c, hc, _⟩ := hs; exact hIxz c s A hc))
      (fun s A B hs hg' => ⟨hI s A B hs.1 hg', (hIt A B hg').b.trans hs.2.1, (hIt A B hg').a.trans hs.2.2⟩)
      (fun s A B hs hg' => by
        obtain ⟨c, hc, hl, hk⟩ := hs
        exact ⟨c, hIx c s A B hc hg', (hIt A B hg').b.trans hl, (hIt A B hg').a.trans hk⟩)
      ?_ ⟨hI1, hL1, hK1⟩).mono ?_) (Nat.zero_le _)
    · -- one round
      rintro pre x W ⟨hi, hl, hk⟩ hSp
      have hlt : w.heap.size + 1 < W.heap.size := (Array.getElem?_eq_some_iff.1 hl).1
      have hy := run_yield (P := P) (args := encs pre x) hl (by rw [hrec]; exact hps pre x)
      rw [hrec] at hy
      refine ⟨fn, _, assign, body, hy, roundIn_of_wpIn hfn (wpIn_mono (hround _ pre x W hi (by omega) hSp) ?_)⟩
      clear hy
      rintro ea a' Wa hq
      cases ea with
      | normal => ?_
      | ret => exact hq.elim
      | exit id => exact hq.elim
      | goto t => exact hq.elim
      | panic c => exact hq.elim
      | outgrown => exact hq.elim
      obtain ⟨h2a, hkpa, hbody⟩ := hq
      replace hl := h2a.b.trans hl
      replace hk := h2a.a.trans hk
      replace hlt : w.heap.size + 1 < Wa.heap.size := (Array.getElem?_eq_some_iff.1 hl).1
      refine ⟨_, run_beginRound hl (by rw [hrec]), ?_⟩
      have hl2 : (Wa.putObj (w.heap.size + 1) (.loop { rec .ready none with state := .busy })).heap[w.heap.size + 1]? = some (.loop { rec .ready none with state := .busy }) := World.putObj_heap_same hlt
      have hk2 : (Wa.putObj (w.heap.size + 1) (.loop { rec .ready none with state := .busy })).heap[w.heap.size]? = some (.deferred (some [])) := (World.putObj_heap_other (by omega)).trans hk
      have hw2 : Kp Wa (Wa.putObj (w.heap.size + 1) (.loop { rec .ready none with state := .busy })) := hKb _ _
      refine wpIn_mono (hbody _ (Put1.putObj _ _ _) ⟨_, hl2⟩) ?_
      have fin : ∀ (jump : Option Code) (W3 : World), Same2 w.heap.size (Wa.putObj (w.heap.size + 1) (.loop { rec .ready none with state := .busy })) W3 →
          (Instr.endRound (w.heap.size + 1) jump).run P W3 = .ok (.bool jump.isNone) (W3.putObj (w.heap.size + 1) (.loop (rec (if jump.isNone then .ready else .done) jump))) ∧
          (W3.putObj (w.heap.size + 1) (.loop (rec (if jump.isNone then .ready else .done) jump))).heap[w.heap.size + 1]? = some (.loop (rec (if jump.isNone then .ready else .done) jump)) ∧
          (W3.putObj (w.heap.size + 1) (.loop (rec (if jump.isNone then .ready else .done) jump))).heap[w.heap.size]? = some (.deferred (some [])) := fun jump W3 hk3 => by
        have hl3 := hk3.b.trans hl2
        have := run_endRound (P := P) jump hl3
        rw [hrec] at this ⊢
        exact ⟨this, World.putObj_heap_same (Array.getElem?_eq_some_iff.1 hl3).1, (World.putObj_heap_other (by omega)).trans (hk3.a.trans hk2)⟩
      rintro e a3 W3 hp
      cases e with
      | normal =>
        obtain ⟨hk3, hkp3, hi3⟩ := hp
        obtain ⟨hr, hl4, hk4⟩ := fin none W3 hk3
        exact ⟨_, _, hr, .inl ⟨rfl, ⟨hIb _ _ _ hi3, hl4, hk4⟩, hKt hkpa (hKt (hKt hw2 hkp3) (hKb _ _))⟩⟩
      | ret =>
        obtain ⟨hk3, hkp3, hi3⟩ := hp
        obtain ⟨hr, hl4, hk4⟩ := fin (some .ret) W3 hk3
        exact ⟨_, _, hr, .inr ⟨rfl, ⟨.ret, hIxb _ _ _ _ hi3, hl4, hk4⟩, hKt hkpa (hKt (hKt hw2 hkp3) (hKb _ _))⟩⟩
      | exit id =>
        obtain ⟨hk3, hkp3, hi3⟩ := hp
        obtain ⟨hr, hl4, hk4⟩ := fin (some (.exit id)) W3 hk3
        exact ⟨_, _, hr, .inr ⟨rfl, ⟨.exit id, hIxb _ _ _ _ hi3, hl4, hk4⟩, hKt hkpa (hKt (hKt hw2 hkp3) (hKb _ _))⟩⟩
      | goto t =>
        obtain ⟨hk3, hkp3, hi3⟩ := hp
        obtain ⟨hr, hl4, hk4⟩ := fin (some (.goto t)) W3 hk3
        exact ⟨_, _, hr, .inr ⟨rfl, ⟨.goto t, hIxb _ _ _ _ hi3, hl4, hk4⟩, hKt hkpa (hKt (hKt hw2 hkp3) (hKb _ _))⟩⟩
      | panic ch => exact hp.elim
      | outgrown => exact hp.elim
    · -- behind the iterator
      rintro e W2 ⟨⟨v, rfl⟩, (⟨xs, hS, hi, hl, hk⟩ | ⟨pre, hSp, c, hi, hl, hk⟩)⟩
      · exact ⟨none, _, by have := run_endLoop (P := P) hl (by rw [hrec]; simp); rw [hrec] at this; exact this, hdone xs _ hS (hIb _ _ _ hi) ((World.putObj_heap_other (by omega)).trans hk)⟩
      · exact ⟨some c, _, by have := run_endLoop (P := P) hl (by rw [hrec]; simp); rw [hrec] at this; exact this, hstop c pre _ hSp (hIxb _ _ _ _ hi) ((World.putObj_heap_other (by omega)).trans hk)⟩

end Go.Proofs.YtldhbjmillfjgabGreatDoor

namespace Go.Proofs.YtldhbjmillfjgabGreatDoor
open Go.RowKit
set_option linter.unusedVariables false
attribute [local go_sem] Oper.semAt_some

theorem String_any (B b : Nat) (l : List UInt8) (w : World) (h : Lib.IsBuilder 156 5 B b (Lib.byteCells l) w) (hBw : B ≤ w.heap.size) :
    Calls Tryz.prog 85 #[.pointer (some ⟨b, 0, none⟩)] w fun e w' => e = .returned (.string ⟨l.toArray⟩) ∧ (Below B w w' ∧ Lib.OthersKept 5 (some b) w w') := by
  have c : Calls Tryz.prog 85 #[.pointer (some ⟨b, 0, none⟩)] w fun e w' => e = .returned (.string ⟨l.toArray⟩) ∧ (Lib.IsBuilderF 156 5 B b (Lib.byteCells l) w' ∧ Below B w w' ∧ Lib.OthersKept 5 (some b) w w') := Any.Builder_String_any_k Tryz.lays169 Tryz.Builder_Extra_169 B b l w (.of h) hBw
  exact c.mono fun e w' h => ⟨h.1, h.2.2⟩

/-- What a part makes of its piece. -/
def madeP (x : Pt × List UInt8) : List UInt8 := (if 0 < x.1.keep then x.2 else []) ++ x.1.put
def applyP (ps : List Pt) (s : List UInt8) : List UInt8 := (pcs ps s).flatMap madeP

theorem pcs_len (ps : List Pt) (s : List UInt8) (h : fitsP ps s) : (((pcs ps s).map fun x => x.2.length).sum : Nat) ≤ s.length := by
  induction ps generalizing s with
  | nil => simp [pcs]
  | cons p ps ih =>
    obtain ⟨h1, h2, h3, h4⟩ := h
    have := ih _ h4
    simp only [pcs, List.map_cons, List.sum_cons]
    rw [List.length_take]
    rw [List.length_drop] at this
    omega
theorem pcs_puts (ps : List Pt) (s : List UInt8) : (pcs ps s).map (fun x => x.1.put.length) = ps.map fun p => p.put.length := by
  induction ps generalizing s with
  | nil => rfl
  | cons p ps ih => simp [pcs, ih]
def putsP (ps : List Pt) : Nat := (ps.map fun p => p.put.length).sum
theorem made_len (l : List (Pt × List UInt8)) : (l.flatMap madeP).length ≤ (l.map fun x => x.2.length).sum + (l.map fun x => x.1.put.length).sum := by
  induction l with
  | nil => simp
  | cons x l ih =>
    simp only [List.flatMap_cons, List.length_append, List.map_cons, List.sum_cons]
    have : (madeP x).length ≤ x.2.length + x.1.put.length := by
      unfold madeP
      rw [List.length_append]
      split <;> simp
    omega
theorem made_pre {ps : List Pt} {s : List UInt8} (h : fitsP ps s) {pre rest : List (Pt × List UInt8)} (e : pcs ps s = pre ++ rest) : (pre.flatMap madeP).length ≤ s.length + putsP ps := by
  have h1 := made_len pre
  have h2 := pcs_len ps s h
  have h3 := congrArg List.sum (pcs_puts ps s)
  rw [e] at h2 h3
  rw [List.map_append, List.sum_append] at h2 h3
  unfold putsP
  omega

theorem own_put {A B : World} {n N e size k : Nat} {v : Value} {xs : List Value} {r : Loop} (h : A.ownsRow N e size v k xs) (hn : A.heap[n]? = some (.loop r)) (hp : Put1 n A B) : B.ownsRow N e size v k xs := by
  obtain ⟨h0, hrow⟩ := h
  refine ⟨h0, ?_⟩
  rcases hrow with hx | ⟨g, cap, cur, rfl, hg, hgg, rest⟩
  · exact .inl hx
  · refine .inr ⟨g, cap, cur, rfl, hg, (hp.block g ?_).trans hgg, rest⟩
    rintro rfl
    rw [hn] at hgg
    cases hgg
theorem bld_at {T e B b : Nat} {p : Value} {bs : List Value} {w w' : World} (h : Lib.BuilderAt T e B b p bs w) (hb : w'.heap[b]? = w.heap[b]?) (ho : ∀ v, w.ownsRow B e 1 v bs.length bs → w'.ownsRow B e 1 v bs.length bs) : Lib.BuilderAt T e B b p bs w' := by
  obtain ⟨h1, v, h2, h3, h4⟩ := h
  exact ⟨h1, v, hb.trans h2, ho v h3, h4⟩
theorem bld_is {T e B b : Nat} {bs : List Value} {w w' : World} (h : Lib.IsBuilder T e B b bs w) (hb : w'.heap[b]? = w.heap[b]?) (ho : ∀ v, w.ownsRow B e 1 v bs.length bs → w'.ownsRow B e 1 v bs.length bs) : Lib.IsBuilder T e B b bs w' :=
  h.elim (fun h => .inl (bld_at h hb ho)) (fun h => .inr (bld_at h hb ho))
/-- What a round of Apply's loop keeps. -/
structure apI (w : World) (β : Nat) (v1 v2 : Value) (r : Loop) (bs : List UInt8) (A : World) : Prop where
  below : Below w.heap.size w A
  size : β + 5 ≤ A.heap.size
  bld : Lib.IsBuilder 156 5 β β (Lib.byteCells bs) A
  h1 : A.heap[β + 1]? = some (.cells #[v1] 23 (0, 0))
  h2 : A.heap[β + 2]? = some (.cells #[v2] 9 (0, 0))
  h3 : A.heap[β + 3]? = some (.deferred (some []))
  h4 : A.heap[β + 4]? = some (.loop r)
theorem apI.grow {w : World} {β : Nat} {v1 v2 : Value} {r : Loop} {bs : List UInt8} {A B : World} (h : apI w β v1 v2 r bs A) (hb : Below A.heap.size A B) : apI w β v1 v2 r bs B := by
  have hs := h.size
  exact ⟨h.below.trans (hb.mono h.below.size), Nat.le_trans hs hb.size, bld_is h.bld (hb.block β (by omega)) (fun v hv => own_below hv hb), (hb.block (β + 1) (by omega)).trans h.h1, (hb.block (β + 2) (by omega)).trans h.h2, (hb.block (β + 3) (by omega)).trans h.h3, (hb.block (β + 4) (by omega)).trans h.h4⟩
theorem apI.put {w : World} {β : Nat} {v1 v2 : Value} {r r' : Loop} {bs : List UInt8} {A B : World} (h : apI w β v1 v2 r bs A) (hw : w.heap.size ≤ β) (hp : Put1 (β + 4) A B) (hl : B.heap[β + 4]? = some (.loop r')) : apI w β v1 v2 r' bs B :=
  ⟨h.below.trans (hp.below (by omega)), by rw [hp.size]; exact h.size, bld_is h.bld (hp.block β (by omega)) (fun v hv => own_put hv h.h4 hp), (hp.block (β + 1) (by omega)).trans h.h1, (hp.block (β + 2) (by omega)).trans h.h2, (hp.block (β + 3) (by omega)).trans h.h3, hl⟩
theorem apI.wrote {w : World} {β : Nat} {v1 v2 : Value} {r : Loop} {bs u : List UInt8} {A B : World} (h : apI w β v1 v2 r bs A) (hw : w.heap.size ≤ β) (h1 : Lib.IsBuilder 156 5 β β (Lib.byteCells bs ++ Lib.strCells ⟨u.toArray⟩) B) (h2 : Below β A B) (h3 : Lib.OthersKept 5 (some β) A B) : apI w β v1 v2 r (bs ++ u) B := by
  refine ⟨h.below.trans (h2.mono hw), Nat.le_trans h.size h2.size, ?_, h3 _ _ h.h1 (by simp) (by intro c fz e; cases e), h3 _ _ h.h2 (by simp) (by intro c fz e; cases e), h3 _ _ h.h3 (by simp) (by intro c fz e; cases e), h3 _ _ h.h4 (by simp) (by intro c fz e; cases e)⟩
  rw [Lib.byteCells_append]
  exact h1

theorem apI.kept {w : World} {β : Nat} {v1 v2 : Value} {r : Loop} {bs bs' : List UInt8} {A B : World} (h : apI w β v1 v2 r bs A) (h' : apI w β v1 v2 r bs' B) (hs : A.heap.size ≤ B.heap.size) :
    Same2 (β + 3) A B ∧ A.heap.size ≤ B.heap.size ∧ ∀ (x : Nat), x = β + 1 ∨ x = β + 1 + 1 ∨ x < w.heap.size → B.heap[x]? = A.heap[x]? := by
  refine ⟨⟨h'.h3.trans h.h3.symm, h'.h4.trans h.h4.symm⟩, hs, ?_⟩
  rintro x (rfl | rfl | hx)
  · exact h'.h1.trans h.h1.symm
  · exact h'.h2.trans h.h2.symm
  · exact (h'.below.block x hx).trans (h.below.block x hx).symm

set_option maxRecDepth 100000 in
set_option maxHeartbeats 2000000 in
theorem Apply_err (v : Value) (ps : List Pt) (s : List UInt8) (w : World) (hT : Lib.Utf8Tabs 2 3 w) (hr : opAt w v ps) (hwf : ∀ p ∈ ps, wfP p) (hs : s.length < 1000000000) (hl : ps.length < 10000000) (he : ordE ps s ≠ 0) :
    Calls Tryz.prog 25 #[v, .string ⟨s.toArray⟩] w fun e w' => e = .returned (.tuple #[.string ⟨#[]⟩, errV (ordE ps s)]) ∧ Below w.heap.size w w' := by
  have cC : Hid _ := checkOver_any v ps s w hT hr hwf hs hl
  have hV : errV (ordE ps s) = .iface 26 (.int .i64 (ordE ps s)) := by unfold errV; rw [if_neg he]
  rw [hV] at cC ⊢
  generalize ordE ps s = E at *
  obtain ⟨p, c, rfl, _⟩ := hr
  clear hT hwf hV
  go_enter Tryz.func25, Tryz.ntmps25
  go_wp2_with (first | (go_at_call 81; refine Calls.mono cC.out ?_; rintro e w1 ⟨rfl, hb1⟩) | fail)
  go_ret2
  exact ⟨rfl, hb1⟩

set_option maxRecDepth 100000 in
set_option maxHeartbeats 16000000 in
theorem Apply_fine (v : Value) (ps : List Pt) (s : List UInt8) (w : World) (hT : Lib.Utf8Tabs 2 3 w) (hr : opAt w v ps) (hwf : ∀ p ∈ ps, wfP p) (hs : s.length < 1000000000) (hl : ps.length < 10000000) (hpu : putsP ps < 100000000000) (he : chkE ps (s.length : Int) = 0) (hbad : badO ps s = false) :
    Calls Tryz.prog 25 #[v, .string ⟨s.toArray⟩] w fun e w' => e = .returned (.tuple #[.string ⟨(applyP ps s).toArray⟩, .nilIface]) ∧ Below w.heap.size w w' := by
  have cC : Hid _ := checkOver_any v ps s w hT hr hwf hs hl
  obtain ⟨hfit, hleft⟩ := chkE_fits he
  have hV : errV (ordE ps s) = .nilIface := by unfold ordE; rw [if_pos he, hbad]; rfl
  rw [hV] at cC
  have HF : Hid (fitsP ps s) := hfit
  have HR : Hid (opAt w v ps) := hr
  have HSL : Hid (s.length < 1000000000) := hs
  have HLP : Hid (ps.length < 10000000) := hl
  have HPU : Hid (putsP ps < 100000000000) := hpu
  have hrow : ∀ x o n c, v = .slice (some ⟨x, o, none⟩) n c → ps ≠ [] → x < w.heap.size := by
    intro x o n c e hne
    obtain ⟨p, c', rfl, _, _, h3⟩ := hr
    obtain ⟨b, o', e1, e2, _⟩ := h3 hne
    simp only [Value.slice.injEq] at e
    rw [e.1] at e1
    simp only [Option.some.injEq, Addr.mk.injEq] at e1
    rw [e1.1]; exact e2
  have HROW : Hid _ := hrow
  obtain ⟨p, c, rfl, _⟩ := hr
  obtain ⟨S, hS⟩ : ∃ S : ByteArray, (ByteArray.mk (applyP ps s).toArray) = S := ⟨_, rfl⟩
  have HS : Hid (ByteArray.mk (applyP ps s).toArray = S) := hS
  rw [hS]
  clear hT hwf hV hfit hleft hrow he hbad hS hpu
  have cO := fun (wx : World) => over_any p ps.length c ⟨s.toArray⟩ wx
  refine (callsIn_wide (n := 3)).1 ?_
  refine callsIn_of_wp_marks Tryz.func25 rfl trivial ?_ rfl
  simp only [Tryz.ntmps25, List.size_toArray, List.length_cons, List.length_nil, Nat.reduceAdd, Nat.reduceSub, Array.replicate_succ, Array.replicate_zero, List.push_toArray, List.append_toArray, List.nil_append, List.cons_append]
  gi_wp2_with (first
    | (refine ⟨trivial, ?_⟩; gi_at_call 81; refine (callsIn_wide.2 cC.out).mono ?_; rintro e w1 ⟨rfl, hb1⟩)
    | (refine ⟨trivial, ?_⟩; gi_at_call 82; refine (callsIn_wide.2 (cO _)).mono ?_; rintro e w13 ⟨rfl, rfl⟩)
    | fail)
  have hlt1 : w.heap.size ≤ w1.heap.size := hb1.size
  obtain ⟨β, hβ⟩ : ∃ β, w1.heap.size = β := ⟨_, rfl⟩
  obtain ⟨W4, hW4⟩ : ∃ W4, W4 = ((w1.alloc (.cells #[.pointer none, .slice none 0 0] 156)).alloc (.cells #[.slice p ps.length c] 23)).alloc (.cells #[.string ⟨s.toArray⟩] 9) := ⟨_, rfl⟩
  have hb4 : Below w.heap.size w W4 := by rw [hW4]; exact ((hb1.alloc hb1.size _).alloc (by simp; omega) _).alloc (by simp; omega) _
  have hs4 : W4.heap.size = β + 3 := by rw [hW4, ← hβ]; simp
  have q0 : W4.heap[β]? = some (.cells #[.pointer none, .slice none 0 0] 156 (0, 0)) := by rw [hW4, ← hβ]; exact (heap_alloc_old _ _ (by rw [World.size_alloc, World.size_alloc]; omega)).trans ((heap_alloc_old _ _ (by rw [World.size_alloc]; omega)).trans (heap_alloc_new _ _))
  have q1 : W4.heap[β + 1]? = some (.cells #[.slice p ps.length c] 23 (0, 0)) := by rw [hW4, ← hβ]; exact (heap_alloc_old _ _ (by simp)).trans (by have := heap_alloc_new (w1.alloc (.cells #[.pointer none, .slice none 0 0] 156)) (.cells #[.slice p ps.length c] 23); rwa [World.size_alloc] at this)
  have q2 : W4.heap[β + 2]? = some (.cells #[.string ⟨s.toArray⟩] 9 (0, 0)) := by rw [hW4, ← hβ]; have := heap_alloc_new ((w1.alloc (.cells #[.pointer none, .slice none 0 0] 156)).alloc (.cells #[.slice p ps.length c] 23)) (.cells #[.string ⟨s.toArray⟩] 9); rwa [World.size_alloc, World.size_alloc] at this
  rw [← hW4, hβ]
  rw [hβ] at hlt1
  clear hW4 cC cO hb1 hβ
  refine wp_range_ownD (gf := 138) (lb := #[.pointer (some ⟨β + 1 + 1, 0, none⟩), .pointer (some ⟨β + 1, 0, none⟩)]) rfl (enters_of Tryz.func138 (by kernel_rfl) rfl) (encs := fun _ (x : Pt × List UInt8) => #[partV x.1, .string ⟨x.2.toArray⟩]) (fun _ _ => rfl)
    (It := fun A B => Below A.heap.size A B ∧ β + 5 ≤ A.heap.size) (Kp := fun A B => A.heap.size ≤ B.heap.size ∧ ∀ x, (x = β + 1 ∨ x = β + 1 + 1 ∨ x < w.heap.size) → B.heap[x]? = A.heap[x]?) (Z := fun _ => True) (S := fun xs => xs = pcs ps s) (Sp := fun pre => ∃ rest, pcs ps s = pre ++ rest)
    ?seq ?its (fun h k => ⟨Nat.le_trans h.1 k.1, fun x hx => (k.2 x hx).trans (h.2 x hx)⟩) ?hkb
    (fun pre W => ∃ r, apI w β (.slice p ps.length c) (.string ⟨s.toArray⟩) r (pre.flatMap madeP) W)
    (fun _ _ _ => False) (fun _ _ _ => trivial) (fun _ _ _ h => h.elim) ?ii ?ib (fun _ _ _ _ h _ => h) (fun _ _ _ _ h => h) ?h0 ?round ?done (fun _ _ _ _ h => h.elim)
  case seq =>
    intro W hs1 hb1
    rw [hs4] at hs1 hb1
    have hb9 : Below w.heap.size w W := hb4.trans (hb1.mono (by omega))
    have := over_seq (.slice p ps.length c) ps s HSL.out HLP.out HF.out (fun x => (x = β + 1 ∨ x = β + 1 + 1 ∨ x < w.heap.size)) (β + 1) W (Lib.cell_of_heap ((hb1.block (β + 1) (by omega)).trans q1) 0) (Lib.cell_of_heap ((hb1.block (β + 2) (by omega)).trans q2) 0) (opAt_below HR.out hb9 (Nat.le_refl _)) (.inl rfl) (.inr (.inl rfl)) (fun b o n c' e hne => .inr (.inr (HROW.out b o n c' e hne))) (by rintro x (rfl | rfl | hx) <;> omega) (fun _ => True)
    rw [hs1] at this
    exact this
  case its => exact fun A B h => Same2.of_below h.1 (by rw [hs4]; omega)
  case hkb =>
    intro A r
    rw [hs4]
    exact ⟨by simp, fun x hx => World.putObj_heap_other (by omega)⟩
  case ii => exact fun pre A B h hb => by obtain ⟨r, h⟩ := h; exact ⟨r, h.grow hb.1⟩
  case ib =>
    rintro pre A r ⟨r0, h⟩
    rw [hs4]
    exact ⟨r, h.put hlt1 (Put1.putObj _ _ _) (World.putObj_heap_same (by have := h.size; omega))⟩
  case h0 =>
    rintro W hs hb ⟨r, hr⟩ hd
    rw [hs4] at hs hb hr hd
    exact ⟨r, hb4.trans (hb.mono (by omega)), by omega, .inl ⟨Nat.le_refl _, .slice none 0 0, (hb.block β (by omega)).trans q0, World.ownsRow_nil _ _ _ _, by simp [Value.ownBlock]⟩, (hb.block (β + 1) (by omega)).trans q1, (hb.block (β + 2) (by omega)).trans q2, hd, hr⟩
  case round =>
    rintro l pre ⟨q, T⟩ W ⟨r0, hI⟩ hlW ⟨rest, hSp⟩
    rw [hs4] at hlW ⊢
    have hml := made_pre HF.out hSp
    have hpp := HPU.out
    have hss := HSL.out
    have HML : Hid ((pre.flatMap madeP).length + T.length + q.put.length ≤ 1000000000000) := by
      show _ ≤ _
      have h1 := pcs_len ps s HF.out
      have h2 := congrArg List.sum (pcs_puts ps s)
      have h3 := made_len pre
      rw [hSp] at h1 h2
      simp only [List.map_append, List.sum_append, List.map_cons, List.map_nil, List.sum_cons, List.sum_nil] at h1 h2
      unfold putsP at hpp
      omega
    have HI : Hid (apI w β (.slice p ps.length c) (.string ⟨s.toArray⟩) r0 (pre.flatMap madeP) W) := hI
    have HNX : Hid ((pre ++ [(q, T)]).flatMap madeP = pre.flatMap madeP ++ madeP (q, T)) := by show _ = _; simp
    have HWB : Hid (¬ β = W.heap.size) := by show ¬ _; omega
    have cK := isKeep_any q
    unfold partV at cK ⊢
    clear hI hSp q0 q1 q2 hb4 hml hpp hss
    gi_wp2
    refine ⟨(Same2.refl _ W).alloc (by omega) _, ⟨by simp, fun x hx => heap_alloc_old _ _ (by omega)⟩, ?_⟩
    intro w2 hp ⟨r, hr⟩
    have hI1 := HI.out.grow (B := W.alloc (.cells #[.int .i64 q.keep, .int .i64 q.drop, .string ⟨q.put.toArray⟩] 50)) ((Below.refl _ _).alloc (Nat.le_refl _) _)
    have HI2 : Hid (apI w β (.slice p ps.length c) (.string ⟨s.toArray⟩) r (pre.flatMap madeP) w2) := hI1.put hlt1 hp hr
    have hbx : w2.heap[W.heap.size]? = some (.cells #[.int .i64 q.keep, .int .i64 q.drop, .string ⟨q.put.toArray⟩] 50 (0, 0)) := (hp.block W.heap.size (by omega)).trans (heap_alloc_new _ _)
    have HBX : Hid (w2.heap[W.heap.size]? = some (.cells #[.int .i64 q.keep, .int .i64 q.drop, .string ⟨q.put.toArray⟩] 50 (0, 0))) := hbx
    have x0 : w2.cell? ⟨W.heap.size, 0, none⟩ = some (.int .i64 q.keep) := Lib.cell_of_heap hbx 0
    have x1 : w2.cell? ⟨W.heap.size, 1, none⟩ = some (.int .i64 q.drop) := Lib.cell_of_heap hbx 1
    have x2 : w2.cell? ⟨W.heap.size, 2, none⟩ = some (.string ⟨q.put.toArray⟩) := Lib.cell_of_heap hbx 2
    clear hp hr hbx hI1
    by_cases hk : 0 < q.keep
    · have hkd : decide (0 < q.keep) = true := decide_eq_true hk
      rw [hkd] at cK
      have HMK : Hid (madeP (q, T) = T ++ q.put) := by show _ = _; unfold madeP; rw [if_pos hk]
      clear hk hkd
      gi_wp2_with (first
        | (refine ⟨trivial, rfl, ?_⟩; gi_at_call 83; refine (CallsIn.inRound l (callsIn_wide.2 (cK _))).mono ?_; rintro e w3 ⟨rfl, hb3⟩; have hI3 := HI2.out.grow hb3; have hL3 : (Lib.byteCells (pre.flatMap madeP)).length + (ByteArray.mk T.toArray).size ≤ 1000000000000 := (by have := HML.out; rw [Lib.byteCells_length]; show _ + T.toArray.size ≤ _; simp only [List.size_toArray]; omega); have hB3 : β ≤ w3.heap.size := (by have := hI3.size; omega); have hx3 := (hb3.block W.heap.size (World.block_lt_of_cell? w2 _ x0)).trans HBX.out)
        | (refine ⟨trivial, rfl, ?_⟩; gi_at_call 84; refine (CallsIn.inRound l (callsIn_wide.2 (WriteString_any β β _ _ _ hI4.bld hL4 hB4))).mono ?_; rintro e w5 ⟨⟨v5, rfl⟩, hw5, hb5, hk5⟩; have hI5 := hI4.wrote hlt1 hw5 hb5 hk5)
        | (refine ⟨trivial, rfl, ?_⟩; gi_at_call 84; refine (CallsIn.inRound l (callsIn_wide.2 (WriteString_any β β _ _ _ hI3.bld hL3 hB3))).mono ?_; rintro e w4 ⟨⟨v4, rfl⟩, hw4, hb4, hk4⟩; have hI4 := hI3.wrote hlt1 hw4 hb4 hk4; have hx4 := hk4 _ _ hx3 (fun e => HWB.out (Option.some.inj e).symm) (by intro c fz e; cases e); have hy4 : w4.cell? ⟨W.heap.size, 2, none⟩ = some (.string ⟨q.put.toArray⟩) := Lib.cell_of_heap hx4 2; have hL4 : (Lib.byteCells (pre.flatMap madeP ++ T)).length + (ByteArray.mk q.put.toArray).size ≤ 1000000000000 := (by have := HML.out; rw [Lib.byteCells_length, List.length_append]; show _ + q.put.toArray.size ≤ _; simp only [List.size_toArray]; omega); have hB4 : β ≤ w4.heap.size := (by have := hI4.size; omega))
        | fail)
      have hK := HI2.out.kept hI5 (Nat.le_trans hb3.size (Nat.le_trans hb4.size hb5.size))
      refine ⟨hK.1, hK.2, r, ?_⟩
      rw [HNX.out, HMK.out, ← List.append_assoc]
      exact hI5
    · have hkd : decide (0 < q.keep) = false := decide_eq_false hk
      rw [hkd] at cK
      have HMK : Hid (madeP (q, T) = q.put) := by show _ = _; unfold madeP; rw [if_neg hk, List.nil_append]
      clear hk hkd
      gi_wp2_with (first
        | (refine ⟨trivial, rfl, ?_⟩; gi_at_call 83; refine (CallsIn.inRound l (callsIn_wide.2 (cK _))).mono ?_; rintro e w3 ⟨rfl, hb3⟩; have hI3 := HI2.out.grow hb3; have hL3 : (Lib.byteCells (pre.flatMap madeP)).length + (ByteArray.mk q.put.toArray).size ≤ 1000000000000 := (by have := HML.out; rw [Lib.byteCells_length]; show _ + q.put.toArray.size ≤ _; simp only [List.size_toArray]; omega); have hB3 : β ≤ w3.heap.size := (by have := hI3.size; omega); have y3 : w3.cell? ⟨W.heap.size, 2, none⟩ = some (.string ⟨q.put.toArray⟩) := Lib.cell_of_heap ((hb3.block W.heap.size (World.block_lt_of_cell? w2 _ x0)).trans HBX.out) 2)
        | (refine ⟨trivial, rfl, ?_⟩; gi_at_call 84; refine (CallsIn.inRound l (callsIn_wide.2 (WriteString_any β β _ _ _ hI3.bld hL3 hB3))).mono ?_; rintro e w4 ⟨⟨v4, rfl⟩, hw4, hb4, hk4⟩; have hI4 := hI3.wrote hlt1 hw4 hb4 hk4)
        | (refine ⟨trivial, ?_⟩)
        | fail)
      have hK := HI2.out.kept hI4 (Nat.le_trans hb3.size hb4.size)
      refine ⟨hK.1, hK.2, r, ?_⟩
      rw [HNX.out, HMK.out]
      exact hI4
  case done =>
    rintro xs W rfl ⟨r, hI⟩ hDef
    rw [hs4] at hDef ⊢
    have HI : Hid (apI w β (.slice p ps.length c) (.string ⟨s.toArray⟩) r (applyP ps s) W) := hI
    have cS := String_any β β (applyP ps s) W HI.out.bld (by have := HI.out.size; omega)
    rw [HS.out] at cS
    clear hI q0 q1 q2 hb4
    gi_wp2_with (first
      | (refine ⟨trivial, ?_⟩; gi_at_call 85; refine (callsIn_wide.2 cS).mono ?_; rintro e w6 ⟨rfl, hb6, hk6⟩)
      | fail)
    have hDef6 := hk6 _ _ hDef (fun e => by have := Option.some.inj e; omega) (by intro c fz e; cases e)
    have hP := Put1.putObj (β + 3) w6 (.deferred none)
    refine ⟨by simp, .inl ⟨_, _, rfl, run_takeDeferred hDef6, ?_⟩⟩
    exact ⟨.tuple #[.string S, .nilIface], by simp [results, Tryz.results25, go_sem], rfl, (HI.out.below.trans (hb6.mono hlt1)).trans (hP.below (by omega))⟩

theorem Apply_any (v : Value) (ps : List Pt) (s : List UInt8) (w : World) (hT : Lib.Utf8Tabs 2 3 w) (hr : opAt w v ps) (hwf : ∀ p ∈ ps, wfP p) (hs : s.length < 1000000000) (hl : ps.length < 10000000) (hpu : putsP ps < 100000000000) :
    Calls Tryz.prog 25 #[v, .string ⟨s.toArray⟩] w fun e w' => e = .returned (.tuple #[.string ⟨(if ordE ps s = 0 then applyP ps s else []).toArray⟩, errV (ordE ps s)]) ∧ Below w.heap.size w w' := by
  by_cases he : ordE ps s = 0
  · rw [if_pos he, he]
    have hc : chkE ps (s.length : Int) = 0 ∧ badO ps s = false := by
      unfold ordE at he
      split at he
      · rename_i h
        refine ⟨h, ?_⟩
        cases hb : badO ps s with
        | false => rfl
        | true => rw [hb] at he; simp at he
      · rename_i h; exact absurd he h
    exact Apply_fine v ps s w hT hr hwf hs hl hpu hc.1 hc.2
  · rw [if_neg he]
    exact Apply_err v ps s w hT hr hwf hs hl he
end Go.Proofs.YtldhbjmillfjgabGreatDoor

namespace Go.Proofs.YtldhbjmillfjgabGreatDoor
open Go.RowKit
set_option linter.unusedVariables false
attribute [local go_sem] Oper.semAt_some

theorem gath_put {A B : World} {a n : Nat} {s : NSt} {r : Loop} (h : gath (a + 4) A a s) (hn : A.heap[n]? = some (.loop r)) (ha : a + 3 < n) (hp : Put1 n A B) : gath (a + 4) B a s := by
  have hM := h.le
  have hT := h.top
  obtain ⟨⟨p, c, h1, h2⟩, h3, ⟨p', c', h4, h5⟩, h6, h7, h8, h9⟩ := h
  exact ⟨⟨p, c, (hp.cell (by omega)).trans h1, own_put h2 hn hp⟩, (hp.frozen (by omega)).trans h3, ⟨p', c', (hp.cell (by omega)).trans h4, own_put h5 hn hp⟩, (hp.frozen (by omega)).trans h6, (hp.cell (by omega)).trans h7, (hp.frozen (by omega)).trans h8, (hp.cell (by omega)).trans h9, hM, by rw [hp.size]; exact hT⟩

/-- What a round of Invert's loop keeps. -/
structure ivI (w : World) (a β : Nat) (fv v1 v2 : Value) (r : Loop) (st : NSt) (A : World) : Prop where
  below : Below w.heap.size w A
  size : β + 5 ≤ A.heap.size
  g : gath (a + 4) A a st
  h0 : A.heap[β]? = some (.cells #[fv] 285 (0, 0))
  h1 : A.heap[β + 1]? = some (.cells #[v1] 23 (0, 0))
  h2 : A.heap[β + 2]? = some (.cells #[v2] 9 (0, 0))
  h3 : A.heap[β + 3]? = some (.deferred (some []))
  h4 : A.heap[β + 4]? = some (.loop r)
theorem ivI.grow {w : World} {a β : Nat} {fv v1 v2 : Value} {r : Loop} {st : NSt} {A B : World} (h : ivI w a β fv v1 v2 r st A) (hb : Below A.heap.size A B) : ivI w a β fv v1 v2 r st B := by
  have hs := h.size
  exact ⟨h.below.trans (hb.mono h.below.size), Nat.le_trans hs hb.size, gath_below h.g hb, (hb.block β (by omega)).trans h.h0, (hb.block (β + 1) (by omega)).trans h.h1, (hb.block (β + 2) (by omega)).trans h.h2, (hb.block (β + 3) (by omega)).trans h.h3, (hb.block (β + 4) (by omega)).trans h.h4⟩
theorem ivI.put {w : World} {a β : Nat} {fv v1 v2 : Value} {r r' : Loop} {st : NSt} {A B : World} (h : ivI w a β fv v1 v2 r st A) (hw : w.heap.size ≤ β) (ha : a + 4 ≤ β) (hp : Put1 (β + 4) A B) (hl : B.heap[β + 4]? = some (.loop r')) : ivI w a β fv v1 v2 r' st B :=
  ⟨h.below.trans (hp.below (by omega)), by rw [hp.size]; exact h.size, gath_put h.g h.h4 (by omega) hp, (hp.block β (by omega)).trans h.h0, (hp.block (β + 1) (by omega)).trans h.h1, (hp.block (β + 2) (by omega)).trans h.h2, (hp.block (β + 3) (by omega)).trans h.h3, hl⟩
theorem ivI.added {w : World} {a β : Nat} {fv v1 v2 : Value} {r : Loop} {st st' : NSt} {A B : World} (h : ivI w a β fv v1 v2 r st A) (hw : w.heap.size ≤ a) (ha : a + 4 ≤ β) (hg : gath (a + 4) B a st') (hb : BelowG (a + 4) a A B) : ivI w a β fv v1 v2 r st' B :=
  ⟨h.below.trans (hb.below.mono hw), Nat.le_trans h.size hb.size, hg, hb.kept _ _ h.h0 (by omega) (by omega) (by omega) (by intro c fz _ e; cases e) (by intro c fz _ e; cases e), hb.kept _ _ h.h1 (by omega) (by omega) (by omega) (by intro c fz _ e; cases e) (by intro c fz _ e; cases e), hb.kept _ _ h.h2 (by omega) (by omega) (by omega) (by intro c fz _ e; cases e) (by intro c fz _ e; cases e), hb.kept _ _ h.h3 (by omega) (by omega) (by omega) (by intro c fz _ e; cases e) (by intro c fz _ e; cases e), hb.kept _ _ h.h4 (by omega) (by omega) (by omega) (by intro c fz _ e; cases e) (by intro c fz _ e; cases e)⟩
theorem ivI.kept {w : World} {a β : Nat} {fv v1 v2 : Value} {r : Loop} {st st' : NSt} {A B : World} (h : ivI w a β fv v1 v2 r st A) (h' : ivI w a β fv v1 v2 r st' B) (hs : A.heap.size ≤ B.heap.size) :
    Same2 (β + 3) A B ∧ A.heap.size ≤ B.heap.size ∧ ∀ (x : Nat), x = β + 1 ∨ x = β + 1 + 1 ∨ x < w.heap.size → B.heap[x]? = A.heap[x]? := by
  refine ⟨⟨h'.h3.trans h.h3.symm, h'.h4.trans h.h4.symm⟩, hs, ?_⟩
  rintro x (rfl | rfl | hx)
  · exact h'.h1.trans h.h1.symm
  · exact h'.h2.trans h.h2.symm
  · exact (h'.below.block x hx).trans (h.below.block x hx).symm

end Go.Proofs.YtldhbjmillfjgabGreatDoor

namespace Go.Proofs.YtldhbjmillfjgabGreatDoor
open Go.RowKit
set_option linter.unusedVariables false
attribute [local go_sem] Oper.semAt_some

/-- Every block but g that was there stands. -/
structure ButO (g : Nat) (w w' : World) : Prop where
  os : w'.os = w.os
  tape : w'.tape = w.tape
  output : w'.output = w.output
  size : w.heap.size ≤ w'.heap.size
  block : ∀ k, k < w.heap.size → k ≠ g → w'.heap[k]? = w.heap[k]?
theorem ButO.of {g : Nat} {w w' : World} (h : Below w.heap.size w w') : ButO g w w' := ⟨h.os, h.tape, h.output, h.size, fun k hk _ => h.block k hk⟩
theorem ButO.refl (g : Nat) (w : World) : ButO g w w := .of (.refl _ _)
theorem ButO.trans {g : Nat} {a b c : World} (h : ButO g a b) (k : ButO g b c) : ButO g a c :=
  ⟨k.os.trans h.os, k.tape.trans h.tape, k.output.trans h.output, Nat.le_trans h.size k.size, fun i hi hg => (k.block i (Nat.lt_of_lt_of_le hi h.size) hg).trans (h.block i hi hg)⟩
theorem ButO.below {g B : Nat} {w w' : World} (h : ButO g w w') (hg : B ≤ g) (hB : B ≤ w.heap.size) : Below B w w' := ⟨h.os, h.tape, h.output, h.size, fun k hk => h.block k (by omega) (by omega)⟩
theorem ButO.set {g : Nat} {a w : World} (h : ButO g a w) (o : Nat) (u : Value) : ButO g a (w.setCell ⟨g, o, none⟩ u) :=
  h.trans ⟨rfl, rfl, rfl, by simp [World.setCell], fun k _ hk => Below.heap_setCell _ _ _ _ (by show k ≠ g; exact hk)⟩
theorem ButO.drew {g : Nat} {a w : World} (h : ButO g a w) : ButO g a w.drew := h.trans ⟨rfl, rfl, rfl, Nat.le_refl _, fun _ _ _ => rfl⟩

/-- A window into block g that may be written: these parts, first to last. -/
def winP (w : World) (g : Nat) (v : Value) (ps : List Pt) : Prop :=
  ∃ p c, v = .slice p ps.length c ∧ ps.length ≤ c ∧ c ≤ maxLen ∧ (ps ≠ [] → ∃ o, p = some ⟨g, o, none⟩ ∧ g < w.heap.size ∧ (∀ j, w.frozen? ⟨g, j, none⟩ = false) ∧ ∀ i q, ps[i]? = some q →
    w.cell? ⟨g, o + i * 3, none⟩ = some (.int .i64 q.keep) ∧ w.cell? ⟨g, o + i * 3 + 1, none⟩ = some (.int .i64 q.drop) ∧ w.cell? ⟨g, o + i * 3 + 2, none⟩ = some (.string ⟨q.put.toArray⟩))
theorem winP_kept {w w' : World} {g : Nat} {v : Value} {ps : List Pt} (h : winP w g v ps) (hs : w.heap.size ≤ w'.heap.size) (hb : g < w.heap.size → w'.heap[g]? = w.heap[g]?) : winP w' g v ps := by
  obtain ⟨p, c, rfl, h1, h2, h3⟩ := h
  refine ⟨p, c, rfl, h1, h2, fun hne => ?_⟩
  obtain ⟨o, e1, e2, e4, e3⟩ := h3 hne
  have hg := hb e2
  refine ⟨o, e1, by omega, fun j => (World.frozen?_of_block (w := w) (a := ⟨g, j, none⟩) hg).trans (e4 j), fun i q hi => ?_⟩
  obtain ⟨f1, f2, f3⟩ := e3 i q hi
  exact ⟨(World.cell?_of_block (w := w) (a := ⟨g, o + i * 3, none⟩) hg).trans f1, (World.cell?_of_block (w := w) (a := ⟨g, o + i * 3 + 1, none⟩) hg).trans f2, (World.cell?_of_block (w := w) (a := ⟨g, o + i * 3 + 2, none⟩) hg).trans f3⟩
theorem winP_below {w w' : World} {g : Nat} {v : Value} {ps : List Pt} (h : winP w g v ps) (hb : Below w.heap.size w w') : winP w' g v ps := winP_kept h hb.size fun hg => hb.block g hg
theorem frozen_of_heap {w : World} {b : Nat} {xs : Array Value} {t : TypeId} (h : w.heap[b]? = some (.cells xs t (0, 0))) (j : Nat) : w.frozen? ⟨b, j, none⟩ = false := by
  simp [World.frozen?, h]
end Go.Proofs.YtldhbjmillfjgabGreatDoor

namespace Go.Proofs.YtldhbjmillfjgabGreatDoor
open Go.RowKit
set_option linter.unusedVariables false
attribute [local go_sem] Oper.semAt_some

/-- What stands beside the walk: boxes. -/
def boxesP (L : List (Nat × Obj)) (w : World) : Prop := ∀ x ∈ L, w.heap[x.1]? = some x.2
/-- What the rounds keep. -/
structure sideI (M a g1 g2 : Nat) (bx : List (Nat × Obj)) (w : World) (v1 v2 : Value) (A B : List Pt) (s : NSt) (W : World) : Prop where
  below : Below a w W
  g : gath M W a s
  r1 : winP W g1 v1 A
  r2 : winP W g2 v2 B
  b : boxesP bx W
theorem sideI.grow {M a g1 g2 : Nat} {bx : List (Nat × Obj)} {w : World} {v1 v2 : Value} {A B : List Pt} {s : NSt} {W W' : World} (h : sideI M a g1 g2 bx w v1 v2 A B s W) (hb : Below W.heap.size W W') : sideI M a g1 g2 bx w v1 v2 A B s W' :=
  ⟨h.below.trans (hb.mono (by have := gath_lt h.g; omega)), gath_below h.g hb, winP_below h.r1 hb, winP_below h.r2 hb, fun x hx => (hb.block _ (heap_lt (h.b x hx))).trans (h.b x hx)⟩
/-- The bounds of what is yet to come. -/
structure BdS (t : Pt × Pt → List Pt) (l : List (Pt × Pt)) (s : NSt) (T : Int) (n : Nat) : Prop where
  bd : Bd s T n
  w : T + wts (l.flatMap t) < 1000000000
  n : n + l.length < 10000000
  sound : ∀ x ∈ l, ∀ p ∈ t x, soundP p
  one : ∀ x ∈ l, (t x).length ≤ 1
theorem Bd.more {s : NSt} {T : Int} {n : Nat} (h : Bd s T n) : Bd s T (n + 1) := ⟨h.put, h.d0, h.dT, h.keep, by have := h.len; omega⟩
theorem BdS.head {t : Pt × Pt → List Pt} {x : Pt × Pt} {l : List (Pt × Pt)} {s : NSt} {T : Int} {n : Nat} (h : BdS t (x :: l) s T n) : (∀ p ∈ t x, soundP p) ∧ T + wts (t x) < 1000000000 ∧ n < 10000000 := by
  refine ⟨h.sound x (by simp), ?_, by have := h.n; simp at this; omega⟩
  have h1 := h.w
  have h2 : 0 ≤ wts (l.flatMap t) := wts_nonneg fun p hp => by
    obtain ⟨y, hy, hp⟩ := List.mem_flatMap.1 hp
    exact h.sound y (by simp [hy]) p hp
  rw [List.flatMap_cons] at h1
  unfold wts at h1 h2 ⊢
  rw [List.map_append, List.sum_append] at h1
  omega
theorem BdS.tail {t : Pt × Pt → List Pt} {x : Pt × Pt} {l : List (Pt × Pt)} {s : NSt} {T : Int} {n : Nat} (h : BdS t (x :: l) s T n) : BdS t l ((t x).foldl addP s) (T + wts (t x)) (n + 1) := by
  refine ⟨?_, ?_, by have := h.n; simp at this; omega, fun y hy => h.sound y (by simp [hy]), fun y hy => h.one y (by simp [hy])⟩
  · have h1 := h.one x (by simp)
    have h2 := h.sound x (by simp)
    generalize t x = L at *
    match L, h1 with
    | [], _ => simpa [wts] using h.bd.more
    | [p], _ =>
      have := h.bd.add p (h2 p (by simp))
      simpa [wts] using this
  · have h1 := h.w
    rw [List.flatMap_cons] at h1
    unfold wts at h1 ⊢
    rw [List.map_append, List.sum_append] at h1
    omega
end Go.Proofs.YtldhbjmillfjgabGreatDoor

namespace Go.Proofs.YtldhbjmillfjgabGreatDoor
set_option linter.unusedVariables false

/-- A first part, told apart. -/
theorem one_three {p : Pt} (h : oneP p) : (∃ u, u ≠ [] ∧ p = ⟨0, 0, u⟩) ∨ (∃ n : Nat, p = ⟨(n : Int) + 1, 0, []⟩) ∨ ∃ n : Nat, p = ⟨0, (n : Int) + 1, []⟩ := by
  rcases one_cases h with h | ⟨d, n, rfl⟩
  · exact .inl h
  · cases d with
    | true => exact .inr (.inr ⟨n, rfl⟩)
    | false => exact .inr (.inl ⟨n, rfl⟩)
end Go.Proofs.YtldhbjmillfjgabGreatDoor

namespace Go.Proofs.YtldhbjmillfjgabGreatDoor
set_option linter.unusedVariables false

/-- What a reading of parts must keep, that a least form is read alike. -/
structure ActP {X : Type} (act : X → Pt → X) : Prop where
  none : ∀ x, act x ⟨0, 0, []⟩ = x
  puts : ∀ x u v, act (act x ⟨0, 0, u⟩) ⟨0, 0, v⟩ = act x ⟨0, 0, u ++ v⟩
  drops : ∀ x (a b : Int), 0 ≤ a → 0 ≤ b → act (act x ⟨0, a, []⟩) ⟨0, b, []⟩ = act x ⟨0, a + b, []⟩
  keeps : ∀ x (a b : Int), 0 < a → 0 < b → act (act x ⟨a, 0, []⟩) ⟨b, 0, []⟩ = act x ⟨a + b, 0, []⟩
  split : ∀ x k d u, act x ⟨k, d, u⟩ = act (act (act x ⟨0, 0, u⟩) ⟨0, d, []⟩) ⟨k, 0, []⟩
  swap : ∀ x d u, act (act x ⟨0, d, []⟩) ⟨0, 0, u⟩ = act (act x ⟨0, 0, u⟩) ⟨0, d, []⟩
theorem act_tell {X : Type} {act : X → Pt → X} (h : ActP act) (s : NSt) (x : X) : (tellP s).foldl act x = act (act (s.out.foldl act x) ⟨0, 0, s.put⟩) ⟨0, s.drop, []⟩ := by
  unfold tellP
  rw [List.foldl_append, List.foldl_append]
  by_cases hp : s.put = [] <;> by_cases hd : s.drop = 0 <;> simp [hp, hd, h.none]
theorem act_push {X : Type} {act : X → Pt → X} (h : ActP act) (l : List Pt) (k : Int) (hk : 0 < k) (x : X) : (pushKeep l k).foldl act x = act (l.foldl act x) ⟨k, 0, []⟩ := by
  unfold pushKeep
  cases hq : l.getLast? with
  | none => simp
  | some q =>
    simp only
    split
    · rename_i hq0
      obtain ⟨init, rfl⟩ : ∃ init, l = init ++ [q] := List.getLast?_eq_some_iff.1 hq
      rw [List.dropLast_concat, List.foldl_append, List.foldl_append]
      simp only [List.foldl_cons, List.foldl_nil]
      rw [h.split _ (q.keep + k), h.split _ q.keep q.drop q.put, h.keeps _ _ _ hq0 hk]
    · simp
theorem act_add {X : Type} {act : X → Pt → X} (h : ActP act) (s : NSt) (p : Pt) (hs : 0 ≤ s.drop) (hk : 0 ≤ p.keep) (hd : 0 ≤ p.drop) (x : X) : (tellP (addP s p)).foldl act x = act ((tellP s).foldl act x) p := by
  have e1 : act ((tellP s).foldl act x) p = act (act (act (s.out.foldl act x) ⟨0, 0, s.put ++ p.put⟩) ⟨0, s.drop + p.drop, []⟩) ⟨p.keep, 0, []⟩ := by
    rw [act_tell h, h.split _ p.keep p.drop p.put, h.swap, h.puts, h.drops _ _ _ hs hd]
  rw [e1]
  unfold addP
  split
  · rename_i h0
    rw [act_tell h, h0, h.none]
  · rw [tellP_done, act_push h _ _ (by omega), act_tell h]
theorem ones_sound {ps : List Pt} (h : ∀ p ∈ ps, oneP p) : ∀ p ∈ ps, 0 ≤ p.keep ∧ 0 ≤ p.drop := by
  intro p hp
  rcases h p hp with ⟨h1, h2, h3⟩ | ⟨h1, h2, h3⟩ | ⟨h1, h2, h3⟩ <;> exact ⟨by omega, by omega⟩
end Go.Proofs.YtldhbjmillfjgabGreatDoor

namespace Go.Proofs.YtldhbjmillfjgabGreatDoor
open Go.RowKit
set_option linter.unusedVariables false

/-- An operation that may be, and is not too great. -/
structure fineP (ps : List Pt) : Prop where
  one : ∀ p ∈ ps, oneP p
  w : wts ps < 2000000
  len : ps.length < 10000000
end Go.Proofs.YtldhbjmillfjgabGreatDoor

namespace Go.Proofs.YtldhbjmillfjgabGreatDoor
set_option linter.unusedVariables false

/-- Bytes of whole runes. -/
def V (l : List UInt8) : Prop := ∃ rs : List Nat, (∀ r ∈ rs, isRune r) ∧ l = encs rs
theorem V_nil : V [] := ⟨[], by simp, rfl⟩
theorem V_append {a b : List UInt8} (ha : V a) (hb : V b) : V (a ++ b) := by
  obtain ⟨x, hx, rfl⟩ := ha
  obtain ⟨y, hy, rfl⟩ := hb
  exact ⟨x ++ y, fun r hr => (List.mem_append.1 hr).elim (hx r) (hy r), (encs_append x y).symm⟩
theorem V_scan {l : List UInt8} (h : V l) : (scan l).2 = true := by
  obtain ⟨x, hx, rfl⟩ := h
  rw [scan_encs x hx]
theorem V_of_scan {l : List UInt8} (h : (scan l).2 = true) : V l := ⟨runesOf l, fun r hr => runesOf_rune hr, (encs_runesOf h).symm⟩
theorem V_rest {a b : List UInt8} (ha : V a) (hab : V (a ++ b)) : V b := by
  obtain ⟨rs, hr, rfl⟩ := ha
  induction rs generalizing b with
  | nil => exact hab
  | cons r rs ih =>
    obtain ⟨qs, hq, e⟩ := hab
    rw [encs_cons, List.append_assoc] at e
    have h1 := dec_enc (hr r (by simp)) (encs rs ++ b)
    cases qs with
    | nil =>
      have := congrArg List.length e
      have h2 := List.length_pos_iff.2 (enc_ne r)
      have h3 : (encs []).length = 0 := rfl
      rw [List.length_append] at this
      omega
    | cons q qs =>
      rw [encs_cons] at e
      have h2 := dec_enc (hq q (by simp)) (encs qs)
      rw [← e, h1.1] at h2
      obtain ⟨h2, _⟩ := h2
      obtain rfl : r = q := congrArg Prod.fst h2
      exact ih (fun x hx => hr x (by simp [hx])) ⟨qs, fun x hx => hq x (by simp [hx]), List.append_cancel_left e⟩
theorem V_start {b : UInt8} {l : List UInt8} (h : V (b :: l)) : startO b = true := by
  obtain ⟨rs, hr, e⟩ := h
  cases rs with
  | nil => simp [encs] at e
  | cons r rs =>
    obtain ⟨b0, t, e2, h1, _⟩ := enc_starts (hr r (by simp))
    rw [encs_cons, e2, List.cons_append] at e
    have : b = b0 := (List.cons.inj e).1
    rw [this]; exact h1
/-- Puts whole runes, and ends nowhere within one. -/
def al : List Pt → List UInt8 → Prop
  | [], _ => True
  | p :: ps, t => V p.put ∧ V (t.take (lenP p).toNat) ∧ al ps (t.drop (lenP p).toNat)
structure good (ps : List Pt) (t : List UInt8) : Prop where
  one : ∀ p ∈ ps, oneP p
  long : longP ps = t.length
  al : al ps t

theorem long_cons (p : Pt) (ps : List Pt) : longP (p :: ps) = lenP p + longP ps := by simp [longP]
theorem one_len {p : Pt} (h : oneP p) : 0 ≤ lenP p := by
  rcases h with ⟨h1, h2, h3⟩ | ⟨h1, h2, h3⟩ | ⟨h1, h2, h3⟩ <;> simp only [lenP] <;> omega
theorem long_pos {ps : List Pt} (h : ∀ p ∈ ps, oneP p) : 0 ≤ longP ps := by
  induction ps with
  | nil => simp [longP]
  | cons p ps ih =>
    have h1 := ih fun q hq => h q (by simp [hq])
    have h2 := one_len (h p (by simp))
    rw [long_cons]; omega
theorem oneB_of {p : Pt} (h : oneP p) : oneB p = true := by
  unfold oneB
  obtain ⟨K, D, U⟩ := p
  rcases h with ⟨h1, h2, h3⟩ | ⟨h1, h2, h3⟩ | ⟨h1, h2, h3⟩
  · obtain rfl : D = 0 := h2
    obtain rfl : U = [] := h3
    simp; exact h1
  · obtain rfl : K = 0 := h1
    obtain rfl : U = [] := h3
    have h2 : 0 < D := h2
    have : D ≠ 0 := by omega
    simp [this]; exact h2
  · obtain rfl : K = 0 := h1
    obtain rfl : D = 0 := h2
    have h3 : U ≠ [] := h3
    simp [h3]
theorem chk_of {ps : List Pt} {n : Int} (h1 : ∀ p ∈ ps, oneP p) (h2 : ∀ p ∈ ps, V p.put) (h3 : longP ps = n) : chkE ps n = 0 := by
  have e1 : chk1 ps = 0 := by
    clear h3
    induction ps with
    | nil => rfl
    | cons p ps ih =>
      rw [chk1, if_pos (oneB_of (h1 p (by simp))), if_pos (V_scan (h2 p (by simp)))]
      exact ih (fun q hq => h1 q (by simp [hq])) fun q hq => h2 q (by simp [hq])
  unfold chkE
  rw [if_pos e1]
  clear e1 h2
  induction ps generalizing n with
  | nil => simp [longP] at h3; simp [chk2, ← h3]
  | cons p ps ih =>
    rw [long_cons] at h3
    have h4 := long_pos fun q hq => h1 q (List.mem_cons_of_mem _ hq)
    have h5 : p.keep + p.drop = lenP p := rfl
    rw [chk2, if_neg (by omega)]
    exact ih (fun q hq => h1 q (by simp [hq])) (by omega)
theorem al_puts : ∀ {ps : List Pt} {t : List UInt8}, al ps t → ∀ p ∈ ps, V p.put
  | [], _, _, p, hp => by cases hp
  | q :: ps, t, h, p, hp => by
    rcases List.mem_cons.1 hp with rfl | hp
    · exact h.1
    · exact al_puts h.2.2 p hp
theorem bad_of : ∀ {ps : List Pt} {t : List UInt8}, al ps t → badO ps t = false
  | [], _, _ => rfl
  | p :: ps, t, h => by
    rw [badO, bad_of h.2.2, Bool.or_false]
    have := h.2.1
    generalize t.take (lenP p).toNat = l at this
    cases l with
    | nil => rfl
    | cons b l => simp [badPiece, V_start this]
theorem good.chk {ps : List Pt} {t : List UInt8} (h : good ps t) : chkE ps (t.length : Int) = 0 := chk_of h.one (al_puts h.al) h.long
theorem good.ord {ps : List Pt} {t : List UInt8} (h : good ps t) : ordE ps t = 0 := by
  unfold ordE
  rw [if_pos h.chk, bad_of h.al]; rfl

theorem apply_cons (p : Pt) (ps : List Pt) (t : List UInt8) : applyP (p :: ps) t = madeP (p, t.take (lenP p).toNat) ++ applyP ps (t.drop (lenP p).toNat) := rfl
theorem apply_put (u : List UInt8) (ps : List Pt) (t : List UInt8) : applyP (⟨0, 0, u⟩ :: ps) t = u ++ applyP ps t := by
  simp [apply_cons, madeP, lenP]
theorem apply_keep (n : Int) (hn : 0 < n) (ps : List Pt) (t : List UInt8) : applyP (⟨n, 0, []⟩ :: ps) t = t.take n.toNat ++ applyP ps (t.drop n.toNat) := by
  simp [apply_cons, madeP, lenP, hn]
theorem apply_drop (n : Int) (ps : List Pt) (t : List UInt8) : applyP (⟨0, n, []⟩ :: ps) t = applyP ps (t.drop n.toNat) := by
  simp [apply_cons, madeP, lenP]

/-- What is made, and what is left. -/
def actA (x : List UInt8 × List UInt8) (p : Pt) : List UInt8 × List UInt8 := (x.1 ++ (p.put ++ (x.2.drop p.drop.toNat).take p.keep.toNat), (x.2.drop p.drop.toNat).drop p.keep.toNat)
theorem actA_ok : ActP actA := by
  constructor
  · intro x; simp [actA]
  · intro x u v; simp [actA]
  · intro x a b ha hb
    simp only [actA, Int.toNat_zero, List.take_zero, List.append_nil, List.drop_drop, Nat.add_zero]
    rw [show a.toNat + b.toNat = (a + b).toNat by omega]
  · intro x a b ha hb
    simp only [actA, List.nil_append, Int.toNat_zero, List.drop_zero, List.drop_drop, List.append_assoc]
    rw [show (a + b).toNat = a.toNat + b.toNat by omega, List.take_add]
    simp only [Nat.add_zero]
  · intro x k d u; simp [actA]
  · intro x d u; simp [actA]
theorem actA_apply : ∀ (ps : List Pt), (∀ p ∈ ps, oneP p) → ∀ (o t : List UInt8), ps.foldl actA (o, t) = (o ++ applyP ps t, t.drop (longP ps).toNat)
  | [], _, o, t => by simp [applyP, pcs, longP]
  | p :: ps, h, o, t => by
    have h0 := long_pos fun q hq => h q (List.mem_cons_of_mem _ hq)
    rw [List.foldl_cons, actA, actA_apply ps fun q hq => h q (by simp [hq])]
    rw [long_cons]
    rcases one_three (h p (by simp)) with ⟨u, hu, rfl⟩ | ⟨m, rfl⟩ | ⟨m, rfl⟩
    · rw [apply_put]; simp [lenP]
    · rw [apply_keep _ (by omega)]
      simp only [lenP, Int.toNat_zero, List.drop_zero, List.nil_append, List.append_assoc, List.drop_drop]
      rw [show ((m : Int) + 1 + 0 + longP ps).toNat = ((m : Int) + 1).toNat + (longP ps).toNat by omega]
    · rw [apply_drop]
      simp only [lenP, Int.toNat_zero, List.append_nil, List.take_zero, List.drop_drop, Nat.add_zero]
      rw [show (0 + ((m : Int) + 1) + longP ps).toNat = ((m : Int) + 1).toNat + (longP ps).toNat by omega]

/-- Each part begins, and ends, where one may. -/
def Cut (E : Int → Prop) : Int → List Pt → Prop
  | i, [] => E i
  | i, p :: ps => E i ∧ Cut E (i + lenP p) ps
theorem Cut_head {E : Int → Prop} {i : Int} {ps : List Pt} (h : Cut E i ps) : E i := by
  cases ps with
  | nil => exact h
  | cons p ps => exact h.1
theorem Cut_append (E : Int → Prop) : ∀ (a b : List Pt) (i : Int), Cut E i (a ++ b) ↔ Cut E i a ∧ Cut E (i + longP a) b
  | [], b, i => by
    simp only [List.nil_append, longP, List.map_nil, List.sum_nil, Int.add_zero]
    exact ⟨fun h => ⟨Cut_head h, h⟩, fun h => h.2⟩
  | p :: a, b, i => by
    rw [List.cons_append, long_cons, ← Int.add_assoc]
    show (E i ∧ Cut E (i + lenP p) (a ++ b)) ↔ (E i ∧ Cut E (i + lenP p) a) ∧ _
    rw [Cut_append E a b, and_assoc]
theorem Cut_end {E : Int → Prop} {i : Int} {ps : List Pt} (h : Cut E i ps) : E (i + longP ps) := by
  have := (Cut_append E ps [] i).1 (by rw [List.append_nil]; exact h)
  exact this.2
structure CutS (E : Int → Prop) (s : NSt) : Prop where
  out : Cut E 0 s.out
  here : E (longS s)
  puts : ∀ p ∈ s.out, V p.put
  put : V s.put
  one : OneS s
theorem cut_tell {E : Int → Prop} {s : NSt} (h : CutS E s) : Cut E 0 (tellP s) ∧ ∀ p ∈ tellP s, V p.put := by
  have h1 := Cut_end h.out
  rw [Int.zero_add] at h1
  have h2 := h.here
  unfold longS at h2
  unfold tellP
  refine ⟨(Cut_append ..).2 ⟨h.out, ?_⟩, ?_⟩
  · rw [Int.zero_add]
    have key : Cut E (longP s.out) (if s.drop = 0 then [] else [⟨0, s.drop, []⟩]) := by
      split
      · exact h1
      · refine ⟨h1, ?_⟩
        show E (longP s.out + (0 + s.drop))
        rw [Int.zero_add]; exact h2
    split
    · exact key
    · refine ⟨h1, ?_⟩
      show Cut E (longP s.out + (0 + 0)) _
      rw [Int.zero_add, Int.add_zero]; exact key
  · intro p hp
    rcases List.mem_append.1 hp with hp | hp
    · exact h.puts p hp
    · rcases List.mem_append.1 hp with hp | hp
      · split at hp
        · cases hp
        · rw [List.mem_singleton.1 hp]; exact h.put
      · split at hp
        · cases hp
        · rw [List.mem_singleton.1 hp]; exact V_nil
theorem cut_push {E : Int → Prop} {l : List Pt} {k : Int} (h : Cut E 0 l) (hk : E (longP l + k)) : Cut E 0 (pushKeep l k) := by
  have hnew : Cut E 0 (l ++ [⟨k, 0, []⟩]) := by
    refine (Cut_append ..).2 ⟨h, Cut_end h, ?_⟩
    show E (0 + longP l + (k + 0))
    rw [Int.zero_add, Int.add_zero]; exact hk
  unfold pushKeep
  cases hq : l.getLast? with
  | none => exact hnew
  | some q =>
    simp only
    split
    · obtain ⟨m, rfl⟩ := List.getLast?_eq_some_iff.1 hq
      obtain ⟨h1, h2⟩ := (Cut_append ..).1 h
      rw [List.dropLast_concat]
      refine (Cut_append ..).2 ⟨h1, h2.1, ?_⟩
      have e : longP (m ++ [q]) = longP m + lenP q := by simp [longP]
      rw [e] at hk
      show E (0 + longP m + (q.keep + k + q.drop))
      have : 0 + longP m + (q.keep + k + q.drop) = longP m + lenP q + k := by unfold lenP; omega
      rw [this]; exact hk
    · exact hnew
theorem push_puts {l : List Pt} {k : Int} (h : ∀ p ∈ l, V p.put) : ∀ p ∈ pushKeep l k, V p.put := by
  intro p hp
  unfold pushKeep at hp
  cases hq : l.getLast? with
  | none =>
    rw [hq] at hp
    simp only [List.mem_append, List.mem_singleton] at hp
    rcases hp with hp | rfl
    · exact h p hp
    · exact V_nil
  | some q =>
    rw [hq] at hp
    simp only at hp
    split at hp
    · simp only [List.mem_append, List.mem_singleton] at hp
      rcases hp with hp | rfl
      · exact h p (List.dropLast_subset l hp)
      · exact h q (List.mem_of_getLast? hq)
    · simp only [List.mem_append, List.mem_singleton] at hp
      rcases hp with hp | rfl
      · exact h p hp
      · exact V_nil
theorem cut_add {E : Int → Prop} {s : NSt} (h : CutS E s) (p : Pt) (hk : 0 ≤ p.keep) (hd : 0 ≤ p.drop) (h1 : p.keep = 0 ∨ (p.drop = 0 ∧ p.put = [])) (hv : V p.put) (he : E (longS s + lenP p)) : CutS E (addP s p) := by
  have hone := add_one h.one p hk hd
  have hlong := add_long s p
  refine ⟨?_, by rw [hlong]; exact he, ?_, ?_, hone⟩
  · unfold addP
    split
    · exact h.out
    · rename_i h0
      obtain ⟨e1, e2⟩ := h1.resolve_left h0
      rw [e1, e2, List.append_nil, Int.add_zero]
      have hk : E (longP (tellP s) + p.keep) := by
        rw [tell_long]
        unfold lenP at he
        rw [e1, Int.add_zero] at he
        exact he
      exact cut_push (cut_tell h).1 hk
  · unfold addP
    split
    · exact h.puts
    · rename_i h0
      obtain ⟨e1, e2⟩ := h1.resolve_left h0
      rw [e1, e2, List.append_nil, Int.add_zero]
      exact push_puts (cut_tell h).2
  · unfold addP
    split
    · exact V_append h.put hv
    · exact V_nil
theorem one_kind {p : Pt} (h : oneP p) : 0 ≤ p.keep ∧ 0 ≤ p.drop ∧ (p.keep = 0 ∨ (p.drop = 0 ∧ p.put = [])) := by
  rcases h with ⟨h1, h2, h3⟩ | ⟨h1, h2, h3⟩ | ⟨h1, h2, h3⟩
  · exact ⟨by omega, by omega, .inr ⟨h2, h3⟩⟩
  · exact ⟨by omega, by omega, .inl h1⟩
  · exact ⟨by omega, by omega, .inl h1⟩
/-- A place of a text between two runes. -/
def edgeV (T : List UInt8) (j : Int) : Prop := V (T.take j.toNat)
theorem cut_al {T : List UInt8} : ∀ {ps : List Pt} {i : Int}, 0 ≤ i → (∀ p ∈ ps, oneP p) → (∀ p ∈ ps, V p.put) → Cut (edgeV T) i ps → al ps (T.drop i.toNat)
  | [], i, _, _, _, _ => trivial
  | p :: ps, i, h0, h1, h2, hc => by
    have hl := one_len (h1 p (by simp))
    have e : (i + lenP p).toNat = i.toNat + (lenP p).toNat := by omega
    have h3 : V (T.take i.toNat) := hc.1
    have h4 : V (T.take (i + lenP p).toNat) := Cut_head hc.2
    rw [e, List.take_add] at h4
    refine ⟨h2 p (by simp), V_rest h3 h4, ?_⟩
    have := cut_al (by omega) (fun q hq => h1 q (by simp [hq])) (fun q hq => h2 q (by simp [hq])) hc.2
    rw [e, ← List.drop_drop] at this
    exact this
theorem good_of_cut {T : List UInt8} {s : NSt} (h : CutS (edgeV T) s) (hl : longS s = T.length) : good (tellP s) T := by
  refine ⟨tell_one h.one, by rw [tell_long]; exact hl, ?_⟩
  have := cut_al (i := 0) (by omega) (tell_one h.one) (cut_tell h).2 (cut_tell h).1
  exact this
end Go.Proofs.YtldhbjmillfjgabGreatDoor

namespace Go.Proofs.YtldhbjmillfjgabGreatDoor
set_option linter.unusedVariables false

/-- What was added so far: D of the text T is behind, R is ahead, o was made. -/
structure St (T D R o : List UInt8) (s : NSt) : Prop where
  cut : CutS (edgeV T) s
  eq : T = D ++ R
  here : V D
  long : longS s = D.length
  act : (tellP s).foldl actA ([], T) = (o, R)
theorem St.none {T D R o : List UInt8} {s : NSt} (h : St T D R o s) : St T D R (o ++ []) s := by rw [List.append_nil]; exact h
theorem St.put {T D R o : List UInt8} {s : NSt} (h : St T D R o s) {u : List UInt8} (hu : V u) : St T D R (o ++ u) (addP s ⟨0, 0, u⟩) := by
  have hl := add_long s ⟨0, 0, u⟩
  have e0 : lenP ⟨0, 0, u⟩ = 0 := rfl
  rw [e0, Int.add_zero] at hl
  refine ⟨cut_add h.cut _ (Int.le_refl _) (Int.le_refl _) (.inl rfl) hu ?_, h.eq, h.here, by rw [hl]; exact h.long, ?_⟩
  · rw [e0, Int.add_zero]; exact h.cut.here
  · rw [act_add actA_ok s _ h.cut.one.drop (Int.le_refl _) (Int.le_refl _), h.act]
    simp [actA]
theorem St.keep {T D R o x : List UInt8} {s : NSt} (h : St T D (x ++ R) o s) (hx : V x) : St T (D ++ x) R (o ++ x) (addP s ⟨x.length, 0, []⟩) := by
  have hl := add_long s ⟨x.length, 0, []⟩
  have e0 : lenP ⟨x.length, 0, []⟩ = x.length := by simp [lenP]
  rw [e0] at hl
  have h0 : (0 : Int) ≤ x.length := by omega
  refine ⟨cut_add h.cut _ h0 (Int.le_refl _) (.inr ⟨rfl, rfl⟩) V_nil ?_, by rw [List.append_assoc]; exact h.eq, V_append h.here hx, by rw [hl, h.long, List.length_append]; push_cast; rfl, ?_⟩
  · rw [e0, h.long]
    unfold edgeV
    rw [show ((D.length : Int) + x.length).toNat = (D ++ x).length by rw [List.length_append]; omega, h.eq, ← List.append_assoc, List.take_left']
    · exact V_append h.here hx
    · rfl
  · rw [act_add actA_ok s _ h.cut.one.drop h0 (Int.le_refl _), h.act]
    simp [actA]
theorem St.drop {T D R o x : List UInt8} {s : NSt} (h : St T D (x ++ R) o s) (hx : V x) : St T (D ++ x) R o (addP s ⟨0, x.length, []⟩) := by
  have hl := add_long s ⟨0, x.length, []⟩
  have e0 : lenP ⟨0, x.length, []⟩ = x.length := by simp [lenP]
  rw [e0] at hl
  have h0 : (0 : Int) ≤ x.length := by omega
  refine ⟨cut_add h.cut _ (Int.le_refl _) h0 (.inl rfl) V_nil ?_, by rw [List.append_assoc]; exact h.eq, V_append h.here hx, by rw [hl, h.long, List.length_append]; push_cast; rfl, ?_⟩
  · rw [e0, h.long]
    unfold edgeV
    rw [show ((D.length : Int) + x.length).toNat = (D ++ x).length by rw [List.length_append]; omega, h.eq, ← List.append_assoc, List.take_left']
    · exact V_append h.here hx
    · rfl
  · rw [act_add actA_ok s _ h.cut.one.drop (Int.le_refl _) h0, h.act]
    simp [actA]
theorem St.good {T o : List UInt8} {s : NSt} (h : St T T [] o s) : good (tellP s) T ∧ applyP (tellP s) T = o := by
  have hg := good_of_cut h.cut h.long
  refine ⟨hg, ?_⟩
  have e := h.act
  rw [actA_apply _ hg.one] at e
  simpa using congrArg Prod.fst e

theorem lenP_unit (d : Bool) (n : Nat) : lenP (unitK d n) = (n : Int) := by cases d <;> simp [lenP, unitK]
theorem put_unit (d : Bool) (n : Nat) : (unitK d n).put = [] := by cases d <;> rfl
theorem made_unit (d : Bool) (n : Nat) (x : List UInt8) : madeP (unitK d (n + 1), x) = if d then [] else x := by
  cases d <;> simp [madeP, unitK]
theorem apply_unit (d : Bool) (n : Nat) (ps : List Pt) (r : List UInt8) : applyP (unitK d (n + 1) :: ps) r = (if d then [] else r.take (n + 1)) ++ applyP ps (r.drop (n + 1)) := by
  rw [apply_cons, made_unit, lenP_unit]; rfl
/-- What is left behind a cut. -/
structure Left (X : List Pt) (r : List UInt8) : Prop where
  one : ∀ p ∈ X, oneP p
  long : longP X = r.length
  al : al X r
theorem Left.good {X : List Pt} {r : List UInt8} (h : Left X r) : good X r := ⟨h.one, h.long, h.al⟩
theorem left_cons {p : Pt} {ps : List Pt} {r : List UInt8} (h : Left (p :: ps) r) : Left ps (r.drop (lenP p).toNat) ∧ V p.put ∧ V (r.take (lenP p).toNat) ∧ (lenP p).toNat ≤ r.length := by
  have hl := h.long
  rw [long_cons] at hl
  have h0 := long_pos fun q hq => h.one q (List.mem_cons_of_mem _ hq)
  have h1 := one_len (h.one p (by simp))
  exact ⟨⟨fun q hq => h.one q (by simp [hq]), by rw [List.length_drop]; omega, h.al.2.2⟩, h.al.1, h.al.2.1, by omega⟩
end Go.Proofs.YtldhbjmillfjgabGreatDoor

namespace Go.Proofs.YtldhbjmillfjgabGreatDoor
set_option linter.unusedVariables false

def byZ (l : List UInt8) : List Int := l.map fun b => (b.toNat : Int)
/-- A text's runes in a unit. -/
def rowZ (u : Int) (rs : List Nat) : List Int := if u = 1 then byZ (encs rs) else if u = 2 then toI (hals rs) else toI rs
theorem rowZ_nil (u : Int) : rowZ u [] = [] := by
  unfold rowZ; split
  · rfl
  · split <;> rfl
theorem hals_app (a b : List Nat) : hals (a ++ b) = hals a ++ hals b := by simp [hals]
theorem rowZ_append (u : Int) (a b : List Nat) : rowZ u (a ++ b) = rowZ u a ++ rowZ u b := by
  unfold rowZ; split
  · rw [encs_append]; simp [byZ]
  · split
    · rw [hals_app, toI_append]
    · rw [toI_append]
theorem hals_C2 : ∀ (rs : List Nat), ((hals rs).length : Int) = C2 rs
  | [] => rfl
  | r :: rs => by
    have ih := hals_C2 rs
    rw [hals_cons, List.length_append]
    have e : C2 (r :: rs) = cH r + C2 rs := by simp [C2, sum2, wide]
    rw [e]
    have : ((hal r).length : Int) = cH r := by unfold hal cH; split <;> rfl
    omega
theorem rowZ_len {u : Int} (hu : unitOk u) (rs : List Nat) : ((rowZ u rs).length : Int) = by_ u rs := by
  unfold rowZ by_
  rcases hu with rfl | rfl | rfl
  · rw [if_pos rfl, if_pos rfl, C1_len]; simp [byZ]
  · rw [if_neg (by decide), if_pos rfl, if_neg (by decide), if_pos rfl, ← hals_C2]; simp [toI]
  · rw [if_neg (by decide), if_neg (by decide), if_neg (by decide), if_neg (by decide), if_pos rfl]; simp [toI, C3]
theorem byZ_inj : ∀ {a b : List UInt8}, byZ a = byZ b → a = b
  | [], [], _ => rfl
  | [], _ :: _, h => by simp [byZ] at h
  | _ :: _, [], h => by simp [byZ] at h
  | x :: a, y :: b, h => by
    simp only [byZ, List.map_cons, List.cons.injEq] at h
    have hx : x = y := by
      apply UInt8.toNat_inj.1
      omega
    rw [hx, byZ_inj (a := a) (b := b) h.2]
/-- The first rune of a row is told by the row. -/
theorem row_head {u : Int} (hu : unitOk u) {x y : Nat} (hx : isRune x) (hy : isRune y) {a b : List Int} (ha : u = 1 → ∃ l, a = byZ l) (hb : u = 1 → ∃ l, b = byZ l) (h : rowZ u [x] ++ a = rowZ u [y] ++ b) : x = y ∧ a = b := by
  have hxy : x = y := by
    rcases hu with rfl | rfl | rfl
    · obtain ⟨la, rfl⟩ := ha rfl
      obtain ⟨lb, rfl⟩ := hb rfl
      have e : ∀ (r : Nat) (l : List UInt8), rowZ 1 [r] ++ byZ l = byZ (enc r ++ l) := fun r l => by simp [rowZ, byZ, encs]
      rw [e, e] at h
      have h := byZ_inj h
      have h1 := (dec_enc hx la).1
      rw [h, (dec_enc hy lb).1] at h1
      exact (Prod.mk.inj h1).1.symm
    · have e : ∀ r : Nat, rowZ 2 [r] = toI (hal r) := fun r => by simp [rowZ, hals]
      rw [e, e] at h
      have h1 := lead_hal hx a
      rw [h, lead_hal hy b] at h1
      have := (Prod.mk.inj h1).1
      omega
    · have e : ∀ r : Nat, rowZ 3 [r] = [(r : Int)] := fun r => by simp [rowZ, toI]
      rw [e, e] at h
      simp only [List.cons_append, List.nil_append, List.cons.injEq] at h
      omega
  subst hxy
  exact ⟨rfl, List.append_cancel_left h⟩
theorem row_ne {u : Int} (hu : unitOk u) (r : Nat) : rowZ u [r] ≠ [] := fun e => by
  have h1 := rowZ_len hu [r]
  have h2 := by_one hu r
  rw [e] at h1
  simp at h1; omega
theorem row_bytes {u : Int} (hu : u = 1) (rs : List Nat) : ∃ l, rowZ u rs = byZ l := ⟨encs rs, by subst hu; rfl⟩
theorem row_cons (u : Int) (r : Nat) (rs : List Nat) : rowZ u (r :: rs) = rowZ u [r] ++ rowZ u rs := by
  rw [← rowZ_append]; rfl
/-- Runes whose row begins another row begin its runes. -/
theorem row_pre {u : Int} (hu : unitOk u) : ∀ (xs ys : List Nat) (t : List Int), (∀ r ∈ xs, isRune r) → (∀ r ∈ ys, isRune r) → (u = 1 → ∃ l, t = byZ l) → rowZ u xs ++ t = rowZ u ys → ∃ zs, ys = xs ++ zs ∧ t = rowZ u zs
  | [], ys, t, _, _, _, h => ⟨ys, rfl, by rw [rowZ_nil] at h; exact h⟩
  | x :: xs, [], t, _, _, _, h => by
    rw [row_cons, rowZ_nil, List.append_assoc] at h
    exact absurd (List.append_eq_nil_iff.1 h).1 (row_ne hu x)
  | x :: xs, y :: ys, t, hx, hy, ht, h => by
    rw [row_cons, row_cons u y, List.append_assoc] at h
    obtain ⟨rfl, h2⟩ := row_head hu (hx x (by simp)) (hy y (by simp)) (fun e => by
      obtain ⟨l, hl⟩ := ht e; obtain ⟨m, hm⟩ := row_bytes e xs
      exact ⟨m ++ l, by rw [hl, hm]; simp [byZ]⟩) (fun e => row_bytes e ys) h
    obtain ⟨zs, e1, e2⟩ := row_pre hu xs ys t (fun r hr => hx r (by simp [hr])) (fun r hr => hy r (by simp [hr])) ht h2
    exact ⟨zs, by rw [e1]; rfl, e2⟩

/-- What is behind a place. -/
def restZ (u : Int) (R : List Nat) (n : Int) : List Nat := R.drop (upTo R u n).length
theorem edge_at {u : Int} (hu : unitOk u) {R : List Nat} {n : Int} (h1 : n ≤ by_ u R) (he : onEdge R u n = true) : R = upTo R u n ++ restZ u R n ∧ by_ u (upTo R u n) = n := by
  obtain ⟨k, k1, k2, k3, _⟩ := (edge_first hu h1).1 he
  unfold restZ
  rw [k2, List.length_take, Nat.min_eq_left k1]
  exact ⟨(List.take_append_drop k R).symm, k3⟩
theorem edge_of {u : Int} (hu : unitOk u) {R X Y : List Nat} (h : R = X ++ Y) : onEdge R u (by_ u X) = true ∧ upTo R u (by_ u X) = X ∧ restZ u R (by_ u X) = Y := by
  have hle : by_ u X ≤ by_ u R := by rw [h, by_append]; have := by_pos u Y; omega
  have hx : R.take X.length = X := by rw [h, List.take_left' rfl]
  have he : onEdge R u (by_ u X) = true := by
    cases e : onEdge R u (by_ u X) with
    | true => rfl
    | false => exact absurd (by rw [hx]) ((edge_first hu hle).2 e X.length (by rw [h]; simp))
  obtain ⟨k, k1, k2, k3, _⟩ := (edge_first hu hle).1 he
  have hk : k = X.length := by
    have hXl : X.length ≤ R.length := by rw [h]; simp
    rcases Nat.lt_trichotomy k X.length with hlt | rfl | hlt
    · have := by_mono hu R k X.length hlt hXl
      rw [hx, k3] at this; omega
    · rfl
    · have := by_mono hu R X.length k hlt k1
      rw [hx, k3] at this; omega
  subst hk
  refine ⟨he, by rw [k2, hx], ?_⟩
  unfold restZ
  rw [k2, hx, h, List.drop_left' rfl]
theorem piece_row {u : Int} (hu : unitOk u) {R : List Nat} {n : Int} (h0 : 0 ≤ n) (h1 : n ≤ by_ u R) (he : onEdge R u n = true) :
    (rowZ u R).take n.toNat = rowZ u (upTo R u n) ∧ (rowZ u R).drop n.toNat = rowZ u (restZ u R n) := by
  obtain ⟨e1, e2⟩ := edge_at hu h1 he
  have hl : n.toNat = (rowZ u (upTo R u n)).length := by have := rowZ_len hu (upTo R u n); omega
  have e3 : rowZ u R = rowZ u (upTo R u n) ++ rowZ u (restZ u R n) := by
    rw [← rowZ_append]; exact congrArg _ e1
  rw [e3, hl]
  exact ⟨List.take_left' rfl, List.drop_left' rfl⟩
theorem piece_bad {u : Int} (hu : unitOk u) {R : List Nat} (hR : ∀ r ∈ R, isRune r) {n : Int} (h0 : 0 ≤ n) (h1 : n ≤ by_ u R) (he : onEdge R u n = false) (xs : List Nat) (hx : ∀ r ∈ xs, isRune r) : (rowZ u R).take n.toNat ≠ rowZ u xs := by
  intro e
  have hlen := rowZ_len hu R
  have h2 : rowZ u xs ++ (rowZ u R).drop n.toNat = rowZ u R := by rw [← e, List.take_append_drop]
  obtain ⟨zs, e1, _⟩ := row_pre hu xs R _ hx hR (fun e => by subst e; exact ⟨(encs R).drop n.toNat, by simp [rowZ, byZ]⟩) h2
  have hl : by_ u xs = n := by
    rw [← rowZ_len hu, ← e, List.length_take]; omega
  have := (edge_of hu e1).1
  rw [hl, he] at this
  cases this

/-- Whether all parts end between two runes; the parts in another unit; what comes. -/
def okZ (u : Int) : List Nat → List Pt → Bool
  | _, [] => true
  | R, q :: qs => onEdge R u (lenP q) && okZ u (restZ u R (lenP q)) qs
def inZ (u v : Int) : List Nat → List Pt → List Pt
  | _, [] => []
  | R, q :: qs => unit1 (by_ v (upTo R u (lenP q))) q :: inZ u v (restZ u R (lenP q)) qs
def comesZ (u : Int) : List Nat → List Pt → List Nat
  | _, [] => []
  | R, q :: qs => ((if 0 < q.keep then upTo R u (lenP q) else []) ++ runesOf q.put) ++ comesZ u (restZ u R (lenP q)) qs

theorem shift_edge {u : Int} (hu : unitOk u) (pre R : List Nat) (n : Int) (h0 : 0 ≤ n) (h1 : n ≤ by_ u R) :
    onEdge (pre ++ R) u (by_ u pre + n) = onEdge R u n ∧ (onEdge R u n = true → upTo (pre ++ R) u (by_ u pre + n) = pre ++ upTo R u n) := by
  have key : onEdge R u n = true → onEdge (pre ++ R) u (by_ u pre + n) = true ∧ upTo (pre ++ R) u (by_ u pre + n) = pre ++ upTo R u n := fun he => by
    obtain ⟨e1, e2⟩ := edge_at hu h1 he
    have e3 : pre ++ R = (pre ++ upTo R u n) ++ restZ u R n := by rw [List.append_assoc, ← e1]
    have := edge_of hu e3
    rw [by_append, e2] at this
    exact ⟨this.1, this.2.1⟩
  refine ⟨?_, fun he => (key he).2⟩
  cases he : onEdge R u n with
  | true => exact (key he).1
  | false =>
    cases e : onEdge (pre ++ R) u (by_ u pre + n) with
    | false => rfl
    | true =>
      exfalso
      have hle : by_ u pre + n ≤ by_ u (pre ++ R) := by rw [by_append]; omega
      obtain ⟨k, k1, k2, k3, _⟩ := (edge_first hu hle).1 e
      have hk : pre.length ≤ k := by
        by_cases h : pre.length ≤ k
        · exact h
        · have := by_mono hu (pre ++ R) k pre.length (by omega) (by simp)
          rw [k3, List.take_left' rfl] at this; omega
      have e4 : (pre ++ R).take k = pre ++ R.take (k - pre.length) := by
        rw [List.take_append, List.take_of_length_le hk]
      rw [e4, by_append] at k3
      exact (edge_first hu h1).2 he (k - pre.length) (by rw [List.length_append] at k1; omega) (by omega)

theorem turn_inZ {u : Int} (hu : unitOk u) (v : Int) : ∀ (qs : List Pt) (pre R : List Nat), (∀ q ∈ qs, 0 ≤ lenP q) → longP qs ≤ by_ u R →
    (turnZ (pre ++ R) u v (by_ u pre) qs).2 = okZ u R qs ∧ (okZ u R qs = true → (turnZ (pre ++ R) u v (by_ u pre) qs).1 = inZ u v R qs)
  | [], _, _, _, _ => ⟨rfl, fun _ => rfl⟩
  | q :: qs, pre, R, h, hl => by
    have h0 := h q (by simp)
    have h3 : ∀ x ∈ qs, 0 ≤ lenP x := fun x hx => h x (by simp [hx])
    have hp := sum_pos h3
    have hl2 : longP (q :: qs) = lenP q + longP qs := by simp [longP]
    rw [hl2] at hl
    obtain ⟨s1, s2⟩ := shift_edge hu pre R (lenP q) h0 (by omega)
    obtain ⟨t1, t2⟩ := shift_edge hu pre R 0 (Int.le_refl _) (by_pos u R)
    have hz : upTo R u 0 = [] := upTo_zero R u
    have hz2 : onEdge R u 0 = true := by unfold onEdge; rw [hz, by_nil]; rfl
    have t2 := t2 hz2
    rw [Int.add_zero, hz, List.append_nil] at t2
    have hunf : turnZ (pre ++ R) u v (by_ u pre) (q :: qs) = if onEdge (pre ++ R) u (by_ u pre + lenP q) then
      (unit1 (by_ v (upTo (pre ++ R) u (by_ u pre + lenP q)) - by_ v (upTo (pre ++ R) u (by_ u pre))) q :: (turnZ (pre ++ R) u v (by_ u pre + lenP q) qs).1, (turnZ (pre ++ R) u v (by_ u pre + lenP q) qs).2)
      else ([], false) := rfl
    have hoz : okZ u R (q :: qs) = (onEdge R u (lenP q) && okZ u (restZ u R (lenP q)) qs) := rfl
    rw [hunf, hoz, s1]
    cases he : onEdge R u (lenP q) with
    | false => exact ⟨rfl, fun h => by cases h⟩
    | true =>
      obtain ⟨e1, e2⟩ := edge_at hu (by omega) he
      have hR : pre ++ R = (pre ++ upTo R u (lenP q)) ++ restZ u R (lenP q) := by rw [List.append_assoc, ← e1]
      have hby : by_ u pre + lenP q = by_ u (pre ++ upTo R u (lenP q)) := by rw [by_append, e2]
      have hle : longP qs ≤ by_ u (restZ u R (lenP q)) := by
        have : by_ u R = by_ u (upTo R u (lenP q)) + by_ u (restZ u R (lenP q)) := by rw [← by_append]; exact congrArg _ e1
        omega
      obtain ⟨i1, i2⟩ := turn_inZ hu v qs (pre ++ upTo R u (lenP q)) (restZ u R (lenP q)) h3 hle
      rw [if_pos rfl, s2 he, t2, hby, Bool.true_and]
      rw [← hR] at i1 i2
      refine ⟨i1, fun ho => ?_⟩
      have ev : by_ v (pre ++ upTo R u (lenP q)) - by_ v pre = by_ v (upTo R u (lenP q)) := by rw [by_append]; omega
      rw [i2 ho, ev]
      rfl
/-- The parts in another unit, and whether there are such. -/
theorem turn_in {u : Int} (hu : unitOk u) (v : Int) (qs : List Pt) (R : List Nat) (h : ∀ q ∈ qs, 0 ≤ lenP q) (hl : longP qs ≤ by_ u R) :
    turnX R u v qs = (if okZ u R qs then 0 else 10) ∧ turnO R u v qs = if okZ u R qs then inZ u v R qs else [] := by
  obtain ⟨h1, h2⟩ := turn_inZ hu v qs [] R h hl
  rw [List.nil_append, by_nil] at h1 h2
  unfold turnX turnO
  rw [h1]
  refine ⟨rfl, ?_⟩
  split
  · rename_i ho; exact h2 ho
  · rfl
theorem rest_rune {u : Int} {R : List Nat} {n : Int} (h : ∀ r ∈ R, isRune r) : ∀ r ∈ restZ u R n, isRune r := fun r hr => h r (List.mem_of_mem_drop hr)
theorem upTo_rune {u : Int} (hu : unitOk u) {R : List Nat} {n : Int} (hn : n ≤ by_ u R) (h : ∀ r ∈ R, isRune r) : ∀ r ∈ upTo R u n, isRune r := fun r hr => by
  obtain ⟨k, _, h2, _⟩ := upTo_least R u n hn
  rw [h2] at hr
  exact h r (List.mem_of_mem_take hr)
theorem comes_rune {u : Int} (hu : unitOk u) : ∀ (qs : List Pt) (R : List Nat), (∀ q ∈ qs, 0 ≤ lenP q) → longP qs ≤ by_ u R → okZ u R qs = true → (∀ r ∈ R, isRune r) → ∀ r ∈ comesZ u R qs, isRune r
  | [], R, _, _, _, _, r, hr => by cases hr
  | q :: qs, R, h, hl, ho, hR, r, hr => by
    have h3 : ∀ x ∈ qs, 0 ≤ lenP x := fun x hx => h x (by simp [hx])
    have hp := sum_pos h3
    have h0 := h q (by simp)
    have hl2 : longP (q :: qs) = lenP q + longP qs := by simp [longP]
    rw [hl2] at hl
    have ho : (onEdge R u (lenP q) && okZ u (restZ u R (lenP q)) qs) = true := ho
    rw [Bool.and_eq_true] at ho
    obtain ⟨e1, e2⟩ := edge_at hu (by omega) ho.1
    have hle : longP qs ≤ by_ u (restZ u R (lenP q)) := by
      have : by_ u R = by_ u (upTo R u (lenP q)) + by_ u (restZ u R (lenP q)) := by rw [← by_append]; exact congrArg _ e1
      omega
    have hr : r ∈ ((if 0 < q.keep then upTo R u (lenP q) else []) ++ runesOf q.put) ++ comesZ u (restZ u R (lenP q)) qs := hr
    rcases List.mem_append.1 hr with hr | hr
    · rcases List.mem_append.1 hr with hr | hr
      · split at hr
        · exact upTo_rune hu (by omega) hR r hr
        · cases hr
      · exact runesOf_rune hr
    · exact comes_rune hu qs _ h3 hle ho.2 (rest_rune hR) r hr

theorem unit_len {q : Pt} (h : oneB q = true) (n : Int) (hn : lenP q = 0 → n = 0) : lenP (unit1 n q) = n := by
  unfold unit1
  rcases oneB_shapes h with ⟨h1, h2, h3⟩ | ⟨h1, h2, h3⟩ | ⟨h1, h2, h3⟩
  · rw [if_pos h1]; simp [lenP]
  · rw [if_neg (by omega), if_pos h2]; simp [lenP]
  · rw [if_neg (by omega), if_neg (by omega)]
    rw [hn (by unfold lenP; omega)]; simp [lenP]
theorem unit_one {q : Pt} (h : oneB q = true) {n : Int} (hn : 0 < lenP q → 0 < n) : oneP (unit1 n q) := by
  unfold unit1
  rcases oneB_shapes h with ⟨h1, h2, h3⟩ | ⟨h1, h2, h3⟩ | ⟨h1, h2, h3⟩
  · rw [if_pos h1]; exact .inl ⟨hn (by unfold lenP; omega), rfl, rfl⟩
  · rw [if_neg (by omega), if_pos h2]; exact .inr (.inl ⟨rfl, hn (by unfold lenP; omega), rfl⟩)
  · rw [if_neg (by omega), if_neg (by omega)]; exact .inr (.inr ⟨rfl, rfl, h3⟩)
theorem unit_put {q : Pt} (h : oneB q = true) (n : Int) : (unit1 n q).put = q.put := by
  unfold unit1
  rcases oneB_shapes h with ⟨h1, h2, h3⟩ | ⟨h1, h2, h3⟩ | ⟨h1, h2, h3⟩
  · rw [if_pos h1, h3]
  · rw [if_neg (by omega), if_pos h2, h3]
  · rw [if_neg (by omega), if_neg (by omega)]
theorem unit_keep {q : Pt} (h : oneB q = true) {n : Int} (hn : 0 < lenP q → 0 < n) : (0 < (unit1 n q).keep) ↔ 0 < q.keep := by
  unfold unit1
  rcases oneB_shapes h with ⟨h1, h2, h3⟩ | ⟨h1, h2, h3⟩ | ⟨h1, h2, h3⟩
  · rw [if_pos h1]; exact ⟨fun _ => h1, fun _ => hn (by unfold lenP; omega)⟩
  · rw [if_neg (by omega), if_pos h2]; exact ⟨fun h => absurd h (Int.lt_irrefl 0), fun h => by omega⟩
  · rw [if_neg (by omega), if_neg (by omega)]; exact ⟨fun h => absurd h (Int.lt_irrefl 0), fun h => by omega⟩
/-- So many of one unit are some of any. -/
theorem by_pos_of {u v : Int} (hu : unitOk u) (hv : unitOk v) {X : List Nat} (h : 0 < by_ u X) : 0 < by_ v X := by
  cases X with
  | nil => rw [by_nil] at h; omega
  | cons r X =>
    have e : r :: X = [r] ++ X := rfl
    rw [e, by_append]
    have := by_one hv r; have := by_pos v X; omega
theorem by_zero_of {u : Int} (hu : unitOk u) {X : List Nat} (h : by_ u X = 0) : X = [] := by
  cases X with
  | nil => rfl
  | cons r X =>
    have e : r :: X = [r] ++ X := rfl
    rw [e, by_append] at h
    have := by_one hu r; have := by_pos u X; omega
/-- What comes in bytes is what the operation in bytes makes; and it fits. -/
theorem in_left {u : Int} (hu : unitOk u) : ∀ (qs : List Pt) (R : List Nat), (∀ q ∈ qs, oneB q = true ∧ (scan q.put).2 = true) → longP qs = by_ u R → (∀ r ∈ R, isRune r) → okZ u R qs = true →
    Left (inZ u 1 R qs) (encs R) ∧ applyP (inZ u 1 R qs) (encs R) = encs (comesZ u R qs)
  | [], R, _, hl, _, _ => by
    have : R = [] := by_zero_of hu (by rw [← hl]; simp [longP])
    subst this
    exact ⟨⟨by simp [inZ], by simp [inZ, longP, encs], trivial⟩, rfl⟩
  | q :: qs, R, h, hl, hr, ho => by
    have hq := h q (by simp)
    have hs := (one_sound hq.1).1
    have hl2 : longP (q :: qs) = lenP q + longP qs := by simp [longP]
    have hp3 : ∀ x ∈ qs, 0 ≤ lenP x := fun x hx => by
      have := (one_sound (h x (by simp [hx])).1).1
      unfold soundP at this; unfold lenP; omega
    have hp := sum_pos hp3
    have hq0 : 0 ≤ lenP q := by unfold soundP at hs; unfold lenP; omega
    rw [hl2] at hl
    have ho : (onEdge R u (lenP q) && okZ u (restZ u R (lenP q)) qs) = true := ho
    rw [Bool.and_eq_true] at ho
    obtain ⟨e1, e2⟩ := edge_at hu (by omega) ho.1
    have hby : by_ u R = by_ u (upTo R u (lenP q)) + by_ u (restZ u R (lenP q)) := by rw [← by_append]; exact congrArg _ e1
    obtain ⟨il, ia⟩ := in_left hu qs (restZ u R (lenP q)) (fun x hx => h x (by simp [hx])) (by omega) (rest_rune hr) ho.2
    have hur := upTo_rune (n := lenP q) hu (by omega) hr
    have hX : encs R = encs (upTo R u (lenP q)) ++ encs (restZ u R (lenP q)) := by rw [← encs_append]; exact congrArg _ e1
    have hunf : inZ u 1 R (q :: qs) = unit1 (by_ 1 (upTo R u (lenP q))) q :: inZ u 1 (restZ u R (lenP q)) qs := rfl
    have hc : comesZ u R (q :: qs) = ((if 0 < q.keep then upTo R u (lenP q) else []) ++ runesOf q.put) ++ comesZ u (restZ u R (lenP q)) qs := rfl
    have h1 : by_ 1 (upTo R u (lenP q)) = (encs (upTo R u (lenP q))).length := by unfold by_; rw [if_pos rfl, C1_len]
    have hz0 : lenP q = 0 → by_ 1 (upTo R u (lenP q)) = 0 := fun e => by rw [by_zero_of hu (e2.trans e), by_nil]
    have hzp : 0 < lenP q → 0 < by_ 1 (upTo R u (lenP q)) := fun e => by_pos_of hu (.inl rfl) (by omega)
    have hul := unit_len hq.1 _ hz0
    rw [hunf, hc, hX]
    have hto : (lenP (unit1 (by_ 1 (upTo R u (lenP q))) q)).toNat = (encs (upTo R u (lenP q))).length := by rw [hul, h1]; simp
    have htake : (encs (upTo R u (lenP q)) ++ encs (restZ u R (lenP q))).take (lenP (unit1 (by_ 1 (upTo R u (lenP q))) q)).toNat = encs (upTo R u (lenP q)) := by rw [hto, List.take_left' rfl]
    have hdrop : (encs (upTo R u (lenP q)) ++ encs (restZ u R (lenP q))).drop (lenP (unit1 (by_ 1 (upTo R u (lenP q))) q)).toNat = encs (restZ u R (lenP q)) := by rw [hto, List.drop_left' rfl]
    refine ⟨⟨?_, ?_, ?_⟩, ?_⟩
    · intro p hp
      rcases List.mem_cons.1 hp with rfl | hp
      · exact unit_one hq.1 hzp
      · exact il.one p hp
    · rw [long_cons, il.long, hul, h1, List.length_append]; omega
    · refine ⟨?_, ?_, ?_⟩
      · rw [unit_put hq.1]; exact V_of_scan hq.2
      · rw [htake]; exact ⟨_, hur, rfl⟩
      · rw [hdrop]; exact il.al
    · rw [apply_cons, htake, hdrop, ia, encs_append, encs_append]
      congr 1
      unfold madeP
      have hk := unit_keep hq.1 hzp
      rw [unit_put hq.1, encs_runesOf hq.2]
      congr 1
      by_cases hkk : 0 < q.keep
      · rw [if_pos hkk, if_pos (hk.2 hkk)]
      · rw [if_neg hkk, if_neg (fun e => hkk (hk.1 e))]; rfl
/-- There and back it is itself. -/
theorem in_back {u : Int} (hu : unitOk u) : ∀ (qs : List Pt) (R : List Nat), (∀ q ∈ qs, oneB q = true) → longP qs = by_ u R → okZ u R qs = true →
    okZ 1 R (inZ u 1 R qs) = true ∧ inZ 1 u R (inZ u 1 R qs) = qs
  | [], R, _, _, _ => ⟨rfl, rfl⟩
  | q :: qs, R, h, hl, ho => by
    have hq := h q (by simp)
    have hs := (one_sound hq).1
    have hl2 : longP (q :: qs) = lenP q + longP qs := by simp [longP]
    have hp3 : ∀ x ∈ qs, 0 ≤ lenP x := fun x hx => by
      have := (one_sound (h x (by simp [hx]))).1
      unfold soundP at this; unfold lenP; omega
    have hp := sum_pos hp3
    have hq0 : 0 ≤ lenP q := by unfold soundP at hs; unfold lenP; omega
    rw [hl2] at hl
    have ho : (onEdge R u (lenP q) && okZ u (restZ u R (lenP q)) qs) = true := ho
    rw [Bool.and_eq_true] at ho
    obtain ⟨e1, e2⟩ := edge_at hu (by omega) ho.1
    have hby : by_ u R = by_ u (upTo R u (lenP q)) + by_ u (restZ u R (lenP q)) := by rw [← by_append]; exact congrArg _ e1
    obtain ⟨i1, i2⟩ := in_back hu qs (restZ u R (lenP q)) (fun x hx => h x (by simp [hx])) (by omega) ho.2
    have hz0 : lenP q = 0 → by_ 1 (upTo R u (lenP q)) = 0 := fun e => by rw [by_zero_of hu (e2.trans e), by_nil]
    have hzp : 0 < lenP q → 0 < by_ 1 (upTo R u (lenP q)) := fun e => by_pos_of hu (.inl rfl) (by omega)
    have hul := unit_len hq _ hz0
    obtain ⟨f1, f2, f3⟩ := edge_of (u := 1) (.inl rfl) e1
    have hunf : inZ u 1 R (q :: qs) = unit1 (by_ 1 (upTo R u (lenP q))) q :: inZ u 1 (restZ u R (lenP q)) qs := rfl
    rw [hunf]
    constructor
    · show (onEdge R 1 (lenP (unit1 _ q)) && okZ 1 (restZ 1 R (lenP (unit1 _ q))) _) = true
      rw [hul, f1, f3, i1]; rfl
    · show unit1 (by_ u (upTo R 1 (lenP (unit1 _ q)))) (unit1 _ q) :: inZ 1 u (restZ 1 R (lenP (unit1 _ q))) _ = q :: qs
      rw [hul, f2, f3, i2, e2]
      congr 1
      obtain ⟨K, D, U⟩ := q
      unfold unit1
      rcases oneB_shapes hq with ⟨h1, h2, h3⟩ | ⟨h1, h2, h3⟩ | ⟨h1, h2, h3⟩
      · have h1 : 0 < K := h1
        obtain rfl : D = 0 := h2
        obtain rfl : U = [] := h3
        have hpos : 0 < by_ 1 (upTo R u (lenP ⟨K, 0, []⟩)) := hzp (by show 0 < K + 0; omega)
        simp only [h1, if_true, hpos]
        simp [lenP]
      · obtain rfl : K = 0 := h1
        have h2 : 0 < D := h2
        obtain rfl : U = [] := h3
        have hpos : 0 < by_ 1 (upTo R u (lenP ⟨0, D, []⟩)) := hzp (by show 0 < 0 + D; omega)
        simp only [Int.lt_irrefl, if_false, h2, if_true, hpos]
        simp [lenP]
      · obtain rfl : K = 0 := h1
        obtain rfl : D = 0 := h2
        simp
end Go.Proofs.YtldhbjmillfjgabGreatDoor

namespace Go.Proofs.YtldhbjmillfjgabGreatDoor
open Go.RowKit
set_option linter.unusedVariables false

def sl (w : World) (k : IntKind) (p : Option Addr) (n c : Nat) (zs : List Int) : Prop :=
  n = zs.length ∧ ((p = none ∧ c = 0 ∧ zs = []) ∨ ∃ b o, p = some ⟨b, o, none⟩ ∧ zs.length ≤ c ∧ c ≤ maxLen ∧ b < w.heap.size ∧ ∀ i z, zs[i]? = some z → w.cell? ⟨b, o + i, none⟩ = some (.int k z))
theorem sl_below {w w' : World} {k : IntKind} {p : Option Addr} {n c : Nat} {zs : List Int} (h : sl w k p n c zs) {B : Nat} (hb : Below B w w') (hB : w.heap.size ≤ B) : sl w' k p n c zs := by
  obtain ⟨h0, h⟩ := h
  refine ⟨h0, ?_⟩
  rcases h with h | ⟨b, o, h1, h2, h3, h4, h5⟩
  · exact .inl h
  · exact .inr ⟨b, o, h1, h2, h3, Nat.lt_of_lt_of_le h4 hb.size, fun i z hi => (hb.cell (p := ⟨b, o + i, none⟩) (Nat.lt_of_lt_of_le h4 hB)).trans (h5 i z hi)⟩
theorem sl_grown {w w' : World} {k : IntKind} {p : Option Addr} {n c : Nat} {zs : List Int} (h : sl w k p n c zs) (hb : Below w.heap.size w w') : sl w' k p n c zs := sl_below h hb (Nat.le_refl _)
theorem sl_reads {w : World} {k : IntKind} {p : Option Addr} {n c : Nat} {zs : List Int} (h : sl w k p n c zs) : reads w k (.slice p n c) zs := by
  obtain ⟨rfl, h⟩ := h
  rcases h with ⟨rfl, rfl, rfl⟩ | ⟨b, o, h1, h2, h3, h4, h5⟩
  · exact ⟨none, 0, rfl, Nat.le_refl _, Nat.zero_le _, fun h => absurd rfl h⟩
  · exact ⟨p, c, rfl, h2, h3, fun _ => ⟨b, o, h1, h4, fun i hi => h5 i _ (by rw [List.getD_eq_getElem?_getD, List.getElem?_eq_getElem hi]; rfl)⟩⟩
theorem sl_own {w : World} {B e : Nat} {k : IntKind} {v : Value} {zs : List Int} {xs : List Value} (hx : xs = zs.map (Value.int k)) (h : w.ownsRow B e 1 v zs.length xs) : ∃ p c, v = .slice p zs.length c ∧ sl w k p zs.length c zs := by
  subst hx
  obtain ⟨h0, hrow⟩ := h
  rcases hrow with ⟨rfl, h2⟩ | ⟨g, cap, cur, rfl, h2, h3, h4, h5, h6, h7⟩
  · obtain rfl : zs = [] := List.eq_nil_of_length_eq_zero h2
    exact ⟨none, 0, rfl, rfl, .inl ⟨rfl, rfl, rfl⟩⟩
  · refine ⟨_, cap, rfl, rfl, .inr ⟨g, 0, rfl, h4, h5, (Array.getElem?_eq_some_iff.1 h3).1, fun i z hi => ?_⟩⟩
    have hil : i < zs.length := (List.getElem?_eq_some_iff.1 hi).1
    rw [Nat.mul_one] at h7
    have hc : cur[i]? = some (.int k z) := by
      rw [← Array.getElem?_toList]
      have := congrArg (·[i]?) h7
      simp only [List.getElem?_take, hil, if_true, List.getElem?_map] at this
      rw [this, hi]
      rfl
    rw [Nat.zero_add]
    show w.cell? ⟨g, i, none⟩ = _
    unfold World.cell?
    simp [h3, hc]
theorem sl_head {w : World} {k : IntKind} {p : Option Addr} {n c m : Nat} {zs : List Int} (h : sl w k p n c zs) (hm : m ≤ n) : sl w k p m c (zs.take m) := by
  obtain ⟨rfl, h⟩ := h
  refine ⟨by rw [List.length_take]; omega, ?_⟩
  rcases h with ⟨h1, h2, rfl⟩ | ⟨b, o, h1, h2, h3, h4, h5⟩
  · exact .inl ⟨h1, h2, by simp⟩
  · refine .inr ⟨b, o, h1, by rw [List.length_take]; omega, h3, h4, fun i z hi => h5 i z ?_⟩
    rw [List.getElem?_take] at hi
    split at hi
    · exact hi
    · cases hi
theorem sl_tail {w : World} {k : IntKind} {b o n c m : Nat} {zs : List Int} (h : sl w k (some ⟨b, o, none⟩) n c zs) (hm : m ≤ n) : sl w k (some ⟨b, o + m, none⟩) (n - m) (c - m) (zs.drop m) := by
  obtain ⟨rfl, h⟩ := h
  refine ⟨by rw [List.length_drop], ?_⟩
  rcases h with ⟨h1, _⟩ | ⟨b', o', h1, h2, h3, h4, h5⟩
  · cases h1
  · obtain ⟨rfl, rfl, _⟩ : b = b' ∧ o = o' ∧ True := by injection h1 with h1; injection h1 with h1 h2; exact ⟨h1, h2, trivial⟩
    refine .inr ⟨b, o + m, rfl, by rw [List.length_drop]; omega, by omega, h4, fun i z hi => ?_⟩
    rw [List.getElem?_drop] at hi
    have := h5 (m + i) z hi
    rw [Nat.add_assoc]; exact this
/-- The tail from the end of what there is room for: the address stays. -/
theorem sl_last {w : World} {k : IntKind} {b o n c m : Nat} {zs : List Int} (h : sl w k (some ⟨b, o, none⟩) n c zs) (hm : m ≤ n) (hc : c = m) : sl w k (some ⟨b, o, none⟩) 0 0 (zs.drop m) := by
  obtain ⟨rfl, h⟩ := h
  rcases h with ⟨h1, _⟩ | ⟨b', o', h1, h2, h3, h4, h5⟩
  · cases h1
  · obtain ⟨rfl, rfl, _⟩ : b = b' ∧ o = o' ∧ True := by injection h1 with h1; injection h1 with h1 h2; exact ⟨h1, h2, trivial⟩
    have e : zs.drop m = [] := List.drop_eq_nil_of_le (by omega)
    rw [e]
    exact ⟨rfl, .inr ⟨b, o, rfl, Nat.le_refl _, Nat.zero_le _, h4, fun i z hi => by cases hi⟩⟩
/-- The tail as the walk writes it. -/
theorem sl_cut {w : World} {k : IntKind} {p : Option Addr} {n c m : Nat} {zs : List Int} (h : sl w k p n c zs) (hm : m ≤ n) : sl w k (if c = m then p else Option.map (fun x => x.add m) p) (n - m) (c - m) (zs.drop m) := by
  cases p with
  | none =>
    obtain ⟨rfl, h⟩ := h
    rcases h with ⟨_, rfl, rfl⟩ | ⟨_, _, h1, _⟩
    · have : m = 0 := by simpa using hm
      subst this
      exact ⟨rfl, .inl ⟨by simp, rfl, rfl⟩⟩
    · cases h1
  | some a =>
    have h0 := h
    obtain ⟨rfl, h⟩ := h
    rcases h with ⟨h1, _⟩ | ⟨b, o, h1, h2, _⟩
    · cases h1
    · obtain rfl : a = ⟨b, o, none⟩ := Option.some.inj h1
      by_cases hc : c = m
      · rw [if_pos hc]
        have e1 : zs.length - m = 0 := by omega
        have e2 : c - m = 0 := by omega
        rw [e1, e2]
        exact sl_last h0 hm hc
      · rw [if_neg hc]
        have := sl_tail h0 hm
        simpa [Addr.add_lit] using this
theorem sl_cap {w : World} {k : IntKind} {p : Option Addr} {n c : Nat} {zs : List Int} (h : sl w k p n c zs) : n ≤ c ∧ c ≤ maxLen ∧ n = zs.length := by
  obtain ⟨rfl, h⟩ := h
  rcases h with ⟨h1, rfl, rfl⟩ | ⟨b, o, h1, h2, h3, _⟩
  · exact ⟨Nat.le_refl _, Nat.zero_le _, rfl⟩
  · exact ⟨h2, h3, rfl⟩
theorem grown_refl (w : World) (row : Option Nat) : w.grownBy w row := ⟨rfl, rfl, rfl, Nat.le_refl _, fun _ _ _ => rfl⟩

theorem wpList_append_sl {P : Program} (w : World) {ops : Array Oper} {rest : List Oper} {o : Oper} {a : Act} {Q : Exit → Act → World → Prop} (hgd : o.guard = none) (s x : Operand) (t : TypeId)
    (ho : o.op = .call { callee := .builtin .append, args := #[s, x], argTypes := #[t, t] })
    (base : Nat) (e : TypeId) (i : TypeInfo) (z : Value) (bytes : Nat) (ht : P.underlying t = some (.slice e)) (hi : P.info? e = some i) (hz : i.zero = some z)
    (hsize : i.size = 1) (hby : i.bytes = bytes) (hzs : z.cells.size = 1)
    (v : Value) (n : Nat) (xs : List Value) (hs : a.eval s = v) (hown : w.ownsRow base e 1 v n xs)
    (k : IntKind) (p : Option Addr) (m c : Nat) (zs : List Int) (hx : a.eval x = .slice p m c) (hsl : sl w k p m c zs)
    (h63 : n + m ≤ maxLen) (hbytes : (n + m) * bytes ≤ 140737488355328) (hbase : base ≤ w.heap.size)
    (h : ∀ v' w', w'.ownsRow base e 1 v' (n + m) (xs ++ zs.map (Value.int k)) → w.grownBy w' v.ownBlock → wpList P ops Q rest (a.put o.dst v') w') : wpList P ops Q (o :: rest) a w := by
  obtain ⟨rfl, hsl⟩ := hsl
  rcases hsl with ⟨rfl, rfl, rfl⟩ | ⟨b, o', rfl, h2, h3, h4, h5⟩
  · exact wpList_append_own_none hgd s x t ho base e i 1 ht hi v n xs hs hown hx (h v w (by simpa using hown) (grown_refl _ _))
  · exact wpList_append_own w hgd s x t ho base e i z 1 bytes ht hi hz hsize hby hzs (by decide) v n xs hs hown ⟨b, o', none⟩ zs.length c (zs.map (Value.int k)) hx (by simp) (fun j u hj => by
      rw [List.getElem?_map] at hj
      cases hz' : zs[j]? with
      | none => rw [hz'] at hj; cases hj
      | some z' =>
        rw [hz'] at hj
        obtain rfl : Value.int k z' = u := Option.some.inj hj
        rw [Addr.add_lit]; exact h5 j z' hz') (fun u hu => by
      obtain ⟨y, _, rfl⟩ := List.mem_map.1 hu
      rfl) h63 hbytes hbase fun v' w' g1 g2 _ => h v' w' g1 g2

/-- 'string(b)' of bytes that are read. -/
theorem string_sl {w : World} {p : Option Addr} {n c : Nat} {l : List UInt8} (h : sl w .u8 p n c (l.map fun b => (b.toNat : Int))) : (convert 130 9 (.slice p n c)).run Tryz.prog w = .ok (.string ⟨l.toArray⟩) w := by
  obtain ⟨rfl, h⟩ := h
  rw [List.length_map]
  rcases h with ⟨rfl, rfl, e⟩ | ⟨b, o, rfl, h2, h3, h4, h5⟩
  · obtain rfl : l = [] := List.map_eq_nil_iff.1 e
    kernel_rfl
  · refine run_convert_bytes_back w 130 9 5 ⟨b, o, none⟩ c l Tryz.underlying130 Tryz.underlying5 Tryz.underlying9 fun j hj => ?_
    rw [Addr.add_lit]
    exact h5 j _ (by rw [List.getElem?_map, List.getElem?_eq_getElem hj]; rfl)
end Go.Proofs.YtldhbjmillfjgabGreatDoor

namespace Go.Proofs.YtldhbjmillfjgabGreatDoor
open Go.RowKit
set_option linter.unusedVariables false
attribute [local go_sem] Oper.semAt_some

def atV (b : Nat) : Value := .iface 233 (.pointer (some ⟨b, 0, none⟩))
theorem row1 (X : List Nat) : rowZ 1 X = (encs X).map fun b => (b.toNat : Int) := rfl
theorem row2 (X : List Nat) : rowZ 2 X = toI (hals X) := rfl
theorem row3 (X : List Nat) : rowZ 3 X = toI X := rfl
theorem encs_small {X : List Nat} (h : C1 X ≤ 1000000) : (encs X).length ≤ 1000000 ∧ X.length ≤ 1000000 ∧ (hals X).length ≤ 2000000 := by
  have h1 := C1_len X
  have h2 := encs_len X
  have h3 := (hals_len X).1
  omega
theorem text1_good (X : List Nat) (hX : ∀ r ∈ X, isRune r) (hz : C1 X ≤ 1000000) (p : Option Addr) (n c : Nat) (w : World) (hT : Lib.Utf8Tabs 2 3 w) (h : sl w .u8 p n c (rowZ 1 X)) :
    Calls Tryz.prog 70 #[.slice p n c] w fun e w' => e = .returned (.tuple #[.string (bytesOf X), .nilIface]) ∧ Below w.heap.size w w' := by
  have hconv := string_sl (l := encs X) h
  obtain ⟨e1, _, _⟩ := encs_small hz
  have hsc : (scan (encs X)).2 = true := by rw [scan_encs X hX]
  have cC : Hid (Calls Tryz.prog 59 #[.string ⟨(encs X).toArray⟩] w fun e w' => ∃ n1 n2 n3 n4, e = .returned (.tuple #[.agg #[.int .i64 n1, .int .i64 n2, .int .i64 n3, .int .i64 n4], .nilIface]) ∧ Below w.heap.size w w') :=
    (Count_any ⟨(encs X).toArray⟩ (by simp [ByteArray.size]; omega) w hT).mono fun e w' ⟨v, x, h1, h2, h3⟩ => by
      rcases h3 with ⟨_, rfl, rfl⟩ | ⟨h4, _⟩
      · exact ⟨_, _, _, _, h1, h2⟩
      · rw [show (ByteArray.mk (encs X).toArray).data.toList = encs X from rfl, hsc] at h4; cases h4
  have eb : bytesOf X = ⟨(encs X).toArray⟩ := rfl
  rw [eb]
  generalize ByteArray.mk (encs X).toArray = S at *
  clear hT h hX hz hsc e1 eb
  go_enter Tryz.func70, Tryz.ntmps70
  go_wp2_with (first
    | (go_at_call 59; refine Calls.mono cC.out ?_; rintro e w1 ⟨n1, n2, n3, n4, rfl, hb1⟩)
    | fail)
  go_ret2
  exact ⟨rfl, hb1.alloc hb1.size _⟩
theorem take_bytes (R : List Nat) (m : Nat) : (rowZ 1 R).take m = ((encs R).take m).map fun b => (b.toNat : Int) := by rw [row1, List.map_take]
theorem text1_bad (R : List Nat) (m : Nat) (hbad : ∀ X, (∀ r ∈ X, isRune r) → (rowZ 1 R).take m ≠ rowZ 1 X) (hz : C1 R ≤ 1000000) (p : Option Addr) (n c : Nat) (w : World) (hT : Lib.Utf8Tabs 2 3 w) (h : sl w .u8 p n c ((rowZ 1 R).take m)) :
    Calls Tryz.prog 70 #[.slice p n c] w fun e w' => ∃ s bx, e = .returned (.tuple #[.string s, atV bx]) ∧ Below w.heap.size w w' := by
  obtain ⟨L, hL⟩ : ∃ L, (encs R).take m = L := ⟨_, rfl⟩
  have e0 := take_bytes R m
  rw [hL] at e0
  rw [e0] at h hbad
  have hconv := string_sl (l := L) h
  obtain ⟨e1, _, _⟩ := encs_small hz
  have hLl : L.length ≤ 1000000 := by rw [← hL, List.length_take]; omega
  have hsc : (scan L).2 = false := by
    cases e : (scan L).2 with
    | false => rfl
    | true => exact absurd (by rw [row1, encs_runesOf e]) (hbad (runesOf L) fun r hr => runesOf_rune hr)
  have cC : Hid (Calls Tryz.prog 59 #[.string ⟨L.toArray⟩] w fun e w' => ∃ bx, e = .returned (.tuple #[.agg #[.int .i64 0, .int .i64 0, .int .i64 0, .int .i64 0], .iface 233 (.pointer (some ⟨bx, 0, none⟩))]) ∧ Below w.heap.size w w') :=
    (Count_any ⟨L.toArray⟩ (by simp [ByteArray.size]; omega) w hT).mono fun e w' ⟨v, x, h1, h2, h3⟩ => by
      rcases h3 with ⟨h4, _⟩ | ⟨_, rfl, bx, rfl, _⟩
      · rw [show (ByteArray.mk L.toArray).data.toList = L from rfl, hsc] at h4; cases h4
      · exact ⟨bx, h1, h2⟩
  generalize ByteArray.mk L.toArray = S at *
  unfold atV
  clear hT h hbad hz hsc e1 e0 hL hLl
  go_enter Tryz.func70, Tryz.ntmps70
  go_wp2_with (first
    | (go_at_call 59; refine Calls.mono cC.out ?_; rintro e w1 ⟨bx, rfl, hb1⟩)
    | fail)
  go_ret2
  exact ⟨_, _, rfl, hb1.alloc hb1.size _⟩
theorem text2_good (X : List Nat) (hX : ∀ r ∈ X, isRune r) (hz : C1 X ≤ 1000000) (p : Option Addr) (n c : Nat) (w : World) (hT : Lib.Utf8Tabs 2 3 w) (h : sl w .u16 p n c (rowZ 2 X)) :
    Calls Tryz.prog 73 #[.slice p n c] w fun e w' => e = .returned (.tuple #[.string (bytesOf X), .nilIface]) ∧ Below w.heap.size w w' := by
  obtain ⟨_, _, e3⟩ := encs_small hz
  refine (FromHalves_any (.slice p n c) (toI (hals X)) w (hals_bd hX) (sl_reads h) (by simp [toI]; omega)).mono fun e w' ⟨s, x, h1, h2, h3⟩ => ?_
  have hsc := scanH_hals X hX
  rcases h3 with ⟨_, rfl, rfl⟩ | ⟨h4, _⟩
  · rw [hsc] at h1
    have e5 : ((X.map fun r : Nat => ((r : Int), (hal r).length)).map (·.1)) = toI X := by simp [toI, Function.comp_def]
    rw [e5, encZ_toI] at h1
    exact ⟨h1, h2⟩
  · rw [hsc] at h4; cases h4
theorem text2_bad (R : List Nat) (m : Nat) (hR : ∀ r ∈ R, isRune r) (hbad : ∀ X, (∀ r ∈ X, isRune r) → (rowZ 2 R).take m ≠ rowZ 2 X) (hz : C1 R ≤ 1000000) (p : Option Addr) (n c : Nat) (w : World) (hT : Lib.Utf8Tabs 2 3 w) (h : sl w .u16 p n c ((rowZ 2 R).take m)) :
    Calls Tryz.prog 73 #[.slice p n c] w fun e w' => ∃ s bx, e = .returned (.tuple #[.string s, atV bx]) ∧ Below w.heap.size w w' := by
  obtain ⟨_, _, e3⟩ := encs_small hz
  have hb : ∀ z ∈ (rowZ 2 R).take m, 0 ≤ z ∧ z < 65536 := fun z hz => hals_bd hR z (List.mem_of_mem_take hz)
  have hl : ((rowZ 2 R).take m).length ≤ 2000000 := by
    rw [List.length_take, row2]
    have : (toI (hals R)).length = (hals R).length := by simp [toI]
    omega
  refine (FromHalves_any (.slice p n c) ((rowZ 2 R).take m) w hb (sl_reads h) (by omega)).mono fun e w' ⟨s, x, h1, h2, h3⟩ => ?_
  rcases h3 with ⟨h4, _, _⟩ | ⟨_, _, bx, rfl, _⟩
  · obtain ⟨rs, _, r2, r3⟩ := hals_scanH _ _ (Nat.le_refl _) hb h4
    exact absurd r3 (hbad rs r2)
  · exact ⟨s, bx, h1, h2⟩
theorem text3_good (X : List Nat) (hX : ∀ r ∈ X, isRune r) (hz : C1 X ≤ 1000000) (p : Option Addr) (n c : Nat) (w : World) (hT : Lib.Utf8Tabs 2 3 w) (h : sl w .i32 p n c (rowZ 3 X)) :
    Calls Tryz.prog 77 #[.slice p n c] w fun e w' => e = .returned (.tuple #[.string (bytesOf X), .nilIface]) ∧ Below w.heap.size w w' := by
  obtain ⟨_, e2, _⟩ := encs_small hz
  refine (Text_any (.slice p n c) (toI X) w (toI_bd hX) (sl_reads h) (by simp [toI]; omega)).mono fun e w' ⟨s, x, h1, h2, h3⟩ => ?_
  rcases h3 with ⟨_, rfl, rfl⟩ | ⟨k, k1, _, k3, _⟩
  · rw [encZ_toI] at h1
    exact ⟨h1, h2⟩
  · have := valid_toI hX ((toI X).getD k 0) (by rw [List.getD_eq_getElem?_getD, List.getElem?_eq_getElem k1]; exact List.getElem_mem _)
    rw [this] at k3; cases k3
theorem text3_bad (R : List Nat) (m : Nat) (hR : ∀ r ∈ R, isRune r) (hbad : ∀ X, (∀ r ∈ X, isRune r) → (rowZ 3 R).take m ≠ rowZ 3 X) : False :=
  hbad (R.take m) (fun r hr => hR r (List.mem_of_mem_take hr)) (by rw [row3, row3]; simp [toI, List.map_take])

theorem bytes_below (w : World) (e : TypeId) (s : ByteArray) : Below w.heap.size w (Lib.bytesWorld w e s) :=
  ⟨rfl, rfl, rfl, by rw [Lib.bytesWorld_size]; omega, fun k hk => Lib.bytesWorld_at_old w e s k hk⟩
theorem put1_any (U : List UInt8) (hU : (scan U).2 = true) (hl : U.length ≤ 1000000) (w : World) :
    Calls Tryz.prog 71 #[.string ⟨U.toArray⟩] w fun e w' => ∃ p n c, e = .returned (.slice p n c) ∧ sl w' .u8 p n c (rowZ 1 (runesOf U)) ∧ Below w.heap.size w w' := by
  have hconv := Lib.run_convert_string_bytes (P := Tryz.prog) w 9 130 5 ⟨U.toArray⟩ (u := .string) Tryz.underlying9 Tryz.underlying130 Tryz.underlying5
  have hz : (ByteArray.mk U.toArray).size = U.length := by simp [ByteArray.size]
  have hsl : sl (Lib.bytesWorld w 5 ⟨U.toArray⟩) .u8 (some ⟨w.heap.size, 0, none⟩) (ByteArray.mk U.toArray).size (grownCap w (ByteArray.mk U.toArray).size 0 5) (rowZ 1 (runesOf U)) := by
    rw [row1, encs_runesOf hU]
    refine ⟨by rw [hz, List.length_map], .inr ⟨w.heap.size, 0, rfl, ?_, ?_, ?_, fun i z hi => ?_⟩⟩
    · rw [List.length_map, ← hz]; exact grownCap_ge _ _ _ _
    · exact grownCap_le_maxLen _ _ _ _ (by rw [hz]; unfold maxLen; omega)
    · rw [Lib.bytesWorld_size]; omega
    · have hil : i < U.length := by have := (List.getElem?_eq_some_iff.1 hi).1; rwa [List.length_map] at this
      rw [Nat.zero_add, Lib.bytesWorld_cell _ _ _ _ (by rw [hz]; exact hil)]
      rw [List.getElem?_map, List.getElem?_eq_getElem hil] at hi
      have := Option.some.inj hi
      rw [← this, List.getD_eq_getElem?_getD]
      simp [hil]
  have hbl := bytes_below w 5 ⟨U.toArray⟩
  have HSL : Hid _ := hsl
  have HBL : Hid _ := hbl
  generalize Lib.bytesWorld w 5 ⟨U.toArray⟩ = W at *
  clear hsl hbl
  go_enter Tryz.func71, Tryz.ntmps71
  go_wp2
  go_ret
  exact ⟨_, _, _, rfl, HSL.out, HBL.out⟩
theorem put2_any (U : List UInt8) (hU : (scan U).2 = true) (hl : U.length ≤ 1000000) (w : World) (hT : Lib.Utf8Tabs 2 3 w) :
    Calls Tryz.prog 74 #[.string ⟨U.toArray⟩] w fun e w' => ∃ p n c, e = .returned (.slice p n c) ∧ sl w' .u16 p n c (rowZ 2 (runesOf U)) ∧ Below w.heap.size w w' := by
  have cC : Hid (Calls Tryz.prog 75 #[.string ⟨U.toArray⟩] w fun e w' => ∃ p n c, e = .returned (.tuple #[.slice p n c, .nilIface]) ∧ sl w' .u16 p n c (rowZ 2 (runesOf U)) ∧ Below w.heap.size w w') :=
    (Halves_any ⟨U.toArray⟩ (by simp [ByteArray.size]; omega) w hT).mono fun e w' ⟨v, x, h1, h2, h3⟩ => by
      rcases h3 with ⟨_, rfl, p, c, h4, h5⟩ | ⟨h4, _⟩
      · have e0 : (ByteArray.mk U.toArray).data.toList = U := rfl
        have e1 := cells59_eq U
        rw [e0] at h4 h5
        have hlen : (cellsOf59 (scan U).1).length = (rowZ 2 (runesOf U)).length := by rw [e1, row2, List.length_map]
        rw [hlen] at h4 h5
        obtain ⟨p', c', q1, q2⟩ := sl_own e1 h5
        exact ⟨p', _, c', by rw [h1, q1], q2, h2⟩
      · rw [show (ByteArray.mk U.toArray).data.toList = U from rfl, hU] at h4; cases h4
  clear hT hU hl
  go_enter Tryz.func74, Tryz.ntmps74
  go_wp2_with (first
    | (go_at_call 75; refine Calls.mono cC.out ?_; rintro e w1 ⟨p, n, c, rfl, hs1, hb1⟩; have HS1 : Hid _ := hs1; clear hs1)
    | fail)
  go_ret
  exact ⟨_, _, _, rfl, HS1.out, hb1⟩
theorem put3_any (U : List UInt8) (hU : (scan U).2 = true) (hl : U.length ≤ 1000000) (w : World) (hT : Lib.Utf8Tabs 2 3 w) :
    Calls Tryz.prog 78 #[.string ⟨U.toArray⟩] w fun e w' => ∃ p n c, e = .returned (.slice p n c) ∧ sl w' .i32 p n c (rowZ 3 (runesOf U)) ∧ Below w.heap.size w w' := by
  have cC : Hid (Calls Tryz.prog 79 #[.string ⟨U.toArray⟩] w fun e w' => ∃ p n c, e = .returned (.tuple #[.slice p n c, .nilIface]) ∧ sl w' .i32 p n c (rowZ 3 (runesOf U)) ∧ Below w.heap.size w w') :=
    (Runes_any ⟨U.toArray⟩ (by simp [ByteArray.size]; omega) w hT).mono fun e w' ⟨v, x, h1, h2, h3⟩ => by
      rcases h3 with ⟨_, rfl, p, c, h4, h5⟩ | ⟨h4, _⟩
      · have e0 : (ByteArray.mk U.toArray).data.toList = U := rfl
        have e1 := cells21_eq U
        rw [e0] at h4 h5
        have hlen : (cellsOf21 (scan U).1).length = (rowZ 3 (runesOf U)).length := by rw [e1, row3, List.length_map]
        rw [hlen] at h4 h5
        obtain ⟨p', c', q1, q2⟩ := sl_own e1 h5
        exact ⟨p', _, c', by rw [h1, q1], q2, h2⟩
      · rw [show (ByteArray.mk U.toArray).data.toList = U from rfl, hU] at h4; cases h4
  clear hT hU hl
  go_enter Tryz.func78, Tryz.ntmps78
  go_wp2_with (first
    | (go_at_call 79; refine Calls.mono cC.out ?_; rintro e w1 ⟨p, n, c, rfl, hs1, hb1⟩; have HS1 : Hid _ := hs1; clear hs1)
    | fail)
  go_ret
  exact ⟨_, _, _, rfl, HS1.out, hb1⟩
end Go.Proofs.YtldhbjmillfjgabGreatDoor

namespace Go.Proofs.YtldhbjmillfjgabGreatDoor
open Go.RowKit
set_option linter.unusedVariables false

def szV (u : Int) (R : List Nat) (qs : List Pt) : Int := if okZ u R qs then C1 (comesZ u R qs) else 0
def szE (u : Int) (R : List Nat) (qs : List Pt) : Int := if okZ u R qs then 0 else 10
def szI (w : World) (u : Int) (k : IntKind) (R : List Nat) (qs : List Pt) (x : Nat) (v8 v9 : Value) (wr : World) : Prop :=
  ∃ (S : Int) (p : Option Addr) (n c : Nat) (R' : List Nat), v8 = .int .i64 S ∧ v9 = .slice p n c ∧ sl wr k p n c (rowZ u R') ∧ (∀ r ∈ R', isRune r) ∧ longP (qs.drop x) = by_ u R' ∧
    okZ u R qs = okZ u R' (qs.drop x) ∧ (okZ u R qs = true → S + C1 (comesZ u R' (qs.drop x)) = C1 (comesZ u R qs)) ∧ 0 ≤ S ∧ S ≤ 2000000 * (x : Int) ∧ C1 R' ≤ 1000000 ∧ x ≤ qs.length ∧ Below w.heap.size w wr
theorem szI_start {w : World} {u : Int} {k : IntKind} {R : List Nat} {qs : List Pt} {p : Option Addr} {n c : Nat} (hz : C1 R ≤ 1000000) (hsl : sl w k p n c (rowZ u R)) (hR : ∀ r ∈ R, isRune r) (hl : longP qs = by_ u R) : szI w u k R qs 0 (.int .i64 0) (.slice p n c) w :=
  ⟨0, p, n, c, R, rfl, rfl, hsl, hR, hl, rfl, fun _ => Int.zero_add _, Int.le_refl _, Int.le_refl _, hz, Nat.zero_le _, Below.refl _ _⟩
/-- What is known of a part at its place. -/
structure szStep (u : Int) (R' : List Nat) (q : Pt) (qs' : List Pt) (n : Nat) : Prop where
  k0 : 0 ≤ q.keep
  d0 : 0 ≤ q.drop
  le : q.keep + q.drop ≤ (n : Int)
  len : (n : Int) = by_ u R'
  one : oneB q = true ∧ (scan q.put).2 = true
  long : lenP q + longP qs' = by_ u R'
  rest : 0 ≤ longP qs'
theorem sz_step {w : World} {u : Int} {k : IntKind} {R' : List Nat} {qs : List Pt} {q : Pt} {x : Nat} {p : Option Addr} {n c : Nat} (hu : unitOk u) (hd : qs.drop x = q :: qs.drop (x + 1)) (hq : oneB q = true ∧ (scan q.put).2 = true) (hrest : ∀ y ∈ qs.drop (x + 1), oneB y = true ∧ (scan y.put).2 = true)
    (hsl : sl w k p n c (rowZ u R')) (hR : ∀ r ∈ R', isRune r) (hl : longP (qs.drop x) = by_ u R') (hz : C1 R' ≤ 1000000) : szStep u R' q (qs.drop (x + 1)) n := by
  have hs := (one_sound hq.1).1
  have hp := sum_pos (l := qs.drop (x + 1)) fun y hy => by
    have := (one_sound (hrest y hy).1).1
    unfold soundP at this; unfold lenP; omega
  have hlen : (n : Int) = by_ u R' := by rw [hsl.1, rowZ_len hu]
  have hl2 : longP (q :: qs.drop (x + 1)) = lenP q + longP (qs.drop (x + 1)) := by simp [longP]
  rw [hd, hl2] at hl
  refine ⟨hs.1, hs.2, ?_, hlen, hq, hl, hp⟩
  have : lenP q = q.keep + q.drop := rfl
  omega
theorem C1_part {A B : List Nat} {R : List Nat} (h : R = A ++ B) : C1 A ≤ C1 R ∧ C1 B ≤ C1 R := by
  rw [h, C1_append]
  have := C1_pos A; have := C1_pos B
  omega
theorem szStep_good {u : Int} {R' : List Nat} {K D : Int} {U : List UInt8} {qs' : List Pt} {n : Nat} (hu : unitOk u) (h : szStep u R' ⟨K, D, U⟩ qs' n) (hR : ∀ r ∈ R', isRune r) (hz : C1 R' ≤ 1000000) (he : onEdge R' u (K + D) = true) :
    (rowZ u R').take (K + D).toNat = rowZ u (upTo R' u (K + D)) ∧ C1 (upTo R' u (K + D)) ≤ 1000000 ∧ (∀ r ∈ upTo R' u (K + D), isRune r) ∧
    ((rowZ u R').drop (K + D).toNat = rowZ u (restZ u R' (K + D)) ∧ (∀ r ∈ restZ u R' (K + D), isRune r) ∧ longP qs' = by_ u (restZ u R' (K + D)) ∧ C1 (restZ u R' (K + D)) ≤ 1000000 ∧
      okZ u R' (⟨K, D, U⟩ :: qs') = okZ u (restZ u R' (K + D)) qs' ∧ C1 (comesZ u R' (⟨K, D, U⟩ :: qs')) = ((if 0 < K then C1 (upTo R' u (K + D)) else 0) + (U.length : Int)) + C1 (comesZ u (restZ u R' (K + D)) qs')) := by
  have hl : lenP ⟨K, D, U⟩ = K + D := rfl
  have h0 : 0 ≤ K + D := by have := h.k0; have := h.d0; simp only at *; omega
  have hle : K + D ≤ by_ u R' := by have := h.le; have := h.len; simp only at *; omega
  obtain ⟨e1, e2⟩ := edge_at hu hle he
  obtain ⟨e3, e4⟩ := piece_row hu h0 hle he
  have hc := C1_part e1
  have hby : by_ u R' = by_ u (upTo R' u (K + D)) + by_ u (restZ u R' (K + D)) := by rw [← by_append]; exact congrArg _ e1
  have hlong := h.long
  rw [hl] at hlong
  refine ⟨e3, by omega, upTo_rune hu hle hR, e4, rest_rune hR, by omega, by omega, ?_, ?_⟩
  · show (onEdge R' u (lenP ⟨K, D, U⟩) && okZ u (restZ u R' (lenP ⟨K, D, U⟩)) qs') = _
    rw [hl, he]; rfl
  · show C1 (((if 0 < K then upTo R' u (lenP ⟨K, D, U⟩) else []) ++ runesOf U) ++ comesZ u (restZ u R' (lenP ⟨K, D, U⟩)) qs') = _
    rw [hl, C1_append, C1_append]
    have e5 : C1 (runesOf U) = (U.length : Int) := by rw [C1_len, encs_runesOf h.one.2]
    rw [e5]
    split
    · rfl
    · rfl
theorem szStep_bad {u : Int} {R' : List Nat} {K D : Int} {U : List UInt8} {qs' : List Pt} {n : Nat} (hu : unitOk u) (h : szStep u R' ⟨K, D, U⟩ qs' n) (hR : ∀ r ∈ R', isRune r) (he : onEdge R' u (K + D) = false) :
    ∀ X, (∀ r ∈ X, isRune r) → (rowZ u R').take (K + D).toNat ≠ rowZ u X :=
  piece_bad hu hR (by have := h.k0; have := h.d0; simp only at *; omega) (by have := h.le; have := h.len; simp only at *; omega) he
theorem sz_bad {u : Int} {R : List Nat} {qs : List Pt} (h : okZ u R qs = false) : szV u R qs = 0 ∧ szE u R qs = 10 := by
  unfold szV szE
  rw [h]
  exact ⟨rfl, rfl⟩
theorem sz_good {u : Int} {R R' : List Nat} {qs : List Pt} {S : Int} (h : okZ u R qs = okZ u R' []) (hc : okZ u R qs = true → S + C1 (comesZ u R' []) = C1 (comesZ u R qs)) : szV u R qs = S ∧ szE u R qs = 0 := by
  have h1 : okZ u R qs = true := h
  have h2 := hc h1
  unfold szV szE
  rw [h1, if_pos rfl, if_pos rfl]
  have e : C1 (comesZ u R' []) = 0 := rfl
  exact ⟨by omega, rfl⟩
/-- A part is done. -/
theorem szI_next {w wn : World} {u : Int} {k : IntKind} {R R' R2 : List Nat} {qs : List Pt} {x : Nat} {K D S A : Int} {U : List UInt8} {p : Option Addr} {n c : Nat}
    (hx : x < qs.length) (hok : okZ u R qs = okZ u R' (⟨K, D, U⟩ :: qs.drop (x + 1))) (hcome : okZ u R qs = true → S + C1 (comesZ u R' (⟨K, D, U⟩ :: qs.drop (x + 1))) = C1 (comesZ u R qs))
    (hs : (∀ r ∈ R2, isRune r) ∧ longP (qs.drop (x + 1)) = by_ u R2 ∧ C1 R2 ≤ 1000000 ∧ okZ u R' (⟨K, D, U⟩ :: qs.drop (x + 1)) = okZ u R2 (qs.drop (x + 1)) ∧ C1 (comesZ u R' (⟨K, D, U⟩ :: qs.drop (x + 1))) = (A + (U.length : Int)) + C1 (comesZ u R2 (qs.drop (x + 1))))
    (hsl : sl wn k p n c (rowZ u R2)) (h0 : 0 ≤ S) (h1 : S ≤ 2000000 * (x : Int)) (hA0 : 0 ≤ A) (hA : A ≤ 1000000) (hU : U.length ≤ 1000000) (hb : Below w.heap.size w wn) : szI w u k R qs (x + 1) (.int .i64 (S + A + U.length)) (.slice p n c) wn := by
  obtain ⟨s1, s2, s3, s4, s5⟩ := hs
  refine ⟨_, p, n, c, R2, rfl, rfl, hsl, s1, s2, hok.trans s4, fun h => ?_, by omega, by rw [Int.natCast_add]; omega, s3, hx, hb⟩
  have := hcome h
  omega
end Go.Proofs.YtldhbjmillfjgabGreatDoor

namespace Go.Proofs.YtldhbjmillfjgabGreatDoor
open Go.RowKit
set_option linter.unusedVariables false
attribute [local go_sem] Oper.semAt_some

set_option maxRecDepth 100000 in
set_option maxHeartbeats 800000 in
theorem size1_any (p : Option Addr) (n c : Nat) (R : List Nat) (qs : List Pt) (v : Value) (w : World) (hT : Lib.Utf8Tabs 2 3 w) (hR : ∀ r ∈ R, isRune r) (hsl : sl w .u8 p n c (rowZ 1 R)) (hr : opAt w v qs) (hc : chkE qs (by_ 1 R) = 0) (hl : qs.length ≤ 1000) (hz : C1 R ≤ 1000000) (hpl : ∀ q ∈ qs, q.put.length ≤ 1000000) :
    Calls Tryz.prog 123 #[.slice p n c, v, .func (.func 70) #[] #[]] w fun e w' => e = .returned (.tuple #[.int .i64 (szV 1 R qs), errV (szE 1 R qs)]) ∧ Below w.heap.size w w' := by
  have hu : unitOk 1 := by unfold unitOk; omega
  obtain ⟨hp1, hp2, hp3⟩ := chkE_parts hc
  have HU : Hid (unitOk 1) := hu
  have HT : Hid (Lib.Utf8Tabs 2 3 w) := hT
  have HOP : Hid (opAt w v qs) := hr
  have HP1 : Hid (∀ p ∈ qs, oneB p = true ∧ (scan p.put).2 = true) := hp1
  have HPL : Hid (∀ q ∈ qs, q.put.length ≤ 1000000) := hpl
  have HST : Hid (szI w 1 .u8 R qs 0 (.int .i64 0) (.slice p n c) w) := szI_start hz hsl hR hp2
  obtain ⟨pq, cq, rfl, r1, r2, r3⟩ := hr
  unfold maxLen at r2
  obtain ⟨N, hN⟩ : ∃ N, qs.length = N := ⟨_, rfl⟩
  rw [hN] at r1 hl ⊢
  have HN : Hid (qs.length = N) := hN
  have hN0 : (N : Int) ≤ 1000 := by omega
  clear hT hR hsl hc hp1 hp2 hp3 r3 hz hpl hu hN
  go_enter Tryz.func123, Tryz.ntmps123
  go_wp2
  go_loopw [8, 9, 18] (fun v8 v9 i wr => ∃ x : Nat, i = .int .i64 x ∧ szI w 1 .u8 R qs x v8 v9 wr) (fun _ _ i _ => N - (intOf i).toNat)
  case atStart => exact ⟨0, rfl, HST.out⟩
  case round =>
    obtain ⟨x, rfl, hst⟩ := hrel
    obtain ⟨S, p', n', c', R', rfl, rfl, hsl, hR', hlong, hok, hcome, hS0, hS1, hCR, hx, hbw⟩ := hst
    clear HST
    by_cases hlt : x < N
    · have hxr : x < qs.length := by rw [HN.out]; exact hlt
      have hne : qs ≠ [] := by intro e; rw [e] at hxr; exact absurd hxr (Nat.not_lt_zero _)
      obtain ⟨p0, c0, hvv, _, _, hcell⟩ := HOP.out
      obtain ⟨b0, o, rfl, hb0, hcell⟩ := hcell hne
      obtain ⟨f0, f1, f2⟩ := hcell x qs[x] (List.getElem?_eq_getElem hxr)
      have g0 := (hbw.cell (p := ⟨b0, o + x * 3, none⟩) hb0).trans f0
      have g1 := (hbw.cell (p := ⟨b0, o + x * 3 + 1, none⟩) hb0).trans f1
      have g2 := (hbw.cell (p := ⟨b0, o + x * 3 + 2, none⟩) hb0).trans f2
      obtain rfl : pq = some ⟨b0, o, none⟩ := by injection hvv
      clear hvv hcell f0 f1 f2 hne
      have hq := HP1.out _ (List.getElem_mem hxr)
      have hputl := HPL.out _ (List.getElem_mem hxr)
      have hdk : qs.drop x = qs[x] :: qs.drop (x + 1) := List.drop_eq_getElem_cons hxr
      have hstep := sz_step HU.out hdk hq (fun y hy => HP1.out y (List.mem_of_mem_drop hy)) hsl hR' hlong hCR
      rw [hdk] at hok hcome
      have HOK : Hid (okZ 1 R qs = okZ 1 R' (qs[x] :: qs.drop (x + 1))) := hok
      have HCOME : Hid (okZ 1 R qs = true → S + C1 (comesZ 1 R' (qs[x] :: qs.drop (x + 1))) = C1 (comesZ 1 R qs)) := hcome
      have HBW : Hid (Below w.heap.size w wr) := hbw
      have HX : Hid (x < qs.length) := hxr
      have HSL : Hid (sl wr .u8 p' n' c' (rowZ 1 R')) := hsl
      have HR' : Hid (∀ r ∈ R', isRune r) := hR'
      have HCR : Hid (C1 R' ≤ 1000000) := hCR
      clear hok hcome hbw hsl hR' hlong hdk
      generalize qs[x] = q at *
      obtain ⟨K, D, U⟩ := q
      simp only at g0 g1 g2 hputl
      have hK0 : 0 ≤ K := hstep.k0
      have hD0 : 0 ≤ D := hstep.d0
      have hKD : K + D ≤ (n' : Int) := hstep.le
      obtain ⟨hcc, hcm, hnn⟩ := sl_cap HSL.out
      unfold maxLen at hcm
      have HSTEP : Hid (szStep 1 R' ⟨K, D, U⟩ (qs.drop (x + 1)) n') := hstep
      have hUz : (ByteArray.mk U.toArray).size = U.length := by simp [ByteArray.size]
      obtain ⟨M, hM⟩ : ∃ M : Nat, K + D = (M : Int) := ⟨(K + D).toNat, by omega⟩
      have hMn : M ≤ n' := by omega
      have HM : Hid (K + D = (M : Int)) := hM
      have HPC : Hid (sl wr .u8 p' M c' ((rowZ 1 R').take M)) := sl_head HSL.out hMn
      have hxlN : (x : Int) < (N : Int) := by omega
      clear hstep hnn hxr
      by_cases he : onEdge R' 1 (K + D) = true
      · obtain ⟨hpX, hX1, hX2, hX3⟩ := szStep_good HU.out HSTEP.out HR'.out HCR.out he
        have hMt : (K + D).toNat = M := by omega
        rw [hMt] at hpX
        obtain ⟨X, hXe⟩ : ∃ X, upTo R' 1 (K + D) = X := ⟨_, rfl⟩
        rw [hXe] at hpX hX1 hX2 hX3
        have HXE : Hid (upTo R' 1 (K + D) = X) := hXe
        have HHE : Hid (onEdge R' 1 (K + D) = true) := he
        have hbz : (bytesOf X).size = (encs X).length := by simp [bytesOf, ByteArray.size]
        have hXl : ((encs X).length : Int) ≤ 1000000 := by have := C1_len X; omega
        have cT : Hid (∀ wx, Below w.heap.size w wx → sl wx .u8 p' M c' ((rowZ 1 R').take M) → Calls Tryz.prog 70 #[.slice p' M c'] wx fun e w' => e = .returned (.tuple #[.string (bytesOf X), .nilIface]) ∧ Below wx.heap.size wx w') := fun wx hb hs => text1_good X hX2 hX1 p' M c' wx (Go.Proofs.Utf8Tabs_below HT.out hb) (by rw [← hpX]; exact hs)
        have HX3 : Hid _ := hX3
        have hS3 : S ≤ 2000000 * (x : Int) := hS1
        have hxx : (x : Int) < 1000 := by omega
        generalize bytesOf X = bX at *
        clear hX1 hX2 hX3 hpX hXe he hM hS1
        by_cases hK : 0 < K
        · go_wp2_with (first
            | (go_at_call 70; refine (cT.out _ (by exact HBW.out.alloc HBW.out.size _) (by exact sl_below HPC.out ((Below.refl wr.heap.size wr).alloc (Nat.le_refl _) _) (Nat.le_refl _))).mono ?_; rintro e w2 ⟨rfl, hb2⟩; have HB2 : Hid (Below wr.heap.size wr w2) := ((Below.refl wr.heap.size wr).alloc (Nat.le_refl _) _).trans (hb2.mono (by simp)); have hz2 : wr.heap.size + 1 ≤ w2.heap.size := by have := hb2.size; simpa using this
               have x0 : w2.cell? ⟨wr.heap.size, 0, none⟩ = some (.int .i64 K) := (hb2.cell (p := ⟨wr.heap.size, 0, none⟩) (by simp)).trans (by simp)
               have x1 : w2.cell? ⟨wr.heap.size, 1, none⟩ = some (.int .i64 D) := (hb2.cell (p := ⟨wr.heap.size, 1, none⟩) (by simp)).trans (by simp)
               have x2 : w2.cell? ⟨wr.heap.size, 2, none⟩ = some (.string ⟨U.toArray⟩) := (hb2.cell (p := ⟨wr.heap.size, 2, none⟩) (by simp)).trans (by simp); clear hb2)
            | fail)
          refine ⟨⟨x + 1, by go_num, ?_⟩, by simp [intOf]; omega⟩
          obtain ⟨y1, y2, y3, y4, y5, y6⟩ := HX3.out
          have hs2 := sl_below (sl_cut HSL.out hMn) HB2.out (Nat.le_refl _)
          have hy1 : (rowZ 1 R').drop M = rowZ 1 (restZ 1 R' (K + D)) := by rw [← hMt]; exact y1
          rw [hy1] at hs2
          exact szI_next (A := ((encs X).length : Int)) HX.out HOK.out HCOME.out ⟨y2, y3, y4, y5, by rw [y6, if_pos hK, C1_len]⟩ hs2 hS0 hS3 (by omega) (by omega) hputl (HBW.out.trans (HB2.out.mono HBW.out.size))
        · go_wp2_with (first
            | (go_at_call 70; refine (cT.out _ (by exact HBW.out.alloc HBW.out.size _) (by exact sl_below HPC.out ((Below.refl wr.heap.size wr).alloc (Nat.le_refl _) _) (Nat.le_refl _))).mono ?_; rintro e w2 ⟨rfl, hb2⟩; have HB2 : Hid (Below wr.heap.size wr w2) := ((Below.refl wr.heap.size wr).alloc (Nat.le_refl _) _).trans (hb2.mono (by simp)); have hz2 : wr.heap.size + 1 ≤ w2.heap.size := by have := hb2.size; simpa using this
               have x0 : w2.cell? ⟨wr.heap.size, 0, none⟩ = some (.int .i64 K) := (hb2.cell (p := ⟨wr.heap.size, 0, none⟩) (by simp)).trans (by simp)
               have x1 : w2.cell? ⟨wr.heap.size, 1, none⟩ = some (.int .i64 D) := (hb2.cell (p := ⟨wr.heap.size, 1, none⟩) (by simp)).trans (by simp)
               have x2 : w2.cell? ⟨wr.heap.size, 2, none⟩ = some (.string ⟨U.toArray⟩) := (hb2.cell (p := ⟨wr.heap.size, 2, none⟩) (by simp)).trans (by simp); clear hb2)
            | fail)
          refine ⟨⟨x + 1, by go_num, ?_⟩, by simp [intOf]; omega⟩
          obtain ⟨y1, y2, y3, y4, y5, y6⟩ := HX3.out
          have hs2 := sl_below (sl_cut HSL.out hMn) HB2.out (Nat.le_refl _)
          have hy1 : (rowZ 1 R').drop M = rowZ 1 (restZ 1 R' (K + D)) := by rw [← hMt]; exact y1
          rw [hy1] at hs2
          have hfin := szI_next (A := 0) HX.out HOK.out HCOME.out ⟨y2, y3, y4, y5, by rw [y6, if_neg (by omega)]⟩ hs2 hS0 hS3 (by omega) (by omega) hputl (HBW.out.trans (HB2.out.mono HBW.out.size))
          rw [Int.add_zero] at hfin
          exact hfin
      · have he : onEdge R' 1 (K + D) = false := by simpa using he
        have hbad := szStep_bad HU.out HSTEP.out HR'.out he
        have hMt : (K + D).toNat = M := by omega
        rw [hMt] at hbad
        have HV : Hid (szV 1 R qs = 0 ∧ szE 1 R qs = 10) := sz_bad (by rw [HOK.out]; unfold okZ; rw [show lenP ⟨K, D, U⟩ = K + D from rfl, he]; rfl)
        have cT : Hid (∀ wx, Below w.heap.size w wx → sl wx .u8 p' M c' ((rowZ 1 R').take M) → Calls Tryz.prog 70 #[.slice p' M c'] wx fun e w' => ∃ s bx, e = .returned (.tuple #[.string s, atV bx]) ∧ Below wx.heap.size wx w') := fun wx hb hs => text1_bad R' M hbad HCR.out p' M c' wx (Go.Proofs.Utf8Tabs_below HT.out hb) hs
        unfold atV at cT
        clear hbad he hM
        go_wp2_with (first
          | (go_at_call 70; refine (cT.out _ (by exact HBW.out.alloc HBW.out.size _) (by exact sl_below HPC.out ((Below.refl wr.heap.size wr).alloc (Nat.le_refl _) _) (Nat.le_refl _))).mono ?_; rintro e w2 ⟨s2, bx, rfl, hb2⟩; have HB2 : Hid (Below wr.heap.size wr w2) := ((Below.refl wr.heap.size wr).alloc (Nat.le_refl _) _).trans (hb2.mono (by simp)); clear hb2)
          | fail)
        go_ret2
        refine ⟨?_, HBW.out.trans (HB2.out.mono HBW.out.size)⟩
        rw [HV.out.1, HV.out.2]; rfl
    · obtain rfl : x = N := by have := HN.out; omega
      have hxlN : ¬ ((x : Int) < (x : Int)) := by omega
      have HV : Hid (szV 1 R qs = S ∧ szE 1 R qs = 0) := by
        rw [← HN.out, List.drop_length] at hok hcome
        exact sz_good hok hcome
      have HBW : Hid (Below w.heap.size w wr) := hbw
      clear hok hcome hsl hR' hlong hbw
      go_wp2
      go_ret2
      refine ⟨?_, HBW.out⟩
      rw [HV.out.1, HV.out.2]; rfl
end Go.Proofs.YtldhbjmillfjgabGreatDoor
