/-
  The document's both: what is wrong with two operations.
  ops.Transform and ops.Compose: what is wrong.
  The document's Transform.
  The document's Transform, where what it puts comes first.
  The document's Transform, where what the other one puts comes first.
  rosettalaw.OpsTransform: the law's own walk.
  Operations over texts (pure): what has no error over a text is good; what is turned over another one is sound, and over what that one makes.
  The library's contracts that these texts use, laid at this program by the shelf's own command, its plain mode.
  server.own: an operation in memory of its own.
  server.turn: an operation over what came meanwhile.
  rosettaref's edge, and what it says of an operation's parts.
  rosettaref's Apply.
-/
import Derived.Test.YtfedgjnhanlmeabGreatDoorPartD
import Derived.Deep.LoopGhost
import Derived.Test.YtfedgjnhanlmeabGreatDoorPartF
import Derived.Deep.Cut
import Derived.Shelf.Strings.Builder1
import Derived.Shelf.Small.Utf8
import Derived.Shelf.Strings.BuilderF
import Derived.Shelf.Strings.BuilderK
import Derived.Shelf.Utf8.AppendRune
import Derived.Shelf.Utf8.AppendRunePlain
import Derived.Shelf.Utf8.RuneCount
import Derived.Shelf.LaysM
import Derived.Shelf.Strconv.Clone
import Derived.Shelf.Strings.Search1
import Derived.Shelf.Strings.Search2
import Derived.Shelf.Strings.Search3
import Derived.Shelf.Strings.Count
import Derived.Shelf.Strings.Shaped
import Derived.Shelf.Strings.Split
import Derived.Shelf.Unicode.Decode
import Derived.Shelf.Strings.RuneCount
import Derived.Shelf.Unicode.DecodeSlow
import Derived.Shelf.Unicode.DecodeAny
import Derived.Shelf.Strings.BuilderCap
import Derived.Test.YtfedgjnhanlmeabGreatDoorProg
import Derived.Test.YtfedgjnhanlmeabGreatDoorPartE
import Derived.Test.YtfedgjnhanlmeabGreatDoorPartC
namespace Go.Proofs.YtfedgjnhanlmeabGreatDoor
open Go.RowKit
set_option linter.unusedVariables false
attribute [local go_sem] Oper.semAt_some

def bothR (w : World) (v1 v2 : Value) (EA EB : Int) (k : Nat) (i : Value) (wr : World) : Prop :=
  ∃ j : Nat, i = .int .i64 j ∧ j + k = 2 ∧ (1 ≤ j → EA = 0) ∧ (2 ≤ j → EB = 0) ∧ Below w.heap.size w wr ∧ wr.cell? ⟨w.heap.size, 0, none⟩ = some v1 ∧ wr.cell? ⟨w.heap.size, 1, none⟩ = some v2

set_option maxRecDepth 100000 in
set_option maxHeartbeats 4000000 in
theorem refBoth_any (v1 v2 : Value) (a b : List Pt) (w : World) (h1 : opAt w v1 a) (h2 : opAt w v2 b) (w1 : ∀ p ∈ a, wfP p) (w2 : ∀ p ∈ b, wfP p) (s1 : ∀ p ∈ a, p.put.length < 100000000) (s2 : ∀ p ∈ b, p.put.length < 100000000) (l1 : a.length < 10000000) (l2 : b.length < 10000000) :
    Calls Tryz.prog 176 #[v1, v2] w fun e w' => e = .returned (.int .i64 (bothE a b)) ∧ Below w.heap.size w w' := by
  have cL1 : Hid (∀ wx, Below w.heap.size w wx → Calls Tryz.prog 177 #[v1] wx fun e w' => e = .returned (.tuple #[.int .i64 (lensW a).1, .int .i64 (lensW a).2]) ∧ Below wx.heap.size wx w') := fun wx hb => refLens_any v1 a wx (opAt_grown h1 hb) l1
  have cL2 : Hid (∀ wx, Below w.heap.size w wx → Calls Tryz.prog 177 #[v2] wx fun e w' => e = .returned (.tuple #[.int .i64 (lensW b).1, .int .i64 (lensW b).2]) ∧ Below wx.heap.size wx w') := fun wx hb => refLens_any v2 b wx (opAt_grown h2 hb) l2
  have cC1 : Hid (∀ wx, Below w.heap.size w wx → Calls Tryz.prog 84 #[v1, .int .i64 (lensW a).1] wx fun e w' => e = .returned (.int .i64 (chkE a (lensW a).1)) ∧ Below wx.heap.size wx w') := fun wx hb => refCheck_any v1 a _ wx (opAt_grown h1 hb) w1 s1 (lensW_range a) l1
  have cC2 : Hid (∀ wx, Below w.heap.size w wx → Calls Tryz.prog 84 #[v2, .int .i64 (lensW b).1] wx fun e w' => e = .returned (.int .i64 (chkE b (lensW b).1)) ∧ Below wx.heap.size wx w') := fun wx hb => refCheck_any v2 b _ wx (opAt_grown h2 hb) w2 s2 (lensW_range b) l2
  obtain ⟨R, hR⟩ : ∃ R, R = bothE a b := ⟨_, rfl⟩
  rw [← hR]
  unfold bothE at hR
  generalize chkE a (lensW a).1 = EA at cC1 hR
  generalize chkE b (lensW b).1 = EB at cC2 hR
  generalize (lensW a).1 = A1 at cL1 cC1
  generalize (lensW a).2 = A2 at cL1
  generalize (lensW b).1 = B1 at cL2 cC2
  generalize (lensW b).2 = B2 at cL2
  have HR : Hid (R = if EA = 0 then EB else EA) := hR
  obtain ⟨p1, c1, rfl, _⟩ := h1
  obtain ⟨p2, c2, rfl, _⟩ := h2
  clear w1 w2 s1 s2 hR
  go_enter Tryz.func176, Tryz.ntmps176
  go_wp2
  have hst : bothR w (.slice p1 a.length c1) (.slice p2 b.length c2) EA EB 2 (.int .i64 0) (w.alloc (.cells #[.slice p1 a.length c1, .slice p2 b.length c2] 23)) :=
    ⟨0, rfl, rfl, fun h => absurd h (by omega), fun h => absurd h (by omega), (Below.refl _ w).alloc (Nat.le_refl _) _, by simp [go_sem], by simp [go_sem]⟩
  have HST : Hid _ := hst
  clear hst
  go_loopg [14] 2 (fun k i wr => bothR w (.slice p1 a.length c1) (.slice p2 b.length c2) EA EB k i wr)
  case atStart => exact HST.out
  case round =>
    obtain ⟨j, rfl, hjk, hA, hB, hb, k0, k1⟩ := hrel
    have HBW : Hid (Below w.heap.size w wr) := hb
    clear HST hb
    rcases Nat.lt_or_ge j 1 with hj | hj
    · obtain rfl : j = 0 := by omega
      obtain rfl : gk = 2 := by omega
      clear hA hB hjk hj
      by_cases he : EA = 0
      · subst he
        go_wp2_with (first
          | (go_at_call 177; refine (cL1.out _ (by first | exact HBW.out | exact HBW.out.drew)).mono ?_; rintro e w2 ⟨rfl, hb2⟩; have HB2 : Hid (Below w.heap.size w w2) := (by first | exact HBW.out.trans (hb2.mono HBW.out.size) | exact HBW.out.drew.trans (hb2.mono HBW.out.size)); have K0 : Hid (w2.cell? ⟨w.heap.size, 0, none⟩ = some (.slice p1 a.length c1)) := (hb2.cell (World.block_lt_of_cell? wr _ k0)).trans k0; have K1 : Hid (w2.cell? ⟨w.heap.size, 1, none⟩ = some (.slice p2 b.length c2)) := (hb2.cell (World.block_lt_of_cell? wr _ k1)).trans k1; clear hb2)
          | (go_at_call 84; refine (cC1.out _ HB2.out).mono ?_; rintro e w3 ⟨rfl, hb3⟩)
          | fail)
        go_roundg 1
        case measure => omega
        case rel => exact ⟨1, rfl, rfl, fun _ => rfl, fun h => absurd h (by omega), HB2.out.trans (hb3.mono HB2.out.size), (hb3.cell (World.block_lt_of_cell? w2 _ K0.out)).trans K0.out, (hb3.cell (World.block_lt_of_cell? w2 _ K1.out)).trans K1.out⟩
      · have hRA : R = EA := by rw [HR.out, if_neg he]
        subst hRA
        clear HR
        go_wp2_with (first
          | (go_at_call 177; refine (cL1.out _ (by first | exact HBW.out | exact HBW.out.drew)).mono ?_; rintro e w2 ⟨rfl, hb2⟩; have HB2 : Hid (Below w.heap.size w w2) := (by first | exact HBW.out.trans (hb2.mono HBW.out.size) | exact HBW.out.drew.trans (hb2.mono HBW.out.size)); clear hb2)
          | (go_at_call 84; refine (cC1.out _ HB2.out).mono ?_; rintro e w3 ⟨rfl, hb3⟩)
          | fail)
        go_ret
        exact ⟨rfl, HB2.out.trans (hb3.mono HB2.out.size)⟩
    · have hA := hA hj
      subst hA
      have HR' : Hid (R = EB) := by have := HR.out; rwa [if_pos rfl] at this
      clear HR
      rcases Nat.lt_or_ge j 2 with hj2 | hj2
      · obtain rfl : j = 1 := by omega
        obtain rfl : gk = 1 := by omega
        clear hB hjk hj hj2
        by_cases he : EB = 0
        · subst he
          go_wp2_with (first
            | (go_at_call 177; refine (cL2.out _ (by first | exact HBW.out | exact HBW.out.drew)).mono ?_; rintro e w2 ⟨rfl, hb2⟩; have HB2 : Hid (Below w.heap.size w w2) := (by first | exact HBW.out.trans (hb2.mono HBW.out.size) | exact HBW.out.drew.trans (hb2.mono HBW.out.size)); have K0 : Hid (w2.cell? ⟨w.heap.size, 0, none⟩ = some (.slice p1 a.length c1)) := (hb2.cell (World.block_lt_of_cell? wr _ k0)).trans k0; have K1 : Hid (w2.cell? ⟨w.heap.size, 1, none⟩ = some (.slice p2 b.length c2)) := (hb2.cell (World.block_lt_of_cell? wr _ k1)).trans k1; clear hb2)
            | (go_at_call 84; refine (cC2.out _ HB2.out).mono ?_; rintro e w3 ⟨rfl, hb3⟩)
            | fail)
          go_roundg 0
          case measure => omega
          case rel => exact ⟨2, rfl, rfl, fun _ => rfl, fun _ => rfl, HB2.out.trans (hb3.mono HB2.out.size), (hb3.cell (World.block_lt_of_cell? w2 _ K0.out)).trans K0.out, (hb3.cell (World.block_lt_of_cell? w2 _ K1.out)).trans K1.out⟩
        · have hRA : R = EB := HR'.out
          subst hRA
          clear HR'
          go_wp2_with (first
            | (go_at_call 177; refine (cL2.out _ (by first | exact HBW.out | exact HBW.out.drew)).mono ?_; rintro e w2 ⟨rfl, hb2⟩; have HB2 : Hid (Below w.heap.size w w2) := (by first | exact HBW.out.trans (hb2.mono HBW.out.size) | exact HBW.out.drew.trans (hb2.mono HBW.out.size)); clear hb2)
            | (go_at_call 84; refine (cC2.out _ HB2.out).mono ?_; rintro e w3 ⟨rfl, hb3⟩)
            | fail)
          go_ret
          exact ⟨rfl, HB2.out.trans (hb3.mono HB2.out.size)⟩
      · obtain rfl : j = 2 := by omega
        have hB := hB (by omega)
        have hRA : R = 0 := by rw [HR'.out, hB]
        subst hRA
        clear HR' hB hjk hj hj2
        go_wp2
        go_ret
        exact ⟨rfl, HBW.out⟩
end Go.Proofs.YtfedgjnhanlmeabGreatDoor

namespace Go.Proofs.YtfedgjnhanlmeabGreatDoor
open Go.RowKit
set_option linter.unusedVariables false
attribute [local go_sem] Oper.semAt_some

set_option maxRecDepth 100000 in
set_option maxHeartbeats 2000000 in
theorem trans_err (v1 v2 : Value) (first : Bool) (a b : List Pt) (w : World) (hT : Lib.Utf8Tabs 2 3 w) (h1 : opAt w v1 a) (h2 : opAt w v2 b) (w1 : ∀ p ∈ a, wfP p) (w2 : ∀ p ∈ b, wfP p) (l1 : a.length < 10000000) (l2 : b.length < 10000000) (he : bothE a b ≠ 0) :
    Calls Tryz.prog 180 #[v1, v2, .bool first] w fun e w' => e = .returned (.tuple #[.slice none 0 0, errV (bothE a b)]) ∧ Below w.heap.size w w' := by
  have cB : Hid _ := checkBoth_any v1 v2 a b w hT h1 h2 w1 w2 l1 l2
  have hV : errV (bothE a b) = .iface 26 (.int .i64 (bothE a b)) := by unfold errV; rw [if_neg he]
  rw [hV] at cB ⊢
  generalize bothE a b = E at *
  obtain ⟨p1, c1, rfl, _⟩ := h1
  obtain ⟨p2, c2, rfl, _⟩ := h2
  clear hT w1 w2 hV
  go_enter Tryz.func180, Tryz.ntmps180
  go_wp2_with (first
    | (go_at_call 206; refine Calls.mono cB.out ?_; rintro e w1 ⟨rfl, hb1⟩)
    | fail)
  go_ret2
  exact ⟨rfl, hb1⟩
set_option maxRecDepth 100000 in
set_option maxHeartbeats 2000000 in
theorem trans_len (v1 v2 : Value) (first : Bool) (a b : List Pt) (w : World) (hT : Lib.Utf8Tabs 2 3 w) (h1 : opAt w v1 a) (h2 : opAt w v2 b) (w1 : ∀ p ∈ a, wfP p) (w2 : ∀ p ∈ b, wfP p) (l1 : a.length < 10000000) (l2 : b.length < 10000000) (he : bothE a b = 0) (hl : (lensW b).1 ≠ (lensW a).1) :
    Calls Tryz.prog 180 #[v1, v2, .bool first] w fun e w' => e = .returned (.tuple #[.slice none 0 0, errV (2)]) ∧ Below w.heap.size w w' := by
  have cB : Hid _ := checkBoth_any v1 v2 a b w hT h1 h2 w1 w2 l1 l2
  have hV : errV (bothE a b) = .nilIface := by unfold errV; rw [if_pos he]
  have hV2 : errV 2 = .iface 26 (.int .i64 2) := rfl
  rw [hV] at cB
  rw [hV2]
  have cL1 : Hid (∀ wx, Below w.heap.size w wx → Calls Tryz.prog 118 #[v1] wx fun e w' => e = .returned (.tuple #[.int .i64 (lensW a).1, .int .i64 (lensW a).2]) ∧ Below wx.heap.size wx w') := fun wx hb => Lens_any v1 a wx (opAt_grown h1 hb) l1
  have cL2 : Hid (∀ wx, Below w.heap.size w wx → Calls Tryz.prog 118 #[v2] wx fun e w' => e = .returned (.tuple #[.int .i64 (lensW b).1, .int .i64 (lensW b).2]) ∧ Below wx.heap.size wx w') := fun wx hb => Lens_any v2 b wx (opAt_grown h2 hb) l2
  generalize (lensW a).1 = A1 at *
  generalize (lensW a).2 = A2 at *
  generalize (lensW b).1 = B1 at *
  generalize (lensW b).2 = B2 at *
  obtain ⟨p1, c1, rfl, _⟩ := h1
  obtain ⟨p2, c2, rfl, _⟩ := h2
  clear hT w1 w2 hV hV2
  go_enter Tryz.func180, Tryz.ntmps180
  go_wp2_with (first
    | (have _ := HB2; go_at_call 118; refine (cL2.out _ HB2.out).mono ?_; rintro e w3 ⟨rfl, hb3⟩; have HB3 : Hid (Below w.heap.size w w3) := HB2.out.trans (hb3.mono HB2.out.size); clear hb3)
    | (go_at_call 118; refine (cL1.out _ HB1.out).mono ?_; rintro e w2 ⟨rfl, hb2⟩; have HB2 : Hid (Below w.heap.size w w2) := HB1.out.trans (hb2.mono HB1.out.size); clear hb2)
    | (go_at_call 206; refine Calls.mono cB.out ?_; rintro e w1 ⟨rfl, hb1⟩; have HB1 : Hid (Below w.heap.size w w1) := hb1; clear hb1)
    | fail)
  go_ret2
  exact ⟨rfl, HB3.out⟩
theorem trans_allN (v1 v2 : Value) (first : Bool) (a b : List Pt) (w : World) (hT : Lib.Utf8Tabs 2 3 w) (h1 : opAt w v1 a) (h2 : opAt w v2 b) (w1 : ∀ p ∈ a, wfP p) (w2 : ∀ p ∈ b, wfP p) (l1 : a.length < 10000000) (l2 : b.length < 10000000) (hf : bothE a b = 0 → fineP a ∧ fineP b) :
    Calls Tryz.prog 180 #[v1, v2, .bool first] w fun e w' => ∃ v', e = .returned (.tuple #[v', errV (turnE a b)]) ∧ opN w.heap.size w' v' (if turnE a b = 0 then tellP (transS first a b) else []) ∧ Below w.heap.size w w' := by
  have none : ∀ w', opN w.heap.size w' (.slice none 0 0) [] := opN_none _
  unfold turnE
  by_cases he : bothE a b = 0
  · obtain ⟨f1, f2⟩ := hf he
    rw [if_pos he]
    by_cases hl : (lensW b).1 = (lensW a).1
    · rw [if_pos hl, if_pos rfl]
      show Calls _ _ _ _ fun e w' => ∃ v', e = .returned (.tuple #[v', .nilIface]) ∧ _
      cases first with
      | true => exact (t1_fineN v1 v2 a b w hT h1 h2 w1 w2 f1 f2 he hl)
      | false => exact (t2_fineN v1 v2 a b w hT h1 h2 w1 w2 f1 f2 he hl)
    · rw [if_neg hl, if_neg (by decide)]
      exact (trans_len v1 v2 first a b w hT h1 h2 w1 w2 l1 l2 he hl).mono fun e w' h => ⟨_, h.1, none w', h.2⟩
  · rw [if_neg he, if_neg he]
    exact (trans_err v1 v2 first a b w hT h1 h2 w1 w2 l1 l2 he).mono fun e w' h => ⟨_, h.1, none w', h.2⟩
end Go.Proofs.YtfedgjnhanlmeabGreatDoor

namespace Go.Proofs.YtfedgjnhanlmeabGreatDoor
open Go.RowKit
set_option linter.unusedVariables false
attribute [local go_sem] Oper.semAt_some

/-- What a gap comes to: what is put there, and what the other one puts; then its byte. -/
def pairO (first : Bool) (u v : List UInt8) : List Pt := if first then putO u ++ keepO v.length else keepO v.length ++ putO u
def unitO (e d : Bool) : List Pt := if e then [] else [unitP d]
def gapO (first : Bool) (z : (List UInt8 × Bool) × (List UInt8 × Bool)) : List Pt := pairO first z.1.1 z.2.1 ++ unitO z.2.2 z.1.2
/-- What has come when j gaps are gone through. -/
def outJ (first : Bool) (x y : GSt) (j : Nat) : List Pt := ((x.1.zip y.1).take j).flatMap (gapO first) ++ if x.1.length < j then pairO first x.2 y.2 else []
theorem putO_fold (u : List UInt8) (s : NSt) : (putO u).foldl addP s = addP s ⟨0, 0, u⟩ := by
  unfold putO
  split
  · rfl
  · rename_i h
    rw [Classical.not_not.1 h, addP_none]; rfl
theorem keepO_fold (v : List UInt8) (s : NSt) : (keepO v.length).foldl addP s = addP s ⟨v.length, 0, []⟩ := by
  unfold keepO
  split
  · rfl
  · rename_i h
    have : (v.length : Int) = 0 := by omega
    rw [this, addP_none]; rfl
theorem pairO_fold (first : Bool) (u v : List UInt8) (s : NSt) : (pairO first u v).foldl addP s = (if first then [⟨0, 0, u⟩, ⟨v.length, 0, []⟩] else [⟨v.length, 0, []⟩, ⟨0, 0, u⟩] : List Pt).foldl addP s := by
  unfold pairO
  cases first
  · simp only [Bool.false_eq_true, if_false, List.foldl_append, putO_fold, keepO_fold]; rfl
  · simp only [if_true, List.foldl_append, putO_fold, keepO_fold]; rfl
theorem out_fold (first : Bool) : ∀ (x y : List (List UInt8 × Bool)) (xl yl : List UInt8) (s : NSt), x.length = y.length → ((x.zip y).flatMap (gapO first) ++ pairO first xl yl).foldl addP s = (docT first x xl y yl).foldl addP s
  | [], [], xl, yl, s, _ => by
    simp only [List.zip_nil_left, List.flatMap_nil, List.nil_append, pairO_fold]; rfl
  | [], _ :: _, _, _, _, h => by simp at h
  | _ :: _, [], _, _, _, h => by simp at h
  | (u, d) :: x, (v, e) :: y, xl, yl, s, h => by
    have ih := out_fold first x y xl yl
    rw [List.zip_cons_cons, List.flatMap_cons, List.append_assoc, List.foldl_append, ih _ (by simpa using h), docT, List.foldl_append, List.foldl_append]
    congr 1
    unfold gapO unitO
    rw [List.foldl_append, pairO_fold]
theorem pairO_len (first : Bool) (u v : List UInt8) : (pairO first u v).length ≤ 2 := by
  have h1 : (putO u).length ≤ 1 := by unfold putO; split <;> simp
  have h2 : (keepO v.length).length ≤ 1 := by unfold keepO; split <;> simp
  unfold pairO
  split <;> (rw [List.length_append]; omega)
theorem gapO_len (first : Bool) (z : (List UInt8 × Bool) × (List UInt8 × Bool)) : (gapO first z).length ≤ 3 := by
  have h1 := pairO_len first z.1.1 z.2.1
  have h2 : (unitO z.2.2 z.1.2).length ≤ 1 := by unfold unitO; split <;> simp
  unfold gapO
  rw [List.length_append]; omega
theorem outJ_len (first : Bool) (x y : GSt) (j : Nat) : (outJ first x y j).length ≤ 3 * j + 2 := by
  have key : ∀ (l : List ((List UInt8 × Bool) × (List UInt8 × Bool))), (l.flatMap (gapO first)).length ≤ 3 * l.length := by
    intro l
    induction l with
    | nil => simp
    | cons z l ih =>
      have := gapO_len first z
      rw [List.flatMap_cons, List.length_append, List.length_cons]; omega
  have h1 := key ((x.1.zip y.1).take j)
  have h2 : ((x.1.zip y.1).take j).length ≤ j := by rw [List.length_take]; omega
  have h3 := pairO_len first x.2 y.2
  unfold outJ
  rw [List.length_append]
  split
  · omega
  · simp only [List.length_nil]; omega
theorem outJ_step {first : Bool} {x y : GSt} {j : Nat} (hl : x.1.length = y.1.length) (hj : j < x.1.length) {u v : List UInt8} {d e : Bool} (hx : x.1[j]? = some (u, d)) (hy : y.1[j]? = some (v, e)) : outJ first x y (j + 1) = outJ first x y j ++ (pairO first u v ++ unitO e d) := by
  have hz : (x.1.zip y.1)[j]? = some ((u, d), (v, e)) := by rw [List.getElem?_zip_eq_some]; exact ⟨hx, hy⟩
  unfold outJ
  rw [if_neg (by omega), if_neg (by omega), List.append_nil, List.append_nil, List.take_add_one, hz, List.flatMap_append]
  simp [gapO]
theorem outJ_last {first : Bool} {x y : GSt} (hl : x.1.length = y.1.length) : outJ first x y (x.1.length + 1) = outJ first x y x.1.length ++ pairO first x.2 y.2 := by
  have hz : (x.1.zip y.1).length = x.1.length := by rw [List.length_zip]; omega
  unfold outJ
  rw [if_pos (by omega), if_neg (by omega), List.append_nil, List.take_of_length_le (by omega), List.take_of_length_le (by omega)]

theorem keepO_ok (k : Nat) : (∀ p ∈ keepO k, soundP p) ∧ wts (keepO k) = k := by
  unfold keepO
  split
  · refine ⟨fun p hp => ?_, by simp [wts, wtP]⟩
    obtain rfl := List.mem_singleton.1 hp
    exact ⟨by simp, by simp⟩
  · exact ⟨by simp, by simp [wts]; omega⟩
theorem putO_ok (u : List UInt8) : (∀ p ∈ putO u, soundP p) ∧ wts (putO u) = u.length := by
  unfold putO
  split
  · refine ⟨fun p hp => ?_, by simp [wts, wtP]⟩
    obtain rfl := List.mem_singleton.1 hp
    exact ⟨by simp, by simp⟩
  · rename_i h
    rw [Classical.not_not.1 h]
    exact ⟨by simp, by simp [wts]⟩
theorem wts_append (l m : List Pt) : wts (l ++ m) = wts l + wts m := by simp [wts]
theorem pairO_ok (first : Bool) (u v : List UInt8) : (∀ p ∈ pairO first u v, soundP p) ∧ wts (pairO first u v) = u.length + v.length := by
  obtain ⟨h1, h2⟩ := keepO_ok v.length
  obtain ⟨h3, h4⟩ := putO_ok u
  unfold pairO
  split
  · refine ⟨fun p hp => ?_, by rw [wts_append]; omega⟩
    rcases List.mem_append.1 hp with hp | hp
    · exact h3 p hp
    · exact h1 p hp
  · refine ⟨fun p hp => ?_, by rw [wts_append]; omega⟩
    rcases List.mem_append.1 hp with hp | hp
    · exact h1 p hp
    · exact h3 p hp
theorem unitO_ok (e d : Bool) : (∀ p ∈ unitO e d, soundP p) ∧ wts (unitO e d) ≤ 1 := by
  cases e <;> cases d <;> simp [unitO, unitP, soundP, wts, wtP]
theorem outJ_sound (first : Bool) (x y : GSt) (j : Nat) : ∀ p ∈ outJ first x y j, soundP p := by
  intro p hp
  unfold outJ at hp
  rcases List.mem_append.1 hp with hp | hp
  · obtain ⟨z, _, hp⟩ := List.mem_flatMap.1 hp
    unfold gapO at hp
    rcases List.mem_append.1 hp with hp | hp
    · exact (pairO_ok _ _ _).1 p hp
    · exact (unitO_ok _ _).1 p hp
  · split at hp
    · exact (pairO_ok _ _ _).1 p hp
    · cases hp
theorem outZ_wts (first : Bool) : ∀ (x y : List (List UInt8 × Bool)) (j : Nat), wts (((x.zip y).take j).flatMap (gapO first)) ≤ putsK x + putsK y + j
  | [], y, j => by simp [wts]; omega
  | _ :: _, [], j => by simp [wts]; omega
  | (u, d) :: x, (v, e) :: y, 0 => by simp [wts]; omega
  | (u, d) :: x, (v, e) :: y, j + 1 => by
    have ih := outZ_wts first x y j
    have h1 := (pairO_ok first u v).2
    have h2 := (unitO_ok e d).2
    have e1 : putsK ((u, d) :: x) = u.length + putsK x := by simp [putsK]
    have e2 : putsK ((v, e) :: y) = v.length + putsK y := by simp [putsK]
    rw [List.zip_cons_cons, List.take_succ_cons, List.flatMap_cons, wts_append, e1, e2]
    have h3 : wts (gapO first ((u, d), (v, e))) = wts (pairO first u v) + wts (unitO e d) := wts_append _ _
    omega
theorem outJ_wts (first : Bool) (x y : GSt) (j : Nat) : wts (outJ first x y j) ≤ putsK x.1 + x.2.length + (putsK y.1 + y.2.length) + j := by
  have h1 := outZ_wts first x.1 y.1 j
  have h2 := (pairO_ok first x.2 y.2).2
  unfold outJ
  rw [wts_append]
  split
  · omega
  · simp only [wts, List.map_nil, List.sum_nil] at h1 ⊢; omega

def trR (first : Bool) (x y : GSt) (n OB : Nat) (W0 : World) (k : Nat) (i : Value) (wr : World) : Prop := ∃ j : Nat, i = .int .i64 j ∧ j + k = n + 1 ∧ outAt wr OB (outJ first x y j) ∧ Below OB W0 wr
/-- What the two spread operations hold. -/
structure gapsAt (W : World) (q gx1 gx2 gy1 gy2 n : Nat) (x y : GSt) : Prop where
  a0 : W.cell? ⟨q, 0, none⟩ = some (.slice (some ⟨gx1, 0, none⟩) (n + 1) (n + 1))
  a1 : W.cell? ⟨q, 1, none⟩ = some (.slice (some ⟨gx2, 0, none⟩) n n)
  b0 : W.cell? ⟨q + 1, 0, none⟩ = some (.slice (some ⟨gy1, 0, none⟩) (n + 1) (n + 1))
  b1 : W.cell? ⟨q + 1, 1, none⟩ = some (.slice (some ⟨gy2, 0, none⟩) n n)
  x1 : ∀ j u d, x.1[j]? = some (u, d) → W.cell? ⟨gx1, j, none⟩ = some (.string ⟨u.toArray⟩) ∧ W.cell? ⟨gx2, j, none⟩ = some (.bool d)
  y1 : ∀ j u d, y.1[j]? = some (u, d) → W.cell? ⟨gy1, j, none⟩ = some (.string ⟨u.toArray⟩) ∧ W.cell? ⟨gy2, j, none⟩ = some (.bool d)
  x2 : W.cell? ⟨gx1, n, none⟩ = some (.string ⟨x.2.toArray⟩)
  y2 : W.cell? ⟨gy1, n, none⟩ = some (.string ⟨y.2.toArray⟩)
  lt : gx1 < q ∧ gx2 < q ∧ gy1 < q ∧ gy2 < q
theorem gapsAt_below {W W' : World} {q gx1 gx2 gy1 gy2 n : Nat} {x y : GSt} (h : gapsAt W q gx1 gx2 gy1 gy2 n x y) {B : Nat} (hb : Below B W W') (hB : q + 2 ≤ B) : gapsAt W' q gx1 gx2 gy1 gy2 n x y := by
  obtain ⟨l1, l2, l3, l4⟩ := h.lt
  exact ⟨(hb.cell (p := ⟨q, 0, none⟩) (by show q < B; omega)).trans h.a0, (hb.cell (p := ⟨q, 1, none⟩) (by show q < B; omega)).trans h.a1, (hb.cell (p := ⟨q + 1, 0, none⟩) (by show q + 1 < B; omega)).trans h.b0, (hb.cell (p := ⟨q + 1, 1, none⟩) (by show q + 1 < B; omega)).trans h.b1,
    fun j u d hj => ⟨(hb.cell (p := ⟨gx1, j, none⟩) (by show gx1 < B; omega)).trans (h.x1 j u d hj).1, (hb.cell (p := ⟨gx2, j, none⟩) (by show gx2 < B; omega)).trans (h.x1 j u d hj).2⟩,
    fun j u d hj => ⟨(hb.cell (p := ⟨gy1, j, none⟩) (by show gy1 < B; omega)).trans (h.y1 j u d hj).1, (hb.cell (p := ⟨gy2, j, none⟩) (by show gy2 < B; omega)).trans (h.y1 j u d hj).2⟩,
    (hb.cell (p := ⟨gx1, n, none⟩) (by show gx1 < B; omega)).trans h.x2, (hb.cell (p := ⟨gy1, n, none⟩) (by show gy1 < B; omega)).trans h.y2, h.lt⟩
theorem rows_gaps {W6 W8 W0 : World} {B6 B8 q gx1 gx2 gy1 gy2 n : Nat} {x y : GSt} (hx : x.1.length = n) (hy : y.1.length = n)
    (X1 : W6.ownsRow B6 9 1 (.slice (some ⟨gx1, 0, none⟩) (n + 1) (n + 1)) (n + 1) ((strsP n x).map strV)) (X2 : W6.ownsRow B6 4 1 (.slice (some ⟨gx2, 0, none⟩) n n) n ((boolsP n x).map Value.bool))
    (Y1 : W8.ownsRow B8 9 1 (.slice (some ⟨gy1, 0, none⟩) (n + 1) (n + 1)) (n + 1) ((strsP n y).map strV)) (Y2 : W8.ownsRow B8 4 1 (.slice (some ⟨gy2, 0, none⟩) n n) n ((boolsP n y).map Value.bool))
    (b6 : Below W6.heap.size W6 W0) (b8 : Below W8.heap.size W8 W0) (s6 : W6.heap.size ≤ q) (s8 : W8.heap.size ≤ q)
    (a0 : W0.cell? ⟨q, 0, none⟩ = some (.slice (some ⟨gx1, 0, none⟩) (n + 1) (n + 1))) (a1 : W0.cell? ⟨q, 1, none⟩ = some (.slice (some ⟨gx2, 0, none⟩) n n)) (b0 : W0.cell? ⟨q + 1, 0, none⟩ = some (.slice (some ⟨gy1, 0, none⟩) (n + 1) (n + 1))) (b1 : W0.cell? ⟨q + 1, 1, none⟩ = some (.slice (some ⟨gy2, 0, none⟩) n n)) :
    gapsAt W0 q gx1 gx2 gy1 gy2 n x y := by
  have lx1 := (X1.lt gx1 rfl).2
  have lx2 := (X2.lt gx2 rfl).2
  have ly1 := (Y1.lt gy1 rfl).2
  have ly2 := (Y2.lt gy2 rfl).2
  have key : ∀ (x : GSt), x.1.length = n → (∀ (j : Nat) (u : List UInt8) (d : Bool), x.1[j]? = some (u, d) → ((strsP n x).map strV)[j]? = some (Value.string ⟨u.toArray⟩) ∧ ((boolsP n x).map Value.bool)[j]? = some (Value.bool d)) ∧ ((strsP n x).map strV)[n]? = some (Value.string ⟨x.2.toArray⟩) := by
    intro x hx
    refine ⟨fun j u d hj => ?_, ?_⟩
    · have hlt := (List.getElem?_eq_some_iff.1 hj).1
      have e1 : (strsP n x)[j]? = some u := by
        unfold strsP
        rw [List.getElem?_append_left (by simpa using hlt), List.getElem?_map, hj]; rfl
      have e2 : (boolsP n x)[j]? = some d := by
        unfold boolsP
        rw [List.getElem?_append_left (by simpa using hlt), List.getElem?_map, hj]; rfl
      rw [List.getElem?_map, e1, List.getElem?_map, e2]
      exact ⟨rfl, rfl⟩
    · have e1 : (strsP n x)[n]? = some x.2 := by
        unfold strsP
        rw [List.getElem?_append_right (by simp [hx])]
        simp [hx]
      rw [List.getElem?_map, e1]; rfl
  obtain ⟨kx1, kx2⟩ := key x hx
  obtain ⟨ky1, ky2⟩ := key y hy
  refine ⟨a0, a1, b0, b1, fun j u d hj => ?_, fun j u d hj => ?_, ?_, ?_, by omega, by omega, by omega, by omega⟩
  · have hlt := (List.getElem?_eq_some_iff.1 hj).1
    obtain ⟨k1, k2⟩ := kx1 j u d hj
    exact ⟨(b6.cell (p := ⟨gx1, j, none⟩) lx1).trans ((X1.cellAt j (by omega)).trans k1), (b6.cell (p := ⟨gx2, j, none⟩) lx2).trans ((X2.cellAt j (by omega)).trans k2)⟩
  · have hlt := (List.getElem?_eq_some_iff.1 hj).1
    obtain ⟨k1, k2⟩ := ky1 j u d hj
    exact ⟨(b8.cell (p := ⟨gy1, j, none⟩) ly1).trans ((Y1.cellAt j (by omega)).trans k1), (b8.cell (p := ⟨gy2, j, none⟩) ly2).trans ((Y2.cellAt j (by omega)).trans k2)⟩
  · exact (b6.cell (p := ⟨gx1, n, none⟩) lx1).trans ((X1.cellAt n (by omega)).trans kx2)
  · exact (b8.cell (p := ⟨gy1, n, none⟩) ly1).trans ((Y1.cellAt n (by omega)).trans ky2)

set_option maxRecDepth 100000 in
set_option maxHeartbeats 2000000 in
theorem refTrans_err (v1 v2 : Value) (first : Bool) (a b : List Pt) (w : World) (h1 : opAt w v1 a) (h2 : opAt w v2 b) (w1 : ∀ p ∈ a, wfP p) (w2 : ∀ p ∈ b, wfP p) (s1 : ∀ p ∈ a, p.put.length < 100000000) (s2 : ∀ p ∈ b, p.put.length < 100000000) (l1 : a.length < 10000000) (l2 : b.length < 10000000) (he : bothE a b ≠ 0) :
    Calls Tryz.prog 123 #[v1, v2, .bool first] w fun e w' => e = .returned (.tuple #[.slice none 0 0, .int .i64 (bothE a b)]) ∧ Below w.heap.size w w' := by
  have cB : Hid _ := refBoth_any v1 v2 a b w h1 h2 w1 w2 s1 s2 l1 l2
  have hne : ¬ bothE a b = 0 := he
  generalize bothE a b = E at *
  obtain ⟨p1, c1, rfl, _⟩ := h1
  obtain ⟨p2, c2, rfl, _⟩ := h2
  clear w1 w2 s1 s2 he
  go_enter Tryz.func123, Tryz.ntmps123
  go_wp2_with (first
    | (go_at_call 176; refine Calls.mono cB.out ?_; rintro e w1 ⟨rfl, hb1⟩)
    | fail)
  go_ret2
  exact ⟨rfl, hb1⟩
set_option maxRecDepth 100000 in
set_option maxHeartbeats 2000000 in
theorem refTrans_len (v1 v2 : Value) (first : Bool) (a b : List Pt) (w : World) (h1 : opAt w v1 a) (h2 : opAt w v2 b) (w1 : ∀ p ∈ a, wfP p) (w2 : ∀ p ∈ b, wfP p) (s1 : ∀ p ∈ a, p.put.length < 100000000) (s2 : ∀ p ∈ b, p.put.length < 100000000) (l1 : a.length < 10000000) (l2 : b.length < 10000000) (he : bothE a b = 0) (hl : (lensW b).1 ≠ (lensW a).1) :
    Calls Tryz.prog 123 #[v1, v2, .bool first] w fun e w' => e = .returned (.tuple #[.slice none 0 0, .int .i64 (2)]) ∧ Below w.heap.size w w' := by
  have cB : Hid _ := refBoth_any v1 v2 a b w h1 h2 w1 w2 s1 s2 l1 l2
  rw [he] at cB
  have cL1 : Hid (∀ wx, Below w.heap.size w wx → Calls Tryz.prog 177 #[v1] wx fun e w' => e = .returned (.tuple #[.int .i64 (lensW a).1, .int .i64 (lensW a).2]) ∧ Below wx.heap.size wx w') := fun wx hb => refLens_any v1 a wx (opAt_grown h1 hb) l1
  have cL2 : Hid (∀ wx, Below w.heap.size w wx → Calls Tryz.prog 177 #[v2] wx fun e w' => e = .returned (.tuple #[.int .i64 (lensW b).1, .int .i64 (lensW b).2]) ∧ Below wx.heap.size wx w') := fun wx hb => refLens_any v2 b wx (opAt_grown h2 hb) l2
  generalize (lensW a).1 = A1 at *
  generalize (lensW a).2 = A2 at *
  generalize (lensW b).1 = B1 at *
  generalize (lensW b).2 = B2 at *
  obtain ⟨p1, c1, rfl, _⟩ := h1
  obtain ⟨p2, c2, rfl, _⟩ := h2
  clear w1 w2 s1 s2 he
  go_enter Tryz.func123, Tryz.ntmps123
  go_wp2_with (first
    | (have _ := HB2; go_at_call 177; refine (cL2.out _ HB2.out).mono ?_; rintro e w3 ⟨rfl, hb3⟩; have HB3 : Hid (Below w.heap.size w w3) := HB2.out.trans (hb3.mono HB2.out.size); clear hb3)
    | (go_at_call 177; refine (cL1.out _ HB1.out).mono ?_; rintro e w2 ⟨rfl, hb2⟩; have HB2 : Hid (Below w.heap.size w w2) := HB1.out.trans (hb2.mono HB1.out.size); clear hb2)
    | (go_at_call 176; refine Calls.mono cB.out ?_; rintro e w1 ⟨rfl, hb1⟩; have HB1 : Hid (Below w.heap.size w w1) := hb1; clear hb1)
    | fail)
  go_ret2
  exact ⟨rfl, HB3.out⟩
end Go.Proofs.YtfedgjnhanlmeabGreatDoor

namespace Go.Proofs.YtfedgjnhanlmeabGreatDoor
open Go.RowKit
set_option linter.unusedVariables false
attribute [local go_sem] Oper.semAt_some

set_option maxRecDepth 100000 in
set_option maxHeartbeats 8000000 in
theorem refTrans_trueN (v1 v2 : Value) (a b : List Pt) (w : World) (h1 : opAt w v1 a) (h2 : opAt w v2 b) (w1 : ∀ p ∈ a, wfP p) (w2 : ∀ p ∈ b, wfP p) (s1 : ∀ p ∈ a, p.put.length < 100000000) (s2 : ∀ p ∈ b, p.put.length < 100000000) (f1 : fineP a) (f2 : fineP b) (he : bothE a b = 0) (hl : (lensW b).1 = (lensW a).1) :
    Calls Tryz.prog 123 #[v1, v2, .bool true] w fun e w' => ∃ v', e = .returned (.tuple #[v', .int .i64 0]) ∧ opN w.heap.size w' v' (normP (outJ true (spreads (normP a)) (spreads (normP b)) ((spreads (normP a)).1.length + 1))) ∧ Below w.heap.size w w' := by
  have cB : Hid _ := refBoth_any v1 v2 a b w h1 h2 w1 w2 s1 s2 f1.len f2.len
  rw [he] at cB
  have cL1 : Hid (∀ wx, Below w.heap.size w wx → Calls Tryz.prog 177 #[v1] wx fun e w' => e = .returned (.tuple #[.int .i64 (lensW a).1, .int .i64 (lensW a).2]) ∧ Below wx.heap.size wx w') := fun wx hb => refLens_any v1 a wx (opAt_grown h1 hb) f1.len
  have cL2 : Hid (∀ wx, Below w.heap.size w wx → Calls Tryz.prog 177 #[v2] wx fun e w' => e = .returned (.tuple #[.int .i64 (lensW b).1, .int .i64 (lensW b).2]) ∧ Below wx.heap.size wx w') := fun wx hb => refLens_any v2 b wx (opAt_grown h2 hb) f2.len
  obtain ⟨n1, n2, n3, n4⟩ := fine_norm f1
  obtain ⟨m1, m2, m3, m4⟩ := fine_norm f2
  have sn1 := ones_sound fun p hp => (n1 p hp).1
  have sm1 := ones_sound fun p hp => (m1 p hp).1
  have hwn : wts (normP a) < 10000000 := by rw [norm_wts a (ones_sound f1.one)]; have := f1.w; omega
  have hwm : wts (normP b) < 10000000 := by rw [norm_wts b (ones_sound f2.one)]; have := f2.w; omega
  have hln : (normP a).length < 10000000 := by
    have := weight_wts _ fun p hp => (n1 p hp).1
    have key : ∀ (l : List Pt), (∀ p ∈ l, oneP p) → l.length ≤ weight l := by
      intro l
      induction l with
      | nil => intro _; simp
      | cons p l ih => intro h; have h1 := length_pos (h p (by simp)); have h2 := ih fun q hq => h q (by simp [hq]); rw [weight_cons, List.length_cons]; omega
    have := key _ fun p hp => (n1 p hp).1
    omega
  have hlm : (normP b).length < 10000000 := by
    have key : ∀ (l : List Pt), (∀ p ∈ l, oneP p) → l.length ≤ weight l := by
      intro l
      induction l with
      | nil => intro _; simp
      | cons p l ih => intro h; have h1 := length_pos (h p (by simp)); have h2 := ih fun q hq => h q (by simp [hq]); rw [weight_cons, List.length_cons]; omega
    have := key _ fun p hp => (m1 p hp).1
    omega
  have hA1 : (lensW a).1 = ((spreads (normP a)).1.length : Int) := by
    rw [(fine_lens f1).1, ← n3, ← lensU_long _ sn1, spreads_eq]; rfl
  have hB1 : (lensW b).1 = ((spreads (normP b)).1.length : Int) := by
    rw [(fine_lens f2).1, ← m3, ← lensU_long _ sm1, spreads_eq]; rfl
  have hnn : (spreads (normP b)).1.length = (spreads (normP a)).1.length := by omega
  have hn9 : (spreads (normP a)).1.length < 3000000 := by
    have h8 := (lens_plain (normP a) sn1 (by omega)).2.2.1
    rw [norm_wts a (ones_sound f1.one)] at h8
    have := f1.w
    omega
  have cS1 : Hid (∀ wx, Below w.heap.size w wx → _) := fun wx (hb : Below w.heap.size w wx) => refNorm_any v1 a wx (opAt_grown h1 hb) (ones_sound f1.one) (by have := f1.w; omega) f1.len
  have cS3 : Hid (∀ wx, Below w.heap.size w wx → _) := fun wx (hb : Below w.heap.size w wx) => refNorm_any v2 b wx (opAt_grown h2 hb) (ones_sound f2.one) (by have := f2.w; omega) f2.len
  have cS2 : Hid (∀ (v' : Value) wx, opAt wx v' (normP a) → _) := fun v' wx (ho : opAt wx v' (normP a)) => Spread_any v' (normP a) wx ho sn1 hwn hln _ rfl
  have cS4 : Hid (∀ (v' : Value) wx, opAt wx v' (normP b) → _) := fun v' wx (ho : opAt wx v' (normP b)) => Spread_any v' (normP b) wx ho sm1 hwm hlm _ hnn
  have hSm : ∀ p ∈ outJ true (spreads (normP a)) (spreads (normP b)) ((spreads (normP a)).1.length + 1), soundP p := outJ_sound _ _ _ _
  have hWt : wts (outJ true (spreads (normP a)) (spreads (normP b)) ((spreads (normP a)).1.length + 1)) < 10000000 := by
    have e1 := putsK_spreads (normP a) sn1
    have e2 := putsK_spreads (normP b) sm1
    have e3 := outJ_wts true (spreads (normP a)) (spreads (normP b)) ((spreads (normP a)).1.length + 1)
    have e4 := norm_wts a (ones_sound f1.one)
    have e5 := norm_wts b (ones_sound f2.one)
    have e6 := f1.w
    have e7 := f2.w
    have e8 := (lens_plain (normP a) sn1 (by omega)).2.2.1
    omega
  obtain ⟨x, hx⟩ : ∃ x, spreads (normP a) = x := ⟨_, rfl⟩
  obtain ⟨y, hy⟩ : ∃ y, spreads (normP b) = y := ⟨_, rfl⟩
  rw [hx] at hA1 hnn hn9 cS2 hSm hWt ⊢
  rw [hy] at hB1 hnn cS4 hSm hWt ⊢
  rw [hx] at cS4
  obtain ⟨n, hn⟩ : ∃ n, x.1.length = n := ⟨_, rfl⟩
  rw [hn] at hA1 hnn hn9 cS2 cS4 hSm hWt ⊢
  rw [hl] at cL2
  have hN : (lensW a).1 = (n : Int) := hA1
  generalize (lensW a).1 = N at cL1 cL2 hN
  have HN : Hid (N = (n : Int)) := hN
  have hN1 : 0 ≤ N := by omega
  have hN2 : N < 3000000 := by omega
  clear hN
  have HXL : Hid (x.1.length = n) := hn
  have HYL : Hid (y.1.length = n) := hnn
  have HSm : Hid _ := hSm
  have HWt : Hid _ := hWt
  clear hl hA1
  generalize (lensW a).2 = A2 at *
  generalize (lensW b).2 = B2 at *
  obtain ⟨p1, c1, rfl, _⟩ := h1
  obtain ⟨p2, c2, rfl, _⟩ := h2
  clear w1 w2 s1 s2 f1 f2 he hB1 hnn hn hSm hWt n1 n2 n3 n4 m1 m2 m3 m4 sn1 sm1 hwn hwm hln hlm hx hy
  obtain ⟨na, hna⟩ : ∃ l, normP a = l := ⟨_, rfl⟩
  obtain ⟨nb, hnb⟩ : ∃ l, normP b = l := ⟨_, rfl⟩
  rw [hna] at cS1 cS2
  rw [hnb] at cS3 cS4
  clear hna hnb
  obtain ⟨LF, hLF⟩ : ∃ l, outJ true x y (n + 1) = l := ⟨_, rfl⟩
  rw [hLF] at HSm HWt ⊢
  have HLF : Hid (outJ true x y (n + 1) = LF) := hLF
  clear hLF
  go_enter Tryz.func123, Tryz.ntmps123
  go_wp2_with (first
    | (have _ := HO6; go_at_call 181; refine (cS4.out _ _ (opAt_own HO6.out)).mono ?_; rintro e w9 ⟨gy1, gy2, rfl, o1, o2, hb⟩; have HY1 : Hid (w9.ownsRow w8.heap.size 9 1 (.slice (some ⟨gy1, 0, none⟩) (n + 1) (n + 1)) (n + 1) ((strsP n y).map strV)) := o1; have HY2 : Hid (w9.ownsRow w8.heap.size 4 1 (.slice (some ⟨gy2, 0, none⟩) n n) n ((boolsP n y).map Value.bool)) := o2; have HB89 : Hid (Below w8.heap.size w8 w9) := hb; clear o1 o2 hb)
    | (have _ := HG7; go_at_call 178; refine Calls.mono HG7.out ?_; rintro e w8 ⟨v8, rfl, o8, hb8⟩; have HO6 : Hid (w8.ownsRow w7.heap.size 50 3 v8 nb.length (cellsP nb)) := o8; have HB8 : Hid (Below w.heap.size w w8) := HB7.out.trans (hb8.mono HB7.out.size); have HB68 : Hid (Below w6.heap.size w6 w8) := HB67.out.trans (hb8.mono HB67.out.size); obtain ⟨p8, c8, rfl⟩ := own_slice o8; clear o8 hb8)
    | (have _ := HX1; go_at_call 181; refine (cS3.out _ HB6.out).mono ?_; rintro e w7 ⟨g7, rfl, hb7, hc7⟩; have HG7 : Hid _ := hc7; have HB7 : Hid (Below w.heap.size w w7) := HB6.out.trans (hb7.mono HB6.out.size); have HB67 : Hid (Below w6.heap.size w6 w7) := hb7; clear hb7 hc7)
    | (have _ := HO5; go_at_call 181; refine (cS2.out _ _ (opAt_own HO5.out)).mono ?_; rintro e w6 ⟨gx1, gx2, rfl, o1, o2, hb⟩; have HX1 : Hid (w6.ownsRow w5.heap.size 9 1 (.slice (some ⟨gx1, 0, none⟩) (n + 1) (n + 1)) (n + 1) ((strsP n x).map strV)) := o1; have HX2 : Hid (w6.ownsRow w5.heap.size 4 1 (.slice (some ⟨gx2, 0, none⟩) n n) n ((boolsP n x).map Value.bool)) := o2; have HB6 : Hid (Below w.heap.size w w6) := HB5.out.trans (hb.mono HB5.out.size); clear o1 o2 hb)
    | (have _ := HG4; go_at_call 178; refine Calls.mono HG4.out ?_; rintro e w5 ⟨v5, rfl, o5, hb5⟩; have HO5 : Hid (w5.ownsRow w4.heap.size 50 3 v5 na.length (cellsP na)) := o5; have HB5 : Hid (Below w.heap.size w w5) := HB4.out.trans (hb5.mono HB4.out.size); obtain ⟨p5, c5, rfl⟩ := own_slice o5; clear o5 hb5)
    | (have _ := HB3; go_at_call 181; refine (cS1.out _ HB3.out).mono ?_; rintro e w4 ⟨g4, rfl, hb4, hc4⟩; have HG4 : Hid _ := hc4; have HB4 : Hid (Below w.heap.size w w4) := HB3.out.trans (hb4.mono HB3.out.size); clear hb4 hc4)
    | (have _ := HB2; go_at_call 177; refine (cL2.out _ HB2.out).mono ?_; rintro e w3 ⟨rfl, hb3⟩; have HB3 : Hid (Below w.heap.size w w3) := HB2.out.trans (hb3.mono HB2.out.size); clear hb3)
    | (have _ := HB1; go_at_call 177; refine (cL1.out _ HB1.out).mono ?_; rintro e w2 ⟨rfl, hb2⟩; have HB2 : Hid (Below w.heap.size w w2) := HB1.out.trans (hb2.mono HB1.out.size); clear hb2)
    | (go_at_call 176; refine Calls.mono cB.out ?_; rintro e w1 ⟨rfl, hb1⟩; have HB1 : Hid (Below w.heap.size w w1) := hb1; clear hb1)
    | fail)
  obtain ⟨W0, hW0⟩ : ∃ W0, W0 = (((w9.alloc (.cells #[.slice (some ⟨gx1, 0, none⟩) (n + 1) (n + 1), .slice (some ⟨gx2, 0, none⟩) n n] 287)).alloc (.cells #[.slice (some ⟨gy1, 0, none⟩) (n + 1) (n + 1), .slice (some ⟨gy2, 0, none⟩) n n] 287)).alloc (.cells #[.slice none 0 0] 23)) := ⟨_, rfl⟩
  rw [← hW0]
  have hb90 : Below w9.heap.size w9 W0 := by rw [hW0]; exact (((Below.refl _ _).alloc (Nat.le_refl _) _).alloc (by simp) _).alloc (by simp; omega) _
  have hs0 : W0.heap.size = w9.heap.size + 1 + 1 + 1 := by rw [hW0]; simp
  have hb69 : Below w6.heap.size w6 W0 := (HB68.out.trans (HB89.out.mono HB68.out.size)).trans (hb90.mono (Nat.le_trans HB68.out.size HB89.out.size))
  have hb80 : Below w9.heap.size w9 W0 := hb90
  have HGP : Hid (gapsAt W0 w9.heap.size gx1 gx2 gy1 gy2 n x y) := rows_gaps HXL.out HYL.out HX1.out HX2.out HY1.out HY2.out hb69 hb90 (Nat.le_trans HB68.out.size HB89.out.size) (Nat.le_refl _)
    (by rw [hW0]; simp [go_sem]) (by rw [hW0]; simp [go_sem]) (by rw [hW0]; simp [go_sem]) (by rw [hW0]; simp [go_sem])
  have HBW : Hid (Below w.heap.size w W0) := (HB8.out.trans (HB89.out.mono HB8.out.size)).trans (hb90.mono (Nat.le_trans HB8.out.size HB89.out.size))
  have HSZ : Hid (w.heap.size ≤ w9.heap.size) := Nat.le_trans HB8.out.size HB89.out.size
  have hst : trR true x y n (w9.heap.size + 1 + 1) W0 (n + 1) (.int .i64 0) W0 := by
    refine ⟨0, rfl, by omega, ⟨⟨none, 0, ?_, ?_⟩, ?_⟩, .refl _ _⟩
    · have e : outJ true x y 0 = [] := by simp [outJ]
      rw [e, hW0]; simp [go_sem]
    · have e : outJ true x y 0 = [] := by simp [outJ]
      rw [e]; exact World.ownsRow_nil _ _ _ _
    · rw [hW0]; simp [go_sem]
  have HST : Hid (trR true x y n (w9.heap.size + 1 + 1) W0 (n + 1) (.int .i64 0) W0) := hst
  clear hst hW0 hb90 hs0 hb69 hb80 HB1 HB2 HB3 HG4 HB4 HO5 HB5 HX1 HX2 HB6 HG7 HB7 HB67 HO6 HB8 HB68 HY1 HY2 HB89 cB cL1 cL2 cS1 cS2 cS3 cS4
  go_loopg [50] (n + 1) (fun k i wr => trR true x y n (w9.heap.size + 1 + 1) W0 k i wr)
  case atStart => exact HST.out
  case round =>
    obtain ⟨j, rfl, hjk, ho, hb⟩ := hrel
    have HOR : Hid (outAt wr (w9.heap.size + 1 + 1) (outJ true x y j)) := ho
    have HBR : Hid (Below (w9.heap.size + 1 + 1) W0 wr) := hb
    have hlen := outJ_len true x y j
    clear HST ho hb
    rcases Nat.lt_or_ge n j with hj | hj
    · obtain rfl : gk = 0 := by omega
      obtain rfl : j = n + 1 := by omega
      rw [HLF.out] at HOR hlen
      have ho := HOR.out
      obtain ⟨⟨pL, cL, k1, k2⟩, k3⟩ := ho
      have CS : Hid _ := refNorm_any _ LF wr (opAt_own k2) HSm.out HWt.out (by omega)
      have HLT : Hid (w9.heap.size + 1 + 1 < wr.heap.size) := outAt_lt HOR.out
      have hNn := HN.out
      have hjn : ¬ (((n + 1 : Nat) : Int) < N + 1) := by omega
      clear hj hjk hlen k2 hNn
      go_wp2_with (first
        | (go_at_call 181; refine Calls.mono CS.out ?_; rintro e w2 ⟨g2, rfl, hb2, hc2⟩; have HC2 : Hid _ := hc2; have HB2 : Hid (Below wr.heap.size wr w2) := hb2; clear hb2 hc2)
        | (have _ := HC2; go_at_call 178; refine Calls.mono HC2.out ?_; rintro e w3 ⟨v3, rfl, o3, hb3⟩)
        | fail)
      obtain ⟨p3, c3, rfl⟩ := own_slice o3
      go_ret2
      have hB := HBW.out.trans (HBR.out.mono (show w.heap.size ≤ w9.heap.size + 1 + 1 by have := HSZ.out; omega))
      exact ⟨_, rfl, opN_own (Nat.le_trans hB.size HB2.out.size) o3, (hB.trans (HB2.out.mono hB.size)).trans (hb3.mono (Nat.le_trans hB.size HB2.out.size))⟩
    rcases Nat.lt_or_ge j n with hj2 | hj2
    rotate_left
    · obtain rfl : j = n := by omega
      obtain rfl : gk = 1 := by omega
      have hstep : outJ true x y (j + 1) = outJ true x y j ++ (putO x.2 ++ keepO y.2.length) := by
        have := outJ_last (first := true) (HXL.out.trans HYL.out.symm)
        rw [HXL.out] at this
        exact this
      obtain ⟨L, hL⟩ : ∃ L, outJ true x y j = L := ⟨_, rfl⟩
      rw [hL] at HOR hlen hstep
      have GPwr : Hid (gapsAt wr w9.heap.size gx1 gx2 gy1 gy2 j x y) := gapsAt_below HGP.out HBR.out (Nat.le_refl _)
      have fa0wr := GPwr.out.a0
      have fb0wr := GPwr.out.b0
      have fxwr := GPwr.out.x2
      have fywr := GPwr.out.y2
      have HXE : Hid (gapsAt W0 w9.heap.size gx1 gx2 gy1 gy2 j x y) := HGP.out
      obtain ⟨U, hU⟩ : ∃ U, x.2 = U := ⟨_, rfl⟩
      obtain ⟨V, hV⟩ : ∃ V, y.2 = V := ⟨_, rfl⟩
      rw [hU] at hstep fxwr
      rw [hV] at hstep fywr
      have HU : Hid (x.2 = U) := hU
      have HV : Hid (y.2 = V) := hV
      have hzv : (ByteArray.mk V.toArray).size = V.length := by simp [ByteArray.size]
      have cP : Hid (∀ W l, outAt W (w9.heap.size + 1 + 1) l → l.length < 1000000000 → Calls Tryz.prog 183 #[.string ⟨U.toArray⟩, .pointer (some ⟨w9.heap.size + 1 + 1, 0, none⟩)] W fun e w' => (∃ v, e = .returned v) ∧ outAt w' (w9.heap.size + 1 + 1) (l ++ putO U) ∧ Below (w9.heap.size + 1 + 1) W w') := fun W l h hl => tPut_any _ l U W h hl
      have cK : Hid (∀ W l, outAt W (w9.heap.size + 1 + 1) l → l.length < 1000000000 → Calls Tryz.prog 182 #[.int .i64 (V.length : Int), .pointer (some ⟨w9.heap.size + 1 + 1, 0, none⟩)] W fun e w' => (∃ v, e = .returned v) ∧ outAt w' (w9.heap.size + 1 + 1) (l ++ keepO V.length) ∧ Below (w9.heap.size + 1 + 1) W w') := fun W l h hl => tKeep_any _ l V.length W h hl
      have HSTEP : Hid (outJ true x y (j + 1) = (L ++ putO U) ++ keepO V.length) := by rw [List.append_assoc]; exact hstep
      have hpk : (putO U).length ≤ 1 ∧ (keepO V.length).length ≤ 1 := ⟨by unfold putO; split <;> simp, by unfold keepO; split <;> simp⟩
      have HL0 : Hid (L.length < 1000000000) := show L.length < 1000000000 by omega
      have HL1 : Hid ((L ++ putO U).length < 1000000000) := show (L ++ putO U).length < 1000000000 by rw [List.length_append]; omega
      have hNn := HN.out
      have hjn : (j : Int) < N + 1 := by omega
      have hjd : (j : Int) = N := by omega
      clear hNn
      subst hjd
      have hj9 : (j : Int) < 10000000 := by omega
      clear hL hstep hU hV hpk hjk hlen hj hj2
      go_wp2_with (first
        | (have _ := HO1; go_at_call 182; refine (cK.out _ _ HO1.out HL1.out).mono ?_; rintro e w2 ⟨⟨v2, rfl⟩, ho2, hb2⟩; have HO2 : Hid (outAt w2 (w9.heap.size + 1 + 1) ((L ++ putO U) ++ keepO V.length)) := ho2; have HB2 : Hid (Below (w9.heap.size + 1 + 1) W0 w2) := HB1.out.trans hb2; have GPw2 : Hid (gapsAt w2 w9.heap.size gx1 gx2 gy1 gy2 j x y) := gapsAt_below HGP.out HB2.out (Nat.le_refl _); have fa0w2 := GPw2.out.a0; have fb0w2 := GPw2.out.b0; have fxw2 := GPw2.out.x2; rw [HU.out] at fxw2; have fyw2 := GPw2.out.y2; rw [HV.out] at fyw2; clear ho2 hb2)
        | (go_at_call 183; refine (cP.out _ _ HOR.out HL0.out).mono ?_; rintro e w1 ⟨⟨v1, rfl⟩, ho1, hb1⟩; have HO1 : Hid (outAt w1 (w9.heap.size + 1 + 1) (L ++ putO U)) := ho1; have HB1 : Hid (Below (w9.heap.size + 1 + 1) W0 w1) := HBR.out.trans hb1; have GPw1 : Hid (gapsAt w1 w9.heap.size gx1 gx2 gy1 gy2 j x y) := gapsAt_below HGP.out HB1.out (Nat.le_refl _); have fa0w1 := GPw1.out.a0; have fb0w1 := GPw1.out.b0; have fxw1 := GPw1.out.x2; rw [HU.out] at fxw1; have fyw1 := GPw1.out.y2; rw [HV.out] at fyw1; clear ho1 hb1)
        | fail)
      go_roundg 0
      case measure => omega
      case rel => exact ⟨j + 1, by go_num, by omega, by rw [HSTEP.out]; exact HO2.out, HB2.out⟩
    · obtain ⟨⟨u, d⟩, hxj⟩ : ∃ z, x.1[j]? = some z := ⟨_, List.getElem?_eq_getElem (by rw [HXL.out]; exact hj2)⟩
      obtain ⟨⟨v, e⟩, hyj⟩ : ∃ z, y.1[j]? = some z := ⟨_, List.getElem?_eq_getElem (by rw [HYL.out]; exact hj2)⟩
      have HXJ : Hid (x.1[j]? = some (u, d)) := hxj
      have HYJ : Hid (y.1[j]? = some (v, e)) := hyj
      have hstep : outJ true x y (j + 1) = outJ true x y j ++ ((putO u ++ keepO v.length) ++ unitO e d) := outJ_step (first := true) (HXL.out.trans HYL.out.symm) (by rw [HXL.out]; exact hj2) hxj hyj
      obtain ⟨L, hL⟩ : ∃ L, outJ true x y j = L := ⟨_, rfl⟩
      rw [hL] at HOR hlen hstep
      have GPwr : Hid (gapsAt wr w9.heap.size gx1 gx2 gy1 gy2 n x y) := gapsAt_below HGP.out HBR.out (Nat.le_refl _)
      have fa0wr := GPwr.out.a0
      have fa1wr := GPwr.out.a1
      have fb0wr := GPwr.out.b0
      have fb1wr := GPwr.out.b1
      have fxwr := (GPwr.out.x1 _ _ _ HXJ.out).1
      have fxdwr := (GPwr.out.x1 _ _ _ HXJ.out).2
      have fywr := (GPwr.out.y1 _ _ _ HYJ.out).1
      have fydwr := (GPwr.out.y1 _ _ _ HYJ.out).2
      have hzv : (ByteArray.mk v.toArray).size = v.length := by simp [ByteArray.size]
      have cP : Hid (∀ W l, outAt W (w9.heap.size + 1 + 1) l → l.length < 1000000000 → Calls Tryz.prog 183 #[.string ⟨u.toArray⟩, .pointer (some ⟨w9.heap.size + 1 + 1, 0, none⟩)] W fun e w' => (∃ v, e = .returned v) ∧ outAt w' (w9.heap.size + 1 + 1) (l ++ putO u) ∧ Below (w9.heap.size + 1 + 1) W w') := fun W l h hl => tPut_any _ l u W h hl
      have cK : Hid (∀ W l, outAt W (w9.heap.size + 1 + 1) l → l.length < 1000000000 → Calls Tryz.prog 182 #[.int .i64 (v.length : Int), .pointer (some ⟨w9.heap.size + 1 + 1, 0, none⟩)] W fun e w' => (∃ v, e = .returned v) ∧ outAt w' (w9.heap.size + 1 + 1) (l ++ keepO v.length) ∧ Below (w9.heap.size + 1 + 1) W w') := fun W l h hl => tKeep_any _ l v.length W h hl
      have cU : Hid (∀ W l, outAt W (w9.heap.size + 1 + 1) l → l.length < 1000000000 → Calls Tryz.prog 182 #[.int .i64 1, .pointer (some ⟨w9.heap.size + 1 + 1, 0, none⟩)] W fun e w' => (∃ v, e = .returned v) ∧ outAt w' (w9.heap.size + 1 + 1) (l ++ [⟨1, 0, []⟩]) ∧ Below (w9.heap.size + 1 + 1) W w') := fun W l h hl => tKeep_any _ l 1 W h hl
      have HSTEP : Hid (outJ true x y (j + 1) = ((L ++ putO u) ++ keepO v.length) ++ unitO e d) := by rw [List.append_assoc L, List.append_assoc L]; exact hstep
      have hpk : (putO u).length ≤ 1 ∧ (keepO v.length).length ≤ 1 := ⟨by unfold putO; split <;> simp, by unfold keepO; split <;> simp⟩
      have HL0 : Hid (L.length < 1000000000) := show L.length < 1000000000 by omega
      have HL1 : Hid ((L ++ putO u).length < 1000000000) := show (L ++ putO u).length < 1000000000 by rw [List.length_append]; omega
      have HL2' : ((L ++ putO u) ++ keepO v.length).length < 100000000 := by rw [List.length_append, List.length_append]; omega
      obtain ⟨L2, hL2⟩ : ∃ l, (L ++ putO u) ++ keepO v.length = l := ⟨_, rfl⟩
      rw [hL2] at HSTEP HL2'
      have HL2 : Hid (L2.length < 100000000) := HL2'
      have HE2 : Hid ((L ++ putO u) ++ keepO v.length = L2) := hL2
      clear HL2' hL2
      have hjn2 : (j : Int) < (n : Int) := by omega
      have hNn := HN.out
      have hjn : (j : Int) < N + 1 := by omega
      have hjd : ((j : Int) == N) = false := beq_eq_false_iff_ne.2 (by omega)
      clear hNn
      have hj9 : (j : Int) < 10000000 := by omega
      obtain ⟨k, rfl⟩ : ∃ k, gk = k + 1 := ⟨gk - 1, by omega⟩
      have HJK : Hid (j + (k + 1) = n + 1) := hjk
      clear hL hstep hpk hjk hlen hj hj2 hxj hyj
      cases e with
      | true =>
        go_wp2_with (first
          | (have _ := HO1; go_at_call 182; refine (cK.out _ _ HO1.out HL1.out).mono ?_; rintro e w2 ⟨⟨v2, rfl⟩, ho2, hb2⟩; have HO2 : Hid (outAt w2 (w9.heap.size + 1 + 1) L2) := (by rw [← HE2.out]; exact ho2); have HB2 : Hid (Below (w9.heap.size + 1 + 1) W0 w2) := HB1.out.trans hb2; have GPw2 : Hid (gapsAt w2 w9.heap.size gx1 gx2 gy1 gy2 n x y) := gapsAt_below HGP.out HB2.out (Nat.le_refl _); have fa0w2 := GPw2.out.a0; have fa1w2 := GPw2.out.a1; have fb0w2 := GPw2.out.b0; have fb1w2 := GPw2.out.b1; have fxw2 := (GPw2.out.x1 _ _ _ HXJ.out).1; have fxdw2 := (GPw2.out.x1 _ _ _ HXJ.out).2; have fyw2 := (GPw2.out.y1 _ _ _ HYJ.out).1; have fydw2 := (GPw2.out.y1 _ _ _ HYJ.out).2; clear ho2 hb2)
          | (go_at_call 183; refine (cP.out _ _ HOR.out HL0.out).mono ?_; rintro e w1 ⟨⟨v1, rfl⟩, ho1, hb1⟩; have HO1 : Hid (outAt w1 (w9.heap.size + 1 + 1) (L ++ putO u)) := ho1; have HB1 : Hid (Below (w9.heap.size + 1 + 1) W0 w1) := HBR.out.trans hb1; have GPw1 : Hid (gapsAt w1 w9.heap.size gx1 gx2 gy1 gy2 n x y) := gapsAt_below HGP.out HB1.out (Nat.le_refl _); have fa0w1 := GPw1.out.a0; have fa1w1 := GPw1.out.a1; have fb0w1 := GPw1.out.b0; have fb1w1 := GPw1.out.b1; have fxw1 := (GPw1.out.x1 _ _ _ HXJ.out).1; have fxdw1 := (GPw1.out.x1 _ _ _ HXJ.out).2; have fyw1 := (GPw1.out.y1 _ _ _ HYJ.out).1; have fydw1 := (GPw1.out.y1 _ _ _ HYJ.out).2; clear ho1 hb1)
          | fail)
        go_roundg k
        case measure => omega
        case rel => exact ⟨j + 1, by go_num, by have := HJK.out; omega, by rw [HSTEP.out]; exact (List.append_nil _).symm ▸ HO2.out, HB2.out⟩
      | false =>
        cases d with
        | false =>
          go_wp2_with (first
            | (have _ := HO2; go_at_call 182; refine (cU.out _ _ HO2.out (Nat.lt_trans HL2.out (by decide))).mono ?_; rintro e w3 ⟨⟨v3, rfl⟩, ho3, hb3⟩)
            | (have _ := HO1; go_at_call 182; refine (cK.out _ _ HO1.out HL1.out).mono ?_; rintro e w2 ⟨⟨v2, rfl⟩, ho2, hb2⟩; have HO2 : Hid (outAt w2 (w9.heap.size + 1 + 1) L2) := (by rw [← HE2.out]; exact ho2); have HB2 : Hid (Below (w9.heap.size + 1 + 1) W0 w2) := HB1.out.trans hb2; have GPw2 : Hid (gapsAt w2 w9.heap.size gx1 gx2 gy1 gy2 n x y) := gapsAt_below HGP.out HB2.out (Nat.le_refl _); have fa0w2 := GPw2.out.a0; have fa1w2 := GPw2.out.a1; have fb0w2 := GPw2.out.b0; have fb1w2 := GPw2.out.b1; have fxw2 := (GPw2.out.x1 _ _ _ HXJ.out).1; have fxdw2 := (GPw2.out.x1 _ _ _ HXJ.out).2; have fyw2 := (GPw2.out.y1 _ _ _ HYJ.out).1; have fydw2 := (GPw2.out.y1 _ _ _ HYJ.out).2; clear ho2 hb2)
            | (go_at_call 183; refine (cP.out _ _ HOR.out HL0.out).mono ?_; rintro e w1 ⟨⟨v1, rfl⟩, ho1, hb1⟩; have HO1 : Hid (outAt w1 (w9.heap.size + 1 + 1) (L ++ putO u)) := ho1; have HB1 : Hid (Below (w9.heap.size + 1 + 1) W0 w1) := HBR.out.trans hb1; have GPw1 : Hid (gapsAt w1 w9.heap.size gx1 gx2 gy1 gy2 n x y) := gapsAt_below HGP.out HB1.out (Nat.le_refl _); have fa0w1 := GPw1.out.a0; have fa1w1 := GPw1.out.a1; have fb0w1 := GPw1.out.b0; have fb1w1 := GPw1.out.b1; have fxw1 := (GPw1.out.x1 _ _ _ HXJ.out).1; have fxdw1 := (GPw1.out.x1 _ _ _ HXJ.out).2; have fyw1 := (GPw1.out.y1 _ _ _ HYJ.out).1; have fydw1 := (GPw1.out.y1 _ _ _ HYJ.out).2; clear ho1 hb1)
            | fail)
          go_roundg k
          case measure => omega
          case rel => exact ⟨j + 1, by go_num, by have := HJK.out; omega, by rw [HSTEP.out]; exact ho3, HB2.out.trans hb3⟩
        | true =>
          go_upto_region 22 with (first
            | (have _ := HO1; go_at_call 182; refine (cK.out _ _ HO1.out HL1.out).mono ?_; rintro e w2 ⟨⟨v2, rfl⟩, ho2, hb2⟩; have HO2 : Hid (outAt w2 (w9.heap.size + 1 + 1) L2) := (by rw [← HE2.out]; exact ho2); have HB2 : Hid (Below (w9.heap.size + 1 + 1) W0 w2) := HB1.out.trans hb2; have GPw2 : Hid (gapsAt w2 w9.heap.size gx1 gx2 gy1 gy2 n x y) := gapsAt_below HGP.out HB2.out (Nat.le_refl _); have fa0w2 := GPw2.out.a0; have fa1w2 := GPw2.out.a1; have fb0w2 := GPw2.out.b0; have fb1w2 := GPw2.out.b1; have fxw2 := (GPw2.out.x1 _ _ _ HXJ.out).1; have fxdw2 := (GPw2.out.x1 _ _ _ HXJ.out).2; have fyw2 := (GPw2.out.y1 _ _ _ HYJ.out).1; have fydw2 := (GPw2.out.y1 _ _ _ HYJ.out).2; clear ho2 hb2; have ho2' := HO2.out; obtain ⟨⟨pq, cq, kq1, kq2⟩, kq3⟩ := ho2'; have HRW : Hid (w2.ownsRow (w9.heap.size + 1 + 1 + 1) 50 3 (.slice pq L2.length cq) L2.length (cellsP L2)) := kq2; have HCQ : Hid (w2.cell? ⟨w9.heap.size + 1 + 1, 0, none⟩ = some (.slice pq L2.length cq)) := kq1; have HQ2 : Hid (w9.heap.size + 1 + 1 < w2.heap.size) := outAt_lt HO2.out; have HQ3 : Hid (w2.frozen? ⟨w9.heap.size + 1 + 1, 0, none⟩ = false) := kq3; clear kq1 kq2 kq3)
            | (go_at_call 183; refine (cP.out _ _ HOR.out HL0.out).mono ?_; rintro e w1 ⟨⟨v1, rfl⟩, ho1, hb1⟩; have HO1 : Hid (outAt w1 (w9.heap.size + 1 + 1) (L ++ putO u)) := ho1; have HB1 : Hid (Below (w9.heap.size + 1 + 1) W0 w1) := HBR.out.trans hb1; have GPw1 : Hid (gapsAt w1 w9.heap.size gx1 gx2 gy1 gy2 n x y) := gapsAt_below HGP.out HB1.out (Nat.le_refl _); have fa0w1 := GPw1.out.a0; have fa1w1 := GPw1.out.a1; have fb0w1 := GPw1.out.b0; have fb1w1 := GPw1.out.b1; have fxw1 := (GPw1.out.x1 _ _ _ HXJ.out).1; have fxdw1 := (GPw1.out.x1 _ _ _ HXJ.out).2; have fyw1 := (GPw1.out.y1 _ _ _ HYJ.out).1; have fydw1 := (GPw1.out.y1 _ _ _ HYJ.out).2; clear ho1 hb1)
            | fail)
          obtain ⟨i0, hi, hz0, hz1, hz2⟩ := info_parts info_part
          have kq1 := HCQ.out
          have kq3 := HQ3.out
          have hq2 := HQ2.out
          go_wp2_with (first
            | (have _ := HO2; at_builtin; refine wpList_append_own _ rfl _ _ 23 rfl (w9.heap.size + 1 + 1 + 1) 50 i0 (.agg #[.int .i64 0, .int .i64 0, .string ⟨#[]⟩]) 3 32 Tryz.underlying23 hi hz0 hz1 hz2 rfl (by decide) _ _ _ rfl (HRW.out.alloc _) ⟨w2.heap.size, 0, none⟩ 1 1 (partCells ⟨0, 1, []⟩) rfl rfl (cells_new _ _ _) (partCells_one _) (by have := HL2.out; unfold maxLen; omega) (by have := HL2.out; omega) (by first | omega | (simp; omega)) ?_)
            | fail)
          intro v3 w3 hown3 hg3 _
          have P3 := outAt_push (q := ⟨0, 1, []⟩) HO2.out HCQ.out hown3 hg3
          obtain ⟨p3, q3, hv3⟩ := own_slice hown3
          rw [hv3] at P3 hown3 ⊢
          obtain ⟨G3, B3, r1, r2⟩ := P3
          have HG3 : Hid _ := G3
          have HB3 : Hid _ := B3
          clear G3 B3 hown3 hg3 hv3
          go_wp2
          go_roundg k
          case measure => omega
          case rel => exact ⟨j + 1, by go_num, by have := HJK.out; omega, by rw [HSTEP.out]; exact HG3.out, HB2.out.trans HB3.out⟩
end Go.Proofs.YtfedgjnhanlmeabGreatDoor

namespace Go.Proofs.YtfedgjnhanlmeabGreatDoor
open Go.RowKit
set_option linter.unusedVariables false
attribute [local go_sem] Oper.semAt_some

set_option maxRecDepth 100000 in
set_option maxHeartbeats 8000000 in
theorem refTrans_falseN (v1 v2 : Value) (a b : List Pt) (w : World) (h1 : opAt w v1 a) (h2 : opAt w v2 b) (w1 : ∀ p ∈ a, wfP p) (w2 : ∀ p ∈ b, wfP p) (s1 : ∀ p ∈ a, p.put.length < 100000000) (s2 : ∀ p ∈ b, p.put.length < 100000000) (f1 : fineP a) (f2 : fineP b) (he : bothE a b = 0) (hl : (lensW b).1 = (lensW a).1) :
    Calls Tryz.prog 123 #[v1, v2, .bool false] w fun e w' => ∃ v', e = .returned (.tuple #[v', .int .i64 0]) ∧ opN w.heap.size w' v' (normP (outJ false (spreads (normP a)) (spreads (normP b)) ((spreads (normP a)).1.length + 1))) ∧ Below w.heap.size w w' := by
  have cB : Hid _ := refBoth_any v1 v2 a b w h1 h2 w1 w2 s1 s2 f1.len f2.len
  rw [he] at cB
  have cL1 : Hid (∀ wx, Below w.heap.size w wx → Calls Tryz.prog 177 #[v1] wx fun e w' => e = .returned (.tuple #[.int .i64 (lensW a).1, .int .i64 (lensW a).2]) ∧ Below wx.heap.size wx w') := fun wx hb => refLens_any v1 a wx (opAt_grown h1 hb) f1.len
  have cL2 : Hid (∀ wx, Below w.heap.size w wx → Calls Tryz.prog 177 #[v2] wx fun e w' => e = .returned (.tuple #[.int .i64 (lensW b).1, .int .i64 (lensW b).2]) ∧ Below wx.heap.size wx w') := fun wx hb => refLens_any v2 b wx (opAt_grown h2 hb) f2.len
  obtain ⟨n1, n2, n3, n4⟩ := fine_norm f1
  obtain ⟨m1, m2, m3, m4⟩ := fine_norm f2
  have sn1 := ones_sound fun p hp => (n1 p hp).1
  have sm1 := ones_sound fun p hp => (m1 p hp).1
  have hwn : wts (normP a) < 10000000 := by rw [norm_wts a (ones_sound f1.one)]; have := f1.w; omega
  have hwm : wts (normP b) < 10000000 := by rw [norm_wts b (ones_sound f2.one)]; have := f2.w; omega
  have hln : (normP a).length < 10000000 := by
    have := weight_wts _ fun p hp => (n1 p hp).1
    have key : ∀ (l : List Pt), (∀ p ∈ l, oneP p) → l.length ≤ weight l := by
      intro l
      induction l with
      | nil => intro _; simp
      | cons p l ih => intro h; have h1 := length_pos (h p (by simp)); have h2 := ih fun q hq => h q (by simp [hq]); rw [weight_cons, List.length_cons]; omega
    have := key _ fun p hp => (n1 p hp).1
    omega
  have hlm : (normP b).length < 10000000 := by
    have key : ∀ (l : List Pt), (∀ p ∈ l, oneP p) → l.length ≤ weight l := by
      intro l
      induction l with
      | nil => intro _; simp
      | cons p l ih => intro h; have h1 := length_pos (h p (by simp)); have h2 := ih fun q hq => h q (by simp [hq]); rw [weight_cons, List.length_cons]; omega
    have := key _ fun p hp => (m1 p hp).1
    omega
  have hA1 : (lensW a).1 = ((spreads (normP a)).1.length : Int) := by
    rw [(fine_lens f1).1, ← n3, ← lensU_long _ sn1, spreads_eq]; rfl
  have hB1 : (lensW b).1 = ((spreads (normP b)).1.length : Int) := by
    rw [(fine_lens f2).1, ← m3, ← lensU_long _ sm1, spreads_eq]; rfl
  have hnn : (spreads (normP b)).1.length = (spreads (normP a)).1.length := by omega
  have hn9 : (spreads (normP a)).1.length < 3000000 := by
    have h8 := (lens_plain (normP a) sn1 (by omega)).2.2.1
    rw [norm_wts a (ones_sound f1.one)] at h8
    have := f1.w
    omega
  have cS1 : Hid (∀ wx, Below w.heap.size w wx → _) := fun wx (hb : Below w.heap.size w wx) => refNorm_any v1 a wx (opAt_grown h1 hb) (ones_sound f1.one) (by have := f1.w; omega) f1.len
  have cS3 : Hid (∀ wx, Below w.heap.size w wx → _) := fun wx (hb : Below w.heap.size w wx) => refNorm_any v2 b wx (opAt_grown h2 hb) (ones_sound f2.one) (by have := f2.w; omega) f2.len
  have cS2 : Hid (∀ (v' : Value) wx, opAt wx v' (normP a) → _) := fun v' wx (ho : opAt wx v' (normP a)) => Spread_any v' (normP a) wx ho sn1 hwn hln _ rfl
  have cS4 : Hid (∀ (v' : Value) wx, opAt wx v' (normP b) → _) := fun v' wx (ho : opAt wx v' (normP b)) => Spread_any v' (normP b) wx ho sm1 hwm hlm _ hnn
  have hSm : ∀ p ∈ outJ false (spreads (normP a)) (spreads (normP b)) ((spreads (normP a)).1.length + 1), soundP p := outJ_sound _ _ _ _
  have hWt : wts (outJ false (spreads (normP a)) (spreads (normP b)) ((spreads (normP a)).1.length + 1)) < 10000000 := by
    have e1 := putsK_spreads (normP a) sn1
    have e2 := putsK_spreads (normP b) sm1
    have e3 := outJ_wts false (spreads (normP a)) (spreads (normP b)) ((spreads (normP a)).1.length + 1)
    have e4 := norm_wts a (ones_sound f1.one)
    have e5 := norm_wts b (ones_sound f2.one)
    have e6 := f1.w
    have e7 := f2.w
    have e8 := (lens_plain (normP a) sn1 (by omega)).2.2.1
    omega
  obtain ⟨x, hx⟩ : ∃ x, spreads (normP a) = x := ⟨_, rfl⟩
  obtain ⟨y, hy⟩ : ∃ y, spreads (normP b) = y := ⟨_, rfl⟩
  rw [hx] at hA1 hnn hn9 cS2 hSm hWt ⊢
  rw [hy] at hB1 hnn cS4 hSm hWt ⊢
  rw [hx] at cS4
  obtain ⟨n, hn⟩ : ∃ n, x.1.length = n := ⟨_, rfl⟩
  rw [hn] at hA1 hnn hn9 cS2 cS4 hSm hWt ⊢
  rw [hl] at cL2
  have hN : (lensW a).1 = (n : Int) := hA1
  generalize (lensW a).1 = N at cL1 cL2 hN
  have HN : Hid (N = (n : Int)) := hN
  have hN1 : 0 ≤ N := by omega
  have hN2 : N < 3000000 := by omega
  clear hN
  have HXL : Hid (x.1.length = n) := hn
  have HYL : Hid (y.1.length = n) := hnn
  have HSm : Hid _ := hSm
  have HWt : Hid _ := hWt
  clear hl hA1
  generalize (lensW a).2 = A2 at *
  generalize (lensW b).2 = B2 at *
  obtain ⟨p1, c1, rfl, _⟩ := h1
  obtain ⟨p2, c2, rfl, _⟩ := h2
  clear w1 w2 s1 s2 f1 f2 he hB1 hnn hn hSm hWt n1 n2 n3 n4 m1 m2 m3 m4 sn1 sm1 hwn hwm hln hlm hx hy
  obtain ⟨na, hna⟩ : ∃ l, normP a = l := ⟨_, rfl⟩
  obtain ⟨nb, hnb⟩ : ∃ l, normP b = l := ⟨_, rfl⟩
  rw [hna] at cS1 cS2
  rw [hnb] at cS3 cS4
  clear hna hnb
  obtain ⟨LF, hLF⟩ : ∃ l, outJ false x y (n + 1) = l := ⟨_, rfl⟩
  rw [hLF] at HSm HWt ⊢
  have HLF : Hid (outJ false x y (n + 1) = LF) := hLF
  clear hLF
  go_enter Tryz.func123, Tryz.ntmps123
  go_wp2_with (first
    | (have _ := HO6; go_at_call 181; refine (cS4.out _ _ (opAt_own HO6.out)).mono ?_; rintro e w9 ⟨gy1, gy2, rfl, o1, o2, hb⟩; have HY1 : Hid (w9.ownsRow w8.heap.size 9 1 (.slice (some ⟨gy1, 0, none⟩) (n + 1) (n + 1)) (n + 1) ((strsP n y).map strV)) := o1; have HY2 : Hid (w9.ownsRow w8.heap.size 4 1 (.slice (some ⟨gy2, 0, none⟩) n n) n ((boolsP n y).map Value.bool)) := o2; have HB89 : Hid (Below w8.heap.size w8 w9) := hb; clear o1 o2 hb)
    | (have _ := HG7; go_at_call 178; refine Calls.mono HG7.out ?_; rintro e w8 ⟨v8, rfl, o8, hb8⟩; have HO6 : Hid (w8.ownsRow w7.heap.size 50 3 v8 nb.length (cellsP nb)) := o8; have HB8 : Hid (Below w.heap.size w w8) := HB7.out.trans (hb8.mono HB7.out.size); have HB68 : Hid (Below w6.heap.size w6 w8) := HB67.out.trans (hb8.mono HB67.out.size); obtain ⟨p8, c8, rfl⟩ := own_slice o8; clear o8 hb8)
    | (have _ := HX1; go_at_call 181; refine (cS3.out _ HB6.out).mono ?_; rintro e w7 ⟨g7, rfl, hb7, hc7⟩; have HG7 : Hid _ := hc7; have HB7 : Hid (Below w.heap.size w w7) := HB6.out.trans (hb7.mono HB6.out.size); have HB67 : Hid (Below w6.heap.size w6 w7) := hb7; clear hb7 hc7)
    | (have _ := HO5; go_at_call 181; refine (cS2.out _ _ (opAt_own HO5.out)).mono ?_; rintro e w6 ⟨gx1, gx2, rfl, o1, o2, hb⟩; have HX1 : Hid (w6.ownsRow w5.heap.size 9 1 (.slice (some ⟨gx1, 0, none⟩) (n + 1) (n + 1)) (n + 1) ((strsP n x).map strV)) := o1; have HX2 : Hid (w6.ownsRow w5.heap.size 4 1 (.slice (some ⟨gx2, 0, none⟩) n n) n ((boolsP n x).map Value.bool)) := o2; have HB6 : Hid (Below w.heap.size w w6) := HB5.out.trans (hb.mono HB5.out.size); clear o1 o2 hb)
    | (have _ := HG4; go_at_call 178; refine Calls.mono HG4.out ?_; rintro e w5 ⟨v5, rfl, o5, hb5⟩; have HO5 : Hid (w5.ownsRow w4.heap.size 50 3 v5 na.length (cellsP na)) := o5; have HB5 : Hid (Below w.heap.size w w5) := HB4.out.trans (hb5.mono HB4.out.size); obtain ⟨p5, c5, rfl⟩ := own_slice o5; clear o5 hb5)
    | (have _ := HB3; go_at_call 181; refine (cS1.out _ HB3.out).mono ?_; rintro e w4 ⟨g4, rfl, hb4, hc4⟩; have HG4 : Hid _ := hc4; have HB4 : Hid (Below w.heap.size w w4) := HB3.out.trans (hb4.mono HB3.out.size); clear hb4 hc4)
    | (have _ := HB2; go_at_call 177; refine (cL2.out _ HB2.out).mono ?_; rintro e w3 ⟨rfl, hb3⟩; have HB3 : Hid (Below w.heap.size w w3) := HB2.out.trans (hb3.mono HB2.out.size); clear hb3)
    | (have _ := HB1; go_at_call 177; refine (cL1.out _ HB1.out).mono ?_; rintro e w2 ⟨rfl, hb2⟩; have HB2 : Hid (Below w.heap.size w w2) := HB1.out.trans (hb2.mono HB1.out.size); clear hb2)
    | (go_at_call 176; refine Calls.mono cB.out ?_; rintro e w1 ⟨rfl, hb1⟩; have HB1 : Hid (Below w.heap.size w w1) := hb1; clear hb1)
    | fail)
  obtain ⟨W0, hW0⟩ : ∃ W0, W0 = (((w9.alloc (.cells #[.slice (some ⟨gx1, 0, none⟩) (n + 1) (n + 1), .slice (some ⟨gx2, 0, none⟩) n n] 287)).alloc (.cells #[.slice (some ⟨gy1, 0, none⟩) (n + 1) (n + 1), .slice (some ⟨gy2, 0, none⟩) n n] 287)).alloc (.cells #[.slice none 0 0] 23)) := ⟨_, rfl⟩
  rw [← hW0]
  have hb90 : Below w9.heap.size w9 W0 := by rw [hW0]; exact (((Below.refl _ _).alloc (Nat.le_refl _) _).alloc (by simp) _).alloc (by simp; omega) _
  have hs0 : W0.heap.size = w9.heap.size + 1 + 1 + 1 := by rw [hW0]; simp
  have hb69 : Below w6.heap.size w6 W0 := (HB68.out.trans (HB89.out.mono HB68.out.size)).trans (hb90.mono (Nat.le_trans HB68.out.size HB89.out.size))
  have hb80 : Below w9.heap.size w9 W0 := hb90
  have HGP : Hid (gapsAt W0 w9.heap.size gx1 gx2 gy1 gy2 n x y) := rows_gaps HXL.out HYL.out HX1.out HX2.out HY1.out HY2.out hb69 hb90 (Nat.le_trans HB68.out.size HB89.out.size) (Nat.le_refl _)
    (by rw [hW0]; simp [go_sem]) (by rw [hW0]; simp [go_sem]) (by rw [hW0]; simp [go_sem]) (by rw [hW0]; simp [go_sem])
  have HBW : Hid (Below w.heap.size w W0) := (HB8.out.trans (HB89.out.mono HB8.out.size)).trans (hb90.mono (Nat.le_trans HB8.out.size HB89.out.size))
  have HSZ : Hid (w.heap.size ≤ w9.heap.size) := Nat.le_trans HB8.out.size HB89.out.size
  have hst : trR false x y n (w9.heap.size + 1 + 1) W0 (n + 1) (.int .i64 0) W0 := by
    refine ⟨0, rfl, by omega, ⟨⟨none, 0, ?_, ?_⟩, ?_⟩, .refl _ _⟩
    · have e : outJ false x y 0 = [] := by simp [outJ]
      rw [e, hW0]; simp [go_sem]
    · have e : outJ false x y 0 = [] := by simp [outJ]
      rw [e]; exact World.ownsRow_nil _ _ _ _
    · rw [hW0]; simp [go_sem]
  have HST : Hid (trR false x y n (w9.heap.size + 1 + 1) W0 (n + 1) (.int .i64 0) W0) := hst
  clear hst hW0 hb90 hs0 hb69 hb80 HB1 HB2 HB3 HG4 HB4 HO5 HB5 HX1 HX2 HB6 HG7 HB7 HB67 HO6 HB8 HB68 HY1 HY2 HB89 cB cL1 cL2 cS1 cS2 cS3 cS4
  go_loopg [50] (n + 1) (fun k i wr => trR false x y n (w9.heap.size + 1 + 1) W0 k i wr)
  case atStart => exact HST.out
  case round =>
    obtain ⟨j, rfl, hjk, ho, hb⟩ := hrel
    have HOR : Hid (outAt wr (w9.heap.size + 1 + 1) (outJ false x y j)) := ho
    have HBR : Hid (Below (w9.heap.size + 1 + 1) W0 wr) := hb
    have hlen := outJ_len false x y j
    clear HST ho hb
    rcases Nat.lt_or_ge n j with hj | hj
    · obtain rfl : gk = 0 := by omega
      obtain rfl : j = n + 1 := by omega
      rw [HLF.out] at HOR hlen
      have ho := HOR.out
      obtain ⟨⟨pL, cL, k1, k2⟩, k3⟩ := ho
      have CS : Hid _ := refNorm_any _ LF wr (opAt_own k2) HSm.out HWt.out (by omega)
      have HLT : Hid (w9.heap.size + 1 + 1 < wr.heap.size) := outAt_lt HOR.out
      have hNn := HN.out
      have hjn : ¬ (((n + 1 : Nat) : Int) < N + 1) := by omega
      clear hj hjk hlen k2 hNn
      go_wp2_with (first
        | (go_at_call 181; refine Calls.mono CS.out ?_; rintro e w2 ⟨g2, rfl, hb2, hc2⟩; have HC2 : Hid _ := hc2; have HB2 : Hid (Below wr.heap.size wr w2) := hb2; clear hb2 hc2)
        | (have _ := HC2; go_at_call 178; refine Calls.mono HC2.out ?_; rintro e w3 ⟨v3, rfl, o3, hb3⟩)
        | fail)
      obtain ⟨p3, c3, rfl⟩ := own_slice o3
      go_ret2
      have hB := HBW.out.trans (HBR.out.mono (show w.heap.size ≤ w9.heap.size + 1 + 1 by have := HSZ.out; omega))
      exact ⟨_, rfl, opN_own (Nat.le_trans hB.size HB2.out.size) o3, (hB.trans (HB2.out.mono hB.size)).trans (hb3.mono (Nat.le_trans hB.size HB2.out.size))⟩
    rcases Nat.lt_or_ge j n with hj2 | hj2
    rotate_left
    · obtain rfl : j = n := by omega
      obtain rfl : gk = 1 := by omega
      have hstep : outJ false x y (j + 1) = outJ false x y j ++ (keepO y.2.length ++ putO x.2) := by
        have := outJ_last (first := false) (HXL.out.trans HYL.out.symm)
        rw [HXL.out] at this
        exact this
      obtain ⟨L, hL⟩ : ∃ L, outJ false x y j = L := ⟨_, rfl⟩
      rw [hL] at HOR hlen hstep
      have GPwr : Hid (gapsAt wr w9.heap.size gx1 gx2 gy1 gy2 j x y) := gapsAt_below HGP.out HBR.out (Nat.le_refl _)
      have fa0wr := GPwr.out.a0
      have fb0wr := GPwr.out.b0
      have fxwr := GPwr.out.x2
      have fywr := GPwr.out.y2
      have HXE : Hid (gapsAt W0 w9.heap.size gx1 gx2 gy1 gy2 j x y) := HGP.out
      obtain ⟨U, hU⟩ : ∃ U, x.2 = U := ⟨_, rfl⟩
      obtain ⟨V, hV⟩ : ∃ V, y.2 = V := ⟨_, rfl⟩
      rw [hU] at hstep fxwr
      rw [hV] at hstep fywr
      have HU : Hid (x.2 = U) := hU
      have HV : Hid (y.2 = V) := hV
      have hzv : (ByteArray.mk V.toArray).size = V.length := by simp [ByteArray.size]
      have cP : Hid (∀ W l, outAt W (w9.heap.size + 1 + 1) l → l.length < 1000000000 → Calls Tryz.prog 183 #[.string ⟨U.toArray⟩, .pointer (some ⟨w9.heap.size + 1 + 1, 0, none⟩)] W fun e w' => (∃ v, e = .returned v) ∧ outAt w' (w9.heap.size + 1 + 1) (l ++ putO U) ∧ Below (w9.heap.size + 1 + 1) W w') := fun W l h hl => tPut_any _ l U W h hl
      have cK : Hid (∀ W l, outAt W (w9.heap.size + 1 + 1) l → l.length < 1000000000 → Calls Tryz.prog 182 #[.int .i64 (V.length : Int), .pointer (some ⟨w9.heap.size + 1 + 1, 0, none⟩)] W fun e w' => (∃ v, e = .returned v) ∧ outAt w' (w9.heap.size + 1 + 1) (l ++ keepO V.length) ∧ Below (w9.heap.size + 1 + 1) W w') := fun W l h hl => tKeep_any _ l V.length W h hl
      have HSTEP : Hid (outJ false x y (j + 1) = (L ++ keepO V.length) ++ putO U) := by rw [List.append_assoc]; exact hstep
      have hpk : (putO U).length ≤ 1 ∧ (keepO V.length).length ≤ 1 := ⟨by unfold putO; split <;> simp, by unfold keepO; split <;> simp⟩
      have HL0 : Hid (L.length < 1000000000) := show L.length < 1000000000 by omega
      have HL1 : Hid ((L ++ keepO V.length).length < 1000000000) := show (L ++ keepO V.length).length < 1000000000 by rw [List.length_append]; omega
      have hNn := HN.out
      have hjn : (j : Int) < N + 1 := by omega
      have hjd : (j : Int) = N := by omega
      clear hNn
      subst hjd
      have hj9 : (j : Int) < 10000000 := by omega
      clear hL hstep hU hV hpk hjk hlen hj hj2
      go_wp2_with (first
        | (have _ := HO1; go_at_call 183; refine (cP.out _ _ HO1.out HL1.out).mono ?_; rintro e w2 ⟨⟨v2, rfl⟩, ho2, hb2⟩; have HO2 : Hid (outAt w2 (w9.heap.size + 1 + 1) ((L ++ keepO V.length) ++ putO U)) := ho2; have HB2 : Hid (Below (w9.heap.size + 1 + 1) W0 w2) := HB1.out.trans hb2; have GPw2 : Hid (gapsAt w2 w9.heap.size gx1 gx2 gy1 gy2 j x y) := gapsAt_below HGP.out HB2.out (Nat.le_refl _); have fa0w2 := GPw2.out.a0; have fb0w2 := GPw2.out.b0; have fxw2 := GPw2.out.x2; rw [HU.out] at fxw2; have fyw2 := GPw2.out.y2; rw [HV.out] at fyw2; clear ho2 hb2)
        | (go_at_call 182; refine (cK.out _ _ HOR.out HL0.out).mono ?_; rintro e w1 ⟨⟨v1, rfl⟩, ho1, hb1⟩; have HO1 : Hid (outAt w1 (w9.heap.size + 1 + 1) (L ++ keepO V.length)) := ho1; have HB1 : Hid (Below (w9.heap.size + 1 + 1) W0 w1) := HBR.out.trans hb1; have GPw1 : Hid (gapsAt w1 w9.heap.size gx1 gx2 gy1 gy2 j x y) := gapsAt_below HGP.out HB1.out (Nat.le_refl _); have fa0w1 := GPw1.out.a0; have fb0w1 := GPw1.out.b0; have fxw1 := GPw1.out.x2; rw [HU.out] at fxw1; have fyw1 := GPw1.out.y2; rw [HV.out] at fyw1; clear ho1 hb1)
        | fail)
      go_roundg 0
      case measure => omega
      case rel => exact ⟨j + 1, by go_num, by omega, by rw [HSTEP.out]; exact HO2.out, HB2.out⟩
    · obtain ⟨⟨u, d⟩, hxj⟩ : ∃ z, x.1[j]? = some z := ⟨_, List.getElem?_eq_getElem (by rw [HXL.out]; exact hj2)⟩
      obtain ⟨⟨v, e⟩, hyj⟩ : ∃ z, y.1[j]? = some z := ⟨_, List.getElem?_eq_getElem (by rw [HYL.out]; exact hj2)⟩
      have HXJ : Hid (x.1[j]? = some (u, d)) := hxj
      have HYJ : Hid (y.1[j]? = some (v, e)) := hyj
      have hstep : outJ false x y (j + 1) = outJ false x y j ++ ((keepO v.length ++ putO u) ++ unitO e d) := outJ_step (first := false) (HXL.out.trans HYL.out.symm) (by rw [HXL.out]; exact hj2) hxj hyj
      obtain ⟨L, hL⟩ : ∃ L, outJ false x y j = L := ⟨_, rfl⟩
      rw [hL] at HOR hlen hstep
      have GPwr : Hid (gapsAt wr w9.heap.size gx1 gx2 gy1 gy2 n x y) := gapsAt_below HGP.out HBR.out (Nat.le_refl _)
      have fa0wr := GPwr.out.a0
      have fa1wr := GPwr.out.a1
      have fb0wr := GPwr.out.b0
      have fb1wr := GPwr.out.b1
      have fxwr := (GPwr.out.x1 _ _ _ HXJ.out).1
      have fxdwr := (GPwr.out.x1 _ _ _ HXJ.out).2
      have fywr := (GPwr.out.y1 _ _ _ HYJ.out).1
      have fydwr := (GPwr.out.y1 _ _ _ HYJ.out).2
      have hzv : (ByteArray.mk v.toArray).size = v.length := by simp [ByteArray.size]
      have cP : Hid (∀ W l, outAt W (w9.heap.size + 1 + 1) l → l.length < 1000000000 → Calls Tryz.prog 183 #[.string ⟨u.toArray⟩, .pointer (some ⟨w9.heap.size + 1 + 1, 0, none⟩)] W fun e w' => (∃ v, e = .returned v) ∧ outAt w' (w9.heap.size + 1 + 1) (l ++ putO u) ∧ Below (w9.heap.size + 1 + 1) W w') := fun W l h hl => tPut_any _ l u W h hl
      have cK : Hid (∀ W l, outAt W (w9.heap.size + 1 + 1) l → l.length < 1000000000 → Calls Tryz.prog 182 #[.int .i64 (v.length : Int), .pointer (some ⟨w9.heap.size + 1 + 1, 0, none⟩)] W fun e w' => (∃ v, e = .returned v) ∧ outAt w' (w9.heap.size + 1 + 1) (l ++ keepO v.length) ∧ Below (w9.heap.size + 1 + 1) W w') := fun W l h hl => tKeep_any _ l v.length W h hl
      have cU : Hid (∀ W l, outAt W (w9.heap.size + 1 + 1) l → l.length < 1000000000 → Calls Tryz.prog 182 #[.int .i64 1, .pointer (some ⟨w9.heap.size + 1 + 1, 0, none⟩)] W fun e w' => (∃ v, e = .returned v) ∧ outAt w' (w9.heap.size + 1 + 1) (l ++ [⟨1, 0, []⟩]) ∧ Below (w9.heap.size + 1 + 1) W w') := fun W l h hl => tKeep_any _ l 1 W h hl
      have HSTEP : Hid (outJ false x y (j + 1) = ((L ++ keepO v.length) ++ putO u) ++ unitO e d) := by rw [List.append_assoc L, List.append_assoc L]; exact hstep
      have hpk : (putO u).length ≤ 1 ∧ (keepO v.length).length ≤ 1 := ⟨by unfold putO; split <;> simp, by unfold keepO; split <;> simp⟩
      have HL0 : Hid (L.length < 1000000000) := show L.length < 1000000000 by omega
      have HL1 : Hid ((L ++ keepO v.length).length < 1000000000) := show (L ++ keepO v.length).length < 1000000000 by rw [List.length_append]; omega
      have HL2' : ((L ++ keepO v.length) ++ putO u).length < 100000000 := by rw [List.length_append, List.length_append]; omega
      obtain ⟨L2, hL2⟩ : ∃ l, (L ++ keepO v.length) ++ putO u = l := ⟨_, rfl⟩
      rw [hL2] at HSTEP HL2'
      have HL2 : Hid (L2.length < 100000000) := HL2'
      have HE2 : Hid ((L ++ keepO v.length) ++ putO u = L2) := hL2
      clear HL2' hL2
      have hjn2 : (j : Int) < (n : Int) := by omega
      have hNn := HN.out
      have hjn : (j : Int) < N + 1 := by omega
      have hjd : ((j : Int) == N) = false := beq_eq_false_iff_ne.2 (by omega)
      clear hNn
      have hj9 : (j : Int) < 10000000 := by omega
      obtain ⟨k, rfl⟩ : ∃ k, gk = k + 1 := ⟨gk - 1, by omega⟩
      have HJK : Hid (j + (k + 1) = n + 1) := hjk
      clear hL hstep hpk hjk hlen hj hj2 hxj hyj
      cases e with
      | true =>
        go_wp2_with (first
          | (have _ := HO1; go_at_call 183; refine (cP.out _ _ HO1.out HL1.out).mono ?_; rintro e w2 ⟨⟨v2, rfl⟩, ho2, hb2⟩; have HO2 : Hid (outAt w2 (w9.heap.size + 1 + 1) L2) := (by rw [← HE2.out]; exact ho2); have HB2 : Hid (Below (w9.heap.size + 1 + 1) W0 w2) := HB1.out.trans hb2; have GPw2 : Hid (gapsAt w2 w9.heap.size gx1 gx2 gy1 gy2 n x y) := gapsAt_below HGP.out HB2.out (Nat.le_refl _); have fa0w2 := GPw2.out.a0; have fa1w2 := GPw2.out.a1; have fb0w2 := GPw2.out.b0; have fb1w2 := GPw2.out.b1; have fxw2 := (GPw2.out.x1 _ _ _ HXJ.out).1; have fxdw2 := (GPw2.out.x1 _ _ _ HXJ.out).2; have fyw2 := (GPw2.out.y1 _ _ _ HYJ.out).1; have fydw2 := (GPw2.out.y1 _ _ _ HYJ.out).2; clear ho2 hb2)
          | (go_at_call 182; refine (cK.out _ _ HOR.out HL0.out).mono ?_; rintro e w1 ⟨⟨v1, rfl⟩, ho1, hb1⟩; have HO1 : Hid (outAt w1 (w9.heap.size + 1 + 1) (L ++ keepO v.length)) := ho1; have HB1 : Hid (Below (w9.heap.size + 1 + 1) W0 w1) := HBR.out.trans hb1; have GPw1 : Hid (gapsAt w1 w9.heap.size gx1 gx2 gy1 gy2 n x y) := gapsAt_below HGP.out HB1.out (Nat.le_refl _); have fa0w1 := GPw1.out.a0; have fa1w1 := GPw1.out.a1; have fb0w1 := GPw1.out.b0; have fb1w1 := GPw1.out.b1; have fxw1 := (GPw1.out.x1 _ _ _ HXJ.out).1; have fxdw1 := (GPw1.out.x1 _ _ _ HXJ.out).2; have fyw1 := (GPw1.out.y1 _ _ _ HYJ.out).1; have fydw1 := (GPw1.out.y1 _ _ _ HYJ.out).2; clear ho1 hb1)
          | fail)
        go_roundg k
        case measure => omega
        case rel => exact ⟨j + 1, by go_num, by have := HJK.out; omega, by rw [HSTEP.out]; exact (List.append_nil _).symm ▸ HO2.out, HB2.out⟩
      | false =>
        cases d with
        | false =>
          go_wp2_with (first
            | (have _ := HO2; go_at_call 182; refine (cU.out _ _ HO2.out (Nat.lt_trans HL2.out (by decide))).mono ?_; rintro e w3 ⟨⟨v3, rfl⟩, ho3, hb3⟩)
            | (have _ := HO1; go_at_call 183; refine (cP.out _ _ HO1.out HL1.out).mono ?_; rintro e w2 ⟨⟨v2, rfl⟩, ho2, hb2⟩; have HO2 : Hid (outAt w2 (w9.heap.size + 1 + 1) L2) := (by rw [← HE2.out]; exact ho2); have HB2 : Hid (Below (w9.heap.size + 1 + 1) W0 w2) := HB1.out.trans hb2; have GPw2 : Hid (gapsAt w2 w9.heap.size gx1 gx2 gy1 gy2 n x y) := gapsAt_below HGP.out HB2.out (Nat.le_refl _); have fa0w2 := GPw2.out.a0; have fa1w2 := GPw2.out.a1; have fb0w2 := GPw2.out.b0; have fb1w2 := GPw2.out.b1; have fxw2 := (GPw2.out.x1 _ _ _ HXJ.out).1; have fxdw2 := (GPw2.out.x1 _ _ _ HXJ.out).2; have fyw2 := (GPw2.out.y1 _ _ _ HYJ.out).1; have fydw2 := (GPw2.out.y1 _ _ _ HYJ.out).2; clear ho2 hb2)
            | (go_at_call 182; refine (cK.out _ _ HOR.out HL0.out).mono ?_; rintro e w1 ⟨⟨v1, rfl⟩, ho1, hb1⟩; have HO1 : Hid (outAt w1 (w9.heap.size + 1 + 1) (L ++ keepO v.length)) := ho1; have HB1 : Hid (Below (w9.heap.size + 1 + 1) W0 w1) := HBR.out.trans hb1; have GPw1 : Hid (gapsAt w1 w9.heap.size gx1 gx2 gy1 gy2 n x y) := gapsAt_below HGP.out HB1.out (Nat.le_refl _); have fa0w1 := GPw1.out.a0; have fa1w1 := GPw1.out.a1; have fb0w1 := GPw1.out.b0; have fb1w1 := GPw1.out.b1; have fxw1 := (GPw1.out.x1 _ _ _ HXJ.out).1; have fxdw1 := (GPw1.out.x1 _ _ _ HXJ.out).2; have fyw1 := (GPw1.out.y1 _ _ _ HYJ.out).1; have fydw1 := (GPw1.out.y1 _ _ _ HYJ.out).2; clear ho1 hb1)
            | fail)
          go_roundg k
          case measure => omega
          case rel => exact ⟨j + 1, by go_num, by have := HJK.out; omega, by rw [HSTEP.out]; exact ho3, HB2.out.trans hb3⟩
        | true =>
          go_upto_region 22 with (first
            | (have _ := HO1; go_at_call 183; refine (cP.out _ _ HO1.out HL1.out).mono ?_; rintro e w2 ⟨⟨v2, rfl⟩, ho2, hb2⟩; have HO2 : Hid (outAt w2 (w9.heap.size + 1 + 1) L2) := (by rw [← HE2.out]; exact ho2); have HB2 : Hid (Below (w9.heap.size + 1 + 1) W0 w2) := HB1.out.trans hb2; have GPw2 : Hid (gapsAt w2 w9.heap.size gx1 gx2 gy1 gy2 n x y) := gapsAt_below HGP.out HB2.out (Nat.le_refl _); have fa0w2 := GPw2.out.a0; have fa1w2 := GPw2.out.a1; have fb0w2 := GPw2.out.b0; have fb1w2 := GPw2.out.b1; have fxw2 := (GPw2.out.x1 _ _ _ HXJ.out).1; have fxdw2 := (GPw2.out.x1 _ _ _ HXJ.out).2; have fyw2 := (GPw2.out.y1 _ _ _ HYJ.out).1; have fydw2 := (GPw2.out.y1 _ _ _ HYJ.out).2; clear ho2 hb2; have ho2' := HO2.out; obtain ⟨⟨pq, cq, kq1, kq2⟩, kq3⟩ := ho2'; have HRW : Hid (w2.ownsRow (w9.heap.size + 1 + 1 + 1) 50 3 (.slice pq L2.length cq) L2.length (cellsP L2)) := kq2; have HCQ : Hid (w2.cell? ⟨w9.heap.size + 1 + 1, 0, none⟩ = some (.slice pq L2.length cq)) := kq1; have HQ2 : Hid (w9.heap.size + 1 + 1 < w2.heap.size) := outAt_lt HO2.out; have HQ3 : Hid (w2.frozen? ⟨w9.heap.size + 1 + 1, 0, none⟩ = false) := kq3; clear kq1 kq2 kq3)
            | (go_at_call 182; refine (cK.out _ _ HOR.out HL0.out).mono ?_; rintro e w1 ⟨⟨v1, rfl⟩, ho1, hb1⟩; have HO1 : Hid (outAt w1 (w9.heap.size + 1 + 1) (L ++ keepO v.length)) := ho1; have HB1 : Hid (Below (w9.heap.size + 1 + 1) W0 w1) := HBR.out.trans hb1; have GPw1 : Hid (gapsAt w1 w9.heap.size gx1 gx2 gy1 gy2 n x y) := gapsAt_below HGP.out HB1.out (Nat.le_refl _); have fa0w1 := GPw1.out.a0; have fa1w1 := GPw1.out.a1; have fb0w1 := GPw1.out.b0; have fb1w1 := GPw1.out.b1; have fxw1 := (GPw1.out.x1 _ _ _ HXJ.out).1; have fxdw1 := (GPw1.out.x1 _ _ _ HXJ.out).2; have fyw1 := (GPw1.out.y1 _ _ _ HYJ.out).1; have fydw1 := (GPw1.out.y1 _ _ _ HYJ.out).2; clear ho1 hb1)
            | fail)
          obtain ⟨i0, hi, hz0, hz1, hz2⟩ := info_parts info_part
          have kq1 := HCQ.out
          have kq3 := HQ3.out
          have hq2 := HQ2.out
          go_wp2_with (first
            | (have _ := HO2; at_builtin; refine wpList_append_own _ rfl _ _ 23 rfl (w9.heap.size + 1 + 1 + 1) 50 i0 (.agg #[.int .i64 0, .int .i64 0, .string ⟨#[]⟩]) 3 32 Tryz.underlying23 hi hz0 hz1 hz2 rfl (by decide) _ _ _ rfl (HRW.out.alloc _) ⟨w2.heap.size, 0, none⟩ 1 1 (partCells ⟨0, 1, []⟩) rfl rfl (cells_new _ _ _) (partCells_one _) (by have := HL2.out; unfold maxLen; omega) (by have := HL2.out; omega) (by first | omega | (simp; omega)) ?_)
            | fail)
          intro v3 w3 hown3 hg3 _
          have P3 := outAt_push (q := ⟨0, 1, []⟩) HO2.out HCQ.out hown3 hg3
          obtain ⟨p3, q3, hv3⟩ := own_slice hown3
          rw [hv3] at P3 hown3 ⊢
          obtain ⟨G3, B3, r1, r2⟩ := P3
          have HG3 : Hid _ := G3
          have HB3 : Hid _ := B3
          clear G3 B3 hown3 hg3 hv3
          go_wp2
          go_roundg k
          case measure => omega
          case rel => exact ⟨j + 1, by go_num, by have := HJK.out; omega, by rw [HSTEP.out]; exact HG3.out, HB2.out.trans HB3.out⟩
end Go.Proofs.YtfedgjnhanlmeabGreatDoor

namespace Go.Proofs.YtfedgjnhanlmeabGreatDoor
open Go.RowKit
set_option linter.unusedVariables false
attribute [local go_sem] Oper.semAt_some

theorem fine_lensU {a b : List Pt} (f1 : fineP a) (f2 : fineP b) (hl : (lensW b).1 = (lensW a).1) : lensU (normP a) = lensU (normP b) := by
  have h1 := lensU_long _ (ones_sound fun p hp => ((fine_norm f1).1 p hp).1)
  have h2 := lensU_long _ (ones_sound fun p hp => ((fine_norm f2).1 p hp).1)
  have h3 := (fine_norm f1).2.2.1
  have h4 := (fine_norm f2).2.2.1
  have h5 := (fine_lens f1).1
  have h6 := (fine_lens f2).1
  omega
theorem trans_eq (F : Bool) {a b : List Pt} (f1 : fineP a) (f2 : fineP b) (hl : (lensW b).1 = (lensW a).1) : normP (outJ F (spreads (normP a)) (spreads (normP b)) ((spreads (normP a)).1.length + 1)) = tellP (transS F a b) := by
  have hU := fine_lensU f1 f2 hl
  have o1 : ∀ p ∈ normP a, oneP p := fun p hp => ((fine_norm f1).1 p hp).1
  have o2 : ∀ p ∈ normP b, oneP p := fun p hp => ((fine_norm f2).1 p hp).1
  have hz : (spreads (normP a)).1.length = (spreads (normP b)).1.length := by rw [spreads_eq, spreads_eq]; exact hU
  have e1 : outJ F (spreads (normP a)) (spreads (normP b)) ((spreads (normP a)).1.length + 1) = ((spreads (normP a)).1.zip (spreads (normP b)).1).flatMap (gapO F) ++ pairO F (spreads (normP a)).2 (spreads (normP b)).2 := by
    unfold outJ
    rw [if_pos (by omega), List.take_of_length_le (by rw [List.length_zip]; omega)]
  rw [e1]
  unfold normP transS
  congr 1
  have e2 := out_fold F (spreads (normP a)).1 (spreads (normP b)).1 (spreads (normP a)).2 (spreads (normP b)).2 nst0 hz
  unfold normP at e2
  rw [e2]
  cases F with
  | true =>
    rw [if_pos rfl]
    have e3 := turn_first (weight (normP a) + weight (normP b)) (normP a) (normP b) nst0 o1 o2 hU (Nat.le_refl _)
    rw [← spreads_eq, ← spreads_eq] at e3
    exact e3.symm
  | false =>
    rw [if_neg (by decide)]
    have e3 := turn_second (weight (normP b) + weight (normP a)) (normP a) (normP b) nst0 o1 o2 hU (by omega)
    rw [← spreads_eq, ← spreads_eq] at e3
    exact e3.symm

theorem refTrans_allN (v1 v2 : Value) (first : Bool) (a b : List Pt) (w : World) (h1 : opAt w v1 a) (h2 : opAt w v2 b) (w1 : ∀ p ∈ a, wfP p) (w2 : ∀ p ∈ b, wfP p) (s1 : ∀ p ∈ a, p.put.length < 100000000) (s2 : ∀ p ∈ b, p.put.length < 100000000) (l1 : a.length < 10000000) (l2 : b.length < 10000000) (hf : bothE a b = 0 → fineP a ∧ fineP b) :
    Calls Tryz.prog 123 #[v1, v2, .bool first] w fun e w' => ∃ v', e = .returned (.tuple #[v', .int .i64 (turnE a b)]) ∧ opN w.heap.size w' v' (if turnE a b = 0 then tellP (transS first a b) else []) ∧ Below w.heap.size w w' := by
  have none : ∀ w', opN w.heap.size w' (.slice none 0 0) [] := opN_none _
  unfold turnE
  by_cases he : bothE a b = 0
  · obtain ⟨f1, f2⟩ := hf he
    rw [if_pos he]
    by_cases hl : (lensW b).1 = (lensW a).1
    · rw [if_pos hl, if_pos rfl, ← trans_eq first f1 f2 hl]
      cases first with
      | true => exact refTrans_trueN v1 v2 a b w h1 h2 w1 w2 s1 s2 f1 f2 he hl
      | false => exact refTrans_falseN v1 v2 a b w h1 h2 w1 w2 s1 s2 f1 f2 he hl
    · rw [if_neg hl, if_neg (by decide)]
      exact (refTrans_len v1 v2 first a b w h1 h2 w1 w2 s1 s2 l1 l2 he hl).mono fun e w' h => ⟨_, h.1, none w', h.2⟩
  · rw [if_neg he, if_neg he]
    exact (refTrans_err v1 v2 first a b w h1 h2 w1 w2 s1 s2 l1 l2 he).mono fun e w' h => ⟨_, h.1, none w', h.2⟩
theorem few_small {ps : List Pt} (h : fewB ps = true) : ps.length ≤ 100 ∧ ∀ p ∈ ps, p.put.length ≤ 300 := by
  unfold fewB at h
  rw [Bool.and_eq_true] at h
  refine ⟨of_decide_eq_true h.1, fun p hp => ?_⟩
  have h2 := List.all_eq_true.1 h.2 p hp
  unfold fewP at h2
  simp only [Bool.not_eq_true', Bool.or_eq_false_iff, decide_eq_false_iff_not] at h2
  omega
/-- few, of an operation of any length. -/
theorem fewX_any (v : Value) (ps : List Pt) (w : World) (hr : opAt w v ps) : Calls Tryz.prog 30 #[v] w fun e w' => e = .returned (.bool (fewB ps)) ∧ Below w.heap.size w w' := by
  by_cases hl : ps.length < 10000000
  · exact few_any v ps w hr hl
  · obtain ⟨p, c, rfl, r1, r2, r3⟩ := hr
    have hb : fewB ps = false := by unfold fewB; rw [decide_eq_false (by omega)]; rfl
    rw [hb]
    unfold maxLen at r2
    have hm' : (100 : Int) < (ps.length : Int) := by omega
    clear r3
    go_enter Tryz.func30, Tryz.ntmps30
    go_wp2
    go_ret
    exact ⟨rfl, Below.refl _ _⟩

end Go.Proofs.YtfedgjnhanlmeabGreatDoor

namespace Go.Proofs.YtfedgjnhanlmeabGreatDoor
set_option linter.unusedVariables false

theorem rest_start : ∀ (ps : List Pt) (t : List UInt8), (∀ p ∈ ps, 0 ≤ lenP p) → longP ps = t.length → badO ps t = false → badPiece t = false
  | [], t, _, hl, _ => by
    have : t = [] := List.eq_nil_of_length_eq_zero (by simp [longP] at hl; omega)
    rw [this]; rfl
  | p :: ps, t, h, hl, hb => by
    have h0 := h p (by simp)
    rw [badO, Bool.or_eq_false_iff] at hb
    by_cases hz : lenP p = 0
    · have e : (lenP p).toNat = 0 := by omega
      rw [e, List.drop_zero] at hb
      exact rest_start ps t (fun q hq => h q (by simp [hq])) (by rw [long_cons] at hl; omega) hb.2
    · cases t with
      | nil => rfl
      | cons b t =>
        obtain ⟨n, hn⟩ : ∃ n, (lenP p).toNat = n + 1 := ⟨(lenP p).toNat - 1, by omega⟩
        rw [hn] at hb
        exact hb.1
theorem V_cut {t : List UInt8} {n : Nat} (hV : V t) (hn : n ≤ t.length) (hb : badPiece (t.drop n) = false) : V (t.take n) := by
  obtain ⟨rs, hr, rfl⟩ := hV
  rcases Nat.lt_or_ge n (encs rs).length with h | h
  · have h1 : (encs rs)[n]? = some (encs rs)[n] := List.getElem?_eq_getElem h
    have h2 : (encs rs).drop n = (encs rs)[n] :: (encs rs).drop (n + 1) := List.drop_eq_getElem_cons h
    rw [h2] at hb
    have h3 : startB (encs rs)[n] = true := by simpa [badPiece, startO, startB] using hb
    obtain ⟨k, hk, e⟩ := edgeAt_of_start hr h1 h3
    have e2 : encs rs = encs (rs.take k) ++ encs (rs.drop k) := by rw [← encs_append, List.take_append_drop]
    refine ⟨rs.take k, fun r hx => hr r (List.mem_of_mem_take hx), ?_⟩
    conv => lhs; rw [e2, e]
    rw [List.take_left']; rfl
  · rw [List.take_of_length_le h]; exact ⟨rs, hr, rfl⟩
theorem al_of : ∀ (ps : List Pt) (t : List UInt8), V t → (∀ p ∈ ps, V p.put) → (∀ p ∈ ps, 0 ≤ lenP p) → longP ps = t.length → badO ps t = false → al ps t
  | [], _, _, _, _, _, _ => trivial
  | p :: ps, t, hV, hp, h, hl, hb => by
    have h0 := h p (by simp)
    have h' : ∀ q ∈ ps, 0 ≤ lenP q := fun q hq => h q (by simp [hq])
    have hs : 0 ≤ longP ps := by
      clear hl hb hp h
      induction ps with
      | nil => simp [longP]
      | cons q ps ih => rw [long_cons]; have := h' q (by simp); have := ih (fun x hx => h' x (by simp [hx])); omega
    rw [long_cons] at hl
    rw [badO, Bool.or_eq_false_iff] at hb
    have hn : (lenP p).toNat ≤ t.length := by omega
    have hd : longP ps = (t.drop (lenP p).toNat).length := by rw [List.length_drop]; omega
    have hc := V_cut hV hn (rest_start ps _ h' hd hb.2)
    exact ⟨hp p (by simp), hc, al_of ps _ (V_take hV hc) (fun q hq => hp q (by simp [hq])) h' hd hb.2⟩
theorem chk2_longS : ∀ {ps : List Pt} {N : Int}, (∀ q ∈ ps, 0 ≤ lenP q) → chk2 ps N = 0 → longP ps = N
  | [], N, _, h => by
    unfold chk2 at h
    split at h
    · rename_i e; simp [longP, e]
    · cases h
  | p :: ps, N, hl, h => by
    unfold chk2 at h
    split at h
    · cases h
    · have := chk2_longS (fun q hq => hl q (by simp [hq])) h
      rw [long_cons, this]; unfold lenP; omega
theorem chk_sound2 {ps : List Pt} {N : Int} (h : chkE ps N = 0) : (∀ p ∈ ps, oneB p = true ∧ (scan p.put).2 = true) ∧ longP ps = N ∧ ∀ q ∈ ps, 0 ≤ lenP q := by
  unfold chkE at h
  split at h
  · rename_i h1
    have h2 := chk1_ones h1
    have h3 : ∀ q ∈ ps, 0 ≤ lenP q := fun q hq => by
      have := (one_sound (h2 q hq).1).1
      unfold soundP at this; unfold lenP; omega
    exact ⟨h2, chk2_longS h3 h, h3⟩
  · rename_i h1; exact absurd h h1
theorem one_ofB {q : Pt} (h : oneB q = true) : oneP q := by
  obtain ⟨K, D, U⟩ := q
  unfold oneB at h
  unfold oneP
  simp only at h ⊢
  split at h
  · rename_i e; exact .inl ⟨of_decide_eq_true h, e.1, e.2⟩
  · rename_i e1
    split at h
    · rename_i e; exact .inr (.inl ⟨e.1, of_decide_eq_true h, e.2⟩)
    · rename_i e2
      have h3 := of_decide_eq_true h
      exact .inr (.inr ⟨h3.1, h3.2, fun e => e2 ⟨h3.1, e⟩⟩)
theorem good_of_ord {ps : List Pt} {t : List UInt8} (hV : V t) (h : ordE ps t = 0) : good ps t := by
  unfold ordE at h
  by_cases hc : chkE ps (t.length : Int) = 0
  · rw [if_pos hc] at h
    have hb : badO ps t = false := by
      cases e : badO ps t with
      | false => rfl
      | true => rw [e] at h; cases h
    obtain ⟨h1, h2, h3⟩ := chk_sound2 hc
    exact ⟨fun p hp => one_ofB (h1 p hp).1, h2, al_of ps t hV (fun p hp => V_of_scan (h1 p hp).2) h3 h2 hb⟩
  · rw [if_neg hc] at h; exact absurd h hc

/-! gaps -/
def gsum (y : List (List UInt8 × Bool)) (yl : List UInt8) : Int := (y.map fun x => (x.1.length : Int) + if x.2 then 0 else 1).sum + yl.length
def psum (y : List (List UInt8 × Bool)) (yl : List UInt8) : Nat := (y.map fun x => x.1.length).sum + yl.length
def Vg (y : List (List UInt8 × Bool)) (yl : List UInt8) : Prop := (∀ x ∈ y, V x.1) ∧ V yl
theorem docT_long (F : Bool) : ∀ (x : List (List UInt8 × Bool)) (xl : List UInt8) (y : List (List UInt8 × Bool)) (yl : List UInt8), x.length = y.length → longP (docT F x xl y yl) = gsum y yl
  | [], xl, [], yl, _ => by
    cases F <;> simp [docT, gsum, longP, lenP]
  | [], _, _ :: _, _, h => by simp at h
  | _ :: _, _, [], _, h => by simp at h
  | (u, d) :: x, xl, (v, e) :: y, yl, h => by
    have ih := docT_long F x xl y yl (by simpa using h)
    rw [docT, long_append, long_append, ih]
    have hs : gsum ((v, e) :: y) yl = ((v.length : Int) + if e then 0 else 1) + gsum y yl := by simp [gsum]; omega
    rw [hs]
    have h1 : longP (if F then [⟨0, 0, u⟩, ⟨(v.length : Int), 0, []⟩] else [⟨(v.length : Int), 0, []⟩, ⟨0, 0, u⟩]) = v.length := by cases F <;> simp [longP, lenP]
    have h2 : longP (if e then [] else [unitP d]) = if e then 0 else 1 := by cases e <;> cases d <;> simp [longP, lenP, unitP]
    rw [h1, h2]
theorem docT_puts (F : Bool) : ∀ (x : List (List UInt8 × Bool)) (xl : List UInt8) (y : List (List UInt8 × Bool)) (yl : List UInt8), x.length = y.length → putsP (docT F x xl y yl) = psum x xl
  | [], xl, [], yl, _ => by
    cases F <;> simp [docT, psum, putsP]
  | [], _, _ :: _, _, h => by simp at h
  | _ :: _, _, [], _, h => by simp at h
  | (u, d) :: x, xl, (v, e) :: y, yl, h => by
    have ih := docT_puts F x xl y yl (by simpa using h)
    rw [docT, puts_append, puts_append, ih]
    have hs : psum ((u, d) :: x) xl = u.length + psum x xl := by simp [psum]; omega
    rw [hs]
    have h1 : putsP (if F then [⟨0, 0, u⟩, ⟨(v.length : Int), 0, []⟩] else [⟨(v.length : Int), 0, []⟩, ⟨0, 0, u⟩]) = u.length := by cases F <;> simp [putsP]
    have h2 : putsP (if e then [] else [unitP d]) = 0 := by cases e <;> cases d <;> simp [putsP, unitP]
    rw [h1, h2]; omega
/-- A part as parts are made. -/
def nearP (p : Pt) : Prop := 0 ≤ p.keep ∧ 0 ≤ p.drop ∧ (p.keep = 0 ∨ (p.drop = 0 ∧ p.put = [])) ∧ V p.put
theorem docT_near (F : Bool) : ∀ (x : List (List UInt8 × Bool)) (xl : List UInt8) (y : List (List UInt8 × Bool)) (yl : List UInt8), Vg x xl → ∀ p ∈ docT F x xl y yl, nearP p
  | [], xl, y, yl, h, p, hp => by
    have hp : p ∈ (if F then [⟨0, 0, xl⟩, ⟨(yl.length : Int), 0, []⟩] else [⟨(yl.length : Int), 0, []⟩, ⟨0, 0, xl⟩] : List Pt) := by cases y <;> exact hp
    have h1 : nearP ⟨0, 0, xl⟩ := ⟨Int.le_refl _, Int.le_refl _, .inl rfl, h.2⟩
    have h2 : nearP ⟨(yl.length : Int), 0, []⟩ := ⟨Int.natCast_nonneg _, Int.le_refl _, .inr ⟨rfl, rfl⟩, V_nil⟩
    cases F <;> simp at hp <;> rcases hp with rfl | rfl <;> assumption
  | (u, d) :: x, xl, [], yl, h, p, hp => by
    have hp : p ∈ (if F then [⟨0, 0, xl⟩, ⟨(yl.length : Int), 0, []⟩] else [⟨(yl.length : Int), 0, []⟩, ⟨0, 0, xl⟩] : List Pt) := hp
    have h1 : nearP ⟨0, 0, xl⟩ := ⟨Int.le_refl _, Int.le_refl _, .inl rfl, h.2⟩
    have h2 : nearP ⟨(yl.length : Int), 0, []⟩ := ⟨Int.natCast_nonneg _, Int.le_refl _, .inr ⟨rfl, rfl⟩, V_nil⟩
    cases F <;> simp at hp <;> rcases hp with rfl | rfl <;> assumption
  | (u, d) :: x, xl, (v, e) :: y, yl, h, p, hp => by
    have ih := docT_near F x xl y yl ⟨fun z hz => h.1 z (by simp [hz]), h.2⟩
    rw [docT] at hp
    have h1 : nearP ⟨0, 0, u⟩ := ⟨Int.le_refl _, Int.le_refl _, .inl rfl, h.1 (u, d) (by simp)⟩
    have h2 : nearP ⟨(v.length : Int), 0, []⟩ := ⟨Int.natCast_nonneg _, Int.le_refl _, .inr ⟨rfl, rfl⟩, V_nil⟩
    have h3 : nearP (unitP d) := by
      cases d
      · exact ⟨by decide, by decide, .inr ⟨rfl, rfl⟩, V_nil⟩
      · exact ⟨by decide, by decide, .inl rfl, V_nil⟩
    rcases List.mem_append.1 hp with hp | hp
    · rcases List.mem_append.1 hp with hp | hp
      · cases F <;> simp at hp <;> rcases hp with rfl | rfl <;> assumption
      · cases e <;> simp at hp
        rw [hp]; exact h3
    · exact ih p hp
theorem gaps_sums : ∀ (ps : List Pt) (acc : List UInt8), (∀ p ∈ ps, oneP p) → gsum (gapsR acc ps).1 (gapsR acc ps).2 = acc.length + (ps.map isP).sum ∧ psum (gapsR acc ps).1 (gapsR acc ps).2 = acc.length + putsP ps
  | [], acc, _ => by simp [gapsR, gsum, psum, putsP]
  | p :: ps, acc, h => by
    have h' : ∀ q ∈ ps, oneP q := fun q hq => h q (by simp [hq])
    rcases one_cases (h p (by simp)) with ⟨u, _, rfl⟩ | ⟨d, n, rfl⟩
    · obtain ⟨i1, i2⟩ := gaps_sums ps (acc ++ u) h'
      rw [gaps_put, i1, i2]
      have e1 : (List.map isP (⟨0, 0, u⟩ :: ps)).sum = u.length + (ps.map isP).sum := by simp [isP]
      have e2 : putsP (⟨0, 0, u⟩ :: ps) = u.length + putsP ps := by simp [putsP]
      rw [e1, e2, List.length_append]
      exact ⟨by omega, by omega⟩
    · obtain ⟨i1, i2⟩ := gaps_sums ps [] h'
      rw [gaps_unit]
      have e1 : (List.map isP (unitK d (n + 1) :: ps)).sum = (if d then 0 else ((n : Int) + 1)) + (ps.map isP).sum := by cases d <;> simp [isP, unitK]
      have e2 : putsP (unitK d (n + 1) :: ps) = putsP ps := by cases d <;> simp [putsP, unitK]
      have r1 : ∀ k : Nat, ((List.replicate k (([] : List UInt8), d)).map fun x => (x.1.length : Int) + if x.2 then 0 else 1).sum = if d then 0 else (k : Int) := by
        intro k
        induction k with
        | zero => cases d <;> simp
        | succ k ih => rw [List.replicate_succ, List.map_cons, List.sum_cons, ih]; cases d <;> simp <;> omega
      have r2 : ∀ k : Nat, ((List.replicate k (([] : List UInt8), d)).map fun x => x.1.length).sum = 0 := by
        intro k
        induction k with
        | zero => rfl
        | succ k ih => rw [List.replicate_succ, List.map_cons, List.sum_cons, ih]; rfl
      rw [e1, e2]
      unfold gsum at i1 ⊢
      unfold psum at i2 ⊢
      simp only [List.map_append, List.sum_append, List.map_cons, List.sum_cons, List.cons_append, r1, r2, List.length_nil] at i1 i2 ⊢
      constructor
      · cases d <;> simp at * <;> omega
      · omega
theorem gaps_V : ∀ (ps : List Pt) (acc : List UInt8), (∀ p ∈ ps, oneP p) → (∀ p ∈ ps, V p.put) → V acc → Vg (gapsR acc ps).1 (gapsR acc ps).2
  | [], acc, _, _, ha => ⟨fun x hx => (by cases hx), ha⟩
  | p :: ps, acc, h, hv, ha => by
    have h' : ∀ q ∈ ps, oneP q := fun q hq => h q (by simp [hq])
    have hv' : ∀ q ∈ ps, V q.put := fun q hq => hv q (by simp [hq])
    rcases one_cases (h p (by simp)) with ⟨u, _, rfl⟩ | ⟨d, n, rfl⟩
    · rw [gaps_put]
      exact gaps_V ps (acc ++ u) h' hv' (V_append ha (hv ⟨0, 0, u⟩ (by simp)))
    · obtain ⟨i1, i2⟩ := gaps_V ps [] h' hv' V_nil
      rw [gaps_unit]
      refine ⟨fun x hx => ?_, i2⟩
      rcases List.mem_append.1 hx with hx | hx
      · rcases List.mem_cons.1 hx with rfl | hx
        · exact ha
        · rw [(List.mem_replicate.1 hx).2]; exact V_nil
      · exact i1 x hx
theorem fold_cut : ∀ (ps : List Pt) (s : NSt), (∀ p ∈ ps, nearP p) → CutS (fun _ => True) s → CutS (fun _ => True) (ps.foldl addP s)
  | [], s, _, h => h
  | p :: ps, s, hp, h => by
    obtain ⟨k1, k2, k3, k4⟩ := hp p (by simp)
    exact fold_cut ps (addP s p) (fun q hq => hp q (by simp [hq])) (cut_add h p k1 k2 k3 k4 trivial)
theorem norm_V {ps : List Pt} (h : ∀ p ∈ ps, nearP p) : ∀ p ∈ normP ps, V p.put := by
  have h0 : CutS (fun _ => True) nst0 := ⟨trivial, trivial, fun p hp => (by cases hp), V_nil, ⟨fun p hp => (by cases hp), Int.le_refl _⟩⟩
  exact (cut_tell (fold_cut ps nst0 h h0)).2
theorem near_one {p : Pt} (h : oneP p) (hv : V p.put) : nearP p := by
  obtain ⟨k1, k2, k3⟩ := one_kind h
  exact ⟨k1, k2, k3, hv⟩
/-- What is turned: sound, over what the other one makes, and puts as much. -/
theorem trans_inv (F : Bool) {a b : List Pt} (fa : fineP a) (fb : fineP b) (va : ∀ p ∈ a, V p.put) (hl : longP a = longP b) :
    (∀ p ∈ tellP (transS F a b), oneP p) ∧ (∀ p ∈ tellP (transS F a b), V p.put) ∧ longP (tellP (transS F a b)) = (b.map isP).sum ∧ putsP (tellP (transS F a b)) = putsP a := by
  have sa := ones_sound fa.one
  have sb := ones_sound fb.one
  have na := norm_one a sa
  have nb := norm_one b sb
  have hU : lensU (normP a) = lensU (normP b) := by
    have h1 := lensU_long (normP a) (ones_sound na)
    have h2 := lensU_long (normP b) (ones_sound nb)
    rw [norm_long] at h1 h2
    omega
  have key : ∃ x xl y yl, tellP (transS F a b) = normP (docT F x xl y yl) ∧ x.length = y.length ∧ gsum y yl = (b.map isP).sum ∧ psum x xl = putsP a ∧ Vg x xl := by
    refine ⟨(gapsR [] (normP a)).1, (gapsR [] (normP a)).2, (gapsR [] (normP b)).1, (gapsR [] (normP b)).2, ?_, hU, ?_, ?_, ?_⟩
    · unfold transS normP
      cases F with
      | true => rw [if_pos rfl]; exact congrArg tellP (turn_first _ (normP a) (normP b) nst0 na nb hU (Nat.le_refl _))
      | false => rw [if_neg (by decide)]; exact congrArg tellP (turn_second (weight (normP b) + weight (normP a)) (normP a) (normP b) nst0 na nb hU (by omega))
    · rw [(gaps_sums (normP b) [] nb).1, (fine_norm fb).2.2.2]; simp
    · rw [(gaps_sums (normP a) [] na).2, puts_norm sa]; simp
    · exact gaps_V (normP a) [] na (norm_V fun p hp => near_one (fa.one p hp) (va p hp)) V_nil
  obtain ⟨x, xl, y, yl, e, h1, h2, h3, h4⟩ := key
  have hn := docT_near F x xl y yl h4
  have hs : ∀ p ∈ docT F x xl y yl, 0 ≤ p.keep ∧ 0 ≤ p.drop := fun p hp => ⟨(hn p hp).1, (hn p hp).2.1⟩
  rw [e]
  refine ⟨norm_one _ hs, norm_V hn, ?_, ?_⟩
  · rw [norm_long, docT_long F x xl y yl h1, h2]
  · rw [puts_norm hs, docT_puts F x xl y yl h1, h3]
end Go.Proofs.YtfedgjnhanlmeabGreatDoor

namespace Go.Proofs
open Go.Shelf
def Tryz.laysM316_ren : Go.Shelf.Ren := ⟨fun | 316 => 169 | n => n, fun | 9 => 9 | 3 => 3 | 4 => 4 | 37 => 156 | 0 => 0 | 127 => 267 | 5 => 5 | n => n, fun | n => n⟩
theorem Tryz.laysM316 : Go.Proofs.LaysM.n316 Tryz.prog Tryz.laysM316_ren := {
  mixed := by kernel_rfl
  f316 := Tryz.func169.trans (congrArg some (by kernel_rfl))
  t0 := Tryz.underlying0
  a0 := Tryz.isAgg0
  z0 := Tryz.sizeOf0
  v0 := Tryz.zeroValue0
  t3 := Tryz.underlying3
  a3 := Tryz.isAgg3
  z3 := Tryz.sizeOf3
  v3 := Tryz.zeroValue3
  t4 := Tryz.underlying4
  a4 := Tryz.isAgg4
  z4 := Tryz.sizeOf4
  v4 := Tryz.zeroValue4
  t9 := Tryz.underlying9
  a9 := Tryz.isAgg9
  z9 := Tryz.sizeOf9
  v9 := Tryz.zeroValue9
  t37 := Tryz.underlying156
  a37 := Tryz.isAgg156
  z37 := Tryz.sizeOf156
  v37 := Tryz.zeroValue156
  t127 := Tryz.underlying267
  a127 := Tryz.isAgg267
  z127 := Tryz.sizeOf267
  v127 := Tryz.zeroValue267
  t5 := Tryz.underlying5
  a5 := Tryz.isAgg5
  z5 := Tryz.sizeOf5
  v5 := Tryz.zeroValue5
  i0 := by kernel_rfl
  i3 := by kernel_rfl
  i4 := by kernel_rfl
  i5 := by kernel_rfl
  i9 := by kernel_rfl
  i37 := by kernel_rfl
  i127 := by kernel_rfl }
open Go.RowKit in
theorem Tryz.stringslite_Clone (s : ByteArray) (w : World) (hlim : s.size ≤ 281474976710656) :
    Calls Tryz.prog 169 #[.string s] w fun e w' => e = .returned (.string s) ∧ Below w.heap.size w w' := Any.stringslite_Clone Tryz.laysM316 s w hlim
end Go.Proofs

namespace Go.Proofs.YtfedgjnhanlmeabGreatDoor
open Go.RowKit
set_option linter.unusedVariables false
attribute [local go_sem] Oper.semAt_some

theorem cloneS_any (u : List UInt8) (hu : u.length ≤ 10000000) (w : World) : Calls Tryz.prog 110 #[.string ⟨u.toArray⟩] w fun e w' => e = .returned (.string ⟨u.toArray⟩) ∧ Below w.heap.size w w' := by
  have c := Tryz.stringslite_Clone ⟨u.toArray⟩ w (by simp [ByteArray.size]; omega)
  have C : Hid _ := c
  clear c
  go_enter Tryz.func110, Tryz.ntmps110
  go_wp2_with (first | (go_at_call 169; refine Calls.mono C.out ?_; rintro e w1 ⟨rfl, hb1⟩) | fail)
  go_ret
  exact ⟨rfl, hb1⟩
theorem cellsP_snocS (l : List Pt) (q : Pt) : cellsP (l ++ [q]) = cellsP l ++ partCells q := by simp [cellsP]
theorem cells_newS (w : World) (n : Nat) (hn : w.heap.size = n) (l : List Value) (t : TypeId) : ∀ j u, l[j]? = some u → (w.alloc (.cells l.toArray t)).cell? ((⟨n, 0, none⟩ : Addr).add j) = some u := by
  subst hn
  intro j u hj
  rw [Addr.add_lit, Nat.zero_add]
  have h := heap_alloc_new w (.cells l.toArray t)
  unfold World.cell?
  rw [h]
  simpa using hj
theorem own_setS {w : World} {B e size n b o : Nat} {v : Value} {xs : List Value} (h : w.ownsRow B e size v n xs) (hb : ∀ j, v.ownBlock = some j → j < b) (u : Value) : (w.setCell ⟨b, o, none⟩ u).ownsRow B e size v n xs :=
  own_same (S := fun k => k = b) h (sameBut_set rfl) fun k hk e => by have := hb k hk; omega

set_option maxRecDepth 100000 in
set_option maxHeartbeats 2000000 in
theorem own_any (v : Value) (ps : List Pt) (w : World) (hr : opAt w v ps) (hpl : ∀ q ∈ ps, q.put.length ≤ 10000000) (hl : ps.length ≤ 10000000) :
    Calls Tryz.prog 114 #[v] w fun e w' => ∃ v', e = .returned v' ∧ w'.ownsRow w.heap.size 50 3 v' ps.length (cellsP ps) ∧ Below w.heap.size w w' := by
  have HOP : Hid (opAt w v ps) := hr
  have HPL : Hid (∀ q ∈ ps, q.put.length ≤ 10000000) := hpl
  obtain ⟨p, c, rfl, r1, r2, _⟩ := hr
  unfold maxLen at r2
  obtain ⟨n, hn⟩ : ∃ n, ps.length = n := ⟨_, rfl⟩
  have HN : Hid (ps.length = n) := hn
  rw [hn] at r1 hl ⊢
  obtain ⟨i0, hi, hz0, hz1, hz2⟩ := info_parts info_part
  clear hpl hn
  go_enter Tryz.func114, Tryz.ntmps114
  go_wp2
  go_loopw [3, 8] (fun v3 i wr => ∃ k : Nat, i = .int .i64 k ∧ k ≤ n ∧ wr.ownsRow w.heap.size 50 3 v3 k (cellsP (ps.take k)) ∧ Below w.heap.size w wr) (fun _ i _ => n - (intOf i).toNat)
  case atStart => exact ⟨0, rfl, Nat.zero_le _, World.ownsRow_nil _ _ _ _, Below.refl _ _⟩
  case round =>
    obtain ⟨k, rfl, hk, hown, hbw⟩ := hrel
    obtain ⟨pv, cv, rfl⟩ := own_slice hown
    have HOW : Hid (wr.ownsRow w.heap.size 50 3 (.slice pv k cv) k (cellsP (ps.take k))) := hown
    have HBW : Hid (Below w.heap.size w wr) := hbw
    have hws := hbw.size
    have HWS : Hid (w.heap.size ≤ wr.heap.size) := hws
    by_cases hlt : k < n
    · have hkr : k < ps.length := by rw [HN.out]; exact hlt
      have hne : ps ≠ [] := by intro e; rw [e] at hkr; exact absurd hkr (Nat.not_lt_zero _)
      obtain ⟨p0, c0, hvv, _, _, hcell⟩ := HOP.out
      obtain ⟨b0, o, rfl, hb0, hcell⟩ := hcell hne
      obtain ⟨f0, f1, f2⟩ := hcell k ps[k] (List.getElem?_eq_getElem hkr)
      have g0 := (HBW.out.cell (p := ⟨b0, o + k * 3, none⟩) hb0).trans f0
      have g1 := (HBW.out.cell (p := ⟨b0, o + k * 3 + 1, none⟩) hb0).trans f1
      have g2 := (HBW.out.cell (p := ⟨b0, o + k * 3 + 2, none⟩) hb0).trans f2
      obtain rfl : p = some ⟨b0, o, none⟩ := by injection hvv
      have hplq := HPL.out _ (List.getElem_mem hkr)
      have HTK : Hid (cellsP (ps.take (k + 1)) = cellsP (ps.take k) ++ partCells ps[k]) := show _ = _ by rw [List.take_succ_eq_append_getElem hkr, cellsP_snocS]
      have hki : (k : Int) < (n : Int) := by omega
      clear hcell hvv f0 f1 f2 hne hown hbw
      generalize ps[k] = q at *
      obtain ⟨K, D, U⟩ := q
      simp only at g0 g1 g2 hplq
      have CL : Hid (∀ wx, Calls Tryz.prog 110 #[.string ⟨U.toArray⟩] wx fun e w' => e = .returned (.string ⟨U.toArray⟩) ∧ Below wx.heap.size wx w') := fun wx => cloneS_any U hplq wx
      obtain ⟨β, hβ⟩ : ∃ β, wr.heap.size = β := ⟨_, rfl⟩
      have HBT : Hid (wr.heap.size = β) := hβ
      go_wp2_with (first
        | (go_at_call 110; refine (CL.out _).mono ?_; rintro e w2 ⟨rfl, hb2⟩
           have hbox : w2.heap[β]? = some (.cells #[.int .i64 K, .int .i64 D, .string ⟨U.toArray⟩] 50 (0, 0)) := (hb2.block β (by rw [World.size_alloc, HBT.out]; omega)).trans (by have := heap_alloc_new wr (.cells #[.int .i64 K, .int .i64 D, .string ⟨U.toArray⟩] 50); rwa [HBT.out] at this)
           have x0 : w2.cell? ⟨β, 0, none⟩ = some (.int .i64 K) := Lib.cell_of_heap hbox 0
           have x1 : w2.cell? ⟨β, 1, none⟩ = some (.int .i64 D) := Lib.cell_of_heap hbox 1
           have x2 : w2.cell? ⟨β, 2, none⟩ = some (.string ⟨U.toArray⟩) := Lib.cell_of_heap hbox 2
           have xf : w2.frozen? ⟨β, 2, none⟩ = false := by unfold World.frozen?; simp [hbox]
           have HB2 : Hid (Below w.heap.size w w2) := (HBW.out.alloc HWS.out _).trans (hb2.mono (by rw [World.size_alloc]; have := HWS.out; omega))
           have HO2 : Hid (w2.ownsRow w.heap.size 50 3 (.slice pv k cv) k (cellsP (ps.take k))) := own_below (HOW.out.alloc _) hb2
           have hs2 : β + 1 ≤ w2.heap.size := by have := hb2.size; rw [World.size_alloc, HBT.out] at this; exact this
           have HS2 : Hid (β + 1 ≤ w2.heap.size) := hs2
           have HNE : Hid (∀ j, (Value.slice pv k cv).ownBlock = some j → j < β) := fun j hj => HBT.out ▸ (HOW.out.lt j hj).2
           clear hb2 hbox)
        | (at_builtin; refine wpList_append_own _ rfl _ _ 23 rfl w.heap.size 50 i0 (.agg #[.int .i64 0, .int .i64 0, .string ⟨#[]⟩]) 3 32 Tryz.underlying23 hi hz0 hz1 hz2 rfl (by decide) _ _ _ rfl ((own_setS HO2.out HNE.out _).alloc _) ⟨w2.heap.size, 0, none⟩ 1 1 (partCells ⟨K, D, U⟩) rfl rfl (cells_newS _ _ (by first | rfl | simp) _ _) (partCells_one _) (by unfold maxLen; omega) (by omega) (by have := HWS.out; have := HS2.out; have := HBT.out; simp; omega) ?_)
        | fail)
      intro v' w3 hown' hg' _
      obtain ⟨p', c', rfl⟩ := own_slice hown'
      have HO3 : Hid (w3.ownsRow w.heap.size 50 3 (.slice p' (k + 1) c') (k + 1) (cellsP (ps.take k) ++ partCells ⟨K, D, U⟩)) := hown'
      have HB3 : Hid (Below w.heap.size w w3) := ((HB2.out.setCell (p := ⟨β, 2, none⟩) (by show w.heap.size ≤ β; have := HWS.out; have := HBT.out; omega) _).alloc (by rw [World.size_setCell]; exact HB2.out.size) _).grown hg' (by simp; have := HB2.out.size; omega) fun j hj => (HO2.out.lt j hj).1
      clear hown' hg' x0 x1 x2 xf g0 g1 g2
      go_wp2
      refine ⟨⟨k + 1, by go_num, by omega, ?_, HB3.out⟩, by simp [intOf]; omega⟩
      rw [HTK.out]
      exact HO3.out
    · obtain rfl : k = n := by omega
      have hki : ¬ ((k : Int) < (k : Int)) := by omega
      have HTK : Hid (ps.take k = ps) := show _ = _ by rw [← HN.out]; exact List.take_length
      clear hown hbw
      go_wp2
      go_ret
      have := HOW.out
      rw [HTK.out] at this
      exact ⟨_, rfl, this, HBW.out⟩
end Go.Proofs.YtfedgjnhanlmeabGreatDoor

namespace Go.Proofs.YtfedgjnhanlmeabGreatDoor
open Go.RowKit
set_option linter.unusedVariables false
attribute [local go_sem] Oper.semAt_some

/-- An operation without an error over so many bytes. -/
structure okOp (ps : List Pt) (len : Int) : Prop where
  one : ∀ p ∈ ps, oneP p
  put : ∀ p ∈ ps, V p.put
  long : longP ps = len
theorem wts_eqS : ∀ (ps : List Pt), wts ps = longP ps + putsP ps
  | [] => by simp [wts, longP, putsP]
  | p :: ps => by
    have ih := wts_eqS ps
    have e1 : wts (p :: ps) = wtP p + wts ps := by simp [wts]
    have e2 : putsP (p :: ps) = p.put.length + putsP ps := by simp [putsP]
    rw [e1, e2, long_cons, ih]; unfold wtP lenP; omega
theorem len_wtsS : ∀ (ps : List Pt), (∀ p ∈ ps, oneP p) → (ps.length : Int) ≤ wts ps
  | [], _ => by simp [wts]
  | p :: ps, h => by
    have ih := len_wtsS ps fun q hq => h q (by simp [hq])
    have e1 : wts (p :: ps) = wtP p + wts ps := by simp [wts]
    have h1 := length_pos (h p (by simp))
    have e2 : lengthP p = wtP p := rfl
    rw [e1, List.length_cons]; omega
theorem put_le_putsS (p : Pt) : ∀ (qs : List Pt), p ∈ qs → p.put.length ≤ putsP qs
  | [], h => by cases h
  | q :: qs, h => by
    have e : putsP (q :: qs) = q.put.length + putsP qs := by simp [putsP]
    rw [e]
    rcases List.mem_cons.1 h with rfl | h
    · omega
    · have := put_le_putsS p qs h; omega
theorem okOp.fine {ps : List Pt} {len : Int} (h : okOp ps len) (hb : len + putsP ps < 1000000) : fineP ps := by
  have h1 := wts_eqS ps
  have h2 := len_wtsS ps h.one
  have h3 := h.long
  exact ⟨h.one, by omega, by omega⟩
theorem okOp.chk {ps : List Pt} {len : Int} (h : okOp ps len) : chkE ps len = 0 := chk_of h.one h.put h.long
theorem okOp.wf {ps : List Pt} {len : Int} (h : okOp ps len) (hb : len + putsP ps < 1000000) : ∀ p ∈ ps, wfP p := fun p hp => by
  have h1 := one_kind (h.one p hp)
  have h2 := put_le_putsS p ps hp
  have h3 : lenP p ≤ longP ps := by
    have := h.one
    clear hb h2 h1
    revert hp this
    generalize h.long = hl
    clear hl
    intro hp hone
    clear h
    induction ps with
    | nil => cases hp
    | cons q ps ih =>
      rw [long_cons]
      have hq := one_len (hone q (by simp))
      have hr := long_pos (ps := ps) fun x hx => hone x (by simp [hx])
      rcases List.mem_cons.1 hp with rfl | hp
      · omega
      · have := ih hp (fun x hx => hone x (by simp [hx])); omega
  have h4 := h.long
  unfold lenP at h3
  exact ⟨by omega, by omega, by omega, by omega, by omega⟩
theorem okOp.lens {ps : List Pt} {len : Int} (h : okOp ps len) (hb : len + putsP ps < 1000000) : (lensW ps).1 = len := by
  have hs := ones_sound h.one
  have h1 := (lens_plain ps hs (by have := wts_eqS ps; have := h.long; omega)).1
  have h2 := lensU_long ps hs
  rw [h1, spreads_eq]
  have h3 := h.long
  have h4 : ((gapsR [] ps).1.length : Int) = lensU ps := rfl
  rw [h4, h2, h3]
theorem okOp.turn {a b : List Pt} {len : Int} (ha : okOp a len) (hb : okOp b len) (h1 : len + putsP a < 1000000) (h2 : len + putsP b < 1000000) : bothE a b = 0 ∧ turnE a b = 0 := by
  have e1 : bothE a b = 0 := by
    unfold bothE
    rw [ha.lens h1, hb.lens h2, if_pos ha.chk, hb.chk]
  refine ⟨e1, ?_⟩
  unfold turnE
  rw [if_pos e1, if_pos (by rw [ha.lens h1, hb.lens h2])]
theorem okOp.trans {a b : List Pt} {len : Int} (ha : okOp a len) (hb : okOp b len) (h1 : len + putsP a < 1000000) (h2 : len + putsP b < 1000000) : okOp (tellP (transS false a b)) ((b.map isP).sum) ∧ putsP (tellP (transS false a b)) = putsP a := by
  obtain ⟨k1, k2, k3, k4⟩ := trans_inv false (ha.fine h1) (hb.fine h2) ha.put (ha.long.trans hb.long.symm)
  exact ⟨⟨k1, k2, k3⟩, k4⟩
theorem okOp_of_chk {ps : List Pt} {len : Int} (h : chkE ps len = 0) : okOp ps len := by
  obtain ⟨h1, h2, h3⟩ := chk_sound2 h
  exact ⟨fun p hp => one_ofB (h1 p hp).1, fun p hp => V_of_scan (h1 p hp).2, h2⟩

/-- One operation behind the other, from so many bytes on. -/
def chainE : Int → List SE → Prop
  | _, [] => True
  | len, x :: E => okOp x.op len ∧ putsP x.op ≤ 40000 ∧ 0 ≤ (x.op.map isP).sum ∧ (x.op.map isP).sum ≤ 3000 ∧ chainE ((x.op.map isP).sum) E
def endE : Int → List SE → Int
  | len, [] => len
  | _, x :: E => endE ((x.op.map isP).sum) E
def turnS (ps : List Pt) (E : List SE) : List Pt := E.foldl (fun a x => tellP (transS false a x.op)) ps
theorem turnS_ok : ∀ (E : List SE) (ps : List Pt) (len : Int), okOp ps len → putsP ps ≤ 40000 → len ≤ 3000 → chainE len E → okOp (turnS ps E) (endE len E) ∧ putsP (turnS ps E) = putsP ps
  | [], ps, len, h, _, _, _ => ⟨h, rfl⟩
  | x :: E, ps, len, h, hp, hl, hc => by
    obtain ⟨c1, c2, c3, c4, c5⟩ := hc
    obtain ⟨k1, k2⟩ := h.trans c1 (by omega) (by omega)
    obtain ⟨i1, i2⟩ := turnS_ok E _ _ k1 (by omega) c4 c5
    exact ⟨i1, i2.trans k2⟩
theorem turnS_take (ps : List Pt) (E : List SE) (k : Nat) (hk : k < E.length) : turnS ps (E.take (k + 1)) = tellP (transS false (turnS ps (E.take k)) E[k].op) := by
  unfold turnS
  rw [List.take_succ_eq_append_getElem hk, List.foldl_append]
  rfl
theorem chain_at : ∀ (E : List SE) (len : Int) (k : Nat) (hk : k < E.length), chainE len E → len ≤ 3000 → chainE len (E.take k) ∧ okOp E[k].op (endE len (E.take k)) ∧ putsP E[k].op ≤ 40000 ∧ endE len (E.take k) ≤ 3000 ∧ ((0 ≤ len) → 0 ≤ endE len (E.take k))
  | [], _, k, hk, _, _ => by simp at hk
  | x :: E, len, 0, _, h, hl => ⟨trivial, h.1, h.2.1, hl, fun h => h⟩
  | x :: E, len, k + 1, hk, h, hl => by
    obtain ⟨c1, c2, c3, c4, c5⟩ := h
    obtain ⟨i1, i2, i3, i4, i5⟩ := chain_at E _ k (by simpa using hk) c5 c4
    exact ⟨⟨c1, c2, c3, c4, i1⟩, i2, i3, i4, fun _ => i5 c3⟩

/-- A log, or the end of one, that is read. -/
def logAt (lo : Nat) (w : World) (p : Option Addr) (n c : Nat) (E : List SE) : Prop :=
  n = E.length ∧ n ≤ c ∧ c ≤ maxLen ∧ (E ≠ [] → ∃ g o, p = some ⟨g, o, none⟩ ∧ g < w.heap.size ∧ ∀ (i : Nat) (x : SE), E[i]? = some x → ∃ v, w.cell? ⟨g, o + i * 3, none⟩ = some (.int .i64 x.c) ∧ w.cell? ⟨g, o + i * 3 + 1, none⟩ = some (.int .i64 x.i) ∧ w.cell? ⟨g, o + i * 3 + 2, none⟩ = some v ∧ opX lo w v x.op)
theorem logAt_of {e lo base : Nat} {w : World} {p : Option Addr} {n c : Nat} {E : List SE} (h : isLog e lo base w (.slice p n c) E) : logAt lo w p n c E := by
  by_cases hne : E = []
  · subst hne
    obtain ⟨vs, _, ⟨_, hrow⟩, _⟩ := h
    rcases hrow with ⟨hv, _⟩ | ⟨g, cap, cur, hv, _, _, h6, h7, _⟩
    · injection hv with h1 h2 h3
      subst h2 h3
      exact ⟨rfl, Nat.le_refl _, Nat.zero_le _, fun h => absurd rfl h⟩
    · injection hv with h1 h2 h3
      subst h2 h3
      exact ⟨rfl, h6, h7, fun h => absurd rfl h⟩
  · obtain ⟨g, h1, h2, h3, h4, h5, h6⟩ := isLog_at h hne
    exact ⟨h3, h4, h5, fun _ => ⟨g, 0, h1, h2, fun i x hx => by
      obtain ⟨v, k0, k1, k2, k3⟩ := h6 i x hx
      rw [Nat.zero_add]
      exact ⟨v, k0, k1, k2, k3⟩⟩⟩
theorem logAt_below {lo : Nat} {w w' : World} {p : Option Addr} {n c : Nat} {E : List SE} (h : logAt lo w p n c E) (hb : Below w.heap.size w w') : logAt lo w' p n c E := by
  obtain ⟨h1, h2, h3, h4⟩ := h
  refine ⟨h1, h2, h3, fun hne => ?_⟩
  obtain ⟨g, o, k1, k2, k3⟩ := h4 hne
  refine ⟨g, o, k1, Nat.lt_of_lt_of_le k2 hb.size, fun i x hx => ?_⟩
  obtain ⟨v, j0, j1, j2, j3⟩ := k3 i x hx
  exact ⟨v, (hb.cell (p := ⟨g, o + i * 3, none⟩) k2).trans j0, (hb.cell (p := ⟨g, o + i * 3 + 1, none⟩) k2).trans j1, (hb.cell (p := ⟨g, o + i * 3 + 2, none⟩) k2).trans j2, opX_grown j3 hb⟩
/-- The end of a log, as the walk writes it. -/
theorem logAt_cut {lo : Nat} {w : World} {p : Option Addr} {n c m : Nat} {E : List SE} (h : logAt lo w p n c E) (hm : m ≤ n) : logAt lo w (if c = m then p else Option.map (fun x => x.add (m * 3)) p) (n - m) (c - m) (E.drop m) := by
  obtain ⟨rfl, h2, h3, h4⟩ := h
  refine ⟨by rw [List.length_drop], by omega, by omega, fun hne => ?_⟩
  have hlt : m < E.length := by
    rcases Nat.lt_or_ge m E.length with h | h
    · exact h
    · exact absurd (List.drop_eq_nil_of_le h) hne
  obtain ⟨g, o, rfl, k2, k3⟩ := h4 (fun e => by subst e; simp at hlt)
  rw [if_neg (by omega)]
  refine ⟨g, o + m * 3, by simp [Addr.add_lit], k2, fun i x hx => ?_⟩
  rw [List.getElem?_drop] at hx
  obtain ⟨v, j0, j1, j2, j3⟩ := k3 (m + i) x hx
  have e : o + m * 3 + i * 3 = o + (m + i) * 3 := by omega
  rw [e]
  exact ⟨v, j0, j1, j2, j3⟩

set_option maxRecDepth 100000 in
set_option maxHeartbeats 2000000 in
theorem turnSv_any (lo : Nat) (v : Value) (ps : List Pt) (p : Option Addr) (n c : Nat) (E : List SE) (len : Int) (w : World) (hT : Lib.Utf8Tabs 2 3 w) (hr : opAt w v ps) (hE : logAt lo w p n c E) (hok : okOp ps len) (hpu : putsP ps ≤ 40000) (hl0 : 0 ≤ len) (hl : len ≤ 3000) (hch : chainE len E) (hn : n ≤ 1000) :
    Calls Tryz.prog 171 #[v, .slice p n c] w fun e w' => ∃ v', e = .returned (.tuple #[v', .nilIface]) ∧ opN w.heap.size w' v' (turnS ps E) ∧ Below w.heap.size w w' := by
  have hlen : ps.length ≤ 100000 := by have := wts_eqS ps; have := len_wtsS ps hok.one; have := hok.long; omega
  have CO : Hid _ := own_any v ps w hr (fun q hq => by have := put_le_putsS q ps hq; omega) (by omega)
  have HE : Hid (logAt lo w p n c E) := hE
  have HT : Hid _ := hT
  have HCH : Hid (okOp ps len ∧ putsP ps ≤ 40000 ∧ 0 ≤ len ∧ len ≤ 3000 ∧ chainE len E) := ⟨hok, hpu, hl0, hl, hch⟩
  obtain ⟨h1, h2, h3, _⟩ := hE
  have HN : Hid (n = E.length) := h1
  unfold maxLen at h3
  obtain ⟨pv, cv, rfl, _⟩ := hr
  have hni : (n : Int) ≤ 1000 := by omega
  clear hT hok hpu hl0 hl hch h1 hlen
  go_enter Tryz.func171, Tryz.ntmps171
  go_wp2_with (first
    | (go_at_call 114; refine Calls.mono CO.out ?_; rintro e w1 ⟨v1, rfl, ho1, hb1⟩; have HO1 : Hid (opN w.heap.size w1 v1 ps) := opN_own (Nat.le_refl _) ho1; have HB1 : Hid (Below w.heap.size w w1) := hb1; clear ho1 hb1)
    | fail)
  go_loopw [0, 14] (fun v0 i wr => ∃ k : Nat, i = .int .i64 k ∧ k ≤ n ∧ opN w.heap.size wr v0 (turnS ps (E.take k)) ∧ Below w.heap.size w wr) (fun _ i _ => n - (intOf i).toNat)
  case atStart => exact ⟨0, rfl, Nat.zero_le _, HO1.out, HB1.out⟩
  case round =>
    obtain ⟨k, rfl, hk, hop', hbw⟩ := hrel
    obtain ⟨L0, hL0⟩ : ∃ L, (turnS ps (E.take k)).length = L := ⟨_, rfl⟩
    have hop := hop'
    obtain ⟨⟨p0, c0, rfl, _⟩, _⟩ := hop'
    have HOP : Hid (opN w.heap.size wr (.slice p0 (turnS ps (E.take k)).length c0) (turnS ps (E.take k))) := hop
    have HBW : Hid (Below w.heap.size w wr) := hbw
    rw [hL0]
    by_cases hlt : k < n
    · have hkr : k < E.length := by rw [← HN.out]; exact hlt
      have hne : E ≠ [] := by intro e; rw [e] at hkr; exact absurd hkr (Nat.not_lt_zero _)
      have hcell := HE.out.2.2.2
      obtain ⟨g, o, rfl, hg, hcell⟩ := hcell hne
      obtain ⟨ve, f0, f1, f2, f3⟩ := hcell k E[k] (List.getElem?_eq_getElem hkr)
      have g0 := (HBW.out.cell (p := ⟨g, o + k * 3, none⟩) hg).trans f0
      have g1 := (HBW.out.cell (p := ⟨g, o + k * 3 + 1, none⟩) hg).trans f1
      have g2 := (HBW.out.cell (p := ⟨g, o + k * 3 + 2, none⟩) hg).trans f2
      have HX : Hid (opAt wr ve E[k].op) := opAt_below f3.1 HBW.out (Nat.le_refl _)
      have hki : (k : Int) < (n : Int) := by omega
      obtain ⟨c1, c2, c3, c4, c5⟩ := HCH.out
      obtain ⟨t1, t2, t3, t4, t5⟩ := chain_at E len k hkr c5 c4
      obtain ⟨s1, s2⟩ := turnS_ok (E.take k) ps len c1 c2 c4 t1
      have b1 : endE len (E.take k) + putsP (turnS ps (E.take k)) < 1000000 := by omega
      have b2 : endE len (E.take k) + putsP E[k].op < 1000000 := by omega
      obtain ⟨e1, e2⟩ := s1.turn t2 b1 b2
      have HTK : Hid (turnS ps (E.take (k + 1)) = tellP (transS false (turnS ps (E.take k)) E[k].op)) := turnS_take ps E k hkr
      have CT : Hid (∀ wx, Below wr.heap.size wr wx → Calls Tryz.prog 180 #[.slice p0 (turnS ps (E.take k)).length c0, ve, .bool false] wx fun e w' => ∃ v', e = .returned (.tuple #[v', .nilIface]) ∧ opN wx.heap.size w' v' (turnS ps (E.take (k + 1))) ∧ Below wx.heap.size wx w') := fun wx hb => by
        have f1 := s1.fine b1
        have f2 := t2.fine b2
        have := trans_allN _ ve false (turnS ps (E.take k)) E[k].op wx (Go.Proofs.Utf8Tabs_below HT.out (HBW.out.trans (hb.mono HBW.out.size))) (opAt_below HOP.out.1 hb (Nat.le_refl _)) (opAt_below HX.out hb (Nat.le_refl _)) (s1.wf b1) (t2.wf b2) f1.len f2.len fun _ => ⟨f1, f2⟩
        rw [e2, if_pos rfl] at this
        rw [HTK.out]
        exact this
      have hsh : ∃ p c, ve = .slice p E[k].op.length c := by obtain ⟨p, c, e, _⟩ := HX.out; exact ⟨p, c, e⟩
      obtain ⟨pe, ce, rfl⟩ := hsh
      rw [hL0] at CT HOP
      generalize E[k].op.length = L1 at *
      generalize E[k] = x at *
      obtain ⟨xc, xi, xo⟩ := x
      simp only at g0 g1
      clear hcell f0 f1 f2 f3 hne c1 c2 c3 c4 c5 t1 t2 t3 t4 t5 s1 s2 b1 b2 e1 e2 hop hbw
      go_wp2_with (first
        | (go_at_call 180; refine (CT.out _ ((Below.refl _ _).alloc (Nat.le_refl _) _)).mono ?_; rintro e w3 ⟨v3, rfl, ho3, hb3⟩; have HB3 : Hid (Below w.heap.size w w3) := (HBW.out.alloc HBW.out.size _).trans (hb3.mono (by rw [World.size_alloc]; have := HBW.out.size; omega)); have HO3 : Hid (opN w.heap.size w3 v3 (turnS ps (E.take (k + 1)))) := ho3.mono (by rw [World.size_alloc]; have := HBW.out.size; omega); clear hb3 ho3)
        | fail)
      exact ⟨⟨k + 1, by go_num, by omega, HO3.out, HB3.out⟩, by simp [intOf]; omega⟩
    · obtain rfl : k = n := by omega
      have hki : ¬ ((k : Int) < (k : Int)) := by omega
      have HTK : Hid (E.take k = E) := show _ = _ by rw [HN.out]; exact List.take_length
      clear hop hbw
      go_wp2
      go_ret2
      have := HOP.out
      rw [hL0, HTK.out] at this
      exact ⟨_, rfl, this, HBW.out⟩
end Go.Proofs.YtfedgjnhanlmeabGreatDoor

namespace Go.Proofs.YtfedgjnhanlmeabGreatDoor
open Go.RowKit
set_option linter.unusedVariables false
attribute [local go_sem] Oper.semAt_some

/-- What the document asks of the places where parts meet. -/
def refBad : List Pt → List UInt8 → Bool
  | [], _ => false
  | p :: ps, s => badPiece s || badPiece (s.drop (lenP p).toNat) || refBad ps (s.drop (lenP p).toNat)
theorem badO_head (ps : List Pt) (s : List UInt8) (hl : leftP ps s = []) (h : badPiece s = true) : badO ps s = true := by
  induction ps generalizing s with
  | nil =>
    have : s = [] := hl
    rw [this] at h
    cases h
  | cons p ps ih =>
    rw [badO, Bool.or_eq_true]
    cases hn : (lenP p).toNat with
    | zero =>
      refine .inr ?_
      have hl' : leftP ps (s.drop (lenP p).toNat) = [] := hl
      rw [hn] at hl'
      exact ih _ hl' h
    | succ m =>
      refine .inl ?_
      cases s with
      | nil => cases h
      | cons b l => exact h
theorem refBad_eq (ps : List Pt) (s : List UInt8) (hl : leftP ps s = []) : refBad ps s = badO ps s := by
  induction ps generalizing s with
  | nil => rfl
  | cons p ps ih =>
    have hl' : leftP ps (s.drop (lenP p).toNat) = [] := hl
    have e := ih _ hl'
    rw [Bool.eq_iff_iff]
    constructor
    · intro h
      rw [refBad, Bool.or_eq_true, Bool.or_eq_true] at h
      rcases h with (h | h) | h
      · exact badO_head (p :: ps) s hl h
      · rw [badO, Bool.or_eq_true]; exact .inr (badO_head ps _ hl' h)
      · rw [badO, Bool.or_eq_true]; rw [e] at h; exact .inr h
    · intro h
      rw [badO, Bool.or_eq_true] at h
      rw [refBad, Bool.or_eq_true, Bool.or_eq_true]
      rcases h with h | h
      · refine .inl (.inl ?_)
        cases s with
        | nil => simp [badPiece] at h
        | cons b l =>
          cases hn : (lenP p).toNat with
          | zero => rw [hn] at h; cases h
          | succ m => rw [hn] at h; exact h
      · rw [← e] at h; exact .inr h

theorem startO_eq (b : UInt8) : startO b = (decide ((b.toNat : Int) < 128) || decide (192 ≤ (b.toNat : Int))) := by
  have hb := b.toNat_lt
  unfold startO Lib.runeStart
  rw [Bool.eq_iff_iff]
  simp only [bne_iff_ne, ne_eq, Bool.or_eq_true, decide_eq_true_eq]
  omega
set_option maxRecDepth 100000 in
set_option maxHeartbeats 1000000 in
theorem edge_end (s : List UInt8) (w : World) (hs : s.length < 1000000000) :
    Calls Tryz.prog 109 #[.string ⟨s.toArray⟩, .int .i64 s.length] w fun e w' => e = .returned (.bool true) ∧ w' = w := by
  have hz := str_size s
  go_enter Tryz.func109, Tryz.ntmps109
  go_wp2
  go_ret
  exact ⟨rfl, rfl⟩
set_option maxRecDepth 100000 in
set_option maxHeartbeats 1000000 in
theorem edge_mid (s : List UInt8) (k : Nat) (w : World) (hs : s.length < 1000000000) (hk : k < s.length) :
    Calls Tryz.prog 109 #[.string ⟨s.toArray⟩, .int .i64 k] w fun e w' => e = .returned (.bool (!badPiece (s.drop k))) ∧ w' = w := by
  have hz := str_size s
  have hd : s.drop k = s[k] :: s.drop (k + 1) := List.drop_eq_getElem_cons hk
  have hb : badPiece (s.drop k) = !startO s[k] := by rw [hd]; rfl
  rw [startO_eq] at hb
  obtain ⟨R, hR⟩ : ∃ R, (!badPiece (s.drop k)) = R := ⟨_, rfl⟩
  have HB : Hid (R = (decide ((s[k].toNat : Int) < 128) || decide (192 ≤ (s[k].toNat : Int)))) := by
    show R = _
    rw [← hR, hb, Bool.not_not]
  rw [hR]
  clear hd hb hR
  go_enter Tryz.func109, Tryz.ntmps109
  go_wp2
  all_goals go_ret
  all_goals refine ⟨?_, rfl⟩
  all_goals rw [HB.out]
  all_goals have hne : ((k : Int) == (s.length : Int)) = false := beq_eq_false_iff_ne.2 (by omega)
  all_goals first
    | (rw [hne, Bool.false_or]; rfl)
    | (rename_i h; have h' : (s[k].toNat : Int) < 128 := h; rw [decide_eq_true h']; rfl)
theorem edge_any (s : List UInt8) (k : Nat) (w : World) (hs : s.length < 1000000000) (hk : k ≤ s.length) :
    Calls Tryz.prog 109 #[.string ⟨s.toArray⟩, .int .i64 k] w fun e w' => e = .returned (.bool (!badPiece (s.drop k))) ∧ w' = w := by
  rcases Nat.lt_or_ge k s.length with h | h
  · exact edge_mid s k w hs h
  · obtain rfl : k = s.length := Nat.le_antisymm hk h
    rw [List.drop_length]
    exact edge_end s w hs
end Go.Proofs.YtfedgjnhanlmeabGreatDoor

namespace Go.Proofs.YtfedgjnhanlmeabGreatDoor
open Go.RowKit
set_option linter.unusedVariables false
attribute [local go_sem] Oper.semAt_some

/-- How far so many parts reach. -/
def atP (ps : List Pt) : Nat := (ps.map fun p => (lenP p).toNat).sum
theorem leftP_at (ps : List Pt) (s : List UInt8) : leftP ps s = s.drop (atP ps) := by
  induction ps generalizing s with
  | nil => rfl
  | cons p ps ih =>
    show leftP ps (s.drop (lenP p).toNat) = _
    rw [ih, List.drop_drop]
    simp [atP]
theorem at_snoc (ps : List Pt) (p : Pt) : atP (ps ++ [p]) = atP ps + (lenP p).toNat := by simp [atP]
theorem fits_le (ps : List Pt) (s : List UInt8) (h : fitsP ps s) (k : Nat) : atP (ps.take k) ≤ s.length := by
  induction ps generalizing s k with
  | nil => simp [atP]
  | cons p ps ih =>
    obtain ⟨h1, h2, h3, h4⟩ := h
    cases k with
    | zero => simp [atP]
    | succ k =>
      have := ih _ h4 k
      rw [List.length_drop] at this
      show atP (p :: ps.take k) ≤ _
      unfold atP at this ⊢
      simp only [List.map_cons, List.sum_cons]
      omega
theorem refBad_at (ps : List Pt) (s : List UInt8) (k : Nat) (hk : k < ps.length) : refBad (ps.drop k) (s.drop (atP (ps.take k))) = (badPiece (s.drop (atP (ps.take k))) || badPiece (s.drop (atP (ps.take (k + 1)))) || refBad (ps.drop (k + 1)) (s.drop (atP (ps.take (k + 1))))) := by
  rw [List.drop_eq_getElem_cons hk, refBad, List.drop_drop, ← at_snoc, ← List.take_succ_eq_append_getElem hk]
theorem applyP_snoc (ps : List Pt) (s : List UInt8) (k : Nat) (hk : k < ps.length) : applyP (ps.take (k + 1)) s = applyP (ps.take k) s ++ madeP (ps[k], (s.drop (atP (ps.take k))).take (lenP ps[k]).toNat) := by
  unfold applyP
  rw [List.take_succ_eq_append_getElem hk, pcs_append, List.flatMap_append, leftP_at]
  simp [pcs]
/-- What the document adds of a part. -/
theorem made_cut (s : List UInt8) (a : Nat) (p : Pt) (h0 : 0 ≤ p.keep) (h1 : 0 ≤ p.drop) (h2 : p.keep = 0 ∨ p.drop = 0) : madeP (p, (s.drop a).take (lenP p).toNat) = (s.drop a).take p.keep.toNat ++ p.put := by
  unfold madeP lenP
  rcases Int.lt_or_le 0 p.keep with h | h
  · rw [if_pos h]
    have : p.drop = 0 := by omega
    simp [this]
  · have : p.keep = 0 := by omega
    simp [this]

theorem apply_lenR {ps : List Pt} {s : List UInt8} (h : fitsP ps s) (k : Nat) : (applyP (ps.take k) s).length ≤ s.length + putsP ps := by
  have e : pcs ps s = pcs (ps.take k) s ++ pcs (ps.drop k) (leftP (ps.take k) s) := by
    conv => lhs; rw [← List.take_append_drop k ps]
    rw [pcs_append]
  exact made_pre h e
theorem cat3 (a u : List UInt8) (X : ByteArray) (x : List UInt8) (h : X.data.toList = x) : ByteArray.mk a.toArray ++ (X ++ ByteArray.mk u.toArray) = ByteArray.mk (a ++ (x ++ u)).toArray := by
  subst h
  apply ByteArray.ext
  simp [ByteArray.data_append]
theorem cut_mid (l : List UInt8) (a n : Nat) : ((ByteArray.mk l.toArray).extract a (a + n)).data.toList = (l.drop a).take n := by
  rw [Lib.extract_data]
  simp

set_option maxRecDepth 100000 in
set_option maxHeartbeats 2000000 in
theorem refApply_err (v : Value) (ps : List Pt) (s : List UInt8) (w : World) (hr : opAt w v ps) (hwf : ∀ p ∈ ps, wfP p) (hsm : ∀ p ∈ ps, p.put.length < 100000000) (hs : s.length < 1000000000) (hl : ps.length < 10000000) (he : chkE ps (s.length : Int) ≠ 0) :
    Calls Tryz.prog 31 #[v, .string ⟨s.toArray⟩] w fun e w' => e = .returned (.tuple #[.string ⟨#[]⟩, .int .i64 (chkE ps (s.length : Int))]) ∧ Below w.heap.size w w' := by
  have cC : Hid _ := refCheck_any v ps (s.length : Int) w hr hwf hsm (by omega) hl
  have hz := str_size s
  obtain ⟨E, hE⟩ : ∃ E, chkE ps (s.length : Int) = E := ⟨_, rfl⟩
  rw [hE] at cC he ⊢
  obtain ⟨p, c, rfl, _⟩ := hr
  clear hwf hsm hE
  go_enter Tryz.func31, Tryz.ntmps31
  go_wp2_with (first | (go_at_call 84; refine Calls.mono cC.out ?_; rintro e w1 ⟨rfl, hb1⟩) | fail)
  go_ret2
  exact ⟨rfl, hb1⟩

set_option maxRecDepth 100000 in
set_option maxHeartbeats 4000000 in
theorem refApply_fine (v : Value) (ps : List Pt) (s : List UInt8) (w : World) (hr : opAt w v ps) (hwf : ∀ p ∈ ps, wfP p) (hsm : ∀ p ∈ ps, p.put.length < 100000000) (hs : s.length < 100000000) (hl : ps.length < 10000000) (hpu : putsP ps < 100000000) (he : chkE ps (s.length : Int) = 0) :
    Calls Tryz.prog 31 #[v, .string ⟨s.toArray⟩] w fun e w' => e = .returned (.tuple #[.string ⟨(if badO ps s then [] else applyP ps s).toArray⟩, .int .i64 (if badO ps s then 10 else 0)]) ∧ Below w.heap.size w w' := by
  have cC : Hid _ := refCheck_any v ps (s.length : Int) w hr hwf hsm (by omega) hl
  have hz := str_size s
  rw [he] at cC
  obtain ⟨hfit, hleft⟩ := chkE_fits he
  have hones : ∀ p ∈ ps, soundP p ∧ (p.keep = 0 ∨ p.drop = 0) := by
    unfold chkE at he
    split at he
    · rename_i h1
      exact fun p hp => one_sound (chk1_ones h1 p hp).1
    · rename_i h1; exact absurd he h1
  have HB : Hid (refBad ps s = badO ps s) := refBad_eq ps s hleft
  have HF : Hid (fitsP ps s) := hfit
  have HO : Hid (∀ p ∈ ps, soundP p ∧ (p.keep = 0 ∨ p.drop = 0)) := hones
  have HSL : Hid (s.length < 1000000000) := (by show _ < _; omega)
  have HSM : Hid (∀ p ∈ ps, p.put.length < 100000000) := hsm
  have HPU : Hid (putsP ps < 100000000) := hpu
  obtain ⟨p, c, rfl, r1, r2, r3⟩ := hr
  obtain ⟨n, hn⟩ : ∃ n, n = ps.length := ⟨_, rfl⟩
  obtain ⟨RS, hRS⟩ : ∃ RS, RS = ByteArray.mk (if badO ps s = true then ([] : List UInt8) else applyP ps s).toArray := ⟨_, rfl⟩
  obtain ⟨RE, hRE⟩ : ∃ RE : Int, RE = if badO ps s = true then 10 else 0 := ⟨_, rfl⟩
  have HRS : Hid (RS = ByteArray.mk (if badO ps s = true then ([] : List UInt8) else applyP ps s).toArray) := hRS
  have HRE : Hid (RE = if badO ps s = true then 10 else 0) := hRE
  rw [← hRS, ← hRE]
  have HN : Hid (n = ps.length) := hn
  rw [← hn] at r1 hl cC ⊢
  have R3 : Hid (ps ≠ [] → ∃ b o, p = some ⟨b, o, none⟩ ∧ b < w.heap.size ∧ ∀ i q, ps[i]? = some q →
    w.cell? ⟨b, o + i * 3, none⟩ = some (.int .i64 q.keep) ∧ w.cell? ⟨b, o + i * 3 + 1, none⟩ = some (.int .i64 q.drop) ∧ w.cell? ⟨b, o + i * 3 + 2, none⟩ = some (.string ⟨q.put.toArray⟩)) := r3
  clear r3 hwf hsm hpu hfit hleft he hones hn hRS hRE
  go_enter Tryz.func31, Tryz.ntmps31
  go_wp2_with (first | (go_at_call 84; refine Calls.mono cC.out ?_; rintro e w1 ⟨rfl, hb1⟩) | fail)
  go_loopw [7, 8, 20] (fun x y i wr => ∃ (k : Nat), k ≤ n ∧ i = .int .i64 k ∧ y = .int .i64 (atP (ps.take k) : Nat) ∧ x = .string ⟨(applyP (ps.take k) s).toArray⟩ ∧ refBad ps s = refBad (ps.drop k) (s.drop (atP (ps.take k))) ∧ Below w.heap.size w wr) (fun _ _ i _ => n - (intOf i).toNat)
  case atStart => exact ⟨0, Nat.zero_le _, rfl, rfl, rfl, rfl, hb1⟩
  case round =>
    obtain ⟨k, hk, rfl, rfl, rfl, hbd, hwr⟩ := hrel
    by_cases hlt : k < n
    · have hkr : k < ps.length := by rw [← HN.out]; exact hlt
      have hne : ps ≠ [] := by intro e; rw [e] at hkr; exact absurd hkr (Nat.not_lt_zero _)
      obtain ⟨b, o, rfl, hbw, hcell⟩ := R3.out hne
      obtain ⟨c0, c1, c2⟩ := hcell k ps[k] (List.getElem?_eq_getElem hkr)
      have g0 := (hwr.cell (p := ⟨b, o + k * 3, none⟩) hbw).trans c0
      have g1 := (hwr.cell (p := ⟨b, o + k * 3 + 1, none⟩) hbw).trans c1
      have g2 := (hwr.cell (p := ⟨b, o + k * 3 + 2, none⟩) hbw).trans c2
      obtain ⟨⟨s0, s1⟩, s2⟩ := HO.out ps[k] (List.getElem_mem _)
      have hA0 := fits_le ps s HF.out k
      have hA1 := fits_le ps s HF.out (k + 1)
      have ha : atP (ps.take (k + 1)) = atP (ps.take k) + (lenP ps[k]).toNat := by rw [List.take_succ_eq_append_getElem hkr, at_snoc]
      have hap := applyP_snoc ps s k hkr
      rw [made_cut s _ _ s0 s1 s2] at hap
      rw [refBad_at ps s k hkr] at hbd
      have hU := HSM.out ps[k] (List.getElem_mem _)
      have hOl := apply_lenR HF.out k
      have hpu := HPU.out
      generalize ps[k] = q at g0 g1 g2 s0 s1 s2 ha hap hU
      obtain ⟨K, D, U⟩ := q
      simp only [lenP] at s0 s1 s2 ha hap g0 g1 g2 hU
      have hzU := str_size U
      obtain ⟨A, hA⟩ : ∃ A, A = atP (ps.take k) := ⟨_, rfl⟩
      obtain ⟨A1, hA1'⟩ : ∃ A1, A1 = atP (ps.take (k + 1)) := ⟨_, rfl⟩
      obtain ⟨O, hO⟩ : ∃ O, O = ByteArray.mk (applyP (ps.take k) s).toArray := ⟨_, rfl⟩
      have HOO : Hid (O = ByteArray.mk (applyP (ps.take k) s).toArray) := hO
      rw [← hA, ← hO]
      rw [← hA] at hA0 ha hap hbd
      rw [← hA1'] at hA1 ha hbd
      have hi : (A1 : Int) = (A : Int) + K + D := by omega
      have HI : Hid (((atP (ps.take (k + 1)) : Nat) : Int) = (A : Int) + K + D) := by show _ = _; rw [← hA1']; exact hi
      have hK : (A : Int) + K + D ≤ s.length := by omega
      obtain ⟨B0, hB0⟩ : ∃ B0, B0 = badPiece (s.drop A) := ⟨_, rfl⟩
      obtain ⟨B1, hB1⟩ : ∃ B1, B1 = badPiece (s.drop A1) := ⟨_, rfl⟩
      rw [← hB0, ← hB1] at hbd
      have cE0 : Hid (∀ wx, Calls Tryz.prog 109 #[.string ⟨s.toArray⟩, .int .i64 A] wx fun e w' => e = .returned (.bool (!B0)) ∧ w' = wx) := fun wx => by rw [hB0]; exact edge_any s A wx HSL.out hA0
      have cE1 : Hid (∀ wx, Calls Tryz.prog 109 #[.string ⟨s.toArray⟩, .int .i64 ((A : Int) + K + D)] wx fun e w' => e = .returned (.bool (!B1)) ∧ w' = wx) := fun wx => by rw [hB1, ← hi]; exact edge_any s A1 wx HSL.out hA1
      have HA : Hid (applyP (ps.take (k + 1)) s = applyP (ps.take k) s ++ ((s.drop A).take K.toNat ++ U)) := hap
      have HBD : Hid (refBad ps s = (B0 || B1 || refBad (ps.drop (k + 1)) (s.drop A1))) := hbd
      have HA1 : Hid (A1 = atP (ps.take (k + 1))) := hA1'
      clear hcell c0 c1 c2 ha hap hbd hi hO hA hA1' hB0 hB1 hA1
      have HWR : Hid (Below w.heap.size w wr) := hwr
      have hsize := hwr.size
      have hOs : O.size ≤ 200000000 := by rw [HOO.out, str_size]; omega
      obtain ⟨X, hX⟩ : ∃ X, (ByteArray.mk s.toArray).extract A ((A : Int) + K).toNat = X := ⟨_, rfl⟩
      have hk2 : ((A : Int) + K).toNat = A + K.toNat := by omega
      have HXL : Hid (X.data.toList = (s.drop A).take K.toNat) := by show _ = _; rw [← hX, hk2]; exact cut_mid s A K.toNat
      have hXs : X.size ≤ 100000000 := by
        have e : X.size = X.data.toList.length := Array.length_toList.symm
        rw [e, HXL.out, List.length_take, List.length_drop]; omega
      have hcat : X.size + (ByteArray.mk U.toArray).size ≤ 200000000 := by rw [hzU]; omega
      have hcat2 : O.size + (X.size + (ByteArray.mk U.toArray).size) ≤ 400000000 := by omega
      clear hk2 hOl hpu
      cases B0 with
      | true =>
        have HT : Hid (badO ps s = true) := by show _ = true; rw [← HB.out, HBD.out]; rfl
        go_wp2_with (first | (go_at_call 109; refine (cE0.out _).mono ?_; rintro e w2 ⟨rfl, rfl⟩) | fail)
        go_ret2
        exact ⟨by rw [HRE.out, HRS.out, if_pos HT.out, if_pos HT.out]; rfl, HWR.out.alloc hsize _⟩
      | false =>
      cases B1 with
      | true =>
        have HT : Hid (badO ps s = true) := by show _ = true; rw [← HB.out, HBD.out]; rfl
        go_wp2_with (first | (have _ := hfirst; go_at_call 109; refine (cE1.out _).mono ?_; rintro e w3 ⟨rfl, rfl⟩) | (go_at_call 109; refine (cE0.out _).mono ?_; rintro e w2 ⟨rfl, rfl⟩; have hfirst := trivial) | fail)
        go_ret2
        exact ⟨by rw [HRE.out, HRS.out, if_pos HT.out, if_pos HT.out]; rfl, HWR.out.alloc hsize _⟩
      | false =>
        go_wp2_with (first | (have _ := hfirst; go_at_call 109; refine (cE1.out _).mono ?_; rintro e w3 ⟨rfl, rfl⟩) | (go_at_call 109; refine (cE0.out _).mono ?_; rintro e w2 ⟨rfl, rfl⟩; have hfirst := trivial) | fail)
        go_region
        all_goals
          go_wp2
          go_roundw
          case rel => exact ⟨k + 1, by omega, by go_num, by rw [HI.out, Int.add_assoc], by rw [HA.out, HOO.out, cat3 _ _ _ _ HXL.out], by rw [HBD.out, ← HA1.out]; rfl, (HWR.out.alloc hsize _).drew⟩
          case measure => simp [intOf]; omega
    · have e : ps.take k = ps := List.take_of_length_le (by rw [← HN.out]; omega)
      have e' : ps.drop k = [] := List.drop_eq_nil_of_le (by rw [← HN.out]; omega)
      rw [e, e'] at hbd
      rw [e]
      have HT : Hid (badO ps s = false) := by show _ = false; rw [← HB.out, hbd]; rfl
      obtain ⟨O, hO⟩ : ∃ O, O = ByteArray.mk (applyP ps s).toArray := ⟨_, rfl⟩
      have HOO : Hid (O = ByteArray.mk (applyP ps s).toArray) := hO
      rw [← hO]
      clear e e' hbd hO
      go_wp2
      go_ret2
      exact ⟨by rw [HRE.out, HRS.out, HT.out, HOO.out]; rfl, hwr⟩

theorem refApply_any (v : Value) (ps : List Pt) (s : List UInt8) (w : World) (hr : opAt w v ps) (hwf : ∀ p ∈ ps, wfP p) (hsm : ∀ p ∈ ps, p.put.length < 100000000) (hs : s.length < 100000000) (hl : ps.length < 10000000) (hpu : putsP ps < 100000000) :
    Calls Tryz.prog 31 #[v, .string ⟨s.toArray⟩] w fun e w' => e = .returned (.tuple #[.string ⟨(if ordE ps s = 0 then applyP ps s else []).toArray⟩, .int .i64 (ordE ps s)]) ∧ Below w.heap.size w w' := by
  unfold ordE
  by_cases he : chkE ps (s.length : Int) = 0
  · rw [if_pos he]
    have := refApply_fine v ps s w hr hwf hsm hs hl hpu he
    cases hb : badO ps s <;> simp only [hb] at this <;> simpa using this
  · rw [if_neg he, if_neg he]
    exact refApply_err v ps s w hr hwf hsm (by omega) hl he
end Go.Proofs.YtfedgjnhanlmeabGreatDoor
