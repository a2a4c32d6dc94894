/-
  An operation that is handed in: what it reads as, and how great it is.
  The document's own Turn.
  bridge.To and From, and the document's Turn, of any operation by any units.
  rosettalaw.ShapePlays: the law's own walk.
  rosettakeep's document and over: an operation in bytes that never cuts a rune of its text, or none.
  rosettakeep.shaped: a fact: halves; api.Tell of any error that is a number, or none.
  Three operations (pure): composed alike in whichever order; and a third one sees no difference.
  ops' functions at operations that never cut a rune of their text, as rosettakeep calls them.
  rosettakeep.ShapeAlike: the law's own walk.
  rosettakeep.ShapeAlike: what an operation does in its own form.
  rosettakeep.ShapeAlike, at every argument.
-/
import Derived.Test.YtldhbjmillfjgabGreatDoorPartC
import Derived.Test.YtldhbjmillfjgabGreatDoorRows
import Derived.Deep.Slices
import Derived.Deep.Strs
import Derived.ChangeSame
import Derived.OpenShut
import Derived.Test.YtldhbjmillfjgabGreatDoorPartA
import Derived.Deep.RegionWith
import Derived.Deep.QuietTactic
import Derived.BigQuiet
import Derived.Shelf.Strings.Builder1
import Derived.Shelf.Small.Utf8
import Derived.Shelf.Strings.BuilderF
import Derived.Shelf.Strings.BuilderK
import Derived.Shelf.Utf8.AppendRune
import Derived.Shelf.Utf8.AppendRunePlain
import Derived.Shelf.Utf8.RuneCount
import Derived.Shelf.LaysM
import Derived.Shelf.Strconv.Clone
import Derived.Shelf.Strings.Search1
import Derived.Shelf.Strings.Search2
import Derived.Shelf.Strings.Search3
import Derived.Shelf.Strings.Count
import Derived.Shelf.Strings.Shaped
import Derived.Shelf.Strings.Split
import Derived.Shelf.Unicode.Decode
import Derived.Shelf.Strings.RuneCount
import Derived.Shelf.Unicode.DecodeSlow
import Derived.Shelf.Unicode.DecodeAny
import Derived.Shelf.Strings.BuilderCap
import Derived.Test.YtldhbjmillfjgabGreatDoorProg
import Derived.RangeFuncRecord
import Derived.Maps.OwnOps
import Derived.Test.YtldhbjmillfjgabGreatDoorPartD
import Derived.Test.YtldhbjmillfjgabGreatDoorPartF
import Derived.Test.YtldhbjmillfjgabGreatDoorPartE
import Derived.Laws.EntriesVeiled
import Derived.Deep.LoopGhost
import Derived.Deep.Cut
import Derived.Deep.CutRange
namespace Go.Proofs.YtldhbjmillfjgabGreatDoor
open Go.RowKit Go.Deep Go.ChangeShapes Go.WideShapes
set_option linter.unusedVariables false

def rangeP (p : Pt) : Prop := -9223372036854775808 ≤ p.keep ∧ p.keep < 9223372036854775808 ∧ -9223372036854775808 ≤ p.drop ∧ p.drop < 9223372036854775808

theorem bulk_part {H : Type} {d : DataW H} {l : List (DataW H)} (h : d ∈ l) : Rows.uptoBulk d ≤ Rows.uptoBulkAll l := by
  induction l with
  | nil => cases h
  | cons x r ih =>
    simp only [Rows.uptoBulkAll]
    rcases List.mem_cons.1 h with e | e
    · subst e; omega
    · have := ih e; omega

theorem cellsOf_part : Tryz.prog.cellsOf 50 = 3 := by kernel_rfl
theorem cellsOf_int : Tryz.prog.cellsOf 3 = 1 := by kernel_rfl
theorem cellsOf_str : Tryz.prog.cellsOf 9 = 1 := by kernel_rfl

theorem open_part {H : Type} {enc : TypeId × Value → H} {W : World} {base : Nat} {sp : Nat → Bool} {held : Bool} {n : Nat} {a : Addr} {cs : List Value} {y : DataW H × List MemPlace}
    (h1 : W.cells? base a 3 = some cs) (h2 : DataW.trod enc Tryz.prog W base sp held n 50 cs = some y) :
    ∃ q : Pt, a.spot = none ∧ W.cell? ⟨a.block, a.off, none⟩ = some (.int .i64 q.keep) ∧ W.cell? ⟨a.block, a.off + 1, none⟩ = some (.int .i64 q.drop) ∧ W.cell? ⟨a.block, a.off + 2, none⟩ = some (.string ⟨q.put.toArray⟩) ∧ rangeP q ∧ q.put.length ≤ maxLen ∧
      y.1 = .agg [.lit (.int .i64 q.keep), .lit (.int .i64 q.drop), .lit (.string q.put)] := by
  obtain ⟨_, hlen, hcell⟩ := World.cells?_some h1
  obtain ⟨y0, y1, y2, m, rfl, _, t0, t1, t2⟩ := trod_struct3 Tryz.underlying50 h2
  rw [cellsOf_int] at t0 t1
  rw [cellsOf_str] at t2
  match cs, hlen with
  | [c0, c1, c2], _ =>
    simp only [List.drop_zero, List.take_succ_cons, List.take_zero, List.drop_succ_cons] at t0 t1 t2
    obtain ⟨K, e0, rfl, w0⟩ := DataW.trod_int Tryz.underlying3 t0
    obtain ⟨D, e1, rfl, w1⟩ := DataW.trod_int Tryz.underlying3 t1
    obtain ⟨s, e2, rfl, w2⟩ := DataW.trod_string Tryz.underlying9 t2
    simp only [List.cons.injEq, and_true] at e0 e1 e2
    subst e0 e1 e2
    obtain ⟨b, o, spot⟩ := a
    have k0 := hcell 0 (by omega)
    have k1 := hcell 1 (by omega)
    have k2 := hcell 2 (by omega)
    have hspot : spot = none := by simpa [Addr.add] using World.cell?_spot (show W.cell? ((⟨b, o, spot⟩ : Addr).add 0) = some (.int .i64 K) from k0)
    subst hspot
    rw [Addr.add_lit] at k0 k1 k2
    have hw0 := bounds_i64 w0
    have hw1 := bounds_i64 w1
    have es : (ByteArray.mk s.data.toList.toArray) = s := by cases s; simp
    refine ⟨⟨K, D, s.data.toList⟩, rfl, k0, k1, by rw [es]; exact k2, ⟨hw0.1, by show K < _; omega, hw1.1, by show D < _; omega⟩, ?_, rfl⟩
    rw [Lib.size_eq] at w2
    exact w2

theorem open_op {H : Type} {enc : TypeId × Value → H} {W : World} {base : Nat} {sp : Nat → Bool} {held : Bool} {fuel : Nat} {v : Value} {x : DataW H × List MemPlace}
    (h : DataW.trod enc Tryz.prog W base sp held fuel 23 [v] = some x) :
    ∃ ps, opAt W v ps ∧ (∀ p ∈ ps, rangeP p ∧ p.put.length ≤ maxLen) ∧ (∀ p ∈ ps, p.put.length ≤ Rows.uptoBulk x.1) ∧ ps.length ≤ maxLen := by
  rcases open_slice Tryz.underlying23 h with ⟨hcs, _⟩ | ⟨a, len, cap, m, n, D, Pl, hcs, hb, hl, hm, hmm, rfl, hx⟩
  · simp only [List.cons.injEq, and_true] at hcs
    subst hcs
    exact ⟨[], ⟨none, 0, rfl, Nat.le_refl _, Nat.zero_le _, fun h => absurd rfl h⟩, by simp, by simp, Nat.zero_le _⟩
  · simp only [List.cons.injEq, and_true] at hcs
    subst hcs
    have hlm : len ≤ m := by rw [hmm]; split <;> omega
    haveI : Inhabited Pt := ⟨⟨0, 0, []⟩⟩
    obtain ⟨f, hf⟩ := choose_lt (α := Pt) (n := len) (p := fun i q => (a.add (i * 3)).spot = none ∧ W.cell? ⟨(a.add (i * 3)).block, (a.add (i * 3)).off, none⟩ = some (.int .i64 q.keep) ∧ W.cell? ⟨(a.add (i * 3)).block, (a.add (i * 3)).off + 1, none⟩ = some (.int .i64 q.drop) ∧ W.cell? ⟨(a.add (i * 3)).block, (a.add (i * 3)).off + 2, none⟩ = some (.string ⟨q.put.toArray⟩) ∧ rangeP q ∧ q.put.length ≤ maxLen ∧
        D i = .agg [.lit (.int .i64 q.keep), .lit (.int .i64 q.drop), .lit (.string q.put)]) (fun i hi => by
      obtain ⟨cs, h1, h2⟩ := hx i (by omega)
      rw [cellsOf_part] at h1
      obtain ⟨q, hq⟩ := open_part h1 h2
      exact ⟨q, hq⟩)
    have hlen : ((List.range len).map f).length = len := by simp
    refine ⟨(List.range len).map f, ⟨some a, cap, by rw [hlen], by rw [hlen]; exact hl, hm, fun hne => ?_⟩, ?_, ?_, by rw [hlen]; omega⟩
    · have hpos : 0 < len := by
        cases len with
        | zero => exact absurd rfl hne
        | succ n => exact Nat.succ_pos n
      obtain ⟨b, o, spot⟩ := a
      have hs0 := (hf 0 hpos).1
      have hspot : spot = none := by simpa [Addr.add] using hs0
      subst hspot
      refine ⟨b, o, rfl, ?_, fun i q hi => ?_⟩
      · have := World.block_lt_of_cell? W _ (hf 0 hpos).2.1
        rw [Addr.add_lit] at this
        exact this
      · have hil : i < len := by have := (List.getElem?_eq_some_iff.1 hi).1; rw [hlen] at this; exact this
        have e : q = f i := by
          rw [List.getElem?_map, List.getElem?_range hil] at hi
          exact (Option.some.inj hi).symm
        subst e
        obtain ⟨_, k0, k1, k2, _⟩ := hf i hil
        rw [Addr.add_lit] at k0 k1 k2
        exact ⟨k0, k1, k2⟩
    · intro p hp
      obtain ⟨i, hi, rfl⟩ := List.mem_map.1 hp
      have := hf i (List.mem_range.1 hi)
      exact ⟨this.2.2.2.2.1, this.2.2.2.2.2.1⟩
    · intro p hp
      obtain ⟨i, hi, rfl⟩ := List.mem_map.1 hp
      have hd := (hf i (List.mem_range.1 hi)).2.2.2.2.2.2
      have h1 : Rows.uptoBulk (D i) ≤ Rows.uptoBulkAll ((List.range len).map D) := bulk_part (List.mem_map.2 ⟨i, hi, rfl⟩)
      rw [hd] at h1
      simp only [Rows.uptoBulk, Rows.uptoBulkAll] at h1 ⊢
      omega
end Go.Proofs.YtldhbjmillfjgabGreatDoor

namespace Go.Proofs.YtldhbjmillfjgabGreatDoor
open Go.RowKit
set_option linter.unusedVariables false
attribute [local go_sem] Oper.semAt_some

/-- A part that lies in a box. -/
structure Pcell (w : World) (β : Nat) (K D : Int) (U : List UInt8) : Prop where
  c0 : w.cell? ⟨β, 0, none⟩ = some (.int .i64 K)
  c1 : w.cell? ⟨β, 1, none⟩ = some (.int .i64 D)
  c2 : w.cell? ⟨β, 2, none⟩ = some (.string ⟨U.toArray⟩)
  f0 : w.frozen? ⟨β, 0, none⟩ = false
  f1 : w.frozen? ⟨β, 1, none⟩ = false
theorem Pcell.below {w w' : World} {β : Nat} {K D : Int} {U : List UInt8} (h : Pcell w β K D U) (hb : Below w.heap.size w w') : Pcell w' β K D U := by
  have l := World.block_lt_of_cell? w _ h.c0
  exact ⟨cell_on hb h.c0, cell_on hb h.c1, cell_on hb h.c2, (hb.frozen (p := ⟨β, 0, none⟩) l).trans h.f0, (hb.frozen (p := ⟨β, 1, none⟩) l).trans h.f1⟩

end Go.Proofs.YtldhbjmillfjgabGreatDoor

namespace Go.Proofs.YtldhbjmillfjgabGreatDoor
open Go.RowKit
set_option linter.unusedVariables false
attribute [local go_sem] Oper.semAt_some

def uB (u : Int) : Bool := decide (u = 1 ∨ u = 2 ∨ u = 3)
theorem uB_iff (u : Int) : uB u = true ↔ unitOk u := by unfold uB unitOk; exact decide_eq_true_iff
def tzE (rs : List Nat) (u v : Int) (qs : List Pt) : Int := if (uB u && uB v) = true then (if chkE qs (by_ u rs) = 0 then turnX rs u v qs else chkE qs (by_ u rs)) else 1
def tzO (rs : List Nat) (u v : Int) (qs : List Pt) : List Pt := if (uB u && uB v) = true then (if chkE qs (by_ u rs) = 0 then turnO rs u v qs else []) else []
theorem opAt_none (w : World) : opAt w (.slice none 0 0) [] := ⟨none, 0, rfl, Nat.le_refl _, Nat.zero_le _, fun h => absurd rfl h⟩
set_option maxRecDepth 100000 in
set_option maxHeartbeats 2000000 in
theorem turn_unit (b : Nat) (u v : Int) (val : Value) (w : World) (hC : Calls Tryz.prog 119 #[.pointer (some ⟨b, 0, none⟩), .int .i64 u, .int .i64 v, .int .i64 0] w fun e w' => e = .returned (.tuple #[.int .i64 0, errV 1]) ∧ Below w.heap.size w w') :
    Calls Tryz.prog 64 #[.pointer (some ⟨b, 0, none⟩), .int .i64 u, .int .i64 v, val] w fun e w' => e = .returned (.tuple #[.slice none 0 0, errV 1]) ∧ Below w.heap.size w w' := by
  have hV : errV 1 = .iface 26 (.int .i64 1) := rfl
  rw [hV] at hC ⊢
  have CC : Hid _ := hC
  clear hC hV
  go_enter Tryz.func64, Tryz.ntmps64
  go_wp2_with (first
    | (go_at_call 119; refine Calls.mono CC.out ?_; rintro e w1 ⟨rfl, hb1⟩)
    | fail)
  go_ret2
  exact ⟨rfl, hb1⟩
set_option maxRecDepth 100000 in
set_option maxHeartbeats 4000000 in
theorem turn_no (b : Nat) (rs : List Nat) (u v : Int) (qs : List Pt) (val : Value) (w : World) (hu : unitOk u) (hv : unitOk v) (hT : Lib.Utf8Tabs 2 3 w) (hR : isRope w b rs) (hr : opAt w val qs) (hwf : ∀ q ∈ qs, wfP q) (hl : qs.length ≤ 1000) (hz : C1 rs ≤ 1000000) (hbu : by_ u rs ≤ 10000000) (hc : chkE qs (by_ u rs) ≠ 0) :
    Calls Tryz.prog 64 #[.pointer (some ⟨b, 0, none⟩), .int .i64 u, .int .i64 v, val] w fun e w' => e = .returned (.tuple #[.slice none 0 0, errV (chkE qs (by_ u rs))]) ∧ Below w.heap.size w w' := by
  have hup := by_pos u rs
  have cV : Hid (Calls Tryz.prog 119 #[.pointer (some ⟨b, 0, none⟩), .int .i64 u, .int .i64 v, .int .i64 0] w fun e w' => e = .returned (.tuple #[.int .i64 0, .nilIface]) ∧ Below w.heap.size w w') := by
    have := convert_any b rs u v 0 hu hv (Int.le_refl _) (by_pos u rs) w hT hR (by omega) [] (find_zero u rs) (by_nil u)
    rw [by_nil] at this
    exact this
  have cN : Hid (∀ wx, Below w.heap.size w wx → Calls Tryz.prog 20 #[.pointer (some ⟨b, 0, none⟩)] wx fun e w' => e = .returned (cntV rs) ∧ Below wx.heap.size wx w') := fun wx hb => ropecounts_any b rs wx (isRope_below hR hb)
  have cI : Hid (∀ wx, Calls Tryz.prog 19 #[cntV rs, .int .i64 u] wx fun e w' => e = .returned (.int .i64 (by_ u rs)) ∧ Below wx.heap.size wx w') := fun wx => In_any u rs wx
  have hV : errV (chkE qs (by_ u rs)) = .iface 26 (.int .i64 (chkE qs (by_ u rs))) := by unfold errV; rw [if_neg hc]
  have cK : Hid (∀ wx, Below w.heap.size w wx → Calls Tryz.prog 68 #[val, .int .i64 (by_ u rs)] wx fun e w' => e = .returned (.iface 26 (.int .i64 (chkE qs (by_ u rs)))) ∧ Below wx.heap.size wx w') := fun wx hb => by
    have := Check_any val qs (by_ u rs) wx (Go.Proofs.Utf8Tabs_below hT hb) (opAt_below hr hb (Nat.le_refl _)) hwf (by omega) (by omega)
    rw [hV] at this
    exact this
  rw [hV]
  obtain ⟨p, c, rfl, _⟩ := hr
  generalize chkE qs (by_ u rs) = E at *
  generalize by_ u rs = Bu at *
  unfold cntV at cN cI
  clear hT hR hwf hc hV hu hv hz hbu hup
  go_enter Tryz.func64, Tryz.ntmps64
  go_wp2_with (first
    | (go_at_call 119; refine Calls.mono cV.out ?_; rintro e w1 ⟨rfl, hb1⟩; have HB1 : Hid (Below w.heap.size w w1) := hb1; clear hb1)
    | (go_at_call 20; refine (cN.out _ HB1.out).mono ?_; rintro e w2 ⟨rfl, hb2⟩; have HB2 : Hid (Below w.heap.size w w2) := HB1.out.trans (hb2.mono HB1.out.size); clear hb2)
    | (go_at_call 19; refine (cI.out _).mono ?_; rintro e w3 ⟨rfl, hb3⟩; have HB3 : Hid (Below w.heap.size w w3) := HB2.out.trans (hb3.mono HB2.out.size); clear hb3)
    | (go_at_call 68; refine (cK.out _ HB3.out).mono ?_; rintro e w4 ⟨rfl, hb4⟩; have HB4 : Hid (Below w.heap.size w w4) := HB3.out.trans (hb4.mono HB3.out.size); clear hb4)
    | fail)
  go_ret2
  exact ⟨rfl, HB4.out⟩

theorem by_small (rs : List Nat) (h : C1 rs ≤ 1000000) (x : Int) : by_ x rs ≤ 3000000 := by
  have h2 := C2_le rs; have h3 := C3_le rs; have h1 := C1_pos rs
  unfold by_; split <;> (try split) <;> (try split) <;> omega
theorem turn_all (b : Nat) (rs : List Nat) (u v : Int) (qs : List Pt) (val : Value) (w : World) (hT : Lib.Utf8Tabs 2 3 w) (hR : isRope w b rs) (hr : opAt w val qs) (hwf : ∀ q ∈ qs, wfP q) (hl : qs.length ≤ 1000) (hpl : ∀ q ∈ qs, q.put.length ≤ 10000000) (hz : C1 rs ≤ 1000000) :
    Calls Tryz.prog 64 #[.pointer (some ⟨b, 0, none⟩), .int .i64 u, .int .i64 v, val] w fun e w' => ∃ v', e = .returned (.tuple #[v', errV (tzE rs u v qs)]) ∧ opAt w' v' (tzO rs u v qs) ∧ Below w.heap.size w w' := by
  have hbw : b < w.heap.size := by obtain ⟨q, t, h5, _⟩ := hR; exact World.block_lt_of_cell? w _ h5
  unfold tzE tzO
  by_cases hv : unitOk v
  · by_cases hu : unitOk u
    · rw [(uB_iff u).2 hu, (uB_iff v).2 hv, Bool.and_self, if_pos rfl, if_pos rfl]
      by_cases hc : chkE qs (by_ u rs) = 0
      · rw [if_pos hc, if_pos hc]
        exact turnz_chk b rs u v qs val w hu hv hT hR hr hwf hl hpl hz (by have := by_small rs hz u; omega) (by have := by_small rs hz v; omega) hc hbw
      · rw [if_neg hc, if_neg hc]
        exact (turn_no b rs u v qs val w hu hv hT hR hr hwf hl hz (by have := by_small rs hz u; omega) hc).mono fun e w' h => ⟨_, h.1, opAt_none w', h.2⟩
    · have e : uB u = false := Bool.eq_false_iff.2 fun e => hu ((uB_iff u).1 e)
      rw [e, Bool.false_and, if_neg (by decide), if_neg (by decide)]
      exact (turn_unit b u v val w (convert_from b rs u v 0 hv hu w hT hR (by omega))).mono fun e w' h => ⟨_, h.1, opAt_none w', h.2⟩
  · have e : uB v = false := Bool.eq_false_iff.2 fun e => hv ((uB_iff v).1 e)
    rw [e, Bool.and_false, if_neg (by decide), if_neg (by decide)]
    exact (turn_unit b u v val w (convert_to b u v 0 hv w)).mono fun e w' h => ⟨_, h.1, opAt_none w', h.2⟩
set_option maxHeartbeats 1000000 in
theorem to_all (b : Nat) (rs : List Nat) (u : Int) (qs : List Pt) (val : Value) (w : World) (hT : Lib.Utf8Tabs 2 3 w) (hR : isRope w b rs) (hr : opAt w val qs) (hwf : ∀ q ∈ qs, wfP q) (hl : qs.length ≤ 1000) (hpl : ∀ q ∈ qs, q.put.length ≤ 10000000) (hz : C1 rs ≤ 1000000) :
    Calls Tryz.prog 11 #[.pointer (some ⟨b, 0, none⟩), .int .i64 u, val] w fun e w' => ∃ v', e = .returned (.tuple #[v', errV (tzE rs u 1 qs)]) ∧ opAt w' v' (tzO rs u 1 qs) ∧ Below w.heap.size w w' := by
  have cC : Hid _ := turn_all b rs u 1 qs val w hT hR hr hwf hl hpl hz
  obtain ⟨p, c, rfl, _⟩ := hr
  generalize errV (tzE rs u 1 qs) = E at *
  clear hT hR hwf hpl hz
  go_enter Tryz.func11, Tryz.ntmps11
  go_wp2_with (first
    | (go_at_call 64; refine Calls.mono cC.out ?_; rintro e w1 ⟨v1, rfl, h1, hb1⟩; have H1 : Hid _ := h1; clear h1)
    | fail)
  go_ret2
  exact ⟨v1, rfl, H1.out, hb1⟩
set_option maxHeartbeats 1000000 in
theorem from_all (b : Nat) (rs : List Nat) (u : Int) (qs : List Pt) (val : Value) (w : World) (hT : Lib.Utf8Tabs 2 3 w) (hR : isRope w b rs) (hr : opAt w val qs) (hwf : ∀ q ∈ qs, wfP q) (hl : qs.length ≤ 1000) (hpl : ∀ q ∈ qs, q.put.length ≤ 10000000) (hz : C1 rs ≤ 1000000) :
    Calls Tryz.prog 12 #[.pointer (some ⟨b, 0, none⟩), .int .i64 u, val] w fun e w' => ∃ v', e = .returned (.tuple #[v', errV (tzE rs 1 u qs)]) ∧ opAt w' v' (tzO rs 1 u qs) ∧ Below w.heap.size w w' := by
  have cC : Hid _ := turn_all b rs 1 u qs val w hT hR hr hwf hl hpl hz
  obtain ⟨p, c, rfl, _⟩ := hr
  generalize errV (tzE rs 1 u qs) = E at *
  clear hT hR hwf hpl hz
  go_enter Tryz.func12, Tryz.ntmps12
  go_wp2_with (first
    | (go_at_call 64; refine Calls.mono cC.out ?_; rintro e w1 ⟨v1, rfl, h1, hb1⟩; have H1 : Hid _ := h1; clear h1)
    | fail)
  go_ret2
  exact ⟨v1, rfl, H1.out, hb1⟩
end Go.Proofs.YtldhbjmillfjgabGreatDoor

namespace Go.Proofs.YtldhbjmillfjgabGreatDoor
open Go.RowKit
set_option linter.unusedVariables false
attribute [local go_sem] Oper.semAt_some

theorem shtext_any (b u : Nat) (hu : unitN u) (rs : List Nat) (w : World) (h : isShape w b u rs) (hR : ∀ r ∈ rs, isRune r) (hz : C1 rs ≤ 1000000) (hT : Lib.Utf8Tabs 2 3 w) : Calls Tryz.prog 24 #[.pointer (some ⟨b, 0, none⟩)] w fun e w' => e = .returned (.string (bytesOf rs)) ∧ Below w.heap.size w w' := by
  rcases hu with rfl | rfl | rfl
  · exact shtext1_any b rs w h hR hz hT
  · exact shtext2_any b rs w h hR hz hT
  · exact shtext3_any b rs w h hR hz hT
theorem shapply_any (b u : Nat) (hu : unitN u) (rs : List Nat) (qs : List Pt) (v : Value) (w : World) (h : isShape w b u rs) (hR : ∀ r ∈ rs, isRune r) (hz : C1 rs ≤ 100000) (hT : Lib.Utf8Tabs 2 3 w) (hr : opAt w v qs) (hwf : ∀ q ∈ qs, wfP q) (hl : qs.length ≤ 1000) (hpl : ∀ q ∈ qs, q.put.length ≤ 1000000) :
    Calls Tryz.prog 22 #[.pointer (some ⟨b, 0, none⟩), v] w fun e w' => e = .returned (errV (shE (u : Int) rs qs)) ∧ isShape w' b u (shR (u : Int) rs qs) ∧ Below b w w' := by
  rcases hu with rfl | rfl | rfl
  · exact shapply1_any b rs qs v w h hR hz hT hr hwf hl hpl
  · exact shapply2_any b rs qs v w h hR hz hT hr hwf hl hpl
  · exact shapply3_any b rs qs v w h hR hz hT hr hwf hl hpl
theorem shnew_good (u : Nat) (hu : unitN u) (rs : List Nat) (hR : ∀ r ∈ rs, isRune r) (hz : C1 rs ≤ 8000) (w : World) (hT : Lib.Utf8Tabs 2 3 w) : Calls Tryz.prog 21 #[.int .i64 (u : Int), .string (bytesOf rs)] w fun e w' => ∃ b, e = .returned (.tuple #[.pointer (some ⟨b, 0, none⟩), .nilIface]) ∧ isShape w' b u rs ∧ w.heap.size ≤ b ∧ Below w.heap.size w w' := by
  rcases hu with rfl | rfl | rfl
  · exact shnew1_good rs hR hz w hT
  · exact shnew2_good rs hR hz w hT
  · exact shnew3_good rs hR hz w hT

theorem sh_bad {u : Int} (hu : unitOk u) {rs : List Nat} {q : List Pt} (h : tzE rs u 1 q ≠ 0) : shE u rs q = tzE rs u 1 q ∧ shR u rs q = rs := by
  have h1 : (uB u && uB 1) = true := by rw [(uB_iff u).2 hu, (uB_iff 1).2 (.inl rfl)]; rfl
  have key : shE u rs q = tzE rs u 1 q := by
    unfold tzE at h ⊢
    rw [h1, if_pos rfl] at h ⊢
    unfold shE
    by_cases hc : chkE q (by_ u rs) = 0
    · rw [if_pos hc] at h
      rw [if_pos hc, if_pos hc]
      obtain ⟨_, h2, h3⟩ := chkE_parts hc
      obtain ⟨t1, _⟩ := turn_in hu 1 q rs h3 (Int.le_of_eq h2)
      rw [t1] at h ⊢
      unfold plE
      split at h
      · exact absurd rfl h
      · rename_i ho; rw [if_neg ho, if_neg ho]
    · rw [if_neg hc, if_neg hc]
  exact ⟨key, by unfold shR; rw [if_neg (by rw [key]; exact h)]⟩
theorem sh_fine {u : Int} (hu : unitOk u) {rs : List Nat} {q : List Pt} (hR : ∀ r ∈ rs, isRune r) (h : tzE rs u 1 q = 0) :
    good (tzO rs u 1 q) (encs rs) ∧ applyP (tzO rs u 1 q) (encs rs) = encs (comesZ u rs q) ∧ (∀ r ∈ comesZ u rs q, isRune r) ∧ shE u rs q = (if C1 (comesZ u rs q) ≤ 8000 then 0 else 12) ∧ shR u rs q = (if C1 (comesZ u rs q) ≤ 8000 then comesZ u rs q else rs) ∧ chkE q (by_ u rs) = 0 ∧ okZ u rs q = true ∧ tzO rs u 1 q = inZ u 1 rs q := by
  have h1 : (uB u && uB 1) = true := by rw [(uB_iff u).2 hu, (uB_iff 1).2 (.inl rfl)]; rfl
  unfold tzE at h
  unfold tzO
  rw [h1, if_pos rfl] at h ⊢
  have hc : chkE q (by_ u rs) = 0 := by
    by_cases hc : chkE q (by_ u rs) = 0
    · exact hc
    · rw [if_neg hc] at h; exact absurd h hc
  rw [if_pos hc] at h ⊢
  obtain ⟨hp1, h2, h3⟩ := chkE_parts hc
  obtain ⟨t1, t2⟩ := turn_in hu 1 q rs h3 (Int.le_of_eq h2)
  have ho : okZ u rs q = true := by
    rw [t1] at h
    cases e : okZ u rs q with
    | true => rfl
    | false => rw [e] at h; cases h
  rw [t2, ho, if_pos rfl]
  obtain ⟨il, ia⟩ := in_left hu q rs hp1 h2 hR ho
  have hE : shE u rs q = (if C1 (comesZ u rs q) ≤ 8000 then 0 else 12) := by
    unfold shE plE
    rw [if_pos hc, if_pos ho]
  refine ⟨il.good, ia, comes_rune hu q rs h3 (Int.le_of_eq h2) ho hR, hE, ?_, hc, rfl, rfl⟩
  unfold shR
  rw [hE]
  by_cases h8 : C1 (comesZ u rs q) ≤ 8000
  · rw [if_pos h8, if_pos rfl, if_pos h8]
  · rw [if_neg h8, if_neg (by decide), if_neg h8]
theorem in_puts {u : Int} : ∀ (qs : List Pt) (R : List Nat), (∀ q ∈ qs, oneB q = true) → putsP (inZ u 1 R qs) = putsP qs
  | [], _, _ => rfl
  | q :: qs, R, h => by
    have ih := in_puts (u := u) qs (restZ u R (lenP q)) fun x hx => h x (by simp [hx])
    have e : ∀ (p : Pt) (l : List Pt), putsP (p :: l) = p.put.length + putsP l := fun p l => by simp [putsP]
    rw [inZ, e, e, ih, unit_put (h q (by simp))]
theorem in_len {u v : Int} : ∀ (qs : List Pt) (R : List Nat), (inZ u v R qs).length = qs.length
  | [], _ => rfl
  | q :: qs, R => by rw [inZ, List.length_cons, List.length_cons, in_len qs]
theorem putsP_le : ∀ (qs : List Pt), (∀ q ∈ qs, q.put.length ≤ 300) → putsP qs ≤ 300 * qs.length
  | [], _ => by simp [putsP]
  | q :: qs, h => by
    have ih := putsP_le qs fun x hx => h x (by simp [hx])
    have := h q (by simp)
    have e : putsP (q :: qs) = q.put.length + putsP qs := by simp [putsP]
    rw [e, List.length_cons]; omega

theorem put_le_puts (p : Pt) : ∀ (qs : List Pt), p ∈ qs → p.put.length ≤ putsP qs
  | [], h => by cases h
  | q :: qs, h => by
    have e : putsP (q :: qs) = q.put.length + putsP qs := by simp [putsP]
    rw [e]
    rcases List.mem_cons.1 h with rfl | h
    · omega
    · have := put_le_puts p qs h; omega
end Go.Proofs.YtldhbjmillfjgabGreatDoor

namespace Go.Proofs.YtldhbjmillfjgabGreatDoor
open Go.RowKit
set_option linter.unusedVariables false
attribute [local go_sem] Oper.semAt_some

set_option maxHeartbeats 1000000 in
theorem new_bad (s : List UInt8) (hs : s.length ≤ 100000) (hsc : (scan s).2 = false) (w : World) (hT : Lib.Utf8Tabs 2 3 w) :
    Calls Tryz.prog 9 #[.string ⟨s.toArray⟩] w fun e w' => ∃ bx, e = .returned (.tuple #[.pointer none, .iface 233 (.pointer (some ⟨bx, 0, none⟩))]) ∧ Below w.heap.size w w' := by
  have c := Count_any ⟨s.toArray⟩ (by simp [ByteArray.size]; omega) w hT
  have C : Hid (Calls Tryz.prog 59 #[.string ⟨s.toArray⟩] w fun e w' => ∃ n1 n2 n3 n4 bx, e = .returned (.tuple #[.agg #[.int .i64 n1, .int .i64 n2, .int .i64 n3, .int .i64 n4], .iface 233 (.pointer (some ⟨bx, 0, none⟩))]) ∧ Below w.heap.size w w') := Calls.mono c fun e w' h => by
    obtain ⟨v, x, rfl, hb, ⟨h0, _⟩ | ⟨_, rfl, bx, rfl, _⟩⟩ := h
    · rw [show (ByteArray.mk s.toArray).data.toList = s from rfl, hsc] at h0; cases h0
    · exact ⟨_, _, _, _, bx, rfl, hb⟩
  clear c hT hsc
  go_enter Tryz.func9, Tryz.ntmps9
  go_wp2_with (first
    | (go_at_call 59; refine Calls.mono C.out ?_; rintro e w1 ⟨n1, n2, n3, n4, bx, rfl, hb1⟩)
    | fail)
  go_ret2
  exact ⟨bx, rfl, hb1.alloc hb1.size _⟩

/-- A document of a text, or none. -/
def isDoc (s : List UInt8) : Prop := (scan s).2 = true ∧ s.length ≤ 1500
set_option maxHeartbeats 1000000 in
theorem document_none (s : List UInt8) (h : ¬ isDoc s) (w : World) (hT : Lib.Utf8Tabs 2 3 w) :
    Calls Tryz.prog 17 #[.string ⟨s.toArray⟩] w fun e w' => e = .returned (.pointer none) ∧ Below w.heap.size w w' := by
  have hz : (ByteArray.mk s.toArray).size = s.length := by simp [ByteArray.size]
  by_cases hs : 1500 < s.length
  · have hs' : (1500 : Int) < (s.length : Int) := by omega
    clear hT h
    go_enter Tryz.func17, Tryz.ntmps17
    go_wp2
    go_ret
    exact ⟨rfl, Below.refl _ _⟩
  · have hs' : ¬ (1500 : Int) < (s.length : Int) := by omega
    have hsc : (scan s).2 = false := Bool.eq_false_iff.2 fun e => h ⟨e, by omega⟩
    have C : Hid _ := new_bad s (by omega) hsc w hT
    clear hT h hsc
    go_enter Tryz.func17, Tryz.ntmps17
    go_wp2_with (first
      | (go_at_call 9; refine Calls.mono C.out ?_; rintro e w1 ⟨bx, rfl, hb1⟩)
      | fail)
    go_ret
    exact ⟨rfl, hb1⟩
set_option maxHeartbeats 1000000 in
theorem document_some (s : List UInt8) (h : isDoc s) (w : World) (hT : Lib.Utf8Tabs 2 3 w) :
    Calls Tryz.prog 17 #[.string ⟨s.toArray⟩] w fun e w' => ∃ b, e = .returned (.pointer (some ⟨b, 0, none⟩)) ∧ isRope w' b (runesOf s) ∧ Below w.heap.size w w' := by
  obtain ⟨h1, h2⟩ := h
  have hz : (ByteArray.mk s.toArray).size = s.length := by simp [ByteArray.size]
  have hs' : ¬ (1500 : Int) < (s.length : Int) := by omega
  have e1 : bytesOf (runesOf s) = ⟨s.toArray⟩ := by unfold bytesOf; rw [encs_runesOf h1]
  have hC1 : C1 (runesOf s) = s.length := by rw [C1_len, encs_runesOf h1]
  have c := new_good (runesOf s) (fun r hr => runesOf_rune hr) (by omega) w hT
  rw [e1] at c
  have C : Hid _ := c
  clear c hT h1 e1 hC1
  go_enter Tryz.func17, Tryz.ntmps17
  go_wp2_with (first
    | (go_at_call 9; refine Calls.mono C.out ?_; rintro e w1 ⟨b, rfl, hlo, hR, hb1⟩; have HR : Hid (isRope w1 b (runesOf s)) := hR; clear hR)
    | fail)
  go_ret
  exact ⟨b, rfl, HR.out, hb1⟩

theorem field2c (a b c d : Int) (w : World) : (Instr.field 25 (.agg #[.int .i64 a, .int .i64 b, .int .i64 c, .int .i64 d]) 2).run Tryz.prog w = .ok (.int .i64 c) w := by kernel_rfl
attribute [local go_sem] field2c
end Go.Proofs.YtldhbjmillfjgabGreatDoor

namespace Go.Proofs.YtldhbjmillfjgabGreatDoor
open Go.RowKit
set_option linter.unusedVariables false
attribute [local go_sem] Oper.semAt_some

def fR : List Nat := [97, 128512, 98]
def fQ : List Pt := [⟨1, 0, []⟩, ⟨0, 2, []⟩, ⟨1, 0, []⟩]
theorem fR_rune : ∀ r ∈ fR, isRune r := by
  intro r hr
  simp only [fR, List.mem_cons, List.not_mem_nil, or_false] at hr
  unfold isRune
  omega
theorem fR_bytes : bytesOf fR = ⟨#[97, 240, 159, 152, 128, 98]⟩ := by kernel_rfl
theorem fR_len : by_ 2 fR = 4 := by kernel_rfl
theorem fR_e : shE 2 fR fQ = 0 := by kernel_rfl
theorem fR_r : bytesOf (shR 2 fR fQ) = ⟨#[97, 98]⟩ := by kernel_rfl
theorem fR_C1 : C1 fR = 6 := by kernel_rfl
theorem fR_sh : shR 2 fR fQ = [97, 98] := by kernel_rfl
theorem fQ_wf : ∀ q ∈ fQ, wfP q := by
  intro q hq
  simp only [fQ, List.mem_cons, List.not_mem_nil, or_false] at hq
  rcases hq with rfl | rfl | rfl <;> (refine ⟨?_, ?_, ?_, ?_, ?_⟩ <;> simp)
theorem tellV_any (n : Int) (w : World) (hg : asLaid w) : Calls Tryz.prog 23 #[errV n] w fun e w' => e = .returned (.int .i64 n) ∧ Below w.heap.size w w' := by
  unfold errV
  by_cases h : n = 0
  · rw [if_pos h, h]
    exact (Tell_nil w).mono fun e w' ⟨h1, h2⟩ => ⟨h1, h2 ▸ Below.refl _ _⟩
  · rw [if_neg h]
    exact Tell_number n w hg
set_option maxHeartbeats 1000000 in
theorem shaped_any (w : World) (hT : Lib.Utf8Tabs 2 3 w) : Calls Tryz.prog 15 #[] w fun e w' => e = .returned (.bool true) ∧ Below w.heap.size w w' := by
  have cN : Hid (Calls Tryz.prog 21 #[.int .i64 2, .string ⟨#[97, 240, 159, 152, 128, 98]⟩] w fun e w' => ∃ b, e = .returned (.tuple #[.pointer (some ⟨b, 0, none⟩), .nilIface]) ∧ isShape w' b 2 fR ∧ w.heap.size ≤ b ∧ Below w.heap.size w w') := by
    have := shnew_good 2 (.inr (.inl rfl)) fR fR_rune (by rw [fR_C1]; omega) w hT
    rw [fR_bytes] at this
    exact this
  have HT : Hid _ := hT
  have cL : Hid (∀ b wx, isShape wx b 2 fR → Calls Tryz.prog 29 #[.pointer (some ⟨b, 0, none⟩)] wx fun e w' => e = .returned (.int .i64 4) ∧ w' = wx) := fun b wx h => by
    have := shlen2_any b fR wx h
    rw [fR_len] at this
    exact this
  have cA : Hid (∀ b v wx, Below w.heap.size w wx → isShape wx b 2 fR → opAt wx v fQ → Calls Tryz.prog 22 #[.pointer (some ⟨b, 0, none⟩), v] wx fun e w' => e = .returned .nilIface ∧ isShape w' b 2 (shR 2 fR fQ) ∧ Below b wx w') := fun b v wx hb h ho => by
    have := shapply2_any b fR fQ v wx h fR_rune (by rw [fR_C1]; omega) (Go.Proofs.Utf8Tabs_below HT.out hb) ho fQ_wf (by simp [fQ]) (fun q hq => by
      simp only [fQ, List.mem_cons, List.not_mem_nil, or_false] at hq
      rcases hq with rfl | rfl | rfl <;> simp)
    rw [fR_e, errV_0] at this
    exact this
  have cT : Hid (∀ b wx, Below w.heap.size w wx → isShape wx b 2 (shR 2 fR fQ) → Calls Tryz.prog 24 #[.pointer (some ⟨b, 0, none⟩)] wx fun e w' => e = .returned (.string ⟨#[97, 98]⟩) ∧ Below wx.heap.size wx w') := fun b wx hb h => by
    have := shtext2_any b (shR 2 fR fQ) wx h (by rw [fR_sh]; intro r hr; simp only [List.mem_cons, List.not_mem_nil, or_false] at hr; unfold isRune; omega) (by rw [fR_sh]; decide) (Go.Proofs.Utf8Tabs_below HT.out hb)
    rw [fR_r] at this
    exact this
  clear hT
  go_enter Tryz.func15, Tryz.ntmps15
  go_wp2_with (first
    | (go_at_call 21; refine Calls.mono cN.out ?_; rintro e w1 ⟨b, rfl, hs1, hlb, hb1⟩; have HS1 : Hid _ := hs1; have HB1 : Hid (Below w.heap.size w w1) := hb1; have HLB : Hid (w.heap.size ≤ b) := hlb; have HBL : Hid (b < w1.heap.size) := isShape_lt hs1; clear hs1 hb1 hlb)
    | (go_at_call 29; refine (cL.out b _ HS1.out).mono ?_; rintro e w2 ⟨rfl, hw2⟩; obtain rfl := hw2.symm)
    | (go_at_call 9999)
    | fail)
  have HX : Hid (Below w1.heap.size w1 (w1.alloc (.cells (cellsP fQ).toArray 50))) := (Below.refl _ _).alloc (Nat.le_refl _) _
  refine (cA.out b _ _ (HB1.out.trans (HX.out.mono HB1.out.size)) (isShape_below HS1.out HX.out) (opAt_lit (t := 50) (ps := fQ) (fz := (0, 0)) (heap_alloc_new _ _) (by simp [maxLen, fQ]))).mono ?_
  rintro e w3 ⟨rfl, hs3, hb3⟩
  have HS3 : Hid _ := hs3
  have HB3 : Hid (Below w.heap.size w w3) := (HB1.out.trans (HX.out.mono HB1.out.size)).trans (hb3.mono HLB.out)
  clear hs3 hb3
  go_wp2_with (first
    | (go_at_call 24; refine (cT.out b _ HB3.out HS3.out).mono ?_; rintro e w4 ⟨rfl, hb4⟩; have HB4 : Hid (Below w.heap.size w w4) := HB3.out.trans (hb4.mono HB3.out.size); clear hb4)
    | fail)
  go_ret
  exact ⟨rfl, HB4.out⟩
end Go.Proofs.YtldhbjmillfjgabGreatDoor

namespace Go.Proofs.YtldhbjmillfjgabGreatDoor
set_option linter.unusedVariables false

theorem good.left {ps : List Pt} {t : List UInt8} (h : good ps t) : Left ps t := ⟨h.one, h.long, h.al⟩

/-- Which bytes an operation drops. -/
def flagsP : List Pt → List Bool
  | [] => []
  | p :: ps => List.replicate p.drop.toNat true ++ (List.replicate p.keep.toNat false ++ flagsP ps)
theorem flags_unit (d : Bool) (n : Nat) (ps : List Pt) : flagsP (unitK d n :: ps) = List.replicate n d ++ flagsP ps := by
  cases d <;> simp [flagsP, unitK]
theorem flags_put (u : List UInt8) (ps : List Pt) : flagsP (⟨0, 0, u⟩ :: ps) = flagsP ps := by simp [flagsP]
theorem puts_cons (p : Pt) (ps : List Pt) : putsP (p :: ps) = p.put.length + putsP ps := by simp [putsP]
/-- How much is made: what is put and what is kept. -/
theorem apply_len2 : ∀ (ps : List Pt) (t : List UInt8), Left ps t → (applyP ps t).length = putsP ps + (flagsP ps).count false
  | [], t, _ => rfl
  | p :: ps, t, h => by
    obtain ⟨hl, _, _, hlen⟩ := left_cons h
    have ih := apply_len2 ps _ hl
    rcases one_cases (h.one p (by simp)) with ⟨u, hu, rfl⟩ | ⟨d, m, rfl⟩
    · have e0 : (lenP (⟨0, 0, u⟩ : Pt)).toNat = 0 := rfl
      rw [e0, List.drop_zero] at ih
      rw [apply_put, flags_put, puts_cons, List.length_append, ih]
      show u.length + _ = u.length + _ + _
      omega
    · rw [lenP_unit] at hlen ih
      have e2 : ((m + 1 : Nat) : Int).toNat = m + 1 := by omega
      rw [e2] at hlen ih
      rw [apply_unit, flags_unit, puts_cons, put_unit, List.length_append, List.count_append, ih]
      cases d with
      | true => simp [List.count_replicate]
      | false =>
        rw [if_neg (by decide), List.length_take, List.count_replicate]
        simp
        omega
end Go.Proofs.YtldhbjmillfjgabGreatDoor

namespace Go.Proofs.YtldhbjmillfjgabGreatDoor
open Go.RowKit
set_option linter.unusedVariables false

theorem wts_eq : ∀ (ps : List Pt), wts ps = longP ps + putsP ps
  | [] => by simp [wts, longP, putsP]
  | p :: ps => by
    have ih := wts_eq ps
    have e1 : wts (p :: ps) = wtP p + wts ps := by simp [wts]
    rw [e1, long_cons, puts_cons, ih]
    unfold wtP lenP
    push_cast; omega
theorem len_wts : ∀ (ps : List Pt), (∀ p ∈ ps, oneP p) → (ps.length : Int) ≤ wts ps
  | [], _ => by simp [wts]
  | p :: ps, h => by
    have ih := len_wts ps fun q hq => h q (by simp [hq])
    have e1 : wts (p :: ps) = wtP p + wts ps := by simp [wts]
    have h1 := length_pos (h p (by simp))
    have e2 : lengthP p = wtP p := rfl
    rw [e1, List.length_cons]; push_cast; omega
theorem wts_mem : ∀ (ps : List Pt), (∀ p ∈ ps, oneP p) → ∀ p ∈ ps, wtP p ≤ wts ps
  | [], _, p, hp => by cases hp
  | q :: ps, h, p, hp => by
    have e1 : wts (q :: ps) = wtP q + wts ps := by simp [wts]
    have h0 := len_wts ps fun x hx => h x (by simp [hx])
    have h1 := length_pos (h q (by simp))
    have e2 : lengthP q = wtP q := rfl
    rcases List.mem_cons.1 hp with rfl | hp
    · omega
    · have := wts_mem ps (fun x hx => h x (by simp [hx])) p hp
      omega
theorem good.wt {x : List Pt} {t : List UInt8} (h : good x t) : wts x = t.length + putsP x := by rw [wts_eq, h.long]
theorem good.fine {x : List Pt} {t : List UInt8} (h : good x t) (hb : t.length + putsP x < 1000000) : fineP x := by
  have h1 := h.wt
  have h2 := len_wts x h.one
  exact ⟨h.one, by omega, by omega⟩
theorem good.wf {x : List Pt} {t : List UInt8} (h : good x t) (hb : t.length + putsP x < 1000000) : ∀ p ∈ x, wfP p := by
  intro p hp
  have h1 := h.wt
  have h2 := wts_mem x h.one p hp
  obtain ⟨k1, k2, _⟩ := one_kind (h.one p hp)
  have e : wtP p = p.keep + p.drop + p.put.length := rfl
  exact ⟨by omega, by omega, by omega, by omega, by omega⟩
theorem flags_len : ∀ (ps : List Pt), (∀ p ∈ ps, 0 ≤ p.keep ∧ 0 ≤ p.drop) → ((flagsP ps).length : Int) = longP ps
  | [], _ => by simp [flagsP, longP]
  | p :: ps, h => by
    have ih := flags_len ps fun q hq => h q (by simp [hq])
    have h1 := h p (by simp)
    rw [long_cons, ← ih, flagsP]
    simp only [List.length_append, List.length_replicate]
    unfold lenP; push_cast; omega
theorem apply_le {x : List Pt} {t : List UInt8} (h : good x t) : (applyP x t).length ≤ t.length + putsP x := by
  have h1 := apply_len2 x t h.left
  have h2 := List.count_le_length (a := false) (l := flagsP x)
  have h3 := flags_len x (ones_sound h.one)
  have h4 := h.long
  omega

theorem kApply (v : Value) (x : List Pt) (t : List UInt8) (w : World) (hT : Lib.Utf8Tabs 2 3 w) (hr : opAt w v x) (h : good x t) (hb : t.length + putsP x < 1000000) :
    Calls Tryz.prog 25 #[v, .string ⟨t.toArray⟩] w fun e w' => e = .returned (.tuple #[.string ⟨(applyP x t).toArray⟩, .nilIface]) ∧ Below w.heap.size w w' := by
  have hf := h.fine hb
  have := Apply_any v x t w hT hr (h.wf hb) (by omega) hf.len (by omega)
  rw [h.ord, if_pos rfl] at this
  exact this
end Go.Proofs.YtldhbjmillfjgabGreatDoor

namespace Go.Proofs.YtldhbjmillfjgabGreatDoor
open Go.RowKit
set_option linter.unusedVariables false
attribute [local go_sem] Oper.semAt_some

set_option maxHeartbeats 1000000 in
theorem alike_none (u0 : Int) (hu0 : -9223372036854775808 ≤ u0 ∧ u0 < 9223372036854775808) (s : List UInt8) (v : Value) (ps : List Pt) (raw : Bool) (w : World) (hT : Lib.Utf8Tabs 2 3 w) (hr : opAt w v ps) (h : ¬ isDoc s ∨ 60 < ps.length) :
    Calls Tryz.prog 4 #[.int .i64 u0, .string ⟨s.toArray⟩, v, .bool raw] w fun e w' => e = .returned (.bool true) ∧ Below w.heap.size w w' := by
  have cS : Hid _ := shaped_any w hT
  have HT : Hid _ := hT
  have cP : Hid (∀ wx, Calls Tryz.prog 16 #[.int .i64 u0, .int .i64 3] wx fun e w' => e = .returned (.int .i64 (pk u0 3)) ∧ Below wx.heap.size wx w') := fun wx => pick_any u0 3 hu0 (by decide) (by decide) wx
  have hpb := pk_bd u0 3 (by decide)
  obtain ⟨p, c, rfl, r1, r2, _⟩ := hr
  unfold maxLen at r2
  by_cases hd : isDoc s
  · have h60 : (60 : Int) < (ps.length : Int) := by rcases h with h | h; exact absurd hd h; omega
    have cD : Hid (∀ wx, Below w.heap.size w wx → _) := fun wx (hb : Below w.heap.size w wx) => document_some s hd wx (Go.Proofs.Utf8Tabs_below HT.out hb)
    clear hT h hd
    generalize ByteArray.mk s.toArray = S at *
    generalize runesOf s = rs at *
    generalize pk u0 3 = P at *
    go_enter Tryz.func4, Tryz.ntmps4
    go_wp2_with (first
      | (go_at_call 15; refine Calls.mono cS.out ?_; rintro e w1 ⟨rfl, hb1⟩; have HB1 : Hid (Below w.heap.size w w1) := hb1; clear hb1)
      | (go_at_call 16; refine (cP.out _).mono ?_; rintro e w2 ⟨rfl, hb2⟩; have HB2 : Hid (Below w.heap.size w w2) := HB1.out.trans (hb2.mono HB1.out.size); clear hb2)
      | (go_at_call 17; refine (cD.out _ HB2.out).mono ?_; rintro e w3 ⟨b, rfl, _, hb3⟩; have HB3 : Hid (Below w.heap.size w w3) := HB2.out.trans (hb3.mono HB2.out.size); clear hb3)
      | fail)
    go_ret
    exact ⟨rfl, HB3.out⟩
  · have cD : Hid (∀ wx, Below w.heap.size w wx → _) := fun wx (hb : Below w.heap.size w wx) => document_none s hd wx (Go.Proofs.Utf8Tabs_below HT.out hb)
    clear hT h hd
    generalize ByteArray.mk s.toArray = S at *
    generalize pk u0 3 = P at *
    go_enter Tryz.func4, Tryz.ntmps4
    go_wp2_with (first
      | (go_at_call 15; refine Calls.mono cS.out ?_; rintro e w1 ⟨rfl, hb1⟩; have HB1 : Hid (Below w.heap.size w w1) := hb1; clear hb1)
      | (go_at_call 16; refine (cP.out _).mono ?_; rintro e w2 ⟨rfl, hb2⟩; have HB2 : Hid (Below w.heap.size w w2) := HB1.out.trans (hb2.mono HB1.out.size); clear hb2)
      | (go_at_call 17; refine (cD.out _ HB2.out).mono ?_; rintro e w3 ⟨rfl, hb3⟩; have HB3 : Hid (Below w.heap.size w w3) := HB2.out.trans (hb3.mono HB2.out.size); clear hb3)
      | fail)
    go_ret
    exact ⟨rfl, HB3.out⟩

/-- What is known of the operation that is played. -/
def playWf (qs : List Pt) : Prop := ∀ q ∈ qs, q.put.length ≤ 150 → wfP q
theorem back_self {u : Int} (hu : unitOk u) {rs : List Nat} {q : List Pt} (hR : ∀ r ∈ rs, isRune r) (h : tzE rs u 1 q = 0) : tzE rs 1 u (tzO rs u 1 q) = 0 ∧ tzO rs 1 u (tzO rs u 1 q) = q := by
  obtain ⟨g1, g2, g3, g4, g5, g6, g7, g8⟩ := sh_fine hu hR h
  obtain ⟨hp1, h2, h3⟩ := chkE_parts g6
  obtain ⟨i1, i2⟩ := in_back hu q rs (fun p hp => (hp1 p hp).1) h2 g7
  have hc : chkE (tzO rs u 1 q) (by_ 1 rs) = 0 := by
    have := g1.chk
    unfold by_
    rw [if_pos rfl, C1_len]
    exact this
  obtain ⟨k1, k2, k3⟩ := chkE_parts hc
  obtain ⟨t1, t2⟩ := turn_in (u := 1) (.inl rfl) u (tzO rs u 1 q) rs k3 (Int.le_of_eq k2)
  rw [g8] at t1 t2 hc ⊢
  have hB : (uB 1 && uB u) = true := by rw [(uB_iff u).2 hu, (uB_iff 1).2 (.inl rfl)]; rfl
  unfold tzE
  constructor
  · rw [hB, if_pos rfl, if_pos hc, t1, i1]; rfl
  · conv => lhs; unfold tzO
    rw [hB, if_pos rfl, if_pos hc, t2, i1, if_pos rfl, i2]
end Go.Proofs.YtldhbjmillfjgabGreatDoor

namespace Go.Proofs.YtldhbjmillfjgabGreatDoor
open Go.RowKit
set_option linter.unusedVariables false
attribute [local go_sem] Oper.semAt_some

set_option maxRecDepth 100000 in
set_option maxHeartbeats 4000000 in
theorem alike_doc (u0 : Int) (hu0 : -9223372036854775808 ≤ u0 ∧ u0 < 9223372036854775808) (s : List UInt8) (hd : isDoc s) (v : Value) (ps : List Pt) (raw : Bool) (w : World) (hg : asLaid w) (hT : Lib.Utf8Tabs 2 3 w) (hr : opAt w v ps) (hwf : playWf ps) (hl : ps.length ≤ 60) :
    Calls Tryz.prog 4 #[.int .i64 u0, .string ⟨s.toArray⟩, v, .bool raw] w fun e w' => e = .returned (.bool true) ∧ Below w.heap.size w w' := by
  have HG : Hid (asLaid w) := hg
  have HT : Hid (Lib.Utf8Tabs 2 3 w) := hT
  have HOP : Hid (opAt w v ps) := hr
  have HWF : Hid (playWf ps) := hwf
  obtain ⟨hd1, hd2⟩ := hd
  obtain ⟨rs, hrs⟩ : ∃ rs, runesOf s = rs := ⟨_, rfl⟩
  have he : encs rs = s := by rw [← hrs]; exact encs_runesOf hd1
  have hR : ∀ r ∈ rs, isRune r := fun r h => runesOf_rune (by rw [hrs]; exact h)
  have hC1 : C1 rs = s.length := by rw [C1_len, he]
  have hS : (ByteArray.mk s.toArray) = bytesOf rs := by unfold bytesOf; rw [he]
  have HR : Hid (∀ r ∈ rs, isRune r) := hR
  have HC : Hid (C1 rs ≤ 1500) := show C1 rs ≤ 1500 by omega
  obtain ⟨un, hun, huv⟩ : ∃ un : Nat, unitN un ∧ 1 + pk u0 3 = (un : Int) := by
    have := pk_bd u0 3 (by decide)
    refine ⟨(1 + pk u0 3).toNat, ?_, by omega⟩
    unfold unitN; omega
  have HUN : Hid (unitN un) := hun
  have HUO : Hid (unitOk (un : Int)) := unitN_ok hun
  have hunb : (un : Int) ≤ 3 := by unfold unitN at hun; omega
  have cS : Hid _ := shaped_any w hT
  have cP : Hid (∀ wx, Calls Tryz.prog 16 #[.int .i64 u0, .int .i64 3] wx fun e w' => e = .returned (.int .i64 (pk u0 3)) ∧ Below wx.heap.size wx w') := fun wx => pick_any u0 3 hu0 (by decide) (by decide) wx
  have cD : Hid (∀ wx, Below w.heap.size w wx → Calls Tryz.prog 17 #[.string (bytesOf rs)] wx fun e w' => ∃ b, e = .returned (.pointer (some ⟨b, 0, none⟩)) ∧ isRope w' b rs ∧ Below wx.heap.size wx w') := fun wx hb => by
    have := document_some s ⟨hd1, hd2⟩ wx (Go.Proofs.Utf8Tabs_below HT.out hb)
    rw [hS, hrs] at this
    exact this
  have cC : Hid (∀ b wx, isRope wx b rs → Calls Tryz.prog 20 #[.pointer (some ⟨b, 0, none⟩)] wx fun e w' => e = .returned (.agg #[.int .i64 (C1 rs), .int .i64 (C2 rs), .int .i64 (C3 rs), .int .i64 (C4 rs)]) ∧ Below wx.heap.size wx w') := fun b wx h => ropecounts_any b rs wx h
  have cI : Hid (∀ wx, Calls Tryz.prog 19 #[.agg #[.int .i64 (C1 rs), .int .i64 (C2 rs), .int .i64 (C3 rs), .int .i64 (C4 rs)], .int .i64 (un : Int)] wx fun e w' => e = .returned (.int .i64 (by_ (un : Int) rs)) ∧ Below wx.heap.size wx w') := fun wx => In_any (un : Int) rs wx
  have hby0 := by_pos (un : Int) rs
  have hby1 := by_le3 (unitN_ok hun) rs
  have cF : Hid (∀ wx, Below w.heap.size w wx → Calls Tryz.prog 18 #[v, .int .i64 (by_ (un : Int) rs)] wx fun e w' => ∃ p c qs, e = .returned (.slice p qs.length c) ∧ opAt w' (.slice p qs.length c) qs ∧ qs.length ≤ 61 ∧ playWf qs ∧ Below wx.heap.size wx w') := fun wx hb => by
    refine (fit_any v ps (by_ (un : Int) rs) wx (Go.Proofs.Utf8Tabs_below HT.out hb) (opAt_below HOP.out hb (Nat.le_refl _)) HWF.out hby0 (by have := HC.out; omega)).mono ?_
    rintro e w' ⟨v', qs, rfl, ho, hl, hq, hb'⟩
    obtain ⟨p, c, rfl⟩ := own_slice ho
    refine ⟨p, c, qs, rfl, opAt_own ho, hl, fun q hqm h150 => ?_, hb'⟩
    obtain ⟨s1, s2, s3, s4, s5⟩ := hq q hqm
    have := HC.out
    exact ⟨by omega, by omega, by omega, by omega, by omega⟩
  rw [hS]
  obtain ⟨pv, cv, rfl, r1, r2, _⟩ := hr
  unfold maxLen at r2
  have hl60 : ¬ (60 : Int) < (ps.length : Int) := by omega
  have HP : Hid (ps.length ≤ 61) := show ps.length ≤ 61 by omega
  have hpb := pk_bd u0 3 (by decide)
  clear hT hg hwf hd1 hd2 he hR hC1 hrs hS hun hby1 hu0
  generalize pk u0 3 = P at *
  go_enter Tryz.func4, Tryz.ntmps4
  go_upto_if 35 with (first
    | (go_at_call 15; refine Calls.mono cS.out ?_; rintro e w1 ⟨rfl, hb1⟩; have HB1 : Hid (Below w.heap.size w w1) := hb1; clear hb1)
    | (go_at_call 16; refine (cP.out _).mono ?_; rintro e w2 ⟨rfl, hb2⟩; have HB2 : Hid (Below w.heap.size w w2) := HB1.out.trans (hb2.mono HB1.out.size); clear hb2)
    | (go_at_call 17; refine (cD.out _ HB2.out).mono ?_; rintro e w3 ⟨br, rfl, hro, hb3⟩; have HB3 : Hid (Below w.heap.size w w3) := HB2.out.trans (hb3.mono HB2.out.size); have HRO : Hid (isRope w3 br rs) := hro; clear hb3 hro)
    | fail)
  clear cS cP cD
  go_cut [2] from 36 to 41 (fun v2 wc => ∃ p c qs, v2 = .slice p qs.length c ∧ opAt wc (.slice p qs.length c) qs ∧ qs.length ≤ 61 ∧ playWf qs ∧ Below w3.heap.size w3 wc)
  case first =>
    cases raw with
    | true =>
      go_wp2
      go_meet
      case rel => exact ⟨pv, cv, ps, rfl, opAt_below HOP.out HB3.out (Nat.le_refl _), HP.out, HWF.out, Below.refl _ _⟩
    | false =>
      go_wp2_with (first
        | (go_at_call 20; refine (cC.out _ _ HRO.out).mono ?_; rintro e w4 ⟨rfl, hb4⟩; have HB4 : Hid (Below w3.heap.size w3 w4) := hb4; clear hb4)
        | (go_at_call 19; refine (cI.out _).mono ?_; rintro e w5 ⟨rfl, hb5⟩; have HB5 : Hid (Below w3.heap.size w3 w5) := HB4.out.trans (hb5.mono HB4.out.size); clear hb5)
        | (go_at_call 18; refine (cF.out _ (HB3.out.trans (HB5.out.mono HB3.out.size))).mono ?_; rintro e w6 ⟨p6, c6, qs, rfl, ho6, hl6, hw6, hb6⟩; have HB6 : Hid (Below w3.heap.size w3 w6) := HB5.out.trans (hb6.mono HB5.out.size); have HO6 : Hid (opAt w6 (.slice p6 qs.length c6) qs) := ho6; have HW6 : Hid (playWf qs) := hw6; have HL6 : Hid (qs.length ≤ 61) := hl6; clear hb6 ho6 hw6 hl6)
        | fail)
      go_meet
      case rel => exact ⟨p6, c6, qs, rfl, HO6.out, HL6.out, HW6.out, HB6.out⟩
  case rest =>
    obtain ⟨p2, c2, qs, rfl, hop2, hl2, hwf2, hbc⟩ := hcut
    have HRC : Hid (isRope wc br rs) := isRope_below HRO.out hbc
    have HBC : Hid (Below w.heap.size w wc) := HB3.out.trans (hbc.mono HB3.out.size)
    have HQ : Hid (opAt wc (.slice p2 qs.length c2) qs) := hop2
    have HQL : Hid (qs.length ≤ 61) := hl2
    have HQW : Hid (playWf qs) := hwf2
    have hqc : qs.length ≤ c2 ∧ c2 ≤ maxLen := by obtain ⟨p', c', e, e2, e3, _⟩ := hop2; injection e with _ _ e4; subst e4; exact ⟨e2, e3⟩
    obtain ⟨hqc1, hqc2⟩ := hqc
    unfold maxLen at hqc2
    obtain ⟨N, hN⟩ : ∃ N, qs.length = N := ⟨_, rfl⟩
    rw [hN] at hqc1 hl2 ⊢
    have HN : Hid (qs.length = N) := hN
    have hN61 : (N : Int) ≤ 61 := by omega
    clear hop2 hwf2 hbc cC cI cF HB3 HRO HP HWF hN
    go_wp2
    go_loopw [10] (fun i wr => ∃ x : Nat, i = .int .i64 x ∧ x ≤ N ∧ wr = wc ∧ ∀ j, j < x → ∀ q, qs[j]? = some q → q.put.length ≤ 150) (fun i _ => N - (intOf i).toNat)
    case atStart => exact ⟨0, rfl, Nat.zero_le _, rfl, fun j hj => absurd hj (Nat.not_lt_zero _)⟩
    case round =>
      obtain ⟨x, rfl, hxN, rfl, hall⟩ := hrel
      have HALL : Hid (∀ j, j < x → ∀ q, qs[j]? = some q → q.put.length ≤ 150) := hall
      clear hall
      by_cases hlt : x < N
      case pos =>
        have hxr : x < qs.length := by rw [HN.out]; exact hlt
        have hne : qs ≠ [] := by intro e; rw [e] at hxr; exact absurd hxr (Nat.not_lt_zero _)
        obtain ⟨p0, c0, hvv, _, _, hcell⟩ := HQ.out
        obtain ⟨b0, o, rfl, hb0, hcell⟩ := hcell hne
        obtain ⟨f0, f1, f2⟩ := hcell x qs[x] (List.getElem?_eq_getElem hxr)
        obtain rfl : p2 = some ⟨b0, o, none⟩ := by injection hvv
        have hxi : (x : Int) < (N : Int) := by omega
        have HXQ : Hid (qs[x]? = some qs[x]) := List.getElem?_eq_getElem hxr
        clear hvv hcell f0 f1 hne
        generalize qs[x] = q at *
        have hUz : (ByteArray.mk q.put.toArray).size = q.put.length := by simp [ByteArray.size]
        by_cases hp : 150 < q.put.length
        case pos =>
          have hp' : (150 : Int) < (q.put.length : Int) := by omega
          go_wp2
          go_ret
          exact ⟨rfl, HBC.out⟩
        case neg =>
          have hp' : ¬ (150 : Int) < (q.put.length : Int) := by omega
          have HNP : Hid (q.put.length ≤ 150) := show q.put.length ≤ 150 by omega
          clear hp
          go_wp2
          refine ⟨⟨x + 1, by go_num, hlt, trivial, fun j hj q' hq' => ?_⟩, by simp [intOf]; omega⟩
          rcases Nat.lt_or_ge j x with h | h
          · exact HALL.out j h q' hq'
          · obtain rfl : j = x := by omega
            rw [HXQ.out] at hq'
            exact Option.some.inj hq' ▸ HNP.out
      case neg =>
        obtain rfl : x = N := by omega
        have hxi : ¬ ((x : Int) < (x : Int)) := by omega
        have hq150 : ∀ q ∈ qs, q.put.length ≤ 150 := fun q hq => by
          obtain ⟨j, hj, e⟩ := List.mem_iff_getElem.1 hq
          exact HALL.out j (by rw [← HN.out]; exact hj) q (by rw [List.getElem?_eq_getElem hj, e])
        have hwq : ∀ q ∈ qs, wfP q := fun q hq => HQW.out q hq (hq150 q hq)
        have HLB : Hid (Lib.Utf8Tabs 2 3 wr) := Go.Proofs.Utf8Tabs_below HT.out HBC.out
        have cN : Hid (Calls Tryz.prog 21 #[.int .i64 (un : Int), .string (bytesOf rs)] wr fun e w' => ∃ b, e = .returned (.tuple #[.pointer (some ⟨b, 0, none⟩), .nilIface]) ∧ isShape w' b un rs ∧ wr.heap.size ≤ b ∧ Below wr.heap.size wr w') := shnew_good un HUN.out rs HR.out (by have := HC.out; omega) wr HLB.out
        have cA : Hid (∀ b wx, Below wr.heap.size wr wx → isShape wx b un rs → Calls Tryz.prog 22 #[.pointer (some ⟨b, 0, none⟩), .slice p2 qs.length c2] wx fun e w' => e = .returned (errV (shE (un : Int) rs qs)) ∧ isShape w' b un (shR (un : Int) rs qs) ∧ Below b wx w') := fun b wx hb hs => shapply_any b un HUN.out rs qs _ wx hs HR.out (by have := HC.out; omega) (Go.Proofs.Utf8Tabs_below HLB.out hb) (opAt_below HQ.out hb (Nat.le_refl _)) hwq (by have := HQL.out; omega) (fun p hp => by have := hq150 p hp; omega)
        have cTo : Hid (∀ wx, Below wr.heap.size wr wx → Calls Tryz.prog 11 #[.pointer (some ⟨br, 0, none⟩), .int .i64 (un : Int), .slice p2 qs.length c2] wx fun e w' => ∃ p3 c3, e = .returned (.tuple #[.slice p3 (tzO rs (un : Int) 1 qs).length c3, errV (tzE rs (un : Int) 1 qs)]) ∧ opAt w' (.slice p3 (tzO rs (un : Int) 1 qs).length c3) (tzO rs (un : Int) 1 qs) ∧ Below wx.heap.size wx w') := fun wx hb => by
          refine (to_all br rs (un : Int) qs _ wx (Go.Proofs.Utf8Tabs_below HLB.out hb) (isRope_below HRC.out hb) (opAt_below HQ.out hb (Nat.le_refl _)) hwq (by have := HQL.out; omega) (fun p hp => by have := hq150 p hp; omega) (by have := HC.out; omega)).mono ?_
          rintro e w' ⟨v', h1, h2, h3⟩
          have h2' := h2
          obtain ⟨p3, c3, rfl, _⟩ := h2'
          exact ⟨p3, c3, h1, h2, h3⟩
        have cTx : Hid (∀ b R wx, Below wr.heap.size wr wx → isShape wx b un R → (∀ r ∈ R, isRune r) → C1 R ≤ 1000000 → Calls Tryz.prog 24 #[.pointer (some ⟨b, 0, none⟩)] wx fun e w' => e = .returned (.string (bytesOf R)) ∧ Below wx.heap.size wx w') := fun b R wx hb h1 h2 h3 => shtext_any b un HUN.out R wx h1 h2 h3 (Go.Proofs.Utf8Tabs_below HLB.out hb)
        have cTl : Hid (∀ E wx, Below wr.heap.size wr wx → Calls Tryz.prog 23 #[errV E] wx fun e w' => e = .returned (.int .i64 E) ∧ Below wx.heap.size wx w') := fun E wx hb => tellV_any E wx (asLaid_below (asLaid_below HG.out HBC.out) hb)
        rw [HN.out] at cA cTo
        have hSz : ((bytesOf rs).size : Int) = C1 rs := by rw [C1_len]; simp [bytesOf, ByteArray.size]
        by_cases hE : tzE rs (un : Int) 1 qs = 0
        case neg =>
          obtain ⟨b1, b2⟩ := sh_bad HUO.out hE
          rw [b1, b2] at cA
          have cT1 : Hid (∀ wx, Below wr.heap.size wr wx → Calls Tryz.prog 23 #[errV (tzE rs (un : Int) 1 qs)] wx fun e w' => e = .returned (.int .i64 (tzE rs (un : Int) 1 qs)) ∧ Below wx.heap.size wx w') := cTl.out _
          have hV : errV (tzE rs (un : Int) 1 qs) = .iface 26 (.int .i64 (tzE rs (un : Int) 1 qs)) := by unfold errV; rw [if_neg hE]
          rw [hV] at cA cTo cT1
          have cTs : Hid (∀ b wx, Below wr.heap.size wr wx → isShape wx b un rs → Calls Tryz.prog 24 #[.pointer (some ⟨b, 0, none⟩)] wx fun e w' => e = .returned (.string (bytesOf rs)) ∧ Below wx.heap.size wx w') := fun b wx hb h1 => cTx.out b rs wx hb h1 HR.out (by have := HC.out; omega)
          generalize tzE rs (un : Int) 1 qs = E at *
          generalize (tzO rs (un : Int) 1 qs) = TO at *
          obtain ⟨S, hS⟩ : ∃ S, bytesOf rs = S := ⟨_, rfl⟩
          rw [hS] at cN cTs ⊢
          clear b1 b2 hV cTl cTx hE hS hSz hq150 hwq hlt
          go_wp2_with (first
            | (go_at_call 21; refine Calls.mono cN.out ?_; rintro e w4 ⟨b, rfl, hs4, hlb, hb4⟩; have HB4 : Hid (Below wr.heap.size wr w4) := hb4; have HS4 : Hid (isShape w4 b un rs) := hs4; have HLB2 : Hid (wr.heap.size ≤ b) := hlb; clear hs4 hb4 hlb)
            | (go_at_call 22; refine (cA.out _ _ HB4.out HS4.out).mono ?_; rintro e w5 ⟨rfl, hs5, hb5⟩; have HB5 : Hid (Below wr.heap.size wr w5) := HB4.out.trans (hb5.mono HLB2.out); have HS5 : Hid (isShape w5 b un rs) := hs5; clear hs5 hb5)
            | (go_at_call 11; refine (cTo.out _ HB5.out).mono ?_; rintro e w6 ⟨p3, c3, rfl, ho6, hb6⟩; have HB6 : Hid (Below wr.heap.size wr w6) := HB5.out.trans (hb6.mono HB5.out.size); have HS6 : Hid (isShape w6 b un rs) := isShape_below HS5.out hb6; have HO6 : Hid _ := ho6; clear hb6 ho6)
            | (have _ := HB7; go_at_call 23; refine (cT1.out _ HB7.out).mono ?_; rintro e w8 ⟨rfl, hb8⟩; have HB8 : Hid (Below wr.heap.size wr w8) := HB7.out.trans (hb8.mono HB7.out.size); have HS8 : Hid (isShape w8 b un rs) := isShape_below HS7.out hb8; clear hb8)
            | (go_at_call 23; refine (cT1.out _ HB6.out).mono ?_; rintro e w7 ⟨rfl, hb7⟩; have HB7 : Hid (Below wr.heap.size wr w7) := HB6.out.trans (hb7.mono HB6.out.size); have HS7 : Hid (isShape w7 b un rs) := isShape_below HS6.out hb7; clear hb7)
            | (go_at_call 24; refine (cTs.out _ _ HB8.out HS8.out).mono ?_; rintro e w9 ⟨rfl, hb9⟩; have HB9 : Hid (Below wr.heap.size wr w9) := HB8.out.trans (hb9.mono HB8.out.size); clear hb9)
            | fail)
          go_ret
          exact ⟨rfl, HBC.out.trans (HB9.out.mono HBC.out.size)⟩
        case pos =>
          obtain ⟨g1, g2, g3, g4, g5, g6, g7, g8⟩ := sh_fine HUO.out HR.out hE
          obtain ⟨k1, k2⟩ := back_self HUO.out HR.out hE
          have hones : ∀ p ∈ qs, oneB p = true := fun p hp => ((chkE_parts g6).1 p hp).1
          have hpu : putsP (tzO rs (un : Int) 1 qs) ≤ 18300 := by
            rw [g8, in_puts qs rs hones]
            have := putsP_le qs (fun p hp => by have := hq150 p hp; omega)
            have := HQL.out
            omega
          have hCl := C1_len rs
          have hbd : (encs rs).length + putsP (tzO rs (un : Int) 1 qs) < 1000000 := by have := HC.out; omega
          have hwt := g1.wf hbd
          have hlt2 : (tzO rs (un : Int) 1 qs).length ≤ 61 := by rw [g8, in_len]; exact HQL.out
          have cAp : Hid (∀ p3 c3 wx, Below wr.heap.size wr wx → opAt wx (.slice p3 (tzO rs (un : Int) 1 qs).length c3) (tzO rs (un : Int) 1 qs) → Calls Tryz.prog 25 #[.slice p3 (tzO rs (un : Int) 1 qs).length c3, .string (bytesOf rs)] wx fun e w' => e = .returned (.tuple #[.string (bytesOf (comesZ (un : Int) rs qs)), .nilIface]) ∧ Below wx.heap.size wx w') := fun p3 c3 wx hb ho => by
            have := kApply _ (tzO rs (un : Int) 1 qs) (encs rs) wx (Go.Proofs.Utf8Tabs_below HLB.out hb) ho g1 hbd
            rw [g2] at this
            exact this
          have cFr : Hid (∀ p3 c3 wx, Below wr.heap.size wr wx → opAt wx (.slice p3 (tzO rs (un : Int) 1 qs).length c3) (tzO rs (un : Int) 1 qs) → Calls Tryz.prog 12 #[.pointer (some ⟨br, 0, none⟩), .int .i64 (un : Int), .slice p3 (tzO rs (un : Int) 1 qs).length c3] wx fun e w' => ∃ p4 c4, e = .returned (.tuple #[.slice p4 x c4, .nilIface]) ∧ opAt w' (.slice p4 qs.length c4) qs ∧ Below wx.heap.size wx w') := fun p3 c3 wx hb ho => by
            refine (from_all br rs (un : Int) (tzO rs (un : Int) 1 qs) _ wx (Go.Proofs.Utf8Tabs_below HLB.out hb) (isRope_below HRC.out hb) ho hwt (by omega) (fun p hp => by have := put_le_puts p _ hp; omega) (by have := HC.out; omega)).mono ?_
            rintro e w' ⟨v', h1, h2, h3⟩
            rw [k1, errV_0] at h1
            rw [k2] at h2
            have h2' := h2
            obtain ⟨p4, c4, rfl, _⟩ := h2'
            rw [HN.out] at h1
            exact ⟨p4, c4, h1, h2, h3⟩
          have cSm : Hid (∀ p4 c4 wx, Below wr.heap.size wr wx → opAt wx (.slice p4 qs.length c4) qs → Calls Tryz.prog 14 #[.slice p4 x c4, .slice p2 x c2] wx fun e w' => e = .returned (.bool true) ∧ Below wx.heap.size wx w') := fun p4 c4 wx hb ho => by
            have := Same_any _ _ qs wx ho (opAt_below HQ.out hb (Nat.le_refl _)) (by have := HQL.out; omega)
            rw [HN.out] at this
            exact this
          have hCZ : C1 (comesZ (un : Int) rs qs) ≤ 1000000 := by
            have e1 := apply_le g1
            rw [g2] at e1
            have := C1_len (comesZ (un : Int) rs qs)
            have := HC.out
            omega
          rw [g4, g5] at cA
          rw [hE, errV_0] at cTo
          have hcs : ((bytesOf (comesZ (un : Int) rs qs)).size : Int) = C1 (comesZ (un : Int) rs qs) := by rw [C1_len]; simp [bytesOf, ByteArray.size]
          have HG3 : Hid (∀ r ∈ comesZ (un : Int) rs qs, isRune r) := g3
          generalize (tzO rs (un : Int) 1 qs) = TO at *
          generalize (comesZ (un : Int) rs qs) = CZ at *
          clear g1 g2 g3 g4 g5 g6 g7 g8 k1 k2 hones hpu hCl hbd hwt hlt2 hE hlt
          by_cases h8 : C1 CZ ≤ 8000
          case pos =>
            rw [if_pos h8, if_pos h8, errV_0] at cA
            have h8' : ¬ (8000 : Int) < ((bytesOf CZ).size : Int) := by omega
            have cTs : Hid (∀ b wx, Below wr.heap.size wr wx → isShape wx b un CZ → Calls Tryz.prog 24 #[.pointer (some ⟨b, 0, none⟩)] wx fun e w' => e = .returned (.string (bytesOf CZ)) ∧ Below wx.heap.size wx w') := fun b wx hb h1 => cTx.out b CZ wx hb h1 HG3.out hCZ
            obtain ⟨S, hS⟩ : ∃ S, bytesOf rs = S := ⟨_, rfl⟩
            rw [hS] at cN cAp ⊢
            obtain ⟨S2, hS2⟩ : ∃ S2, bytesOf CZ = S2 := ⟨_, rfl⟩
            rw [hS2] at cTs cAp h8' hcs
            clear cTl cTx hS hS2 hSz hq150 hwq h8 hcs hCZ
            go_wp2_with (first
              | (go_at_call 21; refine Calls.mono cN.out ?_; rintro e w4 ⟨b, rfl, hs4, hlb, hb4⟩; have HB4 : Hid (Below wr.heap.size wr w4) := hb4; have HS4 : Hid (isShape w4 b un rs) := hs4; have HLB2 : Hid (wr.heap.size ≤ b) := hlb; clear hs4 hb4 hlb)
              | (go_at_call 22; refine (cA.out _ _ HB4.out HS4.out).mono ?_; rintro e w5 ⟨rfl, hs5, hb5⟩; have HB5 : Hid (Below wr.heap.size wr w5) := HB4.out.trans (hb5.mono HLB2.out); have HS5 : Hid (isShape w5 b un CZ) := hs5; clear hs5 hb5)
              | (go_at_call 11; refine (cTo.out _ HB5.out).mono ?_; rintro e w6 ⟨p3, c3, rfl, ho6, hb6⟩; have HB6 : Hid (Below wr.heap.size wr w6) := HB5.out.trans (hb6.mono HB5.out.size); have HS6 : Hid (isShape w6 b un CZ) := isShape_below HS5.out hb6; have HO6 : Hid _ := ho6; clear hb6 ho6)
              | (go_at_call 25; refine (cAp.out _ _ _ HB6.out HO6.out).mono ?_; rintro e w7 ⟨rfl, hb7⟩; have HB7 : Hid (Below wr.heap.size wr w7) := HB6.out.trans (hb7.mono HB6.out.size); have HS7 : Hid (isShape w7 b un CZ) := isShape_below HS6.out hb7; have HO7 : Hid _ := opAt_grown HO6.out hb7; clear hb7)
              | (go_at_call 12; refine (cFr.out _ _ _ HB7.out HO7.out).mono ?_; rintro e w8 ⟨p4, c4, rfl, ho8, hb8⟩; have HB8 : Hid (Below wr.heap.size wr w8) := HB7.out.trans (hb8.mono HB7.out.size); have HS8 : Hid (isShape w8 b un CZ) := isShape_below HS7.out hb8; have HO8 : Hid _ := ho8; clear hb8 ho8)
              | (go_at_call 14; refine (cSm.out _ _ _ HB8.out HO8.out).mono ?_; rintro e w9 ⟨rfl, hb9⟩; have HB9 : Hid (Below wr.heap.size wr w9) := HB8.out.trans (hb9.mono HB8.out.size); have HS9 : Hid (isShape w9 b un CZ) := isShape_below HS8.out hb9; clear hb9)
              | (go_at_call 24; refine (cTs.out _ _ HB9.out HS9.out).mono ?_; rintro e w10 ⟨rfl, hb10⟩; have HB10 : Hid (Below wr.heap.size wr w10) := HB9.out.trans (hb10.mono HB9.out.size); clear hb10)
              | fail)
            go_ret
            exact ⟨rfl, HBC.out.trans (HB10.out.mono HBC.out.size)⟩
          case neg =>
            rw [if_neg h8, if_neg h8] at cA
            have h8' : (8000 : Int) < ((bytesOf CZ).size : Int) := by omega
            have cT1 : Hid (∀ wx, Below wr.heap.size wr wx → Calls Tryz.prog 23 #[errV 12] wx fun e w' => e = .returned (.int .i64 12) ∧ Below wx.heap.size wx w') := cTl.out _
            have cTs : Hid (∀ b wx, Below wr.heap.size wr wx → isShape wx b un rs → Calls Tryz.prog 24 #[.pointer (some ⟨b, 0, none⟩)] wx fun e w' => e = .returned (.string (bytesOf rs)) ∧ Below wx.heap.size wx w') := fun b wx hb h1 => cTx.out b rs wx hb h1 HR.out (by have := HC.out; omega)
            obtain ⟨V, hV⟩ : ∃ V, errV 12 = V := ⟨_, rfl⟩
            rw [hV] at cA cT1
            obtain ⟨S, hS⟩ : ∃ S, bytesOf rs = S := ⟨_, rfl⟩
            rw [hS] at cN cAp cTs ⊢
            obtain ⟨S2, hS2⟩ : ∃ S2, bytesOf CZ = S2 := ⟨_, rfl⟩
            rw [hS2] at cAp h8' hcs
            clear cTl cTx hS hS2 hSz hq150 hwq h8 hcs hCZ hV
            go_wp2_with (first
              | (go_at_call 21; refine Calls.mono cN.out ?_; rintro e w4 ⟨b, rfl, hs4, hlb, hb4⟩; have HB4 : Hid (Below wr.heap.size wr w4) := hb4; have HS4 : Hid (isShape w4 b un rs) := hs4; have HLB2 : Hid (wr.heap.size ≤ b) := hlb; clear hs4 hb4 hlb)
              | (go_at_call 22; refine (cA.out _ _ HB4.out HS4.out).mono ?_; rintro e w5 ⟨rfl, hs5, hb5⟩; have HB5 : Hid (Below wr.heap.size wr w5) := HB4.out.trans (hb5.mono HLB2.out); have HS5 : Hid (isShape w5 b un rs) := hs5; clear hs5 hb5)
              | (go_at_call 11; refine (cTo.out _ HB5.out).mono ?_; rintro e w6 ⟨p3, c3, rfl, ho6, hb6⟩; have HB6 : Hid (Below wr.heap.size wr w6) := HB5.out.trans (hb6.mono HB5.out.size); have HS6 : Hid (isShape w6 b un rs) := isShape_below HS5.out hb6; have HO6 : Hid _ := ho6; clear hb6 ho6)
              | (go_at_call 25; refine (cAp.out _ _ _ HB6.out HO6.out).mono ?_; rintro e w7 ⟨rfl, hb7⟩; have HB7 : Hid (Below wr.heap.size wr w7) := HB6.out.trans (hb7.mono HB6.out.size); have HS7 : Hid (isShape w7 b un rs) := isShape_below HS6.out hb7; have HO7 : Hid _ := opAt_grown HO6.out hb7; clear hb7)
              | (go_at_call 12; refine (cFr.out _ _ _ HB7.out HO7.out).mono ?_; rintro e w8 ⟨p4, c4, rfl, ho8, hb8⟩; have HB8 : Hid (Below wr.heap.size wr w8) := HB7.out.trans (hb8.mono HB7.out.size); have HS8 : Hid (isShape w8 b un rs) := isShape_below HS7.out hb8; have HO8 : Hid _ := ho8; clear hb8 ho8)
              | (go_at_call 14; refine (cSm.out _ _ _ HB8.out HO8.out).mono ?_; rintro e w9 ⟨rfl, hb9⟩; have HB9 : Hid (Below wr.heap.size wr w9) := HB8.out.trans (hb9.mono HB8.out.size); have HS9 : Hid (isShape w9 b un rs) := isShape_below HS8.out hb9; clear hb9)
              | (go_at_call 23; refine (cT1.out _ HB9.out).mono ?_; rintro e w10 ⟨rfl, hb10⟩; have HB10 : Hid (Below wr.heap.size wr w10) := HB9.out.trans (hb10.mono HB9.out.size); have HS10 : Hid (isShape w10 b un rs) := isShape_below HS9.out hb10; clear hb10)
              | (go_at_call 24; refine (cTs.out _ _ HB10.out HS10.out).mono ?_; rintro e w11 ⟨rfl, hb11⟩; have HB11 : Hid (Below wr.heap.size wr w11) := HB10.out.trans (hb11.mono HB10.out.size); clear hb11)
              | fail)
            go_ret
            exact ⟨rfl, HBC.out.trans (HB11.out.mono HBC.out.size)⟩
end Go.Proofs.YtldhbjmillfjgabGreatDoor

namespace Go.Proofs.YtldhbjmillfjgabGreatDoor
open Go.RowKit
set_option linter.unusedVariables false

theorem shapeAlike_any (u0 : Int) (s : ByteArray) (v : Value) (ps : List Pt) (raw : Bool) (w : World) (hu0 : -9223372036854775808 ≤ u0 ∧ u0 < 9223372036854775808) (hg : asLaid w) (hT : Lib.Utf8Tabs 2 3 w) (hr : opAt w v ps) (hwf : ∀ p ∈ ps, rangeP p ∧ p.put.length ≤ maxLen) :
    Calls Tryz.prog 4 #[.int .i64 u0, .string s, v, .bool raw] w fun e w' => e = .returned (.bool true) ∧ Below w.heap.size w w' := by
  have es : (ByteArray.mk s.data.toList.toArray) = s := by cases s; simp
  rw [← es]
  generalize s.data.toList = t
  have hp : playWf ps := fun p hp h150 => by
    obtain ⟨⟨r1, r2, r3, r4⟩, _⟩ := hwf p hp
    exact ⟨r1, r2, r3, r4, by omega⟩
  by_cases h : ¬ isDoc t ∨ 60 < ps.length
  · exact alike_none u0 hu0 t v ps raw w hT hr h
  · have h1 : isDoc t := Classical.byContradiction fun e => h (.inl e)
    exact alike_doc u0 hu0 t h1 v ps raw w hg hT hr hp (by
      have : ¬ 60 < ps.length := fun e => h (.inr e)
      omega)
end Go.Proofs.YtldhbjmillfjgabGreatDoor
