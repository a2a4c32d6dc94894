/-
  An operation that is handed in: what it reads as, and how great it is.
  A slice of operations that is handed in: what it reads as.
  A slice of what servers are told, or of clients' moves, that is handed in: three numbers and an operation each.
  rosettalaw.ServerPlays where there is no server.
  One operation told to both servers, within the law's own walk.
  rosettalaw.sameEntries at logs that say the same.
  A region that draws its order, where blocks are written meanwhile: operations that yield one value in every world of a class (that the others keep) are taken first.
  rosettalaw.ServerPlays where there is a server.
  rosettalaw.ServerPlays, at every argument.
-/
import Derived.Test.YtfedgjnhanlmeabGreatDoorPartB
import Derived.Test.YtfedgjnhanlmeabGreatDoorRows
import Derived.Deep.Slices
import Derived.Deep.Strs
import Derived.ChangeSame
import Derived.OpenShut
import Derived.Lib.SmallJoins
import Derived.Test.YtfedgjnhanlmeabGreatDoorPartI
import Derived.Test.YtfedgjnhanlmeabGreatDoorPartG
import Derived.Test.YtfedgjnhanlmeabGreatDoorPartC
import Derived.Deep.QuietTactic
import Derived.BigQuiet
namespace Go.Proofs.YtfedgjnhanlmeabGreatDoor
open Go.RowKit Go.Deep Go.ChangeShapes Go.WideShapes
set_option linter.unusedVariables false

def rangeP (p : Pt) : Prop := -9223372036854775808 ≤ p.keep ∧ p.keep < 9223372036854775808 ∧ -9223372036854775808 ≤ p.drop ∧ p.drop < 9223372036854775808

theorem bulk_part {H : Type} {d : DataW H} {l : List (DataW H)} (h : d ∈ l) : Rows.uptoBulk d ≤ Rows.uptoBulkAll l := by
  induction l with
  | nil => cases h
  | cons x r ih =>
    simp only [Rows.uptoBulkAll]
    rcases List.mem_cons.1 h with e | e
    · subst e; omega
    · have := ih e; omega

theorem cellsOf_part : Tryz.prog.cellsOf 50 = 3 := by kernel_rfl
theorem cellsOf_int : Tryz.prog.cellsOf 3 = 1 := by kernel_rfl
theorem cellsOf_str : Tryz.prog.cellsOf 9 = 1 := by kernel_rfl

theorem open_part {H : Type} {enc : TypeId × Value → H} {W : World} {base : Nat} {sp : Nat → Bool} {held : Bool} {n : Nat} {a : Addr} {cs : List Value} {y : DataW H × List MemPlace}
    (h1 : W.cells? base a 3 = some cs) (h2 : DataW.trod enc Tryz.prog W base sp held n 50 cs = some y) :
    ∃ q : Pt, a.spot = none ∧ W.cell? ⟨a.block, a.off, none⟩ = some (.int .i64 q.keep) ∧ W.cell? ⟨a.block, a.off + 1, none⟩ = some (.int .i64 q.drop) ∧ W.cell? ⟨a.block, a.off + 2, none⟩ = some (.string ⟨q.put.toArray⟩) ∧ rangeP q ∧ q.put.length ≤ maxLen ∧
      y.1 = .agg [.lit (.int .i64 q.keep), .lit (.int .i64 q.drop), .lit (.string q.put)] := by
  obtain ⟨_, hlen, hcell⟩ := World.cells?_some h1
  obtain ⟨y0, y1, y2, m, rfl, _, t0, t1, t2⟩ := trod_struct3 Tryz.underlying50 h2
  rw [cellsOf_int] at t0 t1
  rw [cellsOf_str] at t2
  match cs, hlen with
  | [c0, c1, c2], _ =>
    simp only [List.drop_zero, List.take_succ_cons, List.take_zero, List.drop_succ_cons] at t0 t1 t2
    obtain ⟨K, e0, rfl, w0⟩ := DataW.trod_int Tryz.underlying3 t0
    obtain ⟨D, e1, rfl, w1⟩ := DataW.trod_int Tryz.underlying3 t1
    obtain ⟨s, e2, rfl, w2⟩ := DataW.trod_string Tryz.underlying9 t2
    simp only [List.cons.injEq, and_true] at e0 e1 e2
    subst e0 e1 e2
    obtain ⟨b, o, spot⟩ := a
    have k0 := hcell 0 (by omega)
    have k1 := hcell 1 (by omega)
    have k2 := hcell 2 (by omega)
    have hspot : spot = none := by simpa [Addr.add] using World.cell?_spot (show W.cell? ((⟨b, o, spot⟩ : Addr).add 0) = some (.int .i64 K) from k0)
    subst hspot
    rw [Addr.add_lit] at k0 k1 k2
    have hw0 := bounds_i64 w0
    have hw1 := bounds_i64 w1
    have es : (ByteArray.mk s.data.toList.toArray) = s := by cases s; simp
    refine ⟨⟨K, D, s.data.toList⟩, rfl, k0, k1, by rw [es]; exact k2, ⟨hw0.1, by show K < _; omega, hw1.1, by show D < _; omega⟩, ?_, rfl⟩
    rw [Lib.size_eq] at w2
    exact w2

theorem open_op {H : Type} {enc : TypeId × Value → H} {W : World} {base : Nat} {sp : Nat → Bool} {held : Bool} {fuel : Nat} {v : Value} {x : DataW H × List MemPlace}
    (h : DataW.trod enc Tryz.prog W base sp held fuel 23 [v] = some x) :
    ∃ ps, opAt W v ps ∧ (∀ p ∈ ps, rangeP p ∧ p.put.length ≤ maxLen) ∧ (∀ p ∈ ps, p.put.length ≤ Rows.uptoBulk x.1) ∧ ps.length ≤ maxLen := by
  rcases open_slice Tryz.underlying23 h with ⟨hcs, _⟩ | ⟨a, len, cap, m, n, D, Pl, hcs, hb, hl, hm, hmm, rfl, hx⟩
  · simp only [List.cons.injEq, and_true] at hcs
    subst hcs
    exact ⟨[], ⟨none, 0, rfl, Nat.le_refl _, Nat.zero_le _, fun h => absurd rfl h⟩, by simp, by simp, Nat.zero_le _⟩
  · simp only [List.cons.injEq, and_true] at hcs
    subst hcs
    have hlm : len ≤ m := by rw [hmm]; split <;> omega
    haveI : Inhabited Pt := ⟨⟨0, 0, []⟩⟩
    obtain ⟨f, hf⟩ := choose_lt (α := Pt) (n := len) (p := fun i q => (a.add (i * 3)).spot = none ∧ W.cell? ⟨(a.add (i * 3)).block, (a.add (i * 3)).off, none⟩ = some (.int .i64 q.keep) ∧ W.cell? ⟨(a.add (i * 3)).block, (a.add (i * 3)).off + 1, none⟩ = some (.int .i64 q.drop) ∧ W.cell? ⟨(a.add (i * 3)).block, (a.add (i * 3)).off + 2, none⟩ = some (.string ⟨q.put.toArray⟩) ∧ rangeP q ∧ q.put.length ≤ maxLen ∧
        D i = .agg [.lit (.int .i64 q.keep), .lit (.int .i64 q.drop), .lit (.string q.put)]) (fun i hi => by
      obtain ⟨cs, h1, h2⟩ := hx i (by omega)
      rw [cellsOf_part] at h1
      obtain ⟨q, hq⟩ := open_part h1 h2
      exact ⟨q, hq⟩)
    have hlen : ((List.range len).map f).length = len := by simp
    refine ⟨(List.range len).map f, ⟨some a, cap, by rw [hlen], by rw [hlen]; exact hl, hm, fun hne => ?_⟩, ?_, ?_, by rw [hlen]; omega⟩
    · have hpos : 0 < len := by
        cases len with
        | zero => exact absurd rfl hne
        | succ n => exact Nat.succ_pos n
      obtain ⟨b, o, spot⟩ := a
      have hs0 := (hf 0 hpos).1
      have hspot : spot = none := by simpa [Addr.add] using hs0
      subst hspot
      refine ⟨b, o, rfl, ?_, fun i q hi => ?_⟩
      · have := World.block_lt_of_cell? W _ (hf 0 hpos).2.1
        rw [Addr.add_lit] at this
        exact this
      · have hil : i < len := by have := (List.getElem?_eq_some_iff.1 hi).1; rw [hlen] at this; exact this
        have e : q = f i := by
          rw [List.getElem?_map, List.getElem?_range hil] at hi
          exact (Option.some.inj hi).symm
        subst e
        obtain ⟨_, k0, k1, k2, _⟩ := hf i hil
        rw [Addr.add_lit] at k0 k1 k2
        exact ⟨k0, k1, k2⟩
    · intro p hp
      obtain ⟨i, hi, rfl⟩ := List.mem_map.1 hp
      have := hf i (List.mem_range.1 hi)
      exact ⟨this.2.2.2.2.1, this.2.2.2.2.2.1⟩
    · intro p hp
      obtain ⟨i, hi, rfl⟩ := List.mem_map.1 hp
      have hd := (hf i (List.mem_range.1 hi)).2.2.2.2.2.2
      have h1 : Rows.uptoBulk (D i) ≤ Rows.uptoBulkAll ((List.range len).map D) := bulk_part (List.mem_map.2 ⟨i, hi, rfl⟩)
      rw [hd] at h1
      simp only [Rows.uptoBulk, Rows.uptoBulkAll] at h1 ⊢
      omega
end Go.Proofs.YtfedgjnhanlmeabGreatDoor

namespace Go.Proofs.YtfedgjnhanlmeabGreatDoor
open Go.RowKit Go.Deep Go.ChangeShapes Go.WideShapes
set_option linter.unusedVariables false

/-- Where it is small, its numbers are numbers. -/
def smallWf (q : List Pt) : Prop := ∀ p ∈ q, p.put.length ≤ 300 → wfP p
theorem cellsOf_op : Tryz.prog.cellsOf 23 = 1 := by kernel_rfl
theorem small_of {q : List Pt} (h : ∀ p ∈ q, rangeP p ∧ p.put.length ≤ maxLen) : smallWf q := fun p hp hs => by
  obtain ⟨⟨r1, r2, r3, r4⟩, _⟩ := h p hp
  exact ⟨r1, r2, r3, r4, by omega⟩
end Go.Proofs.YtfedgjnhanlmeabGreatDoor

namespace Go.Proofs.YtfedgjnhanlmeabGreatDoor
open Go.RowKit Go.Deep Go.ChangeShapes Go.WideShapes Go.Joins
set_option linter.unusedVariables false

structure Sa where
  a : Int
  b : Int
  c : Int
  op : List Pt
def isNum (c : Int) : Prop := -9223372036854775808 ≤ c ∧ c < 9223372036854775808
def sayWf (q : Sa) : Prop := (isNum q.a ∧ isNum q.b ∧ isNum q.c) ∧ smallWf q.op
def sayIn (w : World) (b o : Nat) (q : Sa) : Prop := w.cell? ⟨b, o, none⟩ = some (.int .i64 q.a) ∧ w.cell? ⟨b, o + 1, none⟩ = some (.int .i64 q.b) ∧ w.cell? ⟨b, o + 2, none⟩ = some (.int .i64 q.c) ∧ ∃ v', w.cell? ⟨b, o + 3, none⟩ = some v' ∧ opAt w v' q.op
def saysAt (w : World) (v : Value) (l : List Sa) : Prop := ∃ p c, v = .slice p l.length c ∧ l.length ≤ c ∧ c ≤ maxLen ∧ (l ≠ [] → ∃ b o, p = some ⟨b, o, none⟩ ∧ b < w.heap.size ∧ ∀ i q, l[i]? = some q → sayIn w b (o + i * 4) q)
theorem cellsOf_intS : Tryz.prog.cellsOf 3 = 1 := by kernel_rfl
theorem cellsOf_says : Tryz.prog.cellsOf 75 = 4 := by kernel_rfl
theorem open_says1 {H : Type} {enc : TypeId × Value → H} {W : World} {base : Nat} {sp : Nat → Bool} {held : Bool} {n : Nat} {a : Addr} {cs : List Value} {y : DataW H × List MemPlace}
    (h1 : W.cells? base a 4 = some cs) (h2 : DataW.trod enc Tryz.prog W base sp held n 75 cs = some y) :
    ∃ q : Sa, a.spot = none ∧ sayIn W a.block a.off q ∧ sayWf q := by
  obtain ⟨_, hlen, hcell⟩ := World.cells?_some h1
  obtain ⟨y0, y1, y2, y3, m, rfl, _, t0, t1, t2, t3⟩ := trod_struct4 Tryz.underlying75 h2
  rw [cellsOf_intS] at t0 t1 t2
  rw [cellsOf_op] at t3
  match cs, hlen with
  | [c0, c1, c2, c3], _ =>
    simp only [List.drop_zero, List.take_succ_cons, List.take_zero, List.drop_succ_cons] at t0 t1 t2 t3
    obtain ⟨A, e0, rfl, w0⟩ := DataW.trod_int Tryz.underlying3 t0
    obtain ⟨B, e1, rfl, w1⟩ := DataW.trod_int Tryz.underlying3 t1
    obtain ⟨C, e2, rfl, w2⟩ := DataW.trod_int Tryz.underlying3 t2
    obtain ⟨ps, p1, p2, _, _⟩ := open_op t3
    simp only [List.cons.injEq, and_true] at e0 e1 e2
    subst e0 e1 e2
    obtain ⟨b, o, spot⟩ := a
    have k0 := hcell 0 (by omega)
    have k1 := hcell 1 (by omega)
    have k2 := hcell 2 (by omega)
    have k3 := hcell 3 (by omega)
    have hspot : spot = none := by simpa [Addr.add] using World.cell?_spot (show W.cell? ((⟨b, o, spot⟩ : Addr).add 0) = some (.int .i64 A) from k0)
    subst hspot
    rw [Addr.add_lit] at k0 k1 k2 k3
    have num : ∀ {c : Int}, (Lit.int .i64 c).wf = true → isNum c := fun {c} h => by
      unfold isNum
      simp [Lit.wf, IntKind.min, IntKind.max, IntKind.signed, IntKind.bits] at h
      omega
    exact ⟨⟨A, B, C, ps⟩, rfl, ⟨k0, k1, k2, c3, k3, p1⟩, ⟨num w0, num w1, num w2⟩, small_of p2⟩
theorem open_says {H : Type} {enc : TypeId × Value → H} {W : World} {base : Nat} {sp : Nat → Bool} {held : Bool} {fuel : Nat} {v : Value} {x : DataW H × List MemPlace}
    (h : DataW.trod enc Tryz.prog W base sp held fuel 67 [v] = some x) :
    ∃ l, saysAt W v l ∧ ∀ q ∈ l, sayWf q := by
  rcases open_slice Tryz.underlying67 h with ⟨hcs, _⟩ | ⟨a, len, cap, m, n, D, Pl, hcs, hb, hl, hm, hmm, rfl, hx⟩
  · simp only [List.cons.injEq, and_true] at hcs
    subst hcs
    exact ⟨[], ⟨none, 0, rfl, Nat.le_refl _, Nat.zero_le _, fun h => absurd rfl h⟩, by simp⟩
  · simp only [List.cons.injEq, and_true] at hcs
    subst hcs
    have hlm : len ≤ m := by rw [hmm]; split <;> omega
    haveI : Inhabited Sa := ⟨⟨0, 0, 0, []⟩⟩
    obtain ⟨f, hf⟩ := choose_lt (α := Sa) (n := len) (p := fun i q => (a.add (i * 4)).spot = none ∧ sayIn W (a.add (i * 4)).block (a.add (i * 4)).off q ∧ sayWf q) (fun i hi => by
      obtain ⟨cs, h1, h2⟩ := hx i (by omega)
      rw [cellsOf_says] at h1
      exact open_says1 h1 h2)
    have hlen : ((List.range len).map f).length = len := by simp
    refine ⟨(List.range len).map f, ⟨some a, cap, by rw [hlen], by rw [hlen]; exact hl, hm, fun hne => ?_⟩, ?_⟩
    · have hpos : 0 < len := by
        cases len with
        | zero => exact absurd rfl hne
        | succ n => exact Nat.succ_pos n
      obtain ⟨b, o, spot⟩ := a
      have hs0 := (hf 0 hpos).1
      have hspot : spot = none := by simpa [Addr.add] using hs0
      subst hspot
      refine ⟨b, o, rfl, ?_, fun i q hi => ?_⟩
      · have := World.block_lt_of_cell? W _ (hf 0 hpos).2.1.1
        rw [Addr.add_lit] at this
        exact this
      · have hil : i < len := by have := (List.getElem?_eq_some_iff.1 hi).1; rw [hlen] at this; exact this
        have e : q = f i := by
          rw [List.getElem?_map, List.getElem?_range hil] at hi
          exact (Option.some.inj hi).symm
        subst e
        have k := (hf i hil).2.1
        rw [Addr.add_lit] at k
        exact k
    · intro q hq
      obtain ⟨i, hi, rfl⟩ := List.mem_map.1 hq
      exact (hf i (List.mem_range.1 hi)).2.2
end Go.Proofs.YtfedgjnhanlmeabGreatDoor

namespace Go.Proofs.YtfedgjnhanlmeabGreatDoor
open Go.RowKit Go.Maps
set_option linter.unusedVariables false
attribute [local go_sem] Oper.semAt_some

set_option maxRecDepth 100000 in
set_option maxHeartbeats 1000000 in
theorem srvLaw_long (s : List UInt8) (v : Value) (l : List Sa) (w : World) (hr : saysAt w v l) (h : 2100 < s.length ∨ 40 < l.length) :
    Calls Tryz.prog 6 #[.string ⟨s.toArray⟩, v] w fun e w' => e = .returned (.bool true) ∧ Below w.heap.size w w' := by
  have hz : (ByteArray.mk s.toArray).size = s.length := by simp [ByteArray.size]
  obtain ⟨p, c, rfl, r1, r2, _⟩ := hr
  unfold maxLen at r2
  by_cases h1 : 2100 < s.length
  · have h2 : (2100 : Int) < (s.length : Int) := by omega
    clear h
    go_enter Tryz.func6, Tryz.ntmps6
    go_wp2
    go_ret
    exact ⟨rfl, Below.refl _ _⟩
  · have h2 : ¬ (2100 : Int) < (s.length : Int) := by omega
    have h3 : (40 : Int) < (l.length : Int) := by omega
    clear h
    go_enter Tryz.func6, Tryz.ntmps6
    go_wp2
    go_ret
    exact ⟨rfl, Below.refl _ _⟩
set_option maxRecDepth 100000 in
set_option maxHeartbeats 2000000 in
theorem srvLaw_bad (s : List UInt8) (v : Value) (l : List Sa) (w : World) (hg : asLaid w) (hT : Lib.Utf8Tabs 2 3 w) (hr : saysAt w v l) (hs : s.length ≤ 2100) (hl : l.length ≤ 40) (hsc : (scan s).2 = false) :
    Calls Tryz.prog 6 #[.string ⟨s.toArray⟩, v] w fun e w' => e = .returned (.bool true) ∧ Below w.heap.size w w' := by
  have hz : (ByteArray.mk s.toArray).size = s.length := by simp [ByteArray.size]
  obtain ⟨p, c, rfl, r1, r2, _⟩ := hr
  unfold maxLen at r2
  have h2 : ¬ (2100 : Int) < (s.length : Int) := by omega
  have h3 : ¬ (40 : Int) < (l.length : Int) := by omega
  have CN : Hid _ := srvNew_bad s (by omega) hsc w hT
  have cR : Hid (∀ wx, Calls Tryz.prog 36 #[.string ⟨s.toArray⟩] wx fun e w' => e = .returned (.tuple #[.pointer none, .agg #[.int .i64 3, .int .i64 (place s)]]) ∧ Below wx.heap.size wx w') := fun wx => refNew_bad s (by omega) hsc wx
  have HG : Hid (asLaid w) := hg
  generalize place s = PL at *
  clear hg hs hl hsc hT
  go_enter Tryz.func6, Tryz.ntmps6
  go_wp2_with (first
    | (go_at_call 35; refine Calls.mono CN.out ?_; rintro e w1 ⟨x, w0, rfl, hat, hb0, hb1⟩; have HB1 : Hid (Below w.heap.size w w1) := hb1; have HAT : Hid (isAt w w0 x PL) := hat; have HB0 : Hid (Below w0.heap.size w0 w1) := hb0; clear hb1 hb0 hat)
    | (go_at_call 36; refine (cR.out _).mono ?_; rintro e w2 ⟨rfl, hb2⟩; have HB2 : Hid (Below w.heap.size w (w2.alloc (.cells #[.int .i64 3, .int .i64 PL] 28))) := (HB1.out.trans (hb2.mono HB1.out.size)).alloc (Nat.le_trans HB1.out.size hb2.size) _; have HB02 : Hid (Below w0.heap.size w0 (w2.alloc (.cells #[.int .i64 3, .int .i64 PL] 28))) := (HB0.out.trans (hb2.mono HB0.out.size)).alloc (Nat.le_trans HB0.out.size hb2.size) _; clear hb2)
    | (go_at_call 29; refine (is_at (asLaid_below HG.out HB2.out) HAT.out HB02.out).mono ?_; rintro e w3 ⟨rfl, hb3⟩; have HB3 : Hid (Below w.heap.size w w3) := HB2.out.trans (hb3.mono HB2.out.size); clear hb3)
    | fail)
  go_ret
  exact ⟨rfl, HB3.out⟩
set_option maxRecDepth 100000 in
set_option maxHeartbeats 2000000 in
theorem srvLaw_full (s : List UInt8) (v : Value) (l : List Sa) (w : World) (hg : asLaid w) (hT : Lib.Utf8Tabs 2 3 w) (hr : saysAt w v l) (hs : s.length ≤ 2100) (hl : l.length ≤ 40) (hzz : 2000 < s.length) (hsc : (scan s).2 = true) :
    Calls Tryz.prog 6 #[.string ⟨s.toArray⟩, v] w fun e w' => e = .returned (.bool true) ∧ Below w.heap.size w w' := by
  have hz : (ByteArray.mk s.toArray).size = s.length := by simp [ByteArray.size]
  obtain ⟨p, c, rfl, r1, r2, _⟩ := hr
  unfold maxLen at r2
  have h2 : ¬ (2100 : Int) < (s.length : Int) := by omega
  have h3 : ¬ (40 : Int) < (l.length : Int) := by omega
  have CN : Hid _ := srvNew_full s (by omega) hzz hsc w hT
  have cR : Hid (∀ wx, Calls Tryz.prog 36 #[.string ⟨s.toArray⟩] wx fun e w' => e = .returned (.tuple #[.pointer none, .agg #[.int .i64 12, .int .i64 (-1)]]) ∧ Below wx.heap.size wx w') := fun wx => refNew_full s (by omega) hzz hsc wx
  have HG : Hid (asLaid w) := hg
  rw [show errV 12 = .iface 26 (.int .i64 12) from rfl] at CN
  clear hg hs hl hsc hT hzz
  go_enter Tryz.func6, Tryz.ntmps6
  go_wp2_with (first
    | (go_at_call 35; refine Calls.mono CN.out ?_; rintro e w1 ⟨rfl, hb1⟩; have HB1 : Hid (Below w.heap.size w w1) := hb1; clear hb1)
    | (go_at_call 36; refine (cR.out _).mono ?_; rintro e w2 ⟨rfl, hb2⟩; have HB2 : Hid (Below w.heap.size w (w2.alloc (.cells #[.int .i64 12, .int .i64 (-1)] 28))) := (HB1.out.trans (hb2.mono HB1.out.size)).alloc (Nat.le_trans HB1.out.size hb2.size) _; clear hb2)
    | (go_at_call 29; refine (is_any_number 12 _ (asLaid_below HG.out HB2.out)).mono ?_; rintro e w3 ⟨rfl, hb3⟩; have HB3 : Hid (Below w.heap.size w w3) := HB2.out.trans (hb3.mono HB2.out.size); clear hb3)
    | fail)
  go_ret
  exact ⟨rfl, HB3.out⟩
end Go.Proofs.YtfedgjnhanlmeabGreatDoor

namespace Go.Proofs.YtfedgjnhanlmeabGreatDoor
open Go.RowKit Go.Maps
set_option linter.unusedVariables false
attribute [local go_sem] Oper.semAt_some

theorem below_same {lo : Nat} {w w' : World} {S : Nat → Prop} (h : sameBut w w' S) (hS : ∀ k, k < lo → ¬ S k) (hl : lo ≤ w.heap.size) : Below lo w w' :=
  ⟨h.os, h.tape, h.output, h.size, fun k hk => h.block k (Nat.lt_of_lt_of_le hk hl) (hS k hk)⟩
theorem notS_say {lo n : Nat} {w : World} {bm β : Nat} {M : Told} {cs : Array Value} (h : isLast n w bm M) (hb : w.heap[β]? = some (.cells cs 75 (0, 0))) : ¬ touchS lo w bm β := fun e => by
  rcases e.2 with rfl | ⟨cs', T, h1, h2⟩
  · exact noCells_map h _ _ _ hb
  · have := not_type hb h1
    subst this
    rcases h2 with e | e <;> revert e <;> decide
theorem notR_say {lo n : Nat} {w : World} {bm β : Nat} {M : Told} {cs : Array Value} (h : isLast n w bm M) (hb : w.heap[β]? = some (.cells cs 75 (0, 0))) : ¬ touchR lo w bm β := fun e => by
  rcases e.2 with rfl | ⟨cs', T, h1, h2⟩
  · exact noCells_map h _ _ _ hb
  · have := not_type hb h1
    subst this
    rcases h2 with e | e | e <;> revert e <;> decide
theorem noPart_touchS {lo n : Nat} {w : World} {bm k : Nat} {M : Told} (h : isLast n w bm M) (hk : touchS lo w bm k) : lo ≤ k ∧ noPart w k := by
  refine ⟨hk.1, ?_⟩
  rcases hk.2 with rfl | ⟨cs, T, h1, h2⟩
  · exact fun cs fz => noCells_map h cs _ fz
  · exact noPart_of h1 (by rcases h2 with rfl | rfl <;> decide)
/-- Between the two. -/
structure Mid (w w' : World) (k bx bmx y bmy β : Nat) (l0 : Int) (t : List UInt8) (E : List SE) (D : List (List UInt8)) (M : Told) (q : Sa) (v : Value) (cs : Array Value) : Prop where
  srv : isSrv w.heap.size (k + 1) w' bx bmx (stT l0 t E M q.a q.b q.c q.op) (stL l0 t E M q.a q.b q.c q.op) (stM l0 t E M q.a q.b q.c q.op)
  ref : isRef w.heap.size k w' y bmy D E M
  op : opX w.heap.size w' v q.op
  low : Below w.heap.size w w'
  box : w'.heap[β]? = some (.cells cs 75 (0, 0))
theorem putsP_leS : ∀ (qs : List Pt), (∀ q ∈ qs, q.put.length ≤ 300) → putsP qs ≤ 300 * qs.length
  | [], _ => by simp [putsP]
  | q :: qs, h => by
    have ih := putsP_leS qs fun x hx => h x (by simp [hx])
    have := h q (by simp)
    have e : putsP (q :: qs) = q.put.length + putsP qs := by simp [putsP]
    rw [e, List.length_cons]; omega
theorem few_wf {q : Sa} (hq : sayWf q) (hf : fewB q.op = true) : (∀ p ∈ q.op, wfP p) ∧ (∀ p ∈ q.op, p.put.length ≤ 300) ∧ q.op.length ≤ 100 ∧ putsP q.op ≤ 40000 := by
  obtain ⟨h1, h2⟩ := few_small hf
  have := putsP_leS q.op h2
  exact ⟨fun p hp => hq.2 p hp (h2 p hp), h2, h1, by omega⟩
theorem take1 {w w3 : World} {k bx bmx y bmy β : Nat} {l0 : Int} {t : List UInt8} {E : List SE} {D : List (List UInt8)} {M : Told} {q : Sa} {v : Value} {cs : Array Value} (hB : Both w.heap.size k w3 bx bmx y bmy l0 t E D M) (hbw : Below w.heap.size w w3) (hg : asLaid w) (hT : Lib.Utf8Tabs 2 3 w) (hop : opX w.heap.size w3 v q.op) (hq : sayWf q) (hf : fewB q.op = true) (hk : k ≤ 40) (hbox : w3.heap[β]? = some (.cells cs 75 (0, 0)))
    (wx : World) (hb : Below w3.heap.size w3 wx) :
    Calls Tryz.prog 37 #[.pointer (some ⟨bx, 0, none⟩), .int .i64 q.a, .int .i64 q.b, .int .i64 q.c, v] wx fun e w' => e = .returned (errV (stE l0 t E M q.a q.b q.c q.op)) ∧ Mid w w' k bx bmx y bmy β l0 t E D M q v cs := by
  have hB := hB.below hb
  have hbw : Below w.heap.size w wx := hbw.trans (hb.mono hbw.size)
  have hbox := (hb.block β (Array.getElem?_eq_some_iff.1 hbox).1).trans hbox
  have hop := opX_grown hop hb
  obtain ⟨f1, f2, f3, f4⟩ := few_wf hq hf
  have hG : 0 < w.heap.size := World.block_lt_of_cell? w _ hg
  refine (srvTake_any hB.srv hB.ok q.a q.b q.c hq.1.1 v q.op (asLaid_below hg hbw) hG (Go.Proofs.Utf8Tabs_below hT hbw) hop.1 f1 f3 f4 (by have := hB.few; omega) (by omega)).mono ?_
  rintro e w' ⟨rfl, h1, h2⟩
  have hl : isLast k wx bmx M := hB.srv.2.2.2
  refine ⟨rfl, h1, isRef_keep hB.ref hl (Ne.symm hB.apart) h2, opX_same hop h2 fun j _ hj => noPart_touchS hl hj, hbw.trans (below_same h2 (fun j hj e => absurd e.1 (Nat.not_le.2 hj)) hbw.size), ?_⟩
  exact (h2.block β (Array.getElem?_eq_some_iff.1 hbox).1 (notS_say hl hbox)).trans hbox
theorem take2 {w w4 : World} {k bx bmx y bmy β : Nat} {l0 : Int} {t : List UInt8} {E : List SE} {D : List (List UInt8)} {M : Told} {q : Sa} {v : Value} {cs : Array Value} (hM : Mid w w4 k bx bmx y bmy β l0 t E D M q v cs) (happ : bmx ≠ bmy) (hok : okS l0 t E) (hD : okD l0 t E D) (hfew : E.length ≤ k) (hq : sayWf q) (hf : fewB q.op = true) (hk : k ≤ 40) (h1 : 1 ≤ q.b)
    (wx : World) (hb : Below w4.heap.size w4 wx) :
    Calls Tryz.prog 38 #[.pointer (some ⟨y, 0, none⟩), .int .i64 q.a, .int .i64 q.b, .int .i64 q.c, v] wx fun e w' => e = .returned (.int .i64 (stE l0 t E M q.a q.b q.c q.op)) ∧
      Both w.heap.size (k + 1) w' bx bmx y bmy l0 (stT l0 t E M q.a q.b q.c q.op) (stL l0 t E M q.a q.b q.c q.op) (stD l0 t E D M q.a q.b q.c q.op) (stM l0 t E M q.a q.b q.c q.op) ∧ Below w.heap.size w w' ∧ w'.heap[β]? = some (.cells cs 75 (0, 0)) := by
  have hbw : Below w.heap.size w wx := hM.low.trans (hb.mono hM.low.size)
  have hbox := (hb.block β (Array.getElem?_eq_some_iff.1 hM.box).1).trans hM.box
  have hop := opX_grown hM.op hb
  have hS := isSrv_below hM.srv hb
  have hR := isRef_below hM.ref hb
  obtain ⟨f1, f2, f3, f4⟩ := few_wf hq hf
  refine (refTake_any hR hok hD q.a q.b q.c hq.1.1 h1 v q.op hop f1 f2 f3 f4 (by omega) (by omega)).mono ?_
  rintro e w' ⟨rfl, h1, h2⟩
  have hl : isLast k wx bmy M := hR.2.2.2
  obtain ⟨n1, n2, n3⟩ := st_next (c := q.a) (i := q.b) (rev := q.c) (M := M) hok hD f4
  refine ⟨rfl, ⟨isSrv_keep hS hl happ h2, h1, happ, n1, n2, by omega⟩, hbw.trans (below_same h2 (fun j hj e => absurd e.1 (Nat.not_le.2 hj)) hbw.size), ?_⟩
  exact (h2.block β (Array.getElem?_eq_some_iff.1 hbox).1 (notR_say hl hbox)).trans hbox

set_option maxRecDepth 100000 in
theorem refText_quiet {lo n : Nat} {w : World} {b bm : Nat} {D : List (List UInt8)} {E : List SE} {M : Told} (h : isRef lo n w b bm D E M) {l0 : Int} {t : List UInt8} (hD : okD l0 t E D) (hn : E.length ≤ 1000) :
    Calls Tryz.prog 42 #[.pointer (some ⟨b, 0, none⟩)] w fun e w' => e = .returned (.string ⟨t.toArray⟩) ∧ ∃ m, w' = w.drewN m := by
  obtain ⟨_, _, ⟨v0, v1, h3, h30, h4⟩, _⟩ := h
  obtain ⟨p, c, rfl⟩ := own_slice h30
  obtain ⟨g, rfl, _, hc1, hc2, _, hcell⟩ := docs_at h30 hD.last
  have x0 : w.cell? ⟨b, 0, none⟩ = some (.slice (some ⟨g, 0, none⟩) D.length c) := Lib.cell_of_heap h3 0
  rw [hD.len] at x0
  have hni : (E.length : Int) ≤ 1000 := by omega
  generalize E.length = m at *
  clear h3 h30 h4 hD hc1 hc2
  go_enter Tryz.func42, Tryz.ntmps42
  go_wp2
  go_region
  all_goals
    go_wp2
    go_ret
    exact ⟨rfl, by first | exact ⟨1, rfl⟩ | exact ⟨0, rfl⟩⟩
theorem own_low {lo : Nat} {w : World} {v : Value} {ps : List Pt} (h : opAt w v ps) (hl : w.heap.size ≤ lo) : ps ≠ [] → ∀ k, v.ownBlock = some k → k < lo ∨ ∃ cs fz, w.heap[k]? = some (.cells cs 50 fz) := fun hne j hj => by
  obtain ⟨p, c, rfl, _, _, h3⟩ := h
  obtain ⟨b, o, rfl, hb, _⟩ := h3 hne
  obtain rfl : b = j := Option.some.inj hj
  exact .inl (Nat.lt_of_lt_of_le hb hl)
theorem opX_low {w w' : World} {v : Value} {ps : List Pt} (h : opAt w v ps) (hb : Below w.heap.size w w') : opX w.heap.size w' v ps :=
  opX_grown ⟨h, own_low h (Nat.le_refl _)⟩ hb
theorem ops_len {l0 : Int} {t : List UInt8} {E : List SE} (h : okS l0 t E) (r : Nat) : ∀ x ∈ E.drop r, x.op.length < 10000000 := fun x hx => by
  obtain ⟨j, hj, rfl⟩ := List.getElem_of_mem (List.mem_of_mem_drop hx)
  obtain ⟨t1, t2, t3, t4, t5⟩ := chain_at E l0 j hj h.chain h.top
  exact (t2.fine (by omega)).len
theorem below_drewN (w : World) (n : Nat) : Below w.heap.size w (w.drewN n) := ⟨rfl, rfl, rfl, Nat.le_refl _, fun _ _ => rfl⟩
end Go.Proofs.YtfedgjnhanlmeabGreatDoor

namespace Go.Proofs.YtfedgjnhanlmeabGreatDoor
open Go.RowKit Go.Maps
set_option linter.unusedVariables false
attribute [local go_sem] Oper.semAt_some

set_option maxRecDepth 100000 in
set_option maxHeartbeats 2000000 in
theorem Same_quiet (v v' : Value) (ps : List Pt) (w : World) (h1 : opAt w v ps) (h2 : opAt w v' ps) (hl : ps.length < 10000000) :
    Calls Tryz.prog 17 #[v, v'] w fun e w' => e = .returned (.bool true) ∧ ∃ m, w' = w.drewN m := by
  obtain ⟨p1, c1, rfl, a1, a2, a3⟩ := h1
  obtain ⟨p2, c2, rfl, b1, b2, b3⟩ := h2
  obtain ⟨n, hn⟩ : ∃ n, n = ps.length := ⟨_, rfl⟩
  rw [← hn] at a1 b1 hl ⊢
  have HN : Hid (n = ps.length) := hn
  clear hn
  have A3 : Hid (ps ≠ [] → ∃ b o, p1 = some ⟨b, o, none⟩ ∧ b < w.heap.size ∧ ∀ i q, ps[i]? = some q →
    w.cell? ⟨b, o + i * 3, none⟩ = some (.int .i64 q.keep) ∧ w.cell? ⟨b, o + i * 3 + 1, none⟩ = some (.int .i64 q.drop) ∧ w.cell? ⟨b, o + i * 3 + 2, none⟩ = some (.string ⟨q.put.toArray⟩)) := a3
  have B3 : Hid (ps ≠ [] → ∃ b o, p2 = some ⟨b, o, none⟩ ∧ b < w.heap.size ∧ ∀ i q, ps[i]? = some q →
    w.cell? ⟨b, o + i * 3, none⟩ = some (.int .i64 q.keep) ∧ w.cell? ⟨b, o + i * 3 + 1, none⟩ = some (.int .i64 q.drop) ∧ w.cell? ⟨b, o + i * 3 + 2, none⟩ = some (.string ⟨q.put.toArray⟩)) := b3
  clear a3 b3
  go_enter Tryz.func17, Tryz.ntmps17
  go_wp2
  go_loopw [13] (fun i wr => ∃ k : Nat, k ≤ n ∧ i = .int .i64 k ∧ ∃ m, wr = w.drewN m) (fun i _ => n - (intOf i).toNat)
  case atStart => exact ⟨0, Nat.zero_le _, rfl, 0, rfl⟩
  case round =>
    obtain ⟨k, hk, rfl, m, rfl⟩ := hrel
    by_cases hlt : k < n
    · have hkr : k < ps.length := by rw [← HN.out]; exact hlt
      have hne : ps ≠ [] := by intro e; rw [e] at hkr; exact absurd hkr (Nat.not_lt_zero _)
      obtain ⟨x1, o1, rfl, hx1, hc1⟩ := A3.out hne
      obtain ⟨x2, o2, rfl, hx2, hc2⟩ := B3.out hne
      obtain ⟨d0, d1, d2⟩ := hc1 k ps[k] (List.getElem?_eq_getElem hkr)
      obtain ⟨e0, e1, e2⟩ := hc2 k ps[k] (List.getElem?_eq_getElem hkr)
      have g0 := d0
      have g1 := d1
      have g2 := d2
      have g3 := e0
      have g4 := e1
      have g5 := e2
      generalize ps[k] = q at *
      obtain ⟨K, D, U⟩ := q
      simp only at g0 g1 g2 g3 g4 g5
      clear hc1 hc2 A3 B3 hne d0 d1 d2 e0 e1 e2
      go_wp2
      go_region
      all_goals
        go_wp2
        go_roundw
        case rel => exact ⟨k + 1, by omega, by go_num, m + 1, rfl⟩
        case measure => simp [intOf]; omega
    · clear A3 B3
      go_wp2
      go_ret
      exact ⟨rfl, m, rfl⟩
theorem opAt_cells {w wx : World} {v : Value} {ps : List Pt} (h : opAt w v ps) (hb : ∀ p, wx.cell? p = w.cell? p) (hs : wx.heap.size = w.heap.size) : opAt wx v ps := by
  obtain ⟨p, c, h1, h2, h3, h4⟩ := h
  refine ⟨p, c, h1, h2, h3, fun hne => ?_⟩
  obtain ⟨b, o, g1, g2, g3⟩ := h4 hne
  exact ⟨b, o, g1, by rw [hs]; exact g2, fun i q hi => by rw [hb, hb, hb]; exact g3 i q hi⟩
set_option maxRecDepth 100000 in
set_option maxHeartbeats 4000000 in
theorem same_entries (lo : Nat) (w : World) (p1 p2 : Option Addr) (n1 n2 c1 c2 : Nat) (E : List SE) (h1 : logAt lo w p1 n1 c1 E) (h2 : logAt lo w p2 n2 c2 E) (hn : E.length ≤ 1000) (hl : ∀ x ∈ E, x.op.length < 10000000) :
    Calls Tryz.prog 44 #[.slice p1 n1 c1, .slice p2 n2 c2] w fun e w' => e = .returned (.bool true) ∧ ∃ m, w' = w.drewN m := by
  obtain ⟨rfl, a2, a3, a4⟩ := h1
  obtain ⟨rfl, b2, b3, b4⟩ := h2
  have A4 : Hid _ := a4
  have B4 : Hid _ := b4
  have HL : Hid (∀ x ∈ E, x.op.length < 10000000) := hl
  have hni : (E.length : Int) ≤ 1000 := by omega
  clear a4 b4 hl
  go_enter Tryz.func44, Tryz.ntmps44
  go_wp2
  go_loopw [5] (fun i wr => ∃ k : Nat, i = .int .i64 k ∧ k ≤ E.length ∧ ∃ m, wr = w.drewN m) (fun i _ => E.length - (intOf i).toNat)
  case atStart => exact ⟨0, rfl, Nat.zero_le _, 0, rfl⟩
  case round =>
    obtain ⟨k, rfl, hk, m, hwm⟩ := hrel
    have HWM : Hid (wr = w.drewN m) := hwm
    by_cases hlt : k < E.length
    · have hne : E ≠ [] := by intro e; rw [e] at hlt; exact absurd hlt (Nat.not_lt_zero _)
      obtain ⟨x1, o1, ePP, hx1, hc1⟩ := A4.out hne
      obtain ⟨x2, o2, eQQ, hx2, hc2⟩ := B4.out hne
      subst ePP eQQ
      obtain ⟨v1, d0, d1, d2, d3⟩ := hc1 k E[k] (List.getElem?_eq_getElem hlt)
      obtain ⟨v2, e0, e1, e2, e3⟩ := hc2 k E[k] (List.getElem?_eq_getElem hlt)
      have g0 := (show wr.cell? _ = w.cell? _ by rw [hwm]; rfl).trans d0
      have g1 := (show wr.cell? _ = w.cell? _ by rw [hwm]; rfl).trans d1
      have g2 := (show wr.cell? _ = w.cell? _ by rw [hwm]; rfl).trans d2
      have g3 := (show wr.cell? _ = w.cell? _ by rw [hwm]; rfl).trans e0
      have g4 := (show wr.cell? _ = w.cell? _ by rw [hwm]; rfl).trans e1
      have g5 := (show wr.cell? _ = w.cell? _ by rw [hwm]; rfl).trans e2
      have hki : (k : Int) < (E.length : Int) := by omega
      have CS : Hid (∀ wx : World, (∀ p, wx.cell? p = w.cell? p) → wx.heap.size = w.heap.size → Calls Tryz.prog 17 #[v1, v2] wx fun e w' => e = .returned (.bool true) ∧ ∃ m, w' = wx.drewN m) := fun wx hb hs => Same_quiet v1 v2 E[k].op wx (opAt_cells d3.1 hb hs) (opAt_cells e3.1 hb hs) (HL.out _ (List.getElem_mem hlt))
      have hsh : ∃ p c, v1 = .slice p E[k].op.length c := by obtain ⟨p, c, e, _⟩ := d3.1; exact ⟨p, c, e⟩
      obtain ⟨pv1, cv1, rfl⟩ := hsh
      have hsh : ∃ p c, v2 = .slice p E[k].op.length c := by obtain ⟨p, c, e, _⟩ := e3.1; exact ⟨p, c, e⟩
      obtain ⟨pv2, cv2, rfl⟩ := hsh
      generalize E[k].op.length = L1 at *
      generalize E[k] = q at *
      obtain ⟨xc, xi, xo⟩ := q
      simp only at g0 g1 g3 g4
      clear hc1 hc2 hne d0 d1 d2 d3 e0 e1 e2 e3 hwm
      go_wp2
      go_quiet ((go_at_call 17; exact Calls.quiet_of (CS.out _ (fun p => (show wr.cell? p = w.cell? p by rw [HWM.out]; rfl)) (show wr.heap.size = w.heap.size by rw [HWM.out]; rfl))))
      go_wp2
      go_roundw
      case rel => exact ⟨k + 1, by go_num, by omega, m + nq, by rw [HWM.out, World.drewN_drewN]⟩
      case measure => simp [intOf]; omega
    · obtain rfl : k = E.length := by omega
      have hki : ¬ ((E.length : Int) < (E.length : Int)) := by omega
      clear hwm
      go_wp2
      go_ret
      exact ⟨rfl, m, HWM.out⟩
end Go.Proofs.YtfedgjnhanlmeabGreatDoor

namespace Go.Proofs.YtfedgjnhanlmeabGreatDoor
open Go.RowKit
set_option linter.unusedVariables false

/-- G gives just the worlds of the class; what has grown is of it, too. -/
structure GrowZ (Z : World → Prop) (G : World → World) : Prop where
  grow : ∀ {w w' : World}, Z w → Below w.heap.size w w' → Z w'
  but : ∀ x, Z (G x)
  onto : ∀ w, Z w → G w = w
open Classical in
theorem exists_growZ {Z : World → Prop} {W : World} (hW : Z W) (h : ∀ {w w' : World}, Z w → Below w.heap.size w w' → Z w') : ∃ G, GrowZ Z G :=
  ⟨fun x => if Z x then x else W, h, fun x => by
    show Z (if Z x then x else W)
    split
    · assumption
    · exact hW, fun w h => if_pos h⟩

section
variable {P : Program} {ops : Array Oper} {md : Region.Mode} {m : Nat} {Z : World → Prop} {Q : Exit → Act → World → Prop}

def anyZ (Z : World → Prop) (P : Program) (md : Region.Mode) (ops : Array Oper) (m : Nat) (Q : Exit → Act → World → Prop) : Nat → Array Bool → Act → World → Prop
  | 0, listed, a, w => Region.ready md ops listed = [] ∧ ∀ w', Below w.heap.size w w' → Q .normal a w'
  | fuel + 1, listed, a, w =>
    (Region.ready md ops listed = [] → ∀ w', Below w.heap.size w w' → Q .normal a w') ∧
    ∀ i ∈ Region.ready md ops listed, ∀ w', Below w.heap.size w w' → opG P ops i (fun a' w'' => (i < m → Z w' → Z w'') ∧ anyZ Z P md ops m Q fuel (listed.setIfInBounds i true) a' w'') a w'

theorem any_of_anyZ : ∀ (fuel : Nat) (listed : Array Bool) (a : Act) (w : World), anyZ Z P md ops m Q fuel listed a w → wpAny P md ops Q fuel listed a w
  | 0, _, _, w, h => ⟨h.1, h.2 w (Below.refl _ _)⟩
  | fuel + 1, listed, a, w, h => ⟨fun h0 => h.1 h0 w (Below.refl _ _), fun i hi => by
      have h1 := h.2 i hi w (Below.refl _ _)
      have h2 := opG_mono (fun a' w'' hh => any_of_anyZ fuel _ a' w'' hh.2) h1
      unfold opG at h2
      unfold wpOp
      split
      · rename_i ho; simp only [ho] at h2; exact h2
      · rename_i o ho
        simp only [ho] at h2
        split
        · rename_i hw; simp only [hw, if_true] at h2; exact .inl (upon_of_ok h2)
        · rename_i hw; simp only [hw] at h2; exact h2⟩
theorem anyZ_later : ∀ {fuel : Nat} {listed : Array Bool} {a : Act} {w w2 : World}, anyZ Z P md ops m Q fuel listed a w → Below w.heap.size w w2 → anyZ Z P md ops m Q fuel listed a w2
  | 0, _, _, _, _, h, hb => ⟨h.1, fun w' hb' => h.2 w' (hb.trans (hb'.mono hb.size))⟩
  | _ + 1, _, _, _, _, h, hb => ⟨fun h0 w' hb' => h.1 h0 w' (hb.trans (hb'.mono hb.size)), fun i hi w' hb' => h.2 i hi w' (hb.trans (hb'.mono hb.size))⟩

def yieldsZ (Z : World → Prop) (P : Program) (ops : Array Oper) (o : Oper) (v : Value) (a : Act) : Prop :=
  if Region.wanted o (yielded ops a.tmps) then ∀ w', Z w' → yieldsUpon P w' v ((execOp a.eval o).run P w') else v = undef
theorem yieldsZ_same {o : Oper} {v : Value} {a a' : Act} (hy : yieldsZ Z P ops o v a) (he : execOp a'.eval o = execOp a.eval o)
    (hw : Region.wanted o (yielded ops a'.tmps) = Region.wanted o (yielded ops a.tmps)) : yieldsZ Z P ops o v a' := by
  unfold yieldsZ at *
  rw [hw, he]
  exact hy

theorem opG_of_yieldsZ {i : Nat} {o : Oper} {v : Value} {a : Act} {w' : World} (hi : ops[i]? = some o) (hy : yieldsZ Z P ops o v a) (hb : Z w') {K : Act → World → Prop}
    (h : ∀ w'', Below w'.heap.size w' w'' → K (a.put o.dst v) w'') : opG P ops i K a w' := by
  unfold opG
  simp only [hi]
  unfold yieldsZ at hy
  split
  · rename_i hw
    rw [if_pos hw] at hy
    have h3 := hy w' hb
    generalize (execOp a.eval o).run P w' = r at *
    cases r with
    | ok n w2 =>
      cases n <;> simp only [yieldsUpon] at h3 <;> simp only [okUpon]
      case value u =>
        obtain ⟨e1, e2⟩ := h3
        rw [e2]
        exact h _ (by rw [e1]; exact Below.refl _ _)
      case skip =>
        obtain ⟨e1, e2⟩ := h3
        rw [← e2]
        exact h _ (by rw [e1]; exact Below.refl _ _)
      case enter f args =>
        obtain ⟨e1, hc⟩ := h3
        rw [e1]
        exact hc.mono fun e w'' ⟨he, hw''⟩ => ⟨v, he, h _ hw''⟩
    | halt x w2 => simp only [yieldsUpon] at h3
  · rename_i hw
    rw [if_neg hw] at hy
    rw [← hy]
    exact h _ (Below.refl _ _)

theorem opG_putZ {j : Nat} {oi oj : Oper} {v : Value} (hj : ops[j]? = some oj) (hap : oi.apart ops oj = true) (hsi : ∀ cs b, oi.op ≠ .select cs b) (hsj : ∀ cs b, oj.op ≠ .select cs b)
    {K : Act → World → Prop} {a : Act} {w : World} (hy : yieldsZ Z P ops oi v a) (h : opG P ops j K (a.put oi.dst v) w) :
    opG P ops j (fun a' w' => yieldsZ Z P ops oi v a' ∧ K (a'.put oi.dst v) w') a w := by
  obtain ⟨h1, h2, h3⟩ := Oper.apart_spec hap
  have keep : ∀ u, yieldsZ Z P ops oi v (a.put oj.dst u) := fun u => yieldsZ_same hy (execOp_put oi hsi a oj.dst u h3) (wanted_put oi a oj.dst u h3)
  unfold opG at *
  simp only [hj] at *
  rw [wanted_put oj a oi.dst v h1] at h
  split
  · rename_i hw
    simp only [hw, if_true] at h
    rw [execOp_put oj hsj a oi.dst v h1] at h
    generalize (execOp a.eval oj).run P w = r at *
    cases r with
    | ok n w2 =>
      cases n <;> simp only [okUpon] at h ⊢
      case value u => exact ⟨keep u, by rw [← Act.put_comm a v u h2]; exact h⟩
      case skip => exact ⟨keep _, by rw [← Act.put_comm a v undef h2]; exact h⟩
      case enter f args => exact h.mono fun e w'' ⟨u, e1, e2⟩ => ⟨u, e1, keep u, by rw [← Act.put_comm a v u h2]; exact e2⟩
    | halt x w2 => simp only [okUpon] at h
  · rename_i hw
    simp only [hw] at h
    exact ⟨keep _, by rw [← Act.put_comm a v undef h2]; exact h⟩

theorem anyZ_first (hZ : ∀ {w w' : World}, Z w → Below w.heap.size w w' → Z w') {i : Nat} {oi : Oper} {v : Value} (hi : ops[i]? = some oi) (him : i < m) (hsel : ∀ (j : Nat) (o : Oper) cs b, ops[j]? = some o → o.op ≠ .select cs b) (hlate : lateOk md ops m = true) :
    ∀ (fuel : Nat) (listed : Array Bool) (a : Act) (w : World), Z w →
      (∀ j oj, ops[j]? = some oj → j ≠ i → listed.getD j true = false → (∀ e ∈ oj.after, Region.binds md e = true → e.on ≠ i) → oi.apart ops oj = true) →
      i ∈ Region.ready md ops listed → yieldsZ Z P ops oi v a →
      anyZ Z P md ops m Q fuel (listed.setIfInBounds i true) (a.put oi.dst v) w → anyZ Z P md ops m Q (fuel + 1) listed a w := by
  intro fuel
  induction fuel with
  | zero =>
    intro listed a w hC _ hr hy H
    refine ⟨fun h => (by rw [h] at hr; cases hr), fun j hj w' hb => ?_⟩
    by_cases hji : j = i
    · subst hji; exact opG_of_yieldsZ hi hy (hZ hC hb) fun w'' hb' => ⟨fun _ h => hZ h hb', anyZ_later H (hb.trans (hb'.mono hb.size))⟩
    · have := ready_mono hj hji
      rw [H.1] at this
      cases this
  | succ fuel ih =>
    intro listed a w hC hfree hr hy H
    refine ⟨fun h => (by rw [h] at hr; cases hr), fun j hj w' hb => ?_⟩
    have hC' := hZ hC hb
    by_cases hji : j = i
    · subst hji; exact opG_of_yieldsZ hi hy hC' fun w'' hb' => ⟨fun _ h => hZ h hb', anyZ_later H (hb.trans (hb'.mono hb.size))⟩
    · have h1 := H.2 j (ready_mono hj hji) w' hb
      obtain ⟨hjun, oj, hoj, hall⟩ := mem_ready.1 hj
      have hnot : ∀ e ∈ oj.after, Region.binds md e = true → e.on ≠ i := fun e he hb heq => by
        have h1 := hall e he hb
        have h0 := (mem_ready.1 hr).1
        rw [heq] at h1
        rcases Nat.lt_or_ge i listed.size with h' | h'
        · simp [h'] at h0 h1; rw [h0] at h1; cases h1
        · simp [Array.getElem?_eq_none h'] at h1
      have hjm : j < m := by
        by_cases hjm : j < m
        · exact hjm
        · obtain ⟨e, he, hb, hon⟩ := lateOk_spec hlate hoj hjm him
          exact absurd hon (hnot e he hb)
      have h2 := opG_putZ hoj (hfree j oj hoj hji hjun hnot) (fun cs b => hsel i oi cs b hi) (fun cs b => hsel j oj cs b hoj) hy h1
      have hfree' : ∀ k ok, ops[k]? = some ok → k ≠ i → (listed.setIfInBounds j true).getD k true = false →
          (∀ e ∈ ok.after, Region.binds md e = true → e.on ≠ i) → oi.apart ops ok = true := fun k ok hk hki hun hno => by
        refine hfree k ok hk hki ?_ hno
        by_cases hjk : j = k
        · subst hjk; exact hjun
        · rw [getD_set_ne true hjk] at hun; exact hun
      refine opG_mono (fun a' w'' h3 => ?_) h2
      obtain ⟨h3y, h3g, h3a⟩ := h3
      refine ⟨fun _ => h3g hjm, ih (listed.setIfInBounds j true) a' w'' (h3g hjm hC') hfree' (ready_mono hr (Ne.symm hji)) h3y ?_⟩
      rw [Array.setIfInBounds_comm _ _ hji]
      exact h3a

theorem anyZ_step {i fuel : Nat} {o : Oper} {listed : Array Bool} {a : Act} {w : World} {G : World → World} (hG : GrowZ Z G) (hw0 : Z w) (hi : ops[i]? = some o) (him : decide (i < m) = true) (hs : (Region.noSelect ops && lateOk md ops m) = true)
    (hf : (Region.free md ops listed i && (Region.ready md ops listed).contains i) = true)
    (h : ∀ K : Act → Prop, (∀ a, anyZ Z P md ops m Q fuel (listed.setIfInBounds i true) a w → K a) → if Region.wanted o (yielded ops a.tmps) then ∃ v, (∀ x, yieldsUpon P (G x) v ((execOp a.eval o).run P (G x))) ∧ K (a.put o.dst v) else K (a.put o.dst undef)) :
    anyZ Z P md ops m Q (fuel + 1) listed a w := by
  have h1 := h _ fun _ h => h
  have him' : i < m := of_decide_eq_true him
  rw [Bool.and_eq_true] at hs hf
  split at h1
  · rename_i hw
    obtain ⟨v, h2, h3⟩ := h1
    refine anyZ_first hG.grow hi him' (Region.noSelect_spec hs.1) hs.2 fuel listed a w hw0 (Region.free_spec hi hf.1) (by simpa using hf.2) ?_ h3
    unfold yieldsZ
    rw [if_pos hw]
    intro w' hb
    have := h2 w'
    rw [hG.onto w' hb] at this
    exact this
  · rename_i hw
    refine anyZ_first hG.grow hi him' (Region.noSelect_spec hs.1) hs.2 fuel listed a w hw0 (Region.free_spec hi hf.1) (by simpa using hf.2) ?_ h1
    unfold yieldsZ
    rw [if_neg hw]

/-- One of those that may come up: what is asked of it. -/
def askZ (Z : World → Prop) (P : Program) (md : Region.Mode) (ops : Array Oper) (m : Nat) (Q : Exit → Act → World → Prop) (fuel : Nat) (listed : Array Bool) (a : Act) (w : World) (i : Nat) : Prop :=
  ∃ o, ops[i]? = some o ∧ ∀ w', Below w.heap.size w w' → ∀ K : Act → World → Prop, (∀ a' w'', (Z w' → Z w'') → anyZ Z P md ops m Q fuel (listed.setIfInBounds i true) a' w'' → K a' w'') → if Region.wanted o (yielded ops a.tmps) then okUpon P o a K ((execOp a.eval o).run P w') else K (a.put o.dst undef) w'
theorem anyZ_one {i fuel : Nat} {listed : Array Bool} {a : Act} {w : World} (hr : Region.ready md ops listed = [i]) (h : askZ Z P md ops m Q fuel listed a w i) : anyZ Z P md ops m Q (fuel + 1) listed a w := by
  obtain ⟨o, hi, h⟩ := h
  refine ⟨fun h0 => absurd (hr.symm.trans h0) (by simp), fun j hj w' hb => ?_⟩
  rw [hr, List.mem_singleton] at hj
  subst hj
  unfold opG
  simp only [hi]
  exact h w' hb _ fun a' w'' hb' ha => ⟨fun _ => hb', ha⟩
theorem anyZ_end {fuel : Nat} {listed : Array Bool} {a : Act} {w : World} (hr : Region.ready md ops listed = []) (h : ∀ w', Below w.heap.size w w' → Q .normal a w') : anyZ Z P md ops m Q fuel listed a w := by
  cases fuel with
  | zero => exact ⟨hr, h⟩
  | succ n => exact ⟨fun _ => h, fun i hi => (by rw [hr] at hi; cases hi)⟩
theorem wp_region_set {id : Nat} {a : Act} {w : World} {l : List Oper} (Z : World → Prop) (m n : Nat) (hm : P.follows .mixedOrders = true) (hn : l.length = n)
    (h : ∀ w', Below w.heap.size w w' → anyZ Z P .any l.toArray m Q n (Array.replicate n false) a w') : (Code.region id l.toArray true).wp P Q a w :=
  wp_region_any hm (any_of_anyZ (Z := Z) _ _ _ _ (by subst hn; simpa using h { w with drawn := w.drawn + 1 } (Below.drew (Below.refl _ w))))
end
end Go.Proofs.YtfedgjnhanlmeabGreatDoor

namespace Go.Proofs.YtfedgjnhanlmeabGreatDoor
open Go.RowKit Go.Maps
set_option linter.unusedVariables false
attribute [local go_sem] Oper.semAt_some yieldsUpon okUpon

theorem twoIx0 (a b : Int) (w : World) : (Instr.index 85 (.agg #[.int .i64 a, .int .i64 b]) (.int .i64 0)).run Tryz.prog w = .ok (.int .i64 a) w := by kernel_rfl
theorem twoIx1 (a b : Int) (w : World) : (Instr.index 85 (.agg #[.int .i64 a, .int .i64 b]) (.int .i64 1)).run Tryz.prog w = .ok (.int .i64 b) w := by kernel_rfl
attribute [local go_sem] twoIx0 twoIx1
theorem from_any (qc : Int) (n : Nat) (hn : n ≤ 100) : ∃ r : Nat, wrap64 ((IntKind.u64.wrap qc).tmod ((n : Int) + 1)) = (r : Int) ∧ r ≤ n := by
  have h0 : 0 ≤ IntKind.u64.wrap qc := by rw [IntKind.wrap_u64]; omega
  generalize IntKind.u64.wrap qc = X at *
  rw [Int.tmod_eq_emod_of_nonneg h0]
  have h1 := Int.emod_nonneg X (show ((n : Int) + 1) ≠ 0 by omega)
  have h2 := Int.emod_lt_of_pos X (show (0 : Int) < (n : Int) + 1 by omega)
  refine ⟨(X % ((n : Int) + 1)).toNat, ?_, by omega⟩
  rw [wrap64_small (by omega) (by omega)]
  omega
def srvI (w : World) (bx bmx y bmy : Nat) (l0 : Int) (k : Nat) (wr : World) : Prop := ∃ t E D M, Both w.heap.size k wr bx bmx y bmy l0 t E D M ∧ Below w.heap.size w wr
theorem both_begun {w w1 w2 : World} {s : List UInt8} (hV : V s) (hs : s.length ≤ 2000) {bx bmx y bmy : Nat} (h1 : isSrv w.heap.size 0 w1 bx bmx s [] (fun _ => none)) (hm : bmx < w1.heap.size) (h2 : isRef w.heap.size 0 w2 y bmy [s] [] (fun _ => none)) (hy : w1.heap.size ≤ bmy) (hb : Below w1.heap.size w1 w2) :
    Both w.heap.size 0 w2 bx bmx y bmy (s.length : Int) s [] [s] (fun _ => none) :=
  ⟨isSrv_below h1 hb, h2, by omega, ⟨hV, hs, by omega, by omega, trivial, rfl⟩, ⟨rfl, fun k hk => by obtain rfl : k = 0 := Nat.le_zero.1 hk; exact ⟨s, rfl, rfl⟩, rfl⟩, Nat.le_refl _⟩

set_option maxRecDepth 100000 in
set_option maxHeartbeats 4000000 in
theorem srvLaw_good (s : List UInt8) (v : Value) (l : List Sa) (w : World) (hg : asLaid w) (hT : Lib.Utf8Tabs 2 3 w) (hr : saysAt w v l) (hwf : ∀ q ∈ l, sayWf q) (hs : s.length ≤ 2000) (hl : l.length ≤ 40) (hsc : (scan s).2 = true) :
    Calls Tryz.prog 6 #[.string ⟨s.toArray⟩, v] w fun e w' => e = .returned (.bool true) ∧ Below w.heap.size w w' := by
  have hz : (ByteArray.mk s.toArray).size = s.length := by simp [ByteArray.size]
  have HG : Hid (asLaid w) := hg
  have HT : Hid (Lib.Utf8Tabs 2 3 w) := hT
  have HOP : Hid (saysAt w v l) := hr
  have HWF : Hid (∀ q ∈ l, sayWf q) := hwf
  have CN : Hid _ := srvNew_good w.heap.size s hs hsc w (Nat.le_refl _) hT
  have CR : Hid (∀ (wx : World), w.heap.size ≤ wx.heap.size → _) := fun wx h => refNew_good w.heap.size s hs hsc wx h
  have HV : Hid (V s) := V_of_scan hsc
  have HSZ : Hid (s.length ≤ 2000) := hs
  obtain ⟨p, c, rfl, r1, r2, r3⟩ := hr
  obtain ⟨N, hN⟩ : ∃ N, l.length = N := ⟨_, rfl⟩
  rw [hN] at r1 hl ⊢
  have HN : Hid (l.length = N) := hN
  unfold maxLen at r2
  have h2 : ¬ (2100 : Int) < (s.length : Int) := by omega
  have h3 : ¬ (40 : Int) < (N : Int) := by omega
  have hNi : (N : Int) ≤ 40 := by omega
  clear hg hT hwf hsc r3 hN hs
  go_enter Tryz.func6, Tryz.ntmps6
  go_wp2_with (first
    | (go_at_call 35; refine Calls.mono CN.out ?_; rintro e w1 ⟨bx, bmx, rfl, hs1, hbm1, hb1⟩; have HB1 : Hid (Below w.heap.size w w1) := hb1; have HS1 : Hid (isSrv w.heap.size 0 w1 bx bmx s [] (fun _ => none)) := hs1; have HM1 : Hid (bmx < w1.heap.size) := hbm1; clear hs1 hbm1 hb1)
    | (go_at_call 36; refine (CR.out _ HB1.out.size).mono ?_; rintro e w2 ⟨y, bmy, rfl, hs2, hbm2, hb2⟩; have HB2 : Hid (Below w.heap.size w w2) := HB1.out.trans (hb2.mono HB1.out.size); have HBB : Hid (Both w.heap.size 0 w2 bx bmx y bmy (s.length : Int) s [] [s] (fun _ => none)) := both_begun HV.out HSZ.out HS1.out HM1.out hs2 hbm2 hb2; clear hs2 hbm2 hb2)
    | fail)
  have HST : Hid (srvI w bx bmx y bmy (s.length : Int) 0 (w2.alloc (.cells #[.int .i64 0, .int .i64 (-1)] 28))) := ⟨s, [], [s], fun _ => none, HBB.out.below ((Below.refl _ _).alloc (Nat.le_refl _) _), HB2.out.alloc HB2.out.size _⟩
  generalize w2.alloc (.cells #[.int .i64 0, .int .i64 (-1)] 28) = W2 at *
  clear CN CR HV HB1 HS1 HM1 HB2 HBB
  go_loopw [9] (fun i wr => ∃ k : Nat, i = .int .i64 k ∧ k ≤ N ∧ srvI w bx bmx y bmy (s.length : Int) k wr) (fun i _ => N - (intOf i).toNat)
  case atStart => exact ⟨0, rfl, Nat.zero_le _, HST.out⟩
  case round =>
    obtain ⟨k, rfl, hk, t, E, D, M, hB, hbw⟩ := hrel
    clear HST
    have HBO : Hid (Both w.heap.size k wr bx bmx y bmy (s.length : Int) t E D M) := hB
    have HBW : Hid (Below w.heap.size w wr) := hbw
    have hki : (k : Int) ≤ 40 := by omega
    clear hB hbw
    by_cases hlt : k < N
    case neg =>
      obtain rfl : k = N := by omega
      have hn : ¬ ((k : Int) < (k : Int)) := by omega
      have hB := HBO.out
      have hEl : E.length ≤ 40 := by have := hB.few; omega
      have hEi : (E.length : Int) ≤ 40 := by omega
      have CB2 : Hid (∀ wx, Below w.heap.size w wx → Calls Tryz.prog 16 #[.iface 26 (.int .i64 2), .int .i64 2] wx fun e w' => e = .returned (.bool true) ∧ Below wx.heap.size wx w') := fun wx hb => bare_any 2 wx (asLaid_below HG.out hb)
      have CL1 : Hid (∀ wx, Below wr.heap.size wr wx → Calls Tryz.prog 43 #[.pointer (some ⟨bx, 0, none⟩), .int .i64 (-1)] wx fun e w' => e = .returned (.tuple #[.slice none 0 0, .iface 26 (.int .i64 2)]) ∧ Below wx.heap.size wx w') := fun wx hb => srvLog_bad (isSrv_below hB.srv hb) (-1) (.inl (by omega))
      have CL2 : Hid (∀ wx, Below wr.heap.size wr wx → Calls Tryz.prog 43 #[.pointer (some ⟨bx, 0, none⟩), .int .i64 ((E.length : Int) + 1)] wx fun e w' => e = .returned (.tuple #[.slice none 0 0, .iface 26 (.int .i64 2)]) ∧ Below wx.heap.size wx w') := fun wx hb => srvLog_bad (isSrv_below hB.srv hb) _ (.inr (by omega))
      obtain ⟨_, _, ⟨v0, v1, h3, h30, h4⟩, h5⟩ := hB.ref
      obtain ⟨p1, c1, rfl⟩ := isLog_shape h4
      have m1 : wr.cell? ⟨y, 1, none⟩ = some (.slice p1 E.length c1) := Lib.cell_of_heap h3 1
      clear hlt h3 h30 h4 h5 hB
      go_wp2_with (first
        | (have _ := HB3; go_at_call 16; refine (CB2.out _ HB3.out).mono ?_; rintro e w4 ⟨rfl, hb4⟩; have HB4 : Hid (Below w.heap.size w w4) := HB3.out.trans (hb4.mono HB3.out.size); clear hb4)
        | (have _ := HB2; go_at_call 16; refine (CB2.out _ HB2.out).mono ?_; rintro e w3 ⟨rfl, hb3⟩; have HB3 : Hid (Below w.heap.size w w3) := HB2.out.trans (hb3.mono HB2.out.size); clear hb3)
        | (have _ := HB01; go_at_call 43; refine (CL2.out _ HB01.out).mono ?_; rintro e w2' ⟨rfl, hb2⟩; have HB2 : Hid (Below w.heap.size w w2') := HBW.out.trans ((HB01.out.trans (hb2.mono HB01.out.size)).mono HBW.out.size); clear hb2)
        | (go_at_call 43; refine (CL1.out _ (Below.refl _ _)).mono ?_; rintro e w1' ⟨rfl, hb1⟩; have HB01 : Hid (Below wr.heap.size wr w1') := hb1; have m1' : w1'.cell? ⟨y, 1, none⟩ = some (.slice p1 E.length c1) := (hb1.cell (p := ⟨y, 1, none⟩) (World.block_lt_of_cell? wr _ m1)).trans m1; clear hb1)
        | fail)
      go_ret
      exact ⟨rfl, HB4.out⟩
    case pos =>
      have hle : (k : Int) < (N : Int) := by omega
      have hkl : k < l.length := by have := HN.out; omega
      have hne : l ≠ [] := by intro e; rw [e] at hkl; exact absurd hkl (Nat.not_lt_zero _)
      obtain ⟨p0, c0, hvv, _, _, hcell⟩ := HOP.out
      obtain ⟨b0, o, rfl, hb0, hcell⟩ := hcell hne
      obtain ⟨d0, d1, d2, v', d3, hop⟩ := hcell k l[k] (List.getElem?_eq_getElem hkl)
      obtain rfl : p = some ⟨b0, o, none⟩ := by injection hvv
      have g0 := (HBW.out.cell (p := ⟨b0, o + k * 4, none⟩) hb0).trans d0
      have g1 := (HBW.out.cell (p := ⟨b0, o + k * 4 + 1, none⟩) hb0).trans d1
      have g2 := (HBW.out.cell (p := ⟨b0, o + k * 4 + 2, none⟩) hb0).trans d2
      have g3 := (HBW.out.cell (p := ⟨b0, o + k * 4 + 3, none⟩) hb0).trans d3
      have hsw := HWF.out _ (List.getElem_mem hkl)
      generalize l[k] = q at *
      obtain ⟨qa, qb, qc, qo⟩ := q
      simp only at g0 g1 g2 hop
      have HX : Hid (opX w.heap.size wr v' qo) := opX_low hop HBW.out
      have hvs : ∃ p c, v' = .slice p qo.length c := by obtain ⟨p, c, e, _⟩ := hop; exact ⟨p, c, e⟩
      obtain ⟨pq, cq, rfl⟩ := hvs
      have HSW : Hid (sayWf ⟨qa, qb, qc, qo⟩) := hsw
      clear hcell hvv d0 d1 d2 d3 hop hsw hne
      have cF : Hid (∀ wx, Below wr.heap.size wr wx → Calls Tryz.prog 30 #[.slice pq qo.length cq] wx fun e w' => e = .returned (.bool (fewB qo)) ∧ Below wx.heap.size wx w') := fun wx hb => fewX_any _ qo wx (opX_grown HX.out hb).1
      by_cases hf : fewB qo = true
      case neg =>
        have hf : fewB qo = false := by simpa using hf
        rw [hf] at cF
        go_wp2_with (first
          | (go_at_call 30; refine (cF.out _ ((Below.refl _ _).alloc (Nat.le_refl _) _)).mono ?_; rintro e w3 ⟨rfl, hb3⟩; have HB3 : Hid (Below w.heap.size w w3) := (HBW.out.alloc HBW.out.size _).trans (hb3.mono (by rw [World.size_alloc]; have := HBW.out.size; omega)); clear hb3)
          | fail)
        go_ret
        exact ⟨rfl, HB3.out⟩
      case pos =>
        rw [hf] at cF
        have HF : Hid (fewB qo = true) := hf
        clear hf
        obtain ⟨β, hβ⟩ : ∃ β, wr.heap.size = β := ⟨_, rfl⟩
        have HBT : Hid (wr.heap.size = β) := hβ
        by_cases hid : qb < 1
        case pos =>
          go_wp2_with (first
            | (go_at_call 30; refine (cF.out _ ((Below.refl _ _).alloc (Nat.le_refl _) _)).mono ?_; rintro e w3 ⟨rfl, hb3⟩; have HB3 : Hid (Below w.heap.size w w3) := (HBW.out.alloc HBW.out.size _).trans (hb3.mono (by rw [World.size_alloc]; have := HBW.out.size; omega)); have hbox : w3.heap[β]? = some (.cells #[.int .i64 qa, .int .i64 qb, .int .i64 qc, .slice pq qo.length cq] 75 (0, 0)) := (hb3.block β (by rw [World.size_alloc, HBT.out]; omega)).trans (by have := heap_alloc_new wr (.cells #[.int .i64 qa, .int .i64 qb, .int .i64 qc, .slice pq qo.length cq] 75); rwa [HBT.out] at this); have y1 : w3.cell? ⟨β, 1, none⟩ = some (.int .i64 qb) := Lib.cell_of_heap hbox 1; clear hb3 hbox)
            | fail)
          go_ret
          exact ⟨rfl, HB3.out⟩
        case neg =>
          have HID : Hid (1 ≤ qb) := by show 1 ≤ qb; omega
          go_wp2_with (first
            | (go_at_call 30; refine (cF.out _ ((Below.refl _ _).alloc (Nat.le_refl _) _)).mono ?_; rintro e w3 ⟨rfl, hb3⟩; have HB3 : Hid (Below w.heap.size w w3) := (HBW.out.alloc HBW.out.size _).trans (hb3.mono (by rw [World.size_alloc]; have := HBW.out.size; omega)); have hbox : w3.heap[β]? = some (.cells #[.int .i64 qa, .int .i64 qb, .int .i64 qc, .slice pq qo.length cq] 75 (0, 0)) := (hb3.block β (by rw [World.size_alloc, HBT.out]; omega)).trans (by have := heap_alloc_new wr (.cells #[.int .i64 qa, .int .i64 qb, .int .i64 qc, .slice pq qo.length cq] 75); rwa [HBT.out] at this); have HBX : Hid _ := hbox; have y0 : w3.cell? ⟨β, 0, none⟩ = some (.int .i64 qa) := Lib.cell_of_heap hbox 0; have y1 : w3.cell? ⟨β, 1, none⟩ = some (.int .i64 qb) := Lib.cell_of_heap hbox 1; have y2 : w3.cell? ⟨β, 2, none⟩ = some (.int .i64 qc) := Lib.cell_of_heap hbox 2; have y3 : w3.cell? ⟨β, 3, none⟩ = some (.slice pq qo.length cq) := Lib.cell_of_heap hbox 3
               have HB03 : Hid (Below wr.heap.size wr w3) := ((Below.refl _ _).alloc (Nat.le_refl _) _).trans (hb3.mono (by rw [World.size_alloc]; omega))
               clear hb3 hbox)
            | fail)
          have HX3 : Hid (opX w.heap.size w3 (.slice pq qo.length cq) qo) := opX_grown HX.out HB03.out
          have HBO3 : Hid (Both w.heap.size k w3 bx bmx y bmy (s.length : Int) t E D M) := HBO.out.below HB03.out
          have CT1 : Hid (∀ wx, Below w3.heap.size w3 wx → Calls Tryz.prog 37 #[.pointer (some ⟨bx, 0, none⟩), .int .i64 qa, .int .i64 qb, .int .i64 qc, .slice pq qo.length cq] wx fun e w' => e = .returned (errV (stE (s.length : Int) t E M qa qb qc qo)) ∧ Mid w w' k bx bmx y bmy β (s.length : Int) t E D M ⟨qa, qb, qc, qo⟩ (.slice pq qo.length cq) #[.int .i64 qa, .int .i64 qb, .int .i64 qc, .slice pq qo.length cq]) :=
            fun wx hb => take1 (q := ⟨qa, qb, qc, qo⟩) HBO3.out HB3.out HG.out HT.out HX3.out HSW.out HF.out (by omega) HBX.out wx hb
          have CT2 : Hid (∀ w4, Mid w w4 k bx bmx y bmy β (s.length : Int) t E D M ⟨qa, qb, qc, qo⟩ (.slice pq qo.length cq) #[.int .i64 qa, .int .i64 qb, .int .i64 qc, .slice pq qo.length cq] → ∀ wx, Below w4.heap.size w4 wx → Calls Tryz.prog 38 #[.pointer (some ⟨y, 0, none⟩), .int .i64 qa, .int .i64 qb, .int .i64 qc, .slice pq qo.length cq] wx fun e w' => e = .returned (.int .i64 (stE (s.length : Int) t E M qa qb qc qo)) ∧
              Both w.heap.size (k + 1) w' bx bmx y bmy (s.length : Int) (stT (s.length : Int) t E M qa qb qc qo) (stL (s.length : Int) t E M qa qb qc qo) (stD (s.length : Int) t E D M qa qb qc qo) (stM (s.length : Int) t E M qa qb qc qo) ∧ Below w.heap.size w w' ∧ w'.heap[β]? = some (.cells #[.int .i64 qa, .int .i64 qb, .int .i64 qc, .slice pq qo.length cq] 75 (0, 0))) :=
            fun w4 hM wx hb => take2 (q := ⟨qa, qb, qc, qo⟩) hM HBO3.out.apart HBO3.out.ok HBO3.out.docs HBO3.out.few HSW.out HF.out (by omega) HID.out wx hb
          generalize stE (s.length : Int) t E M qa qb qc qo = EE at *
          generalize stT (s.length : Int) t E M qa qb qc qo = T1 at *
          generalize stL (s.length : Int) t E M qa qb qc qo = E1 at *
          generalize stD (s.length : Int) t E D M qa qb qc qo = D1 at *
          generalize stM (s.length : Int) t E M qa qb qc qo = M1 at *
          have CB : Hid (∀ wx, Below w.heap.size w wx → Calls Tryz.prog 16 #[errV EE, .int .i64 EE] wx fun e w' => e = .returned (.bool true) ∧ Below wx.heap.size wx w') := fun wx hb => bare_any EE wx (asLaid_below HG.out hb)
          have hEV : ∃ u, errV EE = u := ⟨_, rfl⟩
          obtain ⟨u, hu⟩ := hEV
          rw [hu] at CT1 CB
          clear hu cF g0 g1 g2 g3 HB03 HX HBO HBT hβ
          have HLT : Hid (k < N) := hlt
          clear hle hkl hid r1 r2 hNi h2 h3 hz hlt hk
          refine wp_region_set (fun wx : World => wx.heap[β]? = some (.cells #[.int .i64 qa, .int .i64 qb, .int .i64 qc, .slice pq qo.length cq] 75 (0, 0))) 22 22 (by kernel_rfl) rfl ?_
          intro w30 hb30
          have hz0 : w30.heap[β]? = some (.cells #[.int .i64 qa, .int .i64 qb, .int .i64 qc, .slice pq qo.length cq] 75 (0, 0)) := (hb30.block β (Array.getElem?_eq_some_iff.1 HBX.out).1).trans HBX.out
          obtain ⟨G, hG⟩ := exists_growZ (Z := fun wx : World => wx.heap[β]? = some (.cells #[.int .i64 qa, .int .i64 qb, .int .i64 qc, .slice pq qo.length cq] 75 (0, 0))) hz0 (fun {w w'} h hb => (hb.block β (Array.getElem?_eq_some_iff.1 h).1).trans h)
          have e0 : ∀ x, (G x).cell? ⟨β, 0, none⟩ = some (.int .i64 qa) := fun x => Lib.cell_of_heap (hG.but x) 0
          have e1 : ∀ x, (G x).cell? ⟨β, 1, none⟩ = some (.int .i64 qb) := fun x => Lib.cell_of_heap (hG.but x) 1
          have e2 : ∀ x, (G x).cell? ⟨β, 2, none⟩ = some (.int .i64 qc) := fun x => Lib.cell_of_heap (hG.but x) 2
          have e3 : ∀ x, (G x).cell? ⟨β, 3, none⟩ = some (.slice pq qo.length cq) := fun x => Lib.cell_of_heap (hG.but x) 3
          clear y0 y1 y2 y3
          (refine anyZ_step hG hz0 (i := 0) rfl (by kernel_rfl) (by kernel_rfl) (by kernel_rfl) (fun K hK => ?_); go_simp; refine hK _ ?_; clear hK K)
          (refine anyZ_step hG hz0 (i := 1) rfl (by kernel_rfl) (by kernel_rfl) (by kernel_rfl) (fun K hK => ?_); go_simp; refine hK _ ?_; clear hK K)
          (refine anyZ_step hG hz0 (i := 2) rfl (by kernel_rfl) (by kernel_rfl) (by kernel_rfl) (fun K hK => ?_); go_simp; refine hK _ ?_; clear hK K)
          (refine anyZ_step hG hz0 (i := 3) rfl (by kernel_rfl) (by kernel_rfl) (by kernel_rfl) (fun K hK => ?_); go_simp; refine hK _ ?_; clear hK K)
          (refine anyZ_step hG hz0 (i := 4) rfl (by kernel_rfl) (by kernel_rfl) (by kernel_rfl) (fun K hK => ?_); go_simp; refine hK _ ?_; clear hK K)
          (refine anyZ_step hG hz0 (i := 5) rfl (by kernel_rfl) (by kernel_rfl) (by kernel_rfl) (fun K hK => ?_); go_simp; refine hK _ ?_; clear hK K)
          (refine anyZ_step hG hz0 (i := 6) rfl (by kernel_rfl) (by kernel_rfl) (by kernel_rfl) (fun K hK => ?_); go_simp; refine hK _ ?_; clear hK K)
          (refine anyZ_step hG hz0 (i := 7) rfl (by kernel_rfl) (by kernel_rfl) (by kernel_rfl) (fun K hK => ?_); go_simp; refine hK _ ?_; clear hK K)
          (refine anyZ_step hG hz0 (i := 8) rfl (by kernel_rfl) (by kernel_rfl) (by kernel_rfl) (fun K hK => ?_); go_simp; refine hK _ ?_; clear hK K)
          (refine anyZ_step hG hz0 (i := 10) rfl (by kernel_rfl) (by kernel_rfl) (by kernel_rfl) (fun K hK => ?_); go_simp; refine hK _ ?_; clear hK K)
          (refine anyZ_step hG hz0 (i := 11) rfl (by kernel_rfl) (by kernel_rfl) (by kernel_rfl) (fun K hK => ?_); go_simp; refine hK _ ?_; clear hK K)
          (refine anyZ_step hG hz0 (i := 12) rfl (by kernel_rfl) (by kernel_rfl) (by kernel_rfl) (fun K hK => ?_); go_simp; refine hK _ ?_; clear hK K)
          (refine anyZ_step hG hz0 (i := 13) rfl (by kernel_rfl) (by kernel_rfl) (by kernel_rfl) (fun K hK => ?_); go_simp; refine hK _ ?_; clear hK K)
          (refine anyZ_step hG hz0 (i := 14) rfl (by kernel_rfl) (by kernel_rfl) (by kernel_rfl) (fun K hK => ?_); go_simp; refine hK _ ?_; clear hK K)
          (refine anyZ_step hG hz0 (i := 15) rfl (by kernel_rfl) (by kernel_rfl) (by kernel_rfl) (fun K hK => ?_); go_simp; refine hK _ ?_; clear hK K)
          (refine anyZ_step hG hz0 (i := 16) rfl (by kernel_rfl) (by kernel_rfl) (by kernel_rfl) (fun K hK => ?_); go_simp; refine hK _ ?_; clear hK K)
          (refine anyZ_step hG hz0 (i := 17) rfl (by kernel_rfl) (by kernel_rfl) (by kernel_rfl) (fun K hK => ?_); go_simp; refine hK _ ?_; clear hK K)
          (refine anyZ_step hG hz0 (i := 18) rfl (by kernel_rfl) (by kernel_rfl) (by kernel_rfl) (fun K hK => ?_); go_simp; refine hK _ ?_; clear hK K)
          clear e0 e1 e2 e3 hG hz0
          refine anyZ_one (i := 9) (by kernel_rfl) ⟨_, rfl, ?_⟩
          intro w31 hb31 K hK
          go_simp
          refine (CT1.out w31 (hb30.trans (hb31.mono hb30.size))).mono ?_
          rintro e w4 ⟨rfl, hm⟩
          have HM : Hid _ := hm
          refine ⟨_, rfl, hK _ _ (fun _ => hm.box) ?_⟩
          clear hK K hm
          refine anyZ_one (i := 19) (by kernel_rfl) ⟨_, rfl, ?_⟩
          intro w32 hb32 K hK
          go_simp
          refine (CT2.out w4 HM.out w32 hb32).mono ?_
          rintro e w5 ⟨rfl, hB5, hb5, hx5⟩
          have HB5 : Hid (Both w.heap.size (k + 1) w5 bx bmx y bmy (s.length : Int) T1 E1 D1 M1) := hB5
          have HL5 : Hid (Below w.heap.size w w5) := hb5
          have HX5 : Hid _ := hx5
          refine ⟨_, rfl, hK _ _ (fun _ => hx5) ?_⟩
          clear hK K hB5 hb5 hx5
          refine anyZ_one (i := 20) (by kernel_rfl) ⟨_, rfl, ?_⟩
          intro w33 hb33 K hK
          go_simp
          have hL33 : Below w.heap.size w w33 := HL5.out.trans (hb33.mono HL5.out.size)
          refine (CB.out w33 hL33).mono ?_
          rintro e w6 ⟨rfl, hb6⟩
          have hb36 := hb33.trans (hb6.mono hb33.size)
          have HB6 : Hid (Both w.heap.size (k + 1) w6 bx bmx y bmy (s.length : Int) T1 E1 D1 M1) := HB5.out.below hb36
          have HL6 : Hid (Below w.heap.size w w6) := HL5.out.trans (hb36.mono HL5.out.size)
          have hx6 := (hb36.block β (Array.getElem?_eq_some_iff.1 HX5.out).1).trans HX5.out
          have HX6 : Hid _ := hx6
          refine ⟨_, rfl, hK _ _ (fun _ => hx6) ?_⟩
          clear hK K hb6 hb33 hL33 hb36 hx6
          refine anyZ_one (i := 21) (by kernel_rfl) ⟨_, rfl, ?_⟩
          intro w34 hb34 K hK
          go_simp
          refine hK _ _ (fun h => h) ?_
          clear hK K
          refine anyZ_end (by kernel_rfl) ?_
          intro w7 hb7
          have hb67 := hb34.trans (hb7.mono hb34.size)
          have HB7 : Hid (Both w.heap.size (k + 1) w7 bx bmx y bmy (s.length : Int) T1 E1 D1 M1) := HB6.out.below hb67
          have HL7 : Hid (Below w.heap.size w w7) := HL6.out.trans (hb67.mono HL6.out.size)
          have hx7 := (hb67.block β (Array.getElem?_eq_some_iff.1 HX6.out).1).trans HX6.out
          have HX7 : Hid (w7.heap[β]? = some (.cells #[.int .i64 qa, .int .i64 qb, .int .i64 qc, .slice pq qo.length cq] 75 (0, 0))) := hx7
          have p0 : w7.cell? ⟨β, 0, none⟩ = some (.int .i64 qa) := Lib.cell_of_heap hx7 0
          clear hb30 hb31 hb32 hb34 hb7 hb67 hx7 CT1 CT2 CB HX3 HBO3 HB3 HX5 HX6 HB5 HB6 HL5 HL6 HM HBX
          have CL7 : Hid _ := srvLast_any _ _ w7 bx bmx T1 E1 M1 HB7.out.srv qa HSW.out.1.1
          obtain ⟨G1, hG1⟩ : ∃ G1, (got M1 qa).1 = G1 := ⟨_, rfl⟩
          obtain ⟨G2, hG2⟩ : ∃ G2, (got M1 qa).2 = G2 := ⟨_, rfl⟩
          rw [hG1, hG2] at CL7
          have HG1 : Hid ((got M1 qa).1 = G1) := hG1
          have HG2 : Hid ((got M1 qa).2 = G2) := hG2
          clear hG1 hG2
          go_wp2_with (first
            | (go_at_call 39; refine Calls.mono CL7.out ?_; rintro e w8 ⟨rfl, hb8⟩; have HB8 : Hid (Both w.heap.size (k + 1) w8 bx bmx y bmy (s.length : Int) T1 E1 D1 M1) := HB7.out.below hb8; have HL8 : Hid (Below w.heap.size w w8) := HL7.out.trans (hb8.mono HL7.out.size); have hx8 := (hb8.block β (Array.getElem?_eq_some_iff.1 HX7.out).1).trans HX7.out; have q0 : w8.cell? ⟨β, 0, none⟩ = some (.int .i64 qa) := Lib.cell_of_heap hx8 0; have q2 : w8.cell? ⟨β, 2, none⟩ = some (.int .i64 qc) := Lib.cell_of_heap hx8 2; clear hb8 hx8 p0)
            | fail)
          clear CL7 HB7 HL7 HX7
          have hB8 := HB8.out
          obtain ⟨_, _, ⟨v0, v1, h3, h30, h4⟩, h5⟩ := hB8.ref
          obtain ⟨p1, c1, rfl⟩ := isLog_shape h4
          have HLG : Hid (logAt w.heap.size w8 p1 E1.length c1 E1) := logAt_of h4
          have m1 : w8.cell? ⟨y, 1, none⟩ = some (.slice p1 E1.length c1) := Lib.cell_of_heap h3 1
          have m2 : w8.cell? ⟨y, 2, none⟩ = some (.map (some bmy)) := Lib.cell_of_heap h3 2
          have hEl : E1.length ≤ 41 := by have := hB8.few; omega
          have CRv : Hid (∀ n, Calls Tryz.prog 40 #[.pointer (some ⟨bx, 0, none⟩)] (w8.drewN n) fun e w' => w' = w8.drewN n ∧ e = .returned (.int .i64 E1.length)) := fun n => srvRev_any _ _ _ bx bmx T1 E1 M1 (isSrv_below hB8.srv (below_drewN w8 n))
          have CTx : Hid (∀ n, Calls Tryz.prog 41 #[.pointer (some ⟨bx, 0, none⟩)] (w8.drewN n) fun e w' => w' = w8.drewN n ∧ e = .returned (.string ⟨T1.toArray⟩)) := fun n => srvText_any _ _ _ bx bmx T1 E1 M1 (isSrv_below hB8.srv (below_drewN w8 n))
          have CRt : Hid (∀ n, Calls Tryz.prog 42 #[.pointer (some ⟨y, 0, none⟩)] (w8.drewN n) fun e w' => e = .returned (.string ⟨T1.toArray⟩) ∧ ∃ m, w' = (w8.drewN n).drewN m) := fun n => refText_quiet (isRef_below hB8.ref (below_drewN w8 n)) hB8.docs (by omega)
          have LK : Hid (∀ n, (Instr.lookup 82 (.map (some bmy)) (.int .i64 qa) false).run Tryz.prog (w8.drewN n) = .ok (.agg #[.int .i64 G1, .int .i64 G2]) (w8.drewN n)) := fun n => by
            have := isLast_look (isRef_below hB8.ref (below_drewN w8 n)).2.2.2 (t := 82) Tryz.underlying82 (zero_of info_two _) (c := qa) HSW.out.1.1
            rw [HG1.out, HG2.out] at this
            exact this
          have hEi : (E1.length : Int) ≤ 41 := by omega
          clear h3 h30 h4 h5 hB8
          have lk := LK.out
          refine wp_region_quiet_lit (by kernel_rfl) (by kernel_rfl) ?_
          repeat (first
            | go_big_quiet_step ((first
              | (go_at_call 40; exact Calls.quiet_of_same ((CRv.out _).mono fun _ _ h => ⟨h.2, h.1⟩))
              | (go_at_call 41; exact Calls.quiet_of_same ((CTx.out _).mono fun _ _ h => ⟨h.2, h.1⟩))
              | (go_at_call 42; exact Calls.quiet_of (CRt.out _)))))
          refine wpQuiet_nil ?_
          intro _ hw'
          obtain ⟨nq1, hw''⟩ := hw'
          subst hw''
          clear CRv CTx CRt lk m2 q0
          go_wp2
          have hEj : (0 : Int) < (E1.length : Int) + 1 := by omega
          go_quiet (fail)
          obtain ⟨r, hrr, hrl⟩ := from_any qc E1.length (by omega)
          rw [hrr]
          clear hrr
          obtain ⟨W9, hW9⟩ : ∃ W9, (w8.drewN nq1).drewN nq = W9 := ⟨_, rfl⟩
          rw [hW9]
          have hb9 : Below w8.heap.size w8 W9 := by rw [← hW9]; exact ⟨rfl, rfl, rfl, Nat.le_refl _, fun _ _ => rfl⟩
          have HB9 : Hid (Both w.heap.size (k + 1) W9 bx bmx y bmy (s.length : Int) T1 E1 D1 M1) := HB8.out.below hb9
          have HL9 : Hid (Below w.heap.size w W9) := HL8.out.trans (hb9.mono HL8.out.size)
          have HLG9 : Hid (logAt w.heap.size W9 p1 E1.length c1 E1) := logAt_below HLG.out hb9
          have hy9 : W9.cell? ⟨y, 1, none⟩ = some (.slice p1 E1.length c1) := (hb9.cell (p := ⟨y, 1, none⟩) (World.block_lt_of_cell? w8 _ m1)).trans m1
          have HY9 : Hid _ := hy9
          have hri : (r : Int) ≤ (E1.length : Int) := by omega
          have hcl : E1.length ≤ c1 ∧ c1 ≤ maxLen := ⟨HLG.out.2.1, HLG.out.2.2.1⟩
          obtain ⟨hcl1, hcl2⟩ := hcl
          unfold maxLen at hcl2
          have CLg : Hid _ := srvLog_ok HB9.out.srv HB9.out.ok r hrl (by omega)
          have SAME : Hid (∀ wX pv cv P C, logAt w.heap.size wX pv (E1.length - r) cv (E1.drop r) → logAt w.heap.size wX P (E1.length - r) C (E1.drop r) → Calls Tryz.prog 44 #[.slice pv (E1.length - r) cv, .slice P (E1.length - r) C] wX fun e w' => e = .returned (.bool true) ∧ ∃ m, w' = wX.drewN m) := fun wX pv cv P C h1 h2 => same_entries w.heap.size wX _ _ _ _ _ _ (E1.drop r) h1 h2 (by rw [List.length_drop]; omega) (ops_len HB9.out.ok r)
          clear hW9 hb9 m1 HB8 HL8 HLG LK q2
          go_wp2_with (first
            | (go_at_call 43; refine Calls.mono CLg.out ?_; rintro e w10 ⟨v10, rfl, hl10, hb10⟩; obtain ⟨pv, cv, rfl⟩ := isLog_shape hl10; have hv10 := logAt_of hl10; rw [List.length_drop] at hv10; have HV10 : Hid (logAt w.heap.size w10 pv (E1.length - r) cv (E1.drop r)) := hv10; have HC10 : Hid _ := logAt_cut (logAt_below HLG9.out hb10) hrl; have HB10 : Hid (Both w.heap.size (k + 1) w10 bx bmx y bmy (s.length : Int) T1 E1 D1 M1) := HB9.out.below hb10; have HL10 : Hid (Below w.heap.size w w10) := HL9.out.trans (hb10.mono HL9.out.size); have hy10 : w10.cell? ⟨y, 1, none⟩ = some (.slice p1 E1.length c1) := (hb10.cell (p := ⟨y, 1, none⟩) (World.block_lt_of_cell? W9 _ HY9.out)).trans HY9.out; clear hl10 hb10 hy9 hv10)
            | (have hc : ¬ c1 = r := by assumption
               go_at_call 44; have h2 := HC10.out; rw [if_neg hc] at h2; refine (SAME.out w10 _ _ _ _ HV10.out h2).mono ?_; rintro e w11 ⟨rfl, m, hm⟩; have HM11 : Hid (w11 = w10.drewN m) := hm; clear hm h2)
            | (have hc : c1 = r := by assumption
               go_at_call 44; have h2 := HC10.out; rw [if_pos hc, hc, Nat.sub_self] at h2; refine (SAME.out w10 _ _ _ _ HV10.out h2).mono ?_; rintro e w11 ⟨rfl, m, hm⟩; have HM11 : Hid (w11 = w10.drewN m) := hm; clear hm h2)
            | fail)
          all_goals
            go_roundw
            case rel => exact ⟨k + 1, by go_num, by have := HLT.out; omega, T1, E1, D1, M1, by rw [HM11.out]; exact HB10.out.below (below_drewN w10 m), by rw [HM11.out]; exact HL10.out.trans ((below_drewN w10 m).mono HL10.out.size)⟩
            case measure => have := HLT.out; simp [intOf]; omega
end Go.Proofs.YtfedgjnhanlmeabGreatDoor

namespace Go.Proofs.YtfedgjnhanlmeabGreatDoor
open Go.RowKit
set_option linter.unusedVariables false

theorem serverPlays_any (s : ByteArray) (v : Value) (l : List Sa) (w : World) (hg : asLaid w) (hT : Lib.Utf8Tabs 2 3 w) (hr : saysAt w v l) (hwf : ∀ q ∈ l, sayWf q) :
    Calls Tryz.prog 6 #[.string s, v] w fun e w' => e = .returned (.bool true) ∧ Below w.heap.size w w' := by
  have es : (ByteArray.mk s.data.toList.toArray) = s := by cases s; simp
  rw [← es]
  generalize s.data.toList = t
  by_cases h : 2100 < t.length ∨ 40 < l.length
  · exact srvLaw_long t v l w hr h
  · have h1 : t.length ≤ 2100 := by omega
    have h2 : l.length ≤ 40 := by omega
    by_cases hsc : (scan t).2 = true
    · by_cases hz : 2000 < t.length
      · exact srvLaw_full t v l w hg hT hr h1 h2 hz hsc
      · exact srvLaw_good t v l w hg hT hr hwf (by omega) h2 hsc
    · exact srvLaw_bad t v l w hg hT hr h1 h2 (by simpa using hsc)
end Go.Proofs.YtfedgjnhanlmeabGreatDoor
