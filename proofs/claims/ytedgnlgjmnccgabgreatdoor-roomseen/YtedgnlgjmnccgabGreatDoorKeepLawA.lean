/-
  What the keep's laws of a room use.
-/
import Derived.Test.YtedgnlgjmnccgabGreatDoorKeepMet
import Derived.Test.YtedgnlgjmnccgabGreatDoorKeepPlays2
import Derived.Test.YtedgnlgjmnccgabGreatDoorActOpen
import Derived.Test.YtedgnlgjmnccgabGreatDoorSrvNew
namespace Go.Proofs.YtedgnlgjmnccgabGreatDoor
open Go.RowKit Go.Maps
set_option linter.unusedVariables false

theorem count_badK (s : List UInt8) (hs : s.length ≤ 1000000) (hsc : (scan s).2 = false) (w : World) (hT : Lib.Utf8Tabs 2 3 w) : Calls Tryz.prog 78 #[.string ⟨s.toArray⟩] w fun e w' => ∃ b, e = .returned (.tuple #[.agg #[.int .i64 0, .int .i64 0, .int .i64 0, .int .i64 0], .iface 273 (.pointer (some ⟨b, 0, none⟩))]) ∧ Below w.heap.size w w' :=
  (Count_any ⟨s.toArray⟩ (by simp [ByteArray.size]; omega) w hT).mono fun e w' ⟨v, x, h1, h2, h3⟩ => by
    have e0 : (ByteArray.mk s.toArray).data.toList = s := rfl
    rw [e0] at h3
    rcases h3 with ⟨h4, _⟩ | ⟨_, rfl, b, rfl, _⟩
    · rw [hsc] at h4; cases h4
    · exact ⟨b, h1, h2⟩
theorem info_int : (Tryz.prog.info? 3).map (fun i => (i.zero, i.size, i.bytes)) = some (some (.int .i64 0), 1, 8) := by kernel_rfl
/-- Numbers in a row. -/
def intRow (us : List Int) : List Value := us.map fun u => .int .i64 u
theorem ints_own {w : World} {lo n : Nat} {v : Value} {us : List Int} (h : w.ownsRow lo 3 1 v n (intRow us)) : intsAt w v us := by
  have hl := h.1
  have hn : us.length = n := by unfold intRow at hl; simpa using hl
  obtain ⟨p, c, rfl⟩ := own_slice h
  rcases h.2 with ⟨e, h0⟩ | ⟨g, cap, cur, e, h1, h2, h3, h4, h5, h6⟩
  · injection e with e1 _ e3
    subst e1 e3 h0
    exact ⟨none, 0, by rw [hn], by omega, Nat.zero_le _, fun hne => absurd (List.length_eq_zero_iff.1 hn) hne⟩
  · injection e with e1 _ e3
    subst e1 e3
    refine ⟨_, c, by rw [hn], by omega, h4, fun hne => ⟨g, 0, rfl, (Array.getElem?_eq_some_iff.1 h2).1, fun i u hu => ?_⟩⟩
    obtain ⟨g', e', _, hc⟩ := own_cell h (k := i) (u := .int .i64 u) (by unfold intRow; rw [List.getElem?_map, hu]; rfl)
    injection e' with e'
    injection e' with e'
    subst e'
    rw [Nat.zero_add]; exact hc
theorem intRow_snoc (us : List Int) (u : Int) : intRow us ++ [.int .i64 u] = intRow (us ++ [u]) := by unfold intRow; simp
/-- So far: the row of units. -/
structure UI (lo : Nat) (w0 : World) (k : Nat) (v : Value) (w : World) : Prop where
  row : ∃ us, us.length = k ∧ (∀ u ∈ us, unitOk u) ∧ w.ownsRow lo 3 1 v k (intRow us)
  low : Below lo w0 w
  le : lo ≤ w.heap.size
theorem UI.grow {lo : Nat} {w0 : World} {k : Nat} {v : Value} {w w' : World} (h : UI lo w0 k v w) (hb : Below w.heap.size w w') : UI lo w0 k v w' := by
  obtain ⟨us, h1, h2, h3⟩ := h.row
  exact ⟨⟨us, h1, h2, own_below h3 hb⟩, h.low.trans (hb.mono h.le), Nat.le_trans h.le hb.size⟩
/-- The room, with what the laws know. -/
structure Rl (lo : Nat) (w0 : World) (r bx bmx : Nat) (bs : List Nat) (l0 : Int) (k : Nat) (D : List (List UInt8)) (R : Rm) (w : World) : Prop where
  room : isRoom lo w r bx bmx bs R
  low : Below lo w0 w
  env : Env lo w
  le : lo ≤ w.heap.size
  inv : ∃ n : Int, n ≤ k ∧ Inv l0 n D R
  inv2 : Inv2 R
  pot : potR R ≤ 2400 * k
theorem Rl.grow {lo : Nat} {w0 : World} {r bx bmx : Nat} {bs : List Nat} {l0 : Int} {k : Nat} {D : List (List UInt8)} {R : Rm} {w w' : World} (h : Rl lo w0 r bx bmx bs l0 k D R w) (hb : Below w.heap.size w w') : Rl lo w0 r bx bmx bs l0 k D R w' := ⟨isRoom_below h.room hb, h.low.trans (hb.mono h.le), h.env.below hb, Nat.le_trans h.le hb.size, h.inv, h.inv2, h.pot⟩
theorem Rl.plays {lo : Nat} {w0 : World} {r bx bmx : Nat} {bs : List Nat} {l0 : Int} {k : Nat} {D : List (List UInt8)} {R : Rm} {w : World} (h : Rl lo w0 r bx bmx bs l0 k D R w) (hk : k ≤ 1000) (h1 : 1 ≤ bs.length) (h6 : bs.length ≤ 6) (q : Sa) (hq : sayWf q) (v : Value) (hv : opAt w v q.op) :
    Calls Tryz.prog 79 #[.pointer (some ⟨r, 0, none⟩), .int .i64 (bs.length : Int), .agg #[.int .i64 q.a, .int .i64 q.b, .int .i64 q.c, v]] w fun e w' => e = .returned (.bool true) ∧ ∃ R' D', Rl lo w0 r bx bmx bs l0 (k + 1) D' R' w' ∧ R'.cl.length = R.cl.length ∧ Ext D D' ∧ (q.a ≠ 5 → D' = D ∨ D' = D ++ [R'.t]) := by
  obtain ⟨n, hn, hi⟩ := h.inv
  have hp := h.pot
  refine (plays_any (⟨h.env, h.room, hi, h.inv2, by omega, by omega, h1, h6⟩ : Rok lo w r bx bmx bs l0 n D R) q.a q.b q.c hq.1.2.1 hq.1.2.2 v q.op hv (fun p hp hs => hq.2 p hp (by omega))).mono ?_
  rintro e w' ⟨rfl, hs, R', hr, n', D', c1, c2, c3, c4, c5, c6, c7⟩
  exact ⟨rfl, R', D', ⟨hr, low_touch h.low h.le hs, h.env.room hs, Nat.le_trans h.le hs.size, ⟨n', by omega, c1⟩, c2, by omega⟩, c5, c6, c7⟩
theorem Rl.quiet {lo : Nat} {w0 : World} {r bx bmx : Nat} {bs : List Nat} {l0 : Int} {k : Nat} {D : List (List UInt8)} {R : Rm} {w : World} (h : Rl lo w0 r bx bmx bs l0 k D R w) (hk : k ≤ 1000) (h6 : bs.length ≤ 6) :
    Calls Tryz.prog 71 #[.pointer (some ⟨r, 0, none⟩)] w fun e w' => e = .returned (.tuple #[]) ∧ ∃ D', Rl lo w0 r bx bmx bs l0 (k + 1) D' (quietR l0 R) w' := by
  obtain ⟨n, hn, hi⟩ := h.inv
  have hp := h.pot
  obtain ⟨D', i1, i2, i3, i4, i5⟩ := hi.quiet
  have hl := h.room.cls.len
  refine (rmQuiet_any h.env h.room hi (by omega) (by omega) (by omega)).mono ?_
  rintro e w' ⟨rfl, a, hs⟩
  exact ⟨rfl, D', a, low_touch h.low h.le hs, h.env.room hs, Nat.le_trans h.le hs.size, ⟨n, by omega, i1⟩, h.inv2.quiet hi, by omega⟩
theorem Rl.new {lo : Nat} {w0 : World} {s : List UInt8} (hV : V s) (hs : s.length ≤ 1900) {k : Nat} (hk1 : 1 ≤ k) (hk6 : k ≤ 6) {v : Value} {w : World} (he : Env lo w) (h : UI lo w0 k v w) :
    Calls Tryz.prog 60 #[.string ⟨s.toArray⟩, v] w fun e w' => ∃ r bx bmx bs R, e = .returned (.tuple #[.pointer (some ⟨r, 0, none⟩), .nilIface]) ∧ bs.length = k ∧ R.t = s ∧ R.cl.length = k ∧ Rl lo w0 r bx bmx bs (s.length : Int) 0 [s] R w' := by
  obtain ⟨us, h1, h2, h3⟩ := h.row
  refine (rmNew_good s hV (by omega) us h2 (by omega) v lo w he h.le (ints_own h3)).mono ?_
  rintro e w' ⟨r, bx, bmx, bs, rfl, a, b, c⟩
  obtain ⟨i1, i2, i3⟩ := firstR_inv hV (by omega) h2
  have hcl : (firstR s us).cl.length = k := by unfold firstR; simp [h1]
  exact ⟨r, bx, bmx, bs, _, rfl, by rw [a.cls.len, hcl], rfl, hcl, a, h.low.trans (b.mono h.le), he.below b, Nat.le_trans h.le b.size, ⟨0, by omega, i1⟩, i2, by omega⟩
end Go.Proofs.YtedgnlgjmnccgabGreatDoor
