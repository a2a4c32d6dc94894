/-
  rope.between, of any trees.
  rope.Splice.
  Operations as lists: what a gathering keeps, and gap by gap: both come to the same least form.
  Two operations side by side: the model of what Compose and Transform go through (pure).
  Gaps, from the left on (pure); the document's Transform over them.
  Side by side is gap by gap (pure), where puts stand alone in both.
  Transform: the program's pairs add up to the document's parts (pure).
  What a least form is made of (pure).
  Operations in other units: what comes of them (pure).
  rope's Line, of any line.
  Lines (pure): a text is what is ahead of its last line, and that line, which has no line feed.
  pos.Spot of any place.
  pos.lineEnd: how many are ahead of a line's line feed, or of the end.
  pos.Place.
  pos.Place of any spot.
-/
import Derived.Test.YtgmgkbbnciglhaaDoorPartD
import Derived.Test.YtgmgkbbnciglhaaDoorPartE
import Derived.Test.YtgmgkbbnciglhaaDoorProg
namespace Go.Proofs.YtgmgkbbnciglhaaDoor
open Go.RowKit
set_option linter.unusedVariables false
attribute [local go_sem] Oper.semAt_some yieldsUpon okUpon

/-- .. and the tree that waits. -/
def grows2 (w W : World) (L sb : Nat) (q1 : Option Addr) (t1 : T) (rs : List Nat) : Prop := grows w W L sb (sb + 2) rs ∧ isTree W q1 t1

theorem grows_put2 {w W w5 w6 : World} {sb : Nat} {q q1 : Option Addr} {v : Value} {t t1 : T} {rs : List Nat} (hW : Below w.heap.size w W) (hlt : w.heap.size < sb) (hs : sb + 3 ≤ W.heap.size) (k1 : W.cell? ⟨w.heap.size, 0, none⟩ = some v) (k2 : W.frozen? ⟨w.heap.size, 0, none⟩ = false)
    (k6 : W.cell? ⟨sb, 5, none⟩ = none) (k7 : W.cell? ⟨sb + 2, 5, none⟩ = none) (k8 : W.cell? ⟨w.heap.size, 5, none⟩ = none) (h5 : Below W.heap.size W w5) (ht : isTree w5 q t) (ho : okT t) (hr : t.runes = rs) (ht1 : isTree w5 q1 t1)
    (h6 : Below w5.heap.size (w5.setCell ⟨w.heap.size, 0, none⟩ (.pointer q)) w6) :
    Same2 (sb + 1) W w6 ∧ (W.heap.size ≤ w6.heap.size ∧ w6.heap[sb]? = W.heap[sb]?) ∧ grows2 w w6 w.heap.size sb q1 t1 rs := by
  have hB : But w.heap.size w5 (w5.setCell ⟨w.heap.size, 0, none⟩ (.pointer q)) := But.setCell (But.refl _ w5) (p := ⟨w.heap.size, 0, none⟩) rfl _
  have hsz : (w5.setCell ⟨w.heap.size, 0, none⟩ (.pointer q)).heap.size = w5.heap.size := by simp [World.setCell]
  have s5 := h5.size
  have s6 := h6.size
  have blk : ∀ k, k ≠ w.heap.size → k < W.heap.size → w6.heap[k]? = W.heap[k]? := fun k h1 h2 => (h6.block k (by omega)).trans ((hB.block k (by omega) h1).trans (h5.block k h2))
  have c1 : w5.cell? ⟨w.heap.size, 0, none⟩ = some v := (cellOn (h5.block w.heap.size (by omega)) 0).trans k1
  have c5 : w5.cell? ⟨w.heap.size, 5, none⟩ = none := (cellOn (h5.block w.heap.size (by omega)) 5).trans k8
  refine ⟨⟨blk _ (by omega) (by omega), blk _ (by omega) (by omega)⟩, ⟨by omega, blk _ (by omega) (by omega)⟩, ⟨?_, ⟨q, t, ?_, ?_, isTree_below (by rw [hsz]; exact h6) (isTree_but hB c5 ht), ho, hr⟩, ?_, ?_, ?_, by omega⟩, isTree_below (by rw [hsz]; exact h6) (isTree_but hB c5 ht1)⟩
  · exact hW.trans ((h5.mono (by omega)).trans ((hB.below (by omega)).trans (h6.mono (by omega))))
  · exact (cellOn (h6.block w.heap.size (by omega)) 0).trans (World.cell?_setCell_same' _ _ _ (by rw [c1]; rfl))
  · exact (frozenOn (h6.block w.heap.size (by omega)) 0).trans ((World.frozen?_setCell _ _ _ _).trans ((frozenOn (h5.block w.heap.size (by omega)) 0).trans k2))
  · exact (cellOn (blk sb (by omega) (by omega)) 5).trans k6
  · exact (cellOn (blk (sb + 2) (by omega) (by omega)) 5).trans k7
  · exact (cellOn (h6.block w.heap.size (by omega)) 5).trans ((World.cell?_setCell_other (w := w5) ⟨w.heap.size, 0, none⟩ ⟨w.heap.size, 5, none⟩ _ (by simp)).trans c5)

theorem wpIn_seq_key {F : Fence} {n : Nat} {P : Program} {Q : Exit → Act → World → Prop} {a : Act} {w : World} {x y : Code} (Fp : Act → World → Prop)
    (h1 : ∀ Q' : Exit → Act → World → Prop, (∀ a' w', Fp a' w' → Q' .normal a' w') → x.wpIn F n P Q' a w) (h2 : ∀ a' w', Fp a' w' → y.wpIn F n P Q a' w') : (Code.seq x y).wpIn F n P Q a w :=
  wpIn_seq (h1 _ fun a' w' h => h2 a' w' h)

/-- A chunk's text in its box. -/
def boxAt (W : World) (B : Nat) (x : List Nat) : Prop := chunkAt W B (.string (bytesOf x)) (.int .i64 (C1 x)) (.int .i64 (C2 x)) (.int .i64 (C3 x)) (.int .i64 (C4 x)) ∧ W.cell? ⟨B, 5, none⟩ = none
theorem boxAt_below {W W' : World} {B : Nat} {x : List Nat} (h : boxAt W B x) (hb : Below W.heap.size W W') : boxAt W' B x :=
  ⟨chunkAt_below h.1 hb, (cellOn (hb.block B (chunkAt_lt h.1)) 5).trans h.2⟩
/-- Ahead of the walk: the left tree's variable, and the chunks at both sides. -/
def boxes (w W : World) (q0 : Option Addr) (xa xb : List Nat) : Prop :=
  Below w.heap.size w W ∧ w.heap.size + 3 ≤ W.heap.size ∧ (W.cell? ⟨w.heap.size, 0, none⟩ = some (.pointer q0) ∧ W.frozen? ⟨w.heap.size, 0, none⟩ = false ∧ W.cell? ⟨w.heap.size, 5, none⟩ = none) ∧ boxAt W (w.heap.size + 1) xa ∧ boxAt W (w.heap.size + 2) xb
theorem boxes_below {w W W' : World} {q0 : Option Addr} {xa xb : List Nat} (h : boxes w W q0 xa xb) (hb : Below W.heap.size W W') : boxes w W' q0 xa xb := by
  obtain ⟨h1, h2, ⟨h3, h4, h5⟩, h6, h7⟩ := h
  have := hb.size
  have e := hb.block w.heap.size (by omega)
  exact ⟨h1.trans (hb.mono (by omega)), by omega, ⟨(cellOn e 0).trans h3, (frozenOn e 0).trans h4, (cellOn e 5).trans h5⟩, boxAt_below h6 hb, boxAt_below h7 hb⟩
theorem set5_size (W : World) (B : Nat) (u0 u1 u2 u3 u4 : Value) : (((((W.setCell ⟨B, 0, none⟩ u0).setCell ⟨B, 1, none⟩ u1).setCell ⟨B, 2, none⟩ u2).setCell ⟨B, 3, none⟩ u3).setCell ⟨B, 4, none⟩ u4).heap.size = W.heap.size := by simp [World.setCell]
theorem chunkAt_but {B B' : Nat} {A A' : World} {v0 v1 v2 v3 v4 : Value} (h : But B' A A') (hne : B ≠ B') (hc : chunkAt A B v0 v1 v2 v3 v4) : chunkAt A' B v0 v1 v2 v3 v4 := by
  have hlt := chunkAt_lt hc
  have e := h.block B hlt hne
  obtain ⟨⟨a0, a1, a2, a3, a4⟩, f0, f1, f2, f3, f4⟩ := hc
  exact ⟨⟨(cellOn e 0).trans a0, (cellOn e 1).trans a1, (cellOn e 2).trans a2, (cellOn e 3).trans a3, (cellOn e 4).trans a4⟩, (frozenOn e 0).trans f0, (frozenOn e 1).trans f1, (frozenOn e 2).trans f2, (frozenOn e 3).trans f3, (frozenOn e 4).trans f4⟩
theorem boxAt_but {B B' : Nat} {A A' : World} {x : List Nat} (h : But B' A A') (hne : B ≠ B') (hc : boxAt A B x) : boxAt A' B x :=
  ⟨chunkAt_but h hne hc.1, (h.cellEq (chunkAt_lt hc.1) hne).trans hc.2⟩
theorem boxAt_set {A : World} {B : Nat} {x : List Nat} (y : List Nat) (h : boxAt A B x) : boxAt (((((A.setCell ⟨B, 0, none⟩ (.string (bytesOf y))).setCell ⟨B, 1, none⟩ (.int .i64 (C1 y))).setCell ⟨B, 2, none⟩ (.int .i64 (C2 y))).setCell ⟨B, 3, none⟩ (.int .i64 (C3 y))).setCell ⟨B, 4, none⟩ (.int .i64 (C4 y))) B y := by
  refine ⟨chunkAt_set h.1, ?_⟩
  exact (World.cell?_setCell_other (w := _) ⟨B, 4, none⟩ ⟨B, 5, none⟩ _ (by simp)).trans ((World.cell?_setCell_other (w := _) ⟨B, 3, none⟩ ⟨B, 5, none⟩ _ (by simp)).trans ((World.cell?_setCell_other (w := _) ⟨B, 2, none⟩ ⟨B, 5, none⟩ _ (by simp)).trans ((World.cell?_setCell_other (w := _) ⟨B, 1, none⟩ ⟨B, 5, none⟩ _ (by simp)).trans ((World.cell?_setCell_other (w := _) ⟨B, 0, none⟩ ⟨B, 5, none⟩ _ (by simp)).trans h.2))))
theorem boxes_left {w W : World} {q0 q : Option Addr} {xa xb : List Nat} (x : List Nat) (h : boxes w W q0 xa xb) :
    boxes w ((((((W.setCell ⟨w.heap.size + 1, 0, none⟩ (.string (bytesOf x))).setCell ⟨w.heap.size + 1, 1, none⟩ (.int .i64 (C1 x))).setCell ⟨w.heap.size + 1, 2, none⟩ (.int .i64 (C2 x))).setCell ⟨w.heap.size + 1, 3, none⟩ (.int .i64 (C3 x))).setCell ⟨w.heap.size + 1, 4, none⟩ (.int .i64 (C4 x))).setCell ⟨w.heap.size, 0, none⟩ (.pointer q)) q x xb ∧
    ∀ {t : T} {p : Option Addr}, isTree W p t → isTree ((((((W.setCell ⟨w.heap.size + 1, 0, none⟩ (.string (bytesOf x))).setCell ⟨w.heap.size + 1, 1, none⟩ (.int .i64 (C1 x))).setCell ⟨w.heap.size + 1, 2, none⟩ (.int .i64 (C2 x))).setCell ⟨w.heap.size + 1, 3, none⟩ (.int .i64 (C3 x))).setCell ⟨w.heap.size + 1, 4, none⟩ (.int .i64 (C4 x))).setCell ⟨w.heap.size, 0, none⟩ (.pointer q)) p t := by
  obtain ⟨h1, h2, ⟨h3, h4, h5⟩, h6, h7⟩ := h
  have B1 := but_set5 W (w.heap.size + 1) (.string (bytesOf x)) (.int .i64 (C1 x)) (.int .i64 (C2 x)) (.int .i64 (C3 x)) (.int .i64 (C4 x))
  have S1 := boxAt_set x h6
  have Z1 := below_set5 h1 (B := w.heap.size + 1) (by omega) (.string (bytesOf x)) (.int .i64 (C1 x)) (.int .i64 (C2 x)) (.int .i64 (C3 x)) (.int .i64 (C4 x))
  have E1 := set5_size W (w.heap.size + 1) (.string (bytesOf x)) (.int .i64 (C1 x)) (.int .i64 (C2 x)) (.int .i64 (C3 x)) (.int .i64 (C4 x))
  generalize (((((W.setCell ⟨w.heap.size + 1, 0, none⟩ (.string (bytesOf x))).setCell ⟨w.heap.size + 1, 1, none⟩ (.int .i64 (C1 x))).setCell ⟨w.heap.size + 1, 2, none⟩ (.int .i64 (C2 x))).setCell ⟨w.heap.size + 1, 3, none⟩ (.int .i64 (C3 x))).setCell ⟨w.heap.size + 1, 4, none⟩ (.int .i64 (C4 x))) = V at *
  have k3 := (B1.cell (b := w.heap.size) (by omega) h3)
  have k4 := (B1.frozen (b := w.heap.size) (o := 0) (by omega) (by omega)).trans h4
  have k5 := (B1.cellEq (b := w.heap.size) (o := 5) (by omega) (by omega)).trans h5
  have B2 : But w.heap.size V (V.setCell ⟨w.heap.size, 0, none⟩ (.pointer q)) := But.setCell (But.refl _ V) (p := ⟨w.heap.size, 0, none⟩) rfl _
  have e2 : (V.setCell ⟨w.heap.size, 0, none⟩ (.pointer q)).heap.size = V.heap.size := by simp [World.setCell]
  refine ⟨⟨Z1.setCell (p := ⟨w.heap.size, 0, none⟩) (Nat.le_refl _) _, by omega, ⟨World.cell?_setCell_same' _ _ _ (by rw [k3]; rfl), (World.frozen?_setCell _ _ _ _).trans k4, (World.cell?_setCell_other (w := V) ⟨w.heap.size, 0, none⟩ ⟨w.heap.size, 5, none⟩ _ (by simp)).trans k5⟩, boxAt_but B2 (by omega) S1, boxAt_but B2 (by omega) (boxAt_but B1 (by omega) h7)⟩, fun ht => isTree_but B2 k5 (isTree_but B1 h6.2 ht)⟩
theorem boxes_right {w W : World} {q0 : Option Addr} {xa xb : List Nat} (x : List Nat) (h : boxes w W q0 xa xb) :
    boxes w (((((W.setCell ⟨w.heap.size + 2, 0, none⟩ (.string (bytesOf x))).setCell ⟨w.heap.size + 2, 1, none⟩ (.int .i64 (C1 x))).setCell ⟨w.heap.size + 2, 2, none⟩ (.int .i64 (C2 x))).setCell ⟨w.heap.size + 2, 3, none⟩ (.int .i64 (C3 x))).setCell ⟨w.heap.size + 2, 4, none⟩ (.int .i64 (C4 x))) q0 xa x ∧
    ∀ {t : T} {p : Option Addr}, isTree W p t → isTree (((((W.setCell ⟨w.heap.size + 2, 0, none⟩ (.string (bytesOf x))).setCell ⟨w.heap.size + 2, 1, none⟩ (.int .i64 (C1 x))).setCell ⟨w.heap.size + 2, 2, none⟩ (.int .i64 (C2 x))).setCell ⟨w.heap.size + 2, 3, none⟩ (.int .i64 (C3 x))).setCell ⟨w.heap.size + 2, 4, none⟩ (.int .i64 (C4 x))) p t := by
  obtain ⟨h1, h2, ⟨h3, h4, h5⟩, h6, h7⟩ := h
  have B1 := but_set5 W (w.heap.size + 2) (.string (bytesOf x)) (.int .i64 (C1 x)) (.int .i64 (C2 x)) (.int .i64 (C3 x)) (.int .i64 (C4 x))
  have S1 := boxAt_set x h7
  have Z1 := below_set5 h1 (B := w.heap.size + 2) (by omega) (.string (bytesOf x)) (.int .i64 (C1 x)) (.int .i64 (C2 x)) (.int .i64 (C3 x)) (.int .i64 (C4 x))
  have E1 := set5_size W (w.heap.size + 2) (.string (bytesOf x)) (.int .i64 (C1 x)) (.int .i64 (C2 x)) (.int .i64 (C3 x)) (.int .i64 (C4 x))
  generalize (((((W.setCell ⟨w.heap.size + 2, 0, none⟩ (.string (bytesOf x))).setCell ⟨w.heap.size + 2, 1, none⟩ (.int .i64 (C1 x))).setCell ⟨w.heap.size + 2, 2, none⟩ (.int .i64 (C2 x))).setCell ⟨w.heap.size + 2, 3, none⟩ (.int .i64 (C3 x))).setCell ⟨w.heap.size + 2, 4, none⟩ (.int .i64 (C4 x))) = V at *
  exact ⟨⟨Z1, by omega, ⟨B1.cell (b := w.heap.size) (by omega) h3, (B1.frozen (b := w.heap.size) (o := 0) (by omega) (by omega)).trans h4, (B1.cellEq (b := w.heap.size) (o := 5) (by omega) (by omega)).trans h5⟩, boxAt_but B1 (by omega) h6, S1⟩, fun ht => isTree_but B1 h7.2 ht⟩

set_option maxRecDepth 100000 in
set_option maxHeartbeats 4000000 in
theorem between_any (pl pr : Option Addr) (tl tr : T) (rs : List Nat) (hr : ∀ r ∈ rs, isRune r) (w : World) (hT : Lib.Utf8Tabs 0 1 w) (htl : isTree w pl tl) (hol : okT tl) (htr : isTree w pr tr) (hor : okT tr) (hz : C1 (tl.runes ++ rs ++ tr.runes) ≤ 100000000) :
    Calls Tryd.prog 80 #[.pointer pl, .string (bytesOf rs), .pointer pr] w fun e w' => ∃ q t, e = .returned (.pointer q) ∧ isTree w' q t ∧ okT t ∧ t.runes = tl.runes ++ rs ++ tr.runes ∧ Below w.heap.size w w' := by
  refine (callsIn_wide (n := 3)).1 ?_
  refine callsIn_of_wp_marks Tryd.func80 rfl trivial ?_ rfl
  simp only [Tryd.ntmps80, List.size_toArray, List.length_cons, List.length_nil, Nat.reduceAdd, Nat.reduceSub, Array.replicate_succ, Array.replicate_zero, List.push_toArray, List.append_toArray, List.nil_append, List.cons_append]
  refine wpIn_seq_key (fun a' w' => a' = { tmps := #[.pointer pl, .string (bytesOf rs), .pointer pr, .pointer (some ⟨w.heap.size, 0, none⟩), undef, undef, .pointer none, undef, undef, undef, undef, undef, undef, undef, undef, undef, undef, undef, undef, undef, undef, undef, undef, undef, undef, undef, undef, undef, undef, undef, undef, undef, undef, undef, undef, undef, undef, undef, undef, undef], defers := [] } ∧ w' = w.alloc (.cells #[.pointer pl] 130)) (fun Q' hQ => ?_) ?_
  · have HQ : Hid _ := hQ
    clear hQ
    gi_wp2
    exact HQ.out _ _ ⟨rfl, rfl⟩
  rintro a' w' ⟨rfl, rfl⟩
  refine wpIn_seq_key (fun a' w' => a' = { tmps := #[.pointer pl, .string (bytesOf rs), .pointer pr, .pointer (some ⟨w.heap.size, 0, none⟩), undef, undef, .pointer none, .pointer (some ⟨w.heap.size + 1, 0, none⟩), .pointer (some ⟨w.heap.size + 2, 0, none⟩), undef, undef, undef, undef, undef, undef, undef, undef, undef, undef, undef, undef, undef, undef, undef, undef, undef, undef, undef, undef, undef, undef, undef, undef, undef, undef, undef, undef, undef, undef, undef], defers := [] } ∧ boxes w w' pl [] []) (fun Q' hQ => ?_) ?_
  · have HQ : Hid _ := hQ
    clear hQ
    gi_wp2
    refine HQ.out _ _ ⟨rfl, ?_⟩
    refine ⟨(((Below.refl _ w).alloc (Nat.le_refl _) _).alloc (by simp) _).alloc (by simp; omega) _, by simp, ⟨by simp [go_sem], by simp [go_sem], by simp [go_sem]⟩, ⟨?_, by simp [go_sem]⟩, ⟨?_, by simp [go_sem]⟩⟩
    · have := chunkAt_below (chunkAt_new (w.alloc (Obj.cells #[Value.pointer pl] 130)) (.string ⟨#[]⟩) (.int .i64 0) (.int .i64 0) (.int .i64 0) (.int .i64 0) 181) ((Below.refl _ _).alloc (Nat.le_refl _) (Obj.cells #[Value.string { data := #[] }, Value.int IntKind.i64 0, Value.int IntKind.i64 0, Value.int IntKind.i64 0, Value.int IntKind.i64 0] 181))
      rwa [World.size_alloc] at this
    · have := chunkAt_new ((w.alloc (Obj.cells #[Value.pointer pl] 130)).alloc (Obj.cells #[Value.string { data := #[] }, Value.int IntKind.i64 0, Value.int IntKind.i64 0, Value.int IntKind.i64 0, Value.int IntKind.i64 0] 181)) (.string ⟨#[]⟩) (.int .i64 0) (.int .i64 0) (.int .i64 0) (.int .i64 0) 181
      rwa [World.size_alloc, World.size_alloc] at this
  rintro a' w3 ⟨rfl, hbx3⟩
  refine wpIn_seq_key (fun a' w' => ∃ u10 u11 u12 u13 u14 u15 u16 q0 t0 xa, a' = { tmps := #[.pointer pl, .string (bytesOf rs), .pointer pr, .pointer (some ⟨w.heap.size, 0, none⟩), undef, undef, .pointer none, .pointer (some ⟨w.heap.size + 1, 0, none⟩), .pointer (some ⟨w.heap.size + 2, 0, none⟩), undef, u10, u11, u12, u13, u14, u15, u16, undef, undef, undef, undef, undef, undef, undef, undef, undef, undef, undef, undef, undef, undef, undef, undef, undef, undef, undef, undef, undef, undef, undef], defers := [] } ∧
    boxes w w' q0 xa [] ∧ isTree w' q0 t0 ∧ okT t0 ∧ tl.runes = t0.runes ++ xa ∧ (∀ r ∈ xa, isRune r) ∧ (encs xa).length ≤ 32) (fun Q' hQ => ?_) ?_
  · have HQ : Hid _ := hQ
    have HB3 : Hid (boxes w w3 pl [] []) := hbx3
    have HOL : Hid (okT tl) := hol
    rcases tree_at htl with ⟨rfl, rfl⟩ | ⟨bl, rfl, hne⟩
    · obtain ⟨_, _, ⟨h3, h4, _⟩, _, _⟩ := hbx3
      clear hQ htl hol htr hor hz hr hT
      gi_wp2
      exact HQ.out _ _ ⟨_, _, _, _, _, _, _, none, .nil, [], rfl, HB3.out, rfl, okT_nil, rfl, fun _ h => (by cases h), by simp [encs]⟩
    · have cL := last_any _ tl _ w3 (Nat.le_refl _) hne (isTree_below hbx3.1 htl) (okT_big hol (C1_left (C1_left hz))) hol.1
      obtain ⟨_, _, ⟨h3, h4, _⟩, _, _⟩ := hbx3
      clear hQ htl hol htr hor hz hr hT hne
      gi_wp2_with (first
        | (gi_at_call 9999)
        | fail)
      refine ⟨trivial, ?_⟩
      gi_at_call 120
      refine (callsIn_wide.2 cL).mono ?_
      rintro e w1 ⟨x, q, t, rfl, ht, he, hb1⟩
      obtain ⟨hx, ho, hrn⟩ := ended_ok he HOL.out
      have hbx1 := boxes_below HB3.out hb1
      have HB1 : Hid _ := boxes_left (q := q) x hbx1
      have HT1 : Hid _ := ht
      have HX1 : Hid (okChunk x ∧ okT t ∧ tl.runes = t.runes ++ x) := ⟨hx, ho, hrn⟩
      obtain ⟨_, hsz1, ⟨k3, k4, _⟩, ⟨⟨⟨a0, a1, a2, a3, a4⟩, f0, f1, f2, f3, f4⟩, _⟩, _⟩ := hbx1
      unfold chunkV
      clear ht he hb1 hx ho hrn h3 h4 cL
      gi_wp2
      exact HQ.out _ _ ⟨_, _, _, _, _, _, _, q, t, x, rfl, HB1.out.1, HB1.out.2 HT1.out, HX1.out.2.1, HX1.out.2.2, HX1.out.1.2.2, HX1.out.1.2.1⟩
  rintro a' w4 ⟨u10, u11, u12, u13, u14, u15, u16, q0, t0, xa, rfl, hbx4, ht0, ho0, hrn0, hxr, hxl⟩
  refine wpIn_seq_key (fun a' w' => ∃ u17 u18 u19 u20 u21 u22 u23 q1 t1 xb, a' = { tmps := #[.pointer pl, .string (bytesOf rs), .pointer q1, .pointer (some ⟨w.heap.size, 0, none⟩), undef, undef, .pointer none, .pointer (some ⟨w.heap.size + 1, 0, none⟩), .pointer (some ⟨w.heap.size + 2, 0, none⟩), undef, u10, u11, u12, u13, u14, u15, u16, u17, u18, u19, u20, u21, u22, u23, undef, undef, undef, undef, undef, undef, undef, undef, undef, undef, undef, undef, undef, undef, undef, undef], defers := [] } ∧
    boxes w w' q0 xa xb ∧ isTree w' q0 t0 ∧ isTree w' q1 t1 ∧ okT t1 ∧ tr.runes = xb ++ t1.runes ∧ (∀ r ∈ xb, isRune r) ∧ (encs xb).length ≤ 32) (fun Q' hQ => ?_) ?_
  · have HQ : Hid _ := hQ
    have HB4 : Hid (boxes w w4 q0 xa []) := hbx4
    have HT4 : Hid (isTree w4 q0 t0) := ht0
    have HOR : Hid (okT tr) := hor
    rcases tree_at htr with ⟨rfl, rfl⟩ | ⟨br, rfl, hne⟩
    · clear hQ htl hol htr hor hz hr hT hbx4 ht0 ho0 hrn0 hxr hxl
      gi_wp2
      exact HQ.out _ _ ⟨_, _, _, _, _, _, _, none, .nil, [], rfl, HB4.out, HT4.out, rfl, okT_nil, rfl, fun _ h => (by cases h), by simp [encs]⟩
    · have cR := ropefirst_any _ tr _ w4 (Nat.le_refl _) hne (isTree_below hbx4.1 htr) (okT_big hor (C1_right hz)) hor.1
      clear hQ htl hol htr hor hz hr hT hne hbx4 ht0 ho0 hrn0 hxr hxl
      gi_wp2_with (first
        | (gi_at_call 9999)
        | fail)
      refine ⟨trivial, ?_⟩
      gi_at_call 121
      refine (callsIn_wide.2 cR).mono ?_
      rintro e w1 ⟨x, q, t, rfl, ht, he, hb1⟩
      obtain ⟨hx, ho, hrn⟩ := begun_ok he HOR.out
      have hbx1 := boxes_below HB4.out hb1
      have HB1 : Hid _ := boxes_right x hbx1
      have HT1 : Hid _ := ht
      have HT2 : Hid _ := isTree_below hb1 HT4.out
      have HX1 : Hid (okChunk x ∧ okT t ∧ tr.runes = x ++ t.runes) := ⟨hx, ho, hrn⟩
      obtain ⟨_, hsz1, ⟨k3, k4, _⟩, _, ⟨⟨⟨a0, a1, a2, a3, a4⟩, f0, f1, f2, f3, f4⟩, _⟩⟩ := hbx1
      unfold chunkV
      clear ht he hb1 hx ho hrn cR
      gi_wp2
      exact HQ.out _ _ ⟨_, _, _, _, _, _, _, q, t, x, rfl, HB1.out.1, HB1.out.2 HT2.out, HB1.out.2 HT1.out, HX1.out.2.1, HX1.out.2.2, HX1.out.1.2.2, HX1.out.1.2.1⟩
  rintro a' w5 ⟨u17, u18, u19, u20, u21, u22, u23, q1, t1, xb, rfl, hbx5, ht5, ht1, ho1, hrn1, hyr, hyl⟩
  obtain ⟨M, hM⟩ : ∃ M, xa ++ rs ++ xb = M := ⟨_, rfl⟩
  have hcat : bytesOf xa ++ bytesOf rs ++ bytesOf xb = bytesOf M := by rw [bytesOf_append, bytesOf_append, hM]
  have hfull : tl.runes ++ rs ++ tr.runes = t0.runes ++ M ++ t1.runes := by rw [hrn0, hrn1, ← hM]; simp
  have hMz : C1 M ≤ 100000000 := by rw [hfull] at hz; exact C1_right (C1_left hz)
  have hz0 : C1 (t0.runes ++ M ++ t1.runes) ≤ 100000000 := by rw [← hfull]; exact hz
  have hrz : (encs rs).length ≤ 100000000 := by have h := C1_right (C1_left hz); rw [C1_len] at h; omega
  have hMr : ∀ r ∈ M, isRune r := fun r h => by
    rw [← hM] at h
    rcases List.mem_append.1 h with h | h
    · rcases List.mem_append.1 h with h | h
      · exact hxr r h
      · exact hr r h
    · exact hyr r h
  have s1 : (bytesOf xa).size + (bytesOf rs).size ≤ 400000000 := by rw [bytesOf_size, bytesOf_size]; omega
  have s2 : (bytesOf xa ++ bytesOf rs).size + (bytesOf xb).size ≤ 400000000 := by rw [bytesOf_append, bytesOf_size, bytesOf_size, encs_append, List.length_append]; omega
  have HF : Hid (tl.runes ++ rs ++ tr.runes = t0.runes ++ M ++ t1.runes) := hfull
  have HZ : Hid (C1 (t0.runes ++ M ++ t1.runes) ≤ 100000000) := hz0
  have HMR : Hid (∀ r ∈ M, isRune r) := hMr
  have HMZ : Hid (C1 M ≤ 100000000) := hMz
  have HTT : Hid (Lib.Utf8Tabs 0 1 w) := hT
  have HO0 : Hid (okT t0) := ho0
  have HO1 : Hid (okT t1) := ho1
  have HT5 : Hid (isTree w5 q0 t0) := ht5
  have HT1 : Hid (isTree w5 q1 t1) := ht1
  have HB5 : Hid (boxes w w5 q0 xa xb) := hbx5
  have cP := fun wx => pieces_any (bytesOf M) wx
  obtain ⟨_, hsz5, ⟨k3, k4, k5⟩, ⟨⟨⟨a0, _⟩, _⟩, _⟩, ⟨⟨⟨b0, _⟩, _⟩, _⟩⟩ := hbx5
  clear htl hol htr hor hz hr hT hbx4 ht0 ho0 hrn0 hxr hxl ht5 ht1 ho1 hrn1 hyr hyl hM hfull hMz hz0 hrz hMr
  gi_wp2_with (first
    | (refine ⟨trivial, ?_⟩; gi_at_call 122; refine (callsIn_wide.2 (cP _)).mono ?_; rintro e w13 ⟨rfl, rfl⟩)
    | fail)
  have hTT4 := isTree_below (w := w5) (w' := w5.alloc (.cells #[.string (bytesOf M)] 9)) ((Below.refl _ w5).alloc (Nat.le_refl _) _) HT5.out
  have hTT1 := isTree_below (w := w5) (w' := w5.alloc (.cells #[.string (bytesOf M)] 9)) ((Below.refl _ w5).alloc (Nat.le_refl _) _) HT1.out
  obtain ⟨W4, hW4⟩ : ∃ W4, W4 = w5.alloc (.cells #[.string (bytesOf M)] 9) := ⟨_, rfl⟩
  obtain ⟨sb, hsb⟩ : ∃ sb, sb = w5.heap.size := ⟨_, rfl⟩
  have h54 : Below w5.heap.size w5 W4 := by rw [hW4]; exact (Below.refl _ w5).alloc (Nat.le_refl _) _
  have hb4 : Below w.heap.size w W4 := HB5.out.1.trans (h54.mono HB5.out.1.size)
  have hs4 : W4.heap.size = sb + 1 := by rw [hW4, hsb]; simp
  have hlt : w.heap.size + 2 < sb := by omega
  have cl : W4.cell? ⟨w.heap.size, 0, none⟩ = some (.pointer q0) := (cellOn (h54.block _ (by omega)) 0).trans k3
  have fl : W4.frozen? ⟨w.heap.size, 0, none⟩ = false := (frozenOn (h54.block _ (by omega)) 0).trans k4
  have cl5 : W4.cell? ⟨w.heap.size, 5, none⟩ = none := (cellOn (h54.block _ (by omega)) 5).trans k5
  have cs : W4.cell? ⟨sb, 0, none⟩ = some (.string (bytesOf M)) := by rw [hW4, hsb]; simp [go_sem]
  have fs : W4.frozen? ⟨sb, 0, none⟩ = false := by rw [hW4, hsb]; simp [go_sem]
  have cs5 : W4.cell? ⟨sb, 5, none⟩ = none := by rw [hW4, hsb]; simp [go_sem]
  rw [← hW4] at hTT4 hTT1 ⊢
  rw [← hsb]
  have HTA : Hid (isTree W4 q0 t0) := hTT4
  have HTB : Hid (isTree W4 q1 t1) := hTT1
  clear hW4 hcat cP hTT4 hTT1 k3 k4 k5 a0 b0 s1 s2 h54 HT5 HT1 hsb hsz5
  refine wp_range_own (gf := 144) (lb := #[.pointer (some ⟨sb, 0, none⟩)]) rfl (enters_of Tryd.func144 (by kernel_rfl) rfl) (encs := fun _ (x : List Nat) => #[.string (bytesOf x)]) (fun _ _ => rfl)
    (It := fun A B => (∃ v, B = A.setCell ⟨sb, 0, none⟩ v) ∧ sb + 3 ≤ A.heap.size) (Kp := fun A B => A.heap.size ≤ B.heap.size ∧ B.heap[sb]? = A.heap[sb]?) (Z := fun _ => True) (S := fun xs => xs.flatten = M ∧ ∀ x ∈ xs, okChunk x) (Sp := fun pre => (∃ rest, M = pre.flatten ++ rest) ∧ ∀ x ∈ pre, okChunk x)
    ?seq ?its (fun h k => ⟨Nat.le_trans h.1 k.1, k.2.trans h.2⟩) ?hkb
    (fun pre W => grows2 w W w.heap.size sb q1 t1 (t0.runes ++ pre.flatten)) (fun _ _ _ => False) (fun _ _ _ => trivial) (fun _ _ _ h => h.elim) ?ii ?ib (fun _ _ _ _ h _ => h) (fun _ _ _ _ h => h) ?h0 ?round ?done (fun _ _ _ _ h => h.elim)
  case seq =>
    intro W hs1 hb1
    rw [hs4] at hs1 hb1
    have := pieces_seq M HMR.out (by have := HMZ.out; rw [C1_len] at this; omega) (fun _ => True) sb W ((hb1.cell (p := ⟨sb, 0, none⟩) (by show sb < _; omega)).trans cs) ((hb1.frozen (p := ⟨sb, 0, none⟩) (by show sb < _; omega)).trans fs)
    rw [hs1] at this
    exact this
  case its =>
    rintro A B ⟨⟨v, rfl⟩, h⟩
    rw [hs4]
    exact (Same2.refl _ A).setCell (by show sb ≠ _; omega) (by show sb ≠ _; omega) v
  case hkb =>
    intro A r
    rw [hs4]
    exact ⟨by simp, World.putObj_heap_other (by omega)⟩
  case ii =>
    rintro pre A B ⟨⟨hb, ⟨q, t, h1, h2, h3, h4, h5⟩, h6, h7, h8, h9⟩, hw1⟩ ⟨⟨v, rfl⟩, hA⟩
    have hB : But sb A (A.setCell ⟨sb, 0, none⟩ v) := But.setCell (But.refl _ A) (p := ⟨sb, 0, none⟩) rfl v
    exact ⟨⟨hb.setCell (by show w.heap.size ≤ sb; omega) v, ⟨q, t, hB.cell (by omega) h1, (hB.frozen (by omega) (by omega)).trans h2, isTree_but hB h6 h3, h4, h5⟩, ((World.cell?_setCell_other (w := A) ⟨sb, 0, none⟩ ⟨sb, 5, none⟩ v (by simp)).trans h6), (hB.cellEq (by omega) (by omega)).trans h7, (hB.cellEq (by omega) (by omega)).trans h8, by simpa [World.setCell] using h9⟩, isTree_but hB h6 hw1⟩
  case ib =>
    rintro pre A r ⟨⟨hb, ⟨q, t, h1, h2, h3, h4, h5⟩, h6, h7, h8, h9⟩, hw1⟩
    rw [hs4]
    have hB := But.putObj (sb + 2) A (.loop r)
    exact ⟨⟨hb.trans (hB.below (by omega) |>.mono (by omega)), ⟨q, t, hB.cell (by omega) h1, (hB.frozen (by omega) (by omega)).trans h2, isTree_but hB h7 h3, h4, h5⟩, (hB.cellEq (by omega) (by omega)).trans h6, none_loop (World.putObj_heap_same h9) 5, (hB.cellEq (by omega) (by omega)).trans h8, by simpa using h9⟩, isTree_but hB h7 hw1⟩
  case h0 =>
    rintro W hs hb ⟨r, hr⟩
    rw [hs4] at hs hb hr
    have hbl : Below W4.heap.size W4 W := by rw [hs4]; exact hb
    exact ⟨⟨hb4.trans (hb.mono (by omega)), ⟨q0, t0, (hb.cell (p := ⟨w.heap.size, 0, none⟩) (by show w.heap.size < _; omega)).trans cl, (hb.frozen (p := ⟨w.heap.size, 0, none⟩) (by show w.heap.size < _; omega)).trans fl, isTree_below hbl HTA.out, HO0.out, by simp⟩, (hb.cell (p := ⟨sb, 5, none⟩) (by show sb < _; omega)).trans cs5, none_loop hr 5, (hb.cell (p := ⟨w.heap.size, 5, none⟩) (by show w.heap.size < _; omega)).trans cl5, by omega⟩, isTree_below hbl HTB.out⟩
  case round =>
    rintro l pre x W hI hlW hSp
    rw [hs4] at hlW ⊢
    obtain ⟨⟨hb, ⟨q, t, h1, h2, h3, h4, h5⟩, h6, h7, h8, h9⟩, hw1⟩ := hI
    obtain ⟨⟨rest, hrs⟩, hxo⟩ := hSp
    have hx : okChunk x := hxo x (by simp)
    have HX : Hid (okChunk x) := hx
    have HL : Hid (C1 (t0.runes ++ pre.flatten ++ x) ≤ 100000000) := by
      show _ ≤ _
      have h := HZ.out
      rw [hrs] at h
      have e : t0.runes ++ ((pre ++ [x]).flatten ++ rest) ++ t1.runes = (t0.runes ++ pre.flatten ++ x) ++ (rest ++ t1.runes) := by simp
      rw [e] at h
      exact C1_left h
    have HBG : Hid (big (.node t x .nil)) := big_put h4 hx (by rw [h5]; exact HL.out)
    clear hrs hxo hx
    gi_wp2
    refine ⟨Same2.refl _ W, ⟨Nat.le_refl _, trivial⟩, ?_⟩
    intro w2 hp ⟨r, hr⟩
    have hw2 : Below w.heap.size w w2 := hb.trans ((hp.below (Nat.le_refl _)).mono (by omega))
    have hs2 : sb + 3 ≤ w2.heap.size := by rw [hp.size]; omega
    have k1 := (hp.cell (b := w.heap.size) (o := 0) (by omega)).trans h1
    have k2 := (hp.frozen (b := w.heap.size) (o := 0) (by omega)).trans h2
    have k6 := (hp.cell (b := sb) (o := 5) (by omega)).trans h6
    have k8 := (hp.cell (b := w.heap.size) (o := 5) (by omega)).trans h8
    have k7 := none_loop hr 5
    have hpB : But (sb + 2) W w2 := ⟨hp.os, hp.tape, hp.output, Nat.le_of_eq hp.size.symm, fun k _ hk => hp.block k hk⟩
    have k3 : isTree w2 q t := isTree_but hpB h7 h3
    have kw : isTree w2 q1 t1 := isTree_but hpB h7 hw1
    have HT : Hid (isTree w2 q t) := k3
    have HW1 : Hid (isTree w2 q1 t1) := kw
    have HO : Hid (okT t) := h4
    have HR5 : Hid (t.runes = t0.runes ++ pre.flatten) := h5
    have cK := fun wx (hbx : Below w.heap.size w wx) => chunkOf_any x HX.out.2.2 (by have := HX.out.2.1; have := C1_len x; omega) wx (Go.Proofs.Utf8Tabs_below HTT.out hbx)
    clear h1 h2 h3 h4 h5 h6 h7 h8 h9 k3 kw hb hp hpB hr hw1
    gi_wp2
    refine wpR_region_rel 4 5 (by kernel_rfl) rfl (by kernel_rfl) ?_
    intro w3 hb3
    obtain ⟨G, hG⟩ := exists_growth w3
    have hw3 : Below w.heap.size w w3 := hw2.trans (hb3.mono (by omega))
    have k1G : ∀ x, (G x).cell? ⟨w.heap.size, 0, none⟩ = some (.pointer q) := hG.cell ((hb3.cell (p := ⟨w.heap.size, 0, none⟩) (by show w.heap.size < _; omega)).trans k1)
    have cKG := fun x => (cK (G x) (hw3.trans ((hG.below x).mono hw3.size)))
    have k1' := k1
    clear k1
    (refine anyG_step hG (i := 0) rfl (by kernel_rfl) (by kernel_rfl) (by kernel_rfl) (fun K hK => ?_); go_simp; refine hK _ ?_; clear hK K)
    (refine anyG_step hG (i := 1) rfl (by kernel_rfl) (by kernel_rfl) (by kernel_rfl) (fun K hK => ?_); go_simp; refine hK _ ?_; clear hK K)
    (refine anyG_step hG (i := 2) rfl (by kernel_rfl) (by kernel_rfl) (by kernel_rfl) (fun K hK => ?_); go_simp; apply Exists.intro; refine ⟨fun _ => ?_, hK _ ?_⟩; exact cKG _; clear hK K)
    clear k1G cKG hG
    refine anyG_one (i := 3) rfl (by kernel_rfl) ?_
    intro w4 hb4 K hK
    have hb24 : Below w2.heap.size w2 w4 := hb3.trans (hb4.mono hb3.size)
    have ck := add_any q t x w4 (Go.Proofs.Utf8Tabs_below HTT.out (hw2.trans (hb24.mono (by omega)))) (isTree_below hb24 HT.out) HBG.out HO.out HX.out
    go_simp
    refine ck.mono ?_
    rintro e w5 ⟨q5, t5, rfl, ht5, ha5, hb5⟩
    refine ⟨_, rfl, hK _ _ hb5 ?_⟩
    clear hK K ck
    have hb25 : Below w2.heap.size w2 w5 := hb24.trans (hb5.mono hb24.size)
    have HT5 : Hid _ := ht5
    have HA5 : Hid _ := ha5
    clear ht5 ha5 hb3 hb4 hb5 hb24 hw3
    refine anyG_late (i := 4) rfl (by kernel_rfl) (by kernel_rfl) ?_
    intro w6 hb6 K hK
    have hb26 := hb25.trans (hb6.mono hb25.size)
    have c6 : w6.cell? ⟨w.heap.size, 0, none⟩ = some (.pointer q) := (hb26.cell (p := ⟨w.heap.size, 0, none⟩) (by show w.heap.size < _; omega)).trans k1'
    have f6 : w6.frozen? ⟨w.heap.size, 0, none⟩ = false := (hb26.frozen (p := ⟨w.heap.size, 0, none⟩) (by show w.heap.size < _; omega)).trans k2
    go_simp
    refine hK _ _ ?_
    clear hK K
    refine anyG_end (by kernel_rfl) ?_
    intro w7 hb7
    have HG : Hid _ := grows_put2 hw2 (by omega) hs2 k1' k2 k6 k7 k8 hb26 (isTree_below hb6 HT5.out) HA5.out.2.1 (HA5.out.1.trans (by rw [HR5.out])) (isTree_below hb26 HW1.out) (by have := hb7; rwa [show (w6.setCell ⟨w.heap.size, 0, none⟩ (.pointer q5)).heap.size = w6.heap.size by simp [World.setCell]] at this)
    clear c6 f6 hb7 k1' k2 k6 k7 k8 hb26
    gi_wp2
    refine ⟨HG.out.1, HG.out.2.1, ?_⟩
    have := HG.out.2.2
    show grows2 w w7 w.heap.size sb q1 t1 (t0.runes ++ (pre ++ [x]).flatten)
    rw [show t0.runes ++ (pre ++ [x]).flatten = t0.runes ++ pre.flatten ++ x by simp]
    exact this
  case done =>
    rintro xs W ⟨hxs, hxo⟩ hI hDef
    rw [hs4] at hDef ⊢
    obtain ⟨⟨hb, ⟨q, t, h1, h2, h3, h4, h5⟩, h6, h7, h8, h9⟩, hw1⟩ := hI
    have HS : Hid (sb + 2 < W.heap.size) := h9
    have HD : Hid (W.heap[sb + 1]? = some (.deferred (some []))) := hDef
    have HBW : Hid (Below w.heap.size w W) := hb
    have h5' : t.runes = t0.runes ++ M := by rw [h5, hxs]
    have H5 : Hid (t.runes = t0.runes ++ M) := h5'
    have cC := chain_any q q1 t t1 W (Go.Proofs.Utf8Tabs_below HTT.out hb) h3 hw1 h4 HO1.out (by rw [h5']; exact HZ.out)
    clear h2 h3 h4 h5 h5' hxs hxo hw1 h6 h7 h8 h9 hDef hb
    gi_wp2_with (first
      | (refine ⟨trivial, ?_⟩; gi_at_call 125; refine (callsIn_wide.2 cC).mono ?_; rintro e w9 ⟨q9, t9, rfl, ht9, ho9, hr9, hb9⟩)
      | fail)
    have hDef9 : w9.heap[sb + 1]? = some (.deferred (some [])) := (hb9.block (sb + 1) (by have := HS.out; omega)).trans HD.out
    have hdn : w9.cell? ⟨sb + 1, 5, none⟩ = none := by unfold World.cell?; simp [hDef9]
    have hbw9 := HBW.out.trans (hb9.mono HBW.out.size)
    refine ⟨by simp, .inl ⟨_, _, rfl, run_takeDeferred hDef9, ?_⟩⟩
    refine ⟨.pointer q9, by simp [results, Tryd.results80, go_sem], q9, t9, rfl, isTree_but (But.putObj _ _ _) hdn ht9, ho9, by rw [hr9, H5.out, HF.out], hbw9.trans (((But.putObj (sb + 1) w9 _).below (by have := HS.out; have := hb9.size; omega)).mono (by omega))⟩
end Go.Proofs.YtgmgkbbnciglhaaDoor

namespace Go.Proofs.YtgmgkbbnciglhaaDoor
open Go.RowKit
set_option linter.unusedVariables false
attribute [local go_sem] Oper.semAt_some yieldsUpon okUpon field0

set_option maxRecDepth 100000 in
set_option maxHeartbeats 2000000 in
theorem splice_bad (b : Nat) (at_ drop : Int) (s : ByteArray) (hs : s.size < 400000000) (hok : (scan s.data.toList).2 = false) (w : World) (hT : Lib.Utf8Tabs 0 1 w) :
    Calls Tryd.prog 32 #[.pointer (some ⟨b, 0, none⟩), .int .i64 at_, .int .i64 drop, .string s] w fun e w' => ∃ x, e = .returned x ∧ isAt w w' x (place s.data.toList) ∧ Below w.heap.size w w' := by
  have cC := (Count_any s hs w hT).mono (R' := fun e w' => ∃ a, e = .returned (.tuple #[cnt 0 0 0 0, .iface 172 (.pointer (some ⟨a, 0, none⟩))]) ∧ Below w.heap.size w w' ∧ isAt w w' (.iface 172 (.pointer (some ⟨a, 0, none⟩))) (place s.data.toList)) (by
    rintro e w' ⟨v, x, rfl, hb, h | h⟩
    · rw [hok] at h; cases h.1
    · obtain ⟨_, rfl, hx⟩ := h
      obtain ⟨a, rfl, hx2⟩ := hx
      exact ⟨a, rfl, hb, a, rfl, hx2⟩)
  generalize place s.data.toList = PL at *
  unfold cnt at cC
  clear hs hok hT
  go_enter Tryd.func32, Tryd.ntmps32
  go_wp2_with (first
    | (go_at_call 15; refine cC.mono ?_; rintro e w1 ⟨a, rfl, hb1, hx1⟩; have HX1 : Hid _ := hx1; clear hx1)
    | fail)
  go_ret
  obtain ⟨a', e1, h1, h2, h3, h4⟩ := HX1.out
  refine ⟨_, rfl, ⟨a', e1, h1, ?_, (World.cell?_of_block (heap_alloc_old _ _ h2)).trans h3, (World.cell?_of_block (heap_alloc_old _ _ h2)).trans h4⟩, hb1.alloc hb1.size _⟩
  rw [World.size_alloc]; omega

set_option maxRecDepth 100000 in
set_option maxHeartbeats 4000000 in
theorem splice_r1 (b : Nat) (q : Option Addr) (at_ drop n1 n2 n3 n4 p1 p2 p3 p4 : Int) (s : ByteArray) (hn : 0 ≤ n1 ∧ n1 ≤ 100000000) (h1 : at_ < 0) (w : World)
    (cC : Hid (Calls Tryd.prog 15 #[.string s] w fun e w' => e = .returned (.tuple #[.agg #[.int .i64 p1, .int .i64 p2, .int .i64 p3, .int .i64 p4], .nilIface]) ∧ Below w.heap.size w w'))
    (cT : Hid (∀ wx, Below w.heap.size w wx → Calls Tryd.prog 82 #[.pointer (some ⟨b, 0, none⟩)] wx fun e w' => e = .returned (.pointer q) ∧ w' = wx))
    (cN : Hid (∀ wx, Below w.heap.size w wx → Calls Tryd.prog 83 #[.pointer q] wx fun e w' => e = .returned (.agg #[.int .i64 n1, .int .i64 n2, .int .i64 n3, .int .i64 n4]) ∧ Below wx.heap.size wx w'))
    :
    Calls Tryd.prog 32 #[.pointer (some ⟨b, 0, none⟩), .int .i64 at_, .int .i64 drop, .string s] w fun e w' => e = .returned (.iface 23 (.int .i64 2)) ∧ Below w.heap.size w w' := by
  obtain ⟨hn0, hn1⟩ := hn
  go_enter Tryd.func32, Tryd.ntmps32
  go_wp2_with (first
    | (go_at_call 15; refine cC.out.mono ?_; rintro e w1 ⟨rfl, hb1⟩; have HB1 : Hid (Below w.heap.size w (w1.alloc (.cells #[.int .i64 p1, .int .i64 p2, .int .i64 p3, .int .i64 p4] 36))) := hb1.alloc hb1.size _; clear hb1)
    | (go_at_call 82; refine (cT.out _ HB1.out).mono ?_; rintro e wz ⟨rfl, hwz⟩; obtain rfl := hwz.symm)
    | (go_at_call 83; refine (cN.out _ HB1.out).mono ?_; rintro e w2 ⟨rfl, hb2⟩; have HB2 : Hid (Below w.heap.size w w2) := HB1.out.trans (hb2.mono HB1.out.size); clear hb2)
    | fail)
  go_ret
  exact ⟨rfl, HB2.out⟩

set_option maxRecDepth 100000 in
set_option maxHeartbeats 4000000 in
theorem splice_r2 (b : Nat) (q : Option Addr) (at_ drop n1 n2 n3 n4 p1 p2 p3 p4 : Int) (s : ByteArray) (hn : 0 ≤ n1 ∧ n1 ≤ 100000000) (h1 : ¬ at_ < 0) (h2 : n1 < at_) (w : World)
    (cC : Hid (Calls Tryd.prog 15 #[.string s] w fun e w' => e = .returned (.tuple #[.agg #[.int .i64 p1, .int .i64 p2, .int .i64 p3, .int .i64 p4], .nilIface]) ∧ Below w.heap.size w w'))
    (cT : Hid (∀ wx, Below w.heap.size w wx → Calls Tryd.prog 82 #[.pointer (some ⟨b, 0, none⟩)] wx fun e w' => e = .returned (.pointer q) ∧ w' = wx))
    (cN : Hid (∀ wx, Below w.heap.size w wx → Calls Tryd.prog 83 #[.pointer q] wx fun e w' => e = .returned (.agg #[.int .i64 n1, .int .i64 n2, .int .i64 n3, .int .i64 n4]) ∧ Below wx.heap.size wx w'))
    :
    Calls Tryd.prog 32 #[.pointer (some ⟨b, 0, none⟩), .int .i64 at_, .int .i64 drop, .string s] w fun e w' => e = .returned (.iface 23 (.int .i64 2)) ∧ Below w.heap.size w w' := by
  obtain ⟨hn0, hn1⟩ := hn
  go_enter Tryd.func32, Tryd.ntmps32
  go_wp2_with (first
    | (go_at_call 15; refine cC.out.mono ?_; rintro e w1 ⟨rfl, hb1⟩; have HB1 : Hid (Below w.heap.size w (w1.alloc (.cells #[.int .i64 p1, .int .i64 p2, .int .i64 p3, .int .i64 p4] 36))) := hb1.alloc hb1.size _; clear hb1)
    | (go_at_call 82; refine (cT.out _ HB1.out).mono ?_; rintro e wz ⟨rfl, hwz⟩; obtain rfl := hwz.symm)
    | (go_at_call 83; refine (cN.out _ HB1.out).mono ?_; rintro e w2 ⟨rfl, hb2⟩; have HB2 : Hid (Below w.heap.size w w2) := HB1.out.trans (hb2.mono HB1.out.size); clear hb2)
    | fail)
  go_ret
  exact ⟨rfl, HB2.out⟩

set_option maxRecDepth 100000 in
set_option maxHeartbeats 4000000 in
theorem splice_r3 (b : Nat) (q : Option Addr) (at_ drop n1 n2 n3 n4 p1 p2 p3 p4 : Int) (s : ByteArray) (hn : 0 ≤ n1 ∧ n1 ≤ 100000000) (h1 : ¬ at_ < 0) (h2 : ¬ n1 < at_) (h3 : drop < 0) (w : World)
    (cC : Hid (Calls Tryd.prog 15 #[.string s] w fun e w' => e = .returned (.tuple #[.agg #[.int .i64 p1, .int .i64 p2, .int .i64 p3, .int .i64 p4], .nilIface]) ∧ Below w.heap.size w w'))
    (cT : Hid (∀ wx, Below w.heap.size w wx → Calls Tryd.prog 82 #[.pointer (some ⟨b, 0, none⟩)] wx fun e w' => e = .returned (.pointer q) ∧ w' = wx))
    (cN : Hid (∀ wx, Below w.heap.size w wx → Calls Tryd.prog 83 #[.pointer q] wx fun e w' => e = .returned (.agg #[.int .i64 n1, .int .i64 n2, .int .i64 n3, .int .i64 n4]) ∧ Below wx.heap.size wx w'))
    :
    Calls Tryd.prog 32 #[.pointer (some ⟨b, 0, none⟩), .int .i64 at_, .int .i64 drop, .string s] w fun e w' => e = .returned (.iface 23 (.int .i64 2)) ∧ Below w.heap.size w w' := by
  obtain ⟨hn0, hn1⟩ := hn
  go_enter Tryd.func32, Tryd.ntmps32
  go_wp2_with (first
    | (go_at_call 15; refine cC.out.mono ?_; rintro e w1 ⟨rfl, hb1⟩; have HB1 : Hid (Below w.heap.size w (w1.alloc (.cells #[.int .i64 p1, .int .i64 p2, .int .i64 p3, .int .i64 p4] 36))) := hb1.alloc hb1.size _; clear hb1)
    | (go_at_call 82; refine (cT.out _ HB1.out).mono ?_; rintro e wz ⟨rfl, hwz⟩; obtain rfl := hwz.symm)
    | (go_at_call 83; refine (cN.out _ HB1.out).mono ?_; rintro e w2 ⟨rfl, hb2⟩; have HB2 : Hid (Below w.heap.size w w2) := HB1.out.trans (hb2.mono HB1.out.size); clear hb2)
    | fail)
  go_ret
  exact ⟨rfl, HB2.out⟩

set_option maxRecDepth 100000 in
set_option maxHeartbeats 4000000 in
theorem splice_r4 (b : Nat) (q : Option Addr) (at_ drop n1 n2 n3 n4 p1 p2 p3 p4 : Int) (s : ByteArray) (hn : 0 ≤ n1 ∧ n1 ≤ 100000000) (h1 : ¬ at_ < 0) (h2 : ¬ n1 < at_) (h3 : ¬ drop < 0) (h4 : n1 - at_ < drop) (w : World)
    (cC : Hid (Calls Tryd.prog 15 #[.string s] w fun e w' => e = .returned (.tuple #[.agg #[.int .i64 p1, .int .i64 p2, .int .i64 p3, .int .i64 p4], .nilIface]) ∧ Below w.heap.size w w'))
    (cT : Hid (∀ wx, Below w.heap.size w wx → Calls Tryd.prog 82 #[.pointer (some ⟨b, 0, none⟩)] wx fun e w' => e = .returned (.pointer q) ∧ w' = wx))
    (cN : Hid (∀ wx, Below w.heap.size w wx → Calls Tryd.prog 83 #[.pointer q] wx fun e w' => e = .returned (.agg #[.int .i64 n1, .int .i64 n2, .int .i64 n3, .int .i64 n4]) ∧ Below wx.heap.size wx w'))
    :
    Calls Tryd.prog 32 #[.pointer (some ⟨b, 0, none⟩), .int .i64 at_, .int .i64 drop, .string s] w fun e w' => e = .returned (.iface 23 (.int .i64 2)) ∧ Below w.heap.size w w' := by
  obtain ⟨hn0, hn1⟩ := hn
  go_enter Tryd.func32, Tryd.ntmps32
  go_wp2_with (first
    | (go_at_call 15; refine cC.out.mono ?_; rintro e w1 ⟨rfl, hb1⟩; have HB1 : Hid (Below w.heap.size w (w1.alloc (.cells #[.int .i64 p1, .int .i64 p2, .int .i64 p3, .int .i64 p4] 36))) := hb1.alloc hb1.size _; clear hb1)
    | (go_at_call 82; refine (cT.out _ HB1.out).mono ?_; rintro e wz ⟨rfl, hwz⟩; obtain rfl := hwz.symm)
    | (go_at_call 83; refine (cN.out _ HB1.out).mono ?_; rintro e w2 ⟨rfl, hb2⟩; have HB2 : Hid (Below w.heap.size w w2) := HB1.out.trans (hb2.mono HB1.out.size); clear hb2)
    | fail)
  go_ret
  exact ⟨rfl, HB2.out⟩

set_option maxRecDepth 100000 in
set_option maxHeartbeats 4000000 in
theorem splice_a1 (b : Nat) (q : Option Addr) (at_ drop n1 n2 n3 n4 p1 p2 p3 p4 : Int) (s : ByteArray) (hn : 0 ≤ n1 ∧ n1 ≤ 100000000) (h1 : ¬ at_ < 0) (h2 : ¬ n1 < at_) (h3 : ¬ drop < 0) (h4 : ¬ n1 - at_ < drop) (w : World)
    (cC : Hid (Calls Tryd.prog 15 #[.string s] w fun e w' => e = .returned (.tuple #[.agg #[.int .i64 p1, .int .i64 p2, .int .i64 p3, .int .i64 p4], .nilIface]) ∧ Below w.heap.size w w'))
    (cT : Hid (∀ wx, Below w.heap.size w wx → Calls Tryd.prog 82 #[.pointer (some ⟨b, 0, none⟩)] wx fun e w' => e = .returned (.pointer q) ∧ w' = wx))
    (cN : Hid (∀ wx, Below w.heap.size w wx → Calls Tryd.prog 83 #[.pointer q] wx fun e w' => e = .returned (.agg #[.int .i64 n1, .int .i64 n2, .int .i64 n3, .int .i64 n4]) ∧ Below wx.heap.size wx w'))
    (cW1 : Hid (∀ wx, Below w.heap.size w wx → Calls Tryd.prog 84 #[.pointer q, .int .i64 at_] wx fun e w' => e = .returned (.bool false) ∧ Below wx.heap.size wx w'))
    :
    Calls Tryd.prog 32 #[.pointer (some ⟨b, 0, none⟩), .int .i64 at_, .int .i64 drop, .string s] w fun e w' => e = .returned (.iface 23 (.int .i64 1)) ∧ Below w.heap.size w w' := by
  obtain ⟨hn0, hn1⟩ := hn
  go_enter Tryd.func32, Tryd.ntmps32
  go_wp2_with (first
    | (go_at_call 15; refine cC.out.mono ?_; rintro e w1 ⟨rfl, hb1⟩; have HB1 : Hid (Below w.heap.size w (w1.alloc (.cells #[.int .i64 p1, .int .i64 p2, .int .i64 p3, .int .i64 p4] 36))) := hb1.alloc hb1.size _; clear hb1)
    | (go_at_call 82; refine (cT.out _ HB1.out).mono ?_; rintro e wz ⟨rfl, hwz⟩; obtain rfl := hwz.symm)
    | (go_at_call 83; refine (cN.out _ HB1.out).mono ?_; rintro e w2 ⟨rfl, hb2⟩; have HB2 : Hid (Below w.heap.size w w2) := HB1.out.trans (hb2.mono HB1.out.size); clear hb2)
    | (go_at_call 84; refine (cW1.out _ HB2.out).mono ?_; rintro e w3 ⟨rfl, hb3⟩; have HB3 : Hid (Below w.heap.size w w3) := HB2.out.trans (hb3.mono HB2.out.size); clear hb3)
    | fail)
  go_ret
  exact ⟨rfl, HB3.out⟩

set_option maxRecDepth 100000 in
set_option maxHeartbeats 4000000 in
theorem splice_a2 (b : Nat) (q : Option Addr) (at_ drop n1 n2 n3 n4 p1 p2 p3 p4 : Int) (s : ByteArray) (hn : 0 ≤ n1 ∧ n1 ≤ 100000000) (h1 : ¬ at_ < 0) (h2 : ¬ n1 < at_) (h3 : ¬ drop < 0) (h4 : ¬ n1 - at_ < drop) (w : World)
    (cC : Hid (Calls Tryd.prog 15 #[.string s] w fun e w' => e = .returned (.tuple #[.agg #[.int .i64 p1, .int .i64 p2, .int .i64 p3, .int .i64 p4], .nilIface]) ∧ Below w.heap.size w w'))
    (cT : Hid (∀ wx, Below w.heap.size w wx → Calls Tryd.prog 82 #[.pointer (some ⟨b, 0, none⟩)] wx fun e w' => e = .returned (.pointer q) ∧ w' = wx))
    (cN : Hid (∀ wx, Below w.heap.size w wx → Calls Tryd.prog 83 #[.pointer q] wx fun e w' => e = .returned (.agg #[.int .i64 n1, .int .i64 n2, .int .i64 n3, .int .i64 n4]) ∧ Below wx.heap.size wx w'))
    (cW1 : Hid (∀ wx, Below w.heap.size w wx → Calls Tryd.prog 84 #[.pointer q, .int .i64 at_] wx fun e w' => e = .returned (.bool true) ∧ Below wx.heap.size wx w'))
    (cW2 : Hid (∀ wx, Below w.heap.size w wx → Calls Tryd.prog 84 #[.pointer q, .int .i64 (at_ + drop)] wx fun e w' => e = .returned (.bool false) ∧ Below wx.heap.size wx w'))
    :
    Calls Tryd.prog 32 #[.pointer (some ⟨b, 0, none⟩), .int .i64 at_, .int .i64 drop, .string s] w fun e w' => e = .returned (.iface 23 (.int .i64 1)) ∧ Below w.heap.size w w' := by
  obtain ⟨hn0, hn1⟩ := hn
  go_enter Tryd.func32, Tryd.ntmps32
  go_wp2_with (first
    | (go_at_call 15; refine cC.out.mono ?_; rintro e w1 ⟨rfl, hb1⟩; have HB1 : Hid (Below w.heap.size w (w1.alloc (.cells #[.int .i64 p1, .int .i64 p2, .int .i64 p3, .int .i64 p4] 36))) := hb1.alloc hb1.size _; clear hb1)
    | (go_at_call 82; refine (cT.out _ HB1.out).mono ?_; rintro e wz ⟨rfl, hwz⟩; obtain rfl := hwz.symm)
    | (go_at_call 83; refine (cN.out _ HB1.out).mono ?_; rintro e w2 ⟨rfl, hb2⟩; have HB2 : Hid (Below w.heap.size w w2) := HB1.out.trans (hb2.mono HB1.out.size); clear hb2)
    | (have _ := HB3; go_at_call 84; refine (cW2.out _ HB3.out).mono ?_; rintro e w4 ⟨rfl, hb4⟩; have HB4 : Hid (Below w.heap.size w w4) := HB3.out.trans (hb4.mono HB3.out.size); clear hb4)
    | (go_at_call 84; refine (cW1.out _ HB2.out).mono ?_; rintro e w3 ⟨rfl, hb3⟩; have HB3 : Hid (Below w.heap.size w w3) := HB2.out.trans (hb3.mono HB2.out.size); clear hb3)
    | fail)
  go_ret
  exact ⟨rfl, HB4.out⟩

set_option maxRecDepth 100000 in
set_option maxHeartbeats 4000000 in
theorem splice_full (b : Nat) (q : Option Addr) (at_ drop n1 n2 n3 n4 p1 p2 p3 p4 : Int) (s : ByteArray) (hn : 0 ≤ n1 ∧ n1 ≤ 100000000) (h1 : ¬ at_ < 0) (h2 : ¬ n1 < at_) (h3 : ¬ drop < 0) (h4 : ¬ n1 - at_ < drop) (h5 : 8000 - (n1 - drop) < (s.size : Int)) (h6 : s.size < 400000000) (w : World)
    (cC : Hid (Calls Tryd.prog 15 #[.string s] w fun e w' => e = .returned (.tuple #[.agg #[.int .i64 p1, .int .i64 p2, .int .i64 p3, .int .i64 p4], .nilIface]) ∧ Below w.heap.size w w'))
    (cT : Hid (∀ wx, Below w.heap.size w wx → Calls Tryd.prog 82 #[.pointer (some ⟨b, 0, none⟩)] wx fun e w' => e = .returned (.pointer q) ∧ w' = wx))
    (cN : Hid (∀ wx, Below w.heap.size w wx → Calls Tryd.prog 83 #[.pointer q] wx fun e w' => e = .returned (.agg #[.int .i64 n1, .int .i64 n2, .int .i64 n3, .int .i64 n4]) ∧ Below wx.heap.size wx w'))
    (cW1 : Hid (∀ wx, Below w.heap.size w wx → Calls Tryd.prog 84 #[.pointer q, .int .i64 at_] wx fun e w' => e = .returned (.bool true) ∧ Below wx.heap.size wx w'))
    (cW2 : Hid (∀ wx, Below w.heap.size w wx → Calls Tryd.prog 84 #[.pointer q, .int .i64 (at_ + drop)] wx fun e w' => e = .returned (.bool true) ∧ Below wx.heap.size wx w'))
    :
    Calls Tryd.prog 32 #[.pointer (some ⟨b, 0, none⟩), .int .i64 at_, .int .i64 drop, .string s] w fun e w' => e = .returned (.iface 23 (.int .i64 12)) ∧ Below w.heap.size w w' := by
  obtain ⟨hn0, hn1⟩ := hn
  go_enter Tryd.func32, Tryd.ntmps32
  go_wp2_with (first
    | (go_at_call 15; refine cC.out.mono ?_; rintro e w1 ⟨rfl, hb1⟩; have HB1 : Hid (Below w.heap.size w (w1.alloc (.cells #[.int .i64 p1, .int .i64 p2, .int .i64 p3, .int .i64 p4] 36))) := hb1.alloc hb1.size _; clear hb1)
    | (go_at_call 82; refine (cT.out _ HB1.out).mono ?_; rintro e wz ⟨rfl, hwz⟩; obtain rfl := hwz.symm)
    | (go_at_call 83; refine (cN.out _ HB1.out).mono ?_; rintro e w2 ⟨rfl, hb2⟩; have HB2 : Hid (Below w.heap.size w w2) := HB1.out.trans (hb2.mono HB1.out.size); clear hb2)
    | (have _ := HB3; go_at_call 84; refine (cW2.out _ HB3.out).mono ?_; rintro e w4 ⟨rfl, hb4⟩; have HB4 : Hid (Below w.heap.size w w4) := HB3.out.trans (hb4.mono HB3.out.size); clear hb4)
    | (go_at_call 84; refine (cW1.out _ HB2.out).mono ?_; rintro e w3 ⟨rfl, hb3⟩; have HB3 : Hid (Below w.heap.size w w3) := HB2.out.trans (hb3.mono HB2.out.size); clear hb3)
    | fail)
  go_ret
  exact ⟨rfl, HB4.out⟩

set_option maxRecDepth 100000 in
set_option maxHeartbeats 4000000 in
theorem splice_put (b : Nat) (q : Option Addr) (at_ drop n1 n2 n3 n4 p1 p2 p3 p4 : Int) (s : ByteArray) (hn : 0 ≤ n1 ∧ n1 ≤ 100000000) (h1 : ¬ at_ < 0) (h2 : ¬ n1 < at_) (h3 : ¬ drop < 0) (h4 : ¬ n1 - at_ < drop) (h5 : ¬ 8000 - (n1 - drop) < (s.size : Int)) (h6 : s.size < 400000000) (w : World) (rs : List Nat) (hbw : b < w.heap.size) (k1 : w.cell? ⟨b, 0, none⟩ = some (.pointer q)) (k2 : w.frozen? ⟨b, 0, none⟩ = false) (k3 : w.cell? ⟨b, 5, none⟩ = none)
    (ra rx rb : List Nat)
    (cC : Hid (Calls Tryd.prog 15 #[.string s] w fun e w' => e = .returned (.tuple #[.agg #[.int .i64 p1, .int .i64 p2, .int .i64 p3, .int .i64 p4], .nilIface]) ∧ Below w.heap.size w w'))
    (cT : Hid (∀ wx, Below w.heap.size w wx → Calls Tryd.prog 82 #[.pointer (some ⟨b, 0, none⟩)] wx fun e w' => e = .returned (.pointer q) ∧ w' = wx))
    (cN : Hid (∀ wx, Below w.heap.size w wx → Calls Tryd.prog 83 #[.pointer q] wx fun e w' => e = .returned (.agg #[.int .i64 n1, .int .i64 n2, .int .i64 n3, .int .i64 n4]) ∧ Below wx.heap.size wx w'))
    (cW1 : Hid (∀ wx, Below w.heap.size w wx → Calls Tryd.prog 84 #[.pointer q, .int .i64 at_] wx fun e w' => e = .returned (.bool true) ∧ Below wx.heap.size wx w'))
    (cW2 : Hid (∀ wx, Below w.heap.size w wx → Calls Tryd.prog 84 #[.pointer q, .int .i64 (at_ + drop)] wx fun e w' => e = .returned (.bool true) ∧ Below wx.heap.size wx w'))
    (cS1 : Hid (∀ wx, Below w.heap.size w wx → Calls Tryd.prog 85 #[.pointer q, .int .i64 at_] wx (parted wx ra rx)))
    (cS2 : Hid (∀ wx q2 t2, Below w.heap.size w wx → isTree wx q2 t2 → okT t2 → t2.runes = rx → ∃ rd, Calls Tryd.prog 85 #[.pointer q2, .int .i64 drop] wx (parted wx rd rb)))
    (cB : Hid (∀ wx qa ta qb tb, Below w.heap.size w wx → isTree wx qa ta → okT ta → ta.runes = ra → isTree wx qb tb → okT tb → tb.runes = rb → Calls Tryd.prog 80 #[.pointer qa, .string s, .pointer qb] wx fun e w' => ∃ q t, e = .returned (.pointer q) ∧ isTree w' q t ∧ okT t ∧ t.runes = rs ∧ Below wx.heap.size wx w')) :
    Calls Tryd.prog 32 #[.pointer (some ⟨b, 0, none⟩), .int .i64 at_, .int .i64 drop, .string s] w fun e w' => e = .returned .nilIface ∧ isRope w' b rs ∧ But b w w' := by
  have K3 : Hid (w.cell? ⟨b, 5, none⟩ = none) := k3
  have KB : Hid (b < w.heap.size) := hbw
  clear k3
  obtain ⟨hn0, hn1⟩ := hn
  go_enter Tryd.func32, Tryd.ntmps32
  go_wp2_with (first
    | (go_at_call 15; refine cC.out.mono ?_; rintro e w1 ⟨rfl, hb1⟩; have HB1 : Hid (Below w.heap.size w (w1.alloc (.cells #[.int .i64 p1, .int .i64 p2, .int .i64 p3, .int .i64 p4] 36))) := hb1.alloc hb1.size _; clear hb1)
    | (go_at_call 82; refine (cT.out _ HB1.out).mono ?_; rintro e wz ⟨rfl, hwz⟩; obtain rfl := hwz.symm)
    | (go_at_call 83; refine (cN.out _ HB1.out).mono ?_; rintro e w2 ⟨rfl, hb2⟩; have HB2 : Hid (Below w.heap.size w w2) := HB1.out.trans (hb2.mono HB1.out.size); clear hb2)
    | (have _ := HB3; go_at_call 84; refine (cW2.out _ HB3.out).mono ?_; rintro e w4 ⟨rfl, hb4⟩; have HB4 : Hid (Below w.heap.size w w4) := HB3.out.trans (hb4.mono HB3.out.size); clear hb4)
    | (go_at_call 84; refine (cW1.out _ HB2.out).mono ?_; rintro e w3 ⟨rfl, hb3⟩; have HB3 : Hid (Below w.heap.size w w3) := HB2.out.trans (hb3.mono HB2.out.size); clear hb3)
    | (have _ := HB5; go_at_call 85; obtain ⟨rd, cs⟩ := cS2.out _ _ _ HB5.out HT5.out.2.1.1 HT5.out.2.1.2.1 HT5.out.2.1.2.2; refine cs.mono ?_; rintro e w6 ⟨qc, tc, qd, td, rfl, hc, hd, hb6⟩; have HB6 : Hid (Below w.heap.size w w6) := HB5.out.trans (hb6.mono HB5.out.size); have HT6 : Hid ((isTree w6 qa ta ∧ okT ta ∧ ta.runes = ra) ∧ (isTree w6 qd td ∧ okT td ∧ td.runes = rb)) := ⟨⟨isTree_below hb6 HT5.out.1.1, HT5.out.1.2⟩, hd⟩; clear hb6 hc hd cs)
    | (go_at_call 85; refine (cS1.out _ HB4.out).mono ?_; rintro e w5 ⟨qa, ta, qb, tb, rfl, ha, hb, hb5⟩; have HB5 : Hid (Below w.heap.size w w5) := HB4.out.trans (hb5.mono HB4.out.size); have HT5 : Hid ((isTree w5 qa ta ∧ okT ta ∧ ta.runes = ra) ∧ (isTree w5 qb tb ∧ okT tb ∧ tb.runes = rx) ∧ True) := ⟨ha, hb, trivial⟩; clear ha hb hb5)
    | (go_at_call 80; refine (cB.out _ _ _ _ _ HB6.out HT6.out.1.1 HT6.out.1.2.1 HT6.out.1.2.2 HT6.out.2.1 HT6.out.2.2.1 HT6.out.2.2.2).mono ?_; rintro e w7 ⟨q7, t7, rfl, ht7, ho7, hr7, hb7⟩; have hbw7 := HB6.out.trans (hb7.mono HB6.out.size); have HB7 : Hid (Below w.heap.size w w7) := hbw7; have HT7 : Hid (isTree w7 q7 t7 ∧ okT t7 ∧ t7.runes = rs) := ⟨ht7, ho7, hr7⟩; have m1 := (cellOn (hbw7.block b hbw) 0).trans k1; have m2 := (frozenOn (hbw7.block b hbw) 0).trans k2; have M5 : Hid (w7.cell? ⟨b, 5, none⟩ = none) := (cellOn (hbw7.block b hbw) 5).trans K3.out; clear ht7 ho7 hr7 hb7 hbw7)
    | fail)
  go_ret
  have hB : But b w7 (w7.setCell ⟨b, 0, none⟩ (.pointer q7)) := But.setCell (But.refl _ w7) (p := ⟨b, 0, none⟩) rfl _
  refine ⟨rfl, ⟨q7, t7, World.cell?_setCell_same' _ _ _ (by rw [m1]; rfl), (World.frozen?_setCell _ _ _ _).trans m2, (World.cell?_setCell_other (w := w7) ⟨b, 0, none⟩ ⟨b, 5, none⟩ _ (by simp)).trans M5.out, isTree_but hB M5.out HT7.out.1, HT7.out.2⟩, (But.of_below HB7.out).trans hB⟩
end Go.Proofs.YtgmgkbbnciglhaaDoor

namespace Go.Proofs.YtgmgkbbnciglhaaDoor

/-- A part of an operation. -/
structure Pt where
  keep : Int
  drop : Int
  put : List UInt8
deriving DecidableEq

/-- What a gathering keeps: what it told, what is put and dropped since. -/
structure NSt where
  out : List Pt
  put : List UInt8
  drop : Int
deriving DecidableEq

def tellP (s : NSt) : List Pt := s.out ++ ((if s.put = [] then [] else [⟨0, 0, s.put⟩]) ++ (if s.drop = 0 then [] else [⟨0, s.drop, []⟩]))
def lastKeeps (l : List Pt) : Bool := match l.getLast? with
  | some p => decide (0 < p.keep)
  | none => false
def pushKeep (l : List Pt) (k : Int) : List Pt := match l.getLast? with
  | some p => if 0 < p.keep then l.dropLast ++ [⟨p.keep + k, p.drop, p.put⟩] else l ++ [⟨k, 0, []⟩]
  | none => l ++ [⟨k, 0, []⟩]
def addP (s : NSt) (p : Pt) : NSt := if p.keep = 0 then ⟨s.out, s.put ++ p.put, s.drop + p.drop⟩ else ⟨pushKeep (tellP ⟨s.out, s.put ++ p.put, s.drop + p.drop⟩) p.keep, [], 0⟩
def nst0 : NSt := ⟨[], [], 0⟩
def normP (op : List Pt) : List Pt := tellP (op.foldl addP nst0)

theorem pushKeep_more (l : List Pt) (a b : Int) (ha : 0 < a) : pushKeep (pushKeep l a) b = pushKeep l (a + b) := by
  unfold pushKeep
  cases h : l.getLast? with
  | none => simp [ha]
  | some p =>
    by_cases hp : 0 < p.keep
    · have h2 : 0 < p.keep + a := by omega
      simp [hp, h2, Int.add_assoc]
    · simp [hp, ha]

theorem tellP_done (l : List Pt) : tellP ⟨l, [], 0⟩ = l := by simp [tellP]
theorem addP_none (s : NSt) : addP s ⟨0, 0, []⟩ = s := by simp [addP]
theorem addP_split (s : NSt) (k d : Int) (q : List UInt8) : addP s ⟨k, d, q⟩ = addP (addP (addP s ⟨0, 0, q⟩) ⟨0, d, []⟩) ⟨k, 0, []⟩ := by
  by_cases h : k = 0
  · subst h; simp [addP]
  · simp [addP, h]
theorem addP_drops (s : NSt) (a b : Int) : addP (addP s ⟨0, a, []⟩) ⟨0, b, []⟩ = addP s ⟨0, a + b, []⟩ := by simp [addP, Int.add_assoc]
theorem addP_puts (s : NSt) (a b : List UInt8) : addP (addP s ⟨0, 0, a⟩) ⟨0, 0, b⟩ = addP s ⟨0, 0, a ++ b⟩ := by simp [addP]
theorem addP_keeps (s : NSt) (a b : Int) (ha : 0 < a) (hb : 0 ≤ b) : addP (addP s ⟨a, 0, []⟩) ⟨b, 0, []⟩ = addP s ⟨a + b, 0, []⟩ := by
  have h1 : a ≠ 0 := by omega
  have h2 : a + b ≠ 0 := by omega
  by_cases h : b = 0
  · subst h; simp [addP, h1]
  · simp [addP, h, h1, h2, tellP_done, pushKeep_more _ a b ha]

/-- One byte of the text: dropped, or kept. -/
def unitP (d : Bool) : Pt := if d then ⟨0, 1, []⟩ else ⟨1, 0, []⟩

/-- Gaps so far: what is put ahead of each byte, and whether it is dropped; and what is put behind them. -/
abbrev GSt := List (List UInt8 × Bool) × List UInt8
def tick (d : Bool) (g : GSt) : GSt := (g.1 ++ [(g.2, d)], [])
def ticks (d : Bool) : Nat → GSt → GSt
  | 0, g => g
  | n + 1, g => ticks d n (tick d g)
def spreadP (g : GSt) (p : Pt) : GSt := ticks false p.keep.toNat (ticks true p.drop.toNat (g.1, g.2 ++ p.put))
def spreads (op : List Pt) : GSt := op.foldl spreadP ([], [])

theorem ticks_len (d : Bool) : ∀ (n : Nat) (g : GSt), (ticks d n g).1.length = g.1.length + n
  | 0, _ => rfl
  | n + 1, g => by rw [ticks, ticks_len d n, tick, List.length_append, List.length_singleton]; omega
theorem ticks_more (d : Bool) : ∀ (n : Nat) (g : GSt), ticks d (n + 1) g = tick d (ticks d n g)
  | 0, _ => rfl
  | n + 1, g => by rw [ticks, ticks_more d n, ticks]
def lenP (p : Pt) : Int := p.keep + p.drop
theorem spreadP_len (g : GSt) (p : Pt) (hk : 0 ≤ p.keep) (hd : 0 ≤ p.drop) : ((spreadP g p).1.length : Int) = g.1.length + lenP p := by
  unfold spreadP lenP
  rw [ticks_len, ticks_len]
  show ((g.1.length + _ + _ : Nat) : Int) = _
  omega

def gapAdd (s : NSt) (x : List UInt8 × Bool) : NSt := addP (addP s ⟨0, 0, x.1⟩) (unitP x.2)
def runG (g : GSt) : NSt := addP (g.1.foldl gapAdd nst0) ⟨0, 0, g.2⟩
theorem runG_tick (d : Bool) (g : GSt) : runG (tick d g) = addP (runG g) (unitP d) := by
  unfold runG tick
  rw [List.foldl_append]
  show addP (gapAdd _ _) ⟨0, 0, []⟩ = _
  rw [addP_none]
  rfl
theorem runG_drops : ∀ (n : Nat) (g : GSt), runG (ticks true n g) = addP (runG g) ⟨0, n, []⟩
  | 0, g => (addP_none _).symm
  | n + 1, g => by
    rw [ticks, runG_drops n, runG_tick]
    show addP (addP _ ⟨0, 1, []⟩) _ = _
    rw [addP_drops]
    congr 2
    omega
theorem runG_keeps : ∀ (n : Nat) (g : GSt), runG (ticks false n g) = addP (runG g) ⟨n, 0, []⟩
  | 0, g => (addP_none _).symm
  | n + 1, g => by
    rw [ticks, runG_keeps n, runG_tick]
    show addP (addP _ ⟨1, 0, []⟩) _ = _
    rw [addP_keeps _ _ _ (by omega) (by omega)]
    congr 2
    omega
theorem runG_spread (g : GSt) (p : Pt) (hk : 0 ≤ p.keep) (hd : 0 ≤ p.drop) : runG (spreadP g p) = addP (runG g) p := by
  obtain ⟨k, d, q⟩ := p
  unfold spreadP
  rw [runG_keeps, runG_drops]
  have : runG (g.1, g.2 ++ q) = addP (runG g) ⟨0, 0, q⟩ := by unfold runG; rw [addP_puts]
  rw [this, addP_split _ k d q]
  show addP (addP _ ⟨0, (d.toNat : Int), []⟩) ⟨(k.toNat : Int), 0, []⟩ = _
  rw [Int.toNat_of_nonneg hk, Int.toNat_of_nonneg hd]
theorem runG_spreads (op : List Pt) (h : ∀ p ∈ op, 0 ≤ p.keep ∧ 0 ≤ p.drop) : runG (spreads op) = op.foldl addP nst0 := by
  have key : ∀ (l : List Pt) (g : GSt), (∀ p ∈ l, 0 ≤ p.keep ∧ 0 ≤ p.drop) → runG (l.foldl spreadP g) = l.foldl addP (runG g) := by
    intro l
    induction l with
    | nil => intros; rfl
    | cons p l ih =>
      intro g h
      rw [List.foldl_cons, List.foldl_cons, ih _ fun x hx => h x (List.mem_cons_of_mem _ hx), runG_spread g p (h p (List.mem_cons_self ..)).1 (h p (List.mem_cons_self ..)).2]
  exact key op _ h

/-- What the document's own gathering keeps. -/
structure KSt where
  out : List Pt
  put : List UInt8
  drop : Int
  keep : Int
deriving DecidableEq
def kst0 : KSt := ⟨[], [], 0, 0⟩
/-- What is put at a gap, or that a byte behind it is dropped: what was kept is told. -/
def flushK (s : KSt) (q : List UInt8) (d : Bool) : KSt := if q ≠ [] ∨ d = true then ⟨if 0 < s.keep then s.out ++ [⟨s.keep, 0, []⟩] else s.out, s.put ++ q, s.drop, if 0 < s.keep then 0 else s.keep⟩ else s
def byteK (s : KSt) (d : Bool) : KSt := if d then ⟨s.out, s.put, s.drop + 1, s.keep⟩ else ⟨tellP ⟨s.out, s.put, s.drop⟩, [], 0, s.keep + 1⟩
def stepK (s : KSt) (x : List UInt8 × Bool) : KSt := byteK (flushK s x.1 x.2) x.2
def endK (s : KSt) : List Pt := tellP ⟨if 0 < s.keep then s.out ++ [⟨s.keep, 0, []⟩] else s.out, s.put, s.drop⟩
def gatherP (g : GSt) : List Pt := endK (flushK (g.1.foldl stepK kst0) g.2 false)

def nfK (s : KSt) : NSt := if 0 < s.keep then ⟨s.out ++ [⟨s.keep, 0, []⟩], [], 0⟩ else ⟨s.out, s.put, s.drop⟩
structure InvK (s : KSt) : Prop where
  k0 : 0 ≤ s.keep
  d0 : 0 ≤ s.drop
  quiet : 0 < s.keep → s.put = [] ∧ s.drop = 0 ∧ lastKeeps s.out = false
  last : s.keep = 0 → lastKeeps (tellP ⟨s.out, s.put, s.drop⟩) = false

theorem lastKeeps_snoc (l : List Pt) (p : Pt) : lastKeeps (l ++ [p]) = decide (0 < p.keep) := by simp [lastKeeps]
theorem pushKeep_new (l : List Pt) (k : Int) (h : lastKeeps l = false) : pushKeep l k = l ++ [⟨k, 0, []⟩] := by
  unfold lastKeeps at h
  unfold pushKeep
  cases hl : l.getLast? with
  | none => rfl
  | some p => simp only [hl, decide_eq_false_iff_not] at h; simp [h]
theorem pushKeep_snoc (l : List Pt) (a k : Int) (h : 0 < a) : pushKeep (l ++ [⟨a, 0, []⟩]) k = l ++ [⟨a + k, 0, []⟩] := by simp [pushKeep, h]
theorem lastKeeps_tell (l : List Pt) (q : List UInt8) (d : Int) (h : q ≠ [] ∨ d ≠ 0) : lastKeeps (tellP ⟨l, q, d⟩) = false := by
  unfold tellP
  by_cases hd : d = 0
  · have hq : q ≠ [] := by rcases h with h | h; exact h; exact absurd hd h
    simp [hd, hq, lastKeeps]
  · by_cases hq : q = []
    · simp [hd, hq, lastKeeps]
    · simp [hd, hq, lastKeeps]

theorem step_flush (s : KSt) (h : InvK s) (q : List UInt8) (d : Bool) : nfK (flushK s q d) = addP (nfK s) ⟨0, 0, q⟩ ∧ (q ≠ [] ∨ d = true → (flushK s q d).keep = 0) ∧ (¬ (q ≠ [] ∨ d = true) → flushK s q d = s) ∧ 0 ≤ (flushK s q d).drop := by
  unfold flushK
  have h0 := h.k0
  have hd0 := h.d0
  by_cases hc : q ≠ [] ∨ d = true
  · rw [if_pos hc]
    refine ⟨?_, ?_, fun h => absurd hc h, ?_⟩
    · by_cases hk : 0 < s.keep
      · obtain ⟨q1, q2, _⟩ := h.quiet hk
        simp [hk, nfK, addP, q1, q2]
      · have : s.keep = 0 := by omega
        simp [this, nfK, addP]
    · intro _
      by_cases hk : 0 < s.keep
      · simp [hk]
      · have : s.keep = 0 := by omega
        simp [this]
    · exact hd0
  · rw [if_neg hc]
    have hq : q = [] := by
      by_cases hq : q = []
      · exact hq
      · exact absurd (.inl hq) hc
    subst hq
    exact ⟨by simp [addP], fun h => absurd h hc, fun _ => rfl, hd0⟩

theorem step_any (s : KSt) (h : InvK s) (x : List UInt8 × Bool) : nfK (stepK s x) = gapAdd (nfK s) x ∧ InvK (stepK s x) := by
  obtain ⟨q, d⟩ := x
  obtain ⟨f1, f2, f3, f4⟩ := step_flush s h q d
  unfold gapAdd stepK
  show nfK (byteK (flushK s q d) d) = addP (addP (nfK s) ⟨0, 0, q⟩) (unitP d) ∧ InvK (byteK (flushK s q d) d)
  rw [← f1]
  generalize hs' : flushK s q d = t at *
  cases d with
  | true =>
    have hk := f2 (.inr rfl)
    have hne : t.drop + 1 ≠ 0 := by omega
    refine ⟨?_, ?_, ?_, ?_, ?_⟩
    · simp [byteK, nfK, hk, unitP, addP]
    · simp [byteK, hk]
    · simp [byteK]; omega
    · simp [byteK, hk]
    · intro _
      exact lastKeeps_tell _ _ _ (.inr hne)
  | false =>
    by_cases hq : q ≠ []
    · have hk := f2 (.inl hq)
      have hl : lastKeeps (tellP ⟨t.out, t.put, t.drop⟩) = false := by
        refine lastKeeps_tell _ _ _ (.inl ?_)
        rw [← hs']
        simp [flushK, hq]
      refine ⟨?_, ?_, ?_, ?_, ?_⟩
      · simp [byteK, nfK, hk, unitP, addP, pushKeep_new _ _ hl]
      · simp [byteK, hk]
      · simp [byteK]
      · intro _; exact ⟨rfl, rfl, hl⟩
      · simp [byteK, hk]
    · obtain rfl := f3 (by simpa using hq)
      have h0 := h.k0
      by_cases hk : 0 < t.keep
      · obtain ⟨q1, q2, q3⟩ := h.quiet hk
        refine ⟨?_, ?_, ?_, ?_, ?_⟩
        · simp [byteK, nfK, hk, unitP, addP, q1, q2, tellP_done, pushKeep_snoc _ _ _ hk]
          omega
        · simp [byteK]; omega
        · simp [byteK]
        · intro _
          refine ⟨rfl, rfl, ?_⟩
          show lastKeeps (tellP ⟨t.out, t.put, t.drop⟩) = false
          rw [q1, q2, tellP_done]; exact q3
        · simp [byteK]; omega
      · have hk0 : t.keep = 0 := by omega
        have hl := h.last hk0
        refine ⟨?_, ?_, ?_, ?_, ?_⟩
        · simp [byteK, nfK, hk0, unitP, addP, pushKeep_new _ _ hl]
        · simp [byteK, hk0]
        · simp [byteK]
        · intro _; exact ⟨rfl, rfl, hl⟩
        · simp [byteK, hk0]

theorem inv0 : InvK kst0 := ⟨by simp [kst0], by simp [kst0], by simp [kst0], by simp [kst0, tellP, lastKeeps]⟩
theorem steps_any (l : List (List UInt8 × Bool)) : ∀ (s : KSt), InvK s → nfK (l.foldl stepK s) = l.foldl gapAdd (nfK s) ∧ InvK (l.foldl stepK s) := by
  induction l with
  | nil => exact fun s h => ⟨rfl, h⟩
  | cons x l ih =>
    intro s h
    obtain ⟨h1, h2⟩ := step_any s h x
    rw [List.foldl_cons, List.foldl_cons, ← h1]
    exact ih _ h2
theorem endK_nf (s : KSt) (h : 0 < s.keep → s.put = [] ∧ s.drop = 0) : endK s = tellP (nfK s) := by
  unfold endK nfK
  by_cases hk : 0 < s.keep
  · obtain ⟨h1, h2⟩ := h hk
    simp [hk, h1, h2]
  · simp [hk]

/-- Gap by gap, or part by part: the same least form. -/
theorem gather_norm (op : List Pt) (h : ∀ p ∈ op, 0 ≤ p.keep ∧ 0 ≤ p.drop) : gatherP (spreads op) = normP op := by
  unfold gatherP normP
  obtain ⟨h1, h2⟩ := steps_any (spreads op).1 kst0 inv0
  obtain ⟨f1, f2, f3, f4⟩ := step_flush _ h2 (spreads op).2 false
  rw [endK_nf, f1, h1, ← runG_spreads op h]
  · rfl
  · intro hk
    by_cases hq : (spreads op).2 ≠ [] ∨ false = true
    · rw [f2 hq] at hk; omega
    · rw [f3 hq] at hk ⊢
      exact ⟨(h2.quiet hk).1, (h2.quiet hk).2.1⟩
end Go.Proofs.YtgmgkbbnciglhaaDoor

namespace Go.Proofs.YtgmgkbbnciglhaaDoor
set_option linter.unusedVariables false

/-- Whatever the gaps: gathered, they are what their parts add up to. -/
theorem gather_runG (G : GSt) : gatherP G = tellP (runG G) := by
  unfold gatherP
  obtain ⟨h1, h2⟩ := steps_any G.1 kst0 inv0
  obtain ⟨f1, f2, f3, f4⟩ := step_flush _ h2 G.2 false
  rw [endK_nf, f1, h1]
  · rfl
  · intro hk
    by_cases hq : G.2 ≠ [] ∨ false = true
    · rw [f2 hq] at hk; omega
    · rw [f3 hq] at hk ⊢
      exact ⟨(h2.quiet hk).1, (h2.quiet hk).2.1⟩

def lengthP (p : Pt) : Int := p.keep + p.drop + p.put.length
def noP : Pt := ⟨0, 0, []⟩
/-- So much off a first part; what is left of it. -/
def cutP (p : Pt) (n : Int) : Pt × List Pt :=
  if lengthP p = n then (p, [])
  else if 0 < p.keep then (⟨n, 0, []⟩, [⟨p.keep - n, p.drop, p.put⟩])
  else if 0 < p.drop then (⟨0, n, []⟩, [⟨p.keep, p.drop - n, p.put⟩])
  else (⟨0, 0, p.put.take n.toNat⟩, [⟨p.keep, p.drop, p.put.drop n.toNat⟩])
/-- The pairs that are taken, from the left on. -/
def sideP (la lb : Pt → Bool) : Nat → List Pt → List Pt → List (Pt × Pt)
  | 0, _, _ => []
  | f + 1, p :: a, b => if la p then (p, noP) :: sideP la lb f a b else match b with
    | q :: b => if lb q then (noP, q) :: sideP la lb f (p :: a) b else
      ((cutP p (min (lengthP p) (lengthP q))).1, (cutP q (min (lengthP p) (lengthP q))).1) :: sideP la lb f ((cutP p (min (lengthP p) (lengthP q))).2 ++ a) ((cutP q (min (lengthP p) (lengthP q))).2 ++ b)
    | [] => []
  | f + 1, [], q :: b => if lb q then (noP, q) :: sideP la lb f [] b else []
  | f + 1, [], [] => []

def isDropP (p : Pt) : Bool := decide (0 < p.drop)
def isKeepP (p : Pt) : Bool := decide (0 < p.keep)
def isPutP (p : Pt) : Bool := decide (p.put ≠ [])
/-- What Compose adds of a pair. -/
def compP (x : Pt × Pt) : List Pt := if isDropP x.1 || isKeepP x.2 then [x.1] else if isPutP x.2 || isKeepP x.1 then [x.2] else []
/-- What Transform adds of a pair. -/
def turnP (x : Pt × Pt) : List Pt := if isPutP x.2 then [⟨x.2.put.length, 0, []⟩] else if isPutP x.1 || isKeepP x.2 then [x.1] else []

/-- A part that is one thing, and not nothing. -/
def oneP (p : Pt) : Prop := (0 < p.keep ∧ p.drop = 0 ∧ p.put = []) ∨ (p.keep = 0 ∧ 0 < p.drop ∧ p.put = []) ∨ (p.keep = 0 ∧ p.drop = 0 ∧ p.put ≠ [])
theorem length_pos {p : Pt} (h : oneP p) : 0 < lengthP p := by
  unfold lengthP
  rcases h with ⟨h1, h2, h3⟩ | ⟨h1, h2, h3⟩ | ⟨h1, h2, h3⟩
  · rw [h2, h3]; simp; omega
  · rw [h1, h3]; simp; omega
  · have := List.length_pos_iff.2 h3; omega
theorem cut_one {p : Pt} (h : oneP p) {n : Int} (h0 : 0 < n) (hn : n ≤ lengthP p) : oneP (cutP p n).1 ∧ lengthP (cutP p n).1 = n ∧ (∀ q ∈ (cutP p n).2, oneP q ∧ lengthP q = lengthP p - n) ∧ ((cutP p n).2 = [] ↔ lengthP p = n) := by
  unfold cutP
  by_cases e : lengthP p = n
  · rw [if_pos e]; exact ⟨h, e, by simp, by simp [e]⟩
  · rw [if_neg e]
    obtain ⟨K, D, U⟩ := p
    have e' : ¬ K + D + (U.length : Int) = n := e
    have hn' : n ≤ K + D + (U.length : Int) := hn
    clear e hn
    rcases h with ⟨h1, h2, h3⟩ | ⟨h1, h2, h3⟩ | ⟨h1, h2, h3⟩
    · replace h1 : 0 < K := h1
      obtain rfl : D = 0 := h2
      obtain rfl : U = [] := h3
      have hl : (([] : List UInt8).length : Int) = 0 := rfl
      rw [hl] at e' hn'
      rw [if_pos (show 0 < (⟨K, 0, []⟩ : Pt).keep from h1)]
      refine ⟨.inl ⟨h0, rfl, rfl⟩, by simp [lengthP], ?_, ⟨fun h => (by cases h), fun h => absurd h (by simp only [lengthP, List.length_nil]; omega)⟩⟩
      intro q hq
      obtain rfl := List.mem_singleton.1 hq
      exact ⟨.inl ⟨by show 0 < K - n; omega, rfl, rfl⟩, by simp only [lengthP, List.length_nil]; omega⟩
    · obtain rfl : K = 0 := h1
      replace h2 : 0 < D := h2
      obtain rfl : U = [] := h3
      have hl : (([] : List UInt8).length : Int) = 0 := rfl
      rw [hl] at e' hn'
      rw [if_neg (show ¬ 0 < (⟨0, D, []⟩ : Pt).keep from Int.lt_irrefl 0), if_pos (show 0 < (⟨0, D, []⟩ : Pt).drop from h2)]
      refine ⟨.inr (.inl ⟨rfl, h0, rfl⟩), by simp [lengthP], ?_, ⟨fun h => (by cases h), fun h => absurd h (by simp only [lengthP, List.length_nil]; omega)⟩⟩
      intro q hq
      obtain rfl := List.mem_singleton.1 hq
      exact ⟨.inr (.inl ⟨rfl, by show 0 < D - n; omega, rfl⟩), by simp only [lengthP, List.length_nil]; omega⟩
    · obtain rfl : K = 0 := h1
      obtain rfl : D = 0 := h2
      replace h3 : U ≠ [] := h3
      rw [if_neg (show ¬ 0 < (⟨0, 0, U⟩ : Pt).keep from Int.lt_irrefl 0), if_neg (show ¬ 0 < (⟨0, 0, U⟩ : Pt).drop from Int.lt_irrefl 0)]
      have hl : (U.take n.toNat).length = n.toNat := by rw [List.length_take]; omega
      have hd : (U.drop n.toNat).length = U.length - n.toNat := List.length_drop
      refine ⟨.inr (.inr ⟨rfl, rfl, ?_⟩), by simp only [lengthP, hl]; omega, ?_, ⟨fun h => (by cases h), fun h => absurd h (by simp only [lengthP]; omega)⟩⟩
      · intro e'
        have := congrArg List.length e'
        rw [hl, List.length_nil] at this
        omega
      · intro q hq
        obtain rfl := List.mem_singleton.1 hq
        refine ⟨.inr (.inr ⟨rfl, rfl, ?_⟩), by simp only [lengthP, hd]; omega⟩
        intro e'
        have := congrArg List.length e'
        rw [hd, List.length_nil] at this
        omega
end Go.Proofs.YtgmgkbbnciglhaaDoor

namespace Go.Proofs.YtgmgkbbnciglhaaDoor
set_option linter.unusedVariables false

theorem ticks_shift (d : Bool) : ∀ (n : Nat) (l : List (List UInt8 × Bool)) (g : GSt), ticks d n (l ++ g.1, g.2) = (l ++ (ticks d n g).1, (ticks d n g).2)
  | 0, l, g => rfl
  | n + 1, l, g => by
    rw [ticks, ticks]
    have e : tick d (l ++ g.1, g.2) = (l ++ (tick d g).1, (tick d g).2) := by simp [tick]
    rw [e]
    exact ticks_shift d n l (tick d g)
theorem spreadP_shift (l : List (List UInt8 × Bool)) (g : GSt) (p : Pt) : spreadP (l ++ g.1, g.2) p = (l ++ (spreadP g p).1, (spreadP g p).2) := by
  unfold spreadP
  rw [ticks_shift true p.drop.toNat l (g.1, g.2 ++ p.put), ticks_shift]
/-- The gaps of what is yet to come, with what was put ahead of it. -/
def gapsR : List UInt8 → List Pt → GSt
  | acc, [] => ([], acc)
  | acc, p :: ps => ((spreadP ([], acc) p).1 ++ (gapsR (spreadP ([], acc) p).2 ps).1, (gapsR (spreadP ([], acc) p).2 ps).2)
theorem spreads_gaps (ps : List Pt) : ∀ (l : List (List UInt8 × Bool)) (acc : List UInt8), ps.foldl spreadP (l, acc) = (l ++ (gapsR acc ps).1, (gapsR acc ps).2) := by
  induction ps with
  | nil => intro l acc; simp [gapsR]
  | cons p ps ih =>
    intro l acc
    have e := spreadP_shift l ([], acc) p
    rw [List.append_nil] at e
    rw [List.foldl_cons, e, ih]
    simp [gapsR]
theorem spreads_eq (ps : List Pt) : spreads ps = gapsR [] ps := by
  have := spreads_gaps ps [] []
  simpa [spreads] using this
theorem gaps_put (acc u : List UInt8) (ps : List Pt) : gapsR acc (⟨0, 0, u⟩ :: ps) = gapsR (acc ++ u) ps := by
  simp [gapsR, spreadP, ticks]
theorem ticks_one (d : Bool) : ∀ (n : Nat) (acc : List UInt8), ticks d (n + 1) ([], acc) = ((acc, d) :: List.replicate n ([], d), [])
  | 0, acc => by simp [ticks, tick]
  | n + 1, acc => by
    rw [ticks_more, ticks_one d n acc]
    simp [tick, List.replicate_succ']
theorem gaps_keep (acc : List UInt8) (n : Nat) (ps : List Pt) : gapsR acc (⟨(n : Int) + 1, 0, []⟩ :: ps) = ((acc, false) :: List.replicate n ([], false) ++ (gapsR [] ps).1, (gapsR [] ps).2) := by
  have h1 : ((n : Int) + 1).toNat = n + 1 := by omega
  have h2 := ticks_one false n acc
  rw [ticks] at h2
  simp only [gapsR, spreadP, h1, Int.toNat_zero, ticks, List.append_nil, h2]
theorem gaps_drop (acc : List UInt8) (n : Nat) (ps : List Pt) : gapsR acc (⟨0, (n : Int) + 1, []⟩ :: ps) = ((acc, true) :: List.replicate n ([], true) ++ (gapsR [] ps).1, (gapsR [] ps).2) := by
  have h1 : ((n : Int) + 1).toNat = n + 1 := by omega
  have h2 := ticks_one true n acc
  rw [ticks] at h2
  simp only [gapsR, spreadP, h1, Int.toNat_zero, ticks, List.append_nil, h2]

/-- What the document's Transform adds, gap by gap: b says that the other's put is counted first. -/
def docT (first : Bool) : List (List UInt8 × Bool) → List UInt8 → List (List UInt8 × Bool) → List UInt8 → List Pt
  | (u, d) :: x, xl, (v, e) :: y, yl => (if first then [⟨0, 0, u⟩, ⟨v.length, 0, []⟩] else [⟨v.length, 0, []⟩, ⟨0, 0, u⟩]) ++ (if e then [] else [unitP d]) ++ docT first x xl y yl
  | _, xl, _, yl => if first then [⟨0, 0, xl⟩, ⟨yl.length, 0, []⟩] else [⟨yl.length, 0, []⟩, ⟨0, 0, xl⟩]
end Go.Proofs.YtgmgkbbnciglhaaDoor

namespace Go.Proofs.YtgmgkbbnciglhaaDoor
set_option linter.unusedVariables false

def unitK (d : Bool) (k : Nat) : Pt := if d then ⟨0, k, []⟩ else ⟨k, 0, []⟩
theorem one_cases {p : Pt} (h : oneP p) : (∃ u, u ≠ [] ∧ p = ⟨0, 0, u⟩) ∨ ∃ d n, p = unitK d (n + 1) := by
  obtain ⟨K, D, U⟩ := p
  rcases h with ⟨h1, h2, h3⟩ | ⟨h1, h2, h3⟩ | ⟨h1, h2, h3⟩
  · obtain rfl : D = 0 := h2
    obtain rfl : U = [] := h3
    replace h1 : 0 < K := h1
    refine .inr ⟨false, K.toNat - 1, ?_⟩
    have : K = ((K.toNat - 1 + 1 : Nat) : Int) := by omega
    show (⟨K, 0, []⟩ : Pt) = ⟨((K.toNat - 1 + 1 : Nat) : Int), 0, []⟩
    rw [← this]
  · obtain rfl : K = 0 := h1
    obtain rfl : U = [] := h3
    replace h2 : 0 < D := h2
    refine .inr ⟨true, D.toNat - 1, ?_⟩
    have : D = ((D.toNat - 1 + 1 : Nat) : Int) := by omega
    show (⟨0, D, []⟩ : Pt) = ⟨0, ((D.toNat - 1 + 1 : Nat) : Int), []⟩
    rw [← this]
  · obtain rfl : K = 0 := h1
    obtain rfl : D = 0 := h2
    exact .inl ⟨U, h3, rfl⟩
theorem gaps_unit (acc : List UInt8) (d : Bool) (n : Nat) (ps : List Pt) : gapsR acc (unitK d (n + 1) :: ps) = ((acc, d) :: List.replicate n ([], d) ++ (gapsR [] ps).1, (gapsR [] ps).2) := by
  cases d with
  | true => exact gaps_drop acc n ps
  | false => exact gaps_keep acc n ps
def accG (acc : List UInt8) : GSt → GSt
  | ([], l) => ([], acc ++ l)
  | ((u, d) :: x, l) => ((acc ++ u, d) :: x, l)
theorem accG_nil (g : GSt) : accG [] g = g := by
  obtain ⟨x, l⟩ := g
  cases x <;> rfl
theorem accG_more (a b : List UInt8) (g : GSt) : accG a (accG b g) = accG (a ++ b) g := by
  obtain ⟨x, l⟩ := g
  cases x <;> simp [accG]
theorem gaps_acc (ps : List Pt) (h : ∀ p ∈ ps, oneP p) : ∀ acc, gapsR acc ps = accG acc (gapsR [] ps) := by
  induction ps with
  | nil => intro acc; simp [gapsR, accG]
  | cons p ps ih =>
    intro acc
    have ih := ih fun q hq => h q (by simp [hq])
    rcases one_cases (h p (by simp)) with ⟨u, hu, rfl⟩ | ⟨d, n, rfl⟩
    · rw [gaps_put, gaps_put, ih, ih ([] ++ u), accG_more, List.nil_append]
    · rw [gaps_unit, gaps_unit]; simp [accG]

/-- Gap by gap. -/
def docG (eA eB : List UInt8 → NSt → NSt) (eU : Bool → Bool → NSt → NSt) : List (List UInt8 × Bool) → List UInt8 → List (List UInt8 × Bool) → List UInt8 → NSt → NSt
  | (u, d) :: x, xl, (v, e) :: y, yl, s => docG eA eB eU x xl y yl (eU d e (eB v (eA u s)))
  | [], xl, _, yl, s => eB yl (eA xl s)
  | _, xl, [], yl, s => eB yl (eA xl s)
def docS (eA eB : List UInt8 → NSt → NSt) (eU : Bool → Bool → NSt → NSt) (a b : GSt) (s : NSt) : NSt := docG eA eB eU a.1 a.2 b.1 b.2 s
def stepsU (eU : NSt → NSt) : Nat → NSt → NSt
  | 0, s => s
  | n + 1, s => stepsU eU n (eU s)

theorem docS_accA (eA eB : List UInt8 → NSt → NSt) (eU : Bool → Bool → NSt → NSt) (hA : ∀ u v s, eA (u ++ v) s = eA v (eA u s)) (acc : List UInt8) (a b : GSt) (s : NSt) (hl : a.1.length = b.1.length) : docS eA eB eU (accG acc a) b s = docS eA eB eU a b (eA acc s) := by
  obtain ⟨x, xl⟩ := a
  obtain ⟨y, yl⟩ := b
  cases x with
  | nil => cases y <;> simp [docS, accG, docG, hA]
  | cons c x =>
    cases y with
    | nil => simp at hl
    | cons e y => simp [docS, accG, docG, hA]
/-- Where nothing is put ahead in a. -/
def quietG (a : GSt) : Prop := match a with
  | ([], l) => l = []
  | ((u, _) :: _, _) => u = []
theorem docS_accB (eA eB : List UInt8 → NSt → NSt) (eU : Bool → Bool → NSt → NSt) (hA0 : ∀ s, eA [] s = s) (hB : ∀ u v s, eB (u ++ v) s = eB v (eB u s)) (acc : List UInt8) (a b : GSt) (s : NSt) (hl : a.1.length = b.1.length) (hq : quietG a) : docS eA eB eU a (accG acc b) s = docS eA eB eU a b (eB acc s) := by
  obtain ⟨x, xl⟩ := a
  obtain ⟨y, yl⟩ := b
  cases x with
  | nil =>
    obtain rfl : xl = [] := hq
    cases y with
    | nil => simp [docS, accG, docG, hA0, hB]
    | cons e y => simp at hl
  | cons c x =>
    cases y with
    | nil => simp at hl
    | cons e y =>
      obtain ⟨u, d⟩ := c
      obtain rfl : u = [] := hq
      simp [docS, accG, docG, hA0, hB]
theorem docS_units (eA eB : List UInt8 → NSt → NSt) (eU : Bool → Bool → NSt → NSt) (hA0 : ∀ s, eA [] s = s) (hB0 : ∀ s, eB [] s = s) (d e : Bool) : ∀ (k : Nat) (a b : GSt) (s : NSt), docS eA eB eU (List.replicate k ([], d) ++ a.1, a.2) (List.replicate k ([], e) ++ b.1, b.2) s = docS eA eB eU a b (stepsU (eU d e) k s)
  | 0, a, b, s => rfl
  | k + 1, a, b, s => by
    have := docS_units eA eB eU hA0 hB0 d e k a b (eU d e s)
    simpa [docS, docG, List.replicate_succ, hA0, hB0, stepsU] using this
/-- So many units off a first part. -/
theorem cut_unit (d : Bool) (n k : Nat) (hk : k ≤ n) : (cutP (unitK d (n + 1)) ((k : Int) + 1)).1 = unitK d (k + 1) ∧ ∀ ps, gapsR [] (unitK d (n + 1) :: ps) = (List.replicate (k + 1) ([], d) ++ (gapsR [] ((cutP (unitK d (n + 1)) ((k : Int) + 1)).2 ++ ps)).1, (gapsR [] ((cutP (unitK d (n + 1)) ((k : Int) + 1)).2 ++ ps)).2) := by
  have hl : lengthP (unitK d (n + 1)) = (n : Int) + 1 := by cases d <;> simp [lengthP, unitK]
  by_cases e : n = k
  · subst e
    have hc : cutP (unitK d (n + 1)) ((n : Int) + 1) = (unitK d (n + 1), []) := by unfold cutP; rw [if_pos hl]
    rw [hc]
    refine ⟨rfl, fun ps => ?_⟩
    rw [gaps_unit]
    simp [List.replicate_succ]
  · obtain ⟨m, rfl⟩ : ∃ m, n = k + (m + 1) := ⟨n - k - 1, by omega⟩
    have hc : cutP (unitK d (k + (m + 1) + 1)) ((k : Int) + 1) = (unitK d (k + 1), [unitK d (m + 1)]) := by
      unfold cutP
      rw [if_neg (by rw [hl]; omega)]
      cases d with
      | true =>
        have h1 : ¬ 0 < (unitK true (k + (m + 1) + 1)).keep := by simp [unitK]
        have h2 : 0 < (unitK true (k + (m + 1) + 1)).drop := by simp [unitK]; omega
        rw [if_neg h1, if_pos h2]
        simp [unitK]; omega
      | false =>
        have h1 : 0 < (unitK false (k + (m + 1) + 1)).keep := by simp [unitK]; omega
        rw [if_pos h1]
        simp [unitK]; omega
    rw [hc]
    refine ⟨rfl, fun ps => ?_⟩
    rw [List.singleton_append, gaps_unit, gaps_unit]
    have e2 : List.replicate (k + (m + 1)) (([] : List UInt8), d) = List.replicate k ([], d) ++ ([], d) :: List.replicate m ([], d) := by
      rw [← List.replicate_succ, List.replicate_append_replicate]
    rw [e2]
    simp [List.replicate_succ]

def runS (t : Pt × Pt → List Pt) (l : List (Pt × Pt)) (s : NSt) : NSt := l.foldl (fun s x => (t x).foldl addP s) s
def lensU (ps : List Pt) : Nat := (gapsR [] ps).1.length
theorem quiet_unit (d : Bool) (n : Nat) (ps : List Pt) : quietG (gapsR [] (unitK d (n + 1) :: ps)) := by
  rw [gaps_unit]; rfl
theorem put_isPut {u : List UInt8} (h : u ≠ []) : isPutP ⟨0, 0, u⟩ = true := by simp [isPutP, h]
theorem unit_isPut (d : Bool) (n : Nat) : isPutP (unitK d n) = false := by cases d <;> simp [isPutP, unitK]
def weight (ps : List Pt) : Nat := (ps.map fun p => (lengthP p).toNat).sum
theorem weight_cons (p : Pt) (ps : List Pt) : weight (p :: ps) = (lengthP p).toNat + weight ps := by simp [weight]
theorem weight_append (a b : List Pt) : weight (a ++ b) = weight a + weight b := by simp [weight]
theorem len_unit (d : Bool) (n : Nat) : lengthP (unitK d n) = (n : Int) := by cases d <;> simp [lengthP, unitK]
theorem cut_weight (d : Bool) (n k : Nat) (hk : k ≤ n) : weight (cutP (unitK d (n + 1)) ((k : Int) + 1)).2 = n - k := by
  have hl : lengthP (unitK d (n + 1)) = (n : Int) + 1 := by rw [len_unit]; simp
  unfold cutP
  by_cases e : n = k
  · subst e
    rw [if_pos hl]; simp [weight]
  · rw [if_neg (by rw [hl]; omega)]
    cases d with
    | true =>
      have h1 : ¬ 0 < (unitK true (n + 1)).keep := by simp [unitK]
      have h2 : 0 < (unitK true (n + 1)).drop := by simp [unitK]
      rw [if_neg h1, if_pos h2]
      simp [weight, lengthP, unitK]; omega
    | false =>
      have h1 : 0 < (unitK false (n + 1)).keep := by simp [unitK]
      rw [if_pos h1]
      simp [weight, lengthP, unitK]; omega

/-- Pair by pair, or gap by gap. -/
theorem side_gaps (t : Pt × Pt → List Pt) (eA eB : List UInt8 → NSt → NSt) (eU : Bool → Bool → NSt → NSt) (hA0 : ∀ s, eA [] s = s) (hB0 : ∀ s, eB [] s = s)
    (hA : ∀ u v s, eA (u ++ v) s = eA v (eA u s)) (hB : ∀ u v s, eB (u ++ v) s = eB v (eB u s))
    (tA : ∀ u s, u ≠ [] → (t (⟨0, 0, u⟩, noP)).foldl addP s = eA u s) (tB : ∀ u s, u ≠ [] → (t (noP, ⟨0, 0, u⟩)).foldl addP s = eB u s)
    (tU : ∀ d e k s, (t (unitK d (k + 1), unitK e (k + 1))).foldl addP s = stepsU (eU d e) (k + 1) s) :
    ∀ (f : Nat) (a b : List Pt) (s : NSt), (∀ p ∈ a, oneP p) → (∀ p ∈ b, oneP p) → lensU a = lensU b → weight a + weight b ≤ f →
      runS t (sideP isPutP isPutP f a b) s = docS eA eB eU (gapsR [] a) (gapsR [] b) s := by
  intro f
  induction f with
  | zero =>
    intro a b s ha hb hl hw
    have h0 : ∀ (l : List Pt), (∀ p ∈ l, oneP p) → weight l = 0 → l = [] := by
      intro l hl hw
      cases l with
      | nil => rfl
      | cons p l =>
        have := length_pos (hl p (by simp))
        rw [weight_cons] at hw
        omega
    obtain rfl := h0 a ha (by omega)
    obtain rfl := h0 b hb (by omega)
    simp [sideP, runS, docS, docG, gapsR, hA0, hB0]
  | succ f ih =>
    intro a b s ha hb hl hw
    cases a with
    | nil =>
      cases b with
      | nil => simp [sideP, runS, docS, docG, gapsR, hA0, hB0]
      | cons q b =>
        rcases one_cases (hb q (by simp)) with ⟨v, hv, rfl⟩ | ⟨e, m, rfl⟩
        · have hlq := length_pos (hb _ (List.mem_cons_self ..))
          rw [weight_cons] at hw
          have hb' : ∀ p ∈ b, oneP p := fun p hp => hb p (by simp [hp])
          unfold lensU at hl
          rw [gaps_put, gaps_acc b hb'] at hl ⊢
          have hl' : (gapsR [] ([] : List Pt)).1.length = (gapsR [] b).1.length := by
            rw [hl]; cases h : gapsR [] b with | mk x l => cases x <;> simp [accG]
          rw [docS_accB eA eB eU hA0 hB _ _ _ _ hl' rfl]
          rw [← ih [] b (eB ([] ++ v) s) (by simp) hb' hl' (by omega)]
          simp only [sideP, put_isPut hv, if_true, runS, List.foldl_cons, tB v s hv, List.nil_append]
        · unfold lensU at hl
          rw [gaps_unit] at hl
          simp [gapsR] at hl
    | cons p a =>
      have hlp := length_pos (ha p (by simp))
      have ha' : ∀ p ∈ a, oneP p := fun p hp => ha p (by simp [hp])
      rcases one_cases (ha p (by simp)) with ⟨u, hu, rfl⟩ | ⟨d, n, rfl⟩
      · rw [weight_cons] at hw
        unfold lensU at hl
        rw [gaps_put, gaps_acc a ha'] at hl ⊢
        have hl' : (gapsR [] a).1.length = (gapsR [] b).1.length := by
          rw [← hl]; cases h : gapsR [] a with | mk x l => cases x <;> simp [accG]
        rw [docS_accA eA eB eU hA _ _ _ _ hl']
        rw [← ih a b (eA ([] ++ u) s) ha' hb hl' (by omega)]
        simp only [sideP, put_isPut hu, if_true, runS, List.foldl_cons, tA u s hu, List.nil_append]
      · cases b with
        | nil =>
          unfold lensU at hl
          rw [gaps_unit] at hl
          simp [gapsR] at hl
        | cons q b =>
          have hb' : ∀ p ∈ b, oneP p := fun p hp => hb p (by simp [hp])
          have hlq := length_pos (hb q (by simp))
          rcases one_cases (hb q (by simp)) with ⟨v, hv, rfl⟩ | ⟨e, m, rfl⟩
          · rw [weight_cons _ b] at hw
            unfold lensU at hl
            rw [gaps_put, gaps_acc b hb'] at hl ⊢
            have hl' : (gapsR [] (unitK d (n + 1) :: a)).1.length = (gapsR [] b).1.length := by
              rw [hl]; cases h : gapsR [] b with | mk x l => cases x <;> simp [accG]
            rw [docS_accB eA eB eU hA0 hB _ _ _ _ hl' (quiet_unit d n a)]
            rw [← ih (unitK d (n + 1) :: a) b (eB ([] ++ v) s) ha hb' hl' (by omega)]
            simp only [sideP, unit_isPut, put_isPut hv, if_true, Bool.false_eq_true, if_false, runS, List.foldl_cons, tB v s hv, List.nil_append]
          · obtain ⟨k, hk⟩ : ∃ k, k = min n m := ⟨_, rfl⟩
            have l1 : lengthP (unitK d (n + 1)) = (n : Int) + 1 := by cases d <;> simp [lengthP, unitK]
            have l2 : lengthP (unitK e (m + 1)) = (m : Int) + 1 := by cases e <;> simp [lengthP, unitK]
            have hmin : min (lengthP (unitK d (n + 1))) (lengthP (unitK e (m + 1))) = (k : Int) + 1 := by rw [l1, l2]; omega
            obtain ⟨c1, c2⟩ := cut_unit d n k (by omega)
            obtain ⟨c3, c4⟩ := cut_unit e m k (by omega)
            obtain ⟨_, _, o1, _⟩ := cut_one (ha _ (List.mem_cons_self ..)) (n := (k : Int) + 1) (by omega) (by rw [l1]; omega)
            obtain ⟨_, _, o2, _⟩ := cut_one (hb _ (List.mem_cons_self ..)) (n := (k : Int) + 1) (by omega) (by rw [l2]; omega)
            have wA := cut_weight d n k (by omega)
            have wB := cut_weight e m k (by omega)
            rw [weight_cons, weight_cons, len_unit, len_unit] at hw
            have gA := c2 a
            have gB := c4 b
            have ho1 : ∀ p ∈ (cutP (unitK d (n + 1)) ((k : Int) + 1)).2 ++ a, oneP p := fun p hp => by
              rcases List.mem_append.1 hp with h | h
              · exact (o1 p h).1
              · exact ha' p h
            have ho2 : ∀ p ∈ (cutP (unitK e (m + 1)) ((k : Int) + 1)).2 ++ b, oneP p := fun p hp => by
              rcases List.mem_append.1 hp with h | h
              · exact (o2 p h).1
              · exact hb' p h
            have hl' : lensU ((cutP (unitK d (n + 1)) ((k : Int) + 1)).2 ++ a) = lensU ((cutP (unitK e (m + 1)) ((k : Int) + 1)).2 ++ b) := by
              unfold lensU at hl ⊢
              rw [gA, gB] at hl
              simp only [List.length_append, List.length_replicate] at hl
              omega
            rw [gA, gB, docS_units eA eB eU hA0 hB0 d e (k + 1), ← ih _ _ _ ho1 ho2 hl' (by rw [weight_append, weight_append, wA, wB]; omega)]
            simp only [sideP, unit_isPut, Bool.false_eq_true, if_false, runS, List.foldl_cons, hmin, c1, c3, tU]
end Go.Proofs.YtgmgkbbnciglhaaDoor

namespace Go.Proofs.YtgmgkbbnciglhaaDoor
set_option linter.unusedVariables false

def tPut (u : List UInt8) (s : NSt) : NSt := addP s ⟨0, 0, u⟩
def tKeep (v : List UInt8) (s : NSt) : NSt := addP s ⟨v.length, 0, []⟩
def tUnit (d e : Bool) (s : NSt) : NSt := if e then s else addP s (unitP d)
theorem tPut_nil (s : NSt) : tPut [] s = s := addP_none s
theorem tKeep_nil (s : NSt) : tKeep [] s = s := addP_none s
theorem tPut_more (u v : List UInt8) (s : NSt) : tPut (u ++ v) s = tPut v (tPut u s) := (addP_puts s u v).symm
theorem tKeep_more (u v : List UInt8) (s : NSt) : tKeep (u ++ v) s = tKeep v (tKeep u s) := by
  unfold tKeep
  cases u with
  | nil => simp [addP_none]
  | cons c u =>
    rw [addP_keeps s ((c :: u).length : Int) (v.length : Int) (by simp) (by omega), List.length_append]
    simp
theorem units_add (d : Bool) : ∀ (k : Nat) (s : NSt), stepsU (tUnit d false) (k + 1) s = addP s (unitK d (k + 1))
  | 0, s => by cases d <;> rfl
  | k + 1, s => by
    have e1 : stepsU (tUnit d false) (k + 1 + 1) s = stepsU (tUnit d false) (k + 1) (tUnit d false s) := rfl
    rw [e1, units_add d k]
    cases d with
    | true =>
      show addP (addP s ⟨0, 1, []⟩) ⟨0, ((k + 1 : Nat) : Int), []⟩ = addP s ⟨0, ((k + 1 + 1 : Nat) : Int), []⟩
      rw [addP_drops]
      congr 2
      omega
    | false =>
      show addP (addP s ⟨1, 0, []⟩) ⟨((k + 1 : Nat) : Int), 0, []⟩ = addP s ⟨((k + 1 + 1 : Nat) : Int), 0, []⟩
      rw [addP_keeps s 1 _ (by omega) (by omega)]
      congr 2
      omega
theorem units_none (d : Bool) : ∀ (k : Nat) (s : NSt), stepsU (tUnit d true) k s = s
  | 0, _ => rfl
  | k + 1, s => units_none d k s
theorem turnQ_put (u : List UInt8) (s : NSt) (h : u ≠ []) : (turnP (⟨0, 0, u⟩, noP)).foldl addP s = tPut u s := by simp [turnP, isPutP, noP, h, tPut]
theorem turnQ_keep (v : List UInt8) (s : NSt) (h : v ≠ []) : (turnP (noP, ⟨0, 0, v⟩)).foldl addP s = tKeep v s := by simp [turnP, isPutP, h, tKeep]
theorem turnQ_unit (d e : Bool) (k : Nat) (s : NSt) : (turnP (unitK d (k + 1), unitK e (k + 1))).foldl addP s = stepsU (tUnit d e) (k + 1) s := by
  cases e with
  | true =>
    rw [units_none]
    have h1 : isPutP (unitK true (k + 1)) = false := unit_isPut true (k + 1)
    have h2 : isPutP (unitK d (k + 1)) = false := unit_isPut d (k + 1)
    have h3 : isKeepP (unitK true (k + 1)) = false := by simp [isKeepP, unitK]
    simp [turnP, h1, h2, h3]
  | false =>
    rw [units_add]
    have h1 : isPutP (unitK false (k + 1)) = false := unit_isPut false (k + 1)
    have h3 : isKeepP (unitK false (k + 1)) = true := by simp [isKeepP, unitK]
    simp [turnP, h1, h3]

/-- The document's parts, added up. -/
theorem docT_true : ∀ (x : List (List UInt8 × Bool)) (xl : List UInt8) (y : List (List UInt8 × Bool)) (yl : List UInt8) (s : NSt), (docT true x xl y yl).foldl addP s = docG tPut tKeep tUnit x xl y yl s
  | [], xl, [], yl, s => rfl
  | [], xl, _ :: _, yl, s => rfl
  | _ :: _, xl, [], yl, s => rfl
  | (u, d) :: x, xl, (v, e) :: y, yl, s => by
    rw [docT, docG, List.foldl_append, docT_true x xl y yl]
    cases e <;> rfl
theorem docT_false : ∀ (x : List (List UInt8 × Bool)) (xl : List UInt8) (y : List (List UInt8 × Bool)) (yl : List UInt8) (s : NSt), (docT false x xl y yl).foldl addP s = docG tKeep tPut (fun e d => tUnit d e) y yl x xl s
  | [], xl, [], yl, s => rfl
  | [], xl, _ :: _, yl, s => rfl
  | _ :: _, xl, [], yl, s => rfl
  | (u, d) :: x, xl, (v, e) :: y, yl, s => by
    rw [docT, docG, List.foldl_append, docT_false x xl y yl]
    cases e <;> rfl

/-- Transform, a's first. -/
theorem turn_first (f : Nat) (a b : List Pt) (s : NSt) (ha : ∀ p ∈ a, oneP p) (hb : ∀ p ∈ b, oneP p) (hl : lensU a = lensU b) (hw : weight a + weight b ≤ f) :
    runS turnP (sideP isPutP isPutP f a b) s = (docT true (gapsR [] a).1 (gapsR [] a).2 (gapsR [] b).1 (gapsR [] b).2).foldl addP s := by
  rw [docT_true]
  exact side_gaps turnP tPut tKeep tUnit tPut_nil tKeep_nil tPut_more tKeep_more turnQ_put turnQ_keep turnQ_unit f a b s ha hb hl hw
/-- Transform, the other's first. -/
theorem turn_second (f : Nat) (a b : List Pt) (s : NSt) (ha : ∀ p ∈ a, oneP p) (hb : ∀ p ∈ b, oneP p) (hl : lensU a = lensU b) (hw : weight a + weight b ≤ f) :
    runS (fun x => turnP (x.2, x.1)) (sideP isPutP isPutP f b a) s = (docT false (gapsR [] a).1 (gapsR [] a).2 (gapsR [] b).1 (gapsR [] b).2).foldl addP s := by
  rw [docT_false]
  exact side_gaps (fun x => turnP (x.2, x.1)) tKeep tPut (fun e d => tUnit d e) tKeep_nil tPut_nil tKeep_more tPut_more (fun v s h => turnQ_keep v s h) (fun u s h => turnQ_put u s h) (fun e d k s => turnQ_unit d e k s) f b a s hb ha hl.symm (by omega)
end Go.Proofs.YtgmgkbbnciglhaaDoor

namespace Go.Proofs.YtgmgkbbnciglhaaDoor
set_option linter.unusedVariables false

structure OneS (s : NSt) : Prop where
  out : ∀ p ∈ s.out, oneP p
  drop : 0 ≤ s.drop
theorem tell_one {s : NSt} (h : OneS s) : ∀ p ∈ tellP s, oneP p := by
  intro p hp
  unfold tellP at hp
  rcases List.mem_append.1 hp with hp | hp
  · exact h.out p hp
  · rcases List.mem_append.1 hp with hp | hp
    · split at hp
      · simp at hp
      · rename_i hne
        rw [List.mem_singleton.1 hp]
        exact .inr (.inr ⟨rfl, rfl, hne⟩)
    · split at hp
      · simp at hp
      · rename_i hne
        rw [List.mem_singleton.1 hp]
        have := h.drop
        exact .inr (.inl ⟨rfl, by show 0 < s.drop; omega, rfl⟩)
theorem push_one {l : List Pt} (h : ∀ p ∈ l, oneP p) {k : Int} (hk : 0 < k) : ∀ p ∈ pushKeep l k, oneP p := by
  intro p hp
  unfold pushKeep at hp
  have hnew : oneP (⟨k, 0, []⟩ : Pt) := .inl ⟨hk, rfl, rfl⟩
  cases hq : l.getLast? with
  | none =>
    rw [hq] at hp
    simp only [List.mem_append, List.mem_singleton] at hp
    rcases hp with hp | rfl
    · exact h p hp
    · exact hnew
  | some q =>
    rw [hq] at hp
    have hql : q ∈ l := List.mem_of_getLast? hq
    simp only at hp
    split at hp
    · rename_i h0
      simp only [List.mem_append, List.mem_singleton] at hp
      rcases hp with hp | rfl
      · exact h p (List.dropLast_subset l hp)
      · rcases h q hql with ⟨h1, h2, h3⟩ | ⟨h1, _, _⟩ | ⟨h1, _, _⟩
        · exact .inl ⟨by show 0 < q.keep + k; omega, h2, h3⟩
        · omega
        · omega
    · simp only [List.mem_append, List.mem_singleton] at hp
      rcases hp with hp | rfl
      · exact h p hp
      · exact hnew
theorem add_one {s : NSt} (h : OneS s) (p : Pt) (hk : 0 ≤ p.keep) (hd : 0 ≤ p.drop) : OneS (addP s p) := by
  unfold addP
  have h' : OneS ⟨s.out, s.put ++ p.put, s.drop + p.drop⟩ := ⟨h.out, by have := h.drop; show 0 ≤ s.drop + p.drop; omega⟩
  split
  · exact h'
  · rename_i hk0
    exact ⟨push_one (tell_one h') (by omega), by show (0 : Int) ≤ 0; omega⟩
theorem fold_one (ps : List Pt) (h : ∀ p ∈ ps, 0 ≤ p.keep ∧ 0 ≤ p.drop) : ∀ s, OneS s → OneS (ps.foldl addP s) := by
  induction ps with
  | nil => exact fun s hs => hs
  | cons p ps ih => exact fun s hs => ih (fun q hq => h q (by simp [hq])) _ (add_one hs p (h p (by simp)).1 (h p (by simp)).2)
theorem norm_one (ps : List Pt) (h : ∀ p ∈ ps, 0 ≤ p.keep ∧ 0 ≤ p.drop) : ∀ p ∈ normP ps, oneP p :=
  tell_one (fold_one ps h nst0 ⟨by simp [nst0], by simp [nst0]⟩)

/-- How long it is, is kept. -/
def longP (ps : List Pt) : Int := (ps.map lenP).sum
def longS (s : NSt) : Int := longP s.out + s.drop
theorem long_append (a b : List Pt) : longP (a ++ b) = longP a + longP b := by simp [longP]
theorem tell_long (s : NSt) : longP (tellP s) = longS s := by
  unfold tellP longS
  rw [long_append, long_append]
  by_cases hp : s.put = [] <;> by_cases hd : s.drop = 0 <;> simp [longP, lenP, hp, hd]
theorem push_long (l : List Pt) (k : Int) : longP (pushKeep l k) = longP l + k := by
  unfold pushKeep
  cases hq : l.getLast? with
  | none => simp [longP, lenP]
  | some q =>
    simp only
    split
    · have e : l = l.dropLast ++ [q] := by
        have hne : l ≠ [] := by rintro rfl; simp at hq
        have := List.dropLast_concat_getLast hne
        rw [List.getLast?_eq_some_getLast hne] at hq
        rw [Option.some.inj hq] at this
        exact this.symm
      conv => rhs; rw [e]
      rw [long_append, long_append]
      simp [longP, lenP]
      omega
    · rw [long_append]; simp [longP, lenP]
theorem add_long (s : NSt) (p : Pt) : longS (addP s p) = longS s + lenP p := by
  unfold addP
  split
  · rename_i h
    simp [longS, lenP, h]
    omega
  · show longP (pushKeep _ _) + 0 = _
    rw [push_long, tell_long]
    simp [longS, lenP]
    omega
theorem fold_long (ps : List Pt) : ∀ s, longS (ps.foldl addP s) = longS s + longP ps := by
  induction ps with
  | nil => intro s; simp [longP]
  | cons p ps ih =>
    intro s
    rw [List.foldl_cons, ih, add_long]
    simp [longP]
    omega
theorem norm_long (ps : List Pt) : longP (normP ps) = longP ps := by
  unfold normP
  rw [tell_long, fold_long]
  simp [longS, nst0, longP]
theorem lensU_long (ps : List Pt) (h : ∀ p ∈ ps, 0 ≤ p.keep ∧ 0 ≤ p.drop) : (lensU ps : Int) = longP ps := by
  unfold lensU
  have key : ∀ (ps : List Pt), (∀ p ∈ ps, 0 ≤ p.keep ∧ 0 ≤ p.drop) → ∀ acc, ((gapsR acc ps).1.length : Int) = longP ps := by
    intro ps
    induction ps with
    | nil => intro _ acc; simp [gapsR, longP]
    | cons p ps ih =>
      intro h acc
      have h1 := spreadP_len ([], acc) p (h p (by simp)).1 (h p (by simp)).2
      have h2 := ih (fun q hq => h q (by simp [hq])) (spreadP ([], acc) p).2
      simp only [gapsR, List.length_append, longP, List.map_cons, List.sum_cons] at h2 ⊢
      push_cast
      simp only [List.length_nil] at h1
      omega
  exact key ps h []
end Go.Proofs.YtgmgkbbnciglhaaDoor

namespace Go.Proofs.YtgmgkbbnciglhaaDoor
set_option linter.unusedVariables false

/-- A part in another unit. -/
def unit1 (n : Int) (q : Pt) : Pt := if 0 < q.keep then ⟨n, 0, []⟩ else if 0 < q.drop then ⟨0, n, []⟩ else ⟨0, 0, q.put⟩
/-- How much is ahead of a place, as runes. -/
def upTo (rs : List Nat) (u a : Int) : List Nat := find (reachesBy u a) [] rs
def onEdge (rs : List Nat) (u a : Int) : Bool := decide (by_ u (upTo rs u a) = a)
/-- The parts in another unit, and whether all end between two runes. -/
def turnZ (rs : List Nat) (u v : Int) : Int → List Pt → List Pt × Bool
  | _, [] => ([], true)
  | a, q :: qs => if onEdge rs u (a + lenP q) then
      (unit1 (by_ v (upTo rs u (a + lenP q)) - by_ v (upTo rs u a)) q :: (turnZ rs u v (a + lenP q) qs).1, (turnZ rs u v (a + lenP q) qs).2)
    else ([], false)
theorem C2_one (r : Nat) : 1 ≤ C2 [r] := by
  unfold C2 sum2 wide
  simp only [List.map_cons, List.map_nil, List.sum_cons, List.sum_nil, Int.add_zero]
  unfold cH
  split <;> omega
theorem by_one {u : Int} (hu : unitOk u) (r : Nat) : 1 ≤ by_ u [r] := by
  unfold by_
  rcases hu with rfl | rfl | rfl
  · rw [if_pos rfl, C1_len]
    have := List.length_pos_iff.2 (enc_ne r)
    have e : encs [r] = enc r := by simp [encs]
    rw [e]; omega
  · rw [if_neg (by decide), if_pos rfl]
    exact C2_one r
  · rw [if_neg (by decide), if_neg (by decide), if_pos rfl]
    show (1 : Int) ≤ ((1 : Nat) : Int); omega
/-- More runes, more of each unit. -/
theorem by_mono {u : Int} (hu : unitOk u) : ∀ (rs : List Nat) (i j : Nat), i < j → j ≤ rs.length → by_ u (rs.take i) < by_ u (rs.take j)
  | rs, i, j, h, hj => by
    have e : rs.take j = rs.take i ++ (rs.drop i).take (j - i) := by rw [← List.take_add]; congr 1; omega
    rw [e, by_append]
    have hne : (rs.drop i).take (j - i) ≠ [] := fun e => by
      have := congrArg List.length e
      rw [List.length_take, List.length_drop, List.length_nil] at this
      omega
    cases hx : (rs.drop i).take (j - i) with
    | nil => exact absurd hx hne
    | cons r x =>
      have e2 : r :: x = [r] ++ x := rfl
      rw [e2, by_append]
      have := by_one hu r
      have := by_pos u x
      omega
/-- What is ahead of a place: as few runes as reach it. -/
theorem find_least (u a : Int) : ∀ (rs pre : List Nat), a ≤ by_ u (pre ++ rs) → ∃ k, k ≤ rs.length ∧ find (reachesBy u a) pre rs = pre ++ rs.take k ∧ a ≤ by_ u (pre ++ rs.take k) ∧ ∀ i, i < k → by_ u (pre ++ rs.take i) < a
  | [], pre, h => by
    refine ⟨0, Nat.le_refl _, ?_, by simpa using h, fun i hi => absurd hi (Nat.not_lt_zero _)⟩
    have : reachesBy u a pre = true := decide_eq_true (by simpa using h)
    unfold find
    rw [if_pos this]; simp
  | r :: rs, pre, h => by
    by_cases h0 : a ≤ by_ u pre
    · refine ⟨0, Nat.zero_le _, ?_, by simpa using h0, fun i hi => absurd hi (Nat.not_lt_zero _)⟩
      have : reachesBy u a pre = true := decide_eq_true h0
      unfold find
      rw [if_pos this]; simp
    · obtain ⟨k, k1, k2, k3, k4⟩ := find_least u a rs (pre ++ [r]) (by simpa using h)
      have e : ∀ i, pre ++ (r :: rs).take (i + 1) = (pre ++ [r]) ++ rs.take i := fun i => by simp
      refine ⟨k + 1, by simp; omega, ?_, by rw [e]; exact k3, fun i hi => ?_⟩
      · rw [e, ← k2]
        have hf : reachesBy u a pre = false := decide_eq_false h0
        conv => lhs; unfold find
        rw [hf, if_neg (by decide), seek]
        conv => rhs; unfold find
        split
        · rfl
        · simp
      · cases i with
        | zero => rw [List.take_zero, List.append_nil]; omega
        | succ i => rw [e]; exact k4 i (by omega)
/-- What is ahead, as the first runes. -/
theorem upTo_least (rs : List Nat) (u a : Int) (h : a ≤ by_ u rs) : ∃ k, k ≤ rs.length ∧ upTo rs u a = rs.take k ∧ a ≤ by_ u (rs.take k) ∧ ∀ i, i < k → by_ u (rs.take i) < a := by
  obtain ⟨k, h1, h2, h3, h4⟩ := find_least u a rs [] (by simpa using h)
  exact ⟨k, h1, by unfold upTo; simpa using h2, by simpa using h3, fun i hi => by simpa using h4 i hi⟩
/-- The first of the places at which it is just so much; there is one where what is ahead is so much. -/
theorem edge_first {u : Int} (hu : unitOk u) {rs : List Nat} {a : Int} (h : a ≤ by_ u rs) :
    (onEdge rs u a = true → ∃ k, k ≤ rs.length ∧ upTo rs u a = rs.take k ∧ by_ u (rs.take k) = a ∧ ∀ i, i < k → by_ u (rs.take i) ≠ a) ∧
    (onEdge rs u a = false → ∀ i, i ≤ rs.length → by_ u (rs.take i) ≠ a) := by
  obtain ⟨k, h1, h2, h3, h4⟩ := upTo_least rs u a h
  unfold onEdge
  rw [h2]
  refine ⟨fun e => ⟨k, h1, h2 ▸ rfl, of_decide_eq_true e, fun i hi => by have := h4 i hi; omega⟩, fun e i hi e2 => ?_⟩
  have hne : by_ u (rs.take k) ≠ a := of_decide_eq_false e
  by_cases hik : i < k
  · have := h4 i hik; omega
  · by_cases hke : k = i
    · subst hke; exact hne e2
    · have := by_mono hu rs k i (by omega) hi
      omega
theorem upTo_le {u v : Int} (rs : List Nat) {a : Int} (h : a ≤ by_ u rs) : by_ v (upTo rs u a) ≤ by_ v rs := by
  obtain ⟨k, h1, h2, _, _⟩ := upTo_least rs u a h
  rw [h2]
  have e : rs = rs.take k ++ rs.drop k := (List.take_append_drop k rs).symm
  have : by_ v rs = by_ v (rs.take k) + by_ v (rs.drop k) := by rw [← by_append, List.take_append_drop]
  have := by_pos v (rs.drop k)
  omega
theorem upTo_mono {u v : Int} (rs : List Nat) {a b : Int} (hab : a ≤ b) (h : b ≤ by_ u rs) : by_ v (upTo rs u a) ≤ by_ v (upTo rs u b) := by
  obtain ⟨k, k1, k2, k3, k4⟩ := upTo_least rs u a (by omega)
  obtain ⟨j, j1, j2, j3, j4⟩ := upTo_least rs u b h
  rw [k2, j2]
  have hkj : k ≤ j := by
    by_cases hh : k ≤ j
    · exact hh
    · have := k4 j (by omega); omega
  have e : rs.take j = rs.take k ++ (rs.drop k).take (j - k) := by rw [← List.take_add]; congr 1; omega
  rw [e, by_append]
  have := by_pos v ((rs.drop k).take (j - k))
  omega
theorem upTo_zero (rs : List Nat) (u : Int) : upTo rs u 0 = [] := find_zero u rs
end Go.Proofs.YtgmgkbbnciglhaaDoor

namespace Go.Proofs.YtgmgkbbnciglhaaDoor
open Go.RowKit
set_option linter.unusedVariables false
attribute [local go_sem] Oper.semAt_some yieldsUpon okUpon field0 field3

set_option maxRecDepth 100000 in
set_option maxHeartbeats 2000000 in
theorem line_far (b : Nat) (rs : List Nat) (line : Int) (hl0 : 0 ≤ line) (hl1 : C4 rs < line) (w : World) (hT : Lib.Utf8Tabs 0 1 w) (h : isRope w b rs) (hz : C1 rs ≤ 100000000) :
    Calls Tryd.prog 90 #[.pointer (some ⟨b, 0, none⟩), .int .i64 line] w fun e w' => e = .returned (.tuple #[cntV [], .iface 23 (.int .i64 2)]) ∧ Below w.heap.size w w' := by
  obtain ⟨q, t, h1, _, _, h4, ho, rfl⟩ := h
  have hb2 : Below w.heap.size w ((w.alloc (.cells #[.int .i64 line] 3)).alloc (.cells #[.int .i64 0, .int .i64 0, .int .i64 0, .int .i64 0] 36)) := ((Below.refl _ w).alloc (Nat.le_refl _) _).alloc (by simp) _
  have hl : ((w.alloc (.cells #[.int .i64 line] 3)).alloc (.cells #[.int .i64 0, .int .i64 0, .int .i64 0, .int .i64 0] 36)).cell? ⟨w.heap.size, 0, none⟩ = some (.int .i64 line) := by simp [go_sem]
  have hr := counted_new (w.alloc (.cells #[.int .i64 line] 3)) 0 0 0 0 36
  rw [World.size_alloc] at hr
  have cT := fun wx (hb : Below w.heap.size w wx) => ropetree_any b q wx (cell_on hb h1)
  have cC := fun wx (hb : Below w.heap.size w wx) => ncounts_any q t wx (isTree_below hb h4)
  generalize C1 t.runes = x1 at *
  generalize C2 t.runes = x2 at *
  generalize C3 t.runes = x3 at *
  generalize C4 t.runes = x4 at *
  have n0 : ¬ line < 0 := by omega
  have n1 : x4 < line := by omega
  have hC : cntV [] = .agg #[.int .i64 0, .int .i64 0, .int .i64 0, .int .i64 0] := rfl
  rw [hC]
  clear hC
  clear h4 ho hT
  go_enter Tryd.func90, Tryd.ntmps90
  go_wp2_with (first
    | (go_at_call 82; refine (cT _ hb2).mono ?_; rintro e w1 ⟨rfl, hw1⟩; obtain rfl := hw1.symm)
    | fail)
  obtain ⟨W2, hW2⟩ : ∃ W2, ((w.alloc (.cells #[.int .i64 line] 3)).alloc (.cells #[.int .i64 0, .int .i64 0, .int .i64 0, .int .i64 0] 36)) = W2 := ⟨_, rfl⟩
  rw [hW2] at hb2 hl hr ⊢
  clear hW2
  refine wp_region_rel 9 9 (by kernel_rfl) rfl ?_
  intro w3 hb3
  have hb23 := hb2.trans (hb3.mono hb2.size)
  obtain ⟨G, hG⟩ := exists_growth w3
  have gl := hG.cell (cell_on hb3 hl)
  have cG := fun x => cC (G x) (hb23.trans ((hG.below x).mono hb23.size))
  (refine anyG_step hG (i := 0) rfl (by kernel_rfl) (by kernel_rfl) (by kernel_rfl) (fun K hK => ?_); go_simp; refine hK _ ?_; clear hK K)
  (refine anyG_step hG (i := 1) rfl (by kernel_rfl) (by kernel_rfl) (by kernel_rfl) (fun K hK => ?_); go_simp; refine hK _ ?_; clear hK K)
  (refine anyG_step hG (i := 2) rfl (by kernel_rfl) (by kernel_rfl) (by kernel_rfl) (fun K hK => ?_); go_simp; refine hK _ ?_; clear hK K)
  (refine anyG_step hG (i := 3) rfl (by kernel_rfl) (by kernel_rfl) (by kernel_rfl) (fun K hK => ?_); go_simp; refine hK _ ?_; clear hK K)
  (refine anyG_step hG (i := 4) rfl (by kernel_rfl) (by kernel_rfl) (by kernel_rfl) (fun K hK => ?_); go_simp; refine hK _ ?_; clear hK K)
  (refine anyG_step hG (i := 5) rfl (by kernel_rfl) (by kernel_rfl) (by kernel_rfl) (fun K hK => ?_); go_simp; apply Exists.intro; refine ⟨fun _ => ?_, hK _ ?_⟩; exact cG _; clear hK K)
  (refine anyG_step hG (i := 6) rfl (by kernel_rfl) (by kernel_rfl) (by kernel_rfl) (fun K hK => ?_); go_simp; refine hK _ ?_; clear hK K)
  (refine anyG_step hG (i := 7) rfl (by kernel_rfl) (by kernel_rfl) (by kernel_rfl) (fun K hK => ?_); go_simp; refine hK _ ?_; clear hK K)
  (refine anyG_step hG (i := 8) rfl (by kernel_rfl) (by kernel_rfl) (by kernel_rfl) (fun K hK => ?_); go_simp; refine hK _ ?_; clear hK K)
  clear gl cG hG
  refine anyG_end (by kernel_rfl) ?_
  intro w4 hb4
  have hb34 := hb3.trans (hb4.mono hb3.size)
  have hb24 := hb2.trans (hb34.mono hb2.size)
  have hr4 := counted_below hr hb34
  have HR4 : Hid _ := hr4
  have HB24 : Hid _ := hb24
  obtain ⟨⟨z0, z1, z2, z3⟩, y0, y1, y2, y3⟩ := hr4
  clear hb3 hb4 hb34 hb23 hb24 cC cT hl hr
  go_wp2
  have hset := counted_set (m1 := 0) (m2 := 0) (m3 := 0) (m4 := 0) HR4.out
  obtain ⟨⟨s0, s1, s2, s3⟩, _⟩ := hset
  refine bodyPost_ret (v := .tuple #[.agg #[.int .i64 0, .int .i64 0, .int .i64 0, .int .i64 0], .iface 23 (.int .i64 2)]) (by simp [results, Tryd.results90, go_sem, s0, s1, s2, s3]) rfl ⟨rfl, below_set4 HB24.out (by omega) _ _ _ _⟩

set_option maxRecDepth 100000 in
set_option maxHeartbeats 2000000 in
theorem line_neg (b : Nat) (rs : List Nat) (line : Int) (hl0 : line < 0) (w : World) (h : isRope w b rs) :
    Calls Tryd.prog 90 #[.pointer (some ⟨b, 0, none⟩), .int .i64 line] w fun e w' => e = .returned (.tuple #[cntV [], .iface 23 (.int .i64 2)]) ∧ Below w.heap.size w w' := by
  obtain ⟨q, t, h1, _, _, h4, ho, rfl⟩ := h
  have hb2 : Below w.heap.size w ((w.alloc (.cells #[.int .i64 line] 3)).alloc (.cells #[.int .i64 0, .int .i64 0, .int .i64 0, .int .i64 0] 36)) := ((Below.refl _ w).alloc (Nat.le_refl _) _).alloc (by simp) _
  have hl : ((w.alloc (.cells #[.int .i64 line] 3)).alloc (.cells #[.int .i64 0, .int .i64 0, .int .i64 0, .int .i64 0] 36)).cell? ⟨w.heap.size, 0, none⟩ = some (.int .i64 line) := by simp [go_sem]
  have hr := counted_new (w.alloc (.cells #[.int .i64 line] 3)) 0 0 0 0 36
  rw [World.size_alloc] at hr
  have cT := fun wx (hb : Below w.heap.size w wx) => ropetree_any b q wx (cell_on hb h1)
  have hC : cntV [] = .agg #[.int .i64 0, .int .i64 0, .int .i64 0, .int .i64 0] := rfl
  rw [hC]
  clear h4 ho hC
  go_enter Tryd.func90, Tryd.ntmps90
  go_wp2_with (first
    | (go_at_call 82; refine (cT _ hb2).mono ?_; rintro e w1 ⟨rfl, hw1⟩; obtain rfl := hw1.symm)
    | fail)
  obtain ⟨W2, hW2⟩ : ∃ W2, ((w.alloc (.cells #[.int .i64 line] 3)).alloc (.cells #[.int .i64 0, .int .i64 0, .int .i64 0, .int .i64 0] 36)) = W2 := ⟨_, rfl⟩
  rw [hW2] at hb2 hl hr ⊢
  clear hW2
  have HR4 : Hid _ := hr
  have HB24 : Hid _ := hb2
  obtain ⟨⟨z0, z1, z2, z3⟩, y0, y1, y2, y3⟩ := hr
  clear hb2 cT
  go_region
  go_wp2
  have hset := counted_set (m1 := 0) (m2 := 0) (m3 := 0) (m4 := 0) HR4.out
  obtain ⟨⟨s0, s1, s2, s3⟩, _⟩ := hset
  refine bodyPost_ret (v := .tuple #[.agg #[.int .i64 0, .int .i64 0, .int .i64 0, .int .i64 0], .iface 23 (.int .i64 2)]) (by simp [results, Tryd.results90, go_sem, s0, s1, s2, s3]) rfl ⟨rfl, (below_set4 HB24.out (by omega) _ _ _ _).drew⟩

/-- Line: what it tells. -/
def lineE (line : Int) (rs : List Nat) : Value :=
  if line < 0 ∨ C4 rs < line then .tuple #[cntV [], .iface 23 (.int .i64 2)]
  else .tuple #[cntV (find (reachesLine line) [] rs), .nilIface]
theorem line_all (b : Nat) (rs : List Nat) (line : Int) (w : World) (hT : Lib.Utf8Tabs 0 1 w) (h : isRope w b rs) (hz : C1 rs ≤ 100000000) :
    Calls Tryd.prog 90 #[.pointer (some ⟨b, 0, none⟩), .int .i64 line] w fun e w' => e = .returned (lineE line rs) ∧ Below w.heap.size w w' := by
  unfold lineE
  by_cases h0 : line < 0
  · rw [if_pos (Or.inl h0)]
    exact line_neg b rs line h0 w h
  · by_cases h1 : C4 rs < line
    · rw [if_pos (Or.inr h1)]
      exact line_far b rs line (by omega) h1 w hT h hz
    · rw [if_neg (by omega)]
      exact line_any b rs line (by omega) (by omega) w hT h hz
end Go.Proofs.YtgmgkbbnciglhaaDoor

namespace Go.Proofs.YtgmgkbbnciglhaaDoor
set_option linter.unusedVariables false

def noLF (Z : List Nat) : Prop := ∀ r ∈ Z, r ≠ 10
def endsLF (Y : List Nat) : Prop := Y = [] ∨ ∃ Y', Y = Y' ++ [10]
theorem C4_cons (r : Nat) (X : List Nat) : C4 (r :: X) = cL r + C4 X := by
  show C4 ([r] ++ X) = _
  rw [C4_append]
  congr 1
  unfold C4 sum4 wide
  simp
theorem C4_none : ∀ {Z : List Nat}, noLF Z → C4 Z = 0
  | [], _ => rfl
  | r :: Z, h => by
    rw [C4_cons, C4_none fun x hx => h x (List.mem_cons_of_mem _ hx)]
    unfold cL
    rw [if_neg (h r (List.mem_cons_self ..))]; rfl
theorem line_split : ∀ X : List Nat, ∃ Y Z, X = Y ++ Z ∧ noLF Z ∧ endsLF Y
  | [] => ⟨[], [], rfl, fun _ h => (by cases h), .inl rfl⟩
  | r :: X => by
    obtain ⟨Y, Z, e, hz, hy⟩ := line_split X
    subst e
    rcases hy with rfl | ⟨Y', rfl⟩
    · by_cases h : r = 10
      · exact ⟨[r], Z, rfl, hz, .inr ⟨[], by rw [h]; rfl⟩⟩
      · exact ⟨[], r :: Z, rfl, fun x hx => by
          rcases List.mem_cons.1 hx with rfl | hx
          · exact h
          · exact hz x hx, .inl rfl⟩
    · exact ⟨r :: (Y' ++ [10]), Z, rfl, hz, .inr ⟨r :: Y', rfl⟩⟩
/-- What is ahead of the last line is found by its number. -/
theorem find_line {Y : List Nat} (h : endsLF Y) (m : List Nat) : find (reachesLine (C4 Y)) [] (Y ++ m) = Y := by
  rcases h with rfl | ⟨Y', rfl⟩
  · have e : reachesLine (C4 []) [] = true := decide_eq_true (Int.le_refl _)
    unfold find
    rw [e, if_pos rfl]
  · have e1 : C4 [10] = 1 := rfl
    have f0 : reachesLine (C4 (Y' ++ [10])) ([] ++ Y') = false := decide_eq_false (by rw [C4_append, e1, List.nil_append]; omega)
    have f1 : reachesLine (C4 (Y' ++ [10])) ([] ++ Y' ++ [10]) = true := decide_eq_true (by rw [List.nil_append]; exact Int.le_refl _)
    rw [find_left (l := Y' ++ [10]) (by simpa using f1), find_right (reachesLine_rising _) f0]
    unfold find
    rw [f0, if_neg (by decide)]
    show (if reachesLine _ ([] ++ Y' ++ [10]) then some ([] ++ Y' ++ [10]) else none).getD _ = _
    rw [f1]
    simp
theorem find_line_of {X : List Nat} (m : List Nat) : ∃ Y Z, X = Y ++ Z ∧ noLF Z ∧ endsLF Y ∧ C4 X = C4 Y ∧ find (reachesLine (C4 X)) [] (X ++ m) = Y := by
  obtain ⟨Y, Z, rfl, hz, hy⟩ := line_split X
  have e : C4 (Y ++ Z) = C4 Y := by rw [C4_append, C4_none hz]; omega
  refine ⟨Y, Z, rfl, hz, hy, e, ?_⟩
  rw [e, List.append_assoc]
  exact find_line hy _
end Go.Proofs.YtgmgkbbnciglhaaDoor

namespace Go.Proofs.YtgmgkbbnciglhaaDoor
open Go.RowKit
set_option linter.unusedVariables false

/-- What Spot tells. -/
def spotE (u at_ : Int) (rs : List Nat) : Value :=
  if ¬ (u = 1 ∨ u = 2 ∨ u = 3) then .tuple #[.agg #[.int .i64 0, .int .i64 0], errV 1]
  else if at_ < 0 ∨ by_ u rs < at_ then .tuple #[.agg #[.int .i64 0, .int .i64 0], errV 2]
  else if by_ u (upTo rs u at_) = at_ then .tuple #[.agg #[.int .i64 (C4 (upTo rs u at_)), .int .i64 (by_ u (upTo rs u at_) - by_ u (find (reachesLine (C4 (upTo rs u at_))) [] rs))], .nilIface]
  else .tuple #[.agg #[.int .i64 0, .int .i64 0], errV 10]
theorem C1_take (rs : List Nat) (k : Nat) : C1 (rs.take k) ≤ C1 rs := by
  have e : rs.take k ++ rs.drop k = rs := List.take_append_drop k rs
  have h1 := C1_append (rs.take k) (rs.drop k)
  have h2 := C1_pos (rs.drop k)
  rw [e] at h1; omega
theorem C4_take (rs : List Nat) (k : Nat) : C4 (rs.take k) ≤ C4 rs := by
  have e : rs.take k ++ rs.drop k = rs := List.take_append_drop k rs
  have h1 := C4_append (rs.take k) (rs.drop k)
  have h2 := (C4_le (rs.drop k)).1
  rw [e] at h1; omega
theorem spot_all (b : Nat) (rs : List Nat) (u at_ : Int) (w : World) (hT : Lib.Utf8Tabs 0 1 w) (h : isRope w b rs) (hz : C1 rs ≤ 100000000) :
    Calls Tryd.prog 40 #[.pointer (some ⟨b, 0, none⟩), .int .i64 u, .int .i64 at_] w fun e w' => e = .returned (spotE u at_ rs) ∧ Below w.heap.size w w' := by
  unfold spotE
  by_cases hu : (u = 1 ∨ u = 2 ∨ u = 3)
  · rw [if_neg (not_not_intro hu)]
    have cA := fun (wx : World) (hb : Below w.heap.size w wx) => ahead_all b rs u at_ hu wx (Go.Proofs.Utf8Tabs_below hT hb) (isRope_below h hb) hz
    unfold aheadE at cA
    by_cases hl : at_ < 0 ∨ by_ u rs < at_
    · rw [if_pos hl]
      exact spot_told b u at_ 2 w fun wx hb => by have := cA wx hb; rw [if_pos hl] at this; exact this
    · rw [if_neg hl]
      by_cases hf : by_ u (upTo rs u at_) = at_
      · rw [if_pos hf]
        obtain ⟨k, hk, ek, _, _⟩ := find_least u at_ rs [] (by simpa using (by omega : at_ ≤ by_ u rs))
        rw [List.nil_append] at ek
        have ek2 : upTo rs u at_ = rs.take k := ek
        obtain ⟨Y, Z, e1, _, _, e2, e3⟩ := find_line_of (X := rs.take k) (rs.drop k)
        rw [List.take_append_drop] at e3
        have hy : C1 Y ≤ 100000000 := by
          have h1 := C1_append Y Z
          have h2 := C1_pos Z
          have h3 := C1_take rs k
          rw [← e1] at h1; omega
        have hx := C1_take rs k
        have h4 := C4_take rs k
        have h5 := (C4_le (rs.take k)).1
        rw [hf]
        rw [ek2] at hf ⊢
        rw [e3]
        have key := spot_good b rs (rs.take k) Y u at_ w (by omega) hy
          (fun wx hb => by
            have := cA wx hb
            rw [if_neg hl, if_pos (by rw [ek]; exact hf), ek] at this
            exact this)
          (fun wx hb => by
            have := line_all b rs (C4 (rs.take k)) wx (Go.Proofs.Utf8Tabs_below hT hb) (isRope_below h hb) hz
            unfold lineE at this
            rw [if_neg (by omega), e3] at this
            exact this)
        rw [hf] at key
        exact key
      · rw [if_neg hf]
        exact spot_told b u at_ 10 w fun wx hb => by have := cA wx hb; have hf2 : ¬ by_ u (find (reachesBy u at_) [] rs) = at_ := hf; rw [if_neg hl, if_neg hf2] at this; exact this
  · rw [if_pos hu]
    exact spot_told b u at_ 1 w fun wx hb => ahead_bad b u at_ hu wx
end Go.Proofs.YtgmgkbbnciglhaaDoor

namespace Go.Proofs.YtgmgkbbnciglhaaDoor
open Go.RowKit
set_option linter.unusedVariables false
attribute [local go_sem] Oper.semAt_some

set_option maxRecDepth 100000 in
set_option maxHeartbeats 4000000 in
theorem lineEnd_last (b : Nat) (rs : List Nat) (u line : Int) (h0 : 0 ≤ line) (h1 : line ≤ C4 rs) (h2 : C4 rs < line + 1) (w : World) (hT : Lib.Utf8Tabs 0 1 w) (h : isRope w b rs) (hz : C1 rs ≤ 100000000) :
    Calls Tryd.prog 91 #[.pointer (some ⟨b, 0, none⟩), .int .i64 u, .int .i64 line] w fun e w' => e = .returned (.int .i64 (by_ u rs)) ∧ Below w.heap.size w w' := by
  have cL : Hid (Calls Tryd.prog 90 #[.pointer (some ⟨b, 0, none⟩), .int .i64 (line + 1)] w fun e w' => e = .returned (.tuple #[.agg #[.int .i64 0, .int .i64 0, .int .i64 0, .int .i64 0], .iface 23 (.int .i64 2)]) ∧ Below w.heap.size w w') := by
    have := line_all b rs (line + 1) w hT h hz
    unfold lineE at this
    rw [if_pos (Or.inr h2)] at this
    exact this
  have cC : Hid (∀ wx, Below w.heap.size w wx → Calls Tryd.prog 38 #[.pointer (some ⟨b, 0, none⟩)] wx fun e w' => e = .returned (cntV rs) ∧ Below wx.heap.size wx w') := fun wx hb => ropecounts_any b rs wx (isRope_below h hb)
  have cI : Hid (∀ wx, Calls Tryd.prog 37 #[cntV rs, .int .i64 u] wx fun e w' => e = .returned (.int .i64 (by_ u rs)) ∧ Below wx.heap.size wx w') := fun wx => In_any u rs wx
  have bz := (C4_le rs).2
  have hl0 : 0 ≤ line := h0
  have hl1 : line ≤ 100000000 := by omega
  unfold cntV at cC cI
  clear hT h hz h0 h1 h2 bz
  generalize by_ u rs = n at *
  go_enter Tryd.func91, Tryd.ntmps91
  go_wp2_with (first
    | (go_at_call 90; refine Calls.mono cL.out ?_; rintro e w1 ⟨rfl, hb1⟩; have HB1 : Hid (Below w.heap.size w w1) := hb1; clear hb1; have HB2 : Hid (Below w.heap.size w (w1.alloc (.cells #[.int .i64 0, .int .i64 0, .int .i64 0, .int .i64 0] 36))) := HB1.out.alloc HB1.out.size _)
    | (go_at_call 38; refine (cC.out _ HB2.out).mono ?_; rintro e w3 ⟨rfl, hb3⟩; have HB3 : Hid (Below w.heap.size w w3) := HB2.out.trans (hb3.mono HB2.out.size); clear hb3)
    | (go_at_call 37; refine (cI.out _).mono ?_; rintro e w4 ⟨rfl, hb4⟩)
    | fail)
  go_ret
  exact ⟨rfl, HB3.out.trans (hb4.mono HB3.out.size)⟩

set_option maxRecDepth 100000 in
set_option maxHeartbeats 4000000 in
theorem lineEnd_more (b : Nat) (rs X : List Nat) (u line : Int) (h0 : 0 ≤ line) (h2 : line + 1 ≤ C4 rs) (w : World) (hT : Lib.Utf8Tabs 0 1 w) (h : isRope w b rs) (hz : C1 rs ≤ 100000000) (hX : find (reachesLine (line + 1)) [] rs = X) (hx : by_ u X ≤ 200000000) :
    Calls Tryd.prog 91 #[.pointer (some ⟨b, 0, none⟩), .int .i64 u, .int .i64 line] w fun e w' => e = .returned (.int .i64 (by_ u X - 1)) ∧ Below w.heap.size w w' := by
  have cL : Hid (Calls Tryd.prog 90 #[.pointer (some ⟨b, 0, none⟩), .int .i64 (line + 1)] w fun e w' => e = .returned (.tuple #[cntV X, .nilIface]) ∧ Below w.heap.size w w') := by
    have := line_all b rs (line + 1) w hT h hz
    unfold lineE at this
    rw [if_neg (by omega), hX] at this
    exact this
  have cI : Hid (∀ wx, Calls Tryd.prog 37 #[cntV X, .int .i64 u] wx fun e w' => e = .returned (.int .i64 (by_ u X)) ∧ Below wx.heap.size wx w') := fun wx => In_any u X wx
  have bz := (C4_le rs).2
  have px := by_pos u X
  have hl0 : 0 ≤ line := h0
  have hl1 : line ≤ 100000000 := by omega
  unfold cntV at cL cI
  clear hT h hz h0 h2 bz hX
  generalize by_ u X = n at *
  go_enter Tryd.func91, Tryd.ntmps91
  go_wp2_with (first
    | (go_at_call 90; refine Calls.mono cL.out ?_; rintro e w1 ⟨rfl, hb1⟩; have HB1 : Hid (Below w.heap.size w w1) := hb1; clear hb1; have HB2 : Hid (Below w.heap.size w (w1.alloc (.cells #[.int .i64 (C1 X), .int .i64 (C2 X), .int .i64 (C3 X), .int .i64 (C4 X)] 36))) := HB1.out.alloc HB1.out.size _)
    | (go_at_call 37; refine (cI.out _).mono ?_; rintro e w4 ⟨rfl, hb4⟩)
    | fail)
  go_ret
  exact ⟨rfl, HB2.out.trans (hb4.mono HB2.out.size)⟩
end Go.Proofs.YtgmgkbbnciglhaaDoor

namespace Go.Proofs.YtgmgkbbnciglhaaDoor
open Go.RowKit
set_option linter.unusedVariables false
attribute [local go_sem] Oper.semAt_some yieldsUpon okUpon field0 field3

set_option maxRecDepth 100000 in
set_option maxHeartbeats 4000000 in
theorem place_unit (b : Nat) (u line col E : Int) (w : World)
    (cU : Hid (∀ wx, Below w.heap.size w wx → Calls Tryd.prog 89 #[.pointer (some ⟨b, 0, none⟩), .int .i64 u] wx fun e w' => e = .returned (.iface 23 (.int .i64 E)) ∧ Below wx.heap.size wx w')) :
    Calls Tryd.prog 41 #[.pointer (some ⟨b, 0, none⟩), .int .i64 u, .agg #[.int .i64 line, .int .i64 col]] w fun e w' => e = .returned (.tuple #[.int .i64 0, .iface 23 (.int .i64 E)]) ∧ Below w.heap.size w w' := by
  have HB0 : Hid (Below w.heap.size w (w.alloc (.cells #[.int .i64 line, .int .i64 col] 77))) := (Below.refl _ w).alloc (Nat.le_refl _) _
  have HS0 : Hid (spotW (w.alloc (.cells #[.int .i64 line, .int .i64 col] 77)) w.heap.size line col) := spotW_new w _ _ _
  go_enter Tryd.func41, Tryd.ntmps41
  go_wp2_with (first
    | (go_at_call 89; refine (cU.out _ HB0.out).mono ?_; rintro e w1 ⟨rfl, hb1⟩; have HB1 : Hid (Below w.heap.size w w1) := HB0.out.trans (hb1.mono HB0.out.size); have HS1 : Hid (spotW w1 w.heap.size line col) := spotW_below HS0.out hb1; clear hb1; have ⟨⟨p0, p1⟩, p2, p3⟩ := HS1.out)
    | fail)
  go_ret2
  exact ⟨rfl, HB1.out⟩

set_option maxRecDepth 100000 in
set_option maxHeartbeats 4000000 in
theorem place_line (b : Nat) (u line col E : Int) (w : World)
    (cU : Hid (∀ wx, Below w.heap.size w wx → Calls Tryd.prog 89 #[.pointer (some ⟨b, 0, none⟩), .int .i64 u] wx fun e w' => e = .returned .nilIface ∧ Below wx.heap.size wx w'))
    (cL : Hid (∀ wx, Below w.heap.size w wx → Calls Tryd.prog 90 #[.pointer (some ⟨b, 0, none⟩), .int .i64 line] wx fun e w' => e = .returned (.tuple #[cntV [], .iface 23 (.int .i64 E)]) ∧ Below wx.heap.size wx w')) :
    Calls Tryd.prog 41 #[.pointer (some ⟨b, 0, none⟩), .int .i64 u, .agg #[.int .i64 line, .int .i64 col]] w fun e w' => e = .returned (.tuple #[.int .i64 0, .iface 23 (.int .i64 E)]) ∧ Below w.heap.size w w' := by
  have hC : cntV [] = .agg #[.int .i64 0, .int .i64 0, .int .i64 0, .int .i64 0] := rfl
  rw [hC] at cL
  clear hC
  have HB0 : Hid (Below w.heap.size w (w.alloc (.cells #[.int .i64 line, .int .i64 col] 77))) := (Below.refl _ w).alloc (Nat.le_refl _) _
  have HS0 : Hid (spotW (w.alloc (.cells #[.int .i64 line, .int .i64 col] 77)) w.heap.size line col) := spotW_new w _ _ _
  go_enter Tryd.func41, Tryd.ntmps41
  go_wp2_with (first
    | (go_at_call 89; refine (cU.out _ HB0.out).mono ?_; rintro e w1 ⟨rfl, hb1⟩; have HB1 : Hid (Below w.heap.size w w1) := HB0.out.trans (hb1.mono HB0.out.size); have HS1 : Hid (spotW w1 w.heap.size line col) := spotW_below HS0.out hb1; clear hb1; have ⟨⟨p0, p1⟩, p2, p3⟩ := HS1.out)
    | (go_at_call 90; refine (cL.out _ HB1.out).mono ?_; rintro e w2 ⟨rfl, hb2⟩; have HB2 : Hid (Below w.heap.size w w2) := HB1.out.trans (hb2.mono HB1.out.size); clear hb2)
    | fail)
  go_ret2
  exact ⟨rfl, HB2.out.alloc HB2.out.size _⟩

set_option maxRecDepth 100000 in
set_option maxHeartbeats 4000000 in
theorem place_neg (b : Nat) (B : List Nat) (u line col nB : Int) (hc : col < 0) (w : World)
    (cU : Hid (∀ wx, Below w.heap.size w wx → Calls Tryd.prog 89 #[.pointer (some ⟨b, 0, none⟩), .int .i64 u] wx fun e w' => e = .returned .nilIface ∧ Below wx.heap.size wx w'))
    (cL : Hid (∀ wx, Below w.heap.size w wx → Calls Tryd.prog 90 #[.pointer (some ⟨b, 0, none⟩), .int .i64 line] wx fun e w' => e = .returned (.tuple #[cntV B, .nilIface]) ∧ Below wx.heap.size wx w'))
    (cI : Hid (∀ wx, Calls Tryd.prog 37 #[cntV B, .int .i64 u] wx fun e w' => e = .returned (.int .i64 nB) ∧ Below wx.heap.size wx w')) :
    Calls Tryd.prog 41 #[.pointer (some ⟨b, 0, none⟩), .int .i64 u, .agg #[.int .i64 line, .int .i64 col]] w fun e w' => e = .returned (.tuple #[.int .i64 0, .iface 23 (.int .i64 2)]) ∧ Below w.heap.size w w' := by
  unfold cntV at cL cI
  have HB0 : Hid (Below w.heap.size w (w.alloc (.cells #[.int .i64 line, .int .i64 col] 77))) := (Below.refl _ w).alloc (Nat.le_refl _) _
  have HS0 : Hid (spotW (w.alloc (.cells #[.int .i64 line, .int .i64 col] 77)) w.heap.size line col) := spotW_new w _ _ _
  go_enter Tryd.func41, Tryd.ntmps41
  go_wp2_with (first
    | (go_at_call 89; refine (cU.out _ HB0.out).mono ?_; rintro e w1 ⟨rfl, hb1⟩; have HB1 : Hid (Below w.heap.size w w1) := HB0.out.trans (hb1.mono HB0.out.size); have HS1 : Hid (spotW w1 w.heap.size line col) := spotW_below HS0.out hb1; clear hb1; have ⟨⟨p0, p1⟩, p2, p3⟩ := HS1.out)
    | (go_at_call 90; refine (cL.out _ HB1.out).mono ?_; rintro e w2 ⟨rfl, hb2⟩; have HB2 : Hid (Below w.heap.size w w2) := HB1.out.trans (hb2.mono HB1.out.size); have HS2 : Hid (spotW w2 w.heap.size line col) := spotW_below HS1.out hb2; have HB3 : Hid (Below w.heap.size w (w2.alloc (.cells #[.int .i64 (C1 B), .int .i64 (C2 B), .int .i64 (C3 B), .int .i64 (C4 B)] 36))) := HB2.out.alloc HB2.out.size _; have HS3 : Hid (spotW (w2.alloc (.cells #[.int .i64 (C1 B), .int .i64 (C2 B), .int .i64 (C3 B), .int .i64 (C4 B)] 36)) w.heap.size line col) := spotW_below HS2.out ((Below.refl _ _).alloc (Nat.le_refl _) _); clear hb2)
    | (go_at_call 37; refine (cI.out _).mono ?_; rintro e w4 ⟨rfl, hb4⟩; have HB4 : Hid (Below w.heap.size w w4) := HB3.out.trans (hb4.mono HB3.out.size); have HS4 : Hid (spotW w4 w.heap.size line col) := spotW_below HS3.out hb4; clear hb4)
    | fail)
  obtain ⟨⟨k0, k1⟩, k2, k3⟩ := HS4.out
  go_region
  go_wp2
  go_ret2
  exact ⟨rfl, HB4.out.drew⟩

set_option maxRecDepth 100000 in
set_option maxHeartbeats 4000000 in
theorem place_far (b : Nat) (B : List Nat) (u line col nB nE : Int) (hc : 0 ≤ col) (hw : IntKind.i64.wrap (nE - nB) = nE - nB) (hf : nE - nB < col) (w : World)
    (cU : Hid (∀ wx, Below w.heap.size w wx → Calls Tryd.prog 89 #[.pointer (some ⟨b, 0, none⟩), .int .i64 u] wx fun e w' => e = .returned .nilIface ∧ Below wx.heap.size wx w'))
    (cL : Hid (∀ wx, Below w.heap.size w wx → Calls Tryd.prog 90 #[.pointer (some ⟨b, 0, none⟩), .int .i64 line] wx fun e w' => e = .returned (.tuple #[cntV B, .nilIface]) ∧ Below wx.heap.size wx w'))
    (cI : Hid (∀ wx, Calls Tryd.prog 37 #[cntV B, .int .i64 u] wx fun e w' => e = .returned (.int .i64 nB) ∧ Below wx.heap.size wx w'))
    (cE : Hid (∀ wx, Below w.heap.size w wx → Calls Tryd.prog 91 #[.pointer (some ⟨b, 0, none⟩), .int .i64 u, .int .i64 line] wx fun e w' => e = .returned (.int .i64 nE) ∧ Below wx.heap.size wx w')) :
    Calls Tryd.prog 41 #[.pointer (some ⟨b, 0, none⟩), .int .i64 u, .agg #[.int .i64 line, .int .i64 col]] w fun e w' => e = .returned (.tuple #[.int .i64 0, .iface 23 (.int .i64 2)]) ∧ Below w.heap.size w w' := by
  have n0 : ¬ col < 0 := by omega
  unfold cntV at cL cI
  clear hc
  have HB0 : Hid (Below w.heap.size w (w.alloc (.cells #[.int .i64 line, .int .i64 col] 77))) := (Below.refl _ w).alloc (Nat.le_refl _) _
  have HS0 : Hid (spotW (w.alloc (.cells #[.int .i64 line, .int .i64 col] 77)) w.heap.size line col) := spotW_new w _ _ _
  go_enter Tryd.func41, Tryd.ntmps41
  go_wp2_with (first
    | (go_at_call 89; refine (cU.out _ HB0.out).mono ?_; rintro e w1 ⟨rfl, hb1⟩; have HB1 : Hid (Below w.heap.size w w1) := HB0.out.trans (hb1.mono HB0.out.size); have HS1 : Hid (spotW w1 w.heap.size line col) := spotW_below HS0.out hb1; clear hb1; have ⟨⟨p0, p1⟩, p2, p3⟩ := HS1.out)
    | (go_at_call 90; refine (cL.out _ HB1.out).mono ?_; rintro e w2 ⟨rfl, hb2⟩; have HB2 : Hid (Below w.heap.size w w2) := HB1.out.trans (hb2.mono HB1.out.size); have HS2 : Hid (spotW w2 w.heap.size line col) := spotW_below HS1.out hb2; have HB3 : Hid (Below w.heap.size w (w2.alloc (.cells #[.int .i64 (C1 B), .int .i64 (C2 B), .int .i64 (C3 B), .int .i64 (C4 B)] 36))) := HB2.out.alloc HB2.out.size _; have HS3 : Hid (spotW (w2.alloc (.cells #[.int .i64 (C1 B), .int .i64 (C2 B), .int .i64 (C3 B), .int .i64 (C4 B)] 36)) w.heap.size line col) := spotW_below HS2.out ((Below.refl _ _).alloc (Nat.le_refl _) _); clear hb2)
    | (go_at_call 37; refine (cI.out _).mono ?_; rintro e w4 ⟨rfl, hb4⟩; have HB4 : Hid (Below w.heap.size w w4) := HB3.out.trans (hb4.mono HB3.out.size); have HS4 : Hid (spotW w4 w.heap.size line col) := spotW_below HS3.out hb4; clear hb4)
    | fail)
  have hb4 := HB4.out
  have hs4 := HS4.out
  generalize w2.heap.size = BB at *
  clear HB0 HS0 HB1 HS1 HB2 HS2 HB3 HS3 HB4 HS4 cU cL p0 p1 p2 p3
  refine wp_region_rel 15 15 (by kernel_rfl) rfl ?_
  intro w6 hb6
  obtain ⟨G, hG⟩ := exists_growth w6
  have hb46 := hb4.trans (hb6.mono hb4.size)
  have hs6 := spotW_below hs4 hb6
  obtain ⟨⟨x0, x1⟩, _⟩ := hs6
  have gx0 := hG.cell x0
  have gx1 := hG.cell x1
  have cG := fun x => cE.out (G x) (hb46.trans ((hG.below x).mono hb46.size))
  clear x0 x1
  (refine anyG_step hG (i := 0) rfl (by kernel_rfl) (by kernel_rfl) (by kernel_rfl) (fun K hK => ?_); go_simp; refine hK _ ?_; clear hK K)
  (refine anyG_step hG (i := 1) rfl (by kernel_rfl) (by kernel_rfl) (by kernel_rfl) (fun K hK => ?_); go_simp; refine hK _ ?_; clear hK K)
  (refine anyG_step hG (i := 2) rfl (by kernel_rfl) (by kernel_rfl) (by kernel_rfl) (fun K hK => ?_); go_simp; refine hK _ ?_; clear hK K)
  (refine anyG_step hG (i := 3) rfl (by kernel_rfl) (by kernel_rfl) (by kernel_rfl) (fun K hK => ?_); go_simp; refine hK _ ?_; clear hK K)
  (refine anyG_step hG (i := 4) rfl (by kernel_rfl) (by kernel_rfl) (by kernel_rfl) (fun K hK => ?_); go_simp; refine hK _ ?_; clear hK K)
  (refine anyG_step hG (i := 5) rfl (by kernel_rfl) (by kernel_rfl) (by kernel_rfl) (fun K hK => ?_); go_simp; refine hK _ ?_; clear hK K)
  (refine anyG_step hG (i := 6) rfl (by kernel_rfl) (by kernel_rfl) (by kernel_rfl) (fun K hK => ?_); go_simp; refine hK _ ?_; clear hK K)
  (refine anyG_step hG (i := 7) rfl (by kernel_rfl) (by kernel_rfl) (by kernel_rfl) (fun K hK => ?_); go_simp; refine hK _ ?_; clear hK K)
  (refine anyG_step hG (i := 8) rfl (by kernel_rfl) (by kernel_rfl) (by kernel_rfl) (fun K hK => ?_); go_simp; refine hK _ ?_; clear hK K)
  (refine anyG_step hG (i := 9) rfl (by kernel_rfl) (by kernel_rfl) (by kernel_rfl) (fun K hK => ?_); go_simp; refine hK _ ?_; clear hK K)
  (refine anyG_step hG (i := 10) rfl (by kernel_rfl) (by kernel_rfl) (by kernel_rfl) (fun K hK => ?_); go_simp; apply Exists.intro; refine ⟨fun _ => ?_, hK _ ?_⟩; exact cG _; clear hK K)
  (refine anyG_step hG (i := 11) rfl (by kernel_rfl) (by kernel_rfl) (by kernel_rfl) (fun K hK => ?_); go_simp; refine hK _ ?_; clear hK K)
  (refine anyG_step hG (i := 12) rfl (by kernel_rfl) (by kernel_rfl) (by kernel_rfl) (fun K hK => ?_); go_simp; refine hK _ ?_; clear hK K)
  (refine anyG_step hG (i := 13) rfl (by kernel_rfl) (by kernel_rfl) (by kernel_rfl) (fun K hK => ?_); go_simp; refine hK _ ?_; clear hK K)
  (refine anyG_step hG (i := 14) rfl (by kernel_rfl) (by kernel_rfl) (by kernel_rfl) (fun K hK => ?_); go_simp; refine hK _ ?_; clear hK K)
  clear gx0 gx1 cG hG
  refine anyG_end (by kernel_rfl) ?_
  intro w7 hb7
  have hb67 := hb6.trans (hb7.mono hb6.size)
  have HB7 : Hid (Below w.heap.size w w7) := hb4.trans (hb67.mono hb4.size)
  have HS7 : Hid (spotW w7 w.heap.size line col) := spotW_below hs4 hb67
  clear hb6 hb7 hb67 hb46 hb4 hs4
  go_wp2
  go_ret2
  exact ⟨rfl, HB7.out⟩

set_option maxRecDepth 100000 in
set_option maxHeartbeats 4000000 in
theorem place_rest (b : Nat) (B X : List Nat) (u line col nB nE nX : Int) (ev : Value) (hc : 0 ≤ col) (hw : IntKind.i64.wrap (nE - nB) = nE - nB) (hf : col ≤ nE - nB) (hw2 : IntKind.i64.wrap (nB + col) = nB + col) (w : World)
    (cU : Hid (∀ wx, Below w.heap.size w wx → Calls Tryd.prog 89 #[.pointer (some ⟨b, 0, none⟩), .int .i64 u] wx fun e w' => e = .returned .nilIface ∧ Below wx.heap.size wx w'))
    (cL : Hid (∀ wx, Below w.heap.size w wx → Calls Tryd.prog 90 #[.pointer (some ⟨b, 0, none⟩), .int .i64 line] wx fun e w' => e = .returned (.tuple #[cntV B, .nilIface]) ∧ Below wx.heap.size wx w'))
    (cI : Hid (∀ wx, Calls Tryd.prog 37 #[cntV B, .int .i64 u] wx fun e w' => e = .returned (.int .i64 nB) ∧ Below wx.heap.size wx w'))
    (cE : Hid (∀ wx, Below w.heap.size w wx → Calls Tryd.prog 91 #[.pointer (some ⟨b, 0, none⟩), .int .i64 u, .int .i64 line] wx fun e w' => e = .returned (.int .i64 nE) ∧ Below wx.heap.size wx w'))
    (cA : Hid (∀ wx, Below w.heap.size w wx → Calls Tryd.prog 42 #[.pointer (some ⟨b, 0, none⟩), .int .i64 u, .int .i64 (nB + col)] wx fun e w' => e = .returned (.tuple #[cntV X, ev]) ∧ Below wx.heap.size wx w'))
    (cX : Hid (∀ wx, Calls Tryd.prog 37 #[cntV X, .int .i64 u] wx fun e w' => e = .returned (.int .i64 nX) ∧ Below wx.heap.size wx w')) :
    Calls Tryd.prog 41 #[.pointer (some ⟨b, 0, none⟩), .int .i64 u, .agg #[.int .i64 line, .int .i64 col]] w fun e w' => e = .returned (.tuple #[.int .i64 nX, ev]) ∧ Below w.heap.size w w' := by
  have n0 : ¬ col < 0 := by omega
  have n1 : ¬ nE - nB < col := by omega
  unfold cntV at cL cI cA cX
  clear hc hf
  have HB0 : Hid (Below w.heap.size w (w.alloc (.cells #[.int .i64 line, .int .i64 col] 77))) := (Below.refl _ w).alloc (Nat.le_refl _) _
  have HS0 : Hid (spotW (w.alloc (.cells #[.int .i64 line, .int .i64 col] 77)) w.heap.size line col) := spotW_new w _ _ _
  go_enter Tryd.func41, Tryd.ntmps41
  go_wp2_with (first
    | (go_at_call 89; refine (cU.out _ HB0.out).mono ?_; rintro e w1 ⟨rfl, hb1⟩; have HB1 : Hid (Below w.heap.size w w1) := HB0.out.trans (hb1.mono HB0.out.size); have HS1 : Hid (spotW w1 w.heap.size line col) := spotW_below HS0.out hb1; clear hb1; have ⟨⟨p0, p1⟩, p2, p3⟩ := HS1.out)
    | (go_at_call 90; refine (cL.out _ HB1.out).mono ?_; rintro e w2 ⟨rfl, hb2⟩; have HB2 : Hid (Below w.heap.size w w2) := HB1.out.trans (hb2.mono HB1.out.size); have HS2 : Hid (spotW w2 w.heap.size line col) := spotW_below HS1.out hb2; have HB3 : Hid (Below w.heap.size w (w2.alloc (.cells #[.int .i64 (C1 B), .int .i64 (C2 B), .int .i64 (C3 B), .int .i64 (C4 B)] 36))) := HB2.out.alloc HB2.out.size _; have HS3 : Hid (spotW (w2.alloc (.cells #[.int .i64 (C1 B), .int .i64 (C2 B), .int .i64 (C3 B), .int .i64 (C4 B)] 36)) w.heap.size line col) := spotW_below HS2.out ((Below.refl _ _).alloc (Nat.le_refl _) _); clear hb2)
    | (go_at_call 37; refine (cI.out _).mono ?_; rintro e w4 ⟨rfl, hb4⟩; have HB4 : Hid (Below w.heap.size w w4) := HB3.out.trans (hb4.mono HB3.out.size); have HS4 : Hid (spotW w4 w.heap.size line col) := spotW_below HS3.out hb4; clear hb4)
    | fail)
  have hb4 := HB4.out
  have hs4 := HS4.out
  generalize w2.heap.size = BB at *
  clear HB0 HS0 HB1 HS1 HB2 HS2 HB3 HS3 HB4 HS4 cU cL p0 p1 p2 p3
  refine wp_region_rel 15 15 (by kernel_rfl) rfl ?_
  intro w6 hb6
  obtain ⟨G, hG⟩ := exists_growth w6
  have hb46 := hb4.trans (hb6.mono hb4.size)
  have hs6 := spotW_below hs4 hb6
  obtain ⟨⟨x0, x1⟩, _⟩ := hs6
  have gx0 := hG.cell x0
  have gx1 := hG.cell x1
  have cG := fun x => cE.out (G x) (hb46.trans ((hG.below x).mono hb46.size))
  clear x0 x1
  (refine anyG_step hG (i := 0) rfl (by kernel_rfl) (by kernel_rfl) (by kernel_rfl) (fun K hK => ?_); go_simp; refine hK _ ?_; clear hK K)
  (refine anyG_step hG (i := 1) rfl (by kernel_rfl) (by kernel_rfl) (by kernel_rfl) (fun K hK => ?_); go_simp; refine hK _ ?_; clear hK K)
  (refine anyG_step hG (i := 2) rfl (by kernel_rfl) (by kernel_rfl) (by kernel_rfl) (fun K hK => ?_); go_simp; refine hK _ ?_; clear hK K)
  (refine anyG_step hG (i := 3) rfl (by kernel_rfl) (by kernel_rfl) (by kernel_rfl) (fun K hK => ?_); go_simp; refine hK _ ?_; clear hK K)
  (refine anyG_step hG (i := 4) rfl (by kernel_rfl) (by kernel_rfl) (by kernel_rfl) (fun K hK => ?_); go_simp; refine hK _ ?_; clear hK K)
  (refine anyG_step hG (i := 5) rfl (by kernel_rfl) (by kernel_rfl) (by kernel_rfl) (fun K hK => ?_); go_simp; refine hK _ ?_; clear hK K)
  (refine anyG_step hG (i := 6) rfl (by kernel_rfl) (by kernel_rfl) (by kernel_rfl) (fun K hK => ?_); go_simp; refine hK _ ?_; clear hK K)
  (refine anyG_step hG (i := 7) rfl (by kernel_rfl) (by kernel_rfl) (by kernel_rfl) (fun K hK => ?_); go_simp; refine hK _ ?_; clear hK K)
  (refine anyG_step hG (i := 8) rfl (by kernel_rfl) (by kernel_rfl) (by kernel_rfl) (fun K hK => ?_); go_simp; refine hK _ ?_; clear hK K)
  (refine anyG_step hG (i := 9) rfl (by kernel_rfl) (by kernel_rfl) (by kernel_rfl) (fun K hK => ?_); go_simp; refine hK _ ?_; clear hK K)
  (refine anyG_step hG (i := 10) rfl (by kernel_rfl) (by kernel_rfl) (by kernel_rfl) (fun K hK => ?_); go_simp; apply Exists.intro; refine ⟨fun _ => ?_, hK _ ?_⟩; exact cG _; clear hK K)
  (refine anyG_step hG (i := 11) rfl (by kernel_rfl) (by kernel_rfl) (by kernel_rfl) (fun K hK => ?_); go_simp; refine hK _ ?_; clear hK K)
  (refine anyG_step hG (i := 12) rfl (by kernel_rfl) (by kernel_rfl) (by kernel_rfl) (fun K hK => ?_); go_simp; refine hK _ ?_; clear hK K)
  (refine anyG_step hG (i := 13) rfl (by kernel_rfl) (by kernel_rfl) (by kernel_rfl) (fun K hK => ?_); go_simp; refine hK _ ?_; clear hK K)
  (refine anyG_step hG (i := 14) rfl (by kernel_rfl) (by kernel_rfl) (by kernel_rfl) (fun K hK => ?_); go_simp; refine hK _ ?_; clear hK K)
  clear gx0 gx1 cG hG
  refine anyG_end (by kernel_rfl) ?_
  intro w7 hb7
  have hb67 := hb6.trans (hb7.mono hb6.size)
  have HB7 : Hid (Below w.heap.size w w7) := hb4.trans (hb67.mono hb4.size)
  have HS7 : Hid (spotW w7 w.heap.size line col) := spotW_below hs4 hb67
  clear hb6 hb7 hb67 hb46 hb4 hs4
  obtain ⟨⟨k0, k1⟩, k2, k3⟩ := HS7.out
  go_wp2_with (first
    | (go_at_call 42; refine (cA.out _ HB7.out).mono ?_; rintro e w8 ⟨rfl, hb8⟩; have HB8 : Hid (Below w.heap.size w w8) := HB7.out.trans (hb8.mono HB7.out.size); have HB9 : Hid (Below w.heap.size w (w8.alloc (.cells #[.int .i64 (C1 X), .int .i64 (C2 X), .int .i64 (C3 X), .int .i64 (C4 X)] 36))) := HB8.out.alloc HB8.out.size _; clear hb8)
    | (go_at_call 37; refine (cX.out _).mono ?_; rintro e w9 ⟨rfl, hb9⟩; have HB10 : Hid (Below w.heap.size w w9) := HB9.out.trans (hb9.mono HB9.out.size); clear hb9)
    | fail)
  go_ret2
  exact ⟨rfl, HB10.out⟩
end Go.Proofs.YtgmgkbbnciglhaaDoor

namespace Go.Proofs.YtgmgkbbnciglhaaDoor
open Go.RowKit
set_option linter.unusedVariables false

theorem find_take (f : List Nat → Bool) : ∀ (rs pre : List Nat), ∃ k, find f pre rs = pre ++ rs.take k
  | [], pre => ⟨0, by unfold find; split <;> simp [seek]⟩
  | r :: rs, pre => by
    by_cases h : f pre = true
    · exact ⟨0, by unfold find; rw [if_pos h]; simp⟩
    · obtain ⟨k, hk⟩ := find_take f rs (pre ++ [r])
      refine ⟨k + 1, ?_⟩
      have e : find f pre (r :: rs) = find f (pre ++ [r]) rs := by
        unfold find
        rw [if_neg h, seek]
        split
        · rfl
        · simp
      rw [e, hk]; simp
theorem find_small (f : List Nat → Bool) (rs : List Nat) (hz : C1 rs ≤ 100000000) : C1 (find f [] rs) ≤ 100000000 := by
  obtain ⟨k, hk⟩ := find_take f rs []
  rw [hk, List.nil_append]
  have := C1_take rs k
  omega
/-- Where a line begins, and where it ends, in a unit. -/
def beginL (u line : Int) (rs : List Nat) : Int := by_ u (find (reachesLine line) [] rs)
def endL (u line : Int) (rs : List Nat) : Int := if C4 rs < line + 1 then by_ u rs else by_ u (find (reachesLine (line + 1)) [] rs) - 1
/-- What Place tells. -/
def placeE (u line col : Int) (rs : List Nat) : Value :=
  if ¬ (u = 1 ∨ u = 2 ∨ u = 3) then .tuple #[.int .i64 0, errV 1]
  else if line < 0 ∨ C4 rs < line then .tuple #[.int .i64 0, errV 2]
  else if col < 0 ∨ endL u line rs - beginL u line rs < col then .tuple #[.int .i64 0, errV 2]
  else if beginL u line rs + col < 0 ∨ by_ u rs < beginL u line rs + col then .tuple #[.int .i64 0, errV 2]
  else if by_ u (upTo rs u (beginL u line rs + col)) = beginL u line rs + col then .tuple #[.int .i64 (by_ u (upTo rs u (beginL u line rs + col))), .nilIface]
  else .tuple #[.int .i64 0, errV 10]
theorem wrap_in {a : Int} (h0 : -1000000000 ≤ a) (h1 : a ≤ 1000000000) : IntKind.i64.wrap a = a := by
  unfold IntKind.wrap; simp [IntKind.bits, IntKind.signed]; omega
theorem place_all (b : Nat) (rs : List Nat) (u line col : Int) (w : World) (hT : Lib.Utf8Tabs 0 1 w) (h : isRope w b rs) (hz : C1 rs ≤ 100000000) :
    Calls Tryd.prog 41 #[.pointer (some ⟨b, 0, none⟩), .int .i64 u, .agg #[.int .i64 line, .int .i64 col]] w fun e w' => e = .returned (placeE u line col rs) ∧ Below w.heap.size w w' := by
  unfold placeE
  have tT := fun (wx : World) (hb : Below w.heap.size w wx) => Go.Proofs.Utf8Tabs_below hT hb
  have tR := fun (wx : World) (hb : Below w.heap.size w wx) => isRope_below h hb
  by_cases hu : (u = 1 ∨ u = 2 ∨ u = 3)
  · rw [if_neg (not_not_intro hu)]
    have cU : Hid _ := fun (wx : World) (hb : Below w.heap.size w wx) => unitError_good b rs u hu wx (tT wx hb) (tR wx hb) hz
    have cL := fun (wx : World) (hb : Below w.heap.size w wx) => line_all b rs line wx (tT wx hb) (tR wx hb) hz
    unfold lineE at cL
    by_cases hl : line < 0 ∨ C4 rs < line
    · rw [if_pos hl]
      exact place_line b u line col 2 w cU fun wx hb => by have := cL wx hb; rw [if_pos hl] at this; exact this
    · rw [if_neg hl]
      have cL2 : Hid _ := fun (wx : World) (hb : Below w.heap.size w wx) => by have := cL wx hb; rw [if_neg hl] at this; exact this
      have cI : Hid _ := fun (wx : World) => In_any u (find (reachesLine line) [] rs) wx
      have s0 := find_small (reachesLine line) rs hz
      have s1 := by_le u (find (reachesLine line) [] rs)
      have s2 := by_pos u (find (reachesLine line) [] rs)
      have s3 := find_small (reachesLine (line + 1)) rs hz
      have s4 := by_le u (find (reachesLine (line + 1)) [] rs)
      have s5 := by_pos u (find (reachesLine (line + 1)) [] rs)
      have s6 := by_le u rs
      have s7 := by_pos u rs
      have cE : Hid (∀ wx, Below w.heap.size w wx → Calls Tryd.prog 91 #[.pointer (some ⟨b, 0, none⟩), .int .i64 u, .int .i64 line] wx fun e w' => e = .returned (.int .i64 (endL u line rs)) ∧ Below wx.heap.size wx w') := fun wx hb => by
        unfold endL
        by_cases he : C4 rs < line + 1
        · rw [if_pos he]
          exact lineEnd_last b rs u line (by omega) (by omega) he wx (tT wx hb) (tR wx hb) hz
        · rw [if_neg he]
          exact lineEnd_more b rs _ u line (by omega) (by omega) wx (tT wx hb) (tR wx hb) hz rfl (by omega)
      have eb : -1 ≤ endL u line rs ∧ endL u line rs ≤ 200000000 := by
        unfold endL
        split <;> omega
      have bb : 0 ≤ beginL u line rs ∧ beginL u line rs ≤ 200000000 := by
        unfold beginL; omega
      have hw := wrap_in (a := endL u line rs - beginL u line rs) (by omega) (by omega)
      by_cases hc : col < 0
      · rw [if_pos (Or.inl hc)]
        exact place_neg b _ u line col _ hc w cU cL2 cI
      · by_cases hf : endL u line rs - beginL u line rs < col
        · rw [if_pos (Or.inr hf)]
          exact place_far b _ u line col (beginL u line rs) _ (by omega) hw hf w cU cL2 cI cE
        · rw [if_neg (by omega)]
          have hw2 := wrap_in (a := beginL u line rs + col) (by omega) (by omega)
          have cA := fun (wx : World) (hb : Below w.heap.size w wx) => ahead_all b rs u (beginL u line rs + col) hu wx (tT wx hb) (tR wx hb) hz
          unfold aheadE at cA
          by_cases hr : beginL u line rs + col < 0 ∨ by_ u rs < beginL u line rs + col
          · rw [if_pos hr]
            exact place_rest b _ [] u line col (beginL u line rs) _ 0 (errV 2) (by omega) hw (by omega) hw2 w cU cL2 cI cE
              (fun wx hb => by have := cA wx hb; rw [if_pos hr] at this; exact this) (fun wx => by have := In_any u [] wx; rw [by_nil] at this; exact this)
          · rw [if_neg hr]
            by_cases hf2 : by_ u (find (reachesBy u (beginL u line rs + col)) [] rs) = beginL u line rs + col
            · have hf3 : by_ u (upTo rs u (beginL u line rs + col)) = beginL u line rs + col := hf2
              rw [if_pos hf3]
              exact place_rest b _ _ u line col (beginL u line rs) _ _ .nilIface (by omega) hw (by omega) hw2 w cU cL2 cI cE
                (fun wx hb => by have := cA wx hb; rw [if_neg hr, if_pos hf2] at this; exact this) (fun wx => In_any u _ wx)
            · have hf3 : ¬ by_ u (upTo rs u (beginL u line rs + col)) = beginL u line rs + col := hf2
              rw [if_neg hf3]
              exact place_rest b _ [] u line col (beginL u line rs) _ 0 (errV 10) (by omega) hw (by omega) hw2 w cU cL2 cI cE
                (fun wx hb => by have := cA wx hb; rw [if_neg hr, if_neg hf2] at this; exact this) (fun wx => by have := In_any u [] wx; rw [by_nil] at this; exact this)
  · rw [if_pos hu]
    exact place_unit b u line col 1 w fun wx hb => unitError_bad b u hu wx
end Go.Proofs.YtgmgkbbnciglhaaDoor
