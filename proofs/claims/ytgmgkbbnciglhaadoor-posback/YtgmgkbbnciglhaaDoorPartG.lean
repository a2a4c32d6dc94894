/-
  rope.Splice of any text that is one, at any place.
  The closures of ops.gather: parts are added, told, and in the end there.
  ops.gather, and its closures tell, add and done, walked.
  ops.gather's add and done, and ops.isKeep, isDrop, isPut, walked.
  ops.Norm of any operation that is not too great: its least form.
  ops.over: what its iterator does with the rounds of a loop.
  The library's contract of utf8.ValidString, laid at this program.
  ops.isOne, and what ops.Check says of any operation.
-/
import Derived.Test.YtgmgkbbnciglhaaDoorPartF
import Derived.Test.YtgmgkbbnciglhaaDoorPartA
import Derived.Lib.AppendStr
import Derived.Laws.OwnMore
import Derived.Maps.AppendAt
import Derived.Laws.EntriesVeiled
import Derived.Test.YtgmgkbbnciglhaaDoorPartC
import Derived.OwnWalkIn
import Derived.TacticsInMore
import Derived.LoopNIn
import Derived.LoopIn
import Derived.Stop.RegionWithIn
import Derived.Shelf.Unicode.ValidAny
import Derived.Test.YtgmgkbbnciglhaaDoorProg
import Derived.Test.YtgmgkbbnciglhaaDoorPartE
namespace Go.Proofs.YtgmgkbbnciglhaaDoor
open Go.RowKit
set_option linter.unusedVariables false

theorem by1 (rs : List Nat) : by_ 1 rs = C1 rs := if_pos rfl
theorem reaches_by (a : Int) : reaches a = reachesBy 1 a := by
  funext rs
  unfold reaches reachesBy
  rw [by1]
theorem whole_edge (rs : List Nat) (a : Int) : decide (C1 (find (reaches a) [] rs) = a) = onEdge rs 1 a := by
  unfold onEdge upTo
  rw [reaches_by, by1]
/-- What is wrong with a splice of so many bytes (0: nothing), and what comes of it. -/
def spliceE (rs : List Nat) (at_ drop n : Int) : Int :=
  if at_ < 0 ∨ C1 rs < at_ ∨ drop < 0 ∨ C1 rs - at_ < drop then 2
  else if onEdge rs 1 at_ = false ∨ onEdge rs 1 (at_ + drop) = false then 1
  else if 8000 - (C1 rs - drop) < n then 12 else 0
def spliceR (rs ps : List Nat) (at_ drop : Int) : List Nat :=
  if spliceE rs at_ drop (C1 ps) = 0 then upTo rs 1 at_ ++ ps ++ rs.drop (upTo rs 1 (at_ + drop)).length else rs
/-- A cut: what is ahead, what goes, what is behind. -/
theorem cut_three {rs : List Nat} {at_ drop : Int} (h0 : 0 ≤ at_) (h1 : at_ ≤ C1 rs) (h2 : 0 ≤ drop) (h3 : drop ≤ C1 rs - at_) (e1 : onEdge rs 1 at_ = true) (e2 : onEdge rs 1 (at_ + drop) = true) :
    ∃ ra rd rb, rs = ra ++ (rd ++ rb) ∧ C1 ra = at_ ∧ C1 rd = drop ∧ upTo rs 1 at_ = ra ∧ rs.drop (upTo rs 1 (at_ + drop)).length = rb := by
  have hu : unitOk 1 := .inl rfl
  obtain ⟨k, hk, ek, ck, _⟩ := (edge_first hu (rs := rs) (a := at_) (by rw [by1]; exact h1)).1 e1
  obtain ⟨j, hj, ej, cj, _⟩ := (edge_first hu (rs := rs) (a := at_ + drop) (by rw [by1]; omega)).1 e2
  rw [by1] at ck cj
  have hkj : k ≤ j := by
    by_cases h : k ≤ j
    · exact h
    · have := by_mono hu rs j k (by omega) hk
      rw [by1, by1] at this
      omega
  have et : rs.take j = rs.take k ++ (rs.drop k).take (j - k) := by
    have : j = k + (j - k) := by omega
    rw [this, List.take_add]
    congr 2
    omega
  have ed : rs.drop k = (rs.drop k).take (j - k) ++ rs.drop j := by
    have h1 := List.take_append_drop (j - k) (rs.drop k)
    rw [List.drop_drop] at h1
    have : k + (j - k) = j := by omega
    rw [this] at h1
    exact h1.symm
  refine ⟨rs.take k, (rs.drop k).take (j - k), rs.drop j, by rw [← ed, List.take_append_drop], ck, ?_, ek, ?_⟩
  · rw [et, C1_append, ck] at cj; omega
  · rw [ej, List.length_take]
    congr 1
    omega

theorem but_of {b : Nat} {w w' : World} {e : Ending} {v : Value} (h : e = .returned v ∧ Below w.heap.size w w') : e = .returned v ∧ But b w w' := ⟨h.1, But.of_below h.2⟩

theorem splice_all (b : Nat) (rs ps : List Nat) (at_ drop : Int) (hps : ∀ r ∈ ps, isRune r) (hpz : C1 ps ≤ 10000000) (w : World) (hT : Lib.Utf8Tabs 0 1 w) (h : isRope w b rs) (hz : C1 rs ≤ 10000000) :
    Calls Tryd.prog 32 #[.pointer (some ⟨b, 0, none⟩), .int .i64 at_, .int .i64 drop, .string (bytesOf ps)] w fun e w' => e = .returned (errV (spliceE rs at_ drop (C1 ps))) ∧ isRope w' b (spliceR rs ps at_ drop) ∧ But b w w' := by
  have h0 := h
  obtain ⟨q, t, k1, k2, k3, k4, k5, k6⟩ := h
  have cC := count_of ps hps (by omega) w hT
  have cT := fun (wx : World) (hb : Below w.heap.size w wx) => ropetree_any b q wx (cell_on hb k1)
  have cN := fun (wx : World) (hb : Below w.heap.size w wx) => ncounts_any q t wx (isTree_below hb k4)
  have cW := fun (a : Int) (wx : World) (hb : Below w.heap.size w wx) => whole_any q t a wx (Go.Proofs.Utf8Tabs_below hT hb) (isTree_below hb k4) k5 (by rw [k6]; omega)
  rw [k6] at cN
  have cW2 : ∀ (a : Int) (wx : World), Below w.heap.size w wx → Calls Tryd.prog 84 #[.pointer q, .int .i64 a] wx fun e w' => e = .returned (.bool (onEdge rs 1 a)) ∧ Below wx.heap.size wx w' := fun a wx hb => by
    have := cW a wx hb
    rw [k6, whole_edge] at this
    exact this
  have hp := C1_pos rs
  have hp2 := C1_pos ps
  have hbw := World.block_lt_of_cell? w _ k1
  have hsz : (bytesOf ps).size = C1 ps := by rw [bytesOf_size, C1_len]
  have hsz2 : (bytesOf ps).size < 400000000 := by omega
  -- what tells an error changes nothing
  have key : ∀ n : Int, n ≠ 0 → spliceE rs at_ drop (C1 ps) = n → Calls Tryd.prog 32 #[.pointer (some ⟨b, 0, none⟩), .int .i64 at_, .int .i64 drop, .string (bytesOf ps)] w (fun e w' => e = .returned (.iface 23 (.int .i64 n)) ∧ Below w.heap.size w w') →
      Calls Tryd.prog 32 #[.pointer (some ⟨b, 0, none⟩), .int .i64 at_, .int .i64 drop, .string (bytesOf ps)] w (fun e w' => e = .returned (errV (spliceE rs at_ drop (C1 ps))) ∧ isRope w' b (spliceR rs ps at_ drop) ∧ But b w w') := fun n hn he hc => hc.mono fun e w' hh => by
    unfold spliceR
    rw [he, if_neg hn]
    exact ⟨by rw [hh.1]; unfold errV; rw [if_neg hn], isRope_below h0 hh.2, But.of_below hh.2⟩
  by_cases c1 : at_ < 0
  · exact key 2 (by decide) (by unfold spliceE; rw [if_pos (.inl c1)]) (splice_r1 b q at_ drop _ _ _ _ _ _ _ _ _ ⟨hp, by omega⟩ c1 w cC cT cN)
  by_cases c2 : C1 rs < at_
  · exact key 2 (by decide) (by unfold spliceE; rw [if_pos (.inr (.inl c2))]) (splice_r2 b q at_ drop _ _ _ _ _ _ _ _ _ ⟨hp, by omega⟩ c1 c2 w cC cT cN)
  by_cases c3 : drop < 0
  · exact key 2 (by decide) (by unfold spliceE; rw [if_pos (.inr (.inr (.inl c3)))]) (splice_r3 b q at_ drop _ _ _ _ _ _ _ _ _ ⟨hp, by omega⟩ c1 c2 c3 w cC cT cN)
  by_cases c4 : C1 rs - at_ < drop
  · exact key 2 (by decide) (by unfold spliceE; rw [if_pos (.inr (.inr (.inr c4)))]) (splice_r4 b q at_ drop _ _ _ _ _ _ _ _ _ ⟨hp, by omega⟩ c1 c2 c3 c4 w cC cT cN)
  have hin : ¬ (at_ < 0 ∨ C1 rs < at_ ∨ drop < 0 ∨ C1 rs - at_ < drop) := by omega
  cases e1 : onEdge rs 1 at_ with
  | false =>
    have cV := cW2 at_
    rw [e1] at cV
    exact key 1 (by decide) (by unfold spliceE; rw [if_neg hin, if_pos (.inl e1)]) (splice_a1 b q at_ drop _ _ _ _ _ _ _ _ _ ⟨hp, by omega⟩ c1 c2 c3 c4 w cC cT cN cV)
  | true =>
  have cV := cW2 at_
  rw [e1] at cV
  cases e2 : onEdge rs 1 (at_ + drop) with
  | false =>
    have cU := cW2 (at_ + drop)
    rw [e2] at cU
    exact key 1 (by decide) (by unfold spliceE; rw [if_neg hin, if_pos (.inr e2)]) (splice_a2 b q at_ drop _ _ _ _ _ _ _ _ _ ⟨hp, by omega⟩ c1 c2 c3 c4 w cC cT cN cV cU)
  | true =>
  have cU := cW2 (at_ + drop)
  rw [e2] at cU
  have hed : ¬ (onEdge rs 1 at_ = false ∨ onEdge rs 1 (at_ + drop) = false) := by rw [e1, e2]; simp
  by_cases c5 : 8000 - (C1 rs - drop) < C1 ps
  · exact key 12 (by decide) (by unfold spliceE; rw [if_neg hin, if_neg hed, if_pos c5]) (splice_full b q at_ drop _ _ _ _ _ _ _ _ _ ⟨hp, by omega⟩ c1 c2 c3 c4 (by rw [hsz]; exact c5) hsz2 w cC cT cN cV cU)
  obtain ⟨ra, rd, rb, er, ca, cd, eu, ev⟩ := cut_three (rs := rs) (at_ := at_) (drop := drop) (by omega) (by omega) (by omega) (by omega) e1 e2
  have hE : spliceE rs at_ drop (C1 ps) = 0 := by unfold spliceE; rw [if_neg hin, if_neg hed, if_neg c5]
  have hR : spliceR rs ps at_ drop = ra ++ ps ++ rb := by unfold spliceR; rw [if_pos hE, eu, ev]
  have hC : C1 rs = C1 ra + (C1 rd + C1 rb) := by rw [er, C1_append, C1_append]
  have hpa := C1_pos ra
  have hpd := C1_pos rd
  have hpb := C1_pos rb
  rw [hE, hR]
  refine splice_put b q at_ drop _ _ _ _ _ _ _ _ (bytesOf ps) ⟨hp, by omega⟩ c1 c2 c3 c4 (by rw [hsz]; exact c5) hsz2 w (ra ++ ps ++ rb) hbw k1 k2 k3 ra (rd ++ rb) rb cC cT cN cV cU ?_ ?_ ?_
  · intro wx hb
    have := split_any t q ra (rd ++ rb) wx (Go.Proofs.Utf8Tabs_below hT hb) (isTree_below hb k4) k5 (by rw [k6, er]) (by rw [k6]; omega)
    rw [ca] at this
    exact this
  · intro wx q2 t2 hb ht ho hr
    refine ⟨rd, ?_⟩
    have := split_any t2 q2 rd rb wx (Go.Proofs.Utf8Tabs_below hT hb) ht ho hr (by rw [hr, C1_append]; omega)
    rw [cd] at this
    exact this
  · intro wx qa ta qb tb hb hta hoa hra htb hob hrb
    have := between_any qa qb ta tb ps hps wx (Go.Proofs.Utf8Tabs_below hT hb) hta hoa htb hob (by rw [hra, hrb, C1_append, C1_append]; omega)
    rw [hra, hrb] at this
    exact this
end Go.Proofs.YtgmgkbbnciglhaaDoor

namespace Go.Proofs.YtgmgkbbnciglhaaDoor
open Go.RowKit
set_option linter.unusedVariables false

/-- A part's cells, an operation's cells. -/
def partCells (p : Pt) : List Value := [.int .i64 p.keep, .int .i64 p.drop, .string ⟨p.put.toArray⟩]
def cellsP (l : List Pt) : List Value := l.flatMap partCells
theorem cellsP_snoc (l : List Pt) (p : Pt) : cellsP (l ++ [p]) = cellsP l ++ partCells p := by simp [cellsP]
theorem cellsP_len (l : List Pt) : (cellsP l).length = l.length * 3 := by
  induction l with
  | nil => rfl
  | cons p l ih =>
    have : cellsP (p :: l) = partCells p ++ cellsP l := rfl
    rw [this, List.length_append, ih, List.length_cons]
    show 3 + _ = _
    omega
theorem partCells_one (p : Pt) : ∀ u ∈ partCells p, u.oneCell' = true := by
  intro u hu
  simp only [partCells, List.mem_cons, List.not_mem_nil, or_false] at hu
  rcases hu with rfl | rfl | rfl <;> rfl
theorem cells_new (w : World) (l : List Value) (t : TypeId) : ∀ j u, l[j]? = some u → (w.alloc (.cells l.toArray t)).cell? ((⟨w.heap.size, 0, none⟩ : Addr).add j) = some u := by
  intro j u hj
  obtain ⟨hl, rfl⟩ := List.getElem?_eq_some_iff.1 hj
  rw [Addr.add_lit, Nat.zero_add]
  simp

theorem cells_new_set (w : World) (a : Addr) (x : Value) (l : List Value) (t : TypeId) : ∀ j u, l[j]? = some u → ((w.setCell a x).alloc (.cells l.toArray t)).cell? ((⟨w.heap.size, 0, none⟩ : Addr).add j) = some u := by
  have h := cells_new (w.setCell a x) l t
  rwa [show (w.setCell a x).heap.size = w.heap.size by simp] at h

theorem info_part : (Tryd.prog.info? 151).map (fun i => (i.zero, i.size, i.bytes)) = some (some (.agg #[.int .i64 0, .int .i64 0, .string ⟨#[]⟩]), 3, 32) := by kernel_rfl
theorem info_u8 : (Tryd.prog.info? 5).map (fun i => (i.zero, i.size, i.bytes)) = some (some (.int .u8 0), 1, 1) := by kernel_rfl

/-- Two rows of cells of different types are different rows. -/
theorem own_ne {w : World} {B B' e e' size size' n n' : Nat} {v v' : Value} {xs xs' : List Value} (h : w.ownsRow B e size v n xs) (h' : w.ownsRow B' e' size' v' n' xs') (hne : e ≠ e') : v.ownBlock = none ∨ v.ownBlock ≠ v'.ownBlock := by
  rcases h.2 with ⟨rfl, _⟩ | ⟨g, cap, cur, rfl, _, hg, _⟩
  · exact .inl rfl
  · rcases h'.2 with ⟨rfl, _⟩ | ⟨g', cap', cur', rfl, _, hg', _⟩
    · exact .inr (by simp [Value.ownBlock])
    · refine .inr fun e => ?_
      simp only [Value.ownBlock, Option.some.injEq] at e
      subst e
      rw [hg] at hg'
      simp only [Option.some.injEq, Obj.cells.injEq] at hg'
      exact hne hg'.2.1

/-- The variables of a gathering: op in block a, put, drop and tell behind it; what op and put hold lies at M or behind it. -/
structure gath (M : Nat) (w : World) (a : Nat) (s : NSt) : Prop where
  out : ∃ p c, w.cell? ⟨a, 0, none⟩ = some (.slice p s.out.length c) ∧ w.ownsRow M 151 3 (.slice p s.out.length c) s.out.length (cellsP s.out)
  outF : w.frozen? ⟨a, 0, none⟩ = false
  put : ∃ p c, w.cell? ⟨a + 1, 0, none⟩ = some (.slice p s.put.length c) ∧ w.ownsRow M 5 1 (.slice p s.put.length c) s.put.length (Lib.byteCells s.put)
  putF : w.frozen? ⟨a + 1, 0, none⟩ = false
  drop : w.cell? ⟨a + 2, 0, none⟩ = some (.int .i64 s.drop)
  dropF : w.frozen? ⟨a + 2, 0, none⟩ = false
  tell : w.cell? ⟨a + 3, 0, none⟩ = some (.func (.func 134) #[] #[.pointer (some ⟨a + 1, 0, none⟩), .pointer (some ⟨a, 0, none⟩), .pointer (some ⟨a + 2, 0, none⟩)])
  le : a + 4 ≤ M
  top : M ≤ w.heap.size

/-- Every block but a, a + 1, a + 2 that is no row of bytes or of parts, at M or behind it, stands. -/
def KeptG (M a : Nat) (w w' : World) : Prop := ∀ k o, w.heap[k]? = some o → k ≠ a → k ≠ a + 1 → k ≠ a + 2 → (∀ c fz, M ≤ k → o ≠ .cells c 5 fz) → (∀ c fz, M ≤ k → o ≠ .cells c 151 fz) → w'.heap[k]? = some o
structure BelowG (M a : Nat) (w w' : World) : Prop where
  below : Below a w w'
  kept : KeptG M a w w'
theorem heap_lt {w : World} {k : Nat} {o : Obj} (h : w.heap[k]? = some o) : k < w.heap.size := by
  rcases Nat.lt_or_ge k w.heap.size with h' | h'
  · exact h'
  · rw [Array.getElem?_eq_none h'] at h; cases h
theorem KeptG.refl (M a : Nat) (w : World) : KeptG M a w w := fun _ _ h _ _ _ _ _ => h
theorem KeptG.trans {M : Nat} {a : Nat} {x y z : World} (h : KeptG M a x y) (k : KeptG M a y z) : KeptG M a x z := fun i o hi h1 h2 h3 h4 h5 => k i o (h i o hi h1 h2 h3 h4 h5) h1 h2 h3 h4 h5
theorem KeptG.of {M : Nat} {a : Nat} {w w' : World} (h : Below w.heap.size w w') : KeptG M a w w' := fun k o hk _ _ _ _ _ => (h.block k (heap_lt hk)).trans hk
theorem KeptG.alloc {M : Nat} {a : Nat} {w w' : World} (h : KeptG M a w w') (o : Obj) : KeptG M a w (w'.alloc o) := h.trans fun k o' hk _ _ _ _ _ => (heap_alloc_old w' o (heap_lt hk)).trans hk
theorem KeptG.set {M : Nat} {a : Nat} {w w' : World} (h : KeptG M a w w') {b : Nat} (hb : b = a ∨ b = a + 1 ∨ b = a + 2) (v : Value) : KeptG M a w (w'.setCell ⟨b, 0, none⟩ v) :=
  h.trans fun k o' hk h1 h2 h3 _ _ => (Below.heap_setCell _ _ _ _ (by show k ≠ b; omega)).trans hk
theorem KeptG.grown {M : Nat} {a e size n : Nat} {v : Value} {xs : List Value} {w w1 w2 : World} (h : KeptG M a w w1) (hr : w1.ownsRow M e size v n xs) (he : e = 5 ∨ e = 151) (hg : w1.grownBy w2 v.ownBlock) : KeptG M a w w2 := by
  refine h.trans fun k o hk _ _ _ h4 h5 => ?_
  refine (hg.block k (heap_lt hk) ?_).trans hk
  intro e'
  obtain ⟨_, hrow⟩ := hr
  rcases hrow with ⟨hx, _⟩ | ⟨g, cap, cur, rfl, hge, hgg, _⟩
  · rw [hx] at e'; cases e'
  · have e2 : some k = some g := e'
    obtain rfl := Option.some.inj e2
    rw [hk] at hgg
    rcases he with rfl | rfl
    · exact h4 _ _ hge (Option.some.inj hgg)
    · exact h5 _ _ hge (Option.some.inj hgg)
theorem BelowG.size {M : Nat} {a : Nat} {w w' : World} (h : BelowG M a w w') : w.heap.size ≤ w'.heap.size := h.below.size
theorem BelowG.refl {M : Nat} (a : Nat) (w : World) : BelowG M a w w := ⟨.refl a w, .refl M a w⟩
theorem BelowG.trans {M : Nat} {a : Nat} {x y z : World} (h : BelowG M a x y) (k : BelowG M a y z) : BelowG M a x z := ⟨h.below.trans k.below, h.kept.trans k.kept⟩
theorem BelowG.of {M : Nat} {a : Nat} {w w' : World} (h : Below w.heap.size w w') (ha : a ≤ w.heap.size) : BelowG M a w w' := ⟨h.mono ha, .of h⟩
theorem BelowG.drew {M : Nat} {a : Nat} {w w' : World} (h : BelowG M a w w') : BelowG M a w w'.drew := ⟨h.below.drew, h.kept⟩

theorem gath_lt {M : Nat} {w : World} {a : Nat} {s : NSt} (h : gath M w a s) : a + 3 < w.heap.size := World.block_lt_of_cell? w _ h.tell

theorem gath_below {M : Nat} {w w' : World} {a : Nat} {s : NSt} (h : gath M w a s) (hb : Below w.heap.size w w') : gath M w' a s := by
  have hM := h.le
  have hT := h.top
  have hlt := gath_lt h
  obtain ⟨⟨p, c, h1, h2⟩, h3, ⟨p', c', h4, h5⟩, h6, h7, h8, h9⟩ := h
  exact ⟨⟨p, c, (hb.cell (p := ⟨a, 0, none⟩) (by show a < _; omega)).trans h1, own_below h2 hb⟩, (hb.frozen (p := ⟨a, 0, none⟩) (by show a < _; omega)).trans h3,
    ⟨p', c', (hb.cell (p := ⟨a + 1, 0, none⟩) (by show a + 1 < _; omega)).trans h4, own_below h5 hb⟩, (hb.frozen (p := ⟨a + 1, 0, none⟩) (by show a + 1 < _; omega)).trans h6,
    (hb.cell (p := ⟨a + 2, 0, none⟩) (by show a + 2 < _; omega)).trans h7, (hb.frozen (p := ⟨a + 2, 0, none⟩) (by show a + 2 < _; omega)).trans h8, (hb.cell (p := ⟨a + 3, 0, none⟩) (by show a + 3 < _; omega)).trans h9, hM, Nat.le_trans hT hb.size⟩

/-- A row beside a box that is written. -/
theorem own_set {w : World} {B e size n b : Nat} {v : Value} {xs : List Value} (h : w.ownsRow B e size v n xs) (hb : b < B) (u : Value) : (w.setCell ⟨b, 0, none⟩ u).ownsRow B e size v n xs := by
  obtain ⟨h0, hrow⟩ := h
  refine ⟨h0, ?_⟩
  rcases hrow with hn | ⟨g, cap, cur, rfl, hg, hgg, rest⟩
  · exact .inl hn
  · exact .inr ⟨g, cap, cur, rfl, hg, (Below.heap_setCell _ _ _ _ (by show g ≠ b; omega)).trans hgg, rest⟩

theorem cell_set_ne {w : World} {b b' o : Nat} (h : b' ≠ b) (u : Value) : (w.setCell ⟨b, 0, none⟩ u).cell? ⟨b', o, none⟩ = w.cell? ⟨b', o, none⟩ := by
  unfold World.cell?
  rw [Below.heap_setCell _ _ _ _ (by show b' ≠ b; exact h)]

/-- A block behind the variables that is not the row of op's. -/
def spare (w : World) (a b : Nat) : Prop := b < w.heap.size ∧ a + 3 < b ∧ ∀ v, w.cell? ⟨a, 0, none⟩ = some v → v.ownBlock ≠ some b

/-- Behind an append to op: the blocks beside it. -/
theorem push_spare {w w1 : World} {a b : Nat} {v v' : Value} {o : Obj} (hc : w.cell? ⟨a, 0, none⟩ = some v) (hc1 : (w1.cell? ⟨a, 0, none⟩).isSome = true) (hg : (w.alloc o).grownBy w1 v.ownBlock) (hat : v'.ownBlock = v.ownBlock ∨ ∃ k, v'.ownBlock = some k ∧ w.heap.size ≤ k) (h : spare w a b) :
    spare (w1.setCell ⟨a, 0, none⟩ v') a b ∧ (w1.setCell ⟨a, 0, none⟩ v').heap[b]? = w.heap[b]? := by
  obtain ⟨h1, h2, h3⟩ := h
  have hne := h3 v hc
  have hs := hg.size
  rw [World.size_alloc] at hs
  refine ⟨⟨by simp; omega, h2, ?_⟩, ?_⟩
  · intro u hu
    obtain ⟨v0, hv0⟩ := Option.isSome_iff_exists.1 hc1
    rw [World.cell?_setCell_same _ _ _ hv0] at hu
    obtain rfl := Option.some.inj hu
    rcases hat with e | ⟨k, e, hk⟩
    · rw [e]; exact hne
    · rw [e]
      intro e
      have := Option.some.inj e
      omega
  · rw [Below.heap_setCell _ _ _ _ (by show b ≠ a; omega), hg.block b (by rw [World.size_alloc]; omega) (fun e => hne e.symm)]
    exact heap_alloc_old w o h1

theorem set_spare {w : World} {a b c : Nat} (h : spare w a b) (hc : c ≠ a) (hb : c ≠ b) (u : Value) : spare (w.setCell ⟨c, 0, none⟩ u) a b ∧ (w.setCell ⟨c, 0, none⟩ u).heap[b]? = w.heap[b]? := by
  obtain ⟨h1, h2, h3⟩ := h
  refine ⟨⟨by simpa using h1, h2, fun v hv => h3 v ?_⟩, Below.heap_setCell _ _ _ _ (by show b ≠ c; omega)⟩
  rwa [cell_set_ne (by omega)] at hv

/-- Behind an append to op, and its store. -/
theorem gath_push {M : Nat} {w w1 : World} {a : Nat} {s : NSt} {p : Option Addr} {c : Nat} {o : Obj} {v' : Value} {q : Pt} (h : gath M w a s) (hc : w.cell? ⟨a, 0, none⟩ = some (.slice p s.out.length c))
    (hown1 : w1.ownsRow M 151 3 v' (s.out.length + 1) (cellsP s.out ++ partCells q)) (hg : (w.alloc o).grownBy w1 (Value.slice p s.out.length c).ownBlock) :
    gath M (w1.setCell ⟨a, 0, none⟩ v') a ⟨s.out ++ [q], s.put, s.drop⟩ ∧ BelowG M a w (w1.setCell ⟨a, 0, none⟩ v') ∧ w1.cell? ⟨a, 0, none⟩ = some (.slice p s.out.length c) ∧ w1.frozen? ⟨a, 0, none⟩ = false := by
  have hM := h.le
  have hT := h.top
  have hlt := gath_lt h
  obtain ⟨⟨p1, c1, h1, h2⟩, h3, ⟨p', c', h4, h5⟩, h6, h7, h8, h9⟩ := h
  rw [hc] at h1
  simp only [Option.some.injEq, Value.slice.injEq, true_and] at h1
  obtain ⟨rfl, rfl⟩ := h1
  have hrow : ∀ k, (Value.slice p s.out.length c).ownBlock = some k → a + 4 ≤ k := fun k hk => Nat.le_trans hM (h2.lt k hk).1
  have hb1 : Below (a + 4) w w1 := ((Below.refl (a + 4) w).alloc (by omega) o).grown hg (by rw [World.size_alloc]; omega) hrow
  have hc1 : w1.cell? ⟨a, 0, none⟩ = some (.slice p s.out.length c) := by rw [hb1.cell (p := ⟨a, 0, none⟩) (by show a < _; omega)]; exact hc
  have hf1 : w1.frozen? ⟨a, 0, none⟩ = false := by rw [hb1.frozen (p := ⟨a, 0, none⟩) (by show a < _; omega)]; exact h3
  have h5' := (h5.alloc o).kept hg (own_ne (h5.alloc o) (h2.alloc o) (by decide))
  obtain ⟨pv, cv, rfl⟩ := own_slice hown1
  refine ⟨⟨⟨pv, cv, ?_, ?_⟩, ?_, ⟨p', c', ?_, ?_⟩, ?_, ?_, ?_, ?_, hM, (by have := hb1.size; simp; omega)⟩, ⟨(hb1.mono (show a ≤ a + 4 by omega)).setCell (Nat.le_refl _) _, (((KeptG.refl M a w).alloc o).grown (h2.alloc o) (.inr rfl) hg).set (.inl rfl) _⟩, hc1, hf1⟩
  · show _ = some (Value.slice pv (s.out ++ [q]).length cv)
    rw [List.length_append]; exact World.cell?_setCell_same _ _ _ hc1
  · show World.ownsRow _ _ _ _ (.slice pv (s.out ++ [q]).length cv) (s.out ++ [q]).length (cellsP (s.out ++ [q]))
    rw [List.length_append, cellsP_snoc]; exact own_set hown1 (by omega) _
  · rw [World.frozen?_setCell]; exact hf1
  · rw [cell_set_ne (by omega)]; exact (hb1.cell (p := ⟨a + 1, 0, none⟩) (by show a + 1 < _; omega)).trans h4
  · exact own_set h5' (by omega) _
  · rw [World.frozen?_setCell]; exact (hb1.frozen (p := ⟨a + 1, 0, none⟩) (by show a + 1 < _; omega)).trans h6
  · rw [cell_set_ne (by omega)]; exact (hb1.cell (p := ⟨a + 2, 0, none⟩) (by show a + 2 < _; omega)).trans h7
  · rw [World.frozen?_setCell]; exact (hb1.frozen (p := ⟨a + 2, 0, none⟩) (by show a + 2 < _; omega)).trans h8
  · rw [cell_set_ne (by omega)]; exact (hb1.cell (p := ⟨a + 3, 0, none⟩) (by show a + 3 < _; omega)).trans h9

/-- Behind an append to put, and its store. -/
theorem gath_puts {M : Nat} {w w1 : World} {a : Nat} {s : NSt} {p : Option Addr} {c : Nat} {v' : Value} {q : List UInt8} (h : gath M w a s) (hc : w.cell? ⟨a + 1, 0, none⟩ = some (.slice p s.put.length c))
    (hown1 : w1.ownsRow M 5 1 v' (s.put.length + q.length) (Lib.byteCells s.put ++ Lib.byteCells q)) (hg : w.grownBy w1 (Value.slice p s.put.length c).ownBlock) :
    gath M (w1.setCell ⟨a + 1, 0, none⟩ v') a ⟨s.out, s.put ++ q, s.drop⟩ ∧ BelowG M a w (w1.setCell ⟨a + 1, 0, none⟩ v') ∧ w1.cell? ⟨a + 1, 0, none⟩ = some (.slice p s.put.length c) ∧ w1.frozen? ⟨a + 1, 0, none⟩ = false := by
  have hM := h.le
  have hT := h.top
  have hlt := gath_lt h
  obtain ⟨⟨p', c', h4, h5⟩, h6, ⟨p1, c1, h1, h2⟩, h3, h7, h8, h9⟩ := h
  rw [hc] at h1
  simp only [Option.some.injEq, Value.slice.injEq, true_and] at h1
  obtain ⟨rfl, rfl⟩ := h1
  have hrow : ∀ k, (Value.slice p s.put.length c).ownBlock = some k → a + 4 ≤ k := fun k hk => Nat.le_trans hM (h2.lt k hk).1
  have hb1 : Below (a + 4) w w1 := (Below.refl (a + 4) w).grown hg (by omega) hrow
  have hc1 : w1.cell? ⟨a + 1, 0, none⟩ = some (.slice p s.put.length c) := by rw [hb1.cell (p := ⟨a + 1, 0, none⟩) (by show a + 1 < _; omega)]; exact hc
  have hf1 : w1.frozen? ⟨a + 1, 0, none⟩ = false := by rw [hb1.frozen (p := ⟨a + 1, 0, none⟩) (by show a + 1 < _; omega)]; exact h3
  have h5' := h5.kept hg (own_ne h5 h2 (by decide))
  obtain ⟨pv, cv, rfl⟩ := own_slice hown1
  refine ⟨⟨⟨p', c', ?_, ?_⟩, ?_, ⟨pv, cv, ?_, ?_⟩, ?_, ?_, ?_, ?_, hM, (by have := hb1.size; simp; omega)⟩, ⟨(hb1.mono (show a ≤ a + 4 by omega)).setCell (by show a ≤ a + 1; omega) _, ((KeptG.refl M a w).grown h2 (.inl rfl) hg).set (.inr (.inl rfl)) _⟩, hc1, hf1⟩
  · rw [cell_set_ne (by omega)]; exact (hb1.cell (p := ⟨a, 0, none⟩) (by show a < _; omega)).trans h4
  · exact own_set h5' (by omega) _
  · rw [World.frozen?_setCell]; exact (hb1.frozen (p := ⟨a, 0, none⟩) (by show a < _; omega)).trans h6
  · show _ = some (Value.slice pv (s.put ++ q).length cv)
    rw [List.length_append]; exact World.cell?_setCell_same _ _ _ hc1
  · show World.ownsRow _ _ _ _ (.slice pv (s.put ++ q).length cv) (s.put ++ q).length (Lib.byteCells (s.put ++ q))
    rw [List.length_append, Lib.byteCells_append]; exact own_set hown1 (by omega) _
  · rw [World.frozen?_setCell]; exact hf1
  · rw [cell_set_ne (by omega)]; exact (hb1.cell (p := ⟨a + 2, 0, none⟩) (by show a + 2 < _; omega)).trans h7
  · rw [World.frozen?_setCell]; exact (hb1.frozen (p := ⟨a + 2, 0, none⟩) (by show a + 2 < _; omega)).trans h8
  · rw [cell_set_ne (by omega)]; exact (hb1.cell (p := ⟨a + 3, 0, none⟩) (by show a + 3 < _; omega)).trans h9

/-- Behind a store of drop. -/
theorem gath_drop {M : Nat} {w : World} {a : Nat} {s : NSt} (h : gath M w a s) (d : Int) : gath M (w.setCell ⟨a + 2, 0, none⟩ (.int .i64 d)) a ⟨s.out, s.put, d⟩ ∧ BelowG M a w (w.setCell ⟨a + 2, 0, none⟩ (.int .i64 d)) := by
  have hM := h.le
  have hT := h.top
  have hlt := gath_lt h
  obtain ⟨⟨p, c, h1, h2⟩, h3, ⟨p', c', h4, h5⟩, h6, h7, h8, h9⟩ := h
  refine ⟨⟨⟨p, c, ?_, own_set h2 (by omega) _⟩, ?_, ⟨p', c', ?_, own_set h5 (by omega) _⟩, ?_, World.cell?_setCell_same _ _ _ h7, ?_, ?_, hM, (by simp; omega)⟩, ⟨(Below.refl a w).setCell (by show a ≤ a + 2; omega) _, (KeptG.refl M a w).set (.inr (.inr rfl)) _⟩⟩
  · rw [cell_set_ne (by omega)]; exact h1
  · rw [World.frozen?_setCell]; exact h3
  · rw [cell_set_ne (by omega)]; exact h4
  · rw [World.frozen?_setCell]; exact h6
  · rw [World.frozen?_setCell]; exact h8
  · rw [cell_set_ne (by omega)]; exact h9

/-- Behind 'put = put[:0]'. -/
theorem gath_none {M : Nat} {w : World} {a : Nat} {s : NSt} {p : Option Addr} {c : Nat} (h : gath M w a s) (hc : w.cell? ⟨a + 1, 0, none⟩ = some (.slice p s.put.length c)) :
    gath M (w.setCell ⟨a + 1, 0, none⟩ (.slice p 0 c)) a ⟨s.out, [], s.drop⟩ ∧ BelowG M a w (w.setCell ⟨a + 1, 0, none⟩ (.slice p 0 c)) := by
  have hM := h.le
  have hT := h.top
  have hlt := gath_lt h
  obtain ⟨⟨p', c', h4, h5⟩, h6, ⟨p1, c1, h1, h2⟩, h3, h7, h8, h9⟩ := h
  have hc' := hc
  rw [hc] at h1
  simp only [Option.some.injEq, Value.slice.injEq, true_and] at h1
  obtain ⟨rfl, rfl⟩ := h1
  have h2' : w.ownsRow M 5 1 (.slice p 0 c) 0 [] := by
    obtain ⟨_, hrow⟩ := h2
    refine ⟨rfl, ?_⟩
    rcases hrow with ⟨hn, h0⟩ | ⟨g, cap, cur, hv, hg, hgg, hnc, rest⟩
    · simp only [Value.slice.injEq] at hn
      obtain ⟨rfl, _, rfl⟩ := hn
      exact .inl ⟨rfl, rfl⟩
    · simp only [Value.slice.injEq, true_and] at hv
      obtain ⟨rfl, rfl⟩ := hv
      exact .inr ⟨g, c, cur, rfl, hg, hgg, Nat.zero_le _, rest.1, rest.2.1, by simp⟩
  refine ⟨⟨⟨p', c', ?_, own_set h5 (by omega) _⟩, ?_, ⟨p, c, World.cell?_setCell_same _ _ _ hc', own_set h2' (by omega) _⟩, ?_, ?_, ?_, ?_, hM, (by simp; omega)⟩, ⟨(Below.refl a w).setCell (by show a ≤ a + 1; omega) _, (KeptG.refl M a w).set (.inr (.inl rfl)) _⟩⟩
  · rw [cell_set_ne (by omega)]; exact h4
  · rw [World.frozen?_setCell]; exact h6
  · rw [World.frozen?_setCell]; exact h3
  · rw [cell_set_ne (by omega)]; exact h7
  · rw [World.frozen?_setCell]; exact h8
  · rw [cell_set_ne (by omega)]; exact h9
end Go.Proofs.YtgmgkbbnciglhaaDoor

namespace Go.Proofs.YtgmgkbbnciglhaaDoor
open Go.RowKit
set_option linter.unusedVariables false

theorem gather_any (w : World) : Calls Tryd.prog 97 #[] w fun e w' => e = .returned (.tuple #[.func (.func 135) #[] #[.pointer (some ⟨w.heap.size + 1, 0, none⟩), .pointer (some ⟨w.heap.size + 2, 0, none⟩), .pointer (some ⟨w.heap.size + 3, 0, none⟩), .pointer (some ⟨w.heap.size, 0, none⟩)],
      .func (.func 136) #[] #[.pointer (some ⟨w.heap.size + 3, 0, none⟩), .pointer (some ⟨w.heap.size, 0, none⟩)]]) ∧ (∀ M w2, Below w'.heap.size w' w2 → w.heap.size + 4 ≤ M → M ≤ w2.heap.size → gath M w2 w.heap.size nst0) ∧ w'.heap.size = w.heap.size + 4 ∧ Below w.heap.size w w' := by
  go_enter Tryd.func97, Tryd.ntmps97
  go_wp2
  go_ret2
  refine ⟨rfl, fun M w2 hb hM hT => ?_, by simp [World.size_alloc], ?_⟩
  · have hs := hb.size
    simp only [World.size_alloc] at hs
    have hlt : ∀ k, k < 4 → w.heap.size + k < w.heap.size + 1 + 1 + 1 + 1 := fun k hk => by omega
    refine ⟨⟨none, 0, (hb.cell (by simp only [World.size_alloc]; omega)).trans (by simp [go_sem, nst0]), World.ownsRow_nil _ _ _ _⟩, (hb.frozen (by simp only [World.size_alloc]; omega)).trans (by simp [go_sem]), ⟨none, 0, (hb.cell (by simp only [World.size_alloc]; omega)).trans (by simp [go_sem, nst0]), World.ownsRow_nil _ _ _ _⟩, (hb.frozen (by simp only [World.size_alloc]; omega)).trans (by simp [go_sem]), (hb.cell (by simp only [World.size_alloc]; omega)).trans (by simp [go_sem, nst0]), (hb.frozen (by simp only [World.size_alloc]; omega)).trans (by simp [go_sem]), (hb.cell (by simp only [World.size_alloc]; omega)).trans (by simp [go_sem]), hM, hT⟩
  have b1 := (Below.refl w.heap.size w).alloc (Nat.le_refl _) (.cells #[.slice none 0 0] 84)
  have b2 := b1.alloc b1.size (.cells #[.slice none 0 0] 125)
  have b3 := b2.alloc b2.size (.cells #[.int .i64 0] 3)
  exact b3.alloc b3.size _

/-- What 'put[:0]' is. -/
theorem cut_none (p : Option Addr) (n c : Nat) (w : World) : (Instr.sliceAt 125 (.slice p n c) none (some (.int .i64 0)) none).run Tryd.prog w = .ok (.slice p 0 c) w := by
  have h : (if c = 0 then p else Option.map (fun x => x.add 0) p) = p := by
    cases p <;> simp [Addr.add]
  have := run_sliceAt_slice (P := Tryd.prog) w 125 (.slice p n c) none (some (.int .i64 0)) none (by kernel_rfl)
  rw [this]
  have h2 := run_slice_h (P := Tryd.prog) w 125 p n c (by kernel_rfl) .i64 0 (by omega) (by omega)
  rw [h2]
  have h3 : (sizeOf (Tryd.prog.elem 125)).run Tryd.prog w = .ok 1 w := by kernel_rfl
  rw [h3]
  simp only [Result.andThen, sliced, Int.toNat_zero, Nat.zero_mul, Nat.sub_zero]
  rw [h]

set_option maxRecDepth 100000 in
set_option maxHeartbeats 1000000 in
theorem tell_oo {M : Nat} (a : Nat) (s : NSt) (w : World) (h : gath M w a s) (hlen : s.out.length < 1000000000) (hput : s.put.length < 1000000000) (hp : s.put = []) (hd : s.drop = 0) :
    Calls Tryd.prog 134 #[.pointer (some ⟨a + 1, 0, none⟩), .pointer (some ⟨a, 0, none⟩), .pointer (some ⟨a + 2, 0, none⟩)] w fun e w' => (∃ v, e = .returned v) ∧ gath M w' a ⟨s.out, [], 0⟩ ∧ BelowG M a w w' ∧ ∀ b, spare w a b → w'.heap[b]? = w.heap[b]? := by
  have hM := h.le
  have hT := h.top
  obtain ⟨i0, hi, hz0, hz1, hz2⟩ := info_parts info_part
  have hcut := cut_none
  have hlt := gath_lt h
  have H0 : Hid (gath M w a s) := h
  obtain ⟨⟨p, c, h1, h2⟩, h3, ⟨p', c', h4, h5⟩, h6, h7, h8, h9⟩ := h
  have HO : Hid (w.ownsRow M 151 3 (.slice p s.out.length c) s.out.length (cellsP s.out)) := h2
  have HC : Hid (w.cell? ⟨a, 0, none⟩ = some (.slice p s.out.length c)) := h1
  have hpl : ¬ (0 : Int) < (s.put.length : Int) := by rw [hp]; simp
  have hdb : (s.drop == 0) = true := beq_iff_eq.2 hd
  clear h2 h5 h9 hp
  go_enter Tryd.func134, Tryd.ntmps134
  have HK0 : Hid (w.cell? ⟨a + 1, 0, none⟩ = some (.slice p' s.put.length c')) := h4
  go_wp2
  go_end0
  have F1 := gath_none H0.out HK0.out
  have F2 := gath_drop F1.1 0
  refine ⟨⟨_, rfl⟩, F2.1, F1.2.trans F2.2, fun b hb => ?_⟩
  have hb0 := hb.2.1
  have e0 : w.heap[b]? = w.heap[b]? := rfl
  have s0 := hb
  have e1 := e0
  have s1 := s0
  have e2 := e1
  have s2 := s1
  have s3 := set_spare s2 (c := a + 1) (by omega) (by omega) (.slice p' 0 c')
  exact ((set_spare s3.1 (c := a + 2) (by omega) (by omega) (.int .i64 0)).2.trans s3.2).trans e2

set_option maxRecDepth 100000 in
set_option maxHeartbeats 1000000 in
theorem tell_od {M : Nat} (a : Nat) (s : NSt) (w : World) (h : gath M w a s) (hlen : s.out.length < 1000000000) (hput : s.put.length < 1000000000) (hp : s.put = []) (hd : s.drop ≠ 0) :
    Calls Tryd.prog 134 #[.pointer (some ⟨a + 1, 0, none⟩), .pointer (some ⟨a, 0, none⟩), .pointer (some ⟨a + 2, 0, none⟩)] w fun e w' => (∃ v, e = .returned v) ∧ gath M w' a ⟨s.out ++ [⟨0, s.drop, []⟩], [], 0⟩ ∧ BelowG M a w w' ∧ ∀ b, spare w a b → w'.heap[b]? = w.heap[b]? := by
  have hM := h.le
  have hT := h.top
  obtain ⟨i0, hi, hz0, hz1, hz2⟩ := info_parts info_part
  have hcut := cut_none
  have hlt := gath_lt h
  have H0 : Hid (gath M w a s) := h
  obtain ⟨⟨p, c, h1, h2⟩, h3, ⟨p', c', h4, h5⟩, h6, h7, h8, h9⟩ := h
  have HO : Hid (w.ownsRow M 151 3 (.slice p s.out.length c) s.out.length (cellsP s.out)) := h2
  have HC : Hid (w.cell? ⟨a, 0, none⟩ = some (.slice p s.out.length c)) := h1
  have hpl : ¬ (0 : Int) < (s.put.length : Int) := by rw [hp]; simp
  have hdb : (s.drop == 0) = false := beq_eq_false_iff_ne.2 hd
  clear h2 h5 h9 hp
  go_enter Tryd.func134, Tryd.ntmps134
  go_wp2_with (first | (at_builtin; refine wpList_append_own_at _ rfl _ _ 84 rfl M 151 i0 (.agg #[.int .i64 0, .int .i64 0, .string ⟨#[]⟩]) 3 32 Tryd.underlying84 hi hz0 hz1 hz2 rfl (by decide) _ _ _ rfl (HO.out.alloc _) ⟨w.heap.size, 0, none⟩ 1 1 (partCells ⟨0, s.drop, []⟩) rfl rfl (cells_new _ _ _) (partCells_one _) (by unfold maxLen; omega) (by omega) (by first | omega | (simp; omega)) ?_) | fail)
  intro v2 w2 hown2 hg2 _ hat2
  have P2 := gath_push (q := ⟨0, s.drop, []⟩) H0.out HC.out hown2 hg2
  have hb2 : Below (a + 4) w w2 := ((Below.refl (a + 4) w).alloc (by omega) _).grown hg2 (by rw [World.size_alloc]; omega) fun k hk => Nat.le_trans hM (HO.out.lt k hk).1
  have z4 := h4
  have z6 := h6
  have z7 := h7
  have z8 := h8
  obtain ⟨p2, q2, hv2⟩ := own_slice hown2
  rw [hv2] at P2 ⊢
  rw [hv2] at hat2
  obtain ⟨G2, B2, t1, t2⟩ := P2
  have HS2 : Hid (∀ b, spare (w) a b → spare (w2.setCell ⟨a, 0, none⟩ (.slice p2 (s.out.length + 1) q2)) a b ∧ (w2.setCell ⟨a, 0, none⟩ (.slice p2 (s.out.length + 1) q2)).heap[b]? = (w).heap[b]?) := fun b hb => push_spare HC.out (by rw [t1]; rfl) hg2 (hat2.imp id fun e => ⟨_, e, by simp⟩) hb
  clear hat2
  have HG2 : Hid (gath M _ a ⟨s.out ++ [⟨0, s.drop, []⟩], s.put, s.drop⟩) := G2
  have HB2 : Hid (BelowG M a _ _) := B2
  have y4 := (hb2.cell (p := ⟨a + 1, 0, none⟩) (by show a + 1 < _; omega)).trans z4
  have y6 := (hb2.frozen (p := ⟨a + 1, 0, none⟩) (by show a + 1 < _; omega)).trans z6
  have y7 := (hb2.cell (p := ⟨a + 2, 0, none⟩) (by show a + 2 < _; omega)).trans z7
  have y8 := (hb2.frozen (p := ⟨a + 2, 0, none⟩) (by show a + 2 < _; omega)).trans z8
  have hs2 := hb2.size
  have HK5 : Hid ((w2.setCell ⟨a, 0, none⟩ (.slice p2 (s.out.length + 1) q2)).cell? ⟨a + 1, 0, none⟩ = some (.slice p' s.put.length c')) := (cell_set_ne (by omega) _).trans y4
  clear z4 z6 z7 z8 G2 B2 hown2 hg2 hb2 hv2
  clear h1 h3 h4 h6 h7 h8
  go_wp2
  go_end0
  have F1 := gath_none HG2.out HK5.out
  have F2 := gath_drop F1.1 0
  refine ⟨⟨_, rfl⟩, F2.1, (HB2.out).trans (F1.2.trans F2.2), fun b hb => ?_⟩
  have hb0 := hb.2.1
  have e0 : w.heap[b]? = w.heap[b]? := rfl
  have s0 := hb
  have e1 := e0
  have s1 := s0
  have e2 := ((HS2.out b s1).2).trans e1
  have s2 := (HS2.out b s1).1
  have s3 := set_spare s2 (c := a + 1) (by omega) (by omega) (.slice p' 0 c')
  exact ((set_spare s3.1 (c := a + 2) (by omega) (by omega) (.int .i64 0)).2.trans s3.2).trans e2

set_option maxRecDepth 100000 in
set_option maxHeartbeats 1000000 in
theorem tell_po {M : Nat} (a : Nat) (s : NSt) (w : World) (h : gath M w a s) (hlen : s.out.length < 1000000000) (hput : s.put.length < 1000000000) (hp : s.put ≠ []) (hd : s.drop = 0) :
    Calls Tryd.prog 134 #[.pointer (some ⟨a + 1, 0, none⟩), .pointer (some ⟨a, 0, none⟩), .pointer (some ⟨a + 2, 0, none⟩)] w fun e w' => (∃ v, e = .returned v) ∧ gath M w' a ⟨s.out ++ [⟨0, 0, s.put⟩], [], 0⟩ ∧ BelowG M a w w' ∧ ∀ b, spare w a b → w'.heap[b]? = w.heap[b]? := by
  have hM := h.le
  have hT := h.top
  obtain ⟨i0, hi, hz0, hz1, hz2⟩ := info_parts info_part
  have hcut := cut_none
  have hlt := gath_lt h
  have H0 : Hid (gath M w a s) := h
  obtain ⟨⟨p, c, h1, h2⟩, h3, ⟨p', c', h4, h5⟩, h6, h7, h8, h9⟩ := h
  have HO : Hid (w.ownsRow M 151 3 (.slice p s.out.length c) s.out.length (cellsP s.out)) := h2
  have HC : Hid (w.cell? ⟨a, 0, none⟩ = some (.slice p s.out.length c)) := h1
  have hpl : (0 : Int) < (s.put.length : Int) := by have := List.length_pos_iff.2 hp; omega
  have hconv : (convert 125 9 (.slice p' s.put.length c')).run Tryd.prog w = .ok (.string ⟨s.put.toArray⟩) w := string_own rfl h5
  have hdb : (s.drop == 0) = true := beq_iff_eq.2 hd
  clear h2 h5 h9 hp
  go_enter Tryd.func134, Tryd.ntmps134
  go_wp2_with (first | (at_builtin; refine wpList_append_own_at _ rfl _ _ 84 rfl M 151 i0 (.agg #[.int .i64 0, .int .i64 0, .string ⟨#[]⟩]) 3 32 Tryd.underlying84 hi hz0 hz1 hz2 rfl (by decide) _ _ _ rfl (HO.out.alloc _) ⟨w.heap.size, 0, none⟩ 1 1 (partCells ⟨0, 0, s.put⟩) rfl rfl (cells_new _ _ _) (partCells_one _) (by unfold maxLen; omega) (by omega) (by first | omega | (simp; omega)) ?_) | fail)
  intro v1 w1 hown1 hg1 _ hat1
  have P1 := gath_push (q := ⟨0, 0, s.put⟩) H0.out HC.out hown1 hg1
  have hb1 : Below (a + 4) w w1 := ((Below.refl (a + 4) w).alloc (by omega) _).grown hg1 (by rw [World.size_alloc]; omega) fun k hk => Nat.le_trans hM (HO.out.lt k hk).1
  obtain ⟨p1, q1, hv1⟩ := own_slice hown1
  rw [hv1] at P1 hown1 ⊢
  rw [hv1] at hat1
  obtain ⟨G1, B1, r1, r2⟩ := P1
  have HS1 : Hid (∀ b, spare w a b → spare (w1.setCell ⟨a, 0, none⟩ (.slice p1 (s.out.length + 1) q1)) a b ∧ (w1.setCell ⟨a, 0, none⟩ (.slice p1 (s.out.length + 1) q1)).heap[b]? = w.heap[b]?) := fun b hb => push_spare HC.out (by rw [r1]; rfl) hg1 (hat1.imp id fun e => ⟨_, e, by simp⟩) hb
  clear hat1
  have HG1 : Hid (gath M _ a ⟨s.out ++ [⟨0, 0, s.put⟩], s.put, s.drop⟩) := G1
  have HB1 : Hid (BelowG M a w _) := B1
  have HO1 : Hid ((w1.setCell ⟨a, 0, none⟩ (.slice p1 (s.out.length + 1) q1)).ownsRow M 151 3 (.slice p1 (s.out.length + 1) q1) (s.out.length + 1) (cellsP s.out ++ partCells ⟨0, 0, s.put⟩)) := own_set hown1 (show a < M by omega) (.slice p1 (s.out.length + 1) q1)
  have k4 := (hb1.cell (p := ⟨a + 1, 0, none⟩) (by show a + 1 < _; omega)).trans h4
  have k6 := (hb1.frozen (p := ⟨a + 1, 0, none⟩) (by show a + 1 < _; omega)).trans h6
  have k7 := (hb1.cell (p := ⟨a + 2, 0, none⟩) (by show a + 2 < _; omega)).trans h7
  have k8 := (hb1.frozen (p := ⟨a + 2, 0, none⟩) (by show a + 2 < _; omega)).trans h8
  have hs1 := hb1.size
  have HK1 : Hid ((w1.setCell ⟨a, 0, none⟩ (.slice p1 (s.out.length + 1) q1)).cell? ⟨a, 0, none⟩ = some (.slice p1 (s.out.length + 1) q1)) := World.cell?_setCell_same _ _ _ r1
  have HK4 : Hid ((w1.setCell ⟨a, 0, none⟩ (.slice p1 (s.out.length + 1) q1)).cell? ⟨a + 1, 0, none⟩ = some (.slice p' s.put.length c')) := (cell_set_ne (by omega) _).trans k4
  clear h1 h3 h4 h6 h7 h8 G1 B1 hown1 hg1 hconv hb1 hv1
  go_wp2
  go_end0
  have F1 := gath_none HG1.out HK4.out
  have F2 := gath_drop F1.1 0
  refine ⟨⟨_, rfl⟩, F2.1, (HB1.out).trans (F1.2.trans F2.2), fun b hb => ?_⟩
  have hb0 := hb.2.1
  have e0 : w.heap[b]? = w.heap[b]? := rfl
  have s0 := hb
  have e1 := (HS1.out b s0).2
  have s1 := (HS1.out b s0).1
  have e2 := e1
  have s2 := s1
  have s3 := set_spare s2 (c := a + 1) (by omega) (by omega) (.slice p' 0 c')
  exact ((set_spare s3.1 (c := a + 2) (by omega) (by omega) (.int .i64 0)).2.trans s3.2).trans e2

set_option maxRecDepth 100000 in
set_option maxHeartbeats 1000000 in
theorem tell_pd {M : Nat} (a : Nat) (s : NSt) (w : World) (h : gath M w a s) (hlen : s.out.length < 1000000000) (hput : s.put.length < 1000000000) (hp : s.put ≠ []) (hd : s.drop ≠ 0) :
    Calls Tryd.prog 134 #[.pointer (some ⟨a + 1, 0, none⟩), .pointer (some ⟨a, 0, none⟩), .pointer (some ⟨a + 2, 0, none⟩)] w fun e w' => (∃ v, e = .returned v) ∧ gath M w' a ⟨s.out ++ [⟨0, 0, s.put⟩, ⟨0, s.drop, []⟩], [], 0⟩ ∧ BelowG M a w w' ∧ ∀ b, spare w a b → w'.heap[b]? = w.heap[b]? := by
  have hM := h.le
  have hT := h.top
  obtain ⟨i0, hi, hz0, hz1, hz2⟩ := info_parts info_part
  have hcut := cut_none
  have hlt := gath_lt h
  have H0 : Hid (gath M w a s) := h
  obtain ⟨⟨p, c, h1, h2⟩, h3, ⟨p', c', h4, h5⟩, h6, h7, h8, h9⟩ := h
  have HO : Hid (w.ownsRow M 151 3 (.slice p s.out.length c) s.out.length (cellsP s.out)) := h2
  have HC : Hid (w.cell? ⟨a, 0, none⟩ = some (.slice p s.out.length c)) := h1
  have hpl : (0 : Int) < (s.put.length : Int) := by have := List.length_pos_iff.2 hp; omega
  have hconv : (convert 125 9 (.slice p' s.put.length c')).run Tryd.prog w = .ok (.string ⟨s.put.toArray⟩) w := string_own rfl h5
  have hdb : (s.drop == 0) = false := beq_eq_false_iff_ne.2 hd
  clear h2 h5 h9 hp
  go_enter Tryd.func134, Tryd.ntmps134
  go_wp2_with (first | (at_builtin; refine wpList_append_own_at _ rfl _ _ 84 rfl M 151 i0 (.agg #[.int .i64 0, .int .i64 0, .string ⟨#[]⟩]) 3 32 Tryd.underlying84 hi hz0 hz1 hz2 rfl (by decide) _ _ _ rfl (HO.out.alloc _) ⟨w.heap.size, 0, none⟩ 1 1 (partCells ⟨0, 0, s.put⟩) rfl rfl (cells_new _ _ _) (partCells_one _) (by unfold maxLen; omega) (by omega) (by first | omega | (simp; omega)) ?_) | fail)
  intro v1 w1 hown1 hg1 _ hat1
  have P1 := gath_push (q := ⟨0, 0, s.put⟩) H0.out HC.out hown1 hg1
  have hb1 : Below (a + 4) w w1 := ((Below.refl (a + 4) w).alloc (by omega) _).grown hg1 (by rw [World.size_alloc]; omega) fun k hk => Nat.le_trans hM (HO.out.lt k hk).1
  obtain ⟨p1, q1, hv1⟩ := own_slice hown1
  rw [hv1] at P1 hown1 ⊢
  rw [hv1] at hat1
  obtain ⟨G1, B1, r1, r2⟩ := P1
  have HS1 : Hid (∀ b, spare w a b → spare (w1.setCell ⟨a, 0, none⟩ (.slice p1 (s.out.length + 1) q1)) a b ∧ (w1.setCell ⟨a, 0, none⟩ (.slice p1 (s.out.length + 1) q1)).heap[b]? = w.heap[b]?) := fun b hb => push_spare HC.out (by rw [r1]; rfl) hg1 (hat1.imp id fun e => ⟨_, e, by simp⟩) hb
  clear hat1
  have HG1 : Hid (gath M _ a ⟨s.out ++ [⟨0, 0, s.put⟩], s.put, s.drop⟩) := G1
  have HB1 : Hid (BelowG M a w _) := B1
  have HO1 : Hid ((w1.setCell ⟨a, 0, none⟩ (.slice p1 (s.out.length + 1) q1)).ownsRow M 151 3 (.slice p1 (s.out.length + 1) q1) (s.out.length + 1) (cellsP s.out ++ partCells ⟨0, 0, s.put⟩)) := own_set hown1 (show a < M by omega) (.slice p1 (s.out.length + 1) q1)
  have k4 := (hb1.cell (p := ⟨a + 1, 0, none⟩) (by show a + 1 < _; omega)).trans h4
  have k6 := (hb1.frozen (p := ⟨a + 1, 0, none⟩) (by show a + 1 < _; omega)).trans h6
  have k7 := (hb1.cell (p := ⟨a + 2, 0, none⟩) (by show a + 2 < _; omega)).trans h7
  have k8 := (hb1.frozen (p := ⟨a + 2, 0, none⟩) (by show a + 2 < _; omega)).trans h8
  have hs1 := hb1.size
  have HK1 : Hid ((w1.setCell ⟨a, 0, none⟩ (.slice p1 (s.out.length + 1) q1)).cell? ⟨a, 0, none⟩ = some (.slice p1 (s.out.length + 1) q1)) := World.cell?_setCell_same _ _ _ r1
  have HK4 : Hid ((w1.setCell ⟨a, 0, none⟩ (.slice p1 (s.out.length + 1) q1)).cell? ⟨a + 1, 0, none⟩ = some (.slice p' s.put.length c')) := (cell_set_ne (by omega) _).trans k4
  clear h1 h3 h4 h6 h7 h8 G1 B1 hown1 hg1 hconv hb1 hv1
  go_wp2_with (first | (at_builtin; refine wpList_append_own_at _ rfl _ _ 84 rfl M 151 i0 (.agg #[.int .i64 0, .int .i64 0, .string ⟨#[]⟩]) 3 32 Tryd.underlying84 hi hz0 hz1 hz2 rfl (by decide) _ _ _ rfl (HO1.out.alloc _) ⟨w1.heap.size, 0, none⟩ 1 1 (partCells ⟨0, s.drop, []⟩) rfl rfl (cells_new_set _ _ _ _ _) (partCells_one _) (by unfold maxLen; omega) (by omega) (by first | omega | (simp; omega)) ?_) | fail)
  intro v2 w2 hown2 hg2 _ hat2
  have hown2' : w2.ownsRow M 151 3 v2 ((s.out ++ [(⟨0, 0, s.put⟩ : Pt)]).length + 1) (cellsP (s.out ++ [(⟨0, 0, s.put⟩ : Pt)]) ++ partCells ⟨0, s.drop, []⟩) := by
    rw [cellsP_snoc, List.length_append, List.append_assoc]; exact hown2
  have hls : (s.out ++ [(⟨0, 0, s.put⟩ : Pt)]).length = s.out.length + 1 := by rw [List.length_append]; rfl
  have HK1' : (w1.setCell ⟨a, 0, none⟩ (.slice p1 (s.out.length + 1) q1)).cell? ⟨a, 0, none⟩ = some (.slice p1 (s.out ++ [(⟨0, 0, s.put⟩ : Pt)]).length q1) := by rw [hls]; exact HK1.out
  have P2 := gath_push (q := ⟨0, s.drop, []⟩) HG1.out HK1' hown2' (by rw [hls]; exact hg2)
  have hb2 : Below (a + 4) (w1.setCell ⟨a, 0, none⟩ (.slice p1 (s.out.length + 1) q1)) w2 := ((Below.refl (a + 4) _).alloc (by simp; omega) _).grown hg2 (by rw [World.size_alloc]; simp; omega) fun k hk => Nat.le_trans hM (HO1.out.lt k hk).1
  have z4 := HK4.out
  have z6 : (w1.setCell ⟨a, 0, none⟩ (.slice p1 (s.out.length + 1) q1)).frozen? ⟨a + 1, 0, none⟩ = false := by rw [World.frozen?_setCell]; exact k6
  have z7 : (w1.setCell ⟨a, 0, none⟩ (.slice p1 (s.out.length + 1) q1)).cell? ⟨a + 2, 0, none⟩ = some (.int .i64 s.drop) := (cell_set_ne (by omega) _).trans k7
  have z8 : (w1.setCell ⟨a, 0, none⟩ (.slice p1 (s.out.length + 1) q1)).frozen? ⟨a + 2, 0, none⟩ = false := by rw [World.frozen?_setCell]; exact k8
  clear HK1'
  obtain ⟨p2, q2, hv2⟩ := own_slice hown2
  rw [hv2] at P2 ⊢
  rw [hv2] at hat2
  obtain ⟨G2, B2, t1, t2⟩ := P2
  have HS2 : Hid (∀ b, spare (w1.setCell ⟨a, 0, none⟩ (.slice p1 (s.out.length + 1) q1)) a b → spare (w2.setCell ⟨a, 0, none⟩ (.slice p2 ((s.out.length + 1) + 1) q2)) a b ∧ (w2.setCell ⟨a, 0, none⟩ (.slice p2 ((s.out.length + 1) + 1) q2)).heap[b]? = (w1.setCell ⟨a, 0, none⟩ (.slice p1 (s.out.length + 1) q1)).heap[b]?) := fun b hb => push_spare HK1.out (by rw [t1]; rfl) hg2 (hat2.imp id fun e => ⟨_, e, by simp⟩) hb
  clear hat2
  have HG2 : Hid (gath M _ a ⟨(s.out ++ [⟨0, 0, s.put⟩]) ++ [⟨0, s.drop, []⟩], s.put, s.drop⟩) := G2
  have HB2 : Hid (BelowG M a _ _) := B2
  have y4 := (hb2.cell (p := ⟨a + 1, 0, none⟩) (by show a + 1 < _; omega)).trans z4
  have y6 := (hb2.frozen (p := ⟨a + 1, 0, none⟩) (by show a + 1 < _; omega)).trans z6
  have y7 := (hb2.cell (p := ⟨a + 2, 0, none⟩) (by show a + 2 < _; omega)).trans z7
  have y8 := (hb2.frozen (p := ⟨a + 2, 0, none⟩) (by show a + 2 < _; omega)).trans z8
  have hs2 := hb2.size
  have HK5 : Hid ((w2.setCell ⟨a, 0, none⟩ (.slice p2 ((s.out.length + 1) + 1) q2)).cell? ⟨a + 1, 0, none⟩ = some (.slice p' s.put.length c')) := (cell_set_ne (by omega) _).trans y4
  clear z4 z6 z7 z8 G2 B2 hown2 hg2 hb2 hv2
  clear k4 k6 k7 k8 r1 r2
  clear hown2'
  go_wp2
  go_end0
  have F1 := gath_none HG2.out HK5.out
  have F2 := gath_drop F1.1 0
  have F3 := F2.1
  rw [List.append_assoc] at F3
  refine ⟨⟨_, rfl⟩, F3, (HB1.out.trans HB2.out).trans (F1.2.trans F2.2), fun b hb => ?_⟩
  have hb0 := hb.2.1
  have e0 : w.heap[b]? = w.heap[b]? := rfl
  have s0 := hb
  have e1 := (HS1.out b s0).2
  have s1 := (HS1.out b s0).1
  have e2 := ((HS2.out b s1).2).trans e1
  have s2 := (HS2.out b s1).1
  have s3 := set_spare s2 (c := a + 1) (by omega) (by omega) (.slice p' 0 c')
  exact ((set_spare s3.1 (c := a + 2) (by omega) (by omega) (.int .i64 0)).2.trans s3.2).trans e2

theorem tell_any {M : Nat} (a : Nat) (s : NSt) (w : World) (h : gath M w a s) (hlen : s.out.length < 1000000000) (hput : s.put.length < 1000000000) :
    Calls Tryd.prog 134 #[.pointer (some ⟨a + 1, 0, none⟩), .pointer (some ⟨a, 0, none⟩), .pointer (some ⟨a + 2, 0, none⟩)] w fun e w' => (∃ v, e = .returned v) ∧ gath M w' a ⟨tellP s, [], 0⟩ ∧ BelowG M a w w' ∧ ∀ b, spare w a b → w'.heap[b]? = w.heap[b]? := by
  have hM := h.le
  have hT := h.top
  unfold tellP
  by_cases hp : s.put = []
  · by_cases hd : s.drop = 0
    · have := tell_oo a s w h hlen hput hp hd
      simpa [hp, hd] using this
    · have := tell_od a s w h hlen hput hp hd
      simpa [hp, hd] using this
  · by_cases hd : s.drop = 0
    · have := tell_po a s w h hlen hput hp hd
      simpa [hp, hd] using this
    · have := tell_pd a s w h hlen hput hp hd
      simpa [hp, hd] using this
end Go.Proofs.YtgmgkbbnciglhaaDoor

namespace Go.Proofs.YtgmgkbbnciglhaaDoor
open Go.RowKit
set_option linter.unusedVariables false

def partV (p : Pt) : Value := .agg #[.int .i64 p.keep, .int .i64 p.drop, .string ⟨p.put.toArray⟩]

theorem isKeep_any (p : Pt) (w : World) : Calls Tryd.prog 101 #[partV p] w fun e w' => e = .returned (.bool (decide (0 < p.keep))) ∧ Below w.heap.size w w' := by
  unfold partV
  go_enter Tryd.func101, Tryd.ntmps101
  go_wp2
  go_ret
  exact ⟨rfl, (Below.refl _ _).alloc (Nat.le_refl _) _⟩
theorem isDrop_any (p : Pt) (w : World) : Calls Tryd.prog 102 #[partV p] w fun e w' => e = .returned (.bool (decide (0 < p.drop))) ∧ Below w.heap.size w w' := by
  unfold partV
  go_enter Tryd.func102, Tryd.ntmps102
  go_wp2
  go_ret
  exact ⟨rfl, (Below.refl _ _).alloc (Nat.le_refl _) _⟩

theorem done_anyG {M : Nat} (a : Nat) (s : NSt) (w : World) (h : gath M w a s) (hlen : s.out.length < 1000000000) (hput : s.put.length < 1000000000) :
    Calls Tryd.prog 136 #[.pointer (some ⟨a + 3, 0, none⟩), .pointer (some ⟨a, 0, none⟩)] w fun e w' => ∃ v, e = .returned v ∧ w'.ownsRow M 151 3 v (tellP s).length (cellsP (tellP s)) ∧ BelowG M a w w' := by
  have hM := h.le
  have hT := h.top
  have cT := tell_any a s w h hlen hput
  have h9 := h.tell
  clear h
  go_enter Tryd.func136, Tryd.ntmps136
  go_wp2_with (first | (go_at_call 134; refine cT.mono ?_; rintro e w1 ⟨⟨v, rfl⟩, ⟨⟨p, c, h1, h2⟩, _⟩, hb, _⟩) | fail)
  go_ret
  exact ⟨_, rfl, h2, hb⟩

/-- Behind 'op[end].Keep += ..': the last part's first cell is written. -/
theorem gath_more {M : Nat} {w : World} {a g n c : Nat} {init : List Pt} {q : Pt} (h : gath M w a ⟨init ++ [q], [], 0⟩) (hc : w.cell? ⟨a, 0, none⟩ = some (.slice (some ⟨g, 0, none⟩) n c)) (hn : n = (init ++ [q]).length) (k : Int) :
    gath M (w.setCell ⟨g, init.length * 3, none⟩ (.int .i64 k)) a ⟨init ++ [⟨k, q.drop, q.put⟩], [], 0⟩ ∧ BelowG M a w (w.setCell ⟨g, init.length * 3, none⟩ (.int .i64 k)) := by
  have hM := h.le
  have hT := h.top
  subst hn
  obtain ⟨⟨p1, c1, h1, h2⟩, h3, ⟨p', c', h4, h5⟩, h6, h7, h8, h9⟩ := h
  rw [hc] at h1
  simp only [Option.some.injEq, Value.slice.injEq, true_and] at h1
  obtain ⟨rfl, rfl⟩ := h1
  have hlt := h2.lt g rfl
  obtain ⟨r1, r2⟩ := h2.stored (init.length * 3) (.int .i64 k)
  have hx : (cellsP (init ++ [q])).set (init.length * 3) (.int .i64 k) = cellsP (init ++ [⟨k, q.drop, q.put⟩]) := by
    rw [cellsP_snoc, cellsP_snoc, List.set_append_right _ _ (by rw [cellsP_len]; exact Nat.le_refl _), cellsP_len, Nat.sub_self]
    rfl
  rw [hx] at r1
  have hl : (init ++ [(⟨k, q.drop, q.put⟩ : Pt)]).length = (init ++ [q]).length := by simp
  have r3 := h5.kept r2 (own_ne h5 h2 (by decide))
  refine ⟨⟨⟨some ⟨g, 0, none⟩, c, ?_, ?_⟩, ?_, ⟨p', c', ?_, r3⟩, ?_, ?_, ?_, ?_, hM, (by simp; omega)⟩, ⟨(Below.refl a w).setCell (by show a ≤ g; omega) _, (KeptG.refl M a w).grown h2 (.inr rfl) r2⟩⟩
  · show _ = some (Value.slice _ (init ++ [(⟨k, q.drop, q.put⟩ : Pt)]).length c)
    rw [hl]
    exact (World.cell?_of_block (a := ⟨a, 0, none⟩) (r2.block a (by omega) (by intro e; have := Option.some.inj e; omega))).trans hc
  · show World.ownsRow _ _ _ _ (.slice _ (init ++ [(⟨k, q.drop, q.put⟩ : Pt)]).length c) (init ++ [(⟨k, q.drop, q.put⟩ : Pt)]).length _
    rw [hl]
    exact r1
  · rw [World.frozen?_setCell]; exact h3
  · exact (World.cell?_of_block (a := ⟨a + 1, 0, none⟩) (r2.block (a + 1) (by omega) (by intro e; have := Option.some.inj e; omega))).trans h4
  · rw [World.frozen?_setCell]; exact h6
  · exact (World.cell?_of_block (a := ⟨a + 2, 0, none⟩) (r2.block (a + 2) (by omega) (by intro e; have := Option.some.inj e; omega))).trans h7
  · rw [World.frozen?_setCell]; exact h8
  · exact (World.cell?_of_block (a := ⟨a + 3, 0, none⟩) (r2.block (a + 3) (by omega) (by intro e; have := Option.some.inj e; omega))).trans h9

/-- The last part's cells, in its row. -/
theorem last_cells {w : World} {B g n c : Nat} {init : List Pt} {q : Pt} (h : w.ownsRow B 151 3 (.slice (some ⟨g, 0, none⟩) n c) n (cellsP (init ++ [q]))) (hn : n = (init ++ [q]).length) :
    w.cell? ⟨g, init.length * 3, none⟩ = some (.int .i64 q.keep) ∧ w.cell? ⟨g, init.length * 3 + 1, none⟩ = some (.int .i64 q.drop) ∧ w.cell? ⟨g, init.length * 3 + 2, none⟩ = some (.string ⟨q.put.toArray⟩) ∧ w.frozen? ⟨g, init.length * 3, none⟩ = false := by
  subst hn
  have hn : (init ++ [q]).length = init.length + 1 := by simp
  have e : ∀ j, j < 3 → (cellsP (init ++ [q]))[init.length * 3 + j]? = (partCells q)[j]? := by
    intro j hj
    rw [cellsP_snoc, List.getElem?_append_right (by rw [cellsP_len]; omega), cellsP_len]
    congr 1
    omega
  refine ⟨?_, ?_, ?_, h.frozenAt _⟩
  · rw [h.cellAt _ (by rw [hn]; omega)]; exact e 0 (by omega)
  · rw [h.cellAt _ (by rw [hn]; omega)]; exact e 1 (by omega)
  · rw [h.cellAt _ (by rw [hn]; omega)]; exact e 2 (by omega)

set_option maxRecDepth 100000 in
set_option maxHeartbeats 2000000 in
theorem add_zero {M : Nat} (a : Nat) (s : NSt) (p : Pt) (w : World) (h : gath M w a s) (hput : s.put.length + p.put.length < 1000000000) (hd : -9223372036854775808 ≤ s.drop + p.drop) (hd' : s.drop + p.drop < 9223372036854775808) (hout : s.out.length < 100000000)
     :
    Calls Tryd.prog 135 #[(.agg #[.int .i64 0, .int .i64 p.drop, .string ⟨p.put.toArray⟩]), .pointer (some ⟨a + 1, 0, none⟩), .pointer (some ⟨a + 2, 0, none⟩), .pointer (some ⟨a + 3, 0, none⟩), .pointer (some ⟨a, 0, none⟩)] w fun e w' => (∃ v, e = .returned v) ∧ gath M w' a ⟨s.out, s.put ++ p.put, s.drop + p.drop⟩ ∧ BelowG M a w w' := by
  have hM := h.le
  have hT := h.top
  obtain ⟨i0, hi, hz0, hz1, hz2⟩ := info_parts info_part
  obtain ⟨i1, hj, hy0, hy1, hy2⟩ := info_parts info_u8
  have hlt := gath_lt h
  have hb0' : Below w.heap.size w (w.alloc (.cells #[.int .i64 0, .int .i64 p.drop, .string ⟨p.put.toArray⟩] 151)) := (Below.refl _ _).alloc (Nat.le_refl _) _
  have HG0 : Hid (gath M (w.alloc (.cells #[.int .i64 0, .int .i64 p.drop, .string ⟨p.put.toArray⟩] 151)) a s) := gath_below h hb0'
  have HB0 : Hid (BelowG M a w (w.alloc (.cells #[.int .i64 0, .int .i64 p.drop, .string ⟨p.put.toArray⟩] 151))) := .of hb0' (by omega)
  have x0 : (w.alloc (.cells #[.int .i64 0, .int .i64 p.drop, .string ⟨p.put.toArray⟩] 151)).cell? ⟨w.heap.size, 0, none⟩ = some (.int .i64 0) := by simp [go_sem]
  have x1 : (w.alloc (.cells #[.int .i64 0, .int .i64 p.drop, .string ⟨p.put.toArray⟩] 151)).cell? ⟨w.heap.size, 1, none⟩ = some (.int .i64 p.drop) := by simp [go_sem]
  obtain ⟨⟨pp, c, h1, h2⟩, h3, ⟨p', c', h4, h5⟩, h6, h7, h8, h9⟩ := h
  have HL1 : Hid (∀ k, (Value.slice pp s.out.length c).ownBlock = some k → k < w.heap.size) := fun k hk' => (h2.lt k hk').2
  have HL2 : Hid (∀ k, (Value.slice p' s.put.length c').ownBlock = some k → k < w.heap.size) := fun k hk' => (h5.lt k hk').2
  have hP : (w.alloc (.cells #[.int .i64 0, .int .i64 p.drop, .string ⟨p.put.toArray⟩] 151)).ownsRow M 5 1 (.slice p' s.put.length c') s.put.length (Lib.byteCells s.put) := h5.alloc _
  have hC : (w.alloc (.cells #[.int .i64 0, .int .i64 p.drop, .string ⟨p.put.toArray⟩] 151)).cell? ⟨a + 1, 0, none⟩ = some (.slice p' s.put.length c') := (hb0'.cell (p := ⟨a + 1, 0, none⟩) (by show a + 1 < _; omega)).trans h4
  have hC0 : (w.alloc (.cells #[.int .i64 0, .int .i64 p.drop, .string ⟨p.put.toArray⟩] 151)).cell? ⟨a, 0, none⟩ = some (.slice pp s.out.length c) := (hb0'.cell (p := ⟨a, 0, none⟩) (by show a < _; omega)).trans h1
  have hD2 : (w.alloc (.cells #[.int .i64 0, .int .i64 p.drop, .string ⟨p.put.toArray⟩] 151)).cell? ⟨a + 2, 0, none⟩ = some (.int .i64 s.drop) := (hb0'.cell (p := ⟨a + 2, 0, none⟩) (by show a + 2 < _; omega)).trans h7
  have hF2 : (w.alloc (.cells #[.int .i64 0, .int .i64 p.drop, .string ⟨p.put.toArray⟩] 151)).frozen? ⟨a + 2, 0, none⟩ = false := (hb0'.frozen (p := ⟨a + 2, 0, none⟩) (by show a + 2 < _; omega)).trans h8
  have hD3 : (w.alloc (.cells #[.int .i64 0, .int .i64 p.drop, .string ⟨p.put.toArray⟩] 151)).cell? ⟨a + 3, 0, none⟩ = some (.func (.func 134) #[] #[.pointer (some ⟨a + 1, 0, none⟩), .pointer (some ⟨a, 0, none⟩), .pointer (some ⟨a + 2, 0, none⟩)]) := (hb0'.cell (p := ⟨a + 3, 0, none⟩) (by show a + 3 < _; omega)).trans h9
  have HP : Hid ((w.alloc (.cells #[.int .i64 0, .int .i64 p.drop, .string ⟨p.put.toArray⟩] 151)).ownsRow M 5 1 (.slice p' s.put.length c') s.put.length (Lib.byteCells s.put)) := hP
  have HX : Hid (∀ w1 v1, w1.ownsRow M 5 1 v1 (s.put.length + (ByteArray.mk p.put.toArray).size) (Lib.byteCells s.put ++ Lib.strCells ⟨p.put.toArray⟩) → (w.alloc (.cells #[.int .i64 0, .int .i64 p.drop, .string ⟨p.put.toArray⟩] 151)).grownBy w1 (Value.slice p' s.put.length c').ownBlock →
      gath M ((w1.setCell ⟨a + 1, 0, none⟩ v1).setCell ⟨a + 2, 0, none⟩ (.int .i64 (s.drop + p.drop))) a ⟨s.out, s.put ++ p.put, s.drop + p.drop⟩ ∧ BelowG M a w ((w1.setCell ⟨a + 1, 0, none⟩ v1).setCell ⟨a + 2, 0, none⟩ (.int .i64 (s.drop + p.drop))) ∧
      spare ((w1.setCell ⟨a + 1, 0, none⟩ v1).setCell ⟨a + 2, 0, none⟩ (.int .i64 (s.drop + p.drop))) a w.heap.size ∧
      w1.cell? ⟨a + 1, 0, none⟩ = some (.slice p' s.put.length c') ∧ w1.frozen? ⟨a + 1, 0, none⟩ = false ∧ w1.cell? ⟨a + 2, 0, none⟩ = some (.int .i64 s.drop) ∧ w1.frozen? ⟨a + 2, 0, none⟩ = false ∧
      w1.cell? ⟨a + 3, 0, none⟩ = some (.func (.func 134) #[] #[.pointer (some ⟨a + 1, 0, none⟩), .pointer (some ⟨a, 0, none⟩), .pointer (some ⟨a + 2, 0, none⟩)]) ∧
      (∀ o, w1.cell? ⟨w.heap.size, o, none⟩ = (w.alloc (.cells #[.int .i64 0, .int .i64 p.drop, .string ⟨p.put.toArray⟩] 151)).cell? ⟨w.heap.size, o, none⟩) ∧ w.heap.size < w1.heap.size) := by
    intro w1 v1 q1 q2
    have hz : (ByteArray.mk p.put.toArray).size = p.put.length := by simp [ByteArray.size]
    rw [hz] at q1
    obtain ⟨g1, g2, g3, g4⟩ := gath_puts (q := p.put) HG0.out hC q1 q2
    obtain ⟨g5, g6⟩ := gath_drop g1 (s.drop + p.drop)
    have hlow : ∀ k, (Value.slice p' s.put.length c').ownBlock = some k → a + 4 ≤ k := fun k hk => Nat.le_trans hM (hP.lt k hk).1
    have hbb : Below (a + 4) (w.alloc (.cells #[.int .i64 0, .int .i64 p.drop, .string ⟨p.put.toArray⟩] 151)) w1 := (Below.refl _ _).grown q2 (by rw [World.size_alloc]; omega) hlow
    have hsz := q2.size
    rw [World.size_alloc] at hsz
    refine ⟨g5, HB0.out.trans (g2.trans g6), ⟨by simp; omega, hlt, ?_⟩, g3, g4, (hbb.cell (p := ⟨a + 2, 0, none⟩) (by show a + 2 < _; omega)).trans hD2, (hbb.frozen (p := ⟨a + 2, 0, none⟩) (by show a + 2 < _; omega)).trans hF2, (hbb.cell (p := ⟨a + 3, 0, none⟩) (by show a + 3 < _; omega)).trans hD3, ?_, by omega⟩
    · intro v hv
      rw [cell_set_ne (by omega), cell_set_ne (by omega), (hbb.cell (p := ⟨a, 0, none⟩) (by show a < _; omega)), hC0] at hv
      obtain rfl := Option.some.inj hv
      intro e
      have := HL1.out _ e
      omega
    · intro o
      exact World.cell?_of_block (a := ⟨w.heap.size, o, none⟩) (q2.block w.heap.size (by rw [World.size_alloc]; omega) (by intro e; have := HL2.out _ e.symm; omega))
  clear h2 h5 hP hC hC0 hD2 hF2 hD3 hb0' h1 h3 h6 h7 h8 h9
  have n0 : a + 1 < w.heap.size := by omega
  have HZ : Hid ((ByteArray.mk p.put.toArray).size = p.put.length) := by show _ = _; simp [ByteArray.size]
  have n1 : ¬ (a + 1 = w.heap.size) := by omega
  have n2 : ¬ (w.heap.size = a + 1) := by omega
  have n3 : ¬ (a + 2 = w.heap.size) := by omega
  have n4 : ¬ (w.heap.size = a + 2) := by omega
  have hwrap : IntKind.i64.wrap (s.drop + p.drop) = s.drop + p.drop := by rw [IntKind.wrap_i64]; omega

  go_enter Tryd.func135, Tryd.ntmps135
  go_wp2_with (first | (at_builtin; refine Lib.wpList_append_own_string _ rfl _ _ 125 9 rfl M 5 i1 Tryd.underlying125 Tryd.underlying9 hj hy0 hy1 hy2 _ _ _ rfl HP.out _ rfl (by rw [HZ.out]; unfold maxLen; omega) (by rw [HZ.out]; omega) (by simp; omega) ?_) | fail)
  intro v1 w1 hown1 hg1 _
  have R := HX.out w1 v1 hown1 hg1
  obtain ⟨pv, cv, rfl⟩ := own_slice hown1
  obtain ⟨G2, B2, S2, r1, r2, r3, r4, r5, r6, r7⟩ := R
  have y0 := (r6 0).trans x0
  have y1 := (r6 1).trans x1
  have HG2 : Hid _ := G2
  have HB2 : Hid _ := B2
  have HS2 : Hid _ := S2
  clear hown1 hg1 x0 x1 r6 G2 B2 S2 HX HL1 HL2 HP HG0 HB0 h4
  go_wp2
  refine bodyPost_ret (results_none rfl _ _ _) rfl ?_
  exact ⟨⟨_, rfl⟩, HG2.out, HB2.out⟩

set_option maxRecDepth 100000 in
set_option maxHeartbeats 2000000 in
theorem add_only {M : Nat} (a : Nat) (s : NSt) (p : Pt) (w : World) (h : gath M w a s) (hput : s.put.length + p.put.length < 1000000000) (hd : -9223372036854775808 ≤ s.drop + p.drop) (hd' : s.drop + p.drop < 9223372036854775808) (hout : s.out.length < 100000000)
    (hk : p.keep ≠ 0) (L : List Pt) (hL : tellP ⟨s.out, s.put ++ p.put, s.drop + p.drop⟩ = L) (hLq : L = []) :
    Calls Tryd.prog 135 #[(partV p), .pointer (some ⟨a + 1, 0, none⟩), .pointer (some ⟨a + 2, 0, none⟩), .pointer (some ⟨a + 3, 0, none⟩), .pointer (some ⟨a, 0, none⟩)] w fun e w' => (∃ v, e = .returned v) ∧ gath M w' a ⟨L ++ [⟨p.keep, 0, []⟩], [], 0⟩ ∧ BelowG M a w w' := by
  have hM := h.le
  have hT := h.top
  obtain ⟨i0, hi, hz0, hz1, hz2⟩ := info_parts info_part
  obtain ⟨i1, hj, hy0, hy1, hy2⟩ := info_parts info_u8
  have hlt := gath_lt h
  have hb0' : Below w.heap.size w (w.alloc (.cells #[.int .i64 p.keep, .int .i64 p.drop, .string ⟨p.put.toArray⟩] 151)) := (Below.refl _ _).alloc (Nat.le_refl _) _
  have HG0 : Hid (gath M (w.alloc (.cells #[.int .i64 p.keep, .int .i64 p.drop, .string ⟨p.put.toArray⟩] 151)) a s) := gath_below h hb0'
  have HB0 : Hid (BelowG M a w (w.alloc (.cells #[.int .i64 p.keep, .int .i64 p.drop, .string ⟨p.put.toArray⟩] 151))) := .of hb0' (by omega)
  have x0 : (w.alloc (.cells #[.int .i64 p.keep, .int .i64 p.drop, .string ⟨p.put.toArray⟩] 151)).cell? ⟨w.heap.size, 0, none⟩ = some (.int .i64 p.keep) := by simp [go_sem]
  have x1 : (w.alloc (.cells #[.int .i64 p.keep, .int .i64 p.drop, .string ⟨p.put.toArray⟩] 151)).cell? ⟨w.heap.size, 1, none⟩ = some (.int .i64 p.drop) := by simp [go_sem]
  obtain ⟨⟨pp, c, h1, h2⟩, h3, ⟨p', c', h4, h5⟩, h6, h7, h8, h9⟩ := h
  have HL1 : Hid (∀ k, (Value.slice pp s.out.length c).ownBlock = some k → k < w.heap.size) := fun k hk' => (h2.lt k hk').2
  have HL2 : Hid (∀ k, (Value.slice p' s.put.length c').ownBlock = some k → k < w.heap.size) := fun k hk' => (h5.lt k hk').2
  have hP : (w.alloc (.cells #[.int .i64 p.keep, .int .i64 p.drop, .string ⟨p.put.toArray⟩] 151)).ownsRow M 5 1 (.slice p' s.put.length c') s.put.length (Lib.byteCells s.put) := h5.alloc _
  have hC : (w.alloc (.cells #[.int .i64 p.keep, .int .i64 p.drop, .string ⟨p.put.toArray⟩] 151)).cell? ⟨a + 1, 0, none⟩ = some (.slice p' s.put.length c') := (hb0'.cell (p := ⟨a + 1, 0, none⟩) (by show a + 1 < _; omega)).trans h4
  have hC0 : (w.alloc (.cells #[.int .i64 p.keep, .int .i64 p.drop, .string ⟨p.put.toArray⟩] 151)).cell? ⟨a, 0, none⟩ = some (.slice pp s.out.length c) := (hb0'.cell (p := ⟨a, 0, none⟩) (by show a < _; omega)).trans h1
  have hD2 : (w.alloc (.cells #[.int .i64 p.keep, .int .i64 p.drop, .string ⟨p.put.toArray⟩] 151)).cell? ⟨a + 2, 0, none⟩ = some (.int .i64 s.drop) := (hb0'.cell (p := ⟨a + 2, 0, none⟩) (by show a + 2 < _; omega)).trans h7
  have hF2 : (w.alloc (.cells #[.int .i64 p.keep, .int .i64 p.drop, .string ⟨p.put.toArray⟩] 151)).frozen? ⟨a + 2, 0, none⟩ = false := (hb0'.frozen (p := ⟨a + 2, 0, none⟩) (by show a + 2 < _; omega)).trans h8
  have hD3 : (w.alloc (.cells #[.int .i64 p.keep, .int .i64 p.drop, .string ⟨p.put.toArray⟩] 151)).cell? ⟨a + 3, 0, none⟩ = some (.func (.func 134) #[] #[.pointer (some ⟨a + 1, 0, none⟩), .pointer (some ⟨a, 0, none⟩), .pointer (some ⟨a + 2, 0, none⟩)]) := (hb0'.cell (p := ⟨a + 3, 0, none⟩) (by show a + 3 < _; omega)).trans h9
  have HP : Hid ((w.alloc (.cells #[.int .i64 p.keep, .int .i64 p.drop, .string ⟨p.put.toArray⟩] 151)).ownsRow M 5 1 (.slice p' s.put.length c') s.put.length (Lib.byteCells s.put)) := hP
  have HX : Hid (∀ w1 v1, w1.ownsRow M 5 1 v1 (s.put.length + (ByteArray.mk p.put.toArray).size) (Lib.byteCells s.put ++ Lib.strCells ⟨p.put.toArray⟩) → (w.alloc (.cells #[.int .i64 p.keep, .int .i64 p.drop, .string ⟨p.put.toArray⟩] 151)).grownBy w1 (Value.slice p' s.put.length c').ownBlock →
      gath M ((w1.setCell ⟨a + 1, 0, none⟩ v1).setCell ⟨a + 2, 0, none⟩ (.int .i64 (s.drop + p.drop))) a ⟨s.out, s.put ++ p.put, s.drop + p.drop⟩ ∧ BelowG M a w ((w1.setCell ⟨a + 1, 0, none⟩ v1).setCell ⟨a + 2, 0, none⟩ (.int .i64 (s.drop + p.drop))) ∧
      spare ((w1.setCell ⟨a + 1, 0, none⟩ v1).setCell ⟨a + 2, 0, none⟩ (.int .i64 (s.drop + p.drop))) a w.heap.size ∧
      w1.cell? ⟨a + 1, 0, none⟩ = some (.slice p' s.put.length c') ∧ w1.frozen? ⟨a + 1, 0, none⟩ = false ∧ w1.cell? ⟨a + 2, 0, none⟩ = some (.int .i64 s.drop) ∧ w1.frozen? ⟨a + 2, 0, none⟩ = false ∧
      w1.cell? ⟨a + 3, 0, none⟩ = some (.func (.func 134) #[] #[.pointer (some ⟨a + 1, 0, none⟩), .pointer (some ⟨a, 0, none⟩), .pointer (some ⟨a + 2, 0, none⟩)]) ∧
      (∀ o, w1.cell? ⟨w.heap.size, o, none⟩ = (w.alloc (.cells #[.int .i64 p.keep, .int .i64 p.drop, .string ⟨p.put.toArray⟩] 151)).cell? ⟨w.heap.size, o, none⟩) ∧ w.heap.size < w1.heap.size) := by
    intro w1 v1 q1 q2
    have hz : (ByteArray.mk p.put.toArray).size = p.put.length := by simp [ByteArray.size]
    rw [hz] at q1
    obtain ⟨g1, g2, g3, g4⟩ := gath_puts (q := p.put) HG0.out hC q1 q2
    obtain ⟨g5, g6⟩ := gath_drop g1 (s.drop + p.drop)
    have hlow : ∀ k, (Value.slice p' s.put.length c').ownBlock = some k → a + 4 ≤ k := fun k hk => Nat.le_trans hM (hP.lt k hk).1
    have hbb : Below (a + 4) (w.alloc (.cells #[.int .i64 p.keep, .int .i64 p.drop, .string ⟨p.put.toArray⟩] 151)) w1 := (Below.refl _ _).grown q2 (by rw [World.size_alloc]; omega) hlow
    have hsz := q2.size
    rw [World.size_alloc] at hsz
    refine ⟨g5, HB0.out.trans (g2.trans g6), ⟨by simp; omega, hlt, ?_⟩, g3, g4, (hbb.cell (p := ⟨a + 2, 0, none⟩) (by show a + 2 < _; omega)).trans hD2, (hbb.frozen (p := ⟨a + 2, 0, none⟩) (by show a + 2 < _; omega)).trans hF2, (hbb.cell (p := ⟨a + 3, 0, none⟩) (by show a + 3 < _; omega)).trans hD3, ?_, by omega⟩
    · intro v hv
      rw [cell_set_ne (by omega), cell_set_ne (by omega), (hbb.cell (p := ⟨a, 0, none⟩) (by show a < _; omega)), hC0] at hv
      obtain rfl := Option.some.inj hv
      intro e
      have := HL1.out _ e
      omega
    · intro o
      exact World.cell?_of_block (a := ⟨w.heap.size, o, none⟩) (q2.block w.heap.size (by rw [World.size_alloc]; omega) (by intro e; have := HL2.out _ e.symm; omega))
  clear h2 h5 hP hC hC0 hD2 hF2 hD3 hb0' h1 h3 h6 h7 h8 h9
  have n0 : a + 1 < w.heap.size := by omega
  have HZ : Hid ((ByteArray.mk p.put.toArray).size = p.put.length) := by show _ = _; simp [ByteArray.size]
  have n1 : ¬ (a + 1 = w.heap.size) := by omega
  have n2 : ¬ (w.heap.size = a + 1) := by omega
  have n3 : ¬ (a + 2 = w.heap.size) := by omega
  have n4 : ¬ (w.heap.size = a + 2) := by omega
  have hwrap : IntKind.i64.wrap (s.drop + p.drop) = s.drop + p.drop := by rw [IntKind.wrap_i64]; omega
  unfold partV
  go_enter Tryd.func135, Tryd.ntmps135
  go_wp2_with (first | (at_builtin; refine Lib.wpList_append_own_string _ rfl _ _ 125 9 rfl M 5 i1 Tryd.underlying125 Tryd.underlying9 hj hy0 hy1 hy2 _ _ _ rfl HP.out _ rfl (by rw [HZ.out]; unfold maxLen; omega) (by rw [HZ.out]; omega) (by simp; omega) ?_) | fail)
  intro v1 w1 hown1 hg1 _
  have R := HX.out w1 v1 hown1 hg1
  obtain ⟨pv, cv, rfl⟩ := own_slice hown1
  obtain ⟨G2, B2, S2, r1, r2, r3, r4, r5, r6, r7⟩ := R
  have y0 := (r6 0).trans x0
  have y1 := (r6 1).trans x1
  have HG2 : Hid _ := G2
  have HB2 : Hid _ := B2
  have HS2 : Hid _ := S2
  clear hown1 hg1 x0 x1 r6 G2 B2 S2 HX HL1 HL2 HP HG0 HB0 h4
  have hkb : (p.keep == 0) = false := beq_eq_false_iff_ne.2 hk
  go_wp2_with (first | (go_at_call 9999) | fail)
  refine (tell_any a _ _ HG2.out (by show s.out.length < _; omega) (by show (s.put ++ p.put).length < _; rw [List.length_append]; exact hput)).mono ?_
  rintro e w3 ⟨⟨v3, rfl⟩, G3, B3, S3⟩
  have hS3 := S3 _ HS2.out
  have z0 : w3.cell? ⟨w.heap.size, 0, none⟩ = some (.int .i64 p.keep) := (World.cell?_of_block (a := ⟨w.heap.size, 0, none⟩) hS3).trans (by rw [cell_set_ne (by omega), cell_set_ne (by omega)]; exact y0)
  rw [hL] at G3
  have HB3 : Hid (BelowG M a w w3) := HB2.out.trans B3
  have hs3 : w.heap.size ≤ w3.heap.size := HB3.out.size
  clear S3 hS3 B3 HB2 HS2 HG2 y0 y1 r1 r2 r3 r4 r5 r7
  subst hLq
  have HG3 : Hid (gath M w3 a ⟨[], [], 0⟩) := G3
  have hlt3 := gath_lt G3
  obtain ⟨⟨p3, c3, u1, u2⟩, u3, _, _, _, _, _⟩ := G3
  have HU1 : Hid (w3.cell? ⟨a, 0, none⟩ = some (.slice p3 0 c3)) := u1
  have HU2 : Hid (w3.ownsRow M 151 3 (.slice p3 0 c3) 0 (cellsP [])) := u2
  have u1' : w3.cell? ⟨a, 0, none⟩ = some (.slice p3 0 c3) := u1
  clear u1 u2
  go_wp2_with (first | (at_builtin; refine wpList_append_own_at _ rfl _ _ 84 rfl M 151 i0 (.agg #[.int .i64 0, .int .i64 0, .string ⟨#[]⟩]) 3 32 Tryd.underlying84 hi hz0 hz1 hz2 rfl (by decide) _ _ _ rfl (HU2.out.alloc _) ⟨w3.heap.size, 0, none⟩ 1 1 (partCells ⟨p.keep, 0, []⟩) rfl rfl (cells_new _ _ _) (partCells_one _) (by unfold maxLen; omega) (by omega) (by first | omega | (simp; omega)) ?_) | fail)
  intro v5 w5 hown5 hg5 _ _
  have P5 := gath_push (q := ⟨p.keep, 0, []⟩) HG3.out HU1.out hown5 hg5
  obtain ⟨p5, q5, rfl⟩ := own_slice hown5
  obtain ⟨G5, B5, t1, t2⟩ := P5
  have HG5 : Hid _ := G5
  have HB5 : Hid _ := B5
  clear hown5 hg5 G5 B5 u1' u3 z0
  go_wp2
  go_end0
  exact ⟨⟨_, rfl⟩, HG5.out, HB3.out.trans HB5.out⟩

set_option maxRecDepth 100000 in
set_option maxHeartbeats 2000000 in
theorem add_behind {M : Nat} (a : Nat) (s : NSt) (p : Pt) (w : World) (h : gath M w a s) (hput : s.put.length + p.put.length < 1000000000) (hd : -9223372036854775808 ≤ s.drop + p.drop) (hd' : s.drop + p.drop < 9223372036854775808) (hout : s.out.length < 100000000)
    (hk : p.keep ≠ 0) (L : List Pt) (hL : tellP ⟨s.out, s.put ++ p.put, s.drop + p.drop⟩ = L) (init : List Pt) (q : Pt) (hLq : L = init ++ [q]) (hq : ¬ 0 < q.keep) :
    Calls Tryd.prog 135 #[(partV p), .pointer (some ⟨a + 1, 0, none⟩), .pointer (some ⟨a + 2, 0, none⟩), .pointer (some ⟨a + 3, 0, none⟩), .pointer (some ⟨a, 0, none⟩)] w fun e w' => (∃ v, e = .returned v) ∧ gath M w' a ⟨L ++ [⟨p.keep, 0, []⟩], [], 0⟩ ∧ BelowG M a w w' := by
  have hM := h.le
  have hT := h.top
  obtain ⟨i0, hi, hz0, hz1, hz2⟩ := info_parts info_part
  obtain ⟨i1, hj, hy0, hy1, hy2⟩ := info_parts info_u8
  have hlt := gath_lt h
  have hb0' : Below w.heap.size w (w.alloc (.cells #[.int .i64 p.keep, .int .i64 p.drop, .string ⟨p.put.toArray⟩] 151)) := (Below.refl _ _).alloc (Nat.le_refl _) _
  have HG0 : Hid (gath M (w.alloc (.cells #[.int .i64 p.keep, .int .i64 p.drop, .string ⟨p.put.toArray⟩] 151)) a s) := gath_below h hb0'
  have HB0 : Hid (BelowG M a w (w.alloc (.cells #[.int .i64 p.keep, .int .i64 p.drop, .string ⟨p.put.toArray⟩] 151))) := .of hb0' (by omega)
  have x0 : (w.alloc (.cells #[.int .i64 p.keep, .int .i64 p.drop, .string ⟨p.put.toArray⟩] 151)).cell? ⟨w.heap.size, 0, none⟩ = some (.int .i64 p.keep) := by simp [go_sem]
  have x1 : (w.alloc (.cells #[.int .i64 p.keep, .int .i64 p.drop, .string ⟨p.put.toArray⟩] 151)).cell? ⟨w.heap.size, 1, none⟩ = some (.int .i64 p.drop) := by simp [go_sem]
  obtain ⟨⟨pp, c, h1, h2⟩, h3, ⟨p', c', h4, h5⟩, h6, h7, h8, h9⟩ := h
  have HL1 : Hid (∀ k, (Value.slice pp s.out.length c).ownBlock = some k → k < w.heap.size) := fun k hk' => (h2.lt k hk').2
  have HL2 : Hid (∀ k, (Value.slice p' s.put.length c').ownBlock = some k → k < w.heap.size) := fun k hk' => (h5.lt k hk').2
  have hP : (w.alloc (.cells #[.int .i64 p.keep, .int .i64 p.drop, .string ⟨p.put.toArray⟩] 151)).ownsRow M 5 1 (.slice p' s.put.length c') s.put.length (Lib.byteCells s.put) := h5.alloc _
  have hC : (w.alloc (.cells #[.int .i64 p.keep, .int .i64 p.drop, .string ⟨p.put.toArray⟩] 151)).cell? ⟨a + 1, 0, none⟩ = some (.slice p' s.put.length c') := (hb0'.cell (p := ⟨a + 1, 0, none⟩) (by show a + 1 < _; omega)).trans h4
  have hC0 : (w.alloc (.cells #[.int .i64 p.keep, .int .i64 p.drop, .string ⟨p.put.toArray⟩] 151)).cell? ⟨a, 0, none⟩ = some (.slice pp s.out.length c) := (hb0'.cell (p := ⟨a, 0, none⟩) (by show a < _; omega)).trans h1
  have hD2 : (w.alloc (.cells #[.int .i64 p.keep, .int .i64 p.drop, .string ⟨p.put.toArray⟩] 151)).cell? ⟨a + 2, 0, none⟩ = some (.int .i64 s.drop) := (hb0'.cell (p := ⟨a + 2, 0, none⟩) (by show a + 2 < _; omega)).trans h7
  have hF2 : (w.alloc (.cells #[.int .i64 p.keep, .int .i64 p.drop, .string ⟨p.put.toArray⟩] 151)).frozen? ⟨a + 2, 0, none⟩ = false := (hb0'.frozen (p := ⟨a + 2, 0, none⟩) (by show a + 2 < _; omega)).trans h8
  have hD3 : (w.alloc (.cells #[.int .i64 p.keep, .int .i64 p.drop, .string ⟨p.put.toArray⟩] 151)).cell? ⟨a + 3, 0, none⟩ = some (.func (.func 134) #[] #[.pointer (some ⟨a + 1, 0, none⟩), .pointer (some ⟨a, 0, none⟩), .pointer (some ⟨a + 2, 0, none⟩)]) := (hb0'.cell (p := ⟨a + 3, 0, none⟩) (by show a + 3 < _; omega)).trans h9
  have HP : Hid ((w.alloc (.cells #[.int .i64 p.keep, .int .i64 p.drop, .string ⟨p.put.toArray⟩] 151)).ownsRow M 5 1 (.slice p' s.put.length c') s.put.length (Lib.byteCells s.put)) := hP
  have HX : Hid (∀ w1 v1, w1.ownsRow M 5 1 v1 (s.put.length + (ByteArray.mk p.put.toArray).size) (Lib.byteCells s.put ++ Lib.strCells ⟨p.put.toArray⟩) → (w.alloc (.cells #[.int .i64 p.keep, .int .i64 p.drop, .string ⟨p.put.toArray⟩] 151)).grownBy w1 (Value.slice p' s.put.length c').ownBlock →
      gath M ((w1.setCell ⟨a + 1, 0, none⟩ v1).setCell ⟨a + 2, 0, none⟩ (.int .i64 (s.drop + p.drop))) a ⟨s.out, s.put ++ p.put, s.drop + p.drop⟩ ∧ BelowG M a w ((w1.setCell ⟨a + 1, 0, none⟩ v1).setCell ⟨a + 2, 0, none⟩ (.int .i64 (s.drop + p.drop))) ∧
      spare ((w1.setCell ⟨a + 1, 0, none⟩ v1).setCell ⟨a + 2, 0, none⟩ (.int .i64 (s.drop + p.drop))) a w.heap.size ∧
      w1.cell? ⟨a + 1, 0, none⟩ = some (.slice p' s.put.length c') ∧ w1.frozen? ⟨a + 1, 0, none⟩ = false ∧ w1.cell? ⟨a + 2, 0, none⟩ = some (.int .i64 s.drop) ∧ w1.frozen? ⟨a + 2, 0, none⟩ = false ∧
      w1.cell? ⟨a + 3, 0, none⟩ = some (.func (.func 134) #[] #[.pointer (some ⟨a + 1, 0, none⟩), .pointer (some ⟨a, 0, none⟩), .pointer (some ⟨a + 2, 0, none⟩)]) ∧
      (∀ o, w1.cell? ⟨w.heap.size, o, none⟩ = (w.alloc (.cells #[.int .i64 p.keep, .int .i64 p.drop, .string ⟨p.put.toArray⟩] 151)).cell? ⟨w.heap.size, o, none⟩) ∧ w.heap.size < w1.heap.size) := by
    intro w1 v1 q1 q2
    have hz : (ByteArray.mk p.put.toArray).size = p.put.length := by simp [ByteArray.size]
    rw [hz] at q1
    obtain ⟨g1, g2, g3, g4⟩ := gath_puts (q := p.put) HG0.out hC q1 q2
    obtain ⟨g5, g6⟩ := gath_drop g1 (s.drop + p.drop)
    have hlow : ∀ k, (Value.slice p' s.put.length c').ownBlock = some k → a + 4 ≤ k := fun k hk => Nat.le_trans hM (hP.lt k hk).1
    have hbb : Below (a + 4) (w.alloc (.cells #[.int .i64 p.keep, .int .i64 p.drop, .string ⟨p.put.toArray⟩] 151)) w1 := (Below.refl _ _).grown q2 (by rw [World.size_alloc]; omega) hlow
    have hsz := q2.size
    rw [World.size_alloc] at hsz
    refine ⟨g5, HB0.out.trans (g2.trans g6), ⟨by simp; omega, hlt, ?_⟩, g3, g4, (hbb.cell (p := ⟨a + 2, 0, none⟩) (by show a + 2 < _; omega)).trans hD2, (hbb.frozen (p := ⟨a + 2, 0, none⟩) (by show a + 2 < _; omega)).trans hF2, (hbb.cell (p := ⟨a + 3, 0, none⟩) (by show a + 3 < _; omega)).trans hD3, ?_, by omega⟩
    · intro v hv
      rw [cell_set_ne (by omega), cell_set_ne (by omega), (hbb.cell (p := ⟨a, 0, none⟩) (by show a < _; omega)), hC0] at hv
      obtain rfl := Option.some.inj hv
      intro e
      have := HL1.out _ e
      omega
    · intro o
      exact World.cell?_of_block (a := ⟨w.heap.size, o, none⟩) (q2.block w.heap.size (by rw [World.size_alloc]; omega) (by intro e; have := HL2.out _ e.symm; omega))
  clear h2 h5 hP hC hC0 hD2 hF2 hD3 hb0' h1 h3 h6 h7 h8 h9
  have n0 : a + 1 < w.heap.size := by omega
  have HZ : Hid ((ByteArray.mk p.put.toArray).size = p.put.length) := by show _ = _; simp [ByteArray.size]
  have n1 : ¬ (a + 1 = w.heap.size) := by omega
  have n2 : ¬ (w.heap.size = a + 1) := by omega
  have n3 : ¬ (a + 2 = w.heap.size) := by omega
  have n4 : ¬ (w.heap.size = a + 2) := by omega
  have hwrap : IntKind.i64.wrap (s.drop + p.drop) = s.drop + p.drop := by rw [IntKind.wrap_i64]; omega
  unfold partV
  go_enter Tryd.func135, Tryd.ntmps135
  go_wp2_with (first | (at_builtin; refine Lib.wpList_append_own_string _ rfl _ _ 125 9 rfl M 5 i1 Tryd.underlying125 Tryd.underlying9 hj hy0 hy1 hy2 _ _ _ rfl HP.out _ rfl (by rw [HZ.out]; unfold maxLen; omega) (by rw [HZ.out]; omega) (by simp; omega) ?_) | fail)
  intro v1 w1 hown1 hg1 _
  have R := HX.out w1 v1 hown1 hg1
  obtain ⟨pv, cv, rfl⟩ := own_slice hown1
  obtain ⟨G2, B2, S2, r1, r2, r3, r4, r5, r6, r7⟩ := R
  have y0 := (r6 0).trans x0
  have y1 := (r6 1).trans x1
  have HG2 : Hid _ := G2
  have HB2 : Hid _ := B2
  have HS2 : Hid _ := S2
  clear hown1 hg1 x0 x1 r6 G2 B2 S2 HX HL1 HL2 HP HG0 HB0 h4
  have hkb : (p.keep == 0) = false := beq_eq_false_iff_ne.2 hk
  go_wp2_with (first | (go_at_call 9999) | fail)
  refine (tell_any a _ _ HG2.out (by show s.out.length < _; omega) (by show (s.put ++ p.put).length < _; rw [List.length_append]; exact hput)).mono ?_
  rintro e w3 ⟨⟨v3, rfl⟩, G3, B3, S3⟩
  have hS3 := S3 _ HS2.out
  have z0 : w3.cell? ⟨w.heap.size, 0, none⟩ = some (.int .i64 p.keep) := (World.cell?_of_block (a := ⟨w.heap.size, 0, none⟩) hS3).trans (by rw [cell_set_ne (by omega), cell_set_ne (by omega)]; exact y0)
  rw [hL] at G3
  have HB3 : Hid (BelowG M a w w3) := HB2.out.trans B3
  have hs3 : w.heap.size ≤ w3.heap.size := HB3.out.size
  clear S3 hS3 B3 HB2 HS2 HG2 y0 y1 r1 r2 r3 r4 r5 r7
  obtain ⟨m, hm⟩ : ∃ m, m = init.length := ⟨_, rfl⟩
  have hLn : L.length = m + 1 := by rw [hLq, hm]; simp
  have HLN : Hid (L.length = m + 1) := hLn
  have hbig : m + 1 < 1000000000 := by
    have h1 : L.length ≤ s.out.length + 2 := by
      rw [← hL, tellP]
      simp only [List.length_append]
      split <;> split <;> simp
    omega
  have HG3 : Hid (gath M w3 a ⟨L, [], 0⟩) := G3
  have hlt3 := gath_lt G3
  obtain ⟨⟨p3, c3, u1, u2⟩, u3, _, _, _, _, _⟩ := G3
  have u1' : w3.cell? ⟨a, 0, none⟩ = some (.slice p3 (m + 1) c3) := by rw [← hLn]; exact u1
  have u2' : w3.ownsRow M 151 3 (.slice p3 (m + 1) c3) (m + 1) (cellsP L) := by rw [← hLn]; exact u2
  obtain ⟨g, rfl⟩ : ∃ g, p3 = some ⟨g, 0, none⟩ := by
    rcases u2'.2 with ⟨_, h0⟩ | ⟨g, cap, cur, hv, _⟩
    · exact absurd h0 (by omega)
    · simp only [Value.slice.injEq] at hv
      exact ⟨g, hv.1⟩
  have hgl := (u2'.lt g rfl)
  have hlc := last_cells (by rw [hLq] at u2'; exact u2') (show m + 1 = _ by rw [← hLq]; exact hLn.symm)
  rw [← hm] at hlc
  obtain ⟨l0, l1, l2, l3⟩ := hlc
  have HU2 : Hid (w3.ownsRow M 151 3 (.slice (some ⟨g, 0, none⟩) (m + 1) c3) (m + 1) (cellsP L)) := u2'
  have HL0 : Hid (w3.cell? ⟨g, m * 3, none⟩ = some (.int .i64 q.keep)) := l0
  have hwm : IntKind.i64.wrap (((m + 1 : Nat) : Int) - 1) = (m : Int) := by rw [IntKind.wrap_i64]; omega
  have hge : (0 : Int) ≤ (m : Int) := by omega
  have hlm : (m : Int) < ((m + 1 : Nat) : Int) := by omega
  have HM : Hid (m = init.length) := hm
  have HLQ : Hid (L = init ++ [q]) := hLq
  clear u1 u2 u2' hLn hm hLq
  go_wp2_with (first | (go_at_call 9999) | fail)
  refine (isKeep_any q _).mono ?_
  rintro e w4 ⟨rfl, hb4⟩
  have G4 := gath_below HG3.out hb4
  have HG4 : Hid (gath M w4 a ⟨L, [], 0⟩) := G4
  have HB4 : Hid (BelowG M a w w4) := HB3.out.trans (.of hb4 (by omega))
  have s0 := (hb4.cell (p := ⟨w.heap.size, 0, none⟩) (World.block_lt_of_cell? w3 _ z0)).trans z0
  have s1 := (hb4.cell (p := ⟨a, 0, none⟩) (World.block_lt_of_cell? w3 _ u1')).trans u1'
  have sF := (hb4.frozen (p := ⟨a, 0, none⟩) (World.block_lt_of_cell? w3 _ u1')).trans u3
  have s2 := (hb4.cell (p := ⟨g, m * 3, none⟩) (World.block_lt_of_cell? w3 _ l0)).trans l0
  have s3 := (hb4.frozen (p := ⟨g, m * 3, none⟩) (World.block_lt_of_cell? w3 _ l0)).trans l3
  have s4 := own_below HU2.out hb4
  have HS4 : Hid (w4.ownsRow M 151 3 (.slice (some ⟨g, 0, none⟩) (m + 1) c3) (m + 1) (cellsP L)) := s4
  have HS1 : Hid (w4.cell? ⟨a, 0, none⟩ = some (.slice (some ⟨g, 0, none⟩) (m + 1) c3)) := s1
  have hs4 := hb4.size
  clear hb4 s4 G4 u1' u3 l0 l1 l2 l3 z0
  have hqd : decide (0 < q.keep) = false := decide_eq_false (by omega)
  rw [hqd]
  go_wp2_with (first | (at_builtin; refine wpList_append_own_at _ rfl _ _ 84 rfl M 151 i0 (.agg #[.int .i64 0, .int .i64 0, .string ⟨#[]⟩]) 3 32 Tryd.underlying84 hi hz0 hz1 hz2 rfl (by decide) _ _ _ rfl (HS4.out.alloc _) ⟨w4.heap.size, 0, none⟩ 1 1 (partCells ⟨p.keep, 0, []⟩) rfl rfl (cells_new _ _ _) (partCells_one _) (by unfold maxLen; omega) (by omega) (by first | omega | (simp; omega)) ?_) | fail)
  intro v5 w5 hown5 hg5 _ _
  have P5 := gath_push (q := ⟨p.keep, 0, []⟩) HG4.out (show w4.cell? ⟨a, 0, none⟩ = some (.slice (some ⟨g, 0, none⟩) L.length c3) by rw [HLN.out]; exact HS1.out) (by show World.ownsRow _ _ _ _ _ (L.length + 1) _; rw [HLN.out]; exact hown5) (by show World.grownBy _ _ (Value.slice _ L.length _).ownBlock; rw [HLN.out]; exact hg5)
  obtain ⟨p5, q5, rfl⟩ := own_slice hown5
  obtain ⟨G5, B5, t1, t2⟩ := P5
  have HG5 : Hid _ := G5
  have HB5 : Hid _ := B5
  have t1' : w5.cell? ⟨a, 0, none⟩ = some (.slice (some ⟨g, 0, none⟩) (m + 1) c3) := by rw [t1]; show some (Value.slice _ L.length _) = _; rw [HLN.out]
  clear hown5 hg5 G5 B5 s0 s1 s2 s3 sF t1
  go_wp2
  go_end0
  exact ⟨⟨_, rfl⟩, HG5.out, HB4.out.trans HB5.out⟩

set_option maxRecDepth 100000 in
set_option maxHeartbeats 2000000 in
theorem addO_more {M : Nat} (a : Nat) (s : NSt) (p : Pt) (w : World) (h : gath M w a s) (hput : s.put.length + p.put.length < 1000000000) (hd : -9223372036854775808 ≤ s.drop + p.drop) (hd' : s.drop + p.drop < 9223372036854775808) (hout : s.out.length < 100000000)
    (hk : p.keep ≠ 0) (L : List Pt) (hL : tellP ⟨s.out, s.put ++ p.put, s.drop + p.drop⟩ = L) (init : List Pt) (q : Pt) (hLq : L = init ++ [q]) (hq : 0 < q.keep) (hb0 : -9223372036854775808 ≤ q.keep + p.keep) (hb1 : q.keep + p.keep < 9223372036854775808) :
    Calls Tryd.prog 135 #[(partV p), .pointer (some ⟨a + 1, 0, none⟩), .pointer (some ⟨a + 2, 0, none⟩), .pointer (some ⟨a + 3, 0, none⟩), .pointer (some ⟨a, 0, none⟩)] w fun e w' => (∃ v, e = .returned v) ∧ gath M w' a ⟨init ++ [⟨q.keep + p.keep, q.drop, q.put⟩], [], 0⟩ ∧ BelowG M a w w' := by
  have hM := h.le
  have hT := h.top
  obtain ⟨i0, hi, hz0, hz1, hz2⟩ := info_parts info_part
  obtain ⟨i1, hj, hy0, hy1, hy2⟩ := info_parts info_u8
  have hlt := gath_lt h
  have hb0' : Below w.heap.size w (w.alloc (.cells #[.int .i64 p.keep, .int .i64 p.drop, .string ⟨p.put.toArray⟩] 151)) := (Below.refl _ _).alloc (Nat.le_refl _) _
  have HG0 : Hid (gath M (w.alloc (.cells #[.int .i64 p.keep, .int .i64 p.drop, .string ⟨p.put.toArray⟩] 151)) a s) := gath_below h hb0'
  have HB0 : Hid (BelowG M a w (w.alloc (.cells #[.int .i64 p.keep, .int .i64 p.drop, .string ⟨p.put.toArray⟩] 151))) := .of hb0' (by omega)
  have x0 : (w.alloc (.cells #[.int .i64 p.keep, .int .i64 p.drop, .string ⟨p.put.toArray⟩] 151)).cell? ⟨w.heap.size, 0, none⟩ = some (.int .i64 p.keep) := by simp [go_sem]
  have x1 : (w.alloc (.cells #[.int .i64 p.keep, .int .i64 p.drop, .string ⟨p.put.toArray⟩] 151)).cell? ⟨w.heap.size, 1, none⟩ = some (.int .i64 p.drop) := by simp [go_sem]
  obtain ⟨⟨pp, c, h1, h2⟩, h3, ⟨p', c', h4, h5⟩, h6, h7, h8, h9⟩ := h
  have HL1 : Hid (∀ k, (Value.slice pp s.out.length c).ownBlock = some k → k < w.heap.size) := fun k hk' => (h2.lt k hk').2
  have HL2 : Hid (∀ k, (Value.slice p' s.put.length c').ownBlock = some k → k < w.heap.size) := fun k hk' => (h5.lt k hk').2
  have hP : (w.alloc (.cells #[.int .i64 p.keep, .int .i64 p.drop, .string ⟨p.put.toArray⟩] 151)).ownsRow M 5 1 (.slice p' s.put.length c') s.put.length (Lib.byteCells s.put) := h5.alloc _
  have hC : (w.alloc (.cells #[.int .i64 p.keep, .int .i64 p.drop, .string ⟨p.put.toArray⟩] 151)).cell? ⟨a + 1, 0, none⟩ = some (.slice p' s.put.length c') := (hb0'.cell (p := ⟨a + 1, 0, none⟩) (by show a + 1 < _; omega)).trans h4
  have hC0 : (w.alloc (.cells #[.int .i64 p.keep, .int .i64 p.drop, .string ⟨p.put.toArray⟩] 151)).cell? ⟨a, 0, none⟩ = some (.slice pp s.out.length c) := (hb0'.cell (p := ⟨a, 0, none⟩) (by show a < _; omega)).trans h1
  have hD2 : (w.alloc (.cells #[.int .i64 p.keep, .int .i64 p.drop, .string ⟨p.put.toArray⟩] 151)).cell? ⟨a + 2, 0, none⟩ = some (.int .i64 s.drop) := (hb0'.cell (p := ⟨a + 2, 0, none⟩) (by show a + 2 < _; omega)).trans h7
  have hF2 : (w.alloc (.cells #[.int .i64 p.keep, .int .i64 p.drop, .string ⟨p.put.toArray⟩] 151)).frozen? ⟨a + 2, 0, none⟩ = false := (hb0'.frozen (p := ⟨a + 2, 0, none⟩) (by show a + 2 < _; omega)).trans h8
  have hD3 : (w.alloc (.cells #[.int .i64 p.keep, .int .i64 p.drop, .string ⟨p.put.toArray⟩] 151)).cell? ⟨a + 3, 0, none⟩ = some (.func (.func 134) #[] #[.pointer (some ⟨a + 1, 0, none⟩), .pointer (some ⟨a, 0, none⟩), .pointer (some ⟨a + 2, 0, none⟩)]) := (hb0'.cell (p := ⟨a + 3, 0, none⟩) (by show a + 3 < _; omega)).trans h9
  have HP : Hid ((w.alloc (.cells #[.int .i64 p.keep, .int .i64 p.drop, .string ⟨p.put.toArray⟩] 151)).ownsRow M 5 1 (.slice p' s.put.length c') s.put.length (Lib.byteCells s.put)) := hP
  have HX : Hid (∀ w1 v1, w1.ownsRow M 5 1 v1 (s.put.length + (ByteArray.mk p.put.toArray).size) (Lib.byteCells s.put ++ Lib.strCells ⟨p.put.toArray⟩) → (w.alloc (.cells #[.int .i64 p.keep, .int .i64 p.drop, .string ⟨p.put.toArray⟩] 151)).grownBy w1 (Value.slice p' s.put.length c').ownBlock →
      gath M ((w1.setCell ⟨a + 1, 0, none⟩ v1).setCell ⟨a + 2, 0, none⟩ (.int .i64 (s.drop + p.drop))) a ⟨s.out, s.put ++ p.put, s.drop + p.drop⟩ ∧ BelowG M a w ((w1.setCell ⟨a + 1, 0, none⟩ v1).setCell ⟨a + 2, 0, none⟩ (.int .i64 (s.drop + p.drop))) ∧
      spare ((w1.setCell ⟨a + 1, 0, none⟩ v1).setCell ⟨a + 2, 0, none⟩ (.int .i64 (s.drop + p.drop))) a w.heap.size ∧
      w1.cell? ⟨a + 1, 0, none⟩ = some (.slice p' s.put.length c') ∧ w1.frozen? ⟨a + 1, 0, none⟩ = false ∧ w1.cell? ⟨a + 2, 0, none⟩ = some (.int .i64 s.drop) ∧ w1.frozen? ⟨a + 2, 0, none⟩ = false ∧
      w1.cell? ⟨a + 3, 0, none⟩ = some (.func (.func 134) #[] #[.pointer (some ⟨a + 1, 0, none⟩), .pointer (some ⟨a, 0, none⟩), .pointer (some ⟨a + 2, 0, none⟩)]) ∧
      (∀ o, w1.cell? ⟨w.heap.size, o, none⟩ = (w.alloc (.cells #[.int .i64 p.keep, .int .i64 p.drop, .string ⟨p.put.toArray⟩] 151)).cell? ⟨w.heap.size, o, none⟩) ∧ w.heap.size < w1.heap.size) := by
    intro w1 v1 q1 q2
    have hz : (ByteArray.mk p.put.toArray).size = p.put.length := by simp [ByteArray.size]
    rw [hz] at q1
    obtain ⟨g1, g2, g3, g4⟩ := gath_puts (q := p.put) HG0.out hC q1 q2
    obtain ⟨g5, g6⟩ := gath_drop g1 (s.drop + p.drop)
    have hlow : ∀ k, (Value.slice p' s.put.length c').ownBlock = some k → a + 4 ≤ k := fun k hk => Nat.le_trans hM (hP.lt k hk).1
    have hbb : Below (a + 4) (w.alloc (.cells #[.int .i64 p.keep, .int .i64 p.drop, .string ⟨p.put.toArray⟩] 151)) w1 := (Below.refl _ _).grown q2 (by rw [World.size_alloc]; omega) hlow
    have hsz := q2.size
    rw [World.size_alloc] at hsz
    refine ⟨g5, HB0.out.trans (g2.trans g6), ⟨by simp; omega, hlt, ?_⟩, g3, g4, (hbb.cell (p := ⟨a + 2, 0, none⟩) (by show a + 2 < _; omega)).trans hD2, (hbb.frozen (p := ⟨a + 2, 0, none⟩) (by show a + 2 < _; omega)).trans hF2, (hbb.cell (p := ⟨a + 3, 0, none⟩) (by show a + 3 < _; omega)).trans hD3, ?_, by omega⟩
    · intro v hv
      rw [cell_set_ne (by omega), cell_set_ne (by omega), (hbb.cell (p := ⟨a, 0, none⟩) (by show a < _; omega)), hC0] at hv
      obtain rfl := Option.some.inj hv
      intro e
      have := HL1.out _ e
      omega
    · intro o
      exact World.cell?_of_block (a := ⟨w.heap.size, o, none⟩) (q2.block w.heap.size (by rw [World.size_alloc]; omega) (by intro e; have := HL2.out _ e.symm; omega))
  clear h2 h5 hP hC hC0 hD2 hF2 hD3 hb0' h1 h3 h6 h7 h8 h9
  have n0 : a + 1 < w.heap.size := by omega
  have HZ : Hid ((ByteArray.mk p.put.toArray).size = p.put.length) := by show _ = _; simp [ByteArray.size]
  have n1 : ¬ (a + 1 = w.heap.size) := by omega
  have n2 : ¬ (w.heap.size = a + 1) := by omega
  have n3 : ¬ (a + 2 = w.heap.size) := by omega
  have n4 : ¬ (w.heap.size = a + 2) := by omega
  have hwrap : IntKind.i64.wrap (s.drop + p.drop) = s.drop + p.drop := by rw [IntKind.wrap_i64]; omega
  unfold partV
  go_enter Tryd.func135, Tryd.ntmps135
  go_wp2_with (first | (at_builtin; refine Lib.wpList_append_own_string _ rfl _ _ 125 9 rfl M 5 i1 Tryd.underlying125 Tryd.underlying9 hj hy0 hy1 hy2 _ _ _ rfl HP.out _ rfl (by rw [HZ.out]; unfold maxLen; omega) (by rw [HZ.out]; omega) (by simp; omega) ?_) | fail)
  intro v1 w1 hown1 hg1 _
  have R := HX.out w1 v1 hown1 hg1
  obtain ⟨pv, cv, rfl⟩ := own_slice hown1
  obtain ⟨G2, B2, S2, r1, r2, r3, r4, r5, r6, r7⟩ := R
  have y0 := (r6 0).trans x0
  have y1 := (r6 1).trans x1
  have HG2 : Hid _ := G2
  have HB2 : Hid _ := B2
  have HS2 : Hid _ := S2
  clear hown1 hg1 x0 x1 r6 G2 B2 S2 HX HL1 HL2 HP HG0 HB0 h4
  have hkb : (p.keep == 0) = false := beq_eq_false_iff_ne.2 hk
  go_wp2_with (first | (go_at_call 9999) | fail)
  refine (tell_any a _ _ HG2.out (by show s.out.length < _; omega) (by show (s.put ++ p.put).length < _; rw [List.length_append]; exact hput)).mono ?_
  rintro e w3 ⟨⟨v3, rfl⟩, G3, B3, S3⟩
  have hS3 := S3 _ HS2.out
  have z0 : w3.cell? ⟨w.heap.size, 0, none⟩ = some (.int .i64 p.keep) := (World.cell?_of_block (a := ⟨w.heap.size, 0, none⟩) hS3).trans (by rw [cell_set_ne (by omega), cell_set_ne (by omega)]; exact y0)
  rw [hL] at G3
  have HB3 : Hid (BelowG M a w w3) := HB2.out.trans B3
  have hs3 : w.heap.size ≤ w3.heap.size := HB3.out.size
  clear S3 hS3 B3 HB2 HS2 HG2 y0 y1 r1 r2 r3 r4 r5 r7
  obtain ⟨m, hm⟩ : ∃ m, m = init.length := ⟨_, rfl⟩
  have hLn : L.length = m + 1 := by rw [hLq, hm]; simp
  have HLN : Hid (L.length = m + 1) := hLn
  have hbig : m + 1 < 1000000000 := by
    have h1 : L.length ≤ s.out.length + 2 := by
      rw [← hL, tellP]
      simp only [List.length_append]
      split <;> split <;> simp
    omega
  have HG3 : Hid (gath M w3 a ⟨L, [], 0⟩) := G3
  have hlt3 := gath_lt G3
  obtain ⟨⟨p3, c3, u1, u2⟩, u3, _, _, _, _, _⟩ := G3
  have u1' : w3.cell? ⟨a, 0, none⟩ = some (.slice p3 (m + 1) c3) := by rw [← hLn]; exact u1
  have u2' : w3.ownsRow M 151 3 (.slice p3 (m + 1) c3) (m + 1) (cellsP L) := by rw [← hLn]; exact u2
  obtain ⟨g, rfl⟩ : ∃ g, p3 = some ⟨g, 0, none⟩ := by
    rcases u2'.2 with ⟨_, h0⟩ | ⟨g, cap, cur, hv, _⟩
    · exact absurd h0 (by omega)
    · simp only [Value.slice.injEq] at hv
      exact ⟨g, hv.1⟩
  have hgl := (u2'.lt g rfl)
  have hlc := last_cells (by rw [hLq] at u2'; exact u2') (show m + 1 = _ by rw [← hLq]; exact hLn.symm)
  rw [← hm] at hlc
  obtain ⟨l0, l1, l2, l3⟩ := hlc
  have HU2 : Hid (w3.ownsRow M 151 3 (.slice (some ⟨g, 0, none⟩) (m + 1) c3) (m + 1) (cellsP L)) := u2'
  have HL0 : Hid (w3.cell? ⟨g, m * 3, none⟩ = some (.int .i64 q.keep)) := l0
  have hwm : IntKind.i64.wrap (((m + 1 : Nat) : Int) - 1) = (m : Int) := by rw [IntKind.wrap_i64]; omega
  have hge : (0 : Int) ≤ (m : Int) := by omega
  have hlm : (m : Int) < ((m + 1 : Nat) : Int) := by omega
  have HM : Hid (m = init.length) := hm
  have HLQ : Hid (L = init ++ [q]) := hLq
  clear u1 u2 u2' hLn hm hLq
  go_wp2_with (first | (go_at_call 9999) | fail)
  refine (isKeep_any q _).mono ?_
  rintro e w4 ⟨rfl, hb4⟩
  have G4 := gath_below HG3.out hb4
  have HG4 : Hid (gath M w4 a ⟨L, [], 0⟩) := G4
  have HB4 : Hid (BelowG M a w w4) := HB3.out.trans (.of hb4 (by omega))
  have s0 := (hb4.cell (p := ⟨w.heap.size, 0, none⟩) (World.block_lt_of_cell? w3 _ z0)).trans z0
  have s1 := (hb4.cell (p := ⟨a, 0, none⟩) (World.block_lt_of_cell? w3 _ u1')).trans u1'
  have sF := (hb4.frozen (p := ⟨a, 0, none⟩) (World.block_lt_of_cell? w3 _ u1')).trans u3
  have s2 := (hb4.cell (p := ⟨g, m * 3, none⟩) (World.block_lt_of_cell? w3 _ l0)).trans l0
  have s3 := (hb4.frozen (p := ⟨g, m * 3, none⟩) (World.block_lt_of_cell? w3 _ l0)).trans l3
  have s4 := own_below HU2.out hb4
  have HS4 : Hid (w4.ownsRow M 151 3 (.slice (some ⟨g, 0, none⟩) (m + 1) c3) (m + 1) (cellsP L)) := s4
  have HS1 : Hid (w4.cell? ⟨a, 0, none⟩ = some (.slice (some ⟨g, 0, none⟩) (m + 1) c3)) := s1
  have hs4 := hb4.size
  clear hb4 s4 G4 u1' u3 l0 l1 l2 l3 z0
  have hqd : decide (0 < q.keep) = true := decide_eq_true (by omega)
  rw [hqd]
  have hwk : IntKind.i64.wrap (q.keep + p.keep) = q.keep + p.keep := by rw [IntKind.wrap_i64]; omega
  have HG5 : Hid (gath M w4.drew a ⟨init ++ [q], [], 0⟩) := by
    have := gath_below HG4.out (Below.refl _ w4).drew
    rw [HLQ.out] at this
    exact this
  have P5 := gath_more (k := q.keep + p.keep) HG5.out (show w4.drew.cell? ⟨a, 0, none⟩ = some (.slice (some ⟨g, 0, none⟩) (m + 1) c3) from HS1.out) (by rw [← HLQ.out]; exact HLN.out.symm)
  rw [← HM.out] at P5
  have HP5 : Hid _ := P5
  have HBD : Hid (BelowG M a w w4.drew) := HB4.out.drew
  clear P5
  go_wp2
  go_region
  all_goals
    go_wp2
    refine bodyPost_ret (results_none rfl _ _ _) rfl ?_
    exact ⟨⟨_, rfl⟩, HP5.out.1, HBD.out.trans HP5.out.2⟩

theorem add_anyG {M : Nat} (a : Nat) (s : NSt) (p : Pt) (w : World) (h : gath M w a s) (hput : s.put.length + p.put.length < 1000000000) (hd : 0 ≤ s.drop) (hd' : s.drop + p.drop < 4611686018427387904) (hp : 0 ≤ p.drop) (hk : 0 ≤ p.keep) (hout : s.out.length < 100000000)
    (hkb : ∀ q ∈ s.out, 0 ≤ q.keep ∧ q.keep + p.keep < 4611686018427387904) (hkk : p.keep < 4611686018427387904) :
    Calls Tryd.prog 135 #[partV p, .pointer (some ⟨a + 1, 0, none⟩), .pointer (some ⟨a + 2, 0, none⟩), .pointer (some ⟨a + 3, 0, none⟩), .pointer (some ⟨a, 0, none⟩)] w fun e w' => (∃ v, e = .returned v) ∧ gath M w' a (addP s p) ∧ BelowG M a w w' := by
  have hM := h.le
  have hT := h.top
  by_cases hk0 : p.keep = 0
  · have := add_zero a s p w h hput (by omega) (by omega) hout
    unfold addP partV
    rw [if_pos hk0, hk0]
    exact this
  · obtain ⟨L, hL⟩ : ∃ L, tellP ⟨s.out, s.put ++ p.put, s.drop + p.drop⟩ = L := ⟨_, rfl⟩
    unfold addP
    rw [if_neg hk0, hL]
    have hmem : ∀ q ∈ L, 0 ≤ q.keep ∧ q.keep + p.keep < 4611686018427387904 := by
      intro q hq
      rw [← hL, tellP] at hq
      simp only [List.mem_append] at hq
      rcases hq with hq | hq | hq
      · exact hkb q hq
      · split at hq
        · simp at hq
        · rw [List.mem_singleton.1 hq]; exact ⟨by simp, by simpa using hkk⟩
      · split at hq
        · simp at hq
        · rw [List.mem_singleton.1 hq]; exact ⟨by simp, by simpa using hkk⟩
    rcases List.eq_nil_or_concat L with hn | ⟨init, q, hLq⟩
    · have := add_only a s p w h hput (by omega) (by omega) hout hk0 L hL hn
      subst hn
      exact this
    · have hq := hmem q (by rw [hLq]; simp)
      have hgl : L.getLast? = some q := by rw [hLq]; simp
      by_cases hqk : 0 < q.keep
      · have := addO_more a s p w h hput (by omega) (by omega) hout hk0 L hL init q (by simpa using hLq) hqk (by omega) (by omega)
        have e : pushKeep L p.keep = init ++ [⟨q.keep + p.keep, q.drop, q.put⟩] := by simp [pushKeep, hqk, hLq]
        rw [e]
        exact this
      · have := add_behind a s p w h hput (by omega) (by omega) hout hk0 L hL init q (by simpa using hLq) hqk
        have e : pushKeep L p.keep = L ++ [⟨p.keep, 0, []⟩] := by simp [pushKeep, hgl, hqk]
        rw [e]
        exact this
theorem addO_any {M : Nat} (a : Nat) (s : NSt) (p : Pt) (w : World) (h : gath M w a s) (hput : s.put.length + p.put.length < 1000000000) (hd : 0 ≤ s.drop) (hd' : s.drop + p.drop < 4611686018427387904) (hp : 0 ≤ p.drop) (hk : 0 ≤ p.keep) (hout : s.out.length < 100000000)
    (hkb : ∀ q ∈ s.out, 0 ≤ q.keep ∧ q.keep + p.keep < 4611686018427387904) (hkk : p.keep < 4611686018427387904) :
    Calls Tryd.prog 135 #[partV p, .pointer (some ⟨a + 1, 0, none⟩), .pointer (some ⟨a + 2, 0, none⟩), .pointer (some ⟨a + 3, 0, none⟩), .pointer (some ⟨a, 0, none⟩)] w fun e w' => (∃ v, e = .returned v) ∧ gath M w' a (addP s p) ∧ Below a w w' :=
  (add_anyG a s p w h hput hd hd' hp hk hout hkb hkk).mono fun e w' h => ⟨h.1, h.2.1, h.2.2.below⟩
theorem done_any {M : Nat} (a : Nat) (s : NSt) (w : World) (h : gath M w a s) (hlen : s.out.length < 1000000000) (hput : s.put.length < 1000000000) :
    Calls Tryd.prog 136 #[.pointer (some ⟨a + 3, 0, none⟩), .pointer (some ⟨a, 0, none⟩)] w fun e w' => ∃ v, e = .returned v ∧ w'.ownsRow M 151 3 v (tellP s).length (cellsP (tellP s)) ∧ Below a w w' :=
  (done_anyG a s w h hlen hput).mono fun e w' h => (by obtain ⟨v, h1, h2, h3⟩ := h; exact ⟨v, h1, h2, h3.below⟩)
end Go.Proofs.YtgmgkbbnciglhaaDoor

namespace Go.Proofs.YtgmgkbbnciglhaaDoor
open Go.RowKit
set_option linter.unusedVariables false

/-- The slice v reads as the parts ps. -/
def opAt (w : World) (v : Value) (ps : List Pt) : Prop :=
  ∃ p c, v = .slice p ps.length c ∧ ps.length ≤ c ∧ c ≤ maxLen ∧ (ps ≠ [] → ∃ b o, p = some ⟨b, o, none⟩ ∧ b < w.heap.size ∧ ∀ i q, ps[i]? = some q →
    w.cell? ⟨b, o + i * 3, none⟩ = some (.int .i64 q.keep) ∧ w.cell? ⟨b, o + i * 3 + 1, none⟩ = some (.int .i64 q.drop) ∧ w.cell? ⟨b, o + i * 3 + 2, none⟩ = some (.string ⟨q.put.toArray⟩))
theorem opAt_below {w w' : World} {v : Value} {ps : List Pt} (h : opAt w v ps) {B : Nat} (hb : Below B w w') (hB : w.heap.size ≤ B) : opAt w' v ps := by
  obtain ⟨p, c, rfl, h1, h2, h3⟩ := h
  refine ⟨p, c, rfl, h1, h2, fun hne => ?_⟩
  obtain ⟨b, o, e1, e2, e3⟩ := h3 hne
  refine ⟨b, o, e1, Nat.lt_of_lt_of_le e2 hb.size, fun i q hi => ?_⟩
  obtain ⟨f1, f2, f3⟩ := e3 i q hi
  exact ⟨(hb.cell (p := ⟨b, o + i * 3, none⟩) (Nat.lt_of_lt_of_le e2 hB)).trans f1, (hb.cell (p := ⟨b, o + i * 3 + 1, none⟩) (Nat.lt_of_lt_of_le e2 hB)).trans f2, (hb.cell (p := ⟨b, o + i * 3 + 2, none⟩) (Nat.lt_of_lt_of_le e2 hB)).trans f3⟩

theorem cellsP_get (ps : List Pt) (i : Nat) (q : Pt) (hi : ps[i]? = some q) : ∀ j, j < 3 → (cellsP ps)[i * 3 + j]? = (partCells q)[j]? := by
  induction ps generalizing i with
  | nil => simp at hi
  | cons p ps ih =>
    intro j hj
    have e : cellsP (p :: ps) = partCells p ++ cellsP ps := rfl
    have hl : (partCells p).length = 3 := rfl
    rw [e]
    cases i with
    | zero =>
      simp only [List.getElem?_cons_zero, Option.some.injEq] at hi
      subst hi
      rw [Nat.zero_mul, Nat.zero_add, List.getElem?_append_left (by rw [hl]; exact hj)]
    | succ i =>
      rw [List.getElem?_append_right (by rw [hl]; omega), hl, ← ih i (by simpa using hi) j hj]
      congr 1
      omega

/-- A row of parts reads as them. -/
theorem opAt_own {w : World} {B : Nat} {v : Value} {ps : List Pt} (h : w.ownsRow B 151 3 v ps.length (cellsP ps)) : opAt w v ps := by
  have h' := h
  rcases h.2 with ⟨rfl, h2⟩ | ⟨g, cap, cur, rfl, h2, h3, h4, h5, h6, h7⟩
  · obtain rfl : ps = [] := List.eq_nil_of_length_eq_zero h2
    exact ⟨none, 0, rfl, Nat.le_refl _, Nat.zero_le _, fun h => absurd rfl h⟩
  · refine ⟨_, cap, rfl, h4, h5, fun _ => ⟨g, 0, rfl, (Array.getElem?_eq_some_iff.1 h3).1, fun i q hi => ?_⟩⟩
    have hlt := (List.getElem?_eq_some_iff.1 hi).1
    have hc := cellsP_get ps i q hi
    refine ⟨?_, ?_, ?_⟩
    · rw [Nat.zero_add, h'.cellAt _ (by omega)]; exact hc 0 (by omega)
    · rw [Nat.zero_add, h'.cellAt _ (by omega)]; exact hc 1 (by omega)
    · rw [Nat.zero_add, h'.cellAt _ (by omega)]; exact hc 2 (by omega)

def soundP (p : Pt) : Prop := 0 ≤ p.keep ∧ 0 ≤ p.drop
def wtP (p : Pt) : Int := p.keep + p.drop + p.put.length
def wts (ps : List Pt) : Int := (ps.map wtP).sum
theorem wts_snoc (ps : List Pt) (p : Pt) : wts (ps ++ [p]) = wts ps + wtP p := by simp [wts]
theorem wts_nonneg {ps : List Pt} (h : ∀ p ∈ ps, soundP p) : 0 ≤ wts ps := by
  induction ps with
  | nil => simp [wts]
  | cons p ps ih =>
    have h1 := h p (List.mem_cons_self ..)
    have h2 := ih fun q hq => h q (List.mem_cons_of_mem _ hq)
    unfold wts at h2 ⊢
    rw [List.map_cons, List.sum_cons]
    unfold soundP at h1
    have : 0 ≤ wtP p := by unfold wtP; omega
    omega
theorem wts_take {ps : List Pt} (h : ∀ p ∈ ps, soundP p) (k : Nat) : wts (ps.take k) ≤ wts ps := by
  have h1 : wts ps = wts (ps.take k) + wts (ps.drop k) := by
    unfold wts
    rw [← List.sum_append, ← List.map_append, List.take_append_drop]
  have h2 := wts_nonneg (ps := ps.drop k) fun q hq => h q (List.mem_of_mem_drop hq)
  omega

/-- What a gathering's numbers are at most. -/
structure Bd (s : NSt) (T : Int) (n : Nat) : Prop where
  put : (s.put.length : Int) ≤ T
  d0 : 0 ≤ s.drop
  dT : s.drop ≤ T
  keep : ∀ q ∈ s.out, 0 ≤ q.keep ∧ q.keep ≤ T
  len : s.out.length ≤ 3 * n
theorem bd0 : Bd nst0 0 0 := ⟨by simp [nst0], by simp [nst0], by simp [nst0], by simp [nst0], by simp [nst0]⟩
theorem Bd.add {s : NSt} {T : Int} {n : Nat} (h : Bd s T n) (p : Pt) (hp : soundP p) : Bd (addP s p) (T + wtP p) (n + 1) := by
  obtain ⟨k, d, q⟩ := p
  obtain ⟨p1, p2⟩ := hp
  obtain ⟨h1, h2, h3, h4, h5⟩ := h
  have hw : wtP ⟨k, d, q⟩ = k + d + q.length := rfl
  have e1 : (0 : Int) ≤ k := p1
  have e2 : (0 : Int) ≤ d := p2
  have hT : 0 ≤ T := Int.le_trans h2 h3
  rw [hw]
  unfold addP
  by_cases hk : k = 0
  · rw [if_pos hk]
    refine ⟨?_, ?_, ?_, ?_, ?_⟩
    · show ((s.put ++ q).length : Int) ≤ _
      rw [List.length_append]
      omega
    · show 0 ≤ s.drop + d; omega
    · show s.drop + d ≤ _; omega
    · intro x hx
      have := h4 x hx
      omega
    · show s.out.length ≤ _; omega
  · rw [if_neg hk]
    obtain ⟨L, hL⟩ : ∃ L, tellP ⟨s.out, s.put ++ q, s.drop + d⟩ = L := ⟨_, rfl⟩
    have hm : ∀ x ∈ L, 0 ≤ x.keep ∧ x.keep ≤ T := by
      intro x hx
      rw [← hL, tellP] at hx
      simp only [List.mem_append] at hx
      rcases hx with hx | hx | hx
      · exact h4 x hx
      · split at hx
        · simp at hx
        · rw [List.mem_singleton.1 hx]; exact ⟨by simp, hT⟩
      · split at hx
        · simp at hx
        · rw [List.mem_singleton.1 hx]; exact ⟨by simp, hT⟩
    have hl : L.length ≤ s.out.length + 2 := by
      rw [← hL, tellP]
      simp only [List.length_append]
      split <;> split <;> simp
    have key : (∀ x ∈ pushKeep L k, 0 ≤ x.keep ∧ x.keep ≤ T + k) ∧ (pushKeep L k).length ≤ L.length + 1 := by
      have hsnoc : (∀ x ∈ L ++ [⟨k, 0, []⟩], 0 ≤ x.keep ∧ x.keep ≤ T + k) ∧ (L ++ [(⟨k, 0, []⟩ : Pt)]).length ≤ L.length + 1 := by
        refine ⟨fun x hx => ?_, by simp⟩
        rcases List.mem_append.1 hx with hx | hx
        · have := hm x hx; omega
        · rw [List.mem_singleton.1 hx]; exact ⟨e1, by show k ≤ _; omega⟩
      unfold pushKeep
      split
      · rename_i q0 hq0
        split
        · rename_i hq1
          have hin : q0 ∈ L := List.mem_of_getLast? hq0
          have := hm q0 hin
          refine ⟨fun x hx => ?_, by simp⟩
          rcases List.mem_append.1 hx with hx | hx
          · have := hm x (List.dropLast_subset _ hx); omega
          · rw [List.mem_singleton.1 hx]; exact ⟨by show 0 ≤ q0.keep + k; omega, by show q0.keep + k ≤ _; omega⟩
        · exact hsnoc
      · exact hsnoc
    rw [hL]
    refine ⟨?_, by simp, ?_, ?_, ?_⟩
    · show ((0 : Nat) : Int) ≤ _; omega
    · show (0 : Int) ≤ _; omega
    · intro x hx
      have := key.1 x hx
      show 0 ≤ x.keep ∧ x.keep ≤ T + (k + d + q.length)
      omega
    · have := key.2
      show (pushKeep L k).length ≤ _
      omega
theorem bds (ps : List Pt) (h : ∀ p ∈ ps, soundP p) : Bd (ps.foldl addP nst0) (wts ps) ps.length := by
  have key : ∀ n, n ≤ ps.length → Bd ((ps.take n).foldl addP nst0) (wts (ps.take n)) n := by
    intro n
    induction n with
    | zero => intro _; exact bd0
    | succ n ih =>
      intro hn
      have := ih (by omega)
      rw [List.take_succ_eq_append_getElem (by omega), List.foldl_append, wts_snoc]
      exact this.add _ (h _ (List.getElem_mem _))
  have := key ps.length (Nat.le_refl _)
  rwa [List.take_length] at this

set_option maxRecDepth 100000 in
set_option maxHeartbeats 2000000 in
theorem Norm_any4 (v : Value) (ps : List Pt) (w : World) (hr : opAt w v ps) (hs : ∀ p ∈ ps, soundP p) (hw : wts ps < 1000000000) (hl : ps.length < 10000000) :
    Calls Tryd.prog 49 #[v] w fun e w' => ∃ v', e = .returned v' ∧ w'.ownsRow w.heap.size 151 3 v' (normP ps).length (cellsP (normP ps)) ∧ Below w.heap.size w w' ∧ w.heap.size + 4 ≤ w'.heap.size := by
  obtain ⟨p, c, rfl, r1, r2, r3⟩ := hr
  obtain ⟨n, hn⟩ : ∃ n, n = ps.length := ⟨_, rfl⟩
  rw [← hn] at r1 hl ⊢
  have HN : Hid (n = ps.length) := hn
  clear hn
  have R3 : Hid (ps ≠ [] → ∃ b o, p = some ⟨b, o, none⟩ ∧ b < w.heap.size ∧ ∀ i q, ps[i]? = some q →
    w.cell? ⟨b, o + i * 3, none⟩ = some (.int .i64 q.keep) ∧ w.cell? ⟨b, o + i * 3 + 1, none⟩ = some (.int .i64 q.drop) ∧ w.cell? ⟨b, o + i * 3 + 2, none⟩ = some (.string ⟨q.put.toArray⟩)) := r3
  have HS : Hid (∀ p ∈ ps, soundP p) := hs
  have HW : Hid (wts ps < 1000000000) := hw
  clear r3 hs hw
  go_enter Tryd.func49, Tryd.ntmps49
  go_wp2_with (first | (go_at_call 97; refine (gather_any w).mono ?_; rintro e w1 ⟨rfl, hG1, hz1, hb1⟩; have HG1 : Hid (gath (w.heap.size + 4) w1 w.heap.size nst0) := hG1 _ _ (Below.refl _ _) (Nat.le_refl _) (by omega); clear hz1; have HB1 : Hid (Below w.heap.size w w1) := hb1; clear hG1 hb1) | fail)
  go_loopw [13] (fun i wr => ∃ (k : Nat), k ≤ n ∧ i = .int .i64 k ∧ gath (w.heap.size + 4) wr w.heap.size ((ps.take k).foldl addP nst0) ∧ Below w.heap.size w wr) (fun i _ => n - (intOf i).toNat)
  case atStart => exact ⟨0, Nat.zero_le _, rfl, HG1.out, HB1.out⟩
  case round =>
    obtain ⟨k, hk, rfl, hg, hwr⟩ := hrel
    by_cases hlt : k < n
    · have hkr : k < ps.length := by rw [← HN.out]; exact hlt
      have hne : ps ≠ [] := by intro e; rw [e] at hkr; exact absurd hkr (Nat.not_lt_zero _)
      obtain ⟨b, o, rfl, hbw, hcell⟩ := R3.out hne
      obtain ⟨c0, c1, c2⟩ := hcell k ps[k] (List.getElem?_eq_getElem hkr)
      have g0 := (hwr.cell (p := ⟨b, o + k * 3, none⟩) hbw).trans c0
      have g1 := (hwr.cell (p := ⟨b, o + k * 3 + 1, none⟩) hbw).trans c1
      have g2 := (hwr.cell (p := ⟨b, o + k * 3 + 2, none⟩) hbw).trans c2
      have hB := bds (ps.take k) fun q hq => HS.out q (List.mem_of_mem_take hq)
      have hB1 := bds (ps.take (k + 1)) fun q hq => HS.out q (List.mem_of_mem_take hq)
      have hT1 := wts_take HS.out (k + 1)
      have hT0 := wts_take HS.out k
      have hT2 := HW.out
      have hsp := HS.out ps[k] (List.getElem_mem _)
      have hts : ps.take (k + 1) = ps.take k ++ [ps[k]] := List.take_succ_eq_append_getElem hkr
      have hlk : (ps.take k).length ≤ k := by rw [List.length_take]; omega
      rw [hts, wts_snoc] at hT1
      have hnx : (ps.take (k + 1)).foldl addP nst0 = addP ((ps.take k).foldl addP nst0) ps[k] := by rw [hts, List.foldl_append]; rfl
      have hwp : wtP ps[k] = ps[k].keep + ps[k].drop + ps[k].put.length := rfl
      have HNX : Hid ((ps.take (k + 1)).foldl addP nst0 = addP ((ps.take k).foldl addP nst0) ps[k]) := hnx
      clear hcell c0 c1 c2 hts hnx hB1
      generalize ps[k] = q at *
      obtain ⟨s, hse⟩ : ∃ s, s = (ps.take k).foldl addP nst0 := ⟨_, rfl⟩
      rw [← hse] at hg hB HNX
      obtain ⟨sp1, sp2⟩ := hsp
      have hsize := hwr.size
      have CA : Hid (∀ wx, Below wr.heap.size wr wx → Calls Tryd.prog 135 #[partV q, .pointer (some ⟨w.heap.size + 1, 0, none⟩), .pointer (some ⟨w.heap.size + 2, 0, none⟩), .pointer (some ⟨w.heap.size + 3, 0, none⟩), .pointer (some ⟨w.heap.size, 0, none⟩)] wx fun e w' => (∃ v, e = .returned v) ∧ gath (w.heap.size + 4) w' w.heap.size (addP s q) ∧ Below w.heap.size wx w') := by
        intro wx hbx
        have h1 := hB.put
        have h2 := hB.d0
        have h3 := hB.dT
        have h5 := hB.len
        exact addO_any w.heap.size s q wx (gath_below hg hbx) (by omega) h2 (by omega) sp2 sp1 (by omega) (fun x hx => by have := hB.keep x hx; omega) (by omega)
      have HWR : Hid (Below w.heap.size w wr) := hwr
      unfold partV at CA
      clear hg hB hT1 hT0 hT2 hlk hwp hse sp1 sp2 hwr HG1 HB1
      go_wp2_with (first | (go_at_call 135; refine (CA.out _ ((Below.refl _ wr).alloc (Nat.le_refl _) _)).mono ?_; rintro e w2 ⟨⟨v2, rfl⟩, hg2, hb2⟩; have HG2 : Hid (gath (w.heap.size + 4) w2 w.heap.size (addP s q)) := hg2; have HB2 : Hid (Below w.heap.size w w2) := (HWR.out.alloc hsize _).trans hb2; clear hg2 hb2) | fail)
      go_roundw
      case rel => exact ⟨k + 1, by omega, by go_num, by rw [HNX.out]; exact HG2.out, HB2.out⟩
      case measure => simp [intOf]; omega
    · have e : ps.take k = ps := List.take_of_length_le (by rw [← HN.out]; omega)
      rw [e] at hg
      have hB := bds ps HS.out
      have hT2 := HW.out
      have cD : Hid (Calls Tryd.prog 136 #[.pointer (some ⟨w.heap.size + 3, 0, none⟩), .pointer (some ⟨w.heap.size, 0, none⟩)] wr fun e w' => ∃ v, e = .returned v ∧ w'.ownsRow (w.heap.size + 4) 151 3 v (normP ps).length (cellsP (normP ps)) ∧ Below w.heap.size wr w') :=
        done_any w.heap.size _ wr hg (by have := hB.len; have := HN.out; omega) (by have := hB.put; omega)
      have hlt4 := gath_lt hg
      clear e hg hB hT2 R3 HS HW HG1 HB1
      go_wp2_with (first | (go_at_call 136; refine cD.out.mono ?_; rintro e w2 ⟨v2, rfl, ho2, hb2⟩) | fail)
      obtain ⟨p2, q2, rfl⟩ := own_slice ho2
      go_ret
      exact ⟨_, rfl, own_mono ho2 (by omega), hwr.trans hb2, by have := hb2.size; omega⟩
theorem Norm_any (v : Value) (ps : List Pt) (w : World) (hr : opAt w v ps) (hs : ∀ p ∈ ps, soundP p) (hw : wts ps < 1000000000) (hl : ps.length < 10000000) :
    Calls Tryd.prog 49 #[v] w fun e w' => ∃ v', e = .returned v' ∧ w'.ownsRow w.heap.size 151 3 v' (normP ps).length (cellsP (normP ps)) ∧ Below w.heap.size w w' :=
  (Norm_any4 v ps w hr hs hw hl).mono fun e w' h => by obtain ⟨v', h1, h2, h3, _⟩ := h; exact ⟨v', h1, h2, h3⟩
end Go.Proofs.YtgmgkbbnciglhaaDoor

namespace Go.Proofs.YtgmgkbbnciglhaaDoor
open Go.RowKit
set_option linter.unusedVariables false
attribute [local go_sem] Oper.semAt_some

theorem over_any (p : Option Addr) (n c : Nat) (s : ByteArray) (w : World) : Calls Tryd.prog 100 #[.slice p n c, .string s] w fun e w' => e = .returned (.func (.func 138) #[] #[.pointer (some ⟨w.heap.size + 1, 0, none⟩), .pointer (some ⟨w.heap.size, 0, none⟩)]) ∧ w' = (w.alloc (.cells #[.slice p n c] 84)).alloc (.cells #[.string s] 9) := by
  go_enter Tryd.func100, Tryd.ntmps100
  go_wp2
  go_ret
  exact ⟨rfl, rfl⟩

/-- The parts of an operation, each with its piece of the text. -/
def pcs : List Pt → List UInt8 → List (Pt × List UInt8)
  | [], _ => []
  | p :: ps, s => (p, s.take (lenP p).toNat) :: pcs ps (s.drop (lenP p).toNat)
/-- What is left of the text behind so many parts. -/
def leftP : List Pt → List UInt8 → List UInt8
  | [], s => s
  | p :: ps, s => leftP ps (s.drop (lenP p).toNat)

theorem leftP_snoc (ps : List Pt) (p : Pt) (s : List UInt8) : leftP (ps ++ [p]) s = (leftP ps s).drop (lenP p).toNat := by
  induction ps generalizing s with
  | nil => rfl
  | cons q ps ih => exact ih _
theorem pcs_append (a b : List Pt) (s : List UInt8) : pcs (a ++ b) s = pcs a s ++ pcs b (leftP a s) := by
  induction a generalizing s with
  | nil => rfl
  | cons q a ih => simp [pcs, leftP, ih]
/-- Each part keeps, or drops, no more than is left. -/
def fitsP : List Pt → List UInt8 → Prop
  | [], _ => True
  | p :: ps, s => 0 ≤ p.keep ∧ 0 ≤ p.drop ∧ lenP p ≤ s.length ∧ fitsP ps (s.drop (lenP p).toNat)
theorem fitsP_at (ps : List Pt) (s : List UInt8) (h : fitsP ps s) (k : Nat) (hk : k < ps.length) : 0 ≤ ps[k].keep ∧ 0 ≤ ps[k].drop ∧ lenP ps[k] ≤ (leftP (ps.take k) s).length := by
  induction ps generalizing s k with
  | nil => simp at hk
  | cons p ps ih =>
    obtain ⟨h1, h2, h3, h4⟩ := h
    cases k with
    | zero => exact ⟨h1, h2, h3⟩
    | succ k => exact ih _ h4 k (by simpa using hk)
theorem leftP_le (ps : List Pt) (s : List UInt8) : (leftP ps s).length ≤ s.length := by
  induction ps generalizing s with
  | nil => exact Nat.le_refl _
  | cons p ps ih =>
    have := ih (s.drop (lenP p).toNat)
    rw [List.length_drop] at this
    show (leftP ps _).length ≤ _
    omega

theorem cut_head (l : List UInt8) (n : Nat) : (ByteArray.mk l.toArray).extract 0 n = ⟨(l.take n).toArray⟩ := by
  apply ByteArray.ext
  simp
theorem cut_tail (l : List UInt8) (n : Nat) : (ByteArray.mk l.toArray).extract n l.length = ⟨(l.drop n).toArray⟩ := by
  apply ByteArray.ext
  have : List.take (l.length - n) (l.drop n) = l.drop n := List.take_of_length_le (by rw [List.length_drop]; exact Nat.le_refl _)
  simp [this]

set_option maxRecDepth 100000 in
set_option maxHeartbeats 2000000 in
theorem over_seq (v : Value) (ps : List Pt) (s : List UInt8) (hs : s.length < 1000000000) (hl : ps.length < 10000000) (hf : fitsP ps s) (R : Nat → Prop) (sb : Nat) (W : World)
    (h0 : W.cell? ⟨sb, 0, none⟩ = some v) (h1 : W.cell? ⟨sb + 1, 0, none⟩ = some (.string ⟨s.toArray⟩)) (hop : opAt W v ps) (hR0 : R sb) (hR1 : R (sb + 1)) (hRv : ∀ b o n c, v = .slice (some ⟨b, o, none⟩) n c → ps ≠ [] → R b) (hRl : ∀ x, R x → x < W.heap.size) (Z : World → Prop) :
    SeqOwn Tryd.prog 138 #[.pointer (some ⟨sb + 1, 0, none⟩), .pointer (some ⟨sb, 0, none⟩)] (fun _ (x : Pt × List UInt8) => #[partV x.1, .string ⟨x.2.toArray⟩]) (fun A B => Below A.heap.size A B ∧ W.heap.size ≤ A.heap.size) (fun A B => A.heap.size ≤ B.heap.size ∧ ∀ x, R x → B.heap[x]? = A.heap[x]?) Z
      (fun xs => xs = pcs ps s) (fun pre => ∃ rest, pcs ps s = pre ++ rest) W := by
  intro l J Jx hZ hZx hJ hJx hR hj0
  have hlt0 := World.block_lt_of_cell? W _ h0
  have hlt1 := World.block_lt_of_cell? W _ h1
  obtain ⟨p, c, rfl, r1, r2, r3⟩ := hop
  obtain ⟨n, hn⟩ : ∃ n, n = ps.length := ⟨_, rfl⟩
  rw [← hn] at r1 hl h0 hRv
  have HN : Hid (n = ps.length) := hn
  have R3 : Hid (ps ≠ [] → ∃ b o, p = some ⟨b, o, none⟩ ∧ b < W.heap.size ∧ ∀ i q, ps[i]? = some q →
    W.cell? ⟨b, o + i * 3, none⟩ = some (.int .i64 q.keep) ∧ W.cell? ⟨b, o + i * 3 + 1, none⟩ = some (.int .i64 q.drop) ∧ W.cell? ⟨b, o + i * 3 + 2, none⟩ = some (.string ⟨q.put.toArray⟩)) := r3
  have HF : Hid (fitsP ps s) := hf
  have HSL : Hid (s.length < 1000000000) := hs
  have HRV : Hid (∀ b o, p = some ⟨b, o, none⟩ → ps ≠ [] → R b) := fun b o e => hRv b o n c (by rw [e])
  have HRL : Hid (∀ x, R x → x < W.heap.size) := hRl
  clear r3 hf hn hs hRv hRl
  refine callsIn_of_wp Tryd.func138 rfl trivial ?_ rfl
  simp only [Tryd.ntmps138, List.size_toArray, List.length_cons, List.length_nil, Nat.reduceAdd, Nat.reduceSub, Array.replicate_succ, Array.replicate_zero, List.push_toArray, List.append_toArray, List.nil_append, List.cons_append]
  gi_wp2
  gi_loopw [4, 11] (fun rest i wr => ∃ (k : Nat), k ≤ n ∧ i = .int .i64 k ∧ rest = .string ⟨(leftP (ps.take k) s).toArray⟩ ∧ W.heap.size ≤ wr.heap.size ∧ (∀ x, R x → wr.heap[x]? = W.heap[x]?) ∧ J (pcs (ps.take k) s) wr) (fun _ i _ => n - (intOf i).toNat)
  case atStart => exact ⟨0, Nat.zero_le _, rfl, rfl, Nat.le_refl _, fun _ _ => rfl, hj0⟩
  case round =>
    obtain ⟨k, hk, rfl, rfl, hsz, hkeep, hjp⟩ := hrel
    by_cases hlt : k < n
    · have hkr : k < ps.length := by rw [← HN.out]; exact hlt
      have hne : ps ≠ [] := by intro e; rw [e] at hkr; exact absurd hkr (Nat.not_lt_zero _)
      obtain ⟨b, o, rfl, hbw, hcell⟩ := R3.out hne
      obtain ⟨c0, c1, c2⟩ := hcell k ps[k] (List.getElem?_eq_getElem hkr)
      have hkb := hkeep b (HRV.out b o rfl hne)
      have g0 := (World.cell?_of_block (w := W) (w' := wr) (a := ⟨b, o + k * 3, none⟩) hkb).trans c0
      have g1 := (World.cell?_of_block (w := W) (w' := wr) (a := ⟨b, o + k * 3 + 1, none⟩) hkb).trans c1
      have g2 := (World.cell?_of_block (w := W) (w' := wr) (a := ⟨b, o + k * 3 + 2, none⟩) hkb).trans c2
      obtain ⟨f1, f2, f3⟩ := fitsP_at ps s HF.out k hkr
      have hll := leftP_le (ps.take k) s
      have hs9 := HSL.out
      have hts : ps.take (k + 1) = ps.take k ++ [ps[k]] := List.take_succ_eq_append_getElem hkr
      have hpn : pcs (ps.take (k + 1)) s = pcs (ps.take k) s ++ [(ps[k], (leftP (ps.take k) s).take (lenP ps[k]).toNat)] := by rw [hts, pcs_append]; rfl
      have hln : leftP (ps.take (k + 1)) s = (leftP (ps.take k) s).drop (lenP ps[k]).toNat := by rw [hts, leftP_snoc]
      have hSp : ∃ rest, pcs ps s = (pcs (ps.take k) s ++ [(ps[k], (leftP (ps.take k) s).take (lenP ps[k]).toNat)]) ++ rest := by
        rw [← hpn]
        refine ⟨pcs (ps.drop (k + 1)) (leftP (ps.take (k + 1)) s), ?_⟩
        rw [← pcs_append, List.take_append_drop]
      generalize ps[k] = q at *
      generalize leftP (ps.take k) s = T at *
      obtain ⟨K, D, U⟩ := q
      have hlen : lenP ⟨K, D, U⟩ = K + D := rfl
      rw [hlen] at f3 hpn hln hSp
      simp only at f1 f2 g0 g1 g2
      obtain ⟨m, hm⟩ : ∃ m : Nat, K + D = m := ⟨(K + D).toNat, by omega⟩
      have hm' : (K + D).toNat = m := by omega
      rw [hm'] at hpn hln hSp
      rw [hm] at f3
      have hwm : IntKind.i64.wrap (K + D) = (m : Int) := by rw [IntKind.wrap_i64]; omega
      have hmT : m ≤ T.length := by omega
      have hmi : (m : Int) ≤ (T.length : Int) := by omega
      have hm0 : (0 : Int) ≤ (m : Int) := by omega
      have e1 := cut_head T m
      have e2 := cut_tail T m
      have HJP : Hid (J (pcs (ps.take k) s) wr) := hjp
      have HSP : Hid (∃ rest, pcs ps s = (pcs (ps.take k) s ++ [(⟨K, D, U⟩, T.take m)]) ++ rest) := hSp
      have HPN : Hid (pcs (ps.take (k + 1)) s = pcs (ps.take k) s ++ [(⟨K, D, U⟩, T.take m)]) := hpn
      have HLN : Hid (leftP (ps.take (k + 1)) s = T.drop m) := hln
      have HKEEP : Hid (∀ x, R x → wr.heap[x]? = W.heap[x]?) := hkeep
      clear hcell c0 c1 c2 hts hpn hln hSp hjp hlen hkb hkeep hm' f3 hll hs9 hm
      have hbA : Below wr.heap.size wr (wr.alloc (.cells #[.int .i64 K, .int .i64 D, .string ⟨U.toArray⟩] 151)).drew := ((Below.refl _ _).alloc (Nat.le_refl _) _).drew
      obtain ⟨fn, tmps, assign, body, hyy, hRd⟩ := hR (pcs (ps.take k) s) (⟨K, D, U⟩, T.take m) _ (hJ _ _ _ HJP.out ⟨hbA, hsz⟩) HSP.out
      unfold partV at hyy
      gi_wp2
      have hRd2 := hRd.mono (fun e A' HH => (⟨HH, by rcases HH with ⟨rfl, _⟩ | ⟨rfl, _⟩; exact ⟨true, rfl⟩; exact ⟨false, rfl⟩⟩ : _ ∧ ∃ bb : Bool, e = .returned (.bool bb)))
      gi_region_with (first | (refine ⟨rfl, hRd2.mono ?_⟩; rintro e A' ⟨HH, bb, rfl⟩))
      all_goals
        have hcase : (bb = true ∧ J (pcs (ps.take k) s ++ [(⟨K, D, U⟩, T.take m)]) A' ∧ wr.heap.size ≤ A'.heap.size ∧ ∀ x, R x → A'.heap[x]? = wr.heap[x]?) ∨ (bb = false ∧ Jx (pcs (ps.take k) s ++ [(⟨K, D, U⟩, T.take m)]) A') := by
          rcases HH with ⟨e1, e2, e3, e4⟩ | ⟨e1, e2, _⟩
          · simp only [Ending.returned.injEq, Value.bool.injEq] at e1
            refine .inl ⟨e1, e2, Nat.le_trans hbA.size e3, fun x hx => (e4 x hx).trans ?_⟩
            have hxl : x < wr.heap.size := by
              rcases Nat.lt_or_ge x wr.heap.size with h | h
              · exact h
              · exact absurd (HRL.out x hx) (by have := hsz; omega)
            exact hbA.block x hxl
          · simp only [Ending.returned.injEq, Value.bool.injEq] at e1
            exact .inr ⟨e1, e2⟩
        clear HH hRd hRd2 hyy
        rcases hcase with ⟨rfl, hj2, hs2, hk2⟩ | ⟨rfl, hjx⟩
        · have HJ2 : Hid (J (pcs (ps.take (k + 1)) s) A') := by show J _ _; rw [HPN.out]; exact hj2
          have HK2 : Hid (∀ x, R x → A'.heap[x]? = W.heap[x]?) := fun x hx => (hk2 x hx).trans (HKEEP.out x hx)
          have hs3 : W.heap.size ≤ A'.heap.size := Nat.le_trans hsz hs2
          clear hj2 hk2 g0 g1 g2 hbA
          gi_wp2
          go_roundw
          case rel => exact ⟨k + 1, by omega, by go_num, by rw [HLN.out], hs3, HK2.out, HJ2.out⟩
          case measure => simp [intOf]; omega
        · have HJX : Hid (Jx (pcs (ps.take k) s ++ [(⟨K, D, U⟩, T.take m)]) A') := hjx
          clear hjx g0 g1 g2 hbA
          gi_wp2
          refine bodyPost_ret (results_none rfl _ _ _) rfl ?_
          exact ⟨⟨_, rfl⟩, .inr ⟨_, HSP.out, HJX.out⟩⟩
    · have e : ps.take k = ps := List.take_of_length_le (by rw [← HN.out]; omega)
      rw [e] at hjp
      have HJ : Hid (J (pcs ps s) wr) := hjp
      clear e hjp R3 HF
      gi_wp2
      go_end0
      exact ⟨⟨_, rfl⟩, .inl ⟨_, rfl, HJ.out⟩⟩
end Go.Proofs.YtgmgkbbnciglhaaDoor

namespace Go.Proofs
open Go.Shelf
def Tryd.lays196_ren : Go.Shelf.Ren := ⟨fun | 196 => 96 | 259 => 133 | n => n, fun | 0 => 0 | 3 => 3 | 4 => 4 | 5 => 5 | 9 => 9 | 12 => 12 | 46 => 61 | 53 => 211 | 119 => 195 | 138 => 197 | 139 => 198 | n => n, fun | 3 => 0 | 4 => 1 | n => n⟩
theorem Tryd.lays196 : Go.Proofs.Lays.n196 Tryd.prog Tryd.lays196_ren := {
  mixed := by kernel_rfl
  f196 := Tryd.func96.trans (congrArg some (by kernel_rfl))
  f259 := Tryd.func133.trans (congrArg some (by kernel_rfl))
  t0 := Tryd.underlying0
  a0 := Tryd.isAgg0
  z0 := Tryd.sizeOf0
  v0 := Tryd.zeroValue0
  t3 := Tryd.underlying3
  a3 := Tryd.isAgg3
  z3 := Tryd.sizeOf3
  v3 := Tryd.zeroValue3
  t4 := Tryd.underlying4
  a4 := Tryd.isAgg4
  z4 := Tryd.sizeOf4
  v4 := Tryd.zeroValue4
  t5 := Tryd.underlying5
  a5 := Tryd.isAgg5
  z5 := Tryd.sizeOf5
  v5 := Tryd.zeroValue5
  t9 := Tryd.underlying9
  a9 := Tryd.isAgg9
  z9 := Tryd.sizeOf9
  v9 := Tryd.zeroValue9
  t12 := Tryd.underlying12
  a12 := Tryd.isAgg12
  z12 := Tryd.sizeOf12
  v12 := Tryd.zeroValue12
  t46 := Tryd.underlying61
  a46 := Tryd.isAgg61
  z46 := Tryd.sizeOf61
  v46 := Tryd.zeroValue61
  t53 := Tryd.underlying211
  a53 := Tryd.isAgg211
  z53 := Tryd.sizeOf211
  v53 := Tryd.zeroValue211
  t119 := Tryd.underlying195
  a119 := Tryd.isAgg195
  z119 := Tryd.sizeOf195
  t138 := Tryd.underlying197
  a138 := Tryd.isAgg197
  z138 := Tryd.sizeOf197
  v138 := Tryd.zeroValue197
  t139 := Tryd.underlying198
  a139 := Tryd.isAgg198
  z139 := Tryd.sizeOf198
  v139 := Tryd.zeroValue198
  g3 := by kernel_rfl
  g4 := by kernel_rfl }
end Go.Proofs
namespace Go.Proofs.YtgmgkbbnciglhaaDoor
open Go.RowKit

/-- The library's own word for a sound text is ours. -/
theorem valid_scan (n : Nat) : ∀ (l : List UInt8), l.length ≤ n → Lib.validGoD n l = (scan l).2 := by
  induction n with
  | zero =>
    intro l hl
    have : l = [] := List.eq_nil_of_length_eq_zero (by omega)
    subst this
    rfl
  | succ n ih =>
    intro l hl
    unfold Lib.validGoD
    by_cases hne : l = []
    · subst hne; rfl
    · rw [if_neg hne]
      have hd : Lib.decodeL l = dec l := by
        have := decode_dec ⟨l.toArray⟩ 0
        rw [List.drop_zero] at this
        rw [← this]
        unfold Lib.decodeL
        congr 1
        apply ByteArray.ext
        simp
      rw [hd]
      by_cases hb : badB (dec l) = true
      · rw [scan_bad hne hb, if_pos (badB_true hb)]
      · have hb' : badB (dec l) = false := Bool.eq_false_iff.2 hb
        rw [scan_good hne hb', if_neg (by intro h; exact hb (by unfold badB; simp [h])), ih]
        have h1 := dec_ge1 l
        rw [List.length_drop]
        omega

theorem ValidString_any (s : ByteArray) (w : World) (hs : s.size ≤ 9223372036854775807) (hT : Lib.Utf8Tabs 0 1 w) :
    Calls Tryd.prog 96 #[.string s] w fun e w' => e = .returned (.bool (scan s.data.toList).2) ∧ Below w.heap.size w w' := by
  have := Any.utf8_ValidString Tryd.lays196 s w hs hT
  rwa [show Lib.validD s.data.toList = (scan s.data.toList).2 from valid_scan _ _ (Nat.le_refl _)] at this
end Go.Proofs.YtgmgkbbnciglhaaDoor

namespace Go.Proofs.YtgmgkbbnciglhaaDoor
open Go.RowKit
set_option linter.unusedVariables false

def oneB (p : Pt) : Bool := if p.drop = 0 ∧ p.put = [] then decide (0 < p.keep) else if p.keep = 0 ∧ p.put = [] then decide (0 < p.drop) else decide (p.keep = 0 ∧ p.drop = 0)
def chk1 : List Pt → Int
  | [] => 0
  | p :: ps => if oneB p then (if (scan p.put).2 then chk1 ps else 3) else 1
def chk2 : List Pt → Int → Int
  | [], n => if n = 0 then 0 else 2
  | p :: ps, n => if n < p.keep + p.drop then 2 else chk2 ps (n - (p.keep + p.drop))
def chkE (ps : List Pt) (n : Int) : Int := if chk1 ps = 0 then chk2 ps n else chk1 ps

set_option maxHeartbeats 1000000 in
theorem isOne_any (p : Pt) (w : World) : Calls Tryd.prog 95 #[partV p] w fun e w' => e = .returned (.bool (oneB p)) ∧ Below w.heap.size w w' := by
  obtain ⟨k, d, q⟩ := p
  have cK := isKeep_any ⟨k, d, q⟩
  have cD := isDrop_any ⟨k, d, q⟩
  unfold oneB
  unfold partV at *
  simp only at cK cD ⊢
  by_cases hq : q = []
  · subst hq
    by_cases hd : d = 0
    · subst hd
      go_enter Tryd.func95, Tryd.ntmps95
      go_wp2_with (first | (go_at_call 101; refine (cK _).mono ?_; rintro e w1 ⟨rfl, hb1⟩) | fail)
      go_ret
      exact ⟨by simp, ((Below.refl _ _).alloc (Nat.le_refl _) _).trans (hb1.mono (by simp))⟩
    · have hdb : (d == 0) = false := beq_eq_false_iff_ne.2 hd
      by_cases hk : k = 0
      · subst hk
        go_enter Tryd.func95, Tryd.ntmps95
        go_wp2_with (first | (go_at_call 102; refine (cD _).mono ?_; rintro e w1 ⟨rfl, hb1⟩) | fail)
        go_ret
        exact ⟨by simp, ((Below.refl _ _).alloc (Nat.le_refl _) _).trans (hb1.mono (by simp))⟩
      · have hkb : (k == 0) = false := beq_eq_false_iff_ne.2 hk
        go_enter Tryd.func95, Tryd.ntmps95
        go_wp2
        go_ret
        exact ⟨by simp, (Below.refl _ _).alloc (Nat.le_refl _) _⟩
  · have ho : (if d = 0 ∧ q = [] then decide (0 < k) else if k = 0 ∧ q = [] then decide (0 < d) else decide (k = 0 ∧ d = 0)) = decide (k = 0 ∧ d = 0) := by simp [hq]
    rw [ho]
    clear ho
    have HD : Hid (decide (k = 0 ∧ d = 0) = (k == 0 && d == 0)) := by show _ = _; by_cases h1 : k = 0 <;> by_cases h2 : d = 0 <;> simp [h1, h2]
    rw [HD.out]
    by_cases hd : d = 0
    · subst hd
      by_cases hk : k = 0
      · subst hk
        go_enter Tryd.func95, Tryd.ntmps95
        go_wp2
        go_ret
        exact ⟨rfl, (Below.refl _ _).alloc (Nat.le_refl _) _⟩
      · have hkb : (k == 0) = false := beq_eq_false_iff_ne.2 hk
        go_enter Tryd.func95, Tryd.ntmps95
        go_wp2
        go_ret
        exact ⟨rfl, (Below.refl _ _).alloc (Nat.le_refl _) _⟩
    · have hdb : (d == 0) = false := beq_eq_false_iff_ne.2 hd
      by_cases hk : k = 0
      · subst hk
        go_enter Tryd.func95, Tryd.ntmps95
        go_wp2
        go_ret
        exact ⟨rfl, (Below.refl _ _).alloc (Nat.le_refl _) _⟩
      · have hkb : (k == 0) = false := beq_eq_false_iff_ne.2 hk
        go_enter Tryd.func95, Tryd.ntmps95
        go_wp2
        go_ret
        exact ⟨by rw [hkb]; rfl, (Below.refl _ _).alloc (Nat.le_refl _) _⟩

def wfP (p : Pt) : Prop := -9223372036854775808 ≤ p.keep ∧ p.keep < 9223372036854775808 ∧ -9223372036854775808 ≤ p.drop ∧ p.drop < 9223372036854775808 ∧ p.put.length < 1000000000000

theorem one_sound {p : Pt} (h : oneB p = true) : soundP p ∧ (p.keep = 0 ∨ p.drop = 0) := by
  unfold oneB at h
  unfold soundP
  split at h
  · rename_i h1
    have := of_decide_eq_true h
    exact ⟨⟨by omega, by omega⟩, .inr h1.1⟩
  · split at h
    · rename_i h1
      have := of_decide_eq_true h
      exact ⟨⟨by omega, by omega⟩, .inl h1.1⟩
    · have := of_decide_eq_true h
      exact ⟨⟨by omega, by omega⟩, .inl this.1⟩

theorem chk1_ones {ps : List Pt} (h : chk1 ps = 0) : ∀ p ∈ ps, oneB p = true ∧ (scan p.put).2 = true := by
  induction ps with
  | nil => simp
  | cons p ps ih =>
    unfold chk1 at h
    split at h
    · rename_i h1
      split at h
      · rename_i h2
        intro q hq
        rcases List.mem_cons.1 hq with rfl | hq
        · exact ⟨h1, h2⟩
        · exact ih h q hq
      · cases h
    · cases h

set_option maxRecDepth 100000 in
set_option maxHeartbeats 4000000 in
theorem Check_any (v : Value) (ps : List Pt) (N : Int) (w : World) (hT : Lib.Utf8Tabs 0 1 w) (hr : opAt w v ps) (hwf : ∀ p ∈ ps, wfP p) (hN : -9223372036854775808 ≤ N ∧ N < 9223372036854775808) (hl : ps.length < 10000000) :
    Calls Tryd.prog 43 #[v, .int .i64 N] w fun e w' => e = .returned (errV (chkE ps N)) ∧ Below w.heap.size w w' := by
  obtain ⟨p, c, rfl, r1, r2, r3⟩ := hr
  obtain ⟨n, hn⟩ : ∃ n, n = ps.length := ⟨_, rfl⟩
  rw [← hn] at r1 hl ⊢
  have HN : Hid (n = ps.length) := hn
  clear hn
  have R3 : Hid (ps ≠ [] → ∃ b o, p = some ⟨b, o, none⟩ ∧ b < w.heap.size ∧ ∀ i q, ps[i]? = some q →
    w.cell? ⟨b, o + i * 3, none⟩ = some (.int .i64 q.keep) ∧ w.cell? ⟨b, o + i * 3 + 1, none⟩ = some (.int .i64 q.drop) ∧ w.cell? ⟨b, o + i * 3 + 2, none⟩ = some (.string ⟨q.put.toArray⟩)) := r3
  have HWF : Hid (∀ p ∈ ps, wfP p) := hwf
  have HT : Hid (Lib.Utf8Tabs 0 1 w) := hT
  obtain ⟨hN0, hN1⟩ := hN
  clear r3 hwf hT
  go_enter Tryd.func43, Tryd.ntmps43
  go_wp2
  go_loopw [11] (fun i wr => ∃ (k : Nat), k ≤ n ∧ i = .int .i64 k ∧ chk1 ps = chk1 (ps.drop k) ∧ Below w.heap.size w wr) (fun i _ => n - (intOf i).toNat)
  case atStart => exact ⟨0, Nat.zero_le _, rfl, rfl, Below.refl _ _⟩
  case round =>
    obtain ⟨k, hk, rfl, hch, hwr⟩ := hrel
    by_cases hlt : k < n
    · have hkr : k < ps.length := by rw [← HN.out]; exact hlt
      have hne : ps ≠ [] := by intro e; rw [e] at hkr; exact absurd hkr (Nat.not_lt_zero _)
      obtain ⟨b, o, rfl, hbw, hcell⟩ := R3.out hne
      obtain ⟨c0, c1, c2⟩ := hcell k ps[k] (List.getElem?_eq_getElem hkr)
      have g0 := (hwr.cell (p := ⟨b, o + k * 3, none⟩) hbw).trans c0
      have g1 := (hwr.cell (p := ⟨b, o + k * 3 + 1, none⟩) hbw).trans c1
      have g2 := (hwr.cell (p := ⟨b, o + k * 3 + 2, none⟩) hbw).trans c2
      rw [List.drop_eq_getElem_cons hkr, chk1] at hch
      have hwq := HWF.out ps[k] (List.getElem_mem _)
      generalize ps[k] = q at *
      have hsize := hwr.size
      have HWR : Hid (Below w.heap.size w wr) := hwr
      have hb0 : Below wr.heap.size wr (wr.alloc (.cells #[.int .i64 q.keep, .int .i64 q.drop, .string ⟨q.put.toArray⟩] 151)) := (Below.refl _ _).alloc (Nat.le_refl _) _
      have HB0 : Hid (Below w.heap.size w (wr.alloc (.cells #[.int .i64 q.keep, .int .i64 q.drop, .string ⟨q.put.toArray⟩] 151))) := hwr.trans (hb0.mono hsize)
      have x2 : (wr.alloc (.cells #[.int .i64 q.keep, .int .i64 q.drop, .string ⟨q.put.toArray⟩] 151)).cell? ⟨wr.heap.size, 2, none⟩ = some (.string ⟨q.put.toArray⟩) := by simp [go_sem]
      have X2 : Hid _ := x2
      have cO := isOne_any q
      unfold partV at cO
      have cV : Hid (∀ wx, Below w.heap.size w wx → Calls Tryd.prog 96 #[.string ⟨q.put.toArray⟩] wx fun e w' => e = .returned (.bool (scan q.put).2) ∧ Below wx.heap.size wx w') := fun wx hb =>
        ValidString_any ⟨q.put.toArray⟩ wx (by have := hwq.2.2.2.2; simp [ByteArray.size]; omega) (Go.Proofs.Utf8Tabs_below HT.out hb)
      by_cases h1 : oneB q = true
      · rw [if_pos h1] at hch
        rw [h1] at cO
        by_cases h2 : (scan q.put).2 = true
        · rw [if_pos h2] at hch
          rw [h2] at cV
          have HCH : Hid (chk1 ps = chk1 (ps.drop (k + 1))) := hch
          clear hcell c0 c1 c2 hch hwq hwr hb0 x2 HWF h1 h2
          go_wp2_with (first | (go_at_call 95; refine (cO _).mono ?_; rintro e w1 ⟨rfl, hb1⟩; have HB1 : Hid (Below w.heap.size w w1) := HB0.out.trans (hb1.mono HB0.out.size); have hc2 := (hb1.cell (p := ⟨wr.heap.size, 2, none⟩) (by simp)).trans X2.out; clear hb1) | (go_at_call 96; refine (cV.out _ HB1.out).mono ?_; rintro e w2 ⟨rfl, hb2⟩; have HB2 : Hid (Below w.heap.size w w2) := HB1.out.trans (hb2.mono HB1.out.size); clear hb2) | fail)
          go_roundw
          case rel => exact ⟨k + 1, by omega, by go_num, HCH.out, HB2.out⟩
          case measure => simp [intOf]; omega
        · have h2 : (scan q.put).2 = false := Bool.eq_false_iff.2 h2
          rw [h2] at hch cV
          have HCH : Hid (chk1 ps = 3) := by show chk1 ps = 3; simpa using hch
          clear hcell c0 c1 c2 hch hwq hwr hb0 x2 HWF h1 h2
          go_wp2_with (first | (go_at_call 95; refine (cO _).mono ?_; rintro e w1 ⟨rfl, hb1⟩; have HB1 : Hid (Below w.heap.size w w1) := HB0.out.trans (hb1.mono HB0.out.size); have hc2 := (hb1.cell (p := ⟨wr.heap.size, 2, none⟩) (by simp)).trans X2.out; clear hb1) | (go_at_call 96; refine (cV.out _ HB1.out).mono ?_; rintro e w2 ⟨rfl, hb2⟩; have HB2 : Hid (Below w.heap.size w w2) := HB1.out.trans (hb2.mono HB1.out.size); clear hb2) | fail)
          go_ret
          refine ⟨?_, HB2.out⟩
          unfold chkE
          rw [HCH.out]
          rfl
      · have h1 : oneB q = false := Bool.eq_false_iff.2 h1
        rw [h1] at hch cO
        have HCH : Hid (chk1 ps = 1) := by show chk1 ps = 1; simpa using hch
        clear hcell c0 c1 c2 hch hwq hwr hb0 x2 HWF h1
        go_wp2_with (first | (go_at_call 95; refine (cO _).mono ?_; rintro e w1 ⟨rfl, hb1⟩; have HB1 : Hid (Below w.heap.size w w1) := HB0.out.trans (hb1.mono HB0.out.size); clear hb1) | fail)
        go_ret
        refine ⟨?_, HB1.out⟩
        unfold chkE
        rw [HCH.out]
        rfl
    · have e : ps.drop k = [] := List.drop_of_length_le (by rw [← HN.out]; omega)
      rw [e] at hch
      have H0 : Hid (chk1 ps = 0) := hch
      have HWR : Hid (Below w.heap.size w wr) := hwr
      have HON : Hid (∀ p ∈ ps, soundP p ∧ (p.keep = 0 ∨ p.drop = 0)) := fun p hp => one_sound (chk1_ones hch p hp).1
      clear e hch hwr
      go_wp2
      go_loopw [1, 27] (fun m i wr => ∃ (k : Nat) (M : Int), k ≤ n ∧ i = .int .i64 k ∧ m = .int .i64 M ∧ -9223372036854775808 ≤ M ∧ M < 9223372036854775808 ∧ chk2 ps N = chk2 (ps.drop k) M ∧ Below w.heap.size w wr) (fun _ i _ => n - (intOf i).toNat)
      case atStart => exact ⟨0, N, Nat.zero_le _, rfl, rfl, hN0, hN1, rfl, HWR.out⟩
      case round =>
        obtain ⟨k, M, hk, rfl, rfl, hM0, hM1, hch, hwr⟩ := hrel
        by_cases hlt : k < n
        · have hkr : k < ps.length := by rw [← HN.out]; exact hlt
          have hne : ps ≠ [] := by intro e; rw [e] at hkr; exact absurd hkr (Nat.not_lt_zero _)
          obtain ⟨b, o, rfl, hbw, hcell⟩ := R3.out hne
          obtain ⟨c0, c1, c2⟩ := hcell k ps[k] (List.getElem?_eq_getElem hkr)
          have g0 := (hwr.cell (p := ⟨b, o + k * 3, none⟩) hbw).trans c0
          have g1 := (hwr.cell (p := ⟨b, o + k * 3 + 1, none⟩) hbw).trans c1
          have g2 := (hwr.cell (p := ⟨b, o + k * 3 + 2, none⟩) hbw).trans c2
          rw [List.drop_eq_getElem_cons hkr, chk2] at hch
          have hwq := HWF.out ps[k] (List.getElem_mem _)
          have hon := HON.out ps[k] (List.getElem_mem _)
          generalize ps[k] = q at *
          obtain ⟨⟨s0, s1⟩, s2⟩ := hon
          have hsum0 : 0 ≤ q.keep + q.drop := by omega
          have hsum1 : q.keep + q.drop < 9223372036854775808 := by have := hwq.2.1; have := hwq.2.2.2.1; omega
          have hw1 : IntKind.i64.wrap (q.keep + q.drop) = q.keep + q.drop := by rw [IntKind.wrap_i64]; omega
          have HB0 : Hid (Below w.heap.size w (wr.alloc (.cells #[.int .i64 q.keep, .int .i64 q.drop, .string ⟨q.put.toArray⟩] 151))) := hwr.alloc hwr.size _
          by_cases h1 : M < q.keep + q.drop
          · rw [if_pos h1] at hch
            have HCH : Hid (chk2 ps N = 2) := hch
            clear hcell c0 c1 c2 hch hwq hwr HWF s2
            go_wp2
            go_ret
            refine ⟨?_, HB0.out⟩
            unfold chkE
            rw [if_pos H0.out, HCH.out]
            rfl
          · rw [if_neg h1] at hch
            have HCH : Hid (chk2 ps N = chk2 (ps.drop (k + 1)) (M - (q.keep + q.drop))) := hch
            have hw2 : IntKind.i64.wrap (M - (q.keep + q.drop)) = M - (q.keep + q.drop) := by rw [IntKind.wrap_i64]; omega
            clear hcell c0 c1 c2 hch hwq hwr HWF s2
            go_wp2
            go_roundw
            case rel => exact ⟨k + 1, M - (q.keep + q.drop), by omega, by go_num, by first | rfl | go_num, by omega, by omega, HCH.out, HB0.out⟩
            case measure => simp [intOf]; omega
        · have e : ps.drop k = [] := List.drop_of_length_le (by rw [← HN.out]; omega)
          rw [e, chk2] at hch
          have HX : Hid (Below w.heap.size w wr) := hwr
          by_cases h0 : M = 0
          · rw [if_pos h0] at hch
            subst h0
            have HCH : Hid (chk2 ps N = 0) := hch
            clear e hch hwr
            go_wp2
            go_ret
            refine ⟨?_, HX.out⟩
            unfold chkE
            rw [if_pos H0.out, HCH.out]
            rfl
          · rw [if_neg h0] at hch
            have hmb : (M == 0) = false := beq_eq_false_iff_ne.2 h0
            have HCH : Hid (chk2 ps N = 2) := hch
            clear e hch hwr
            go_wp2
            go_ret
            refine ⟨?_, HX.out⟩
            unfold chkE
            rw [if_pos H0.out, HCH.out]
            rfl
end Go.Proofs.YtgmgkbbnciglhaaDoor
