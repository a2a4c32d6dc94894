/-
  rope.between, of no trees: a text in chunks.
  rope's New, tree, Counts: of a sound text.
  rope.chain: two trees' chunks in one.
  utf.each, where the closure may say no: how far it comes.
  utf.Walk: what its iterator does with the rounds of a loop.
  rope.within: as few of a chunk's runes as are enough.
  rope.split: a tree in two.
  rope.split: a tree in two: within a chunk; all of it.
  rope.until: as few runes of a tree as are enough.
  utf.In, rope's isUnit, and the closures of Ahead and Line.
  rope's Ahead and Line.
  rope's Ahead, of a unit, at a place that there is.
  pos.Convert at a place that there is.
  Operations as lists: what a gathering keeps, and gap by gap: both come to the same least form.
  The closures of ops.gather: parts are added, told, and in the end there.
  ops.gather's add and done, and ops.isKeep, isDrop, isPut, walked.
  ops.Norm of any operation that is not too great: its least form.
  Lens, the program's and the document's; whether an operation is small; whether two are the same.
  The document's Spread: an operation as gaps.
  bridge.steps, and what it tells, by runes.
-/
import Derived.Test.YtldhbjmillfjgabGreatDoorPartB
import Derived.Test.YtldhbjmillfjgabGreatDoorPartA
import Derived.OwnWalkIn
import Derived.TacticsInMore
import Derived.LoopNIn
import Derived.LoopIn
import Derived.RangeFuncRecord
import Derived.Test.YtldhbjmillfjgabGreatDoorProg
import Derived.Lib.AppendStr
import Derived.Laws.OwnMore
import Derived.Maps.AppendAt
import Derived.Laws.EntriesVeiled
import Derived.Deep.RegionWith
namespace Go.Proofs.YtldhbjmillfjgabGreatDoor
open Go.RowKit
set_option linter.unusedVariables false
attribute [local go_sem] Oper.semAt_some yieldsUpon okUpon

theorem okT_size : ∀ {l : List (List Nat)}, (∀ c ∈ l, okChunk c) → l.length ≤ l.flatten.length
  | [], _ => Nat.le_refl _
  | c :: l, h => by
    have h1 := (h c (List.mem_cons.2 (.inl rfl))).1
    have h2 := okT_size fun x hx => h x (List.mem_cons.2 (.inr hx))
    have : 1 ≤ c.length := by cases c with | nil => exact absurd rfl h1 | cons _ _ => simp
    rw [List.flatten_cons, List.length_append, List.length_cons]
    omega
theorem big_put {t : T} {x : List Nat} (h : okT t) (hx : okChunk x) (hz : C1 (t.runes ++ x) ≤ 100000000) : big (.node t x .nil) := by
  have e : (T.node t x .nil).runes = t.runes ++ x := by simp [T.runes]
  have h1 := okT_size (l := t.chunks ++ [x]) fun c hc => (List.mem_append.1 hc).elim (h.2 c) fun hc => by rw [List.mem_singleton] at hc; rw [hc]; exact hx
  have h3 := (C3_le (t.runes ++ x)).2
  unfold C3 at h3
  rw [List.flatten_append, ← runes_chunks, List.length_append, List.length_append, List.length_singleton] at h1
  simp only [List.flatten_cons, List.flatten_nil, List.append_nil] at h1
  rw [List.length_append] at h3
  refine ⟨by rw [e]; omega, ?_⟩
  simp only [T.size]
  rw [size_chunks]
  omega

theorem chain_nil (q : Option Addr) (w : World) : Calls Tryz.prog 117 #[.pointer q, .pointer none] w fun e w' => e = .returned (.pointer q) ∧ w' = w := by
  go_enter Tryz.func117, Tryz.ntmps117
  go_wp2
  go_ret
  exact ⟨rfl, rfl⟩

/-- The tree that grows, in its variable. -/
def grows (w W : World) (L sb R : Nat) (rs : List Nat) : Prop :=
  Below w.heap.size w W ∧ (∃ q t, W.cell? ⟨L, 0, none⟩ = some (.pointer q) ∧ W.frozen? ⟨L, 0, none⟩ = false ∧ isTree W q t ∧ okT t ∧ t.runes = rs) ∧ W.cell? ⟨sb, 5, none⟩ = none ∧ W.cell? ⟨R, 5, none⟩ = none ∧ W.cell? ⟨L, 5, none⟩ = none ∧ R < W.heap.size

theorem But.putObj (B : Nat) (A : World) (o : Obj) : But B A (A.putObj B o) := ⟨rfl, rfl, rfl, by simp, fun k _ h => World.putObj_heap_other h⟩
theorem But.frozen {B : Nat} {A A' : World} (h : But B A A') {b o : Nat} (hl : b < A.heap.size) (hb : b ≠ B) : A'.frozen? ⟨b, o, none⟩ = A.frozen? ⟨b, o, none⟩ :=
  World.frozen?_of_block (w := A) (a := ⟨b, o, none⟩) (h.block b hl hb)
theorem But.cellEq {B : Nat} {A A' : World} (h : But B A A') {b o : Nat} (hl : b < A.heap.size) (hb : b ≠ B) : A'.cell? ⟨b, o, none⟩ = A.cell? ⟨b, o, none⟩ :=
  World.cell?_of_block (w := A) (a := ⟨b, o, none⟩) (h.block b hl hb)
theorem none_loop {W : World} {k : Nat} {r : Loop} (h : W.heap[k]? = some (.loop r)) (o : Nat) : W.cell? ⟨k, o, none⟩ = none := by unfold World.cell?; simp [h]

theorem cellOn {A B : World} {b : Nat} (h : B.heap[b]? = A.heap[b]?) (o : Nat) : B.cell? ⟨b, o, none⟩ = A.cell? ⟨b, o, none⟩ := World.cell?_of_block (w := A) (a := ⟨b, o, none⟩) h
theorem frozenOn {A B : World} {b : Nat} (h : B.heap[b]? = A.heap[b]?) (o : Nat) : B.frozen? ⟨b, o, none⟩ = A.frozen? ⟨b, o, none⟩ := World.frozen?_of_block (w := A) (a := ⟨b, o, none⟩) h

theorem grows_put {w W w5 w6 : World} {q : Option Addr} {v : Value} {t : T} {rs : List Nat} (hW : Below w.heap.size w W) (hs : w.heap.size + 6 ≤ W.heap.size) (k1 : W.cell? ⟨w.heap.size, 0, none⟩ = some v) (k2 : W.frozen? ⟨w.heap.size, 0, none⟩ = false)
    (k6 : W.cell? ⟨w.heap.size + 3, 5, none⟩ = none) (k7 : W.cell? ⟨w.heap.size + 5, 5, none⟩ = none) (k8 : W.cell? ⟨w.heap.size, 5, none⟩ = none) (h5 : Below W.heap.size W w5) (ht : isTree w5 q t) (ho : okT t) (hr : t.runes = rs)
    (h6 : Below w5.heap.size (w5.setCell ⟨w.heap.size, 0, none⟩ (.pointer q)) w6) :
    Same2 (w.heap.size + 4) W w6 ∧ (W.heap.size ≤ w6.heap.size ∧ w6.heap[w.heap.size + 3]? = W.heap[w.heap.size + 3]?) ∧ grows w w6 w.heap.size (w.heap.size + 3) (w.heap.size + 5) rs := by
  have hB : But w.heap.size w5 (w5.setCell ⟨w.heap.size, 0, none⟩ (.pointer q)) := But.setCell (But.refl _ w5) (p := ⟨w.heap.size, 0, none⟩) rfl _
  have hsz : (w5.setCell ⟨w.heap.size, 0, none⟩ (.pointer q)).heap.size = w5.heap.size := by simp [World.setCell]
  have s5 := h5.size
  have s6 := h6.size
  have blk : ∀ k, k ≠ w.heap.size → k < W.heap.size → w6.heap[k]? = W.heap[k]? := fun k h1 h2 => (h6.block k (by omega)).trans ((hB.block k (by omega) h1).trans (h5.block k h2))
  have c1 : w5.cell? ⟨w.heap.size, 0, none⟩ = some v := (World.cell?_of_block (w := W) (a := ⟨w.heap.size, 0, none⟩) (h5.block w.heap.size (by omega))).trans k1
  have c5 : w5.cell? ⟨w.heap.size, 5, none⟩ = none := (World.cell?_of_block (w := W) (a := ⟨w.heap.size, 5, none⟩) (h5.block w.heap.size (by omega))).trans k8
  refine ⟨⟨blk _ (by omega) (by omega), blk _ (by omega) (by omega)⟩, ⟨by omega, blk _ (by omega) (by omega)⟩, ?_, ⟨q, t, ?_, ?_, isTree_below (by rw [hsz]; exact h6) (isTree_but hB c5 ht), ho, hr⟩, ?_, ?_, ?_, by omega⟩
  · exact hW.trans ((h5.mono (by omega)).trans ((hB.below (by omega)).trans (h6.mono (by omega))))
  · exact (cellOn (h6.block w.heap.size (by omega)) 0).trans (World.cell?_setCell_same' _ _ _ (by rw [c1]; rfl))
  · exact (frozenOn (h6.block w.heap.size (by omega)) 0).trans ((World.frozen?_setCell _ _ _ _).trans ((frozenOn (h5.block w.heap.size (by omega)) 0).trans k2))
  · exact (cellOn (blk (w.heap.size + 3) (by omega) (by omega)) 5).trans k6
  · exact (cellOn (blk (w.heap.size + 5) (by omega) (by omega)) 5).trans k7
  · exact (cellOn (h6.block w.heap.size (by omega)) 5).trans ((World.cell?_setCell_other (w := w5) ⟨w.heap.size, 0, none⟩ ⟨w.heap.size, 5, none⟩ _ (by simp)).trans c5)

set_option maxRecDepth 100000 in
set_option maxHeartbeats 2000000 in
theorem between_new (rs : List Nat) (hr : ∀ r ∈ rs, isRune r) (hz : (encs rs).length ≤ 100000000) (w : World) (hT : Lib.Utf8Tabs 2 3 w) :
    Calls Tryz.prog 60 #[.pointer none, .string (bytesOf rs), .pointer none] w fun e w' => ∃ q t, e = .returned (.pointer q) ∧ isTree w' q t ∧ okT t ∧ t.runes = rs ∧ Below w.heap.size w w' := by
  have hsz : (bytesOf rs).size ≤ 100000000 := by rw [bytesOf_size]; exact hz
  have hcat : ({ data := #[] } : ByteArray) ++ bytesOf rs ++ { data := #[] } = bytesOf rs := by apply ByteArray.ext; simp [ByteArray.data_append]
  have cP := fun wx => pieces_any (bytesOf rs) wx
  have HZ : Hid _ := hz
  have HR : Hid _ := hr
  clear hz hr
  have hB0 : Below w.heap.size w w := Below.refl _ w
  refine (callsIn_wide (n := 3)).1 ?_
  refine callsIn_of_wp_marks Tryz.func60 rfl trivial ?_ rfl
  simp only [Tryz.ntmps60, List.size_toArray, List.length_cons, List.length_nil, Nat.reduceAdd, Nat.reduceSub, Array.replicate_succ, Array.replicate_zero, List.push_toArray, List.append_toArray, List.nil_append, List.cons_append]
  gi_wp2_with (first
    | (refine ⟨trivial, ?_⟩; gi_at_call 114; refine (callsIn_wide.2 (cP _)).mono ?_; rintro e w13 ⟨rfl, rfl⟩)
    | fail)
  obtain ⟨W4, hW4⟩ : ∃ W4, W4 = (((w.alloc (Obj.cells #[Value.pointer none] 119)).alloc (Obj.cells #[Value.string { data := #[] }, Value.int IntKind.i64 0, Value.int IntKind.i64 0, Value.int IntKind.i64 0, Value.int IntKind.i64 0] 194)).alloc (Obj.cells #[Value.string { data := #[] }, Value.int IntKind.i64 0, Value.int IntKind.i64 0, Value.int IntKind.i64 0, Value.int IntKind.i64 0] 194)).alloc (.cells #[.string (bytesOf rs)] 9) := ⟨_, rfl⟩
  have hb4 : Below w.heap.size w W4 := by rw [hW4]; exact ((((Below.refl _ w).alloc (Nat.le_refl _) _).alloc (by simp) _).alloc (by simp; omega) _).alloc (by simp; omega) _
  have hs4 : W4.heap.size = w.heap.size + 4 := by rw [hW4]; simp
  have cl : W4.cell? ⟨w.heap.size, 0, none⟩ = some (.pointer none) := by rw [hW4]; simp [go_sem]
  have fl : W4.frozen? ⟨w.heap.size, 0, none⟩ = false := by rw [hW4]; simp [go_sem]
  have cl5 : W4.cell? ⟨w.heap.size, 5, none⟩ = none := by rw [hW4]; simp [go_sem]
  have cs : W4.cell? ⟨w.heap.size + 3, 0, none⟩ = some (.string (bytesOf rs)) := by rw [hW4]; simp [go_sem]
  have fs : W4.frozen? ⟨w.heap.size + 3, 0, none⟩ = false := by rw [hW4]; simp [go_sem]
  have cs5 : W4.cell? ⟨w.heap.size + 3, 5, none⟩ = none := by rw [hW4]; simp [go_sem]
  rw [← hW4]
  clear hW4 hcat cP
  refine wp_range_own (gf := 160) (lb := #[.pointer (some ⟨w.heap.size + 3, 0, none⟩)]) rfl (enters_of Tryz.func160 (by kernel_rfl) rfl) (encs := fun _ (x : List Nat) => #[.string (bytesOf x)]) (fun _ _ => rfl)
    (It := fun A B => (∃ v, B = A.setCell ⟨w.heap.size + 3, 0, none⟩ v) ∧ w.heap.size + 6 ≤ A.heap.size) (Kp := fun A B => A.heap.size ≤ B.heap.size ∧ B.heap[w.heap.size + 3]? = A.heap[w.heap.size + 3]?) (Z := fun _ => True) (S := fun xs => xs.flatten = rs ∧ ∀ x ∈ xs, okChunk x) (Sp := fun pre => (∃ rest, rs = pre.flatten ++ rest) ∧ ∀ x ∈ pre, okChunk x)
    ?seq ?its (fun h k => ⟨Nat.le_trans h.1 k.1, k.2.trans h.2⟩) ?hkb
    (fun pre W => grows w W w.heap.size (w.heap.size + 3) (w.heap.size + 5) pre.flatten) (fun _ _ _ => False) (fun _ _ _ => trivial) (fun _ _ _ h => h.elim) ?ii ?ib (fun _ _ _ _ h _ => h) (fun _ _ _ _ h => h) ?h0 ?round ?done (fun _ _ _ _ h => h.elim)
  case seq =>
    intro W hs1 hb1
    rw [hs4] at hs1 hb1
    have := pieces_seq rs HR.out (by have := HZ.out; omega) (fun _ => True) (w.heap.size + 3) W ((hb1.cell (p := ⟨w.heap.size + 3, 0, none⟩) (by show w.heap.size + 3 < _; omega)).trans cs) ((hb1.frozen (p := ⟨w.heap.size + 3, 0, none⟩) (by show w.heap.size + 3 < _; omega)).trans fs)
    rw [hs1] at this
    exact this
  case its =>
    rintro A B ⟨⟨v, rfl⟩, h⟩
    rw [hs4]
    exact (Same2.refl _ A).setCell (by show w.heap.size + 3 ≠ _; omega) (by show w.heap.size + 3 ≠ _; omega) v
  case hkb =>
    intro A r
    rw [hs4]
    exact ⟨by simp, World.putObj_heap_other (by omega)⟩
  case ii =>
    rintro pre A B ⟨hb, ⟨q, t, h1, h2, h3, h4, h5⟩, h6, h7, h8, h9⟩ ⟨⟨v, rfl⟩, hA⟩
    have hB : But (w.heap.size + 3) A (A.setCell ⟨w.heap.size + 3, 0, none⟩ v) := But.setCell (But.refl _ A) (p := ⟨w.heap.size + 3, 0, none⟩) rfl v
    exact ⟨hb.setCell (by show w.heap.size ≤ w.heap.size + 3; omega) v, ⟨q, t, hB.cell (by omega) h1, (hB.frozen (by omega) (by omega)).trans h2, isTree_but hB h6 h3, h4, h5⟩, ((World.cell?_setCell_other (w := A) ⟨w.heap.size + 3, 0, none⟩ ⟨w.heap.size + 3, 5, none⟩ v (by simp)).trans h6), (hB.cellEq (by omega) (by omega)).trans h7, (hB.cellEq (by omega) (by omega)).trans h8, by simpa [World.setCell] using h9⟩
  case ib =>
    rintro pre A r ⟨hb, ⟨q, t, h1, h2, h3, h4, h5⟩, h6, h7, h8, h9⟩
    rw [hs4]
    have hB := But.putObj (w.heap.size + 5) A (.loop r)
    exact ⟨hb.trans (hB.below (by omega) |>.mono (by omega)), ⟨q, t, hB.cell (by omega) h1, (hB.frozen (by omega) (by omega)).trans h2, isTree_but hB h7 h3, h4, h5⟩, (hB.cellEq (by omega) (by omega)).trans h6, none_loop (World.putObj_heap_same h9) 5, (hB.cellEq (by omega) (by omega)).trans h8, by simpa using h9⟩
  case h0 =>
    rintro W hs hb ⟨r, hr⟩
    rw [hs4] at hs hb hr
    exact ⟨hb4.trans (hb.mono (by omega)), ⟨none, .nil, (hb.cell (p := ⟨w.heap.size, 0, none⟩) (by show w.heap.size < _; omega)).trans cl, (hb.frozen (p := ⟨w.heap.size, 0, none⟩) (by show w.heap.size < _; omega)).trans fl, rfl, okT_nil, rfl⟩, (hb.cell (p := ⟨w.heap.size + 3, 5, none⟩) (by show w.heap.size + 3 < _; omega)).trans cs5, none_loop hr 5, (hb.cell (p := ⟨w.heap.size, 5, none⟩) (by show w.heap.size < _; omega)).trans cl5, by omega⟩
  case round =>
    rintro l pre x W hI hlW hSp
    rw [hs4] at hlW ⊢
    obtain ⟨hb, ⟨q, t, h1, h2, h3, h4, h5⟩, h6, h7, h8, h9⟩ := hI
    obtain ⟨⟨rest, hrs⟩, hxo⟩ := hSp
    have hx : okChunk x := hxo x (by simp)
    have HX : Hid (okChunk x) := hx
    have HL : Hid (C1 (pre.flatten ++ x) ≤ 100000000) := by
      show _ ≤ _
      have := HZ.out
      rw [hrs, encs_append, List.length_append] at this
      rw [C1_len]
      simp only [List.flatten_append, List.flatten_cons, List.flatten_nil, List.append_nil] at this
      omega
    have HBG : Hid (big (.node t x .nil)) := big_put h4 hx (by rw [h5]; exact HL.out)
    clear hrs hxo hx
    gi_wp2
    refine ⟨Same2.refl _ W, ⟨Nat.le_refl _, trivial⟩, ?_⟩
    intro w2 hp ⟨r, hr⟩
    have hw2 : Below w.heap.size w w2 := hb.trans ((hp.below (Nat.le_refl _)).mono (by omega))
    have hs2 : w.heap.size + 6 ≤ w2.heap.size := by rw [hp.size]; exact hlW
    have k1 := (hp.cell (b := w.heap.size) (o := 0) (by omega)).trans h1
    have k2 := (hp.frozen (b := w.heap.size) (o := 0) (by omega)).trans h2
    have k6 := (hp.cell (b := w.heap.size + 3) (o := 5) (by omega)).trans h6
    have k8 := (hp.cell (b := w.heap.size) (o := 5) (by omega)).trans h8
    have k7 := none_loop hr 5
    have k3 : isTree w2 q t := isTree_but (B := w.heap.size + 5) ⟨hp.os, hp.tape, hp.output, Nat.le_of_eq hp.size.symm, fun k _ hk => hp.block k hk⟩ h7 h3
    have HT : Hid (isTree w2 q t) := k3
    have HO : Hid (okT t) := h4
    have HR5 : Hid (t.runes = pre.flatten) := h5
    have cK := fun wx (hbx : Below w.heap.size w wx) => chunkOf_any x HX.out.2.2 (by have := HL.out; rw [C1_append] at this; have := C1_len pre.flatten; have := C1_len x; omega) wx (Go.Proofs.Utf8Tabs_below hT hbx)
    clear h1 h2 h3 h4 h5 h6 h7 h8 h9 k3 hb hp hr
    gi_wp2
    refine wpR_region_rel 4 5 (by kernel_rfl) rfl (by kernel_rfl) ?_
    intro w3 hb3
    obtain ⟨G, hG⟩ := exists_growth w3
    have hw3 : Below w.heap.size w w3 := hw2.trans (hb3.mono (by omega))
    have k1G : ∀ x, (G x).cell? ⟨w.heap.size, 0, none⟩ = some (.pointer q) := hG.cell ((hb3.cell (p := ⟨w.heap.size, 0, none⟩) (by show w.heap.size < _; omega)).trans k1)
    have cKG := fun x => (cK (G x) (hw3.trans ((hG.below x).mono hw3.size)))
    have k1' := k1
    clear k1
    (refine anyG_step hG (i := 0) rfl (by kernel_rfl) (by kernel_rfl) (by kernel_rfl) (fun K hK => ?_); go_simp; refine hK _ ?_; clear hK K)
    (refine anyG_step hG (i := 1) rfl (by kernel_rfl) (by kernel_rfl) (by kernel_rfl) (fun K hK => ?_); go_simp; refine hK _ ?_; clear hK K)
    (refine anyG_step hG (i := 2) rfl (by kernel_rfl) (by kernel_rfl) (by kernel_rfl) (fun K hK => ?_); go_simp; apply Exists.intro; refine ⟨fun _ => ?_, hK _ ?_⟩; exact cKG _; clear hK K)
    clear k1G cKG hG
    have HTT : Hid (Lib.Utf8Tabs 2 3 w) := hT
    clear hT
    refine anyG_one (i := 3) rfl (by kernel_rfl) ?_
    intro w4 hb4 K hK
    have hb24 : Below w2.heap.size w2 w4 := hb3.trans (hb4.mono hb3.size)
    have ck := add_any q t x w4 (Go.Proofs.Utf8Tabs_below HTT.out (hw2.trans (hb24.mono (by omega)))) (isTree_below hb24 HT.out) HBG.out HO.out HX.out
    go_simp
    refine ck.mono ?_
    rintro e w5 ⟨q5, t5, rfl, ht5, ha5, hb5⟩
    refine ⟨_, rfl, hK _ _ hb5 ?_⟩
    clear hK K ck
    have hb25 : Below w2.heap.size w2 w5 := hb24.trans (hb5.mono hb24.size)
    have HT5 : Hid _ := ht5
    have HA5 : Hid _ := ha5
    clear ht5 ha5 hb3 hb4 hb5 hb24 hw3
    refine anyG_late (i := 4) rfl (by kernel_rfl) (by kernel_rfl) ?_
    intro w6 hb6 K hK
    have c6 : w6.cell? ⟨w.heap.size, 0, none⟩ = some (.pointer q) := (hb6.cell (p := ⟨w.heap.size, 0, none⟩) (by have := hb25.size; show w.heap.size < _; omega)).trans ((hb25.cell (p := ⟨w.heap.size, 0, none⟩) (by show w.heap.size < _; omega)).trans k1')
    have f6 : w6.frozen? ⟨w.heap.size, 0, none⟩ = false := (hb6.frozen (p := ⟨w.heap.size, 0, none⟩) (by have := hb25.size; show w.heap.size < _; omega)).trans ((hb25.frozen (p := ⟨w.heap.size, 0, none⟩) (by show w.heap.size < _; omega)).trans k2)
    go_simp
    refine hK _ _ ?_
    clear hK K
    refine anyG_end (by kernel_rfl) ?_
    intro w7 hb7
    have HG : Hid _ := grows_put hw2 hs2 k1' k2 k6 k7 k8 (hb25.trans (hb6.mono hb25.size)) (isTree_below hb6 HT5.out) HA5.out.2.1 (HA5.out.1.trans (by rw [HR5.out])) (by have := hb7; rwa [show (w6.setCell ⟨w.heap.size, 0, none⟩ (.pointer q5)).heap.size = w6.heap.size by simp [World.setCell]] at this)
    clear c6 f6 hb7 k1' k2 k6 k7 k8
    gi_wp2
    refine ⟨HG.out.1, HG.out.2.1, ?_⟩
    have := HG.out.2.2
    show grows w w7 w.heap.size (w.heap.size + 3) (w.heap.size + 5) (pre ++ [x]).flatten
    rw [show (pre ++ [x]).flatten = pre.flatten ++ x by simp]
    exact this
  case done =>
    rintro xs W ⟨hxs, hxo⟩ hI hDef
    rw [hs4] at hDef ⊢
    obtain ⟨hb, ⟨q, t, h1, h2, h3, h4, h5⟩, h6, h7, h8, h9⟩ := hI
    have H3 : Hid (isTree W q t) := h3
    have H4 : Hid (okT t) := h4
    have H5 : Hid (t.runes = rs) := h5.trans hxs
    have c86 := chain_nil q
    clear h3 h4 h5 hxs hxo
    gi_wp2_with (first
      | (refine ⟨trivial, ?_⟩; gi_at_call 117; refine (callsIn_wide.2 (c86 _)).mono ?_; rintro e wx ⟨rfl, hwx⟩; obtain rfl := hwx.symm)
      | fail)
    have hdn : W.cell? ⟨w.heap.size + 4, 5, none⟩ = none := by unfold World.cell?; simp [hDef]
    refine ⟨by simp, .inl ⟨_, _, rfl, run_takeDeferred hDef, ?_⟩⟩
    refine ⟨.pointer q, by simp [results, Tryz.results60, go_sem], q, t, rfl, isTree_but (But.putObj _ _ _) hdn H3.out, H4.out, H5.out, hb.trans (((But.putObj (w.heap.size + 4) W _).below (by omega)).mono (by omega))⟩
end Go.Proofs.YtldhbjmillfjgabGreatDoor

namespace Go.Proofs.YtldhbjmillfjgabGreatDoor
open Go.RowKit
set_option linter.unusedVariables false
attribute [local go_sem] Oper.semAt_some

/-- A document that lies in a block, of these runes. -/
def isRope (w : World) (b : Nat) (rs : List Nat) : Prop :=
  ∃ q t, w.cell? ⟨b, 0, none⟩ = some (.pointer q) ∧ w.frozen? ⟨b, 0, none⟩ = false ∧ w.cell? ⟨b, 5, none⟩ = none ∧ isTree w q t ∧ okT t ∧ t.runes = rs
theorem isRope_below {w w' : World} {b : Nat} {rs : List Nat} (h : isRope w b rs) (hb : Below w.heap.size w w') : isRope w' b rs := by
  obtain ⟨q, t, h1, h2, h3, h4, h5⟩ := h
  have hlt := World.block_lt_of_cell? w _ h1
  have e := hb.block b hlt
  exact ⟨q, t, (cellOn e 0).trans h1, (frozenOn e 0).trans h2, (cellOn e 5).trans h3, isTree_below hb h4, h5⟩

theorem counted_new (w : World) (n1 n2 n3 n4 : Int) (t : TypeId) : counted (w.alloc (.cells #[.int .i64 n1, .int .i64 n2, .int .i64 n3, .int .i64 n4] t)) w.heap.size n1 n2 n3 n4 := by
  refine ⟨⟨?_, ?_, ?_, ?_⟩, ?_, ?_, ?_, ?_⟩ <;> simp [go_sem]
theorem below_set4 {lo : Nat} {w W : World} {B : Nat} (hb : Below lo w W) (hlo : lo ≤ B) (u0 u1 u2 u3 : Value) :
    Below lo w ((((W.setCell ⟨B, 0, none⟩ u0).setCell ⟨B, 1, none⟩ u1).setCell ⟨B, 2, none⟩ u2).setCell ⟨B, 3, none⟩ u3) :=
  (((hb.setCell (p := ⟨B, 0, none⟩) hlo _).setCell (p := ⟨B, 1, none⟩) hlo _).setCell (p := ⟨B, 2, none⟩) hlo _).setCell (p := ⟨B, 3, none⟩) hlo _

set_option maxRecDepth 100000 in
set_option maxHeartbeats 2000000 in
theorem ropetree_any (b : Nat) (q : Option Addr) (w : World) (h : w.cell? ⟨b, 0, none⟩ = some (.pointer q)) :
    Calls Tryz.prog 66 #[.pointer (some ⟨b, 0, none⟩)] w fun e w' => e = .returned (.pointer q) ∧ w' = w := by
  go_enter Tryz.func66, Tryz.ntmps66
  go_wp2
  go_ret
  exact ⟨rfl, rfl⟩

set_option maxRecDepth 100000 in
set_option maxHeartbeats 2000000 in
theorem ropecounts_any (b : Nat) (rs : List Nat) (w : World) (h : isRope w b rs) :
    Calls Tryz.prog 20 #[.pointer (some ⟨b, 0, none⟩)] w fun e w' => e = .returned (.agg #[.int .i64 (C1 rs), .int .i64 (C2 rs), .int .i64 (C3 rs), .int .i64 (C4 rs)]) ∧ Below w.heap.size w w' := by
  obtain ⟨q, t, h1, _, _, h4, _, rfl⟩ := h
  have hb0 : ∀ o, Below w.heap.size w (w.alloc o) := fun o => (Below.refl _ w).alloc (Nat.le_refl _) o
  have cT := fun o => ropetree_any b q (w.alloc o) (cell_on (hb0 o) h1)
  have cC := fun o => ncounts_any q t (w.alloc o) (isTree_below (hb0 o) h4)
  generalize C1 t.runes = x1 at *
  generalize C2 t.runes = x2 at *
  generalize C3 t.runes = x3 at *
  generalize C4 t.runes = x4 at *
  clear h4
  go_enter Tryz.func20, Tryz.ntmps20
  go_wp2_with (first
    | (go_at_call 66; refine (cT _).mono ?_; rintro e w1 ⟨rfl, hw1⟩; obtain rfl := hw1.symm)
    | (go_at_call 67; refine (cC _).mono ?_; rintro e w2 ⟨rfl, hb2⟩; have hm := counted_below (counted_new w 0 0 0 0 25) hb2; have HM : Hid _ := hm; obtain ⟨⟨m0, m1, m2, m3⟩, n0, n1, n2, n3⟩ := hm)
    | fail)
  have hms := counted_set (m1 := x1) (m2 := x2) (m3 := x3) (m4 := x4) HM.out
  obtain ⟨⟨s0, s1, s2, s3⟩, _⟩ := hms
  have hbw := (hb0 (.cells #[.int .i64 0, .int .i64 0, .int .i64 0, .int .i64 0] 25)).trans (hb2.mono (hb0 (.cells #[.int .i64 0, .int .i64 0, .int .i64 0, .int .i64 0] 25)).size)
  refine bodyPost_ret (v := .agg #[.int .i64 x1, .int .i64 x2, .int .i64 x3, .int .i64 x4]) (by simp [results, Tryz.results20, go_sem, s0, s1, s2, s3]) rfl ⟨rfl, below_set4 hbw (Nat.le_refl _) _ _ _ _⟩

set_option maxRecDepth 100000 in
set_option maxHeartbeats 2000000 in
theorem new_good (rs : List Nat) (hr : ∀ r ∈ rs, isRune r) (hz : C1 rs ≤ 8000) (w : World) (hT : Lib.Utf8Tabs 2 3 w) :
    Calls Tryz.prog 9 #[.string (bytesOf rs)] w fun e w' => ∃ b, e = .returned (.tuple #[.pointer (some ⟨b, 0, none⟩), .nilIface]) ∧ w.heap.size ≤ b ∧ isRope w' b rs ∧ Below w.heap.size w w' := by
  have hsz : (bytesOf rs).size ≤ 8000 := by rw [bytesOf_size]; rw [C1_len] at hz; omega
  have c1 := count_of rs hr (by omega) w hT
  have c2 := fun wx (hb : Below w.heap.size w wx) => between_new rs hr (by rw [C1_len] at hz; omega) wx (Go.Proofs.Utf8Tabs_below hT hb)
  clear hr hz hT
  generalize C1 rs = x1 at *
  generalize C2 rs = x2 at *
  generalize C3 rs = x3 at *
  generalize C4 rs = x4 at *
  go_enter Tryz.func9, Tryz.ntmps9
  go_wp2_with (first
    | (go_at_call 59; refine c1.mono ?_; rintro e w1 ⟨rfl, hb1⟩; have hB1 : Below w.heap.size w (w1.alloc (.cells #[.int .i64 x1, .int .i64 x2, .int .i64 x3, .int .i64 x4] 25)) := hb1.alloc hb1.size _)
    | (go_at_call 60; refine (c2 _ hB1).mono ?_; rintro e w2 ⟨q, t, rfl, ht, ho, hrn, hb2⟩; have HT : Hid (isTree w2 q t ∧ okT t ∧ t.runes = rs) := ⟨ht, ho, hrn⟩; clear ht ho hrn)
    | fail)
  have hb2W : Below w2.heap.size w2 (w2.alloc (.cells #[.pointer q] 122)) := (Below.refl _ w2).alloc (Nat.le_refl _) _
  have hB2 := hB1.trans (hb2.mono hB1.size)
  have hR : isRope (w2.alloc (.cells #[.pointer q] 122)) w2.heap.size rs := ⟨q, t, by simp [go_sem], by simp [go_sem], by simp [go_sem], isTree_below hb2W HT.out.1, HT.out.2⟩
  refine bodyPost_ret (v := .tuple #[.pointer (some ⟨w2.heap.size, 0, none⟩), .nilIface]) (by simp [results, Tryz.results9, go_sem]) rfl ⟨_, rfl, hB2.size, hR, hB2.trans (hb2W.mono hB2.size)⟩

end Go.Proofs.YtldhbjmillfjgabGreatDoor

namespace Go.Proofs.YtldhbjmillfjgabGreatDoor
open Go.RowKit
set_option linter.unusedVariables false
attribute [local go_sem] Oper.semAt_some

theorem C1_left {a b : List Nat} {k : Int} (h : C1 (a ++ b) ≤ k) : C1 a ≤ k := by rw [C1_append] at h; have := C1_pos b; omega
theorem C1_right {a b : List Nat} {k : Int} (h : C1 (a ++ b) ≤ k) : C1 b ≤ k := by rw [C1_append] at h; have := C1_pos a; omega

end Go.Proofs.YtldhbjmillfjgabGreatDoor

namespace Go.Proofs.YtldhbjmillfjgabGreatDoor
open Go.RowKit

/-- What each rune's closure keeps, and what holds where it has said no. -/
structure TakesS (W : World) (F : Nat) (cap : Array Value) (l : List (Nat × Nat)) (I Ix : List (Nat × Nat) → World → Prop) : Prop where
  enters : ∀ args w, (callFunc F args).run Tryz.prog w = .ok (.enter F args) w
  stays : ∀ done w w', I done w → Below w.heap.size w w' → I done w'
  step : ∀ done p rest, l = done ++ p :: rest → ∀ w, I done w → Below W.heap.size W w →
    Calls Tryz.prog F (#[.int .i32 p.1, .int .i64 p.2] ++ cap) w fun e w' => Below W.heap.size W w' ∧ ((e = .returned (.bool true) ∧ I (done ++ [p]) w') ∨ (e = .returned (.bool false) ∧ Ix (done ++ [p]) w'))

set_option maxHeartbeats 2000000 in
theorem each_stops (s : ByteArray) (hs : s.size ≤ maxLen) (F : Nat) (cap : Array Value) (W : World) (hT : Lib.Utf8Tabs 2 3 W) (I Ix : List (Nat × Nat) → World → Prop)
    (H : TakesS W F cap (scan s.data.toList).1 I Ix) (w : World) (hw : Below W.heap.size W w) (h0 : I [] w) :
    Calls Tryz.prog 108 #[.string s, .func (.func F) #[] cap] w fun e w' => (∃ v, e = .returned v) ∧ Below W.heap.size W w' ∧
      (I (scan s.data.toList).1 w' ∨ (∃ pre rest, (scan s.data.toList).1 = pre ++ rest ∧ Ix pre w')) := by
  unfold maxLen at hs
  have hent := H.enters
  go_enter Tryz.func108, Tryz.ntmps108
  go_wp2
  go_loopw [5, 6, 7, 12] (fun at_ _ _ _ wr => ∃ (k : Nat) (done : List (Nat × Nat)), k ≤ s.size ∧ at_ = .int .i64 k ∧ (scan s.data.toList).1 = done ++ (scan (s.data.toList.drop k)).1 ∧ I done wr ∧ Below W.heap.size W wr) (fun at_ _ _ _ _ => s.size - (intOf at_).toNat)
  case atStart => exact ⟨0, [], Nat.zero_le _, rfl, by rw [List.drop_zero]; rfl, h0, hw⟩
  case round =>
    obtain ⟨k, done, hk, rfl, hd1, hI, hwr⟩ := hrel
    have hTr := Go.Proofs.Utf8Tabs_below hT hwr
    by_cases hlt : k < s.size
    · have hne : s.data.toList.drop k ≠ [] := by
        intro e
        have := congrArg List.length e
        rw [List.length_drop, List.length_nil, ← Lib.size_eq] at this
        omega
      have hdec : Lib.decodeGo (s.extract k s.size) = dec (s.data.toList.drop k) := by
        unfold Lib.decodeGo
        rw [if_neg (by rw [ByteArray.size_extract]; omega), decode_dec]
      have hge := dec_ge1 (s.data.toList.drop k)
      have hle := dec_le hne
      have hle4 := dec_le4 (s.data.toList.drop k)
      have cD := Tryz.utf8_DecodeRuneInString (s.extract k s.size) wr hTr
      rw [hdec] at cD
      by_cases hb : badB (dec (s.data.toList.drop k)) = true
      · have hs2 := scan_bad hne hb
        have hfin : Hid (I (scan s.data.toList).1 wr) := by show I _ wr; rw [hd1, hs2, List.append_nil]; exact hI
        have hb' : (dec (s.data.toList.drop k)).1 = 65533 ∧ (dec (s.data.toList.drop k)).2 = 1 := badB_true hb
        rw [hb'.1, hb'.2] at cD
        clear hdec hge hle hle4 hb hb' hd1 hs2 hne hI
        go_wp2_with (first | (go_at_call 158; refine cD.mono ?_; rintro e w1 ⟨rfl, hb1⟩) | (go_at_call 127; refine (wrong_any _ _).mono ?_; rintro e w2 ⟨⟨v, rfl, hv⟩, hb2⟩) | fail)
        go_ret
        have hb12 : Below wr.heap.size wr w2 := hb1.trans (hb2.mono hb1.size)
        exact ⟨⟨_, rfl⟩, hwr.trans (hb12.mono hwr.size), .inl (H.stays _ _ _ hfin hb12)⟩
      · have hb : badB (dec (s.data.toList.drop k)) = false := Bool.eq_false_iff.2 hb
        have hs2 := scan_good hne hb
        have hl : (scan s.data.toList).1 = done ++ dec (s.data.toList.drop k) :: (scan ((s.data.toList.drop k).drop (dec (s.data.toList.drop k)).2)).1 := by rw [hd1, hs2]
        rw [List.drop_drop] at hl
        rw [List.length_drop, ← Lib.size_eq] at hle
        have hstep := H.step done _ _ hl
        obtain ⟨R, hR⟩ : ∃ R, R = (dec (s.data.toList.drop k)).1 := ⟨_, rfl⟩
        obtain ⟨K, hK⟩ : ∃ K, K = (dec (s.data.toList.drop k)).2 := ⟨_, rfl⟩
        have hp : dec (s.data.toList.drop k) = (R, K) := by rw [hR, hK]
        rw [hp] at cD hb hge hle hle4 hl hstep
        have hnext : Hid ((scan s.data.toList).1 = done ++ [(R, K)] ++ (scan (s.data.toList.drop (k + K))).1) := by
          show _ = _
          rw [hl, List.append_assoc]; rfl
        simp only [] at hge hle
        clear hdec hd1 hs2 hne hle4 hl hR hK hp
        have hbF := badB_false hb
        clear hb
        rcases hbF with hr | ⟨hr, hr2⟩
        · have hr0 : ((R : Int) == 65533) = false := by
            rw [beq_eq_false_iff_ne]
            intro e
            exact hr (by omega)
          clear hr
          go_wp2_with (first | (go_at_call 158; refine cD.mono ?_; rintro e w1 ⟨rfl, hb1⟩) | (go_at_fn F; refine (hstep w1 (H.stays _ _ _ hI hb1) (hwr.trans (hb1.mono hwr.size))).mono ?_; rintro e w2 ⟨hb2, ⟨rfl, hI2⟩ | ⟨rfl, hI2⟩⟩) | fail)
          · go_roundw
            case rel => exact ⟨k + K, done ++ [(R, K)], by omega, by go_num, hnext, hI2, hb2⟩
            case measure => simp [intOf]; omega
          · go_ret
            exact ⟨⟨_, rfl⟩, hb2, .inr ⟨_, _, hnext, hI2⟩⟩
        · have hr0 : ((K : Int) == 1) = false := by
            rw [beq_eq_false_iff_ne]
            intro e
            exact hr2 (by omega)
          subst hr
          clear hr2
          go_wp2_with (first | (go_at_call 158; refine cD.mono ?_; rintro e w1 ⟨rfl, hb1⟩) | (go_at_fn F; refine (hstep w1 (H.stays _ _ _ hI hb1) (hwr.trans (hb1.mono hwr.size))).mono ?_; rintro e w2 ⟨hb2, ⟨rfl, hI2⟩ | ⟨rfl, hI2⟩⟩) | fail)
          · go_roundw
            case rel => exact ⟨k + K, done ++ [(65533, K)], by omega, by go_num, hnext, hI2, hb2⟩
            case measure => simp [intOf]; omega
          · go_ret
            exact ⟨⟨_, rfl⟩, hb2, .inr ⟨_, _, hnext, hI2⟩⟩
    · have hend : s.data.toList.drop k = [] := List.drop_eq_nil_of_le (by rw [← Lib.size_eq]; omega)
      rw [hend, scan_nil] at hd1
      rw [List.append_nil] at hd1
      have hfin : Hid (I (scan s.data.toList).1 wr) := by show I _ wr; rw [hd1]; exact hI
      clear hd1 hend hTr
      go_wp2
      go_ret
      exact ⟨⟨_, rfl⟩, hwr, .inl hfin⟩
end Go.Proofs.YtldhbjmillfjgabGreatDoor

namespace Go.Proofs.YtldhbjmillfjgabGreatDoor
open Go.RowKit

/-- A round keeps all blocks from lo on that there were. -/
structure KeepUp (lo : Nat) (A B : World) : Prop where
  size : A.heap.size ≤ B.heap.size
  same : ∀ k, lo ≤ k → k < A.heap.size → B.heap[k]? = A.heap[k]?
theorem KeepUp.refl (lo : Nat) (A : World) : KeepUp lo A A := ⟨Nat.le_refl _, fun _ _ _ => rfl⟩
theorem KeepUp.trans {lo : Nat} {A B C : World} (h : KeepUp lo A B) (k : KeepUp lo B C) : KeepUp lo A C :=
  ⟨Nat.le_trans h.size k.size, fun i h1 h2 => (k.same i h1 (Nat.lt_of_lt_of_le h2 h.size)).trans (h.same i h1 h2)⟩
theorem KeepUp.of_below {lo : Nat} {A B : World} (h : Below A.heap.size A B) : KeepUp lo A B := ⟨h.size, fun k _ h2 => h.block k h2⟩
theorem KeepUp.setCell {lo : Nat} {A W : World} (h : KeepUp lo A W) {p : Addr} (hp : p.block < lo) (v : Value) : KeepUp lo A (W.setCell p v) :=
  h.trans ⟨by simp [World.setCell], fun k h1 _ => Below.heap_setCell W p v k (by omega)⟩
theorem KeepUp.alloc {lo : Nat} {A W : World} (h : KeepUp lo A W) (o : Obj) : KeepUp lo A (W.alloc o) :=
  h.trans ⟨by simp, fun k _ h2 => Below.heap_alloc W o k h2⟩
theorem KeepUp.drew {lo : Nat} {A W : World} (h : KeepUp lo A W) : KeepUp lo A W.drew := h.trans ⟨Nat.le_refl _, fun _ _ _ => rfl⟩
theorem KeepUp.putObj {lo r : Nat} (A : World) (o : Obj) (h : r < lo) : KeepUp lo A (A.putObj r o) :=
  ⟨by simp, fun k h1 _ => World.putObj_heap_other (by omega)⟩
theorem KeepUp.counted {lo : Nat} {A B : World} (h : KeepUp lo A B) {a : Nat} {n1 n2 n3 n4 : Int} (ha : lo ≤ a) (hc : counted A a n1 n2 n3 n4) : counted B a n1 n2 n3 n4 := by
  have hb := h.same a ha (counted_lt hc)
  have e1 : ∀ i, B.cell? ⟨a, i, none⟩ = A.cell? ⟨a, i, none⟩ := fun i => World.cell?_of_block (w := A) (a := ⟨a, i, none⟩) hb
  have e2 : ∀ i, B.frozen? ⟨a, i, none⟩ = A.frozen? ⟨a, i, none⟩ := fun i => World.frozen?_of_block (w := A) (a := ⟨a, i, none⟩) hb
  unfold Go.Proofs.YtldhbjmillfjgabGreatDoor.counted
  rw [e1, e1, e1, e1, e2, e2, e2, e2]
  exact hc
theorem KeepUp.cell {lo : Nat} {A B : World} (h : KeepUp lo A B) {a i : Nat} {v : Value} (ha : lo ≤ a) (hc : A.cell? ⟨a, i, none⟩ = some v) : B.cell? ⟨a, i, none⟩ = some v := by
  have hb := h.same a ha (World.block_lt_of_cell? A _ hc)
  exact (World.cell?_of_block (w := A) (a := ⟨a, i, none⟩) hb).trans hc

/-- What a round is handed: what is counted ahead of its rune, and of it. -/
def walkArgs (pre : List (Nat × Nat)) (p : Nat × Nat) : Array Value :=
  #[cnt (sum1 pre) (sum2 pre) pre.length (sum4 pre), cnt p.2 (cH p.1) 1 (cL p.1)]

attribute [local go_sem] Oper.semAt_some

set_option maxRecDepth 100000 in
set_option maxHeartbeats 2000000 in
/-- The walk's own closure, at one rune. -/
theorem walk11_any (l : Nat) (b0 b1 lo : Nat) (h0 : lo ≤ b0) (h1 : lo ≤ b1) (hne : b0 ≠ b1) (r : Nat) (n n1 n2 n3 n4 : Int) (w : World) (hlw : lo ≤ w.heap.size) (hc : counted w b1 n1 n2 n3 n4) (hy : w.cell? ⟨b0, 0, none⟩ = some (.func (.yield l) #[] #[]))
    (R1 R0 : World → Prop)
    (hR : ∀ A, Below w.heap.size w A → YieldAt Fence.wide 0 Tryz.prog l #[cnt n1 n2 n3 n4, cnt n (cH r) 1 (cL r)] A fun e A' =>
      (e = .returned (.bool true) ∧ R1 A' ∧ KeepUp lo A A') ∨ (e = .returned (.bool false) ∧ R0 A' ∧ KeepUp lo A A')) :
    Calls Tryz.prog 196 #[.int .i32 r, .int .i64 n, .pointer (some ⟨b0, 0, none⟩), .pointer (some ⟨b1, 0, none⟩)] w fun e w' =>
      (e = .returned (.bool true) ∧ counted w' b1 (wrap64 (n1 + n)) (wrap64 (n2 + cH r)) (wrap64 (n3 + 1)) (wrap64 (n4 + cL r)) ∧ w'.cell? ⟨b0, 0, none⟩ = some (.func (.yield l) #[] #[]) ∧
        ∃ A', R1 A' ∧ Below lo A' w') ∨ (e = .returned (.bool false) ∧ R0 w') := by
  have hlt := counted_lt hc
  have hlt0 : b0 < w.heap.size := World.block_lt_of_cell? w _ hy
  have HC : Hid (counted w b1 n1 n2 n3 n4) := hc
  have cO := fun (w : World) => countsOf_any r n w
  generalize cH r = x2 at *
  generalize cL r = x4 at *
  generalize (r : Int) = R at cO ⊢
  unfold cnt at hR
  refine (callsIn_wide (n := 1)).1 ?_
  refine callsIn_of_wp Tryz.func196 rfl trivial ?_ rfl
  simp only [Tryz.ntmps196, List.size_toArray, List.length_cons, List.length_nil, Nat.reduceAdd, Nat.reduceSub, Array.replicate_succ, Array.replicate_zero, List.push_toArray, List.append_toArray, List.nil_append, List.cons_append]
  gi_wp2_with (first | (refine ⟨trivial, ?_⟩; gi_at_call 111; refine (callsIn_wide.2 (cO _)).mono ?_; rintro e w1 ⟨rfl, hb1⟩; have hb2 : Below w.heap.size w (w1.alloc (.cells #[.int .i64 n, .int .i64 x2, .int .i64 1, .int .i64 x4] 25)) := hb1.alloc hb1.size _; have HC2 := counted_old HC.out hb2 hlt; have HB : Hid (Below w.heap.size w (w1.alloc (.cells #[.int .i64 n, .int .i64 x2, .int .i64 1, .int .i64 x4] 25))) := hb2; obtain ⟨⟨a0, a1, a2, a3⟩, b0', b1', b2', b3'⟩ := HC2; have hy2 := (hb2.cell (p := ⟨b0, 0, none⟩) hlt0).trans hy; obtain ⟨fn, tmps, assign, body, hyy, hRd⟩ := hR _ hb2; clear hb2) | fail)
  refine hRd.mono ?_
  rintro e A' (⟨rfl, hR1, hk⟩ | ⟨rfl, hR0, hk⟩)
  · have HCA := hk.counted h1 (counted_old HC.out HB.out hlt)
    have HCN : counted (w1.alloc (.cells #[.int .i64 n, .int .i64 x2, .int .i64 1, .int .i64 x4] 25)) w1.heap.size n x2 1 x4 := by
      refine ⟨⟨?_, ?_, ?_, ?_⟩, ?_, ?_, ?_, ?_⟩ <;> simp [go_sem]
    have HCO := hk.counted (Nat.le_trans hlw hb1.size) HCN
    have hyA := hk.cell h0 hy2
    have HCA' : Hid (counted A' b1 n1 n2 n3 n4) := HCA
    have hyA' : Hid (A'.cell? ⟨b0, 0, none⟩ = some (.func (.yield l) #[] #[])) := hyA
    obtain ⟨⟨c0, c1, c2, c3⟩, d0, d1, d2, d3⟩ := HCA
    obtain ⟨⟨e0, e1, e2, e3⟩, f0, f1, f2, f3⟩ := HCO
    have hlA : b1 < A'.heap.size := counted_lt HCA'.out
    have hlA0 : b0 < A'.heap.size := World.block_lt_of_cell? A' _ hyA
    clear a0 a1 a2 a3 b0' b1' b2' b3' hy2 hyy hRd hy HC hc cO hR HCN hyA
    gi_wp2_with (first | (refine ⟨trivial, ?_⟩; gi_at_call 110; refine (callsIn_wide.2 (plus_any _ _ _ _ _ _ _ _ _)).mono ?_; rintro e w2 ⟨rfl, hb2⟩; have HC3 := counted_below HCA'.out hb2; have HC4 : Hid (counted w2 b1 n1 n2 n3 n4) := HC3; obtain ⟨⟨g0, g1, g2, g3⟩, k0, k1, k2, k3⟩ := HC3; have hB3 : Hid (Below A'.heap.size A' w2) := hb2; clear hb2) | fail)
    have hy3 : w2.cell? ⟨b0, 0, none⟩ = some (.func (.yield l) #[] #[]) := (hB3.out.cell (p := ⟨b0, 0, none⟩) hlA0).trans hyA'.out
    go_ret
    exact .inl ⟨rfl, counted_set HC4.out, by simp [go_sem, hy3], A', hR1, below_set (hB3.out.mono (Nat.le_of_lt (Nat.lt_of_le_of_lt h1 hlA))) h1 _ _ _ _⟩
  · gi_wp2
    go_ret
    exact .inr ⟨rfl, hR0⟩

theorem takes_walk (l : Nat) (b0 b1 lo : Nat) (h0 : lo ≤ b0) (h1 : lo ≤ b1) (hne : b0 ≠ b1) (W0 : World) (xs : List (Nat × Nat)) (hx : xs.length < 1000000000) (hx4 : ∀ p ∈ xs, p.2 ≤ 4) (J Jx : List (Nat × Nat) → World → Prop)
    (hz : ∀ pre A, J pre A → Below W0.heap.size W0 A) (hzx : ∀ pre A, Jx pre A → Below W0.heap.size W0 A) (hJ : ∀ pre A B, J pre A → Below lo A B → J pre B)
    (hR : ∀ pre x A, J pre A → (∃ rest, xs = pre ++ [x] ++ rest) → YieldAt Fence.wide 0 Tryz.prog l (walkArgs pre x) A fun e A' =>
      (e = .returned (.bool true) ∧ J (pre ++ [x]) A' ∧ KeepUp lo A A') ∨ (e = .returned (.bool false) ∧ Jx (pre ++ [x]) A' ∧ KeepUp lo A A')) :
    TakesS W0 196 #[.pointer (some ⟨b0, 0, none⟩), .pointer (some ⟨b1, 0, none⟩)] xs
      (fun done w => J done w ∧ lo ≤ w.heap.size ∧ counted w b1 (sum1 done) (sum2 done) (done.length : Int) (sum4 done) ∧ w.cell? ⟨b0, 0, none⟩ = some (.func (.yield l) #[] #[]))
      (fun done w => Jx done w) where
  enters := enters_of Tryz.func196 (by kernel_rfl) rfl
  stays := fun done w w' hI hb => ⟨hJ _ _ _ hI.1 (hb.mono hI.2.1), Nat.le_trans hI.2.1 hb.size, counted_below hI.2.2.1 hb, (hb.cell (p := ⟨b0, 0, none⟩) (World.block_lt_of_cell? w _ hI.2.2.2)).trans hI.2.2.2⟩
  step := fun done p rest e w hI hw => by
    obtain ⟨hj, hlw, hc, hy⟩ := hI
    have hlen := congrArg List.length e
    rw [List.length_append] at hlen
    have k1 := sum1_le done fun q hq => hx4 q (by rw [e]; simp [hq])
    have k2 := sum2_le done
    have k4 := sum4_le done
    have hp := hx4 p (by rw [e]; simp)
    have hp2 := cH_le p.1
    have hp4 := cL_le p.1
    refine (walk11_any l b0 b1 lo h0 h1 hne p.1 p.2 _ _ _ _ w hlw hc hy (J (done ++ [p])) (Jx (done ++ [p])) fun A hb => hR done p A (hJ _ _ _ hj (hb.mono hlw)) ⟨rest, by rw [e]; simp⟩).mono ?_
    rintro e' w' (⟨rfl, c, hy', A', hj', hb'⟩ | ⟨rfl, hj'⟩)
    · rw [wrap64_small (by omega) (by omega), wrap64_small (by omega) (by omega), wrap64_small (by omega) (by omega), wrap64_small (by omega) (by omega)] at c
      have e1 : sum1 (done ++ [p]) = sum1 done + p.2 := by simp [sum1]
      have e2 : sum2 (done ++ [p]) = sum2 done + cH p.1 := by simp [sum2]
      have e3 : (((done ++ [p]).length : Nat) : Int) = done.length + 1 := by simp
      have e4 : sum4 (done ++ [p]) = sum4 done + cL p.1 := by simp [sum4]
      have hJw := hJ _ _ _ hj' hb'
      refine ⟨hz _ _ hJw, .inl ⟨rfl, hJw, Nat.le_trans h1 (Nat.le_of_lt (counted_lt c)), ?_, hy'⟩⟩
      rw [e1, e2, e3, e4]
      exact c
    · exact ⟨hzx _ _ hj', .inr ⟨rfl, hj'⟩⟩

theorem yield_not_nil (l : Nat) (w : World) : (binOp .eql 295 (.func (.yield l) #[] #[]) .nilFunc).run Tryz.prog w = .ok (.bool false) w := by kernel_rfl

set_option maxRecDepth 100000 in
set_option maxHeartbeats 2000000 in
/-- The iterator of Walk, called with a loop's yield. -/
theorem walk_seq (s : ByteArray) (hs : s.size < 400000000) (W0 : World) (hT : Lib.Utf8Tabs 2 3 W0) (sb : Nat) (W : World) (hsb : W.cell? ⟨sb, 0, none⟩ = some (.string s)) :
    SeqOwn Tryz.prog 195 #[.pointer (some ⟨sb, 0, none⟩)] walkArgs (Below W.heap.size) (KeepUp W.heap.size) (Below W0.heap.size W0)
      (fun xs => xs = (scan s.data.toList).1) (fun pre => ∃ rest, (scan s.data.toList).1 = pre ++ rest) W := by
  intro l J Jx hz hzx hJ hJx hR hj0
  have hlen := scan_len s.data.toList
  rw [← Lib.size_eq] at hlen
  have hW := hz _ _ hj0
  have hlt := World.block_lt_of_cell? W _ hsb
  have hb2 : Below W.heap.size W ((W.alloc (.cells #[.func (.yield l) #[] #[]] 295)).alloc (.cells #[.int .i64 0, .int .i64 0, .int .i64 0, .int .i64 0] 25)) :=
    ((Below.refl _ W).alloc (Nat.le_refl _) _).alloc (by rw [World.size_alloc]; exact Nat.le_succ _) _
  have cE := each_stops s (by unfold maxLen; omega) 196 #[.pointer (some ⟨W.heap.size, 0, none⟩), .pointer (some ⟨W.heap.size + 1, 0, none⟩)] W0 hT _ _
    (takes_walk l W.heap.size (W.heap.size + 1) W.heap.size (Nat.le_refl _) (Nat.le_succ _) (by omega) W0 (scan s.data.toList).1 (by omega) (scan_w4 _) J Jx hz hzx hJ hR) _ (hz _ _ (hJ _ _ _ hj0 hb2))
    ⟨hJ _ _ _ hj0 hb2, hb2.size, (by refine ⟨⟨?_, ?_, ?_, ?_⟩, ?_, ?_, ?_, ?_⟩ <;> simp [go_sem, sum1, sum2, sum4]), (by simp [go_sem])⟩
  have hs2 := (((Below.refl _ W).alloc (Nat.le_refl _) (.cells #[.func (.yield l) #[] #[]] 295)).cell (p := ⟨sb, 0, none⟩) hlt).trans hsb
  have hs3 := (hb2.cell (p := ⟨sb, 0, none⟩) hlt).trans hsb
  clear hb2 hR hj0 hW hlen hs
  have hnil : ∀ w, (binOp .eql 295 (.func (.yield l) #[] #[]) .nilFunc).run Tryz.prog w = .ok (.bool false) w := fun w => yield_not_nil l w
  refine callsIn_wide.2 ?_
  simp only [List.append_toArray, List.cons_append, List.nil_append]
  go_enter Tryz.func195, Tryz.ntmps195
  go_wp2_with (first | (go_at_call 108; refine cE.mono ?_; rintro e w1 ⟨⟨v, rfl⟩, hb1, ⟨hj1, _⟩ | ⟨pre, rest, e1, hj1⟩⟩) | fail)
  · go_end0
    exact ⟨⟨_, rfl⟩, .inl ⟨_, rfl, hj1⟩⟩
  · go_end0
    exact ⟨⟨_, rfl⟩, .inr ⟨pre, ⟨rest, e1⟩, hj1⟩⟩
end Go.Proofs.YtldhbjmillfjgabGreatDoor

namespace Go.Proofs.YtldhbjmillfjgabGreatDoor
open Go.RowKit
set_option linter.unusedVariables false
attribute [local go_sem] Oper.semAt_some yieldsUpon okUpon

theorem Walk_one (s : ByteArray) (w : World) : Calls Tryz.prog 174 #[.string s] w fun e w' => e = .returned (.func (.func 195) #[] #[.pointer (some ⟨w.heap.size, 0, none⟩)]) ∧ w' = w.alloc (.cells #[.string s] 9) := by
  go_enter Tryz.func174, Tryz.ntmps174
  go_wp2
  go_ret
  exact ⟨rfl, rfl⟩

/-- What some runes count, as a value. -/
def cntV (rs : List Nat) : Value := .agg #[.int .i64 (C1 rs), .int .i64 (C2 rs), .int .i64 (C3 rs), .int .i64 (C4 rs)]

/-- The least beginning, with one rune at least behind pre, that is enough. -/
def seek (f : List Nat → Bool) : List Nat → List Nat → Option (List Nat)
  | _, [] => none
  | pre, r :: rs => if f (pre ++ [r]) then some (pre ++ [r]) else seek f (pre ++ [r]) rs
theorem seek_none (f : List Nat → Bool) : ∀ (c1 pre c2 : List Nat), seek f pre c1 = none → seek f pre (c1 ++ c2) = seek f (pre ++ c1) c2
  | [], pre, c2, _ => by simp
  | r :: c1, pre, c2, h => by
    simp only [seek] at h
    by_cases hf : f (pre ++ [r]) = true
    · rw [if_pos hf] at h; cases h
    · rw [if_neg hf] at h
      rw [List.cons_append, seek, if_neg hf, seek_none f c1 (pre ++ [r]) c2 h]
      simp

/-- What a closure answers of counts, in all worlds behind W. -/
def asks (W : World) (F : Nat) (cap : Array Value) (f : List Nat → Bool) : Prop :=
  (∀ args w, (callFunc F args).run Tryz.prog w = .ok (.enter F args) w) ∧
  ∀ rs wx, C1 rs ≤ 200000000 → Below W.heap.size W wx → Calls Tryz.prog F (#[cntV rs] ++ cap) wx fun e w' => e = .returned (.bool (f rs)) ∧ Below wx.heap.size wx w'

theorem plus_cnt (a b : List Nat) (hz : C1 (a ++ b) ≤ 200000000) (w : World) : Calls Tryz.prog 110 #[cntV a, cntV b] w fun e w' => e = .returned (cntV (a ++ b)) ∧ Below w.heap.size w w' := by
  have h := plus_any (C1 a) (C2 a) (C3 a) (C4 a) (C1 b) (C2 b) (C3 b) (C4 b) w
  rw [C1_append] at hz
  have a2 := C2_le a
  have a3 := C3_le a
  have a4 := C4_le a
  have b2 := C2_le b
  have b3 := C3_le b
  have b4 := C4_le b
  rw [wrap64_small (by omega) (by omega), wrap64_small (by omega) (by omega), wrap64_small (by omega) (by omega), wrap64_small (by omega) (by omega), ← C1_append, ← C2_append, ← C3_append, ← C4_append] at h
  exact h
theorem walkArgs_cut (c1 : List Nat) (r : Nat) : walkArgs (wide c1) (r, (enc r).length) = #[cntV c1, cntV [r]] := by
  simp [walkArgs, cnt, cntV, C1, C2, C3, C4, wide, sum1, sum2, sum4]

set_option maxRecDepth 100000 in
set_option maxHeartbeats 4000000 in
theorem within_any (f : List Nat → Bool) (F : Nat) (cap : Array Value) (fs c : List Nat) (hc : ∀ r ∈ c, isRune r) (hz : C1 (fs ++ c) ≤ 100000000) (w : World) (hT : Lib.Utf8Tabs 2 3 w) (hE : asks w F cap f) :
    Calls Tryz.prog 204 #[cntV fs, .string (bytesOf c), .func (.func F) #[] cap] w fun e w' => e = .returned (cntV ((seek f fs c).getD fs)) ∧ Below w.heap.size w w' := by
  have HC : Hid (∀ r ∈ c, isRune r) := hc
  have HZ : Hid (C1 (fs ++ c) ≤ 100000000) := hz
  have HT : Hid (Lib.Utf8Tabs 2 3 w) := hT
  have hent := hE.1
  have HE : Hid (∀ rs wx, C1 rs ≤ 200000000 → Below w.heap.size w wx → Calls Tryz.prog F (#[cntV rs] ++ cap) wx fun e w' => e = .returned (.bool (f rs)) ∧ Below wx.heap.size wx w') := hE.2
  have HSC : Hid ((scan (bytesOf c).data.toList).1 = wide c) := by show _ = _; rw [bytesOf_list, scan_encs c hc]
  have hsz : (bytesOf c).size ≤ 100000000 := by rw [bytesOf_size]; have := C1_right hz; rw [C1_len] at this; omega
  clear hE hc hz hT
  have HV : Hid (cntV fs = .agg #[.int .i64 (C1 fs), .int .i64 (C2 fs), .int .i64 (C3 fs), .int .i64 (C4 fs)]) := rfl
  rw [HV.out]
  refine (callsIn_wide (n := 3)).1 ?_
  refine callsIn_of_wp_marks Tryz.func204 rfl trivial ?_ rfl
  simp only [Tryz.ntmps204, List.size_toArray, List.length_cons, List.length_nil, Nat.reduceAdd, Nat.reduceSub, Array.replicate_succ, Array.replicate_zero, List.push_toArray, List.append_toArray, List.nil_append, List.cons_append]
  gi_wp2_with (first
    | (refine ⟨trivial, ?_⟩; gi_at_call 174; refine (callsIn_wide.2 (Walk_one (bytesOf c) _)).mono ?_; rintro e w13 ⟨rfl, rfl⟩)
    | fail)
  obtain ⟨W4, hW4⟩ : ∃ W4, W4 = (((w.alloc (Obj.cells #[Value.int IntKind.i64 (C1 fs), Value.int IntKind.i64 (C2 fs), Value.int IntKind.i64 (C3 fs), Value.int IntKind.i64 (C4 fs)] 25)).alloc (Obj.cells #[Value.func (Fn.func F) #[] cap] 293)).alloc (Obj.cells #[Value.int IntKind.i64 0, Value.int IntKind.i64 0, Value.int IntKind.i64 0, Value.int IntKind.i64 0] 25)).alloc (.cells #[.string (bytesOf c)] 9) := ⟨_, rfl⟩
  have hb4 : Below w.heap.size w W4 := by rw [hW4]; exact ((((Below.refl _ w).alloc (Nat.le_refl _) _).alloc (by simp) _).alloc (by simp; omega) _).alloc (by simp; omega) _
  have hs4 : W4.heap.size = w.heap.size + 4 := by rw [hW4]; simp
  have f4 : counted W4 w.heap.size (C1 fs) (C2 fs) (C3 fs) (C4 fs) := by rw [hW4]; refine ⟨⟨?_, ?_, ?_, ?_⟩, ?_, ?_, ?_, ?_⟩ <;> simp [go_sem]
  have e4 : W4.cell? ⟨w.heap.size + 1, 0, none⟩ = some (.func (.func F) #[] cap) := by rw [hW4]; simp [go_sem]
  have r4 : counted W4 (w.heap.size + 2) 0 0 0 0 := by rw [hW4]; refine ⟨⟨?_, ?_, ?_, ?_⟩, ?_, ?_, ?_, ?_⟩ <;> simp [go_sem]
  have s4 : W4.cell? ⟨w.heap.size + 3, 0, none⟩ = some (.string (bytesOf c)) := by rw [hW4]; simp [go_sem]
  rw [← hW4]
  clear hW4
  refine wp_range_own (gf := 195) (lb := #[.pointer (some ⟨w.heap.size + 3, 0, none⟩)]) rfl (enters_of Tryz.func195 (by kernel_rfl) rfl) (encs := walkArgs) (fun _ _ => rfl)
    (It := Below (w.heap.size + 6)) (Kp := KeepUp (w.heap.size + 6)) (Z := Below w.heap.size w) (S := fun xs => xs = (scan (bytesOf c).data.toList).1) (Sp := fun pre => ∃ rest, (scan (bytesOf c).data.toList).1 = pre ++ rest)
    ?seq ?its (fun h k => h.trans k) (fun A o => KeepUp.putObj A (.loop o) (by rw [hs4]; omega))
    (fun pre W => Below (w.heap.size + 4) W4 W ∧ ∃ c1 c2, c = c1 ++ c2 ∧ pre = wide c1 ∧ seek f fs c1 = none)
    (fun k pre W => k = .ret ∧ ∃ x, seek f fs c = some x ∧ counted W (w.heap.size + 2) (C1 x) (C2 x) (C3 x) (C4 x) ∧ Below w.heap.size w W ∧ w.heap.size + 6 ≤ W.heap.size) ?iz ?ixz ?ii ?ib ?ix ?ixb ?h0 ?round ?done ?stop
  case seq =>
    intro W hs1 hb1
    rw [hs4] at hs1 hb1
    have := walk_seq (bytesOf c) (by omega) w HT.out (w.heap.size + 3) W ((hb1.cell (p := ⟨w.heap.size + 3, 0, none⟩) (by show w.heap.size + 3 < _; omega)).trans s4)
    rw [hs1] at this
    exact this
  case its => exact fun A B h => Same2.of_below h (by rw [hs4]; omega)
  case iz => exact fun pre A h => hb4.trans (h.1.mono (by omega))
  case ixz => exact fun k pre A h => by obtain ⟨_, x, _, _, h, _⟩ := h; exact h
  case ii => exact fun pre A B h hb => ⟨h.1.trans (hb.mono (by omega)), h.2⟩
  case ib => exact fun pre A o h => ⟨h.1.trans ((Put1.putObj _ A (.loop o)).below (by rw [hs4]; omega)), h.2⟩
  case ix => exact fun k pre A B h hb => by obtain ⟨h0, x, h1, h2, h3, h4⟩ := h; exact ⟨h0, x, h1, counted_old h2 hb (by omega), h3.trans (hb.mono (by omega)), Nat.le_trans h4 hb.size⟩
  case ixb =>
    rintro k pre A o ⟨h0, x, h1, h2, h3, h4⟩
    have hb : Below (w.heap.size + 5) A (A.putObj (w.heap.size + 5) (.loop o)) := (Put1.putObj _ A (.loop o)).below (Nat.le_refl _)
    rw [hs4]
    exact ⟨h0, x, h1, counted_old h2 hb (by omega), h3.trans (hb.mono (by omega)), Nat.le_trans h4 hb.size⟩
  case h0 => exact fun W hs hb _ => by rw [hs4] at hb; exact ⟨hb, [], c, rfl, rfl, rfl⟩
  case round =>
    rintro l pre x W ⟨hI, c1, c2, hcc, rfl, hsk⟩ hlW ⟨rest, hsp⟩
    rw [hs4] at hlW ⊢
    rw [HSC.out, List.append_assoc, hcc, wide_append] at hsp
    have hsp2 := List.append_cancel_left hsp
    obtain ⟨r, d2, rfl, rfl⟩ : ∃ r d2, c2 = r :: d2 ∧ x = (r, (enc r).length) := by
      cases c2 with
      | nil => simp [wide] at hsp2
      | cons r d2 => simp only [wide, List.map_cons, List.singleton_append, List.cons.injEq] at hsp2; exact ⟨r, d2, rfl, hsp2.1.symm⟩
    have HW : Hid (wide c1 ++ [(r, (enc r).length)] = wide (c1 ++ [r])) := by show _ = _; rw [wide_append]; rfl
    have HCC : Hid (c = (c1 ++ [r]) ++ d2) := by show _ = _; rw [hcc]; simp
    have HSK : Hid (seek f fs c1 = none) := hsk
    have hzc : C1 (fs ++ (c1 ++ [r])) ≤ 100000000 := by have := HZ.out; rw [HCC.out, ← List.append_assoc] at this; exact C1_left this
    have HP1 : Hid (∀ wx, Calls Tryz.prog 110 #[cntV c1, cntV [r]] wx fun e w' => e = .returned (cntV (c1 ++ [r])) ∧ Below wx.heap.size wx w') := fun wx => plus_cnt c1 [r] (by have := C1_right hzc; omega) wx
    have HP2 : Hid (∀ wx, Calls Tryz.prog 110 #[cntV fs, cntV (c1 ++ [r])] wx fun e w' => e = .returned (cntV (fs ++ (c1 ++ [r]))) ∧ Below wx.heap.size wx w') := fun wx => plus_cnt fs (c1 ++ [r]) (by omega) wx
    have HQ : Hid (∀ wx, Below w.heap.size w wx → Calls Tryz.prog F (#[cntV (fs ++ (c1 ++ [r]))] ++ cap) wx fun e w' => e = .returned (.bool (f (fs ++ (c1 ++ [r])))) ∧ Below wx.heap.size wx w') := fun wx hb => HE.out _ wx (by omega) hb
    rw [walkArgs_cut]
    clear hsp hsp2 hcc hsk hzc
    unfold cntV at HP1 HP2 HQ ⊢
    generalize C1 c1 = y1 at *
    generalize C2 c1 = y2 at *
    generalize C3 c1 = y3 at *
    generalize C4 c1 = y4 at *
    generalize C1 [r] = u1 at *
    generalize C2 [r] = u2 at *
    generalize C3 [r] = u3 at *
    generalize C4 [r] = u4 at *
    gi_wp2
    refine ⟨(((Same2.refl _ W).alloc (by omega) _).alloc (by rw [World.size_alloc]; omega) _), ((KeepUp.refl _ W).alloc _).alloc _, ?_⟩
    intro w20 hp _
    have hww : Below W.heap.size W ((W.alloc (.cells #[.int .i64 y1, .int .i64 y2, .int .i64 y3, .int .i64 y4] 25)).alloc (.cells #[.int .i64 u1, .int .i64 u2, .int .i64 u3, .int .i64 u4] 25)) := ((Below.refl _ W).alloc (Nat.le_refl _) _).alloc (by rw [World.size_alloc]; exact Nat.le_succ _) _
    have hs20 : w20.heap.size = W.heap.size + 2 := by rw [hp.size, World.size_alloc, World.size_alloc]
    have hWW : Below (w.heap.size + 4) W4 w20 := hI.trans ((hww.mono (by omega)).trans (hp.below (by omega)))
    have hKU : KeepUp (w.heap.size + 6) W w20 := ⟨by omega, fun k h1 h2 => (hp.block k (by omega)).trans (hww.block k h2)⟩
    have hS2 : Same2 (w.heap.size + 4) ((W.alloc (.cells #[.int .i64 y1, .int .i64 y2, .int .i64 y3, .int .i64 y4] 25)).alloc (.cells #[.int .i64 u1, .int .i64 u2, .int .i64 u3, .int .i64 u4] 25)) w20 → True := fun _ => trivial
    have f20 := counted_old f4 hWW (by omega)
    have r20 := counted_old r4 hWW (by omega)
    have e20 := (hWW.cell (p := ⟨w.heap.size + 1, 0, none⟩) (by show w.heap.size + 1 < _; omega)).trans e4
    have a20 : counted w20 W.heap.size y1 y2 y3 y4 := by
      have h : counted ((W.alloc (.cells #[.int .i64 y1, .int .i64 y2, .int .i64 y3, .int .i64 y4] 25)).alloc (.cells #[.int .i64 u1, .int .i64 u2, .int .i64 u3, .int .i64 u4] 25)) W.heap.size y1 y2 y3 y4 := counted_below (counted_new W y1 y2 y3 y4 _) ((Below.refl _ _).alloc (Nat.le_refl _) _)
      obtain ⟨⟨h0, h1, h2, h3⟩, k0, k1, k2, k3⟩ := h
      exact ⟨⟨(hp.cell (by omega)).trans h0, (hp.cell (by omega)).trans h1, (hp.cell (by omega)).trans h2, (hp.cell (by omega)).trans h3⟩, (hp.frozen (by omega)).trans k0, (hp.frozen (by omega)).trans k1, (hp.frozen (by omega)).trans k2, (hp.frozen (by omega)).trans k3⟩
    have o20 : counted w20 (W.heap.size + 1) u1 u2 u3 u4 := by
      have h : counted ((W.alloc (.cells #[.int .i64 y1, .int .i64 y2, .int .i64 y3, .int .i64 y4] 25)).alloc (.cells #[.int .i64 u1, .int .i64 u2, .int .i64 u3, .int .i64 u4] 25)) (W.heap.size + 1) u1 u2 u3 u4 := by have := counted_new (W.alloc (.cells #[.int .i64 y1, .int .i64 y2, .int .i64 y3, .int .i64 y4] 25)) u1 u2 u3 u4 25; rwa [World.size_alloc] at this
      obtain ⟨⟨h0, h1, h2, h3⟩, k0, k1, k2, k3⟩ := h
      exact ⟨⟨(hp.cell (by omega)).trans h0, (hp.cell (by omega)).trans h1, (hp.cell (by omega)).trans h2, (hp.cell (by omega)).trans h3⟩, (hp.frozen (by omega)).trans k0, (hp.frozen (by omega)).trans k1, (hp.frozen (by omega)).trans k2, (hp.frozen (by omega)).trans k3⟩
    have hw20 : Below w.heap.size w w20 := hb4.trans (hWW.mono (by omega))
    clear hp hww hS2 f4 r4 e4 s4
    gi_wp2
    refine wpR_region_rel 6 7 (by kernel_rfl) rfl (by kernel_rfl) ?_
    intro w21 hb21
    obtain ⟨G, hG⟩ := exists_growth w21
    have f21 := counted_below f20 hb21
    have a21 := counted_below a20 hb21
    have o21 := counted_below o20 hb21
    obtain ⟨⟨f0, f1, f2, f3⟩, _⟩ := f21
    obtain ⟨⟨a0, a1, a2, a3⟩, _⟩ := a21
    obtain ⟨⟨o0, o1, o2, o3⟩, _⟩ := o21
    have gf0 := hG.cell f0
    have gf1 := hG.cell f1
    have gf2 := hG.cell f2
    have gf3 := hG.cell f3
    have ga0 := hG.cell a0
    have ga1 := hG.cell a1
    have ga2 := hG.cell a2
    have ga3 := hG.cell a3
    have go0 := hG.cell o0
    have go1 := hG.cell o1
    have go2 := hG.cell o2
    have go3 := hG.cell o3
    clear f0 f1 f2 f3 a0 a1 a2 a3 o0 o1 o2 o3
    (refine anyG_step hG (i := 0) rfl (by kernel_rfl) (by kernel_rfl) (by kernel_rfl) (fun K hK => ?_); go_simp; refine hK _ ?_; clear hK K)
    (refine anyG_step hG (i := 1) rfl (by kernel_rfl) (by kernel_rfl) (by kernel_rfl) (fun K hK => ?_); go_simp; refine hK _ ?_; clear hK K)
    (refine anyG_step hG (i := 2) rfl (by kernel_rfl) (by kernel_rfl) (by kernel_rfl) (fun K hK => ?_); go_simp; refine hK _ ?_; clear hK K)
    (refine anyG_step hG (i := 3) rfl (by kernel_rfl) (by kernel_rfl) (by kernel_rfl) (fun K hK => ?_); go_simp; apply Exists.intro; refine ⟨fun _ => ?_, hK _ ?_⟩; exact HP1.out _; clear hK K)
    (refine anyG_step hG (i := 4) rfl (by kernel_rfl) (by kernel_rfl) (by kernel_rfl) (fun K hK => ?_); go_simp; apply Exists.intro; refine ⟨fun _ => ?_, hK _ ?_⟩; exact HP2.out _; clear hK K)
    clear gf0 gf1 gf2 gf3 ga0 ga1 ga2 ga3 go0 go1 go2 go3 hG
    refine anyG_one (i := 5) rfl (by kernel_rfl) ?_
    intro w22 hb22 K hK
    go_simp
    have hb22a : Below w22.heap.size w22 (w22.alloc (.cells #[.int .i64 0, .int .i64 0, .int .i64 0, .int .i64 0] 25)) := (Below.refl _ w22).alloc (Nat.le_refl _) _
    refine hK _ _ hb22a ?_
    clear hK K
    refine anyG_late (i := 6) rfl (by kernel_rfl) (by kernel_rfl) ?_
    intro w23 hb23 K hK
    have hh := counted_below (counted_new w22 0 0 0 0 25) hb23
    have HH : Hid _ := hh
    obtain ⟨⟨h0, h1, h2, h3⟩, k0, k1, k2, k3⟩ := hh
    go_simp
    refine hK _ _ ?_
    clear hK K
    refine anyG_end (by kernel_rfl) ?_
    intro w24 hb24
    have hb23' := hb21.trans (hb22.mono hb21.size)
    have hb2a := hb23'.trans (hb22a.mono hb23'.size)
    have hb2b := hb2a.trans (hb23.mono hb2a.size)
    have hb2c := below_set4 hb2b (B := w22.heap.size) hb23'.size (.int .i64 (C1 (fs ++ (c1 ++ [r])))) (.int .i64 (C2 (fs ++ (c1 ++ [r])))) (.int .i64 (C3 (fs ++ (c1 ++ [r])))) (.int .i64 (C4 (fs ++ (c1 ++ [r]))))
    have hbF := hb2c.trans (hb24.mono hb2c.size)
    have h24 := counted_below (counted_set (m1 := C1 (fs ++ (c1 ++ [r]))) (m2 := C2 (fs ++ (c1 ++ [r]))) (m3 := C3 (fs ++ (c1 ++ [r]))) (m4 := C4 (fs ++ (c1 ++ [r]))) HH.out) hb24
    have e24 := (hbF.cell (p := ⟨w.heap.size + 1, 0, none⟩) (by show w.heap.size + 1 < _; omega)).trans e20
    have r24 := counted_below r20 hbF
    have hw24 : Below w.heap.size w w24 := hw20.trans (hbF.mono hw20.size)
    have hKU24 : KeepUp (w.heap.size + 6) W w24 := hKU.trans (KeepUp.of_below hbF)
    have HCQ := HQ.out w24 hw24
    have H24 : Hid _ := h24
    have HR24 : Hid _ := r24
    have HBF : Hid _ := hbF
    have HWW : Hid _ := hWW
    have HKU : Hid _ := hKU24
    clear hb21 hb22 hb22a hb23 hb24 hb23' hb2a hb2b hb2c HH h0 h1 h2 h3 k0 k1 k2 k3 f20 r20 a20 o20 e20 hKU hKU24 hbF hWW
    generalize w22.heap.size = hB at *
    obtain ⟨⟨h0, h1, h2, h3⟩, _⟩ := h24
    obtain ⟨_, t0, t1, t2, t3⟩ := r24
    generalize hX1 : C1 (fs ++ (c1 ++ [r])) = X1 at *
    generalize hX2 : C2 (fs ++ (c1 ++ [r])) = X2 at *
    generalize hX3 : C3 (fs ++ (c1 ++ [r])) = X3 at *
    generalize hX4 : C4 (fs ++ (c1 ++ [r])) = X4 at *
    generalize hfx : f (fs ++ (c1 ++ [r])) = fx at *
    gi_wp2
    refine ⟨trivial, rfl, ?_⟩
    refine (CallsIn.inRound l (callsIn_wide.2 HCQ)).mono ?_
    rintro e w25 ⟨rfl, hb25⟩
    have h25 := counted_below H24.out hb25
    have r25 := counted_below HR24.out hb25
    have HR25 : Hid _ := r25
    have hbZ := HBF.out.trans (hb25.mono HBF.out.size)
    have HBZ : Hid _ := hbZ
    have HWZ : Hid _ := hw24.trans (hb25.mono hw24.size)
    clear h0 h1 h2 h3 t0 t1 t2 t3 e24 hb25 hbZ HCQ
    obtain ⟨⟨h0, h1, h2, h3⟩, _⟩ := h25
    obtain ⟨⟨z0, z1, z2, z3⟩, t0, t1, t2, t3⟩ := r25
    cases fx with
    | false =>
      gi_wp2
      refine ⟨Same2.of_below HBZ.out (by omega), KeepUp.of_below HBZ.out, HWW.out.trans (HBZ.out.mono (by omega)), c1 ++ [r], d2, HCC.out, HW.out, ?_⟩
      rw [seek_none f c1 fs [r] HSK.out, seek, List.append_assoc, hfx]
      rfl
    | true =>
      gi_wp2
      have hkk : KeepUp (w.heap.size + 6) w20 w25 := KeepUp.of_below HBZ.out
      refine ⟨((((Same2.of_below HBZ.out (by omega)).setCell (by show w.heap.size + 2 ≠ _; omega) (by show w.heap.size + 2 ≠ _; omega) _).setCell (by show w.heap.size + 2 ≠ _; omega) (by show w.heap.size + 2 ≠ _; omega) _).setCell (by show w.heap.size + 2 ≠ _; omega) (by show w.heap.size + 2 ≠ _; omega) _).setCell (by show w.heap.size + 2 ≠ _; omega) (by show w.heap.size + 2 ≠ _; omega) _,
        (((hkk.setCell (by show w.heap.size + 2 < _; omega) _).setCell (by show w.heap.size + 2 < _; omega) _).setCell (by show w.heap.size + 2 < _; omega) _).setCell (by show w.heap.size + 2 < _; omega) _, rfl, fs ++ (c1 ++ [r]), ?_, ?_, below_set4 HWZ.out (by omega) _ _ _ _, ?_⟩
      · rw [HCC.out, List.append_assoc, seek_none f c1 fs ([r] ++ d2) HSK.out, List.singleton_append, seek, List.append_assoc, hfx]
        rfl
      · rw [hX1, hX2, hX3, hX4]
        exact counted_set HR25.out
      · have := HBZ.out.size
        simp [World.setCell]
        omega
  case done =>
    rintro xs W rfl ⟨hI, c1, c2, hcc, hx, hsk⟩ hDef
    rw [hs4] at hDef ⊢
    have HN : Hid (seek f fs c = none) := by
      show _ = _
      rw [HSC.out] at hx
      have : c2 = [] := by
        have := congrArg List.length hx
        rw [hcc] at this
        simp only [wide, List.length_map, List.length_append] at this
        exact List.length_eq_zero_iff.1 (by omega)
      subst this
      rw [hcc, List.append_nil]
      exact hsk
    have f5 := counted_old f4 hI (by omega)
    have r5 := counted_old r4 hI (by omega)
    have HR5 : Hid _ := r5
    have hbW : Below w.heap.size w W := hb4.trans (hI.mono (by omega))
    have HBW : Hid _ := hbW
    have hIs := hI.size
    clear hcc hx hsk hbW hI f4 r4 e4 s4
    obtain ⟨⟨f0, f1, f2, f3⟩, _⟩ := f5
    obtain ⟨⟨z0, z1, z2, z3⟩, t0, t1, t2, t3⟩ := r5
    generalize C1 fs = y1 at *
    generalize C2 fs = y2 at *
    generalize C3 fs = y3 at *
    generalize C4 fs = y4 at *
    gi_wp2
    have hset := counted_set (m1 := y1) (m2 := y2) (m3 := y3) (m4 := y4) HR5.out
    obtain ⟨⟨x0, x1, x2, x3⟩, _⟩ := hset
    have hDef' : ((((W.setCell ⟨w.heap.size + 2, 0, none⟩ (.int .i64 y1)).setCell ⟨w.heap.size + 2, 1, none⟩ (.int .i64 y2)).setCell ⟨w.heap.size + 2, 2, none⟩ (.int .i64 y3)).setCell ⟨w.heap.size + 2, 3, none⟩ (.int .i64 y4)).heap[w.heap.size + 4]? = some (.deferred (some [])) := by
      refine (Below.heap_setCell _ _ _ _ ?_).trans ((Below.heap_setCell _ _ _ _ ?_).trans ((Below.heap_setCell _ _ _ _ ?_).trans ((Below.heap_setCell _ _ _ _ ?_).trans hDef))) <;> (show w.heap.size + 4 ≠ w.heap.size + 2; omega)
    have hP := Put1.putObj (w.heap.size + 4) ((((W.setCell ⟨w.heap.size + 2, 0, none⟩ (.int .i64 y1)).setCell ⟨w.heap.size + 2, 1, none⟩ (.int .i64 y2)).setCell ⟨w.heap.size + 2, 2, none⟩ (.int .i64 y3)).setCell ⟨w.heap.size + 2, 3, none⟩ (.int .i64 y4)) (.deferred none)
    have p0 := (hP.cell (b := w.heap.size + 2) (o := 0) (by omega)).trans x0
    have p1 := (hP.cell (b := w.heap.size + 2) (o := 1) (by omega)).trans x1
    have p2 := (hP.cell (b := w.heap.size + 2) (o := 2) (by omega)).trans x2
    have p3 := (hP.cell (b := w.heap.size + 2) (o := 3) (by omega)).trans x3
    refine ⟨by simp, .inl ⟨_, _, rfl, run_takeDeferred hDef', ?_⟩⟩
    refine ⟨.agg #[.int .i64 y1, .int .i64 y2, .int .i64 y3, .int .i64 y4], by simp [results, Tryz.results204, go_sem, p0, p1, p2, p3], ?_, (below_set4 HBW.out (B := w.heap.size + 2) (by omega) _ _ _ _).trans (hP.below (by omega))⟩
    rw [HN.out]
    exact congrArg Ending.returned HV.out.symm
  case stop =>
    rintro k pre W hsp ⟨rfl, x, hx, hc2, hbW, hsW⟩ hDef
    rw [hs4] at hDef ⊢
    have HC2 : Hid _ := hc2
    obtain ⟨⟨z0, z1, z2, z3⟩, _⟩ := hc2
    clear f4 r4 e4 s4
    gi_wp2
    have hP := Put1.putObj (w.heap.size + 4) W (.deferred none)
    have p0 := (hP.cell (b := w.heap.size + 2) (o := 0) (by omega)).trans z0
    have p1 := (hP.cell (b := w.heap.size + 2) (o := 1) (by omega)).trans z1
    have p2 := (hP.cell (b := w.heap.size + 2) (o := 2) (by omega)).trans z2
    have p3 := (hP.cell (b := w.heap.size + 2) (o := 3) (by omega)).trans z3
    refine ⟨by simp, .inl ⟨_, _, rfl, run_takeDeferred hDef, ?_⟩⟩
    refine ⟨cntV x, by simp [results, Tryz.results204, go_sem, p0, p1, p2, p3, cntV], ?_, hbW.trans (hP.below (by omega))⟩
    rw [hx]; rfl
end Go.Proofs.YtldhbjmillfjgabGreatDoor

namespace Go.Proofs.YtldhbjmillfjgabGreatDoor
open Go.RowKit
set_option linter.unusedVariables false
attribute [local go_sem] Oper.semAt_some yieldsUpon okUpon

theorem field0 (a b c d : Int) (w : World) : (Instr.field 25 (.agg #[.int .i64 a, .int .i64 b, .int .i64 c, .int .i64 d]) 0).run Tryz.prog w = .ok (.int .i64 a) w := by kernel_rfl
theorem field3 (a b c d : Int) (w : World) : (Instr.field 25 (.agg #[.int .i64 a, .int .i64 b, .int .i64 c, .int .i64 d]) 3).run Tryz.prog w = .ok (.int .i64 d) w := by kernel_rfl
attribute [local go_sem] field0 field3

end Go.Proofs.YtldhbjmillfjgabGreatDoor

namespace Go.Proofs.YtldhbjmillfjgabGreatDoor
open Go.RowKit
set_option linter.unusedVariables false
attribute [local go_sem] Oper.semAt_some yieldsUpon okUpon field0 field3

theorem okT_node {l r : T} {c : List Nat} (h : okT (.node l c r)) : okT l ∧ okT r ∧ okChunk c := by
  obtain ⟨⟨b1, b2, _, _⟩, h2⟩ := h
  exact ⟨⟨b1, fun x hx => h2 x (by simp [T.chunks, hx])⟩, ⟨b2, fun x hx => h2 x (by simp [T.chunks, hx])⟩, h2 c (by simp [T.chunks])⟩

end Go.Proofs.YtldhbjmillfjgabGreatDoor

namespace Go.Proofs.YtldhbjmillfjgabGreatDoor
open Go.RowKit
set_option linter.unusedVariables false
attribute [local go_sem] Oper.semAt_some yieldsUpon okUpon

/-- What is enough stays so with more. -/
def rising (f : List Nat → Bool) : Prop := ∀ a b, f a = true → f (a ++ b) = true
/-- The least beginning, of pre or more, that is enough; all, if none is. -/
def find (f : List Nat → Bool) (pre rs : List Nat) : List Nat := if f pre then pre else (seek f pre rs).getD (pre ++ rs)
theorem seek_low {f : List Nat → Bool} (hf : rising f) : ∀ (rs pre : List Nat), f (pre ++ rs) = false → seek f pre rs = none
  | [], pre, _ => rfl
  | r :: rs, pre, h => by
    have h1 : f ((pre ++ [r]) ++ rs) = false := by rw [List.append_assoc]; exact h
    have h2 : f (pre ++ [r]) = false := by
      cases e : f (pre ++ [r]) with
      | false => rfl
      | true => rw [hf _ rs e] at h1; cases h1
    rw [seek, h2, if_neg (by simp), seek_low hf rs _ h1]
theorem seek_more {f : List Nat → Bool} {x : List Nat} : ∀ (a pre b : List Nat), seek f pre a = some x → seek f pre (a ++ b) = some x
  | [], _, _, h => by cases h
  | r :: a, pre, b, h => by
    rw [List.cons_append]
    simp only [seek] at h ⊢
    split at h
    · rename_i hr; rw [if_pos hr]; exact h
    · rename_i hr; rw [if_neg hr]; exact seek_more a _ b h
theorem seek_top {f : List Nat → Bool} : ∀ (rs pre : List Nat), f pre = false → f (pre ++ rs) = true → ∃ x, seek f pre rs = some x
  | [], pre, h0, h => by rw [List.append_nil, h0] at h; cases h
  | r :: rs, pre, h0, h => by
    cases e : f (pre ++ [r]) with
    | true => exact ⟨_, by rw [seek, e]; rfl⟩
    | false =>
      obtain ⟨x, hx⟩ := seek_top rs (pre ++ [r]) e (by rw [List.append_assoc]; exact h)
      exact ⟨x, by rw [seek, e]; exact hx⟩
theorem low_of {f : List Nat → Bool} (hf : rising f) {a b : List Nat} (h : f (a ++ b) = false) : f a = false := by
  cases e : f a with
  | false => rfl
  | true => rw [hf a b e] at h; cases h
theorem find_left {f : List Nat → Bool} {pre l m : List Nat} (h : f (pre ++ l) = true) : find f pre (l ++ m) = find f pre l := by
  unfold find
  cases e : f pre with
  | true => rfl
  | false =>
    obtain ⟨x, hx⟩ := seek_top l pre e h
    rw [seek_more l pre m hx, hx]
    rfl
theorem find_here {f : List Nat → Bool} (hf : rising f) {pre l c r : List Nat} (h1 : f (pre ++ l) = false) (h2 : f (pre ++ l ++ c) = true) : find f pre (l ++ c ++ r) = (seek f (pre ++ l) c).getD (pre ++ l) := by
  unfold find
  obtain ⟨x, hx⟩ := seek_top c (pre ++ l) h1 h2
  rw [low_of hf h1, List.append_assoc l, seek_none f l pre (c ++ r) (seek_low hf l pre h1), seek_more c _ r hx, hx]
  rfl
theorem find_right {f : List Nat → Bool} (hf : rising f) {pre m r : List Nat} (h : f (pre ++ m) = false) : find f pre (m ++ r) = find f (pre ++ m) r := by
  unfold find
  rw [low_of hf h, h, seek_none f m pre r (seek_low hf m pre h), List.append_assoc]
  rfl

theorem asks_below {W W' : World} {F : Nat} {cap : Array Value} {f : List Nat → Bool} (h : asks W F cap f) (hb : Below W.heap.size W W') : asks W' F cap f :=
  ⟨h.1, fun rs wx hz hb' => h.2 rs wx hz (hb.trans (hb'.mono hb.size))⟩
theorem counted_on {A B : World} {a : Nat} {n1 n2 n3 n4 : Int} (h : B.heap[a]? = A.heap[a]?) (hc : counted A a n1 n2 n3 n4) : counted B a n1 n2 n3 n4 := by
  obtain ⟨⟨a0, a1, a2, a3⟩, b0, b1, b2, b3⟩ := hc
  exact ⟨⟨(cellOn h 0).trans a0, (cellOn h 1).trans a1, (cellOn h 2).trans a2, (cellOn h 3).trans a3⟩, (frozenOn h 0).trans b0, (frozenOn h 1).trans b1, (frozenOn h 2).trans b2, (frozenOn h 3).trans b3⟩
/-- How many chunks there are, as the tree's first node has it. -/
def sizeAt (v : Value) (W : World) : Nat := match v with | .pointer (some p) => (match W.cell? ⟨p.block, 12, none⟩ with | some (.int _ n) => n.toNat | _ => 0) | _ => 0
theorem sizeAt_tree {W : World} {q : Option Addr} {t : T} (h : isTree W q t) : sizeAt (.pointer q) W = t.size := by
  cases t with
  | nil => obtain rfl : q = none := h; rfl
  | node l c r =>
    obtain ⟨b, _, _, rfl, _, _, _, ⟨_, h12⟩, _⟩ := h
    simp only [sizeAt, h12]
    omega

set_option maxRecDepth 100000 in
set_option maxHeartbeats 4000000 in
theorem until_any (f : List Nat → Bool) (hf : rising f) (F : Nat) (cap : Array Value) (p : Option Addr) (t : T) (w : World) (hT : Lib.Utf8Tabs 2 3 w) (ht : isTree w p t) (ho : okT t) (hz : C1 t.runes ≤ 100000000) (hE : asks w F cap f) :
    Calls Tryz.prog 193 #[.pointer p, .func (.func F) #[] cap] w fun e w' => e = .returned (cntV (find f [] t.runes)) ∧ Below w.heap.size w w' := by
  have hent := hE.1
  have HE : Hid (asks w F cap f) := hE
  have HT : Hid (Lib.Utf8Tabs 2 3 w) := hT
  have HI : Hid (isTree w p t ∧ okT t ∧ C1 t.runes ≤ 100000000) := ⟨ht, ho, hz⟩
  clear hE hT ht ho hz
  go_enter Tryz.func193, Tryz.ntmps193
  go_wp2
  go_loopw [0, 6, 7] (fun v _ _ wr => ∃ q tt pre, v = .pointer q ∧ isTree wr q tt ∧ okT tt ∧ counted wr (w.heap.size + 1) (C1 pre) (C2 pre) (C3 pre) (C4 pre) ∧ counted wr w.heap.size 0 0 0 0 ∧ Below w.heap.size w wr ∧ C1 (pre ++ tt.runes) ≤ 100000000 ∧ find f [] t.runes = find f pre tt.runes ∧ wr.cell? ⟨w.heap.size + 1, 5, none⟩ = none) (fun v _ _ wr => sizeAt v wr)
  case atStart =>
    have hb2 : Below w.heap.size w ((w.alloc (.cells #[.int .i64 0, .int .i64 0, .int .i64 0, .int .i64 0] 25)).alloc (.cells #[.int .i64 0, .int .i64 0, .int .i64 0, .int .i64 0] 25)) := ((Below.refl _ w).alloc (Nat.le_refl _) _).alloc (by simp) _
    refine ⟨p, t, [], rfl, isTree_below hb2 HI.out.1, HI.out.2.1, ?_, counted_below (counted_new w 0 0 0 0 _) ((Below.refl _ _).alloc (Nat.le_refl _) _), hb2, HI.out.2.2, rfl, by simp [go_sem]⟩
    have := counted_new (w.alloc (.cells #[.int .i64 0, .int .i64 0, .int .i64 0, .int .i64 0] 25)) 0 0 0 0 25
    rwa [World.size_alloc] at this
  case round =>
    obtain ⟨q, tt, pre, rfl, hq, hok, hA, hR, hbw, hzz, hfd, hn5⟩ := hrel
    have HN5 : Hid (wr.cell? ⟨w.heap.size + 1, 5, none⟩ = none) := hn5
    clear hn5
    have HA : Hid _ := hA
    have HRR : Hid _ := hR
    have HBW : Hid _ := hbw
    have HQ : Hid _ := hq
    cases tt with
    | nil =>
      obtain rfl : q = none := hq
      have HF : Hid (find f [] t.runes = pre) := by
        show _ = _
        rw [hfd]
        unfold find
        simp only [T.runes, seek, Option.getD_none, List.append_nil]
        split <;> rfl
      clear hok hzz hfd
      obtain ⟨⟨a0, a1, a2, a3⟩, _⟩ := hA
      obtain ⟨⟨z0, z1, z2, z3⟩, y0, y1, y2, y3⟩ := hR
      go_wp2
      have hset := counted_set (m1 := C1 pre) (m2 := C2 pre) (m3 := C3 pre) (m4 := C4 pre) HRR.out
      obtain ⟨⟨x0, x1, x2, x3⟩, _⟩ := hset
      refine bodyPost_ret (v := cntV pre) (by simp [results, Tryz.results193, go_sem, x0, x1, x2, x3, cntV]) rfl ⟨by rw [HF.out], below_set4 HBW.out (Nat.le_refl _) _ _ _ _⟩
    | node l c r =>
      obtain ⟨b1, pl, pr, rfl, ⟨c0, c1, c2, c3, c4⟩, ⟨c5, c6⟩, _, _, hl, hr⟩ := hq
      obtain ⟨hol, hor, hx⟩ := okT_node hok
      have e0 : (T.node l c r).runes = l.runes ++ c ++ r.runes := by simp [T.runes]
      rw [e0] at hzz hfd
      go_wp2
      have hz1 : C1 (pre ++ l.runes) ≤ 200000000 := by rw [← List.append_assoc, ← List.append_assoc] at hzz; have := C1_left (C1_left hzz); omega
      have hz2 : C1 (pre ++ l.runes ++ c) ≤ 200000000 := by rw [← List.append_assoc, ← List.append_assoc] at hzz; have := C1_left hzz; omega
      have HZ : Hid (C1 (pre ++ (l.runes ++ c ++ r.runes)) ≤ 100000000) := hzz
      have HO : Hid (okT l ∧ okT r ∧ okChunk c) := ⟨hol, hor, hx⟩
      have HL : Hid (isTree wr pl l) := hl
      have hne1 : b1 ≠ w.heap.size + 1 := fun e => by rw [e, HA.out.1.1] at c0; cases c0
      have HRT : Hid (isTree wr pr r) := hr
      have HFD : Hid (find f [] t.runes = find f pre (l.runes ++ c ++ r.runes)) := hfd
      clear hl hr hol hor hx hzz hfd hok e0 hR
      refine wp_region_rel 8 9 (by kernel_rfl) rfl ?_
      intro w11 hb11
      obtain ⟨G, hG⟩ := exists_growth w11
      have a11 := counted_below hA hb11
      obtain ⟨⟨a0, a1, a2, a3⟩, _⟩ := a11
      have ga0 := hG.cell a0
      have ga1 := hG.cell a1
      have ga2 := hG.cell a2
      have ga3 := hG.cell a3
      have g5 := hG.cell (cell_on hb11 c5)
      have cC := fun x => ncounts_any pl l (G x) (isTree_below (hb11.trans ((hG.below x).mono hb11.size)) HL.out)
      have cP := fun x => plus_cnt pre l.runes hz1 (G x)
      unfold cntV at cP
      clear a0 a1 a2 a3
      (refine anyG_step hG (i := 0) rfl (by kernel_rfl) (by kernel_rfl) (by kernel_rfl) (fun K hK => ?_); go_simp; refine hK _ ?_; clear hK K)
      (refine anyG_step hG (i := 1) rfl (by kernel_rfl) (by kernel_rfl) (by kernel_rfl) (fun K hK => ?_); go_simp; refine hK _ ?_; clear hK K)
      (refine anyG_step hG (i := 2) rfl (by kernel_rfl) (by kernel_rfl) (by kernel_rfl) (fun K hK => ?_); go_simp; refine hK _ ?_; clear hK K)
      (refine anyG_step hG (i := 3) rfl (by kernel_rfl) (by kernel_rfl) (by kernel_rfl) (fun K hK => ?_); go_simp; refine hK _ ?_; clear hK K)
      (refine anyG_step hG (i := 4) rfl (by kernel_rfl) (by kernel_rfl) (by kernel_rfl) (fun K hK => ?_); go_simp; refine hK _ ?_; clear hK K)
      (refine anyG_step hG (i := 5) rfl (by kernel_rfl) (by kernel_rfl) (by kernel_rfl) (fun K hK => ?_); go_simp; apply Exists.intro; refine ⟨fun _ => ?_, hK _ ?_⟩; exact cC _; clear hK K)
      (refine anyG_step hG (i := 6) rfl (by kernel_rfl) (by kernel_rfl) (by kernel_rfl) (fun K hK => ?_); go_simp; apply Exists.intro; refine ⟨fun _ => ?_, hK _ ?_⟩; exact cP _; clear hK K)
      clear ga0 ga1 ga2 ga3 g5 cC cP hG
      refine anyG_one (i := 7) rfl (by kernel_rfl) ?_
      intro w12 hb12 K hK
      go_simp
      have hb1a : Below w12.heap.size w12 (w12.alloc (.cells #[.int .i64 0, .int .i64 0, .int .i64 0, .int .i64 0] 25)) := (Below.refl _ w12).alloc (Nat.le_refl _) _
      refine hK _ _ hb1a ?_
      clear hK K
      refine anyG_late (i := 8) rfl (by kernel_rfl) (by kernel_rfl) ?_
      intro w13 hb13 K hK
      have hh := counted_below (counted_new w12 0 0 0 0 25) hb13
      have HH : Hid _ := hh
      obtain ⟨⟨h0, h1, h2, h3⟩, k0, k1, k2, k3⟩ := hh
      go_simp
      refine hK _ _ ?_
      clear hK K
      refine anyG_end (by kernel_rfl) ?_
      intro w14 hb14
      have hx1 := hb11.trans (hb12.mono hb11.size)
      have hx2 := hx1.trans (hb1a.mono hx1.size)
      have hx3 := hx2.trans (hb13.mono hx2.size)
      have hx4 := below_set4 hx3 (B := w12.heap.size) hx1.size (.int .i64 (C1 (pre ++ l.runes))) (.int .i64 (C2 (pre ++ l.runes))) (.int .i64 (C3 (pre ++ l.runes))) (.int .i64 (C4 (pre ++ l.runes)))
      have hB1 := hx4.trans (hb14.mono hx4.size)
      have hC1 := counted_below (counted_set (m1 := C1 (pre ++ l.runes)) (m2 := C2 (pre ++ l.runes)) (m3 := C3 (pre ++ l.runes)) (m4 := C4 (pre ++ l.runes)) HH.out) hb14
      clear hb11 hb12 hb1a hb13 hb14 hx1 hx2 hx3 hx4 HH h0 h1 h2 h3 k0 k1 k2 k3
      generalize w12.heap.size = B1 at *
      have d0 := cell_on hB1 c0
      have d1 := cell_on hB1 c1
      have d2 := cell_on hB1 c2
      have d3 := cell_on hB1 c3
      have d4 := cell_on hB1 c4
      go_wp2
      refine wp_region_rel 8 9 (by kernel_rfl) rfl ?_
      intro w21 hb21
      obtain ⟨G, hG⟩ := exists_growth w21
      have a21 := counted_below hC1 hb21
      obtain ⟨⟨a0, a1, a2, a3⟩, _⟩ := a21
      have ga0 := hG.cell a0
      have ga1 := hG.cell a1
      have ga2 := hG.cell a2
      have ga3 := hG.cell a3
      have g1 := hG.cell (cell_on hb21 d1)
      have g2 := hG.cell (cell_on hb21 d2)
      have g3 := hG.cell (cell_on hb21 d3)
      have g4 := hG.cell (cell_on hb21 d4)
      have cP := fun x => plus_cnt (pre ++ l.runes) c hz2 (G x)
      unfold cntV at cP
      clear a0 a1 a2 a3
      (refine anyG_step hG (i := 0) rfl (by kernel_rfl) (by kernel_rfl) (by kernel_rfl) (fun K hK => ?_); go_simp; refine hK _ ?_; clear hK K)
      (refine anyG_step hG (i := 1) rfl (by kernel_rfl) (by kernel_rfl) (by kernel_rfl) (fun K hK => ?_); go_simp; refine hK _ ?_; clear hK K)
      (refine anyG_step hG (i := 2) rfl (by kernel_rfl) (by kernel_rfl) (by kernel_rfl) (fun K hK => ?_); go_simp; refine hK _ ?_; clear hK K)
      (refine anyG_step hG (i := 3) rfl (by kernel_rfl) (by kernel_rfl) (by kernel_rfl) (fun K hK => ?_); go_simp; refine hK _ ?_; clear hK K)
      (refine anyG_step hG (i := 4) rfl (by kernel_rfl) (by kernel_rfl) (by kernel_rfl) (fun K hK => ?_); go_simp; refine hK _ ?_; clear hK K)
      (refine anyG_step hG (i := 5) rfl (by kernel_rfl) (by kernel_rfl) (by kernel_rfl) (fun K hK => ?_); go_simp; refine hK _ ?_; clear hK K)
      (refine anyG_step hG (i := 6) rfl (by kernel_rfl) (by kernel_rfl) (by kernel_rfl) (fun K hK => ?_); go_simp; apply Exists.intro; refine ⟨fun _ => ?_, hK _ ?_⟩; exact cP _; clear hK K)
      clear ga0 ga1 ga2 ga3 g1 g2 g3 g4 cP hG d0 d1 d2 d3 d4
      refine anyG_one (i := 7) rfl (by kernel_rfl) ?_
      intro w22 hb22 K hK
      go_simp
      have hb2a : Below w22.heap.size w22 (w22.alloc (.cells #[.int .i64 0, .int .i64 0, .int .i64 0, .int .i64 0] 25)) := (Below.refl _ w22).alloc (Nat.le_refl _) _
      refine hK _ _ hb2a ?_
      clear hK K
      refine anyG_late (i := 8) rfl (by kernel_rfl) (by kernel_rfl) ?_
      intro w23 hb23 K hK
      have hh := counted_below (counted_new w22 0 0 0 0 25) hb23
      have HH : Hid _ := hh
      obtain ⟨⟨h0, h1, h2, h3⟩, k0, k1, k2, k3⟩ := hh
      go_simp
      refine hK _ _ ?_
      clear hK K
      refine anyG_end (by kernel_rfl) ?_
      intro w24 hb24
      have hx1 := hb21.trans (hb22.mono hb21.size)
      have hne2 : w22.heap.size ≠ w.heap.size + 1 := by have := hx1.size; have := hB1.size; have := counted_lt HA.out; omega
      have hx2 := hx1.trans (hb2a.mono hx1.size)
      have hx3 := hx2.trans (hb23.mono hx2.size)
      have hx4 := below_set4 hx3 (B := w22.heap.size) hx1.size (.int .i64 (C1 (pre ++ (l.runes ++ c)))) (.int .i64 (C2 (pre ++ (l.runes ++ c)))) (.int .i64 (C3 (pre ++ (l.runes ++ c)))) (.int .i64 (C4 (pre ++ (l.runes ++ c))))
      have hB2 := hx4.trans (hb24.mono hx4.size)
      have hC2 := counted_below (counted_set (m1 := C1 (pre ++ (l.runes ++ c))) (m2 := C2 (pre ++ (l.runes ++ c))) (m3 := C3 (pre ++ (l.runes ++ c))) (m4 := C4 (pre ++ (l.runes ++ c))) HH.out) hb24
      clear hb21 hb22 hb2a hb23 hb24 hx1 hx2 hx3 hx4 HH h0 h1 h2 h3 k0 k1 k2 k3
      generalize w22.heap.size = B2 at *
      have hB12 := hB1.trans (hB2.mono hB1.size)
      have hF := counted_below hC1 hB2
      have HF : Hid _ := hF
      have HH2 : Hid _ := hC2
      have hbw2 := hbw.trans (hB12.mono hbw.size)
      obtain ⟨⟨f0, f1, f2, f3⟩, _⟩ := hF
      go_wp2
      have hq1 := HE.out.2 (pre ++ l.runes) w24 hz1 hbw2
      refine hq1.mono ?_
      rintro e w31 ⟨rfl, hb31⟩
      have hB13 := hB12.trans (hb31.mono hB12.size)
      have hF3 := counted_below HF.out hb31
      have hH3 := counted_below HH2.out hb31
      have hbw3 := hbw.trans (hB13.mono hbw.size)
      have e0 := cell_on hB13 c0
      have e5 := cell_on hB13 c5
      have e6 := cell_on hB13 c6
      have HF3 : Hid _ := hF3
      have HH3 : Hid _ := hH3
      have HB13 : Hid _ := hB13
      have HBW3 : Hid _ := hbw3
      clear f0 f1 f2 f3 hq1 hb31 hC1 hC2 hB1 hB2 hB12 hbw2 c0 c1 c2 c3 c4 c5 c6 hB13 hbw3 hbw hA
      obtain ⟨⟨f0, f1, f2, f3⟩, _⟩ := hF3
      obtain ⟨⟨h0, h1, h2, h3⟩, _⟩ := hH3
      cases hf1 : f (pre ++ l.runes) with
      | true =>
        clear h0 h1 h2 h3 f0 f1 f2 f3
        go_wp2
        go_roundw
        case rel => exact ⟨pl, l, pre, rfl, isTree_below HB13.out HL.out, HO.out.1, counted_below HA.out HB13.out, counted_below HRR.out HB13.out, HBW3.out, (by have := HZ.out; rw [List.append_assoc l.runes, ← List.append_assoc] at this; exact C1_left this), by rw [HFD.out, List.append_assoc, find_left hf1], (cellOn (HB13.out.block (w.heap.size + 1) (counted_lt HA.out)) 5).trans HN5.out⟩
        case measure =>
          show sizeAt _ _ < sizeAt _ _
          rw [sizeAt_tree (isTree_below HB13.out HL.out), sizeAt_tree HQ.out]
          simp only [T.size]
          omega
      | false =>
        go_wp2
        have hq2 := HE.out.2 (pre ++ (l.runes ++ c)) w31 (by rw [← List.append_assoc]; exact hz2) HBW3.out
        refine hq2.mono ?_
        rintro e w41 ⟨rfl, hb41⟩
        have hF4 := counted_below HF3.out hb41
        have hH4 := counted_below HH3.out hb41
        have hB14 := HB13.out.trans (hb41.mono HB13.out.size)
        have hbw4 := HBW3.out.trans (hb41.mono HBW3.out.size)
        have i0 := cell_on hb41 e0
        have i6 := cell_on hb41 e6
        have HB14 : Hid _ := hB14
        have HBW4 : Hid _ := hbw4
        have HF4 : Hid _ := hF4
        have HH4 : Hid _ := hH4
        clear hq2 hb41 f0 f1 f2 f3 h0 h1 h2 h3 e0 e5 e6
        obtain ⟨⟨f0, f1, f2, f3⟩, _⟩ := hF4
        obtain ⟨⟨h0, h1, h2, h3⟩, _⟩ := hH4
        cases hf2 : f (pre ++ (l.runes ++ c)) with
        | true =>
          go_wp2
          refine wp_region_rel 8 9 (by kernel_rfl) rfl ?_
          intro w51 hb51
          obtain ⟨G, hG⟩ := exists_growth w51
          have ga0 := hG.cell (cell_on hb51 f0)
          have ga1 := hG.cell (cell_on hb51 f1)
          have ga2 := hG.cell (cell_on hb51 f2)
          have ga3 := hG.cell (cell_on hb51 f3)
          have g0 := hG.cell (cell_on hb51 i0)
          have hbw5 := hbw4.trans (hb51.mono hbw4.size)
          have cW := fun x => within_any f F cap (pre ++ l.runes) c HO.out.2.2.2.2 (by have := HZ.out; rw [← List.append_assoc, ← List.append_assoc] at this; exact C1_left this) (G x) (Go.Proofs.Utf8Tabs_below HT.out (hbw5.trans ((hG.below x).mono hbw5.size))) (asks_below HE.out (hbw5.trans ((hG.below x).mono hbw5.size)))
          have HN : Hid (find f [] t.runes = (seek f (pre ++ l.runes) c).getD (pre ++ l.runes)) := by
            show _ = _
            rw [HFD.out, find_here hf hf1 (by rw [List.append_assoc]; exact hf2)]
          generalize (seek f (pre ++ l.runes) c).getD (pre ++ l.runes) = X at *
          unfold cntV at cW
          (refine anyG_step hG (i := 0) rfl (by kernel_rfl) (by kernel_rfl) (by kernel_rfl) (fun K hK => ?_); go_simp; refine hK _ ?_; clear hK K)
          (refine anyG_step hG (i := 1) rfl (by kernel_rfl) (by kernel_rfl) (by kernel_rfl) (fun K hK => ?_); go_simp; refine hK _ ?_; clear hK K)
          (refine anyG_step hG (i := 2) rfl (by kernel_rfl) (by kernel_rfl) (by kernel_rfl) (fun K hK => ?_); go_simp; refine hK _ ?_; clear hK K)
          (refine anyG_step hG (i := 3) rfl (by kernel_rfl) (by kernel_rfl) (by kernel_rfl) (fun K hK => ?_); go_simp; refine hK _ ?_; clear hK K)
          (refine anyG_step hG (i := 4) rfl (by kernel_rfl) (by kernel_rfl) (by kernel_rfl) (fun K hK => ?_); go_simp; refine hK _ ?_; clear hK K)
          (refine anyG_step hG (i := 5) rfl (by kernel_rfl) (by kernel_rfl) (by kernel_rfl) (fun K hK => ?_); go_simp; refine hK _ ?_; clear hK K)
          (refine anyG_step hG (i := 6) rfl (by kernel_rfl) (by kernel_rfl) (by kernel_rfl) (fun K hK => ?_); go_simp; refine hK _ ?_; clear hK K)
          (refine anyG_step hG (i := 7) rfl (by kernel_rfl) (by kernel_rfl) (by kernel_rfl) (fun K hK => ?_); go_simp; apply Exists.intro; refine ⟨fun _ => ?_, hK _ ?_⟩; exact cW _; clear hK K)
          clear ga0 ga1 ga2 ga3 g0 cW hG f0 f1 f2 f3 h0 h1 h2 h3 i0 i6
          refine anyG_late (i := 8) rfl (by kernel_rfl) (by kernel_rfl) ?_
          intro w53 hb53 K hK
          have hbw6 := hbw5.trans (hb53.mono hbw5.size)
          have hr6 := counted_below HRR.out (HB14.out.trans ((hb51.trans (hb53.mono hb51.size)).mono HB14.out.size))
          have HR6 : Hid _ := hr6
          obtain ⟨⟨z0, z1, z2, z3⟩, y0, y1, y2, y3⟩ := hr6
          go_simp
          refine hK _ _ ?_
          clear hK K
          refine anyG_end (by kernel_rfl) ?_
          intro w54 hb54
          have hset := counted_below (counted_set (m1 := C1 X) (m2 := C2 X) (m3 := C3 X) (m4 := C4 X) HR6.out) hb54
          have hbw7 := below_set4 hbw6 (Nat.le_refl _) (.int .i64 (C1 X)) (.int .i64 (C2 X)) (.int .i64 (C3 X)) (.int .i64 (C4 X))
          have hbw8 := hbw7.trans (hb54.mono hbw7.size)
          clear z0 z1 z2 z3 y0 y1 y2 y3 hb54
          obtain ⟨⟨x0, x1, x2, x3⟩, _⟩ := hset
          go_wp2
          refine bodyPost_ret (v := cntV X) (by simp [results, Tryz.results193, go_sem, x0, x1, x2, x3, cntV]) rfl ⟨by rw [HN.out], hbw8⟩
        | false =>
          go_wp2
          refine wp_region_but (w.heap.size + 1) 7 7 (by kernel_rfl) rfl ?_
          intro w51 hb51
          obtain ⟨G, hG⟩ := exists_growB (w.heap.size + 1) w51
          have hw0 := But.refl (w.heap.size + 1) w51
          have ga0 := hG.cell hne2 (cell_on hb51 h0)
          have ga1 := hG.cell hne2 (cell_on hb51 h1)
          have ga2 := hG.cell hne2 (cell_on hb51 h2)
          have ga3 := hG.cell hne2 (cell_on hb51 h3)
          have g6 := hG.cell hne1 (cell_on hb51 i6)
          (refine anyB_step hG hw0 (i := 0) rfl (by kernel_rfl) (by kernel_rfl) (by kernel_rfl) (fun K hK => ?_); go_simp; refine hK _ ?_; clear hK K)
          (refine anyB_step hG hw0 (i := 1) rfl (by kernel_rfl) (by kernel_rfl) (by kernel_rfl) (fun K hK => ?_); go_simp; refine hK _ ?_; clear hK K)
          (refine anyB_step hG hw0 (i := 2) rfl (by kernel_rfl) (by kernel_rfl) (by kernel_rfl) (fun K hK => ?_); go_simp; refine hK _ ?_; clear hK K)
          (refine anyB_step hG hw0 (i := 3) rfl (by kernel_rfl) (by kernel_rfl) (by kernel_rfl) (fun K hK => ?_); go_simp; refine hK _ ?_; clear hK K)
          (refine anyB_step hG hw0 (i := 4) rfl (by kernel_rfl) (by kernel_rfl) (by kernel_rfl) (fun K hK => ?_); go_simp; refine hK _ ?_; clear hK K)
          clear ga0 ga1 ga2 ga3 g6 hG f0 f1 f2 f3 h0 h1 h2 h3 i0 i6
          refine anyB_one (i := 5) (by kernel_rfl) ⟨_, rfl, ?_⟩
          intro w53 hb53 K hK
          have hb43 := hb51.trans (hb53.mono hb51.size)
          have hB15 := HB14.out.trans (hb43.mono HB14.out.size)
          have ha6 := counted_below HA.out hB15
          have HA6 : Hid _ := ha6
          have HB15 : Hid _ := hB15
          obtain ⟨⟨z0, z1, z2, z3⟩, y0, y1, y2, y3⟩ := ha6
          go_simp
          refine hK _ _ (fun h => (((h.setCell rfl _).setCell rfl _).setCell rfl _).setCell rfl _) ?_
          clear hK K z0 z1 z2 z3 y0 y1 y2 y3
          refine anyB_one (i := 6) (by kernel_rfl) ⟨_, rfl, ?_⟩
          intro w55 hb55 K hK
          go_simp
          refine hK _ _ (fun h => h) ?_
          clear hK K
          refine anyB_end (by kernel_rfl) ?_
          intro w56 hb56
          have hb57 := hb55.trans (hb56.mono hb55.size)
          have HN6 : Hid (w53.cell? ⟨w.heap.size + 1, 5, none⟩ = none) := (cellOn (HB15.out.block (w.heap.size + 1) (counted_lt HA.out)) 5).trans HN5.out
          have HBU : Hid _ := ((((But.refl (w.heap.size + 1) w53).setCell (p := ⟨w.heap.size + 1, 0, none⟩) rfl (.int .i64 (C1 (pre ++ (l.runes ++ c))))).setCell (p := ⟨w.heap.size + 1, 1, none⟩) rfl (.int .i64 (C2 (pre ++ (l.runes ++ c))))).setCell (p := ⟨w.heap.size + 1, 2, none⟩) rfl (.int .i64 (C3 (pre ++ (l.runes ++ c))))).setCell (p := ⟨w.heap.size + 1, 3, none⟩) rfl (.int .i64 (C4 (pre ++ (l.runes ++ c))))
          have hT6 := isTree_below hb57 (isTree_but HBU.out HN6.out (isTree_below HB15.out HRT.out))
          have hA7 := counted_below (counted_set (m1 := C1 (pre ++ (l.runes ++ c))) (m2 := C2 (pre ++ (l.runes ++ c))) (m3 := C3 (pre ++ (l.runes ++ c))) (m4 := C4 (pre ++ (l.runes ++ c))) HA6.out) hb57
          have hbw5 : Below w.heap.size w w53 := HBW4.out.trans (hb43.mono HBW4.out.size)
          have hbw6 := below_set4 hbw5 (B := w.heap.size + 1) (Nat.le_succ _) (.int .i64 (C1 (pre ++ (l.runes ++ c)))) (.int .i64 (C2 (pre ++ (l.runes ++ c)))) (.int .i64 (C3 (pre ++ (l.runes ++ c)))) (.int .i64 (C4 (pre ++ (l.runes ++ c))))
          have hbw7 := hbw6.trans (hb57.mono hbw6.size)
          have hR5 := counted_below HRR.out HB15.out
          have hR7 := counted_below (counted_on (HBU.out.block w.heap.size (counted_lt hR5) (by omega)) hR5) hb57
          have hlt5 : w.heap.size + 1 < w53.heap.size := Nat.lt_of_lt_of_le (counted_lt HA.out) HB15.out.size
          have hn7 := (cellOn (hb57.block (w.heap.size + 1) (by simpa [World.setCell] using hlt5)) 5).trans ((World.cell?_setCell_other _ _ ⟨w.heap.size + 1, 5, none⟩ _ (by simp)).trans ((World.cell?_setCell_other _ _ ⟨w.heap.size + 1, 5, none⟩ _ (by simp)).trans ((World.cell?_setCell_other _ _ ⟨w.heap.size + 1, 5, none⟩ _ (by simp)).trans ((World.cell?_setCell_other _ _ ⟨w.heap.size + 1, 5, none⟩ _ (by simp)).trans HN6.out))))
          have HG : Hid (find f [] t.runes = find f (pre ++ (l.runes ++ c)) r.runes) := by
            show _ = _
            rw [HFD.out, find_right hf hf2]
          clear hb43 hb51 hb53 hb55 hb56 hB14 hbw4 hbw5 hbw6 hB15 hR5 hlt5
          go_wp2
          go_roundw
          case rel => exact ⟨pr, r, pre ++ (l.runes ++ c), rfl, hT6, HO.out.2.1, hA7, hR7, hbw7, (by have := HZ.out; rwa [← List.append_assoc] at this), HG.out, hn7⟩
          case measure =>
            show sizeAt _ _ < sizeAt _ _
            rw [sizeAt_tree hT6, sizeAt_tree HQ.out]
            simp only [T.size]
            omega
end Go.Proofs.YtldhbjmillfjgabGreatDoor

namespace Go.Proofs.YtldhbjmillfjgabGreatDoor
open Go.RowKit
set_option linter.unusedVariables false
attribute [local go_sem] Oper.semAt_some yieldsUpon okUpon field0 field3

/-- How many of a unit. -/
def by_ (u : Int) (rs : List Nat) : Int := if u = 1 then C1 rs else if u = 2 then C2 rs else if u = 3 then C3 rs else 0
theorem by_append (u : Int) (a b : List Nat) : by_ u (a ++ b) = by_ u a + by_ u b := by
  unfold by_
  split
  · exact C1_append a b
  · split
    · exact C2_append a b
    · split
      · exact C3_append a b
      · rfl
theorem by_pos (u : Int) (a : List Nat) : 0 ≤ by_ u a := by
  unfold by_
  split
  · exact C1_pos a
  · split
    · exact (C2_le a).1
    · split
      · exact (C3_le a).1
      · omega

set_option maxRecDepth 100000 in
set_option maxHeartbeats 2000000 in
theorem In_any (u : Int) (rs : List Nat) (w : World) : Calls Tryz.prog 19 #[cntV rs, .int .i64 u] w fun e w' => e = .returned (.int .i64 (by_ u rs)) ∧ Below w.heap.size w w' := by
  have hbw : Below w.heap.size w (w.alloc (.cells #[.int .i64 (C1 rs), .int .i64 (C2 rs), .int .i64 (C3 rs), .int .i64 (C4 rs)] 25)) := (Below.refl _ _).alloc (Nat.le_refl _) _
  unfold cntV by_
  by_cases h1 : u = 1
  · subst h1
    go_enter Tryz.func19, Tryz.ntmps19
    go_wp2
    go_ret
    exact ⟨rfl, hbw⟩
  · have k1 : (u == 1) = false := beq_eq_false_iff_ne.2 h1
    rw [if_neg h1]
    by_cases h2 : u = 2
    · subst h2
      go_enter Tryz.func19, Tryz.ntmps19
      go_wp2
      go_ret
      exact ⟨rfl, hbw⟩
    · have k2 : (u == 2) = false := beq_eq_false_iff_ne.2 h2
      rw [if_neg h2]
      by_cases h3 : u = 3
      · subst h3
        go_enter Tryz.func19, Tryz.ntmps19
        go_wp2
        go_ret
        exact ⟨rfl, hbw⟩
      · have k3 : (u == 3) = false := beq_eq_false_iff_ne.2 h3
        rw [if_neg h3]
        clear h1 h2 h3
        go_enter Tryz.func19, Tryz.ntmps19
        go_wp2
        go_ret
        exact ⟨rfl, hbw⟩

def reachesBy (u at_ : Int) (rs : List Nat) : Bool := decide (at_ ≤ by_ u rs)
theorem reachesBy_rising (u at_ : Int) : rising (reachesBy u at_) := fun a b h => by
  have h1 : at_ ≤ by_ u a := of_decide_eq_true h
  have := by_pos u b
  exact decide_eq_true (by rw [by_append]; omega)
end Go.Proofs.YtldhbjmillfjgabGreatDoor

namespace Go.Proofs.YtldhbjmillfjgabGreatDoor
open Go.RowKit
set_option linter.unusedVariables false
attribute [local go_sem] Oper.semAt_some yieldsUpon okUpon field0 field3

set_option maxRecDepth 100000 in
set_option maxHeartbeats 2000000 in
theorem ahead1_asks (u at_ : Int) (b1 b2 : Nat) (W : World) (hu : W.cell? ⟨b1, 0, none⟩ = some (.int .i64 u)) (ha : W.cell? ⟨b2, 0, none⟩ = some (.int .i64 at_)) : asks W 194 #[.pointer (some ⟨b1, 0, none⟩), .pointer (some ⟨b2, 0, none⟩)] (reachesBy u at_) := by
  refine ⟨enters_of Tryz.func194 (by kernel_rfl) rfl, fun rs wx _ hbx => ?_⟩
  have h0 := cell_on hbx hu
  have h1 := cell_on hbx ha
  have hbw : Below wx.heap.size wx (wx.alloc (.cells #[.int .i64 (C1 rs), .int .i64 (C2 rs), .int .i64 (C3 rs), .int .i64 (C4 rs)] 25)) := (Below.refl _ _).alloc (Nat.le_refl _) _
  have hc := counted_new wx (C1 rs) (C2 rs) (C3 rs) (C4 rs) 25
  have k0 := cell_on hbw h0
  have k1 := cell_on hbw h1
  have cI := fun wy => In_any u rs wy
  unfold cntV at cI ⊢
  unfold reachesBy
  generalize by_ u rs = n at *
  go_enter Tryz.func194, Tryz.ntmps194
  go_wp2_with (first | (go_at_call 9999) | fail)
  refine wp_region_rel 6 6 (by kernel_rfl) rfl ?_
  intro w1 hb1
  obtain ⟨G, hG⟩ := exists_growth w1
  have hc1 := counted_below hc hb1
  obtain ⟨⟨a0, a1, a2, a3⟩, _⟩ := hc1
  have g0 := hG.cell a0
  have g1 := hG.cell a1
  have g2 := hG.cell a2
  have g3 := hG.cell a3
  have gu := hG.cell (cell_on hb1 k0)
  have ga := hG.cell (cell_on hb1 k1)
  have cG := fun x => cI (G x)
  (refine anyG_step hG (i := 0) rfl (by kernel_rfl) (by kernel_rfl) (by kernel_rfl) (fun K hK => ?_); go_simp; refine hK _ ?_; clear hK K)
  (refine anyG_step hG (i := 1) rfl (by kernel_rfl) (by kernel_rfl) (by kernel_rfl) (fun K hK => ?_); go_simp; refine hK _ ?_; clear hK K)
  (refine anyG_step hG (i := 2) rfl (by kernel_rfl) (by kernel_rfl) (by kernel_rfl) (fun K hK => ?_); go_simp; apply Exists.intro; refine ⟨fun _ => ?_, hK _ ?_⟩; exact cG _; clear hK K)
  (refine anyG_step hG (i := 3) rfl (by kernel_rfl) (by kernel_rfl) (by kernel_rfl) (fun K hK => ?_); go_simp; refine hK _ ?_; clear hK K)
  (refine anyG_step hG (i := 4) rfl (by kernel_rfl) (by kernel_rfl) (by kernel_rfl) (fun K hK => ?_); go_simp; refine hK _ ?_; clear hK K)
  (refine anyG_step hG (i := 5) rfl (by kernel_rfl) (by kernel_rfl) (by kernel_rfl) (fun K hK => ?_); go_simp; refine hK _ ?_; clear hK K)
  clear g0 g1 g2 g3 gu ga cG hG
  refine anyG_end (by kernel_rfl) ?_
  intro w2 hb2
  have hb4 := hbw.trans ((hb1.trans (hb2.mono hb1.size)).mono hbw.size)
  clear hb1 hb2 a0 a1 a2 a3 k0 k1 hc
  go_wp2
  go_ret
  exact ⟨by simp, hb4⟩

end Go.Proofs.YtldhbjmillfjgabGreatDoor

namespace Go.Proofs.YtldhbjmillfjgabGreatDoor
open Go.RowKit
set_option linter.unusedVariables false
attribute [local go_sem] Oper.semAt_some yieldsUpon okUpon field0 field3

set_option maxRecDepth 100000 in
set_option maxHeartbeats 2000000 in
theorem isUnit_good (u : Int) (hu : u = 1 ∨ u = 2 ∨ u = 3) (w : World) : Calls Tryz.prog 192 #[.int .i64 u] w fun e w' => e = .returned (.bool true) ∧ w' = w := by
  rcases hu with rfl | rfl | rfl
  · go_enter Tryz.func192, Tryz.ntmps192
    go_wp2
    go_ret
    exact ⟨rfl, rfl⟩
  · go_enter Tryz.func192, Tryz.ntmps192
    go_wp2
    go_ret
    exact ⟨rfl, rfl⟩
  · go_enter Tryz.func192, Tryz.ntmps192
    go_wp2
    go_ret
    exact ⟨rfl, rfl⟩

set_option maxRecDepth 100000 in
set_option maxHeartbeats 2000000 in
theorem ahead_any (b : Nat) (rs : List Nat) (u at_ : Int) (hu : u = 1 ∨ u = 2 ∨ u = 3) (hl0 : 0 ≤ at_) (hl1 : at_ ≤ by_ u rs) (w : World) (hT : Lib.Utf8Tabs 2 3 w) (h : isRope w b rs) (hz : C1 rs ≤ 100000000) :
    Calls Tryz.prog 163 #[.pointer (some ⟨b, 0, none⟩), .int .i64 u, .int .i64 at_] w fun e w' => e = .returned (.tuple (if by_ u (find (reachesBy u at_) [] rs) = at_ then #[cntV (find (reachesBy u at_) [] rs), .nilIface] else #[cntV [], .iface 26 (.int .i64 10)])) ∧ Below w.heap.size w w' := by
  obtain ⟨q, t, h1, _, _, h4, ho, rfl⟩ := h
  have hb2 : Below w.heap.size w (((w.alloc (.cells #[.int .i64 u] 3)).alloc (.cells #[.int .i64 at_] 3)).alloc (.cells #[.int .i64 0, .int .i64 0, .int .i64 0, .int .i64 0] 25)) := (((Below.refl _ w).alloc (Nat.le_refl _) _).alloc (by simp) _).alloc (by simp; omega) _
  have hlu : (((w.alloc (.cells #[.int .i64 u] 3)).alloc (.cells #[.int .i64 at_] 3)).alloc (.cells #[.int .i64 0, .int .i64 0, .int .i64 0, .int .i64 0] 25)).cell? ⟨w.heap.size, 0, none⟩ = some (.int .i64 u) := by simp [go_sem]
  have hla : (((w.alloc (.cells #[.int .i64 u] 3)).alloc (.cells #[.int .i64 at_] 3)).alloc (.cells #[.int .i64 0, .int .i64 0, .int .i64 0, .int .i64 0] 25)).cell? ⟨w.heap.size + 1, 0, none⟩ = some (.int .i64 at_) := by simp [go_sem]
  have hr := counted_new ((w.alloc (.cells #[.int .i64 u] 3)).alloc (.cells #[.int .i64 at_] 3)) 0 0 0 0 25
  rw [World.size_alloc, World.size_alloc] at hr
  have cT := fun wx (hb : Below w.heap.size w wx) => ropetree_any b q wx (cell_on hb h1)
  have cC := fun wx (hb : Below w.heap.size w wx) => ncounts_any q t wx (isTree_below hb h4)
  have cN := fun wx => isUnit_good u hu wx
  have cI := fun wx => In_any u t.runes wx
  have HU : Hid (∀ wx, Below w.heap.size w wx → wx.cell? ⟨w.heap.size, 0, none⟩ = some (.int .i64 u) → wx.cell? ⟨w.heap.size + 1, 0, none⟩ = some (.int .i64 at_) → Calls Tryz.prog 193 #[.pointer q, .func (.func 194) #[] #[.pointer (some ⟨w.heap.size, 0, none⟩), .pointer (some ⟨w.heap.size + 1, 0, none⟩)]] wx fun e w' => e = .returned (cntV (find (reachesBy u at_) [] t.runes)) ∧ Below wx.heap.size wx w') :=
    fun wx (hb : Below w.heap.size w wx) h1 h2 => until_any (reachesBy u at_) (reachesBy_rising u at_) _ _ q t wx (Go.Proofs.Utf8Tabs_below hT hb) (isTree_below hb h4) ho hz (ahead1_asks u at_ w.heap.size (w.heap.size + 1) wx h1 h2)
  have HX : Hid (∀ wx, Calls Tryz.prog 19 #[cntV (find (reachesBy u at_) [] t.runes), .int .i64 u] wx fun e w' => e = .returned (.int .i64 (by_ u (find (reachesBy u at_) [] t.runes))) ∧ Below wx.heap.size wx w') := fun wx => In_any u _ wx
  generalize find (reachesBy u at_) [] t.runes = X at *
  generalize by_ u t.runes = n at *
  generalize by_ u X = nx at *
  have n0 : ¬ at_ < 0 := by omega
  have n1 : ¬ n < at_ := by omega
  clear h4 ho hT hu hz
  unfold cntV at cI HU HX ⊢
  go_enter Tryz.func163, Tryz.ntmps163
  go_wp2_with (first
    | (go_at_call 192; refine (cN _).mono ?_; rintro e w1 ⟨rfl, hw1⟩; obtain rfl := hw1.symm)
    | (go_at_call 66; refine (cT _ hb2).mono ?_; rintro e w1 ⟨rfl, hw1⟩; obtain rfl := hw1.symm)
    | fail)
  obtain ⟨W2, hW2⟩ : ∃ W2, (((w.alloc (.cells #[.int .i64 u] 3)).alloc (.cells #[.int .i64 at_] 3)).alloc (.cells #[.int .i64 0, .int .i64 0, .int .i64 0, .int .i64 0] 25)) = W2 := ⟨_, rfl⟩
  rw [hW2] at hb2 hlu hla hr ⊢
  clear hW2
  refine wp_region_rel 10 10 (by kernel_rfl) rfl ?_
  intro w3 hb3
  have hb23 := hb2.trans (hb3.mono hb2.size)
  obtain ⟨G, hG⟩ := exists_growth w3
  have gl := hG.cell (cell_on hb3 hla)
  have gu := hG.cell (cell_on hb3 hlu)
  have cG := fun x => cC (G x) (hb23.trans ((hG.below x).mono hb23.size))
  have cJ := fun x => cI (G x)
  (refine anyG_step hG (i := 0) rfl (by kernel_rfl) (by kernel_rfl) (by kernel_rfl) (fun K hK => ?_); go_simp; refine hK _ ?_; clear hK K)
  (refine anyG_step hG (i := 1) rfl (by kernel_rfl) (by kernel_rfl) (by kernel_rfl) (fun K hK => ?_); go_simp; refine hK _ ?_; clear hK K)
  (refine anyG_step hG (i := 2) rfl (by kernel_rfl) (by kernel_rfl) (by kernel_rfl) (fun K hK => ?_); go_simp; refine hK _ ?_; clear hK K)
  (refine anyG_step hG (i := 3) rfl (by kernel_rfl) (by kernel_rfl) (by kernel_rfl) (fun K hK => ?_); go_simp; refine hK _ ?_; clear hK K)
  (refine anyG_step hG (i := 4) rfl (by kernel_rfl) (by kernel_rfl) (by kernel_rfl) (fun K hK => ?_); go_simp; refine hK _ ?_; clear hK K)
  (refine anyG_step hG (i := 5) rfl (by kernel_rfl) (by kernel_rfl) (by kernel_rfl) (fun K hK => ?_); go_simp; apply Exists.intro; refine ⟨fun _ => ?_, hK _ ?_⟩; exact cG _; clear hK K)
  (refine anyG_step hG (i := 6) rfl (by kernel_rfl) (by kernel_rfl) (by kernel_rfl) (fun K hK => ?_); go_simp; refine hK _ ?_; clear hK K)
  (refine anyG_step hG (i := 7) rfl (by kernel_rfl) (by kernel_rfl) (by kernel_rfl) (fun K hK => ?_); go_simp; apply Exists.intro; refine ⟨fun _ => ?_, hK _ ?_⟩; exact cJ _; clear hK K)
  (refine anyG_step hG (i := 8) rfl (by kernel_rfl) (by kernel_rfl) (by kernel_rfl) (fun K hK => ?_); go_simp; refine hK _ ?_; clear hK K)
  (refine anyG_step hG (i := 9) rfl (by kernel_rfl) (by kernel_rfl) (by kernel_rfl) (fun K hK => ?_); go_simp; refine hK _ ?_; clear hK K)
  clear gl gu cG cJ hG
  refine anyG_end (by kernel_rfl) ?_
  intro w4 hb4
  have hb34 := hb3.trans (hb4.mono hb3.size)
  have hb24 := hb2.trans (hb34.mono hb2.size)
  have hlu4 := cell_on hb34 hlu
  have hla4 := cell_on hb34 hla
  have hr4 := counted_below hr hb34
  have cU4 := HU.out w4 hb24 hlu4 hla4
  clear hb3 hb4 hb34 hb23 cC cT cI cN hlu hla hr
  go_wp2_with (first
    | (go_at_call 193; refine cU4.mono ?_; rintro e w5 ⟨rfl, hb5⟩)
    | fail)
  have hbx : Below w5.heap.size w5 (w5.alloc (.cells #[.int .i64 (C1 X), .int .i64 (C2 X), .int .i64 (C3 X), .int .i64 (C4 X)] 25)) := (Below.refl _ _).alloc (Nat.le_refl _) _
  have hb46 := hb5.trans (hbx.mono hb5.size)
  have hcX := counted_new w5 (C1 X) (C2 X) (C3 X) (C4 X) 25
  have hlu6 := cell_on hb46 hlu4
  have hla6 := cell_on hb46 hla4
  have hr6 := counted_below hr4 hb46
  have hb26 := hb24.trans (hb46.mono hb24.size)
  generalize (w5.alloc (.cells #[.int .i64 (C1 X), .int .i64 (C2 X), .int .i64 (C3 X), .int .i64 (C4 X)] 25)) = W6 at *
  generalize w5.heap.size = B5 at *
  clear hb5 hbx hb46 hlu4 hla4 hr4 hb24 cU4
  refine wp_region_rel 5 5 (by kernel_rfl) rfl ?_
  intro w7 hb7
  obtain ⟨G, hG⟩ := exists_growth w7
  have hc7 := counted_below hcX hb7
  obtain ⟨⟨a0, a1, a2, a3⟩, _⟩ := hc7
  have g0 := hG.cell a0
  have g1 := hG.cell a1
  have g2 := hG.cell a2
  have g3 := hG.cell a3
  have gu := hG.cell (cell_on hb7 hlu6)
  have ga := hG.cell (cell_on hb7 hla6)
  have cG := fun x => HX.out (G x)
  (refine anyG_step hG (i := 0) rfl (by kernel_rfl) (by kernel_rfl) (by kernel_rfl) (fun K hK => ?_); go_simp; refine hK _ ?_; clear hK K)
  (refine anyG_step hG (i := 1) rfl (by kernel_rfl) (by kernel_rfl) (by kernel_rfl) (fun K hK => ?_); go_simp; refine hK _ ?_; clear hK K)
  (refine anyG_step hG (i := 2) rfl (by kernel_rfl) (by kernel_rfl) (by kernel_rfl) (fun K hK => ?_); go_simp; apply Exists.intro; refine ⟨fun _ => ?_, hK _ ?_⟩; exact cG _; clear hK K)
  (refine anyG_step hG (i := 3) rfl (by kernel_rfl) (by kernel_rfl) (by kernel_rfl) (fun K hK => ?_); go_simp; refine hK _ ?_; clear hK K)
  (refine anyG_step hG (i := 4) rfl (by kernel_rfl) (by kernel_rfl) (by kernel_rfl) (fun K hK => ?_); go_simp; refine hK _ ?_; clear hK K)
  clear g0 g1 g2 g3 gu ga cG hG a0 a1 a2 a3
  refine anyG_end (by kernel_rfl) ?_
  intro w8 hb8
  have hb78 := hb7.trans (hb8.mono hb7.size)
  have hb28 := hb26.trans (hb78.mono hb26.size)
  have hc8 := counted_below hcX hb78
  have hr8 := counted_below hr6 hb78
  have HR8 : Hid _ := hr8
  obtain ⟨⟨a0, a1, a2, a3⟩, _⟩ := hc8
  obtain ⟨⟨z0, z1, z2, z3⟩, y0, y1, y2, y3⟩ := hr8
  clear hb7 hb8 hb78 hb26 hcX hr6 hlu6 hla6
  by_cases hx : nx = at_
  · subst hx
    go_wp2
    have hset := counted_set (m1 := C1 X) (m2 := C2 X) (m3 := C3 X) (m4 := C4 X) HR8.out
    obtain ⟨⟨s0, s1, s2, s3⟩, _⟩ := hset
    refine bodyPost_ret (v := .tuple #[.agg #[.int .i64 (C1 X), .int .i64 (C2 X), .int .i64 (C3 X), .int .i64 (C4 X)], .nilIface]) (by simp [results, Tryz.results163, go_sem, s0, s1, s2, s3]) rfl ⟨rfl, below_set4 hb28 (by omega) _ _ _ _⟩
  · have hx1 : (nx == at_) = false := beq_eq_false_iff_ne.2 hx
    go_wp2
    have hset := counted_set (m1 := 0) (m2 := 0) (m3 := 0) (m4 := 0) HR8.out
    obtain ⟨⟨s0, s1, s2, s3⟩, _⟩ := hset
    refine bodyPost_ret (v := .tuple #[.agg #[.int .i64 0, .int .i64 0, .int .i64 0, .int .i64 0], .iface 26 (.int .i64 10)]) (by simp [results, Tryz.results163, go_sem, s0, s1, s2, s3]) rfl ⟨rfl, below_set4 hb28 (by omega) _ _ _ _⟩
end Go.Proofs.YtldhbjmillfjgabGreatDoor

namespace Go.Proofs.YtldhbjmillfjgabGreatDoor
open Go.RowKit
set_option linter.unusedVariables false
attribute [local go_sem] Oper.semAt_some

theorem find_zero (u : Int) (rs : List Nat) : find (reachesBy u 0) [] rs = [] := by
  unfold find
  have : reachesBy u 0 [] = true := decide_eq_true (by_pos u [])
  rw [if_pos this]
theorem by_nil (u : Int) : by_ u [] = 0 := by
  unfold by_
  split
  · rfl
  · split
    · rfl
    · split <;> rfl
set_option maxRecDepth 100000 in
set_option maxHeartbeats 2000000 in
theorem unitError_good (b : Nat) (rs : List Nat) (u : Int) (hu : u = 1 ∨ u = 2 ∨ u = 3) (w : World) (hT : Lib.Utf8Tabs 2 3 w) (h : isRope w b rs) (hz : C1 rs ≤ 100000000) :
    Calls Tryz.prog 162 #[.pointer (some ⟨b, 0, none⟩), .int .i64 u] w fun e w' => e = .returned .nilIface ∧ Below w.heap.size w w' := by
  have cA := ahead_any b rs u 0 hu (Int.le_refl _) (by_pos u rs) w hT h hz
  rw [find_zero, by_nil, if_pos rfl] at cA
  have HA : Hid _ := cA
  unfold cntV at HA
  clear cA hT h hu hz
  go_enter Tryz.func162, Tryz.ntmps162
  go_wp2_with (first
    | (go_at_call 163; refine Calls.mono HA.out ?_; rintro e w1 ⟨rfl, hb1⟩)
    | fail)
  go_ret
  exact ⟨rfl, hb1.alloc hb1.size _⟩

/-- A place by u as one by v. -/
theorem convert_any (b : Nat) (rs : List Nat) (u v at_ : Int) (hu : u = 1 ∨ u = 2 ∨ u = 3) (hv : v = 1 ∨ v = 2 ∨ v = 3) (hl0 : 0 ≤ at_) (hl1 : at_ ≤ by_ u rs) (w : World) (hT : Lib.Utf8Tabs 2 3 w) (h : isRope w b rs) (hz : C1 rs ≤ 100000000) (X : List Nat) (hX : find (reachesBy u at_) [] rs = X) (hfine : by_ u X = at_) :
    Calls Tryz.prog 119 #[.pointer (some ⟨b, 0, none⟩), .int .i64 u, .int .i64 v, .int .i64 at_] w fun e w' => e = .returned (.tuple #[.int .i64 (by_ v X), .nilIface]) ∧ Below w.heap.size w w' := by
  have cU : Hid _ := unitError_good b rs v hv w hT h hz
  have cA : Hid (∀ wx, Below w.heap.size w wx → Calls Tryz.prog 163 #[.pointer (some ⟨b, 0, none⟩), .int .i64 u, .int .i64 at_] wx fun e w' => e = .returned (.tuple #[cntV X, .nilIface]) ∧ Below wx.heap.size wx w') := fun wx hb => by
    have := ahead_any b rs u at_ hu hl0 hl1 wx (Go.Proofs.Utf8Tabs_below hT hb) (isRope_below h hb) hz
    rw [hX, if_pos hfine] at this
    exact this
  have cI : Hid (∀ wx, Calls Tryz.prog 19 #[cntV X, .int .i64 v] wx fun e w' => e = .returned (.int .i64 (by_ v X)) ∧ Below wx.heap.size wx w') := fun wx => In_any v X wx
  unfold cntV at cA cI
  clear hT h hu hz hv hl0 hl1 hX hfine
  generalize by_ v X = nx at *
  go_enter Tryz.func119, Tryz.ntmps119
  go_wp2_with (first
    | (go_at_call 162; refine Calls.mono cU.out ?_; rintro e w1 ⟨rfl, hb1⟩; have HB1 : Hid (Below w.heap.size w w1) := hb1; clear hb1)
    | (go_at_call 163; refine (cA.out _ HB1.out).mono ?_; rintro e w2 ⟨rfl, hb2⟩; have HB2 : Hid (Below w.heap.size w w2) := HB1.out.trans (hb2.mono HB1.out.size); clear hb2)
    | (go_at_call 19; refine (cI.out _).mono ?_; rintro e w3 ⟨rfl, hb3⟩)
    | fail)
  go_ret2
  have hb2' := HB2.out.alloc HB2.out.size (.cells #[.int .i64 (C1 X), .int .i64 (C2 X), .int .i64 (C3 X), .int .i64 (C4 X)] 25)
  exact ⟨rfl, hb2'.trans (hb3.mono hb2'.size)⟩
end Go.Proofs.YtldhbjmillfjgabGreatDoor

namespace Go.Proofs.YtldhbjmillfjgabGreatDoor

/-- A part of an operation. -/
structure Pt where
  keep : Int
  drop : Int
  put : List UInt8
deriving DecidableEq

/-- What a gathering keeps: what it told, what is put and dropped since. -/
structure NSt where
  out : List Pt
  put : List UInt8
  drop : Int
deriving DecidableEq

def tellP (s : NSt) : List Pt := s.out ++ ((if s.put = [] then [] else [⟨0, 0, s.put⟩]) ++ (if s.drop = 0 then [] else [⟨0, s.drop, []⟩]))
def pushKeep (l : List Pt) (k : Int) : List Pt := match l.getLast? with
  | some p => if 0 < p.keep then l.dropLast ++ [⟨p.keep + k, p.drop, p.put⟩] else l ++ [⟨k, 0, []⟩]
  | none => l ++ [⟨k, 0, []⟩]
def addP (s : NSt) (p : Pt) : NSt := if p.keep = 0 then ⟨s.out, s.put ++ p.put, s.drop + p.drop⟩ else ⟨pushKeep (tellP ⟨s.out, s.put ++ p.put, s.drop + p.drop⟩) p.keep, [], 0⟩
theorem tellP_done (l : List Pt) : tellP ⟨l, [], 0⟩ = l := by simp [tellP]
def lenP (p : Pt) : Int := p.keep + p.drop
/-- What the document's own gathering keeps. -/
structure KSt where
  out : List Pt
  put : List UInt8
  drop : Int
  keep : Int
deriving DecidableEq
/-- What is put at a gap, or that a byte behind it is dropped: what was kept is told. -/
def flushK (s : KSt) (q : List UInt8) (d : Bool) : KSt := if q ≠ [] ∨ d = true then ⟨if 0 < s.keep then s.out ++ [⟨s.keep, 0, []⟩] else s.out, s.put ++ q, s.drop, if 0 < s.keep then 0 else s.keep⟩ else s
def byteK (s : KSt) (d : Bool) : KSt := if d then ⟨s.out, s.put, s.drop + 1, s.keep⟩ else ⟨tellP ⟨s.out, s.put, s.drop⟩, [], 0, s.keep + 1⟩
def stepK (s : KSt) (x : List UInt8 × Bool) : KSt := byteK (flushK s x.1 x.2) x.2
end Go.Proofs.YtldhbjmillfjgabGreatDoor

namespace Go.Proofs.YtldhbjmillfjgabGreatDoor
open Go.RowKit
set_option linter.unusedVariables false

/-- A part's cells, an operation's cells. -/
def partCells (p : Pt) : List Value := [.int .i64 p.keep, .int .i64 p.drop, .string ⟨p.put.toArray⟩]
def cellsP (l : List Pt) : List Value := l.flatMap partCells
theorem cellsP_snoc (l : List Pt) (p : Pt) : cellsP (l ++ [p]) = cellsP l ++ partCells p := by simp [cellsP]
theorem partCells_one (p : Pt) : ∀ u ∈ partCells p, u.oneCell' = true := by
  intro u hu
  simp only [partCells, List.mem_cons, List.not_mem_nil, or_false] at hu
  rcases hu with rfl | rfl | rfl <;> rfl
theorem cells_new (w : World) (l : List Value) (t : TypeId) : ∀ j u, l[j]? = some u → (w.alloc (.cells l.toArray t)).cell? ((⟨w.heap.size, 0, none⟩ : Addr).add j) = some u := by
  intro j u hj
  obtain ⟨hl, rfl⟩ := List.getElem?_eq_some_iff.1 hj
  rw [Addr.add_lit, Nat.zero_add]
  simp

theorem info_part : (Tryz.prog.info? 50).map (fun i => (i.zero, i.size, i.bytes)) = some (some (.agg #[.int .i64 0, .int .i64 0, .string ⟨#[]⟩]), 3, 32) := by kernel_rfl
theorem info_u8 : (Tryz.prog.info? 5).map (fun i => (i.zero, i.size, i.bytes)) = some (some (.int .u8 0), 1, 1) := by kernel_rfl

/-- Two rows of cells of different types are different rows. -/
theorem own_ne {w : World} {B B' e e' size size' n n' : Nat} {v v' : Value} {xs xs' : List Value} (h : w.ownsRow B e size v n xs) (h' : w.ownsRow B' e' size' v' n' xs') (hne : e ≠ e') : v.ownBlock = none ∨ v.ownBlock ≠ v'.ownBlock := by
  rcases h.2 with ⟨rfl, _⟩ | ⟨g, cap, cur, rfl, _, hg, _⟩
  · exact .inl rfl
  · rcases h'.2 with ⟨rfl, _⟩ | ⟨g', cap', cur', rfl, _, hg', _⟩
    · exact .inr (by simp [Value.ownBlock])
    · refine .inr fun e => ?_
      simp only [Value.ownBlock, Option.some.injEq] at e
      subst e
      rw [hg] at hg'
      simp only [Option.some.injEq, Obj.cells.injEq] at hg'
      exact hne hg'.2.1

/-- The variables of a gathering: op in block a, put, drop and tell behind it; what op and put hold lies at M or behind it. -/
structure gath (M : Nat) (w : World) (a : Nat) (s : NSt) : Prop where
  out : ∃ p c, w.cell? ⟨a, 0, none⟩ = some (.slice p s.out.length c) ∧ w.ownsRow M 50 3 (.slice p s.out.length c) s.out.length (cellsP s.out)
  outF : w.frozen? ⟨a, 0, none⟩ = false
  put : ∃ p c, w.cell? ⟨a + 1, 0, none⟩ = some (.slice p s.put.length c) ∧ w.ownsRow M 5 1 (.slice p s.put.length c) s.put.length (Lib.byteCells s.put)
  putF : w.frozen? ⟨a + 1, 0, none⟩ = false
  drop : w.cell? ⟨a + 2, 0, none⟩ = some (.int .i64 s.drop)
  dropF : w.frozen? ⟨a + 2, 0, none⟩ = false
  tell : w.cell? ⟨a + 3, 0, none⟩ = some (.func (.func 197) #[] #[.pointer (some ⟨a + 1, 0, none⟩), .pointer (some ⟨a, 0, none⟩), .pointer (some ⟨a + 2, 0, none⟩)])
  le : a + 4 ≤ M
  top : M ≤ w.heap.size

/-- Every block but a, a + 1, a + 2 that is no row of bytes or of parts, at M or behind it, stands. -/
def KeptG (M a : Nat) (w w' : World) : Prop := ∀ k o, w.heap[k]? = some o → k ≠ a → k ≠ a + 1 → k ≠ a + 2 → (∀ c fz, M ≤ k → o ≠ .cells c 5 fz) → (∀ c fz, M ≤ k → o ≠ .cells c 50 fz) → w'.heap[k]? = some o
structure BelowG (M a : Nat) (w w' : World) : Prop where
  below : Below a w w'
  kept : KeptG M a w w'
theorem heap_lt {w : World} {k : Nat} {o : Obj} (h : w.heap[k]? = some o) : k < w.heap.size := by
  rcases Nat.lt_or_ge k w.heap.size with h' | h'
  · exact h'
  · rw [Array.getElem?_eq_none h'] at h; cases h
theorem KeptG.refl (M a : Nat) (w : World) : KeptG M a w w := fun _ _ h _ _ _ _ _ => h
theorem KeptG.trans {M : Nat} {a : Nat} {x y z : World} (h : KeptG M a x y) (k : KeptG M a y z) : KeptG M a x z := fun i o hi h1 h2 h3 h4 h5 => k i o (h i o hi h1 h2 h3 h4 h5) h1 h2 h3 h4 h5
theorem KeptG.of {M : Nat} {a : Nat} {w w' : World} (h : Below w.heap.size w w') : KeptG M a w w' := fun k o hk _ _ _ _ _ => (h.block k (heap_lt hk)).trans hk
theorem KeptG.alloc {M : Nat} {a : Nat} {w w' : World} (h : KeptG M a w w') (o : Obj) : KeptG M a w (w'.alloc o) := h.trans fun k o' hk _ _ _ _ _ => (heap_alloc_old w' o (heap_lt hk)).trans hk
theorem KeptG.set {M : Nat} {a : Nat} {w w' : World} (h : KeptG M a w w') {b : Nat} (hb : b = a ∨ b = a + 1 ∨ b = a + 2) (v : Value) : KeptG M a w (w'.setCell ⟨b, 0, none⟩ v) :=
  h.trans fun k o' hk h1 h2 h3 _ _ => (Below.heap_setCell _ _ _ _ (by show k ≠ b; omega)).trans hk
theorem KeptG.grown {M : Nat} {a e size n : Nat} {v : Value} {xs : List Value} {w w1 w2 : World} (h : KeptG M a w w1) (hr : w1.ownsRow M e size v n xs) (he : e = 5 ∨ e = 50) (hg : w1.grownBy w2 v.ownBlock) : KeptG M a w w2 := by
  refine h.trans fun k o hk _ _ _ h4 h5 => ?_
  refine (hg.block k (heap_lt hk) ?_).trans hk
  intro e'
  obtain ⟨_, hrow⟩ := hr
  rcases hrow with ⟨hx, _⟩ | ⟨g, cap, cur, rfl, hge, hgg, _⟩
  · rw [hx] at e'; cases e'
  · have e2 : some k = some g := e'
    obtain rfl := Option.some.inj e2
    rw [hk] at hgg
    rcases he with rfl | rfl
    · exact h4 _ _ hge (Option.some.inj hgg)
    · exact h5 _ _ hge (Option.some.inj hgg)
theorem BelowG.size {M : Nat} {a : Nat} {w w' : World} (h : BelowG M a w w') : w.heap.size ≤ w'.heap.size := h.below.size
theorem BelowG.refl {M : Nat} (a : Nat) (w : World) : BelowG M a w w := ⟨.refl a w, .refl M a w⟩
theorem BelowG.trans {M : Nat} {a : Nat} {x y z : World} (h : BelowG M a x y) (k : BelowG M a y z) : BelowG M a x z := ⟨h.below.trans k.below, h.kept.trans k.kept⟩
theorem BelowG.of {M : Nat} {a : Nat} {w w' : World} (h : Below w.heap.size w w') (ha : a ≤ w.heap.size) : BelowG M a w w' := ⟨h.mono ha, .of h⟩
theorem BelowG.drew {M : Nat} {a : Nat} {w w' : World} (h : BelowG M a w w') : BelowG M a w w'.drew := ⟨h.below.drew, h.kept⟩

theorem gath_lt {M : Nat} {w : World} {a : Nat} {s : NSt} (h : gath M w a s) : a + 3 < w.heap.size := World.block_lt_of_cell? w _ h.tell

theorem gath_below {M : Nat} {w w' : World} {a : Nat} {s : NSt} (h : gath M w a s) (hb : Below w.heap.size w w') : gath M w' a s := by
  have hM := h.le
  have hT := h.top
  have hlt := gath_lt h
  obtain ⟨⟨p, c, h1, h2⟩, h3, ⟨p', c', h4, h5⟩, h6, h7, h8, h9⟩ := h
  exact ⟨⟨p, c, (hb.cell (p := ⟨a, 0, none⟩) (by show a < _; omega)).trans h1, own_below h2 hb⟩, (hb.frozen (p := ⟨a, 0, none⟩) (by show a < _; omega)).trans h3,
    ⟨p', c', (hb.cell (p := ⟨a + 1, 0, none⟩) (by show a + 1 < _; omega)).trans h4, own_below h5 hb⟩, (hb.frozen (p := ⟨a + 1, 0, none⟩) (by show a + 1 < _; omega)).trans h6,
    (hb.cell (p := ⟨a + 2, 0, none⟩) (by show a + 2 < _; omega)).trans h7, (hb.frozen (p := ⟨a + 2, 0, none⟩) (by show a + 2 < _; omega)).trans h8, (hb.cell (p := ⟨a + 3, 0, none⟩) (by show a + 3 < _; omega)).trans h9, hM, Nat.le_trans hT hb.size⟩

/-- A row beside a box that is written. -/
theorem own_set {w : World} {B e size n b : Nat} {v : Value} {xs : List Value} (h : w.ownsRow B e size v n xs) (hb : b < B) (u : Value) : (w.setCell ⟨b, 0, none⟩ u).ownsRow B e size v n xs := by
  obtain ⟨h0, hrow⟩ := h
  refine ⟨h0, ?_⟩
  rcases hrow with hn | ⟨g, cap, cur, rfl, hg, hgg, rest⟩
  · exact .inl hn
  · exact .inr ⟨g, cap, cur, rfl, hg, (Below.heap_setCell _ _ _ _ (by show g ≠ b; omega)).trans hgg, rest⟩

theorem cell_set_ne {w : World} {b b' o : Nat} (h : b' ≠ b) (u : Value) : (w.setCell ⟨b, 0, none⟩ u).cell? ⟨b', o, none⟩ = w.cell? ⟨b', o, none⟩ := by
  unfold World.cell?
  rw [Below.heap_setCell _ _ _ _ (by show b' ≠ b; exact h)]

/-- A block behind the variables that is not the row of op's. -/
def spare (w : World) (a b : Nat) : Prop := b < w.heap.size ∧ a + 3 < b ∧ ∀ v, w.cell? ⟨a, 0, none⟩ = some v → v.ownBlock ≠ some b

/-- Behind an append to put, and its store. -/
theorem gath_puts {M : Nat} {w w1 : World} {a : Nat} {s : NSt} {p : Option Addr} {c : Nat} {v' : Value} {q : List UInt8} (h : gath M w a s) (hc : w.cell? ⟨a + 1, 0, none⟩ = some (.slice p s.put.length c))
    (hown1 : w1.ownsRow M 5 1 v' (s.put.length + q.length) (Lib.byteCells s.put ++ Lib.byteCells q)) (hg : w.grownBy w1 (Value.slice p s.put.length c).ownBlock) :
    gath M (w1.setCell ⟨a + 1, 0, none⟩ v') a ⟨s.out, s.put ++ q, s.drop⟩ ∧ BelowG M a w (w1.setCell ⟨a + 1, 0, none⟩ v') ∧ w1.cell? ⟨a + 1, 0, none⟩ = some (.slice p s.put.length c) ∧ w1.frozen? ⟨a + 1, 0, none⟩ = false := by
  have hM := h.le
  have hT := h.top
  have hlt := gath_lt h
  obtain ⟨⟨p', c', h4, h5⟩, h6, ⟨p1, c1, h1, h2⟩, h3, h7, h8, h9⟩ := h
  rw [hc] at h1
  simp only [Option.some.injEq, Value.slice.injEq, true_and] at h1
  obtain ⟨rfl, rfl⟩ := h1
  have hrow : ∀ k, (Value.slice p s.put.length c).ownBlock = some k → a + 4 ≤ k := fun k hk => Nat.le_trans hM (h2.lt k hk).1
  have hb1 : Below (a + 4) w w1 := (Below.refl (a + 4) w).grown hg (by omega) hrow
  have hc1 : w1.cell? ⟨a + 1, 0, none⟩ = some (.slice p s.put.length c) := by rw [hb1.cell (p := ⟨a + 1, 0, none⟩) (by show a + 1 < _; omega)]; exact hc
  have hf1 : w1.frozen? ⟨a + 1, 0, none⟩ = false := by rw [hb1.frozen (p := ⟨a + 1, 0, none⟩) (by show a + 1 < _; omega)]; exact h3
  have h5' := h5.kept hg (own_ne h5 h2 (by decide))
  obtain ⟨pv, cv, rfl⟩ := own_slice hown1
  refine ⟨⟨⟨p', c', ?_, ?_⟩, ?_, ⟨pv, cv, ?_, ?_⟩, ?_, ?_, ?_, ?_, hM, (by have := hb1.size; simp; omega)⟩, ⟨(hb1.mono (show a ≤ a + 4 by omega)).setCell (by show a ≤ a + 1; omega) _, ((KeptG.refl M a w).grown h2 (.inl rfl) hg).set (.inr (.inl rfl)) _⟩, hc1, hf1⟩
  · rw [cell_set_ne (by omega)]; exact (hb1.cell (p := ⟨a, 0, none⟩) (by show a < _; omega)).trans h4
  · exact own_set h5' (by omega) _
  · rw [World.frozen?_setCell]; exact (hb1.frozen (p := ⟨a, 0, none⟩) (by show a < _; omega)).trans h6
  · show _ = some (Value.slice pv (s.put ++ q).length cv)
    rw [List.length_append]; exact World.cell?_setCell_same _ _ _ hc1
  · show World.ownsRow _ _ _ _ (.slice pv (s.put ++ q).length cv) (s.put ++ q).length (Lib.byteCells (s.put ++ q))
    rw [List.length_append, Lib.byteCells_append]; exact own_set hown1 (by omega) _
  · rw [World.frozen?_setCell]; exact hf1
  · rw [cell_set_ne (by omega)]; exact (hb1.cell (p := ⟨a + 2, 0, none⟩) (by show a + 2 < _; omega)).trans h7
  · rw [World.frozen?_setCell]; exact (hb1.frozen (p := ⟨a + 2, 0, none⟩) (by show a + 2 < _; omega)).trans h8
  · rw [cell_set_ne (by omega)]; exact (hb1.cell (p := ⟨a + 3, 0, none⟩) (by show a + 3 < _; omega)).trans h9

/-- Behind a store of drop. -/
theorem gath_drop {M : Nat} {w : World} {a : Nat} {s : NSt} (h : gath M w a s) (d : Int) : gath M (w.setCell ⟨a + 2, 0, none⟩ (.int .i64 d)) a ⟨s.out, s.put, d⟩ ∧ BelowG M a w (w.setCell ⟨a + 2, 0, none⟩ (.int .i64 d)) := by
  have hM := h.le
  have hT := h.top
  have hlt := gath_lt h
  obtain ⟨⟨p, c, h1, h2⟩, h3, ⟨p', c', h4, h5⟩, h6, h7, h8, h9⟩ := h
  refine ⟨⟨⟨p, c, ?_, own_set h2 (by omega) _⟩, ?_, ⟨p', c', ?_, own_set h5 (by omega) _⟩, ?_, World.cell?_setCell_same _ _ _ h7, ?_, ?_, hM, (by simp; omega)⟩, ⟨(Below.refl a w).setCell (by show a ≤ a + 2; omega) _, (KeptG.refl M a w).set (.inr (.inr rfl)) _⟩⟩
  · rw [cell_set_ne (by omega)]; exact h1
  · rw [World.frozen?_setCell]; exact h3
  · rw [cell_set_ne (by omega)]; exact h4
  · rw [World.frozen?_setCell]; exact h6
  · rw [World.frozen?_setCell]; exact h8
  · rw [cell_set_ne (by omega)]; exact h9

end Go.Proofs.YtldhbjmillfjgabGreatDoor

namespace Go.Proofs.YtldhbjmillfjgabGreatDoor
open Go.RowKit
set_option linter.unusedVariables false

def partV (p : Pt) : Value := .agg #[.int .i64 p.keep, .int .i64 p.drop, .string ⟨p.put.toArray⟩]

theorem isKeep_any (p : Pt) (w : World) : Calls Tryz.prog 83 #[partV p] w fun e w' => e = .returned (.bool (decide (0 < p.keep))) ∧ Below w.heap.size w w' := by
  unfold partV
  go_enter Tryz.func83, Tryz.ntmps83
  go_wp2
  go_ret
  exact ⟨rfl, (Below.refl _ _).alloc (Nat.le_refl _) _⟩
theorem isDrop_any (p : Pt) (w : World) : Calls Tryz.prog 165 #[partV p] w fun e w' => e = .returned (.bool (decide (0 < p.drop))) ∧ Below w.heap.size w w' := by
  unfold partV
  go_enter Tryz.func165, Tryz.ntmps165
  go_wp2
  go_ret
  exact ⟨rfl, (Below.refl _ _).alloc (Nat.le_refl _) _⟩

set_option maxRecDepth 100000 in
set_option maxHeartbeats 2000000 in
theorem add_zero {M : Nat} (a : Nat) (s : NSt) (p : Pt) (w : World) (h : gath M w a s) (hput : s.put.length + p.put.length < 1000000000) (hd : -9223372036854775808 ≤ s.drop + p.drop) (hd' : s.drop + p.drop < 9223372036854775808) (hout : s.out.length < 100000000)
     :
    Calls Tryz.prog 198 #[(.agg #[.int .i64 0, .int .i64 p.drop, .string ⟨p.put.toArray⟩]), .pointer (some ⟨a + 1, 0, none⟩), .pointer (some ⟨a + 2, 0, none⟩), .pointer (some ⟨a + 3, 0, none⟩), .pointer (some ⟨a, 0, none⟩)] w fun e w' => (∃ v, e = .returned v) ∧ gath M w' a ⟨s.out, s.put ++ p.put, s.drop + p.drop⟩ ∧ BelowG M a w w' := by
  have hM := h.le
  have hT := h.top
  obtain ⟨i0, hi, hz0, hz1, hz2⟩ := info_parts info_part
  obtain ⟨i1, hj, hy0, hy1, hy2⟩ := info_parts info_u8
  have hlt := gath_lt h
  have hb0' : Below w.heap.size w (w.alloc (.cells #[.int .i64 0, .int .i64 p.drop, .string ⟨p.put.toArray⟩] 50)) := (Below.refl _ _).alloc (Nat.le_refl _) _
  have HG0 : Hid (gath M (w.alloc (.cells #[.int .i64 0, .int .i64 p.drop, .string ⟨p.put.toArray⟩] 50)) a s) := gath_below h hb0'
  have HB0 : Hid (BelowG M a w (w.alloc (.cells #[.int .i64 0, .int .i64 p.drop, .string ⟨p.put.toArray⟩] 50))) := .of hb0' (by omega)
  have x0 : (w.alloc (.cells #[.int .i64 0, .int .i64 p.drop, .string ⟨p.put.toArray⟩] 50)).cell? ⟨w.heap.size, 0, none⟩ = some (.int .i64 0) := by simp [go_sem]
  have x1 : (w.alloc (.cells #[.int .i64 0, .int .i64 p.drop, .string ⟨p.put.toArray⟩] 50)).cell? ⟨w.heap.size, 1, none⟩ = some (.int .i64 p.drop) := by simp [go_sem]
  obtain ⟨⟨pp, c, h1, h2⟩, h3, ⟨p', c', h4, h5⟩, h6, h7, h8, h9⟩ := h
  have HL1 : Hid (∀ k, (Value.slice pp s.out.length c).ownBlock = some k → k < w.heap.size) := fun k hk' => (h2.lt k hk').2
  have HL2 : Hid (∀ k, (Value.slice p' s.put.length c').ownBlock = some k → k < w.heap.size) := fun k hk' => (h5.lt k hk').2
  have hP : (w.alloc (.cells #[.int .i64 0, .int .i64 p.drop, .string ⟨p.put.toArray⟩] 50)).ownsRow M 5 1 (.slice p' s.put.length c') s.put.length (Lib.byteCells s.put) := h5.alloc _
  have hC : (w.alloc (.cells #[.int .i64 0, .int .i64 p.drop, .string ⟨p.put.toArray⟩] 50)).cell? ⟨a + 1, 0, none⟩ = some (.slice p' s.put.length c') := (hb0'.cell (p := ⟨a + 1, 0, none⟩) (by show a + 1 < _; omega)).trans h4
  have hC0 : (w.alloc (.cells #[.int .i64 0, .int .i64 p.drop, .string ⟨p.put.toArray⟩] 50)).cell? ⟨a, 0, none⟩ = some (.slice pp s.out.length c) := (hb0'.cell (p := ⟨a, 0, none⟩) (by show a < _; omega)).trans h1
  have hD2 : (w.alloc (.cells #[.int .i64 0, .int .i64 p.drop, .string ⟨p.put.toArray⟩] 50)).cell? ⟨a + 2, 0, none⟩ = some (.int .i64 s.drop) := (hb0'.cell (p := ⟨a + 2, 0, none⟩) (by show a + 2 < _; omega)).trans h7
  have hF2 : (w.alloc (.cells #[.int .i64 0, .int .i64 p.drop, .string ⟨p.put.toArray⟩] 50)).frozen? ⟨a + 2, 0, none⟩ = false := (hb0'.frozen (p := ⟨a + 2, 0, none⟩) (by show a + 2 < _; omega)).trans h8
  have hD3 : (w.alloc (.cells #[.int .i64 0, .int .i64 p.drop, .string ⟨p.put.toArray⟩] 50)).cell? ⟨a + 3, 0, none⟩ = some (.func (.func 197) #[] #[.pointer (some ⟨a + 1, 0, none⟩), .pointer (some ⟨a, 0, none⟩), .pointer (some ⟨a + 2, 0, none⟩)]) := (hb0'.cell (p := ⟨a + 3, 0, none⟩) (by show a + 3 < _; omega)).trans h9
  have HP : Hid ((w.alloc (.cells #[.int .i64 0, .int .i64 p.drop, .string ⟨p.put.toArray⟩] 50)).ownsRow M 5 1 (.slice p' s.put.length c') s.put.length (Lib.byteCells s.put)) := hP
  have HX : Hid (∀ w1 v1, w1.ownsRow M 5 1 v1 (s.put.length + (ByteArray.mk p.put.toArray).size) (Lib.byteCells s.put ++ Lib.strCells ⟨p.put.toArray⟩) → (w.alloc (.cells #[.int .i64 0, .int .i64 p.drop, .string ⟨p.put.toArray⟩] 50)).grownBy w1 (Value.slice p' s.put.length c').ownBlock →
      gath M ((w1.setCell ⟨a + 1, 0, none⟩ v1).setCell ⟨a + 2, 0, none⟩ (.int .i64 (s.drop + p.drop))) a ⟨s.out, s.put ++ p.put, s.drop + p.drop⟩ ∧ BelowG M a w ((w1.setCell ⟨a + 1, 0, none⟩ v1).setCell ⟨a + 2, 0, none⟩ (.int .i64 (s.drop + p.drop))) ∧
      spare ((w1.setCell ⟨a + 1, 0, none⟩ v1).setCell ⟨a + 2, 0, none⟩ (.int .i64 (s.drop + p.drop))) a w.heap.size ∧
      w1.cell? ⟨a + 1, 0, none⟩ = some (.slice p' s.put.length c') ∧ w1.frozen? ⟨a + 1, 0, none⟩ = false ∧ w1.cell? ⟨a + 2, 0, none⟩ = some (.int .i64 s.drop) ∧ w1.frozen? ⟨a + 2, 0, none⟩ = false ∧
      w1.cell? ⟨a + 3, 0, none⟩ = some (.func (.func 197) #[] #[.pointer (some ⟨a + 1, 0, none⟩), .pointer (some ⟨a, 0, none⟩), .pointer (some ⟨a + 2, 0, none⟩)]) ∧
      (∀ o, w1.cell? ⟨w.heap.size, o, none⟩ = (w.alloc (.cells #[.int .i64 0, .int .i64 p.drop, .string ⟨p.put.toArray⟩] 50)).cell? ⟨w.heap.size, o, none⟩) ∧ w.heap.size < w1.heap.size) := by
    intro w1 v1 q1 q2
    have hz : (ByteArray.mk p.put.toArray).size = p.put.length := by simp [ByteArray.size]
    rw [hz] at q1
    obtain ⟨g1, g2, g3, g4⟩ := gath_puts (q := p.put) HG0.out hC q1 q2
    obtain ⟨g5, g6⟩ := gath_drop g1 (s.drop + p.drop)
    have hlow : ∀ k, (Value.slice p' s.put.length c').ownBlock = some k → a + 4 ≤ k := fun k hk => Nat.le_trans hM (hP.lt k hk).1
    have hbb : Below (a + 4) (w.alloc (.cells #[.int .i64 0, .int .i64 p.drop, .string ⟨p.put.toArray⟩] 50)) w1 := (Below.refl _ _).grown q2 (by rw [World.size_alloc]; omega) hlow
    have hsz := q2.size
    rw [World.size_alloc] at hsz
    refine ⟨g5, HB0.out.trans (g2.trans g6), ⟨by simp; omega, hlt, ?_⟩, g3, g4, (hbb.cell (p := ⟨a + 2, 0, none⟩) (by show a + 2 < _; omega)).trans hD2, (hbb.frozen (p := ⟨a + 2, 0, none⟩) (by show a + 2 < _; omega)).trans hF2, (hbb.cell (p := ⟨a + 3, 0, none⟩) (by show a + 3 < _; omega)).trans hD3, ?_, by omega⟩
    · intro v hv
      rw [cell_set_ne (by omega), cell_set_ne (by omega), (hbb.cell (p := ⟨a, 0, none⟩) (by show a < _; omega)), hC0] at hv
      obtain rfl := Option.some.inj hv
      intro e
      have := HL1.out _ e
      omega
    · intro o
      exact World.cell?_of_block (a := ⟨w.heap.size, o, none⟩) (q2.block w.heap.size (by rw [World.size_alloc]; omega) (by intro e; have := HL2.out _ e.symm; omega))
  clear h2 h5 hP hC hC0 hD2 hF2 hD3 hb0' h1 h3 h6 h7 h8 h9
  have n0 : a + 1 < w.heap.size := by omega
  have HZ : Hid ((ByteArray.mk p.put.toArray).size = p.put.length) := by show _ = _; simp [ByteArray.size]
  have n1 : ¬ (a + 1 = w.heap.size) := by omega
  have n2 : ¬ (w.heap.size = a + 1) := by omega
  have n3 : ¬ (a + 2 = w.heap.size) := by omega
  have n4 : ¬ (w.heap.size = a + 2) := by omega
  have hwrap : IntKind.i64.wrap (s.drop + p.drop) = s.drop + p.drop := by rw [IntKind.wrap_i64]; omega

  go_enter Tryz.func198, Tryz.ntmps198
  go_wp2_with (first | (at_builtin; refine Lib.wpList_append_own_string _ rfl _ _ 130 9 rfl M 5 i1 Tryz.underlying130 Tryz.underlying9 hj hy0 hy1 hy2 _ _ _ rfl HP.out _ rfl (by rw [HZ.out]; unfold maxLen; omega) (by rw [HZ.out]; omega) (by simp; omega) ?_) | fail)
  intro v1 w1 hown1 hg1 _
  have R := HX.out w1 v1 hown1 hg1
  obtain ⟨pv, cv, rfl⟩ := own_slice hown1
  obtain ⟨G2, B2, S2, r1, r2, r3, r4, r5, r6, r7⟩ := R
  have y0 := (r6 0).trans x0
  have y1 := (r6 1).trans x1
  have HG2 : Hid _ := G2
  have HB2 : Hid _ := B2
  have HS2 : Hid _ := S2
  clear hown1 hg1 x0 x1 r6 G2 B2 S2 HX HL1 HL2 HP HG0 HB0 h4
  go_wp2
  refine bodyPost_ret (results_none rfl _ _ _) rfl ?_
  exact ⟨⟨_, rfl⟩, HG2.out, HB2.out⟩

end Go.Proofs.YtldhbjmillfjgabGreatDoor

namespace Go.Proofs.YtldhbjmillfjgabGreatDoor
open Go.RowKit
set_option linter.unusedVariables false

/-- The slice v reads as the parts ps. -/
def opAt (w : World) (v : Value) (ps : List Pt) : Prop :=
  ∃ p c, v = .slice p ps.length c ∧ ps.length ≤ c ∧ c ≤ maxLen ∧ (ps ≠ [] → ∃ b o, p = some ⟨b, o, none⟩ ∧ b < w.heap.size ∧ ∀ i q, ps[i]? = some q →
    w.cell? ⟨b, o + i * 3, none⟩ = some (.int .i64 q.keep) ∧ w.cell? ⟨b, o + i * 3 + 1, none⟩ = some (.int .i64 q.drop) ∧ w.cell? ⟨b, o + i * 3 + 2, none⟩ = some (.string ⟨q.put.toArray⟩))
theorem opAt_below {w w' : World} {v : Value} {ps : List Pt} (h : opAt w v ps) {B : Nat} (hb : Below B w w') (hB : w.heap.size ≤ B) : opAt w' v ps := by
  obtain ⟨p, c, rfl, h1, h2, h3⟩ := h
  refine ⟨p, c, rfl, h1, h2, fun hne => ?_⟩
  obtain ⟨b, o, e1, e2, e3⟩ := h3 hne
  refine ⟨b, o, e1, Nat.lt_of_lt_of_le e2 hb.size, fun i q hi => ?_⟩
  obtain ⟨f1, f2, f3⟩ := e3 i q hi
  exact ⟨(hb.cell (p := ⟨b, o + i * 3, none⟩) (Nat.lt_of_lt_of_le e2 hB)).trans f1, (hb.cell (p := ⟨b, o + i * 3 + 1, none⟩) (Nat.lt_of_lt_of_le e2 hB)).trans f2, (hb.cell (p := ⟨b, o + i * 3 + 2, none⟩) (Nat.lt_of_lt_of_le e2 hB)).trans f3⟩

theorem cellsP_get (ps : List Pt) (i : Nat) (q : Pt) (hi : ps[i]? = some q) : ∀ j, j < 3 → (cellsP ps)[i * 3 + j]? = (partCells q)[j]? := by
  induction ps generalizing i with
  | nil => simp at hi
  | cons p ps ih =>
    intro j hj
    have e : cellsP (p :: ps) = partCells p ++ cellsP ps := rfl
    have hl : (partCells p).length = 3 := rfl
    rw [e]
    cases i with
    | zero =>
      simp only [List.getElem?_cons_zero, Option.some.injEq] at hi
      subst hi
      rw [Nat.zero_mul, Nat.zero_add, List.getElem?_append_left (by rw [hl]; exact hj)]
    | succ i =>
      rw [List.getElem?_append_right (by rw [hl]; omega), hl, ← ih i (by simpa using hi) j hj]
      congr 1
      omega

/-- A row of parts reads as them. -/
theorem opAt_own {w : World} {B : Nat} {v : Value} {ps : List Pt} (h : w.ownsRow B 50 3 v ps.length (cellsP ps)) : opAt w v ps := by
  have h' := h
  rcases h.2 with ⟨rfl, h2⟩ | ⟨g, cap, cur, rfl, h2, h3, h4, h5, h6, h7⟩
  · obtain rfl : ps = [] := List.eq_nil_of_length_eq_zero h2
    exact ⟨none, 0, rfl, Nat.le_refl _, Nat.zero_le _, fun h => absurd rfl h⟩
  · refine ⟨_, cap, rfl, h4, h5, fun _ => ⟨g, 0, rfl, (Array.getElem?_eq_some_iff.1 h3).1, fun i q hi => ?_⟩⟩
    have hlt := (List.getElem?_eq_some_iff.1 hi).1
    have hc := cellsP_get ps i q hi
    refine ⟨?_, ?_, ?_⟩
    · rw [Nat.zero_add, h'.cellAt _ (by omega)]; exact hc 0 (by omega)
    · rw [Nat.zero_add, h'.cellAt _ (by omega)]; exact hc 1 (by omega)
    · rw [Nat.zero_add, h'.cellAt _ (by omega)]; exact hc 2 (by omega)

/-- .. in new memory, in a row of parts. -/
def opN (B : Nat) (w : World) (v : Value) (ps : List Pt) : Prop := opAt w v ps ∧ ∀ k, v.ownBlock = some k → B ≤ k ∧ ∃ cs fz, w.heap[k]? = some (.cells cs 50 fz)
theorem opN.mono {B C : Nat} {w : World} {v : Value} {ps : List Pt} (h : opN B w v ps) (hB : C ≤ B) : opN C w v ps := ⟨h.1, fun k hk => ⟨Nat.le_trans hB (h.2 k hk).1, (h.2 k hk).2⟩⟩
def soundP (p : Pt) : Prop := 0 ≤ p.keep ∧ 0 ≤ p.drop
def wtP (p : Pt) : Int := p.keep + p.drop + p.put.length
def wts (ps : List Pt) : Int := (ps.map wtP).sum
theorem wts_nonneg {ps : List Pt} (h : ∀ p ∈ ps, soundP p) : 0 ≤ wts ps := by
  induction ps with
  | nil => simp [wts]
  | cons p ps ih =>
    have h1 := h p (List.mem_cons_self ..)
    have h2 := ih fun q hq => h q (List.mem_cons_of_mem _ hq)
    unfold wts at h2 ⊢
    rw [List.map_cons, List.sum_cons]
    unfold soundP at h1
    have : 0 ≤ wtP p := by unfold wtP; omega
    omega
/-- What a gathering's numbers are at most. -/
structure Bd (s : NSt) (T : Int) (n : Nat) : Prop where
  put : (s.put.length : Int) ≤ T
  d0 : 0 ≤ s.drop
  dT : s.drop ≤ T
  keep : ∀ q ∈ s.out, 0 ≤ q.keep ∧ q.keep ≤ T
  len : s.out.length ≤ 3 * n
theorem Bd.add {s : NSt} {T : Int} {n : Nat} (h : Bd s T n) (p : Pt) (hp : soundP p) : Bd (addP s p) (T + wtP p) (n + 1) := by
  obtain ⟨k, d, q⟩ := p
  obtain ⟨p1, p2⟩ := hp
  obtain ⟨h1, h2, h3, h4, h5⟩ := h
  have hw : wtP ⟨k, d, q⟩ = k + d + q.length := rfl
  have e1 : (0 : Int) ≤ k := p1
  have e2 : (0 : Int) ≤ d := p2
  have hT : 0 ≤ T := Int.le_trans h2 h3
  rw [hw]
  unfold addP
  by_cases hk : k = 0
  · rw [if_pos hk]
    refine ⟨?_, ?_, ?_, ?_, ?_⟩
    · show ((s.put ++ q).length : Int) ≤ _
      rw [List.length_append]
      omega
    · show 0 ≤ s.drop + d; omega
    · show s.drop + d ≤ _; omega
    · intro x hx
      have := h4 x hx
      omega
    · show s.out.length ≤ _; omega
  · rw [if_neg hk]
    obtain ⟨L, hL⟩ : ∃ L, tellP ⟨s.out, s.put ++ q, s.drop + d⟩ = L := ⟨_, rfl⟩
    have hm : ∀ x ∈ L, 0 ≤ x.keep ∧ x.keep ≤ T := by
      intro x hx
      rw [← hL, tellP] at hx
      simp only [List.mem_append] at hx
      rcases hx with hx | hx | hx
      · exact h4 x hx
      · split at hx
        · simp at hx
        · rw [List.mem_singleton.1 hx]; exact ⟨by simp, hT⟩
      · split at hx
        · simp at hx
        · rw [List.mem_singleton.1 hx]; exact ⟨by simp, hT⟩
    have hl : L.length ≤ s.out.length + 2 := by
      rw [← hL, tellP]
      simp only [List.length_append]
      split <;> split <;> simp
    have key : (∀ x ∈ pushKeep L k, 0 ≤ x.keep ∧ x.keep ≤ T + k) ∧ (pushKeep L k).length ≤ L.length + 1 := by
      have hsnoc : (∀ x ∈ L ++ [⟨k, 0, []⟩], 0 ≤ x.keep ∧ x.keep ≤ T + k) ∧ (L ++ [(⟨k, 0, []⟩ : Pt)]).length ≤ L.length + 1 := by
        refine ⟨fun x hx => ?_, by simp⟩
        rcases List.mem_append.1 hx with hx | hx
        · have := hm x hx; omega
        · rw [List.mem_singleton.1 hx]; exact ⟨e1, by show k ≤ _; omega⟩
      unfold pushKeep
      split
      · rename_i q0 hq0
        split
        · rename_i hq1
          have hin : q0 ∈ L := List.mem_of_getLast? hq0
          have := hm q0 hin
          refine ⟨fun x hx => ?_, by simp⟩
          rcases List.mem_append.1 hx with hx | hx
          · have := hm x (List.dropLast_subset _ hx); omega
          · rw [List.mem_singleton.1 hx]; exact ⟨by show 0 ≤ q0.keep + k; omega, by show q0.keep + k ≤ _; omega⟩
        · exact hsnoc
      · exact hsnoc
    rw [hL]
    refine ⟨?_, by simp, ?_, ?_, ?_⟩
    · show ((0 : Nat) : Int) ≤ _; omega
    · show (0 : Int) ≤ _; omega
    · intro x hx
      have := key.1 x hx
      show 0 ≤ x.keep ∧ x.keep ≤ T + (k + d + q.length)
      omega
    · have := key.2
      show (pushKeep L k).length ≤ _
      omega
end Go.Proofs.YtldhbjmillfjgabGreatDoor

namespace Go.Proofs.YtldhbjmillfjgabGreatDoor
open Go.RowKit
set_option linter.unusedVariables false

set_option maxRecDepth 100000 in
set_option maxHeartbeats 2000000 in
theorem Same_any (v v' : Value) (ps : List Pt) (w : World) (h1 : opAt w v ps) (h2 : opAt w v' ps) (hl : ps.length < 10000000) :
    Calls Tryz.prog 14 #[v, v'] w fun e w' => e = .returned (.bool true) ∧ Below w.heap.size w w' := by
  obtain ⟨p1, c1, rfl, a1, a2, a3⟩ := h1
  obtain ⟨p2, c2, rfl, b1, b2, b3⟩ := h2
  obtain ⟨n, hn⟩ : ∃ n, n = ps.length := ⟨_, rfl⟩
  rw [← hn] at a1 b1 hl ⊢
  have HN : Hid (n = ps.length) := hn
  clear hn
  have A3 : Hid (ps ≠ [] → ∃ b o, p1 = some ⟨b, o, none⟩ ∧ b < w.heap.size ∧ ∀ i q, ps[i]? = some q →
    w.cell? ⟨b, o + i * 3, none⟩ = some (.int .i64 q.keep) ∧ w.cell? ⟨b, o + i * 3 + 1, none⟩ = some (.int .i64 q.drop) ∧ w.cell? ⟨b, o + i * 3 + 2, none⟩ = some (.string ⟨q.put.toArray⟩)) := a3
  have B3 : Hid (ps ≠ [] → ∃ b o, p2 = some ⟨b, o, none⟩ ∧ b < w.heap.size ∧ ∀ i q, ps[i]? = some q →
    w.cell? ⟨b, o + i * 3, none⟩ = some (.int .i64 q.keep) ∧ w.cell? ⟨b, o + i * 3 + 1, none⟩ = some (.int .i64 q.drop) ∧ w.cell? ⟨b, o + i * 3 + 2, none⟩ = some (.string ⟨q.put.toArray⟩)) := b3
  clear a3 b3
  go_enter Tryz.func14, Tryz.ntmps14
  go_wp2
  go_loopw [13] (fun i wr => ∃ k : Nat, k ≤ n ∧ i = .int .i64 k ∧ Below w.heap.size w wr) (fun i _ => n - (intOf i).toNat)
  case atStart => exact ⟨0, Nat.zero_le _, rfl, Below.refl _ _⟩
  case round =>
    obtain ⟨k, hk, rfl, hwr⟩ := hrel
    by_cases hlt : k < n
    · have hkr : k < ps.length := by rw [← HN.out]; exact hlt
      have hne : ps ≠ [] := by intro e; rw [e] at hkr; exact absurd hkr (Nat.not_lt_zero _)
      obtain ⟨x1, o1, rfl, hx1, hc1⟩ := A3.out hne
      obtain ⟨x2, o2, rfl, hx2, hc2⟩ := B3.out hne
      obtain ⟨d0, d1, d2⟩ := hc1 k ps[k] (List.getElem?_eq_getElem hkr)
      obtain ⟨e0, e1, e2⟩ := hc2 k ps[k] (List.getElem?_eq_getElem hkr)
      have g0 := (hwr.cell (p := ⟨x1, o1 + k * 3, none⟩) hx1).trans d0
      have g1 := (hwr.cell (p := ⟨x1, o1 + k * 3 + 1, none⟩) hx1).trans d1
      have g2 := (hwr.cell (p := ⟨x1, o1 + k * 3 + 2, none⟩) hx1).trans d2
      have g3 := (hwr.cell (p := ⟨x2, o2 + k * 3, none⟩) hx2).trans e0
      have g4 := (hwr.cell (p := ⟨x2, o2 + k * 3 + 1, none⟩) hx2).trans e1
      have g5 := (hwr.cell (p := ⟨x2, o2 + k * 3 + 2, none⟩) hx2).trans e2
      generalize ps[k] = q at *
      obtain ⟨K, D, U⟩ := q
      simp only at g0 g1 g2 g3 g4 g5
      clear hc1 hc2 A3 B3 hne d0 d1 d2 e0 e1 e2
      go_wp2
      go_region
      all_goals
        go_wp2
        go_roundw
        case rel => exact ⟨k + 1, by omega, by go_num, hwr.drew⟩
        case measure => simp [intOf]; omega
    · clear A3 B3
      go_wp2
      go_ret
      exact ⟨rfl, hwr⟩
end Go.Proofs.YtldhbjmillfjgabGreatDoor

namespace Go.Proofs.YtldhbjmillfjgabGreatDoor
open Go.RowKit
set_option linter.unusedVariables false

theorem own_setAt {w : World} {B e size n b o : Nat} {v : Value} {xs : List Value} (h : w.ownsRow B e size v n xs) (hb : b < B) (u : Value) : (w.setCell ⟨b, o, none⟩ u).ownsRow B e size v n xs := by
  obtain ⟨h0, hrow⟩ := h
  refine ⟨h0, ?_⟩
  rcases hrow with hn | ⟨g, cap, cur, rfl, hg, hgg, rest⟩
  · exact .inl hn
  · exact .inr ⟨g, cap, cur, rfl, hg, (Below.heap_setCell _ _ _ _ (by show g ≠ b; omega)).trans hgg, rest⟩
end Go.Proofs.YtldhbjmillfjgabGreatDoor

namespace Go.Proofs.YtldhbjmillfjgabGreatDoor
open Go.RowKit
set_option linter.unusedVariables false
attribute [local go_sem] Oper.semAt_some

/-- The boxes of steps: where it is, and how much is ahead. -/
structure stp (W : World) (s b : Nat) (u v a h : Int) : Prop where
  r : W.cell? ⟨s, 0, none⟩ = some (.pointer (some ⟨b, 0, none⟩))
  u : W.cell? ⟨s + 1, 0, none⟩ = some (.int .i64 u)
  v : W.cell? ⟨s + 2, 0, none⟩ = some (.int .i64 v)
  a : W.cell? ⟨s + 3, 0, none⟩ = some (.int .i64 a)
  af : W.frozen? ⟨s + 3, 0, none⟩ = false
  h : W.cell? ⟨s + 4, 0, none⟩ = some (.int .i64 h)
  hf : W.frozen? ⟨s + 4, 0, none⟩ = false
theorem stp.below {W W' : World} {s b : Nat} {u v a h : Int} (k : stp W s b u v a h) (hb : Below W.heap.size W W') : stp W' s b u v a h := by
  have l0 := World.block_lt_of_cell? W _ k.r
  have l1 := World.block_lt_of_cell? W _ k.u
  have l2 := World.block_lt_of_cell? W _ k.v
  have l3 := World.block_lt_of_cell? W _ k.a
  have l4 := World.block_lt_of_cell? W _ k.h
  exact ⟨(hb.cell l0).trans k.r, (hb.cell l1).trans k.u, (hb.cell l2).trans k.v, (hb.cell l3).trans k.a, (hb.frozen l3).trans k.af, (hb.cell l4).trans k.h, (hb.frozen l4).trans k.hf⟩
def stepsV (s : Nat) : Value := .func (.func 164) #[] #[.pointer (some ⟨s + 3, 0, none⟩), .pointer (some ⟨s, 0, none⟩), .pointer (some ⟨s + 1, 0, none⟩), .pointer (some ⟨s + 2, 0, none⟩), .pointer (some ⟨s + 4, 0, none⟩)]

set_option maxHeartbeats 1000000 in
theorem bsteps_any (b : Nat) (u v : Int) (w : World) : Calls Tryz.prog 120 #[.pointer (some ⟨b, 0, none⟩), .int .i64 u, .int .i64 v] w fun e w' => e = .returned (stepsV w.heap.size) ∧ stp w' w.heap.size b u v 0 0 ∧ Below w.heap.size w w' ∧ w'.heap.size = w.heap.size + 5 := by
  unfold stepsV
  go_enter Tryz.func120, Tryz.ntmps120
  go_wp2
  go_ret
  refine ⟨rfl, ⟨?_, ?_, ?_, ?_, ?_, ?_, ?_⟩, ?_, ?_⟩
  all_goals first
    | simp [go_sem]
    | exact (((((Below.refl w.heap.size w).alloc (Nat.le_refl _) _).alloc (by simp) _).alloc (by simp; omega) _).alloc (by simp; omega) _).alloc (by simp; omega) _

set_option maxRecDepth 100000 in
set_option maxHeartbeats 2000000 in
theorem steps1_any (s b : Nat) (rs X : List Nat) (u v a h n : Int) (W : World) (k : stp W s b u v a h) (hu : u = 1 ∨ u = 2 ∨ u = 3) (hv : v = 1 ∨ v = 2 ∨ v = 3) (h0 : 0 ≤ a + n) (h1 : a + n ≤ by_ u rs) (hX : find (reachesBy u (a + n)) [] rs = X) (hfine : by_ u X = a + n)
    (hT : Lib.Utf8Tabs 2 3 W) (hR : isRope W b rs) (hbs : b < s) (hz : C1 rs ≤ 100000000) (hh : 0 ≤ h) (hhx : h ≤ by_ v X) (hvx : by_ v X ≤ 100000000) (hbig : by_ u rs ≤ 100000000)
    (hK : ∀ W', Below s W W' → Lib.Utf8Tabs 2 3 W' ∧ isRope W' b rs) :
    Calls Tryz.prog 164 #[.int .i64 n, .pointer (some ⟨s + 3, 0, none⟩), .pointer (some ⟨s, 0, none⟩), .pointer (some ⟨s + 1, 0, none⟩), .pointer (some ⟨s + 2, 0, none⟩), .pointer (some ⟨s + 4, 0, none⟩)] W fun e w' =>
      e = .returned (.tuple #[.int .i64 (by_ v X - h), .nilIface]) ∧ stp w' s b u v (a + n) (by_ v X) ∧ Below s W w' ∧ W.heap.size ≤ w'.heap.size ∧ (∀ B e size m v' xs, s + 5 ≤ B → B ≤ W.heap.size → W.ownsRow B e size v' m xs → w'.ownsRow B e size v' m xs) ∧ ∀ k, k ≠ s + 3 → k ≠ s + 4 → k < W.heap.size → w'.heap[k]? = W.heap[k]? := by
  have l3 := World.block_lt_of_cell? W _ k.a
  have l4 := World.block_lt_of_cell? W _ k.h
  obtain ⟨k1, k2, k3, k4, k5, k6, k7⟩ := k
  have hw1 : IntKind.i64.wrap (a + n) = a + n := by rw [IntKind.wrap_i64]; omega
  have hw2 : IntKind.i64.wrap (by_ v X - h) = by_ v X - h := by rw [IntKind.wrap_i64]; omega
  have hb1 : Below s W (W.setCell ⟨s + 3, 0, none⟩ (.int .i64 (a + n))) := (Below.refl s W).setCell (p := ⟨s + 3, 0, none⟩) (Nat.le_add_right _ _) _
  obtain ⟨hT1, hR1⟩ := hK _ hb1
  have cC : Hid _ := convert_any b rs u v (a + n) hu hv h0 h1 (W.setCell ⟨s + 3, 0, none⟩ (.int .i64 (a + n))) hT1 hR1 hz X hX hfine
  have KS : Hid (stp (W.setCell ⟨s + 3, 0, none⟩ (.int .i64 (a + n))) s b u v (a + n) h) := by
    refine ⟨?_, ?_, ?_, ?_, ?_, ?_, ?_⟩ <;> simp [go_sem, k1, k2, k3, k4, k5, k6, k7]
  have HB1 : Hid (Below s W (W.setCell ⟨s + 3, 0, none⟩ (.int .i64 (a + n)))) := hb1
  generalize by_ v X = x at *
  clear hX hfine hu hv h0 h1 hT hR hz hK hT1 hR1 hb1 hbig
  go_enter Tryz.func164, Tryz.ntmps164
  go_wp2_with (first
    | (go_at_call 119; refine Calls.mono cC.out ?_; rintro e w2 ⟨rfl, hb2⟩; have KS2 : Hid (stp w2 s b u v (a + n) h) := KS.out.below hb2; have HB2 : Hid (Below s W w2) := HB1.out.trans (hb2.mono (by simp; omega)); have HS2 := hb2.size; have HW2 : Hid _ := hb2; obtain ⟨m1, m2, m3, m4, m5, m6, m7⟩ := KS.out.below hb2; clear hb2)
    | fail)
  go_ret2
  have hz2 : W.heap.size ≤ w2.heap.size := by simpa using HS2
  refine ⟨rfl, ?_, HB2.out.setCell (p := ⟨s + 4, 0, none⟩) (Nat.le_add_right _ _) _, by simpa using hz2, ?_, ?_⟩
  · refine ⟨?_, ?_, ?_, ?_, ?_, ?_, ?_⟩ <;> simp [go_sem, m1, m2, m3, m4, m5, m6, m7]
  · intro B e size m v' xs hB hBW ho
    refine own_setAt ?_ (by omega) _
    exact own_below (own_setAt ho (by omega) _) HW2.out
  · intro k hk3 hk4 hk
    have e1 := Below.heap_setCell w2 (⟨s + 4, 0, none⟩ : Addr) (.int .i64 x) k (by show k ≠ s + 4; exact hk4)
    have e2 := HW2.out.block k (by simpa using hk)
    have e3 := Below.heap_setCell W (⟨s + 3, 0, none⟩ : Addr) (.int .i64 (a + n)) k (by show k ≠ s + 3; exact hk3)
    exact e1.trans (e2.trans e3)
end Go.Proofs.YtldhbjmillfjgabGreatDoor
