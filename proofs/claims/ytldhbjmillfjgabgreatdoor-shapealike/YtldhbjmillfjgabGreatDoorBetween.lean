/-
  rope.between, of no trees: a text in chunks.
-/
import Derived.Test.YtldhbjmillfjgabGreatDoorPieces
import Derived.Test.YtldhbjmillfjgabGreatDoorRoundRel
namespace Go.Proofs.YtldhbjmillfjgabGreatDoor
open Go.RowKit
set_option linter.unusedVariables false
attribute [local go_sem] Oper.semAt_some yieldsUpon okUpon

theorem okT_size : ∀ {l : List (List Nat)}, (∀ c ∈ l, okChunk c) → l.length ≤ l.flatten.length
  | [], _ => Nat.le_refl _
  | c :: l, h => by
    have h1 := (h c (List.mem_cons.2 (.inl rfl))).1
    have h2 := okT_size fun x hx => h x (List.mem_cons.2 (.inr hx))
    have : 1 ≤ c.length := by cases c with | nil => exact absurd rfl h1 | cons _ _ => simp
    rw [List.flatten_cons, List.length_append, List.length_cons]
    omega
theorem big_put {t : T} {x : List Nat} (h : okT t) (hx : okChunk x) (hz : C1 (t.runes ++ x) ≤ 100000000) : big (.node t x .nil) := by
  have e : (T.node t x .nil).runes = t.runes ++ x := by simp [T.runes]
  have h1 := okT_size (l := t.chunks ++ [x]) fun c hc => (List.mem_append.1 hc).elim (h.2 c) fun hc => by rw [List.mem_singleton] at hc; rw [hc]; exact hx
  have h3 := (C3_le (t.runes ++ x)).2
  unfold C3 at h3
  rw [List.flatten_append, ← runes_chunks, List.length_append, List.length_append, List.length_singleton] at h1
  simp only [List.flatten_cons, List.flatten_nil, List.append_nil] at h1
  rw [List.length_append] at h3
  refine ⟨by rw [e]; omega, ?_⟩
  simp only [T.size]
  rw [size_chunks]
  omega

theorem chain_nil (q : Option Addr) (w : World) : Calls Tryz.prog 117 #[.pointer q, .pointer none] w fun e w' => e = .returned (.pointer q) ∧ w' = w := by
  go_enter Tryz.func117, Tryz.ntmps117
  go_wp2
  go_ret
  exact ⟨rfl, rfl⟩

/-- The tree that grows, in its variable. -/
def grows (w W : World) (L sb R : Nat) (rs : List Nat) : Prop :=
  Below w.heap.size w W ∧ (∃ q t, W.cell? ⟨L, 0, none⟩ = some (.pointer q) ∧ W.frozen? ⟨L, 0, none⟩ = false ∧ isTree W q t ∧ okT t ∧ t.runes = rs) ∧ W.cell? ⟨sb, 5, none⟩ = none ∧ W.cell? ⟨R, 5, none⟩ = none ∧ W.cell? ⟨L, 5, none⟩ = none ∧ R < W.heap.size

theorem But.putObj (B : Nat) (A : World) (o : Obj) : But B A (A.putObj B o) := ⟨rfl, rfl, rfl, by simp, fun k _ h => World.putObj_heap_other h⟩
theorem But.frozen {B : Nat} {A A' : World} (h : But B A A') {b o : Nat} (hl : b < A.heap.size) (hb : b ≠ B) : A'.frozen? ⟨b, o, none⟩ = A.frozen? ⟨b, o, none⟩ :=
  World.frozen?_of_block (w := A) (a := ⟨b, o, none⟩) (h.block b hl hb)
theorem But.cellEq {B : Nat} {A A' : World} (h : But B A A') {b o : Nat} (hl : b < A.heap.size) (hb : b ≠ B) : A'.cell? ⟨b, o, none⟩ = A.cell? ⟨b, o, none⟩ :=
  World.cell?_of_block (w := A) (a := ⟨b, o, none⟩) (h.block b hl hb)
theorem none_loop {W : World} {k : Nat} {r : Loop} (h : W.heap[k]? = some (.loop r)) (o : Nat) : W.cell? ⟨k, o, none⟩ = none := by unfold World.cell?; simp [h]

theorem cellOn {A B : World} {b : Nat} (h : B.heap[b]? = A.heap[b]?) (o : Nat) : B.cell? ⟨b, o, none⟩ = A.cell? ⟨b, o, none⟩ := World.cell?_of_block (w := A) (a := ⟨b, o, none⟩) h
theorem frozenOn {A B : World} {b : Nat} (h : B.heap[b]? = A.heap[b]?) (o : Nat) : B.frozen? ⟨b, o, none⟩ = A.frozen? ⟨b, o, none⟩ := World.frozen?_of_block (w := A) (a := ⟨b, o, none⟩) h

theorem grows_put {w W w5 w6 : World} {q : Option Addr} {v : Value} {t : T} {rs : List Nat} (hW : Below w.heap.size w W) (hs : w.heap.size + 6 ≤ W.heap.size) (k1 : W.cell? ⟨w.heap.size, 0, none⟩ = some v) (k2 : W.frozen? ⟨w.heap.size, 0, none⟩ = false)
    (k6 : W.cell? ⟨w.heap.size + 3, 5, none⟩ = none) (k7 : W.cell? ⟨w.heap.size + 5, 5, none⟩ = none) (k8 : W.cell? ⟨w.heap.size, 5, none⟩ = none) (h5 : Below W.heap.size W w5) (ht : isTree w5 q t) (ho : okT t) (hr : t.runes = rs)
    (h6 : Below w5.heap.size (w5.setCell ⟨w.heap.size, 0, none⟩ (.pointer q)) w6) :
    Same2 (w.heap.size + 4) W w6 ∧ (W.heap.size ≤ w6.heap.size ∧ w6.heap[w.heap.size + 3]? = W.heap[w.heap.size + 3]?) ∧ grows w w6 w.heap.size (w.heap.size + 3) (w.heap.size + 5) rs := by
  have hB : But w.heap.size w5 (w5.setCell ⟨w.heap.size, 0, none⟩ (.pointer q)) := But.setCell (But.refl _ w5) (p := ⟨w.heap.size, 0, none⟩) rfl _
  have hsz : (w5.setCell ⟨w.heap.size, 0, none⟩ (.pointer q)).heap.size = w5.heap.size := by simp [World.setCell]
  have s5 := h5.size
  have s6 := h6.size
  have blk : ∀ k, k ≠ w.heap.size → k < W.heap.size → w6.heap[k]? = W.heap[k]? := fun k h1 h2 => (h6.block k (by omega)).trans ((hB.block k (by omega) h1).trans (h5.block k h2))
  have c1 : w5.cell? ⟨w.heap.size, 0, none⟩ = some v := (World.cell?_of_block (w := W) (a := ⟨w.heap.size, 0, none⟩) (h5.block w.heap.size (by omega))).trans k1
  have c5 : w5.cell? ⟨w.heap.size, 5, none⟩ = none := (World.cell?_of_block (w := W) (a := ⟨w.heap.size, 5, none⟩) (h5.block w.heap.size (by omega))).trans k8
  refine ⟨⟨blk _ (by omega) (by omega), blk _ (by omega) (by omega)⟩, ⟨by omega, blk _ (by omega) (by omega)⟩, ?_, ⟨q, t, ?_, ?_, isTree_below (by rw [hsz]; exact h6) (isTree_but hB c5 ht), ho, hr⟩, ?_, ?_, ?_, by omega⟩
  · exact hW.trans ((h5.mono (by omega)).trans ((hB.below (by omega)).trans (h6.mono (by omega))))
  · exact (cellOn (h6.block w.heap.size (by omega)) 0).trans (World.cell?_setCell_same' _ _ _ (by rw [c1]; rfl))
  · exact (frozenOn (h6.block w.heap.size (by omega)) 0).trans ((World.frozen?_setCell _ _ _ _).trans ((frozenOn (h5.block w.heap.size (by omega)) 0).trans k2))
  · exact (cellOn (blk (w.heap.size + 3) (by omega) (by omega)) 5).trans k6
  · exact (cellOn (blk (w.heap.size + 5) (by omega) (by omega)) 5).trans k7
  · exact (cellOn (h6.block w.heap.size (by omega)) 5).trans ((World.cell?_setCell_other (w := w5) ⟨w.heap.size, 0, none⟩ ⟨w.heap.size, 5, none⟩ _ (by simp)).trans c5)

set_option maxRecDepth 100000 in
set_option maxHeartbeats 2000000 in
theorem between_new (rs : List Nat) (hr : ∀ r ∈ rs, isRune r) (hz : (encs rs).length ≤ 100000000) (w : World) (hT : Lib.Utf8Tabs 2 3 w) :
    Calls Tryz.prog 60 #[.pointer none, .string (bytesOf rs), .pointer none] w fun e w' => ∃ q t, e = .returned (.pointer q) ∧ isTree w' q t ∧ okT t ∧ t.runes = rs ∧ Below w.heap.size w w' := by
  have hsz : (bytesOf rs).size ≤ 100000000 := by rw [bytesOf_size]; exact hz
  have hcat : ({ data := #[] } : ByteArray) ++ bytesOf rs ++ { data := #[] } = bytesOf rs := by apply ByteArray.ext; simp [ByteArray.data_append]
  have cP := fun wx => pieces_any (bytesOf rs) wx
  have HZ : Hid _ := hz
  have HR : Hid _ := hr
  clear hz hr
  have hB0 : Below w.heap.size w w := Below.refl _ w
  refine (callsIn_wide (n := 3)).1 ?_
  refine callsIn_of_wp_marks Tryz.func60 rfl trivial ?_ rfl
  simp only [Tryz.ntmps60, List.size_toArray, List.length_cons, List.length_nil, Nat.reduceAdd, Nat.reduceSub, Array.replicate_succ, Array.replicate_zero, List.push_toArray, List.append_toArray, List.nil_append, List.cons_append]
  gi_wp2_with (first
    | (refine ⟨trivial, ?_⟩; gi_at_call 114; refine (callsIn_wide.2 (cP _)).mono ?_; rintro e w13 ⟨rfl, rfl⟩)
    | fail)
  obtain ⟨W4, hW4⟩ : ∃ W4, W4 = (((w.alloc (Obj.cells #[Value.pointer none] 119)).alloc (Obj.cells #[Value.string { data := #[] }, Value.int IntKind.i64 0, Value.int IntKind.i64 0, Value.int IntKind.i64 0, Value.int IntKind.i64 0] 194)).alloc (Obj.cells #[Value.string { data := #[] }, Value.int IntKind.i64 0, Value.int IntKind.i64 0, Value.int IntKind.i64 0, Value.int IntKind.i64 0] 194)).alloc (.cells #[.string (bytesOf rs)] 9) := ⟨_, rfl⟩
  have hb4 : Below w.heap.size w W4 := by rw [hW4]; exact ((((Below.refl _ w).alloc (Nat.le_refl _) _).alloc (by simp) _).alloc (by simp; omega) _).alloc (by simp; omega) _
  have hs4 : W4.heap.size = w.heap.size + 4 := by rw [hW4]; simp
  have cl : W4.cell? ⟨w.heap.size, 0, none⟩ = some (.pointer none) := by rw [hW4]; simp [go_sem]
  have fl : W4.frozen? ⟨w.heap.size, 0, none⟩ = false := by rw [hW4]; simp [go_sem]
  have cl5 : W4.cell? ⟨w.heap.size, 5, none⟩ = none := by rw [hW4]; simp [go_sem]
  have cs : W4.cell? ⟨w.heap.size + 3, 0, none⟩ = some (.string (bytesOf rs)) := by rw [hW4]; simp [go_sem]
  have fs : W4.frozen? ⟨w.heap.size + 3, 0, none⟩ = false := by rw [hW4]; simp [go_sem]
  have cs5 : W4.cell? ⟨w.heap.size + 3, 5, none⟩ = none := by rw [hW4]; simp [go_sem]
  rw [← hW4]
  clear hW4 hcat cP
  refine wp_range_own (gf := 160) (lb := #[.pointer (some ⟨w.heap.size + 3, 0, none⟩)]) rfl (enters_of Tryz.func160 (by kernel_rfl) rfl) (encs := fun _ (x : List Nat) => #[.string (bytesOf x)]) (fun _ _ => rfl)
    (It := fun A B => (∃ v, B = A.setCell ⟨w.heap.size + 3, 0, none⟩ v) ∧ w.heap.size + 6 ≤ A.heap.size) (Kp := fun A B => A.heap.size ≤ B.heap.size ∧ B.heap[w.heap.size + 3]? = A.heap[w.heap.size + 3]?) (Z := fun _ => True) (S := fun xs => xs.flatten = rs ∧ ∀ x ∈ xs, okChunk x) (Sp := fun pre => (∃ rest, rs = pre.flatten ++ rest) ∧ ∀ x ∈ pre, okChunk x)
    ?seq ?its (fun h k => ⟨Nat.le_trans h.1 k.1, k.2.trans h.2⟩) ?hkb
    (fun pre W => grows w W w.heap.size (w.heap.size + 3) (w.heap.size + 5) pre.flatten) (fun _ _ _ => False) (fun _ _ _ => trivial) (fun _ _ _ h => h.elim) ?ii ?ib (fun _ _ _ _ h _ => h) (fun _ _ _ _ h => h) ?h0 ?round ?done (fun _ _ _ _ h => h.elim)
  case seq =>
    intro W hs1 hb1
    rw [hs4] at hs1 hb1
    have := pieces_seq rs HR.out (by have := HZ.out; omega) (fun _ => True) (w.heap.size + 3) W ((hb1.cell (p := ⟨w.heap.size + 3, 0, none⟩) (by show w.heap.size + 3 < _; omega)).trans cs) ((hb1.frozen (p := ⟨w.heap.size + 3, 0, none⟩) (by show w.heap.size + 3 < _; omega)).trans fs)
    rw [hs1] at this
    exact this
  case its =>
    rintro A B ⟨⟨v, rfl⟩, h⟩
    rw [hs4]
    exact (Same2.refl _ A).setCell (by show w.heap.size + 3 ≠ _; omega) (by show w.heap.size + 3 ≠ _; omega) v
  case hkb =>
    intro A r
    rw [hs4]
    exact ⟨by simp, World.putObj_heap_other (by omega)⟩
  case ii =>
    rintro pre A B ⟨hb, ⟨q, t, h1, h2, h3, h4, h5⟩, h6, h7, h8, h9⟩ ⟨⟨v, rfl⟩, hA⟩
    have hB : But (w.heap.size + 3) A (A.setCell ⟨w.heap.size + 3, 0, none⟩ v) := But.setCell (But.refl _ A) (p := ⟨w.heap.size + 3, 0, none⟩) rfl v
    exact ⟨hb.setCell (by show w.heap.size ≤ w.heap.size + 3; omega) v, ⟨q, t, hB.cell (by omega) h1, (hB.frozen (by omega) (by omega)).trans h2, isTree_but hB h6 h3, h4, h5⟩, ((World.cell?_setCell_other (w := A) ⟨w.heap.size + 3, 0, none⟩ ⟨w.heap.size + 3, 5, none⟩ v (by simp)).trans h6), (hB.cellEq (by omega) (by omega)).trans h7, (hB.cellEq (by omega) (by omega)).trans h8, by simpa [World.setCell] using h9⟩
  case ib =>
    rintro pre A r ⟨hb, ⟨q, t, h1, h2, h3, h4, h5⟩, h6, h7, h8, h9⟩
    rw [hs4]
    have hB := But.putObj (w.heap.size + 5) A (.loop r)
    exact ⟨hb.trans (hB.below (by omega) |>.mono (by omega)), ⟨q, t, hB.cell (by omega) h1, (hB.frozen (by omega) (by omega)).trans h2, isTree_but hB h7 h3, h4, h5⟩, (hB.cellEq (by omega) (by omega)).trans h6, none_loop (World.putObj_heap_same h9) 5, (hB.cellEq (by omega) (by omega)).trans h8, by simpa using h9⟩
  case h0 =>
    rintro W hs hb ⟨r, hr⟩
    rw [hs4] at hs hb hr
    exact ⟨hb4.trans (hb.mono (by omega)), ⟨none, .nil, (hb.cell (p := ⟨w.heap.size, 0, none⟩) (by show w.heap.size < _; omega)).trans cl, (hb.frozen (p := ⟨w.heap.size, 0, none⟩) (by show w.heap.size < _; omega)).trans fl, rfl, okT_nil, rfl⟩, (hb.cell (p := ⟨w.heap.size + 3, 5, none⟩) (by show w.heap.size + 3 < _; omega)).trans cs5, none_loop hr 5, (hb.cell (p := ⟨w.heap.size, 5, none⟩) (by show w.heap.size < _; omega)).trans cl5, by omega⟩
  case round =>
    rintro l pre x W hI hlW hSp
    rw [hs4] at hlW ⊢
    obtain ⟨hb, ⟨q, t, h1, h2, h3, h4, h5⟩, h6, h7, h8, h9⟩ := hI
    obtain ⟨⟨rest, hrs⟩, hxo⟩ := hSp
    have hx : okChunk x := hxo x (by simp)
    have HX : Hid (okChunk x) := hx
    have HL : Hid (C1 (pre.flatten ++ x) ≤ 100000000) := by
      show _ ≤ _
      have := HZ.out
      rw [hrs, encs_append, List.length_append] at this
      rw [C1_len]
      simp only [List.flatten_append, List.flatten_cons, List.flatten_nil, List.append_nil] at this
      omega
    have HBG : Hid (big (.node t x .nil)) := big_put h4 hx (by rw [h5]; exact HL.out)
    clear hrs hxo hx
    gi_wp2
    refine ⟨Same2.refl _ W, ⟨Nat.le_refl _, trivial⟩, ?_⟩
    intro w2 hp ⟨r, hr⟩
    have hw2 : Below w.heap.size w w2 := hb.trans ((hp.below (Nat.le_refl _)).mono (by omega))
    have hs2 : w.heap.size + 6 ≤ w2.heap.size := by rw [hp.size]; exact hlW
    have k1 := (hp.cell (b := w.heap.size) (o := 0) (by omega)).trans h1
    have k2 := (hp.frozen (b := w.heap.size) (o := 0) (by omega)).trans h2
    have k6 := (hp.cell (b := w.heap.size + 3) (o := 5) (by omega)).trans h6
    have k8 := (hp.cell (b := w.heap.size) (o := 5) (by omega)).trans h8
    have k7 := none_loop hr 5
    have k3 : isTree w2 q t := isTree_but (B := w.heap.size + 5) ⟨hp.os, hp.tape, hp.output, Nat.le_of_eq hp.size.symm, fun k _ hk => hp.block k hk⟩ h7 h3
    have HT : Hid (isTree w2 q t) := k3
    have HO : Hid (okT t) := h4
    have HR5 : Hid (t.runes = pre.flatten) := h5
    have cK := fun wx (hbx : Below w.heap.size w wx) => chunkOf_any x HX.out.2.2 (by have := HL.out; rw [C1_append] at this; have := C1_len pre.flatten; have := C1_len x; omega) wx (Go.Proofs.Utf8Tabs_below hT hbx)
    clear h1 h2 h3 h4 h5 h6 h7 h8 h9 k3 hb hp hr
    gi_wp2
    refine wpR_region_rel 4 5 (by kernel_rfl) rfl (by kernel_rfl) ?_
    intro w3 hb3
    obtain ⟨G, hG⟩ := exists_growth w3
    have hw3 : Below w.heap.size w w3 := hw2.trans (hb3.mono (by omega))
    have k1G : ∀ x, (G x).cell? ⟨w.heap.size, 0, none⟩ = some (.pointer q) := hG.cell ((hb3.cell (p := ⟨w.heap.size, 0, none⟩) (by show w.heap.size < _; omega)).trans k1)
    have cKG := fun x => (cK (G x) (hw3.trans ((hG.below x).mono hw3.size)))
    have k1' := k1
    clear k1
    (refine anyG_step hG (i := 0) rfl (by kernel_rfl) (by kernel_rfl) (by kernel_rfl) (fun K hK => ?_); go_simp; refine hK _ ?_; clear hK K)
    (refine anyG_step hG (i := 1) rfl (by kernel_rfl) (by kernel_rfl) (by kernel_rfl) (fun K hK => ?_); go_simp; refine hK _ ?_; clear hK K)
    (refine anyG_step hG (i := 2) rfl (by kernel_rfl) (by kernel_rfl) (by kernel_rfl) (fun K hK => ?_); go_simp; apply Exists.intro; refine ⟨fun _ => ?_, hK _ ?_⟩; exact cKG _; clear hK K)
    clear k1G cKG hG
    have HTT : Hid (Lib.Utf8Tabs 2 3 w) := hT
    clear hT
    refine anyG_one (i := 3) rfl (by kernel_rfl) ?_
    intro w4 hb4 K hK
    have hb24 : Below w2.heap.size w2 w4 := hb3.trans (hb4.mono hb3.size)
    have ck := add_any q t x w4 (Go.Proofs.Utf8Tabs_below HTT.out (hw2.trans (hb24.mono (by omega)))) (isTree_below hb24 HT.out) HBG.out HO.out HX.out
    go_simp
    refine ck.mono ?_
    rintro e w5 ⟨q5, t5, rfl, ht5, ha5, hb5⟩
    refine ⟨_, rfl, hK _ _ hb5 ?_⟩
    clear hK K ck
    have hb25 : Below w2.heap.size w2 w5 := hb24.trans (hb5.mono hb24.size)
    have HT5 : Hid _ := ht5
    have HA5 : Hid _ := ha5
    clear ht5 ha5 hb3 hb4 hb5 hb24 hw3
    refine anyG_late (i := 4) rfl (by kernel_rfl) (by kernel_rfl) ?_
    intro w6 hb6 K hK
    have c6 : w6.cell? ⟨w.heap.size, 0, none⟩ = some (.pointer q) := (hb6.cell (p := ⟨w.heap.size, 0, none⟩) (by have := hb25.size; show w.heap.size < _; omega)).trans ((hb25.cell (p := ⟨w.heap.size, 0, none⟩) (by show w.heap.size < _; omega)).trans k1')
    have f6 : w6.frozen? ⟨w.heap.size, 0, none⟩ = false := (hb6.frozen (p := ⟨w.heap.size, 0, none⟩) (by have := hb25.size; show w.heap.size < _; omega)).trans ((hb25.frozen (p := ⟨w.heap.size, 0, none⟩) (by show w.heap.size < _; omega)).trans k2)
    go_simp
    refine hK _ _ ?_
    clear hK K
    refine anyG_end (by kernel_rfl) ?_
    intro w7 hb7
    have HG : Hid _ := grows_put hw2 hs2 k1' k2 k6 k7 k8 (hb25.trans (hb6.mono hb25.size)) (isTree_below hb6 HT5.out) HA5.out.2.1 (HA5.out.1.trans (by rw [HR5.out])) (by have := hb7; rwa [show (w6.setCell ⟨w.heap.size, 0, none⟩ (.pointer q5)).heap.size = w6.heap.size by simp [World.setCell]] at this)
    clear c6 f6 hb7 k1' k2 k6 k7 k8
    gi_wp2
    refine ⟨HG.out.1, HG.out.2.1, ?_⟩
    have := HG.out.2.2
    show grows w w7 w.heap.size (w.heap.size + 3) (w.heap.size + 5) (pre ++ [x]).flatten
    rw [show (pre ++ [x]).flatten = pre.flatten ++ x by simp]
    exact this
  case done =>
    rintro xs W ⟨hxs, hxo⟩ hI hDef
    rw [hs4] at hDef ⊢
    obtain ⟨hb, ⟨q, t, h1, h2, h3, h4, h5⟩, h6, h7, h8, h9⟩ := hI
    have H3 : Hid (isTree W q t) := h3
    have H4 : Hid (okT t) := h4
    have H5 : Hid (t.runes = rs) := h5.trans hxs
    have c86 := chain_nil q
    clear h3 h4 h5 hxs hxo
    gi_wp2_with (first
      | (refine ⟨trivial, ?_⟩; gi_at_call 117; refine (callsIn_wide.2 (c86 _)).mono ?_; rintro e wx ⟨rfl, hwx⟩; obtain rfl := hwx.symm)
      | fail)
    have hdn : W.cell? ⟨w.heap.size + 4, 5, none⟩ = none := by unfold World.cell?; simp [hDef]
    refine ⟨by simp, .inl ⟨_, _, rfl, run_takeDeferred hDef, ?_⟩⟩
    refine ⟨.pointer q, by simp [results, Tryz.results60, go_sem], q, t, rfl, isTree_but (But.putObj _ _ _) hdn H3.out, H4.out, H5.out, hb.trans (((But.putObj (w.heap.size + 4) W _).below (by omega)).mono (by omega))⟩
end Go.Proofs.YtldhbjmillfjgabGreatDoor
