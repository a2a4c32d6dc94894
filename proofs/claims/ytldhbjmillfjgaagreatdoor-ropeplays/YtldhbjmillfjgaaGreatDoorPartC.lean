/-
  rope.add: a chunk behind all of a tree's.
  Plain mathematics: where runes begin among bytes; a text cut into pieces.
  A range over an iterator that keeps state in cells of its own: the statement's law, over what the iterator may turn between two rounds and what a round keeps, both the user's choice.
  The library's contracts that these texts use, laid at this program by the shelf's own command, its plain mode.
  rope.pieces: what its iterator does with the rounds of a loop.
  RegionRel's walk within a loop's round.
  rope.between, of no trees: a text in chunks.
  rope's New, tree, Counts: of a sound text.
  rope.first: the first chunk of a tree, and the tree of the others.
  rope.chain: two trees' chunks in one.
  utf.each, where the closure may say no: how far it comes.
  utf.Walk: what its iterator does with the rounds of a loop.
  The document's own Edges: what it returns of a sound text.
  Plain mathematics, and memory: the rows of the document's Edges against what Walk hands over.
  rope.within: as few of a chunk's runes as are enough.
-/
import Derived.Test.YtldhbjmillfjgaaGreatDoorPartB
import Derived.RangeFuncNested
import Derived.RangeFuncBound
import Derived.RangeFuncCalls
import Derived.RangeFuncLeaves
import Derived.WalkKit
import Derived.Shelf.Strings.Builder1
import Derived.Shelf.Small.Utf8
import Derived.Shelf.Small.Strs
import Derived.Shelf.Strings.BuilderF
import Derived.Shelf.Strings.BuilderK
import Derived.Shelf.Utf8.RuneCount
import Derived.Shelf.LaysM
import Derived.Shelf.Strconv.Clone
import Derived.Shelf.Strings.Search1
import Derived.Shelf.Strings.Search2
import Derived.Shelf.Strings.Search3
import Derived.Shelf.Strings.Count
import Derived.Shelf.Strings.Shaped
import Derived.Shelf.Strings.LastIndex
import Derived.Shelf.Strings.Split
import Derived.Shelf.Unicode.Decode
import Derived.Shelf.Strings.RuneCount
import Derived.Shelf.Unicode.DecodeSlow
import Derived.Shelf.Unicode.DecodeAny
import Derived.Shelf.Strings.BuilderCap
import Derived.Test.YtldhbjmillfjgaaGreatDoorProg
import Derived.OwnWalkIn
import Derived.TacticsInMore
import Derived.LoopNIn
import Derived.LoopIn
import Derived.Test.YtldhbjmillfjgaaGreatDoorPartA
import Derived.RangeFuncRecord
namespace Go.Proofs.YtldhbjmillfjgaaGreatDoor
open Go.RowKit
set_option linter.unusedVariables false

/-- A chunk as it is to be: runes, one to thirty-two bytes. -/
def okChunk (c : List Nat) : Prop := c ≠ [] ∧ (encs c).length ≤ 32 ∧ ∀ r ∈ c, isRune r
def okT (t : T) : Prop := t.bal ∧ ∀ c ∈ t.chunks, okChunk c
theorem okT_nil : okT .nil := ⟨trivial, fun c h => by cases h⟩
/-- What comes of a chunk behind all. -/
def added (t : T) (c : List Nat) (t' : T) : Prop := t'.runes = t.runes ++ c ∧ okT t' ∧ t'.size ≤ t.size + 1

theorem joined_nil {t t' : T} {c : List Nat} (h : joined t .nil c t') (ht : okT t) (hc : okChunk c) : added t c t' := by
  obtain ⟨j1, j2, _, _⟩ := h
  refine ⟨by rw [runes_chunks, runes_chunks t, j1]; simp [T.chunks], ⟨j2, fun x hx => ?_⟩, by rw [size_chunks, size_chunks, j1]; simp [T.chunks]⟩
  rw [j1] at hx
  simp only [T.chunks, List.append_nil, List.mem_append, List.mem_singleton] at hx
  rcases hx with hx | rfl
  · exact ht.2 x hx
  · exact hc

set_option maxRecDepth 100000 in
set_option maxHeartbeats 2000000 in
theorem add_nil (c : List Nat) (w : World) (hz : C1 c ≤ 1000000000) :
    Calls Tryz.prog 61 #[.pointer none, chunkV c] w fun e w' => ∃ q, e = .returned (.pointer q) ∧ isTree w' q (.node .nil c .nil) ∧ Below w.heap.size w w' := by
  have hb0 : ∀ o, Below w.heap.size w (w.alloc o) := fun o => (Below.refl _ w).alloc (Nat.le_refl _) o
  have e0 : C1 T.nil.runes = 0 := rfl
  have ck := fun wx => link_any none none .nil .nil c wx rfl rfl (by rw [e0]; omega) (by simp [T.size, T.height])
  unfold chunkV at *
  clear hz e0
  go_enter Tryz.func61, Tryz.ntmps61
  go_wp2_with (first | (go_at_call 82; refine (ck _).mono ?_; rintro e w1 ⟨q, rfl, ht, hb⟩; have HT : Hid _ := ht; clear ht) | fail)
  go_ret
  exact ⟨q, rfl, HT.out, (hb0 _).trans (hb.mono (hb0 _).size)⟩

set_option maxRecDepth 100000 in
set_option maxHeartbeats 2000000 in
theorem add_more (b : Nat) (t : T) (c : List Nat) (w : World) (hT : Lib.Utf8Tabs 2 3 w) (ht : isTree w (some ⟨b, 0, none⟩) t) (hne : t ≠ .nil) (hz : big (.node t c .nil)) (hok : okT t) (hc : okChunk c) :
    Calls Tryz.prog 61 #[.pointer (some ⟨b, 0, none⟩), chunkV c] w fun e w' => ∃ q t', e = .returned (.pointer q) ∧ isTree w' q t' ∧ added t c t' ∧ Below w.heap.size w w' := by
  have hb0 : ∀ o, Below w.heap.size w (w.alloc o) := fun o => (Below.refl _ w).alloc (Nat.le_refl _) o
  have cl := fun o => last_any _ t _ (w.alloc o) (Nat.le_refl _) hne (isTree_below (hb0 o) ht) (big_node hz).1 hok.1
  have HT : Hid (isTree w (some ⟨b, 0, none⟩) t) := ht
  have HTT : Hid (Lib.Utf8Tabs 2 3 w) := hT
  have HB : Hid (big (.node t c .nil)) := hz
  have HO : Hid (okT t) := hok
  have HC : Hid (okChunk c) := hc
  have hcs : (bytesOf c).size ≤ 32 := by rw [bytesOf_size]; exact hc.2.1
  clear hT ht hne hz hok hc
  have HA0 : Hid (∀ x t0, ended t x t0 → okChunk x ∧ (encs x).length ≤ 32 ∧ big (.node t0 (x ++ c) .nil) ∧ okT t0) := fun x t0 he => by
    have hx : okChunk x := HO.out.2 x (by rw [he.1]; simp)
    refine ⟨hx, hx.2.1, ?_, he.2, fun y hy => HO.out.2 y (by rw [he.1]; simp [hy])⟩
    obtain ⟨z1, z2⟩ := HB.out
    simp only [T.runes, T.size, C1_append] at z1 z2
    rw [runes_chunks t, he.1] at z1
    rw [size_chunks t, he.1] at z2
    simp only [List.flatten_append, C1_append, List.length_append, List.length_singleton, List.flatten_cons, List.flatten_nil, List.append_nil] at z1 z2
    exact ⟨by simp only [T.runes, C1_append, runes_chunks t0]; omega, by simp only [T.size, size_chunks t0]; omega⟩
  have HK : Hid (∀ x t0, ended t x t0 → ∀ wx, Below w.heap.size w wx → Calls Tryz.prog 62 #[.string (bytesOf x ++ bytesOf c)] wx fun e w' => e = .returned (chunkV (x ++ c)) ∧ Below wx.heap.size wx w') := fun x t0 he wx hb => by
    obtain ⟨h1, h2, h3, _⟩ := HA0.out x t0 he
    rw [bytesOf_append]
    have hl := HC.out.2.1
    refine chunkOf_any (x ++ c) (fun r hr => ?_) ?_ wx (Go.Proofs.Utf8Tabs_below HTT.out hb)
    · rcases List.mem_append.1 hr with hr | hr
      · exact h1.2.2 r hr
      · exact HC.out.2.2 r hr
    · rw [C1_append, C1_len, C1_len]; omega
  have HJ1 : Hid (∀ x t0, ended t x t0 → (encs x).length + (encs c).length ≤ 32 → ∀ q0 wx, isTree wx q0 t0 → Calls Tryz.prog 70 #[.pointer q0, chunkV (x ++ c), .pointer none] wx fun e w' => ∃ q t', e = .returned (.pointer q) ∧ isTree w' q t' ∧ added t c t' ∧ Below wx.heap.size wx w') := fun x t0 he hle q0 wx h => by
    obtain ⟨h1, h2, h3, h4⟩ := HA0.out x t0 he
    refine (join_any _ q0 none t0 .nil (x ++ c) wx (Nat.le_refl _) h rfl h3 he.2 trivial).mono ?_
    rintro e w' ⟨q, t', rfl, ht', hj, hb⟩
    have hok : okChunk (x ++ c) := ⟨by simp [h1.1], by rw [encs_append, List.length_append]; exact hle, fun r hr => (List.mem_append.1 hr).elim (h1.2.2 r) (HC.out.2.2 r)⟩
    obtain ⟨a1, a2, a3⟩ := joined_nil hj h4 hok
    refine ⟨q, t', rfl, ht', ⟨?_, a2, ?_⟩, hb⟩
    · rw [a1, runes_chunks t, runes_chunks t0, he.1]; simp
    · have := size_chunks t; rw [he.1] at this; have := size_chunks t0; simp at *; omega
  have HJ2 : Hid (∀ wx, Below w.heap.size w wx → Calls Tryz.prog 70 #[.pointer (some ⟨b, 0, none⟩), chunkV c, .pointer none] wx fun e w' => ∃ q t', e = .returned (.pointer q) ∧ isTree w' q t' ∧ added t c t' ∧ Below wx.heap.size wx w') := fun wx hb => by
    refine (join_any _ _ none t .nil c wx (Nat.le_refl _) (isTree_below hb HT.out) rfl HB.out HO.out.1 trivial).mono ?_
    rintro e w' ⟨q, t', rfl, ht', hj, hb⟩
    exact ⟨q, t', rfl, ht', joined_nil hj HO.out HC.out, hb⟩
  unfold chunkV at *
  go_enter Tryz.func61, Tryz.ntmps61
  go_wp2_with (first
    | (go_at_call 58; refine (cl _).mono ?_; rintro e w1 ⟨x, q0, t0, rfl, ht0, he, hb1⟩; have HT0 : Hid _ := ht0; have HE : Hid (ended t x t0) := he; have hxs : (bytesOf x).size ≤ 32 := (by rw [bytesOf_size]; exact (HA0.out x t0 he).2.1); have hb1W : Below w1.heap.size w1 (w1.alloc (.cells #[.string (bytesOf x), .int .i64 (C1 x), .int .i64 (C2 x), .int .i64 (C3 x), .int .i64 (C4 x)] 106)) := (Below.refl _ w1).alloc (Nat.le_refl _) _; have hm := chunkAt_below (chunkAt_below (chunkAt_new w (.string (bytesOf c)) (.int .i64 (C1 c)) (.int .i64 (C2 c)) (.int .i64 (C3 c)) (.int .i64 (C4 c)) 106) hb1) hb1W; obtain ⟨⟨m0, m1, m2, m3, m4⟩, _⟩ := hm; have hBW : Below w.heap.size w (w1.alloc (.cells #[.string (bytesOf x), .int .i64 (C1 x), .int .i64 (C2 x), .int .i64 (C3 x), .int .i64 (C4 x)] 106)) := (hb0 _).trans ((hb1.trans (hb1W.mono hb1.size)).mono (hb0 _).size); have HBW : Hid _ := hBW; have HTW : Hid _ := isTree_below hb1W ht0; clear ht0 he hBW hb1 hb1W)
    | fail)
  · have hle : (encs x).length + (encs c).length ≤ 32 := by rw [← bytesOf_size, ← bytesOf_size]; omega
    refine (HK.out x t0 HE.out _ HBW.out).mono ?_
    rintro e w2 ⟨rfl, hb2⟩
    have hw2 := HBW.out.trans (hb2.mono HBW.out.size)
    have cj := HJ1.out x t0 HE.out hle q0 w2 (isTree_below hb2 HTW.out)
    unfold chunkV at cj
    clear hb2
    go_wp2_with (first | (go_at_call 70; refine cj.mono ?_; rintro e w3 ⟨q, t', rfl, ht', ha, hb3⟩; have HT' : Hid _ := ht'; have HA' : Hid _ := ha; clear ht' ha) | fail)
    go_ret
    exact ⟨q, t', rfl, HT'.out, HA'.out, hw2.trans (hb3.mono hw2.size)⟩
  · refine (HJ2.out _ HBW.out).mono ?_
    rintro e w3 ⟨q, t', rfl, ht', ha, hb3⟩
    have hw3 := HBW.out.trans (hb3.mono HBW.out.size)
    have HT' : Hid _ := ht'
    have HA' : Hid _ := ha
    clear ht' ha hb3
    go_wp2
    go_ret
    exact ⟨q, t', rfl, HT'.out, HA'.out, hw3⟩

theorem add_any (p : Option Addr) (t : T) (c : List Nat) (w : World) (hT : Lib.Utf8Tabs 2 3 w) (ht : isTree w p t) (hz : big (.node t c .nil)) (hok : okT t) (hc : okChunk c) :
    Calls Tryz.prog 61 #[.pointer p, chunkV c] w fun e w' => ∃ q t', e = .returned (.pointer q) ∧ isTree w' q t' ∧ added t c t' ∧ Below w.heap.size w w' := by
  cases t with
  | nil =>
    obtain rfl : p = none := ht
    refine (add_nil c w (by obtain ⟨z, _⟩ := hz; simp only [T.runes, List.nil_append, List.append_nil] at z; omega)).mono ?_
    rintro e w' ⟨q, rfl, hq, hb⟩
    refine ⟨q, _, rfl, hq, ⟨by simp [T.runes], ⟨⟨trivial, trivial, by simp [T.height], by simp [T.height]⟩, fun x hx => ?_⟩, by simp [T.size]⟩, hb⟩
    simp only [T.chunks, List.nil_append, List.append_nil, List.mem_singleton] at hx
    subst hx
    exact hc
  | node l x r =>
    have h2 := ht
    obtain ⟨b, _, _, rfl, _⟩ := h2
    exact add_more b _ c w hT ht (by simp) hz hok hc
end Go.Proofs.YtldhbjmillfjgaaGreatDoor

namespace Go.Proofs.YtldhbjmillfjgaaGreatDoor

/-- A byte with which a rune may begin. -/
def startB (b : UInt8) : Bool := Lib.runeStart (b.toNat : Int)
theorem startB_lead {n : Nat} (h : n < 256) (h2 : n / 64 ≠ 2) : startB n.toUInt8 = true := by
  unfold startB Lib.runeStart
  rw [toU8 h, bne_iff_ne]
  omega
theorem startB_tail {n : Nat} (h : n < 64) : startB (128 + n).toUInt8 = false := by
  unfold startB Lib.runeStart
  rw [toU8 (by omega), bne_eq_false_iff_eq]
  omega
theorem enc_starts {r : Nat} (hr : isRune r) : ∃ b t, enc r = b :: t ∧ startB b = true ∧ (∀ x ∈ t, startB x = false) ∧ t.length ≤ 3 := by
  unfold isRune at hr
  by_cases h1 : r ≤ 127
  · rw [enc1 h1]; exact ⟨_, [], rfl, startB_lead (by omega) (by omega), by simp, by simp⟩
  by_cases h2 : r ≤ 2047
  · rw [enc2 (by omega) h2]
    exact ⟨_, _, rfl, startB_lead (by omega) (by omega), fun x hx => by simp only [List.mem_cons, List.not_mem_nil, or_false] at hx; subst hx; exact startB_tail (by omega), by simp⟩
  by_cases h3 : r ≤ 65535
  · rw [enc3 (by omega)]
    exact ⟨_, _, rfl, startB_lead (by omega) (by omega), fun x hx => by simp only [List.mem_cons, List.not_mem_nil, or_false] at hx; rcases hx with rfl | rfl <;> exact startB_tail (by omega), by simp⟩
  · rw [enc4 (by omega) (by omega)]
    exact ⟨_, _, rfl, startB_lead (by omega) (by omega), fun x hx => by simp only [List.mem_cons, List.not_mem_nil, or_false] at hx; rcases hx with rfl | rfl | rfl <;> exact startB_tail (by omega), by simp⟩

/-- A place between two runes, or at an end. -/
def edgeAt (rs : List Nat) (j : Nat) : Prop := ∃ k, k ≤ rs.length ∧ j = (encs (rs.take k)).length
theorem edgeAt_zero (rs : List Nat) : edgeAt rs 0 := ⟨0, Nat.zero_le _, by simp [encs]⟩
theorem edgeAt_end (rs : List Nat) : edgeAt rs (encs rs).length := ⟨rs.length, Nat.le_refl _, by rw [List.take_length]⟩
theorem edgeAt_first {r : Nat} (rs : List Nat) : edgeAt (r :: rs) (enc r).length := ⟨1, by simp, by simp [encs]⟩
theorem edgeAt_of_start : ∀ {rs : List Nat}, (∀ r ∈ rs, isRune r) → ∀ {j : Nat} {b : UInt8}, (encs rs)[j]? = some b → startB b = true → edgeAt rs j
  | [], _, j, b, h, _ => by simp [encs] at h
  | r :: rs, hr, j, b, h, hb => by
    obtain ⟨b0, t, e, h1, h2, _⟩ := enc_starts (hr r (by simp))
    rw [encs_cons] at h
    by_cases hj : j < (enc r).length
    · rw [List.getElem?_append_left hj, e] at h
      cases j with
      | zero => exact edgeAt_zero _
      | succ j =>
        rw [List.getElem?_cons_succ] at h
        have := h2 b (List.mem_of_getElem? h)
        rw [this] at hb
        cases hb
    · rw [List.getElem?_append_right (by omega)] at h
      obtain ⟨k, hk, e2⟩ := edgeAt_of_start (fun x hx => hr x (by simp [hx])) h hb
      refine ⟨k + 1, by simp; omega, ?_⟩
      rw [List.take_succ_cons, encs_cons, List.length_append, ← e2]
      omega
theorem start_of_edgeAt : ∀ {rs : List Nat}, (∀ r ∈ rs, isRune r) → ∀ {j : Nat} {b : UInt8}, edgeAt rs j → (encs rs)[j]? = some b → startB b = true
  | [], _, j, b, _, h => by simp [encs] at h
  | r :: rs, hr, j, b, ⟨k, hk, hj⟩, h => by
    obtain ⟨b0, t, e, h1, _, _⟩ := enc_starts (hr r (by simp))
    cases k with
    | zero =>
      simp [encs] at hj
      subst hj
      rw [encs_cons, e] at h
      simp at h
      subst h
      exact h1
    | succ k =>
      rw [List.take_succ_cons, encs_cons, List.length_append] at hj
      rw [encs_cons, List.getElem?_append_right (by omega)] at h
      exact start_of_edgeAt (fun x hx => hr x (by simp [hx])) ⟨k, by simpa using hk, by omega⟩ h

/-- A cut at an edge. -/
theorem cut_at {rs : List Nat} (hr : ∀ r ∈ rs, isRune r) {j : Nat} (h : edgeAt rs j) (h0 : 0 < j) (h32 : j ≤ 32) :
    ∃ x y, rs = x ++ y ∧ okChunk x ∧ (bytesOf rs).extract 0 j = bytesOf x ∧ (bytesOf rs).extract j (bytesOf rs).size = bytesOf y ∧ (encs y).length + j = (encs rs).length := by
  obtain ⟨k, hk, rfl⟩ := h
  refine ⟨rs.take k, rs.drop k, (List.take_append_drop k rs).symm, ⟨?_, h32, fun r h => hr r (List.mem_of_mem_take h)⟩, ?_, ?_, ?_⟩
  · intro e
    rw [e] at h0
    simp [encs] at h0
  · apply ByteArray.ext
    apply Array.toList_inj.1
    rw [Lib.extract_data, List.drop_zero, Nat.sub_zero, bytesOf_list, bytesOf_list]
    conv => lhs; rw [← List.take_append_drop k rs, encs_append]
    simp
  · apply ByteArray.ext
    apply Array.toList_inj.1
    rw [Lib.extract_to_end, bytesOf_list, bytesOf_list]
    conv => lhs; rw [← List.take_append_drop k rs, encs_append]
    simp
  · have e : encs rs = encs (rs.take k) ++ encs (rs.drop k) := by rw [← encs_append, List.take_append_drop]
    rw [e, List.length_append]
    omega
theorem first_len {rs : List Nat} (hr : ∀ r ∈ rs, isRune r) (hne : rs ≠ []) : ∃ f, 1 ≤ f ∧ f ≤ 4 ∧ edgeAt rs f ∧ f ≤ (encs rs).length := by
  cases rs with
  | nil => exact absurd rfl hne
  | cons r rs =>
    obtain ⟨b0, t, e, _, _, h3⟩ := enc_starts (hr r (by simp))
    refine ⟨(enc r).length, by rw [e]; simp, by rw [e]; simp; omega, edgeAt_first rs, by rw [encs_cons, List.length_append]; omega⟩
end Go.Proofs.YtldhbjmillfjgaaGreatDoor

namespace Go.Proofs.YtldhbjmillfjgaaGreatDoor
open Go.RowKit

/-- The loop's two blocks of book-keeping lie as they lay. -/
structure Same2 (n : Nat) (W W' : World) : Prop where
  a : W'.heap[n]? = W.heap[n]?
  b : W'.heap[n + 1]? = W.heap[n + 1]?
theorem Same2.refl (n : Nat) (W : World) : Same2 n W W := ⟨rfl, rfl⟩
theorem Same2.trans {n : Nat} {A B C : World} (h : Same2 n A B) (k : Same2 n B C) : Same2 n A C := ⟨k.a.trans h.a, k.b.trans h.b⟩
theorem Same2.of_below {n B : Nat} {W W' : World} (h : Below B W W') (hB : n + 2 ≤ B) : Same2 n W W' := ⟨h.block n (by omega), h.block (n + 1) (by omega)⟩
theorem Same2.setCell {n : Nat} {A W : World} (h : Same2 n A W) {p : Addr} (h1 : p.block ≠ n) (h2 : p.block ≠ n + 1) (v : Value) : Same2 n A (W.setCell p v) :=
  ⟨(Below.heap_setCell W p v n (fun e => h1 e.symm)).trans h.a, (Below.heap_setCell W p v (n + 1) (fun e => h2 e.symm)).trans h.b⟩
theorem Same2.alloc {n : Nat} {A W : World} (h : Same2 n A W) (hn : n + 2 ≤ W.heap.size) (o : Obj) : Same2 n A (W.alloc o) :=
  ⟨(Below.heap_alloc W o n (by omega)).trans h.a, (Below.heap_alloc W o (n + 1) (by omega)).trans h.b⟩
theorem Same2.drew {n : Nat} {A W : World} (h : Same2 n A W) : Same2 n A W.drew := ⟨h.a, h.b⟩

/-- All blocks but one lie as they lay. -/
structure Put1 (n : Nat) (A B : World) : Prop where
  os : B.os = A.os
  tape : B.tape = A.tape
  output : B.output = A.output
  size : B.heap.size = A.heap.size
  block : ∀ k, k ≠ n → B.heap[k]? = A.heap[k]?
theorem Put1.putObj (n : Nat) (A : World) (o : Obj) : Put1 n A (A.putObj n o) := ⟨rfl, rfl, rfl, by simp, fun _ h => World.putObj_heap_other h⟩
theorem Put1.below {n B : Nat} {A A' : World} (h : Put1 n A A') (hB : B ≤ n) : Below B A A' := ⟨h.os, h.tape, h.output, Nat.le_of_eq h.size.symm, fun k hk => h.block k (by omega)⟩
theorem Put1.cell {n : Nat} {A A' : World} (h : Put1 n A A') {b o : Nat} (hb : b ≠ n) : A'.cell? ⟨b, o, none⟩ = A.cell? ⟨b, o, none⟩ := World.cell?_of_block (w := A) (a := ⟨b, o, none⟩) (h.block b hb)
theorem Put1.frozen {n : Nat} {A A' : World} (h : Put1 n A A') {b o : Nat} (hb : b ≠ n) : A'.frozen? ⟨b, o, none⟩ = A.frozen? ⟨b, o, none⟩ := World.frozen?_of_block (w := A) (a := ⟨b, o, none⟩) (h.block b hb)

/-- How a round may be left. -/
def ownPostO {α : Type} (n : Nat) (Kp : World → World → Prop) (I : List α → World → Prop) (Ix : Code → List α → World → Prop) (xs : List α) (W : World) : Exit → Act → World → Prop
  | .normal, _, W' => Same2 n W W' ∧ Kp W W' ∧ I xs W'
  | .ret, _, W' => Same2 n W W' ∧ Kp W W' ∧ Ix .ret xs W'
  | .exit id, _, W' => Same2 n W W' ∧ Kp W W' ∧ Ix (.exit id) xs W'
  | .goto t, _, W' => Same2 n W W' ∧ Kp W W' ∧ Ix (.goto t) xs W'
  | .panic _, _, _ => False
  | .outgrown, _, _ => False

/-- What an iterator does, called with a loop's yield in a world W: over all invariants of its rounds that abide its own steps. -/
def SeqOwn {α : Type} (P : Program) (g : Nat) (lb : Array Value) (encs : List α → α → Array Value) (It Kp : World → World → Prop) (Z : World → Prop) (S Sp : List α → Prop) (W : World) : Prop :=
  ∀ (l : Nat) (J Jx : List α → World → Prop), (∀ pre A, J pre A → Z A) → (∀ pre A, Jx pre A → Z A) → (∀ pre A B, J pre A → It A B → J pre B) → (∀ pre A B, Jx pre A → It A B → Jx pre B) →
    (∀ pre x A, J pre A → Sp (pre ++ [x]) → YieldAt Fence.wide 0 P l (encs pre x) A fun e A' =>
      (e = .returned (.bool true) ∧ J (pre ++ [x]) A' ∧ Kp A A') ∨ (e = .returned (.bool false) ∧ Jx (pre ++ [x]) A' ∧ Kp A A')) →
    J [] W →
    CallsIn Fence.wide 0 P g (#[.func (.yield l) #[] #[]] ++ lb) W fun e W' => (∃ v, e = .returned v) ∧ ((∃ xs, S xs ∧ J xs W') ∨ (∃ pre, Sp pre ∧ Jx pre W'))

theorem wp_range_own {α : Type} {P : Program} {g : Operand} {ps : Array Tmp} {assign body : Code} {Q : Exit → Act → World → Prop} {a : Act} {w : World} {n : Nat}
    {gf : Nat} {lb : Array Value} (hg : a.eval g = .func (.func gf) #[] lb) (eg : ∀ args w, (callFunc gf args).run P w = .ok (.enter gf args) w)
    {encs : List α → α → Array Value} (hps : ∀ pre x, (encs pre x).size = ps.size)
    {It Kp : World → World → Prop} {Z : World → Prop} {S Sp : List α → Prop}
    (hseq : ∀ W, W.heap.size = w.heap.size + 2 → Below w.heap.size w W → SeqOwn P gf lb encs It Kp Z S Sp W)
    (hIt : ∀ A B, It A B → Same2 w.heap.size A B)
    (hKt : ∀ {A B C : World}, Kp A B → Kp B C → Kp A C) (hKb : ∀ (A : World) (r : Loop), Kp A (A.putObj (w.heap.size + 1) (.loop r)))
    (I : List α → World → Prop) (Ix : Code → List α → World → Prop)
    (hIz : ∀ pre A, I pre A → Z A) (hIxz : ∀ c pre A, Ix c pre A → Z A)
    (hI : ∀ pre A B, I pre A → It A B → I pre B) (hIb : ∀ pre A (r : Loop), I pre A → I pre (A.putObj (w.heap.size + 1) (.loop r)))
    (hIx : ∀ c pre A B, Ix c pre A → It A B → Ix c pre B) (hIxb : ∀ c pre A (r : Loop), Ix c pre A → Ix c pre (A.putObj (w.heap.size + 1) (.loop r)))
    (h0 : ∀ W, W.heap.size = w.heap.size + 2 → Below w.heap.size w W → (∃ r, W.heap[w.heap.size + 1]? = some (.loop r)) → I [] W)
    (hround : ∀ (l : Nat) (pre : List α) (x : α) (W : World), I pre W → w.heap.size + 2 ≤ W.heap.size → Sp (pre ++ [x]) →
      assign.wpIn (Fence.wide.inRound l) 0 P (Exit.then (fun a₁ w₁ => Same2 w.heap.size W w₁ ∧ Kp W w₁ ∧ ∀ w₂, Put1 (w.heap.size + 1) w₁ w₂ → (∃ r, w₂.heap[w.heap.size + 1]? = some (.loop r)) → body.wpIn (Fence.wide.inRound l) 0 P (ownPostO w.heap.size Kp I Ix (pre ++ [x]) w₂) a₁ w₂) (fun _ _ _ => False))
        { tmps := (ps.zip (encs pre x)).foldl (fun t (p, v) => t.setIfInBounds p v) a.tmps, defers := [] } W)
    (hdone : ∀ (xs : List α) (W : World), S xs → I xs W → W.heap[w.heap.size]? = some (.deferred (some [])) → Q .normal { a with defers := { target := .collected w.heap.size, args := #[] } :: a.defers } W)
    (hstop : ∀ (c : Code) (pre : List α) (W : World), Sp pre → Ix c pre W → W.heap[w.heap.size]? = some (.deferred (some [])) → c.wpIn Fence.wide n P Q { a with defers := { target := .collected w.heap.size, args := #[] } :: a.defers } W) :
    (Code.rangeFunc g ps assign body).wpIn Fence.wide n P Q a w := by
  refine wpIn_rangeFunc ?_
  intro fn hfn
  obtain ⟨rec, hrec⟩ : ∃ rec : LoopState → Option Code → Loop, rec = fun st pe => { state := st, pending := pe, fn, tmps := a.tmps, params := ps, assign, body, defers := w.heap.size } := ⟨_, rfl⟩
  obtain ⟨W1, hW1⟩ : ∃ W1, (w.alloc (.deferred (some []))).alloc (.loop (rec .ready none)) = W1 := ⟨_, rfl⟩
  have hL1 : W1.heap[w.heap.size + 1]? = some (.loop (rec .ready none)) := by
    rw [← hW1]; have := World.alloc_heap_new (w.alloc (.deferred (some []))) (.loop (rec .ready none)); rwa [World.size_alloc] at this
  have hK1 : W1.heap[w.heap.size]? = some (.deferred (some [])) := by
    rw [← hW1]; exact (Below.heap_alloc _ _ _ (by simp)).trans (World.alloc_heap_new w _)
  have hs1 : W1.heap.size = w.heap.size + 2 := by rw [← hW1, World.size_alloc, World.size_alloc]
  have hb1 : Below w.heap.size w W1 := by
    rw [← hW1]; exact ((Below.refl _ w).alloc (Nat.le_refl _) _).alloc (by simp) _
  have hI1 : I [] W1 := h0 W1 hs1 hb1 ⟨_, hL1⟩
  refine ⟨w.heap.size + 1, [{ target := .collected w.heap.size, args := #[] }], W1, { target := .fn (.func gf) lb, args := #[.func (.yield (w.heap.size + 1)) #[] #[]] }, W1, gf,
    #[.func (.yield (w.heap.size + 1)) #[] #[]] ++ lb, W1, ?_, ?_, ?_, ?_, fun h => (by cases h), ?_⟩
  · rw [← hW1, hrec]; exact run_enterLoop_outer _ _ _ _ _
  · simp only [resolve, hg]
    simp [go_sem]
  · intro f' hf'; trivial
  · simp [invoke, go_sem, eg]
  · refine CallsIn.more ((hseq W1 hs1 hb1 (w.heap.size + 1)
      (fun pre W => I pre W ∧ W.heap[w.heap.size + 1]? = some (.loop (rec .ready none)) ∧ W.heap[w.heap.size]? = some (.deferred (some [])))
      (fun pre W => ∃ c, Ix c pre W ∧ W.heap[w.heap.size + 1]? = some (.loop (rec .done (some c))) ∧ W.heap[w.heap.size]? = some (.deferred (some [])))
      (fun s A hs => hIz s A hs.1) (fun s A hs => (by obtain ⟨c, hc, _⟩ := hs; exact hIxz c s A hc))
      (fun s A B hs hg' => ⟨hI s A B hs.1 hg', (hIt A B hg').b.trans hs.2.1, (hIt A B hg').a.trans hs.2.2⟩)
      (fun s A B hs hg' => by
        obtain ⟨c, hc, hl, hk⟩ := hs
        exact ⟨c, hIx c s A B hc hg', (hIt A B hg').b.trans hl, (hIt A B hg').a.trans hk⟩)
      ?_ ⟨hI1, hL1, hK1⟩).mono ?_) (Nat.zero_le _)
    · -- one round
      rintro pre x W ⟨hi, hl, hk⟩ hSp
      have hlt : w.heap.size + 1 < W.heap.size := (Array.getElem?_eq_some_iff.1 hl).1
      have hy := run_yield (P := P) (args := encs pre x) hl (by rw [hrec]; exact hps pre x)
      rw [hrec] at hy
      refine ⟨fn, _, assign, body, hy, roundIn_of_wpIn hfn (wpIn_mono (hround _ pre x W hi (by omega) hSp) ?_)⟩
      clear hy
      rintro ea a' Wa hq
      cases ea with
      | normal => ?_
      | ret => exact hq.elim
      | exit id => exact hq.elim
      | goto t => exact hq.elim
      | panic c => exact hq.elim
      | outgrown => exact hq.elim
      obtain ⟨h2a, hkpa, hbody⟩ := hq
      replace hl := h2a.b.trans hl
      replace hk := h2a.a.trans hk
      replace hlt : w.heap.size + 1 < Wa.heap.size := (Array.getElem?_eq_some_iff.1 hl).1
      refine ⟨_, run_beginRound hl (by rw [hrec]), ?_⟩
      have hl2 : (Wa.putObj (w.heap.size + 1) (.loop { rec .ready none with state := .busy })).heap[w.heap.size + 1]? = some (.loop { rec .ready none with state := .busy }) := World.putObj_heap_same hlt
      have hk2 : (Wa.putObj (w.heap.size + 1) (.loop { rec .ready none with state := .busy })).heap[w.heap.size]? = some (.deferred (some [])) := (World.putObj_heap_other (by omega)).trans hk
      have hw2 : Kp Wa (Wa.putObj (w.heap.size + 1) (.loop { rec .ready none with state := .busy })) := hKb _ _
      refine wpIn_mono (hbody _ (Put1.putObj _ _ _) ⟨_, hl2⟩) ?_
      have fin : ∀ (jump : Option Code) (W3 : World), Same2 w.heap.size (Wa.putObj (w.heap.size + 1) (.loop { rec .ready none with state := .busy })) W3 →
          (Instr.endRound (w.heap.size + 1) jump).run P W3 = .ok (.bool jump.isNone) (W3.putObj (w.heap.size + 1) (.loop (rec (if jump.isNone then .ready else .done) jump))) ∧
          (W3.putObj (w.heap.size + 1) (.loop (rec (if jump.isNone then .ready else .done) jump))).heap[w.heap.size + 1]? = some (.loop (rec (if jump.isNone then .ready else .done) jump)) ∧
          (W3.putObj (w.heap.size + 1) (.loop (rec (if jump.isNone then .ready else .done) jump))).heap[w.heap.size]? = some (.deferred (some [])) := fun jump W3 hk3 => by
        have hl3 := hk3.b.trans hl2
        have := run_endRound (P := P) jump hl3
        rw [hrec] at this ⊢
        exact ⟨this, World.putObj_heap_same (Array.getElem?_eq_some_iff.1 hl3).1, (World.putObj_heap_other (by omega)).trans (hk3.a.trans hk2)⟩
      rintro e a3 W3 hp
      cases e with
      | normal =>
        obtain ⟨hk3, hkp3, hi3⟩ := hp
        obtain ⟨hr, hl4, hk4⟩ := fin none W3 hk3
        exact ⟨_, _, hr, .inl ⟨rfl, ⟨hIb _ _ _ hi3, hl4, hk4⟩, hKt hkpa (hKt (hKt hw2 hkp3) (hKb _ _))⟩⟩
      | ret =>
        obtain ⟨hk3, hkp3, hi3⟩ := hp
        obtain ⟨hr, hl4, hk4⟩ := fin (some .ret) W3 hk3
        exact ⟨_, _, hr, .inr ⟨rfl, ⟨.ret, hIxb _ _ _ _ hi3, hl4, hk4⟩, hKt hkpa (hKt (hKt hw2 hkp3) (hKb _ _))⟩⟩
      | exit id =>
        obtain ⟨hk3, hkp3, hi3⟩ := hp
        obtain ⟨hr, hl4, hk4⟩ := fin (some (.exit id)) W3 hk3
        exact ⟨_, _, hr, .inr ⟨rfl, ⟨.exit id, hIxb _ _ _ _ hi3, hl4, hk4⟩, hKt hkpa (hKt (hKt hw2 hkp3) (hKb _ _))⟩⟩
      | goto t =>
        obtain ⟨hk3, hkp3, hi3⟩ := hp
        obtain ⟨hr, hl4, hk4⟩ := fin (some (.goto t)) W3 hk3
        exact ⟨_, _, hr, .inr ⟨rfl, ⟨.goto t, hIxb _ _ _ _ hi3, hl4, hk4⟩, hKt hkpa (hKt (hKt hw2 hkp3) (hKb _ _))⟩⟩
      | panic ch => exact hp.elim
      | outgrown => exact hp.elim
    · -- behind the iterator
      rintro e W2 ⟨⟨v, rfl⟩, (⟨xs, hS, hi, hl, hk⟩ | ⟨pre, hSp, c, hi, hl, hk⟩)⟩
      · exact ⟨none, _, by have := run_endLoop (P := P) hl (by rw [hrec]; simp); rw [hrec] at this; exact this, hdone xs _ hS (hIb _ _ _ hi) ((World.putObj_heap_other (by omega)).trans hk)⟩
      · exact ⟨some c, _, by have := run_endLoop (P := P) hl (by rw [hrec]; simp); rw [hrec] at this; exact this, hstop c pre _ hSp (hIxb _ _ _ _ hi) ((World.putObj_heap_other (by omega)).trans hk)⟩

end Go.Proofs.YtldhbjmillfjgaaGreatDoor

namespace Go.Proofs
open Go.Shelf
def Tryz.lays120_ren : Go.Shelf.Ren := ⟨fun | 120 => 81 | n => n, fun | 5 => 5 | 4 => 4 | n => n, fun | n => n⟩
theorem Tryz.lays120 : Go.Proofs.Lays.n120 Tryz.prog Tryz.lays120_ren := {
  mixed := by kernel_rfl
  f120 := Tryz.func81.trans (congrArg some (by kernel_rfl))
  t4 := Tryz.underlying4
  a4 := Tryz.isAgg4
  z4 := Tryz.sizeOf4
  v4 := Tryz.zeroValue4
  t5 := Tryz.underlying5
  a5 := Tryz.isAgg5
  z5 := Tryz.sizeOf5
  v5 := Tryz.zeroValue5 }
theorem Tryz.utf8_RuneStart (b : Int) (w : World) (h0 : 0 ≤ b) (h1 : b < 256) :
    Calls Tryz.prog 81 #[.int .u8 b] w fun e w' => e = .returned (.bool (Lib.runeStart b)) ∧ w' = w := Any.utf8_RuneStart Tryz.lays120 b w h0 h1
end Go.Proofs

namespace Go.Proofs.YtldhbjmillfjgaaGreatDoor
open Go.RowKit
set_option linter.unusedVariables false
attribute [local go_sem] Oper.semAt_some

theorem pieces_any (s : ByteArray) (w : World) : Calls Tryz.prog 60 #[.string s] w fun e w' => e = .returned (.func (.func 80) #[] #[.pointer (some ⟨w.heap.size, 0, none⟩)]) ∧ w' = w.alloc (.cells #[.string s] 9) := by
  go_enter Tryz.func60, Tryz.ntmps60
  go_wp2
  go_ret
  exact ⟨rfl, rfl⟩

/-- How long the text in a variable is. -/
def leftAt (sb : Nat) (w : World) : Nat := match w.cell? ⟨sb, 0, none⟩ with | some (.string s) => s.size | _ => 0
theorem leftAt_eq {sb : Nat} {w : World} {s : ByteArray} (h : w.cell? ⟨sb, 0, none⟩ = some (.string s)) : leftAt sb w = s.size := by unfold leftAt; rw [h]

set_option maxRecDepth 100000 in
set_option maxHeartbeats 2000000 in
theorem pieces_seq (rs : List Nat) (hr : ∀ r ∈ rs, isRune r) (hz : (encs rs).length < 1000000000) (Z : World → Prop) (sb : Nat) (W : World) (hsb : W.cell? ⟨sb, 0, none⟩ = some (.string (bytesOf rs))) (hfz : W.frozen? ⟨sb, 0, none⟩ = false) :
    SeqOwn Tryz.prog 80 #[.pointer (some ⟨sb, 0, none⟩)] (fun _ (x : List Nat) => #[.string (bytesOf x)]) (fun A B => (∃ v, B = A.setCell ⟨sb, 0, none⟩ v) ∧ W.heap.size ≤ A.heap.size) (fun A B => A.heap.size ≤ B.heap.size ∧ B.heap[sb]? = A.heap[sb]?) Z
      (fun xs => xs.flatten = rs ∧ ∀ x ∈ xs, okChunk x) (fun pre => (∃ rest, rs = pre.flatten ++ rest) ∧ ∀ x ∈ pre, okChunk x) W := by
  intro l J Jx hZ hZx hJ hJx hR hj0
  have hlt := World.block_lt_of_cell? W _ hsb
  refine callsIn_of_wp Tryz.func80 rfl trivial ?_ rfl
  simp only [Tryz.ntmps80, List.size_toArray, List.length_cons, List.length_nil, Nat.reduceAdd, Nat.reduceSub, Array.replicate_succ, Array.replicate_zero, List.push_toArray, List.append_toArray, List.nil_append, List.cons_append]
  gi_wp2
  gi_loopw [3] (fun p wr => ∃ (pre : List (List Nat)) (rest : List Nat), rs = pre.flatten ++ rest ∧ (∀ x ∈ pre, okChunk x) ∧ wr.cell? ⟨sb, 0, none⟩ = some (.string (bytesOf rest)) ∧ wr.frozen? ⟨sb, 0, none⟩ = false ∧ W.heap.size ≤ wr.heap.size ∧ J pre wr) (fun p wr => leftAt sb wr)
  case atStart => exact ⟨[], rs, rfl, (fun _ h => by cases h), hsb, hfz, Nat.le_refl _, hj0⟩
  case round =>
    obtain ⟨pre, rest, hrs, hok, hc, hf, hs, hjp⟩ := hrel
    by_cases hne : rest = []
    · subst hne
      have e0 : (bytesOf []).size = 0 := rfl
      have e1 : Hid (pre.flatten = rs) := by show _ = _; rw [hrs]; simp
      clear hrs
      generalize bytesOf [] = S at *
      gi_wp2
      go_end0
      exact ⟨⟨_, rfl⟩, .inl ⟨pre, ⟨e1.out, hok⟩, hjp⟩⟩
    · have hrr : ∀ r ∈ rest, isRune r := fun r h => hr r (by rw [hrs]; simp [h])
      obtain ⟨f, f1, f4, fe, fl⟩ := first_len hrr hne
      have hlen : (encs rest).length ≤ (encs rs).length := by rw [hrs, encs_append, List.length_append]; omega
      have hSl : (bytesOf rest).data.toList = encs rest := rfl
      have hcut := fun (j : Nat) (h : edgeAt rest j) (h0 : 0 < j) (h32 : j ≤ 32) => cut_at hrr h h0 h32
      have hst := fun (j : Nat) (b : UInt8) (h : (encs rest)[j]? = some b) (hb : startB b = true) => edgeAt_of_start hrr h hb
      have hst2 := fun (j : Nat) (b : UInt8) (h : edgeAt rest j) (hb : (encs rest)[j]? = some b) => start_of_edgeAt hrr h hb
      rw [← bytesOf_size] at fl hlen
      have HCUT : Hid _ := hcut
      have HST : Hid _ := hst
      have HST2 : Hid _ := hst2
      have HFE : Hid (edgeAt rest f) := fe
      have HEND : Hid (edgeAt rest (bytesOf rest).size) := by show edgeAt _ _; rw [bytesOf_size]; exact edgeAt_end rest
      have HSL : Hid ((bytesOf rest).data.toList = encs rest) := hSl
      have HRS : Hid (rs = pre.flatten ++ rest) := hrs
      obtain ⟨n, hn⟩ : ∃ n, n = (bytesOf rest).size := ⟨_, rfl⟩
      have hn1 : 1 ≤ n := by omega
      have hn2 : n < 1000000000 := by omega
      have hpos : 0 < n := hn1
      clear hcut hst hst2 fe hSl hrs hr hrr
      obtain ⟨S, hS⟩ : ∃ S, S = bytesOf rest := ⟨_, rfl⟩
      rw [← hS] at hc hn fl HEND HSL HCUT
      rw [← hn] at fl HEND HCUT
      have HS : Hid (S = bytesOf rest) := hS
      have HN : Hid (n = S.size) := hn
      have hn' : S.size = n := hn.symm
      clear hS hn hlen hz
      gi_wp2
      gi_loop [3] (fun p => ∃ j : Nat, p = .int .i64 j ∧ f ≤ j ∧ j ≤ n ∧ j ≤ 32) (fun p => (intOf p).toNat)
      case atStart => exact ⟨min n 32, by rw [show ((min n 32 : Nat) : Int) = min (n : Int) 32 by omega], by omega, by omega, by omega⟩
      case round =>
        obtain ⟨j, rfl, hj1, hj2, hj3⟩ := hrel
        by_cases hlt2 : j < n
        · have hjS : j < S.size := by rw [hn']; exact hlt2
          have hb? : (encs rest)[j]? = some S[j] := by rw [← HSL.out, Array.getElem?_toList, Array.getElem?_eq_getElem (by simpa using hjS)]; rfl
          have cR := fun wx => Tryz.utf8_RuneStart (S[j].toNat : Int) wx (by omega) (by have := S[j].toNat_lt; omega)
          by_cases hb : startB S[j] = true
          · have hedge := HST.out j _ hb? hb
            have hb' : Lib.runeStart (S[j].toNat : Int) = true := hb
            rw [hb'] at cR
            clear hb hb' hb?
            obtain ⟨x, y, hxy, hx, hc1, hc2, hyl⟩ := HCUT.out j hedge (by omega) hj3
            have hSp : (∃ rest', rs = (pre ++ [x]).flatten ++ rest') ∧ ∀ z ∈ pre ++ [x], okChunk z := ⟨⟨y, by rw [HRS.out, hxy]; simp⟩, fun z hz => by rcases List.mem_append.1 hz with hz | hz; exact hok z hz; rw [List.mem_singleton] at hz; subst hz; exact hx⟩
            have HY : Hid (rs = (pre ++ [x]).flatten ++ y) := by show _ = _; rw [HRS.out, hxy]; simp
            have HYL : Hid ((bytesOf y).size < n) := by
              show _ < _
              rw [bytesOf_size]
              have e1 := HN.out
              rw [HS.out, bytesOf_size] at e1
              omega
            obtain ⟨fn, tmps, assign, body, hyy, hRd⟩ := hR pre x wr hjp hSp
            have HSP : Hid _ := hSp
            rw [← hc1] at hyy
            clear hxy hx hSp hc1 hyl hedge
            gi_wp2_with (first | (refine ⟨rfl, ?_⟩; gi_at_call 81; refine (callsIn_wide.2 (cR _)).mono ?_; rintro e wx ⟨rfl, hwx⟩; obtain rfl := hwx.symm) | (refine ⟨trivial, ?_⟩))
            first | refine hRd.mono ?_ | refine ⟨rfl, hRd.mono ?_⟩
            rintro e A' (⟨rfl, hj', hk1, hk2⟩ | ⟨rfl, hjx', _⟩)
            · have hcA : A'.cell? ⟨sb, 0, none⟩ = some (.string S) := (World.cell?_of_block (w := wr) (a := ⟨sb, 0, none⟩) hk2).trans hc
              have hfA : A'.frozen? ⟨sb, 0, none⟩ = false := (World.frozen?_of_block (w := wr) (a := ⟨sb, 0, none⟩) hk2).trans hf
              have HC2 : Hid _ := hc2
              have hsA := Nat.le_trans hs hk1
              have HM : Hid (leftAt sb wr = n) := (leftAt_eq hc).trans hn'
              clear hc hf hk2 hyy hRd hjp hc2
              gi_wp2
              have hc9 : (A'.setCell ⟨sb, 0, none⟩ (.string (S.extract j n))).cell? ⟨sb, 0, none⟩ = some (.string (bytesOf y)) := by
                rw [HC2.out]
                exact World.cell?_setCell_same' _ _ _ (by rw [hcA]; rfl)
              go_roundw
              case rel => exact ⟨pre ++ [x], y, HY.out, HSP.out.2, hc9, (by rw [World.frozen?_setCell]; exact hfA), (by simpa [World.setCell] using hsA), hJ _ _ _ hj' ⟨⟨_, rfl⟩, hsA⟩⟩
              case measure =>
                show leftAt sb _ < leftAt sb _
                rw [HM.out, leftAt_eq hc9]
                exact HYL.out
            · gi_wp2
              refine bodyPost_ret (results_none rfl _ _ _) rfl ?_
              exact ⟨⟨_, rfl⟩, .inr ⟨pre ++ [x], HSP.out, hjx'⟩⟩
          · have hne2 : j ≠ f := fun e => hb (HST2.out j _ (e ▸ HFE.out) hb?)
            have hb' : Lib.runeStart (S[j].toNat : Int) = false := Bool.eq_false_iff.2 hb
            rw [hb'] at cR
            clear hb hb' hb?
            gi_wp2_with (first | (refine ⟨rfl, ?_⟩; gi_at_call 81; refine (callsIn_wide.2 (cR _)).mono ?_; rintro e wx ⟨rfl, hwx⟩; obtain rfl := hwx.symm) | (refine ⟨trivial, ?_⟩))
            go_round
            case rel => exact ⟨j - 1, by rw [show ((j - 1 : Nat) : Int) = (j : Int) - 1 by omega], by omega, by omega, by omega⟩
            case measure => simp [intOf]; omega
        · have hjn : n = j := by omega
          subst hjn
          have hedge : edgeAt rest n := HEND.out
          obtain ⟨x, y, hxy, hx, hc1, hc2, hyl⟩ := HCUT.out n hedge (by omega) hj3
          have hSp : (∃ rest', rs = (pre ++ [x]).flatten ++ rest') ∧ ∀ z ∈ pre ++ [x], okChunk z := ⟨⟨y, by rw [HRS.out, hxy]; simp⟩, fun z hz => by rcases List.mem_append.1 hz with hz | hz; exact hok z hz; rw [List.mem_singleton] at hz; subst hz; exact hx⟩
          have HY : Hid (rs = (pre ++ [x]).flatten ++ y) := by show _ = _; rw [HRS.out, hxy]; simp
          have HYL : Hid ((bytesOf y).size < n) := by
            show _ < _
            rw [bytesOf_size]
            have e1 := HN.out
            rw [HS.out, bytesOf_size] at e1
            omega
          obtain ⟨fn, tmps, assign, body, hyy, hRd⟩ := hR pre x wr hjp hSp
          have HSP : Hid _ := hSp
          rw [← hc1] at hyy
          clear hxy hx hSp hc1 hyl hedge
          gi_wp2_with (refine ⟨trivial, ?_⟩)
          first | refine hRd.mono ?_ | refine ⟨rfl, hRd.mono ?_⟩
          rintro e A' (⟨rfl, hj', hk1, hk2⟩ | ⟨rfl, hjx', _⟩)
          · have hcA : A'.cell? ⟨sb, 0, none⟩ = some (.string S) := (World.cell?_of_block (w := wr) (a := ⟨sb, 0, none⟩) hk2).trans hc
            have hfA : A'.frozen? ⟨sb, 0, none⟩ = false := (World.frozen?_of_block (w := wr) (a := ⟨sb, 0, none⟩) hk2).trans hf
            have HC2 : Hid (ByteArray.empty = bytesOf y) := by show _ = _; rw [← hc2]; simp
            have hsA := Nat.le_trans hs hk1
            have HM : Hid (leftAt sb wr = n) := (leftAt_eq hc).trans hn'
            clear hc hf hk2 hyy hRd hjp hc2
            gi_wp2
            have hc9 : (A'.setCell ⟨sb, 0, none⟩ (.string ByteArray.empty)).cell? ⟨sb, 0, none⟩ = some (.string (bytesOf y)) := by
              rw [HC2.out]
              exact World.cell?_setCell_same' _ _ _ (by rw [hcA]; rfl)
            go_roundw
            case rel => exact ⟨pre ++ [x], y, HY.out, HSP.out.2, hc9, (by rw [World.frozen?_setCell]; exact hfA), (by simpa [World.setCell] using hsA), hJ _ _ _ hj' ⟨⟨_, rfl⟩, hsA⟩⟩
            case measure =>
              show leftAt sb _ < leftAt sb _
              rw [HM.out, leftAt_eq hc9]
              exact HYL.out
          · gi_wp2
            refine bodyPost_ret (results_none rfl _ _ _) rfl ?_
            exact ⟨⟨_, rfl⟩, .inr ⟨pre ++ [x], HSP.out, hjx'⟩⟩
end Go.Proofs.YtldhbjmillfjgaaGreatDoor

namespace Go.Proofs.YtldhbjmillfjgaaGreatDoor
open Go.RowKit

section
variable {P : Program} {ops : Array Oper} {md : Region.Mode} {m l0 n : Nat} {Q : Exit → Act → World → Prop}

theorem uponR_of_ok {o : Oper} {a : Act} {K : Act → World → Prop} {r : Result Next} (hh : okUpon P o a K r) : o.uponIn (Fence.wide.inRound l0) n P a K Q r := by
  cases r with
  | ok x w =>
    cases x <;> simp only [okUpon] at hh <;> simp only [Oper.uponIn]
    case value => exact hh
    case skip => exact hh
    case enter => exact ⟨fun h => (by cases h), (CallsIn.inRound l0 (callsIn_wide.2 hh)).mono fun e w ⟨v, e1, e2⟩ => by subst e1; exact e2⟩
  | halt x w => simp only [okUpon] at hh

theorem anyR_of_anyG (hnd : ∀ (i : Nat) (o : Oper), ops[i]? = some o → ∀ c, o.op ≠ .defer c) : ∀ (fuel : Nat) (listed : Array Bool) (a : Act) (w : World), anyG P md ops m Q fuel listed a w → wpAnyIn (Fence.wide.inRound l0) n P md ops Q fuel listed a w
  | 0, _, _, w, h => ⟨h.1, h.2 w (Below.refl _ _)⟩
  | fuel + 1, listed, a, w, h => ⟨fun h0 => h.1 h0 w (Below.refl _ _), fun i hi => by
      have h1 := h.2 i hi w (Below.refl _ _)
      have h2 := opG_mono (fun a' w'' hh => anyR_of_anyG hnd fuel _ a' w'' hh.2) h1
      unfold opG at h2
      unfold wpOpIn
      split
      · rename_i ho; simp only [ho] at h2; exact h2
      · rename_i o ho
        simp only [ho] at h2
        split
        · rename_i hw
          simp only [hw, if_true] at h2
          unfold Oper.wpIn
          refine ⟨fun _ _ => trivial, ?_⟩
          rw [Fence.inRound_round, Oper.semAt_some _ _ _ (hnd i o ho)]
          exact uponR_of_ok h2
        · rename_i hw; simp only [hw] at h2; exact ⟨fun _ _ => trivial, h2⟩⟩
end

theorem wpR_region_rel {P : Program} {Q : Exit → Act → World → Prop} {id l0 k : Nat} {a : Act} {w : World} {l : List Oper} (m n : Nat) (hm : P.follows .mixedOrders = true) (hn : l.length = n) (hnd : noDefer l = true)
    (h : ∀ w', Below w.heap.size w w' → anyG P .any l.toArray m Q n (Array.replicate n false) a w') : (Code.region id l.toArray true).wpIn (Fence.wide.inRound l0) k P Q a w :=
  wpIn_region_any hm (anyR_of_anyG (fun i o hi => noDefer_at hnd i o (by simpa using hi)) _ _ _ _ (by subst hn; simpa using h { w with drawn := w.drawn + 1 } (Below.drew (Below.refl _ w))))
end Go.Proofs.YtldhbjmillfjgaaGreatDoor

namespace Go.Proofs.YtldhbjmillfjgaaGreatDoor
open Go.RowKit
set_option linter.unusedVariables false
attribute [local go_sem] Oper.semAt_some yieldsUpon okUpon

theorem okT_size : ∀ {l : List (List Nat)}, (∀ c ∈ l, okChunk c) → l.length ≤ l.flatten.length
  | [], _ => Nat.le_refl _
  | c :: l, h => by
    have h1 := (h c (List.mem_cons.2 (.inl rfl))).1
    have h2 := okT_size fun x hx => h x (List.mem_cons.2 (.inr hx))
    have : 1 ≤ c.length := by cases c with | nil => exact absurd rfl h1 | cons _ _ => simp
    rw [List.flatten_cons, List.length_append, List.length_cons]
    omega
theorem okT_big {t : T} (h : okT t) (hz : C1 t.runes ≤ 100000000) : big t := by
  refine ⟨by omega, ?_⟩
  have h1 := okT_size h.2
  have h3 := (C3_le t.runes).2
  unfold C3 at h3
  rw [size_chunks]
  rw [← runes_chunks] at h1
  omega

theorem big_put {t : T} {x : List Nat} (h : okT t) (hx : okChunk x) (hz : C1 (t.runes ++ x) ≤ 100000000) : big (.node t x .nil) := by
  have e : (T.node t x .nil).runes = t.runes ++ x := by simp [T.runes]
  have h1 := okT_size (l := t.chunks ++ [x]) fun c hc => (List.mem_append.1 hc).elim (h.2 c) fun hc => by rw [List.mem_singleton] at hc; rw [hc]; exact hx
  have h3 := (C3_le (t.runes ++ x)).2
  unfold C3 at h3
  rw [List.flatten_append, ← runes_chunks, List.length_append, List.length_append, List.length_singleton] at h1
  simp only [List.flatten_cons, List.flatten_nil, List.append_nil] at h1
  rw [List.length_append] at h3
  refine ⟨by rw [e]; omega, ?_⟩
  simp only [T.size]
  rw [size_chunks]
  omega

theorem chain_nil (q : Option Addr) (w : World) : Calls Tryz.prog 63 #[.pointer q, .pointer none] w fun e w' => e = .returned (.pointer q) ∧ w' = w := by
  go_enter Tryz.func63, Tryz.ntmps63
  go_wp2
  go_ret
  exact ⟨rfl, rfl⟩

/-- The tree that grows, in its variable. -/
def grows (w W : World) (L sb R : Nat) (rs : List Nat) : Prop :=
  Below w.heap.size w W ∧ (∃ q t, W.cell? ⟨L, 0, none⟩ = some (.pointer q) ∧ W.frozen? ⟨L, 0, none⟩ = false ∧ isTree W q t ∧ okT t ∧ t.runes = rs) ∧ W.cell? ⟨sb, 5, none⟩ = none ∧ W.cell? ⟨R, 5, none⟩ = none ∧ W.cell? ⟨L, 5, none⟩ = none ∧ R < W.heap.size

theorem But.putObj (B : Nat) (A : World) (o : Obj) : But B A (A.putObj B o) := ⟨rfl, rfl, rfl, by simp, fun k _ h => World.putObj_heap_other h⟩
theorem But.frozen {B : Nat} {A A' : World} (h : But B A A') {b o : Nat} (hl : b < A.heap.size) (hb : b ≠ B) : A'.frozen? ⟨b, o, none⟩ = A.frozen? ⟨b, o, none⟩ :=
  World.frozen?_of_block (w := A) (a := ⟨b, o, none⟩) (h.block b hl hb)
theorem But.cellEq {B : Nat} {A A' : World} (h : But B A A') {b o : Nat} (hl : b < A.heap.size) (hb : b ≠ B) : A'.cell? ⟨b, o, none⟩ = A.cell? ⟨b, o, none⟩ :=
  World.cell?_of_block (w := A) (a := ⟨b, o, none⟩) (h.block b hl hb)
theorem none_loop {W : World} {k : Nat} {r : Loop} (h : W.heap[k]? = some (.loop r)) (o : Nat) : W.cell? ⟨k, o, none⟩ = none := by unfold World.cell?; simp [h]

theorem cellOn {A B : World} {b : Nat} (h : B.heap[b]? = A.heap[b]?) (o : Nat) : B.cell? ⟨b, o, none⟩ = A.cell? ⟨b, o, none⟩ := World.cell?_of_block (w := A) (a := ⟨b, o, none⟩) h
theorem frozenOn {A B : World} {b : Nat} (h : B.heap[b]? = A.heap[b]?) (o : Nat) : B.frozen? ⟨b, o, none⟩ = A.frozen? ⟨b, o, none⟩ := World.frozen?_of_block (w := A) (a := ⟨b, o, none⟩) h

theorem grows_put {w W w5 w6 : World} {q : Option Addr} {v : Value} {t : T} {rs : List Nat} (hW : Below w.heap.size w W) (hs : w.heap.size + 6 ≤ W.heap.size) (k1 : W.cell? ⟨w.heap.size, 0, none⟩ = some v) (k2 : W.frozen? ⟨w.heap.size, 0, none⟩ = false)
    (k6 : W.cell? ⟨w.heap.size + 3, 5, none⟩ = none) (k7 : W.cell? ⟨w.heap.size + 5, 5, none⟩ = none) (k8 : W.cell? ⟨w.heap.size, 5, none⟩ = none) (h5 : Below W.heap.size W w5) (ht : isTree w5 q t) (ho : okT t) (hr : t.runes = rs)
    (h6 : Below w5.heap.size (w5.setCell ⟨w.heap.size, 0, none⟩ (.pointer q)) w6) :
    Same2 (w.heap.size + 4) W w6 ∧ (W.heap.size ≤ w6.heap.size ∧ w6.heap[w.heap.size + 3]? = W.heap[w.heap.size + 3]?) ∧ grows w w6 w.heap.size (w.heap.size + 3) (w.heap.size + 5) rs := by
  have hB : But w.heap.size w5 (w5.setCell ⟨w.heap.size, 0, none⟩ (.pointer q)) := But.setCell (But.refl _ w5) (p := ⟨w.heap.size, 0, none⟩) rfl _
  have hsz : (w5.setCell ⟨w.heap.size, 0, none⟩ (.pointer q)).heap.size = w5.heap.size := by simp [World.setCell]
  have s5 := h5.size
  have s6 := h6.size
  have blk : ∀ k, k ≠ w.heap.size → k < W.heap.size → w6.heap[k]? = W.heap[k]? := fun k h1 h2 => (h6.block k (by omega)).trans ((hB.block k (by omega) h1).trans (h5.block k h2))
  have c1 : w5.cell? ⟨w.heap.size, 0, none⟩ = some v := (World.cell?_of_block (w := W) (a := ⟨w.heap.size, 0, none⟩) (h5.block w.heap.size (by omega))).trans k1
  have c5 : w5.cell? ⟨w.heap.size, 5, none⟩ = none := (World.cell?_of_block (w := W) (a := ⟨w.heap.size, 5, none⟩) (h5.block w.heap.size (by omega))).trans k8
  refine ⟨⟨blk _ (by omega) (by omega), blk _ (by omega) (by omega)⟩, ⟨by omega, blk _ (by omega) (by omega)⟩, ?_, ⟨q, t, ?_, ?_, isTree_below (by rw [hsz]; exact h6) (isTree_but hB c5 ht), ho, hr⟩, ?_, ?_, ?_, by omega⟩
  · exact hW.trans ((h5.mono (by omega)).trans ((hB.below (by omega)).trans (h6.mono (by omega))))
  · exact (cellOn (h6.block w.heap.size (by omega)) 0).trans (World.cell?_setCell_same' _ _ _ (by rw [c1]; rfl))
  · exact (frozenOn (h6.block w.heap.size (by omega)) 0).trans ((World.frozen?_setCell _ _ _ _).trans ((frozenOn (h5.block w.heap.size (by omega)) 0).trans k2))
  · exact (cellOn (blk (w.heap.size + 3) (by omega) (by omega)) 5).trans k6
  · exact (cellOn (blk (w.heap.size + 5) (by omega) (by omega)) 5).trans k7
  · exact (cellOn (h6.block w.heap.size (by omega)) 5).trans ((World.cell?_setCell_other (w := w5) ⟨w.heap.size, 0, none⟩ ⟨w.heap.size, 5, none⟩ _ (by simp)).trans c5)

set_option maxRecDepth 100000 in
set_option maxHeartbeats 2000000 in
theorem between_new (rs : List Nat) (hr : ∀ r ∈ rs, isRune r) (hz : (encs rs).length ≤ 100000000) (w : World) (hT : Lib.Utf8Tabs 2 3 w) :
    Calls Tryz.prog 27 #[.pointer none, .string (bytesOf rs), .pointer none] w fun e w' => ∃ q t, e = .returned (.pointer q) ∧ isTree w' q t ∧ okT t ∧ t.runes = rs ∧ Below w.heap.size w w' := by
  have hsz : (bytesOf rs).size ≤ 100000000 := by rw [bytesOf_size]; exact hz
  have hcat : ({ data := #[] } : ByteArray) ++ bytesOf rs ++ { data := #[] } = bytesOf rs := by apply ByteArray.ext; simp [ByteArray.data_append]
  have cP := fun wx => pieces_any (bytesOf rs) wx
  have HZ : Hid _ := hz
  have HR : Hid _ := hr
  clear hz hr
  have hB0 : Below w.heap.size w w := Below.refl _ w
  refine (callsIn_wide (n := 3)).1 ?_
  refine callsIn_of_wp_marks Tryz.func27 rfl trivial ?_ rfl
  simp only [Tryz.ntmps27, List.size_toArray, List.length_cons, List.length_nil, Nat.reduceAdd, Nat.reduceSub, Array.replicate_succ, Array.replicate_zero, List.push_toArray, List.append_toArray, List.nil_append, List.cons_append]
  gi_wp2_with (first
    | (refine ⟨trivial, ?_⟩; gi_at_call 60; refine (callsIn_wide.2 (cP _)).mono ?_; rintro e w13 ⟨rfl, rfl⟩)
    | fail)
  obtain ⟨W4, hW4⟩ : ∃ W4, W4 = (((w.alloc (Obj.cells #[Value.pointer none] 67)).alloc (Obj.cells #[Value.string { data := #[] }, Value.int IntKind.i64 0, Value.int IntKind.i64 0, Value.int IntKind.i64 0, Value.int IntKind.i64 0] 106)).alloc (Obj.cells #[Value.string { data := #[] }, Value.int IntKind.i64 0, Value.int IntKind.i64 0, Value.int IntKind.i64 0, Value.int IntKind.i64 0] 106)).alloc (.cells #[.string (bytesOf rs)] 9) := ⟨_, rfl⟩
  have hb4 : Below w.heap.size w W4 := by rw [hW4]; exact ((((Below.refl _ w).alloc (Nat.le_refl _) _).alloc (by simp) _).alloc (by simp; omega) _).alloc (by simp; omega) _
  have hs4 : W4.heap.size = w.heap.size + 4 := by rw [hW4]; simp
  have cl : W4.cell? ⟨w.heap.size, 0, none⟩ = some (.pointer none) := by rw [hW4]; simp [go_sem]
  have fl : W4.frozen? ⟨w.heap.size, 0, none⟩ = false := by rw [hW4]; simp [go_sem]
  have cl5 : W4.cell? ⟨w.heap.size, 5, none⟩ = none := by rw [hW4]; simp [go_sem]
  have cs : W4.cell? ⟨w.heap.size + 3, 0, none⟩ = some (.string (bytesOf rs)) := by rw [hW4]; simp [go_sem]
  have fs : W4.frozen? ⟨w.heap.size + 3, 0, none⟩ = false := by rw [hW4]; simp [go_sem]
  have cs5 : W4.cell? ⟨w.heap.size + 3, 5, none⟩ = none := by rw [hW4]; simp [go_sem]
  rw [← hW4]
  clear hW4 hcat cP
  refine wp_range_own (gf := 80) (lb := #[.pointer (some ⟨w.heap.size + 3, 0, none⟩)]) rfl (enters_of Tryz.func80 (by kernel_rfl) rfl) (encs := fun _ (x : List Nat) => #[.string (bytesOf x)]) (fun _ _ => rfl)
    (It := fun A B => (∃ v, B = A.setCell ⟨w.heap.size + 3, 0, none⟩ v) ∧ w.heap.size + 6 ≤ A.heap.size) (Kp := fun A B => A.heap.size ≤ B.heap.size ∧ B.heap[w.heap.size + 3]? = A.heap[w.heap.size + 3]?) (Z := fun _ => True) (S := fun xs => xs.flatten = rs ∧ ∀ x ∈ xs, okChunk x) (Sp := fun pre => (∃ rest, rs = pre.flatten ++ rest) ∧ ∀ x ∈ pre, okChunk x)
    ?seq ?its (fun h k => ⟨Nat.le_trans h.1 k.1, k.2.trans h.2⟩) ?hkb
    (fun pre W => grows w W w.heap.size (w.heap.size + 3) (w.heap.size + 5) pre.flatten) (fun _ _ _ => False) (fun _ _ _ => trivial) (fun _ _ _ h => h.elim) ?ii ?ib (fun _ _ _ _ h _ => h) (fun _ _ _ _ h => h) ?h0 ?round ?done (fun _ _ _ _ h => h.elim)
  case seq =>
    intro W hs1 hb1
    rw [hs4] at hs1 hb1
    have := pieces_seq rs HR.out (by have := HZ.out; omega) (fun _ => True) (w.heap.size + 3) W ((hb1.cell (p := ⟨w.heap.size + 3, 0, none⟩) (by show w.heap.size + 3 < _; omega)).trans cs) ((hb1.frozen (p := ⟨w.heap.size + 3, 0, none⟩) (by show w.heap.size + 3 < _; omega)).trans fs)
    rw [hs1] at this
    exact this
  case its =>
    rintro A B ⟨⟨v, rfl⟩, h⟩
    rw [hs4]
    exact (Same2.refl _ A).setCell (by show w.heap.size + 3 ≠ _; omega) (by show w.heap.size + 3 ≠ _; omega) v
  case hkb =>
    intro A r
    rw [hs4]
    exact ⟨by simp, World.putObj_heap_other (by omega)⟩
  case ii =>
    rintro pre A B ⟨hb, ⟨q, t, h1, h2, h3, h4, h5⟩, h6, h7, h8, h9⟩ ⟨⟨v, rfl⟩, hA⟩
    have hB : But (w.heap.size + 3) A (A.setCell ⟨w.heap.size + 3, 0, none⟩ v) := But.setCell (But.refl _ A) (p := ⟨w.heap.size + 3, 0, none⟩) rfl v
    exact ⟨hb.setCell (by show w.heap.size ≤ w.heap.size + 3; omega) v, ⟨q, t, hB.cell (by omega) h1, (hB.frozen (by omega) (by omega)).trans h2, isTree_but hB h6 h3, h4, h5⟩, ((World.cell?_setCell_other (w := A) ⟨w.heap.size + 3, 0, none⟩ ⟨w.heap.size + 3, 5, none⟩ v (by simp)).trans h6), (hB.cellEq (by omega) (by omega)).trans h7, (hB.cellEq (by omega) (by omega)).trans h8, by simpa [World.setCell] using h9⟩
  case ib =>
    rintro pre A r ⟨hb, ⟨q, t, h1, h2, h3, h4, h5⟩, h6, h7, h8, h9⟩
    rw [hs4]
    have hB := But.putObj (w.heap.size + 5) A (.loop r)
    exact ⟨hb.trans (hB.below (by omega) |>.mono (by omega)), ⟨q, t, hB.cell (by omega) h1, (hB.frozen (by omega) (by omega)).trans h2, isTree_but hB h7 h3, h4, h5⟩, (hB.cellEq (by omega) (by omega)).trans h6, none_loop (World.putObj_heap_same h9) 5, (hB.cellEq (by omega) (by omega)).trans h8, by simpa using h9⟩
  case h0 =>
    rintro W hs hb ⟨r, hr⟩
    rw [hs4] at hs hb hr
    exact ⟨hb4.trans (hb.mono (by omega)), ⟨none, .nil, (hb.cell (p := ⟨w.heap.size, 0, none⟩) (by show w.heap.size < _; omega)).trans cl, (hb.frozen (p := ⟨w.heap.size, 0, none⟩) (by show w.heap.size < _; omega)).trans fl, rfl, okT_nil, rfl⟩, (hb.cell (p := ⟨w.heap.size + 3, 5, none⟩) (by show w.heap.size + 3 < _; omega)).trans cs5, none_loop hr 5, (hb.cell (p := ⟨w.heap.size, 5, none⟩) (by show w.heap.size < _; omega)).trans cl5, by omega⟩
  case round =>
    rintro l pre x W hI hlW hSp
    rw [hs4] at hlW ⊢
    obtain ⟨hb, ⟨q, t, h1, h2, h3, h4, h5⟩, h6, h7, h8, h9⟩ := hI
    obtain ⟨⟨rest, hrs⟩, hxo⟩ := hSp
    have hx : okChunk x := hxo x (by simp)
    have HX : Hid (okChunk x) := hx
    have HL : Hid (C1 (pre.flatten ++ x) ≤ 100000000) := by
      show _ ≤ _
      have := HZ.out
      rw [hrs, encs_append, List.length_append] at this
      rw [C1_len]
      simp only [List.flatten_append, List.flatten_cons, List.flatten_nil, List.append_nil] at this
      omega
    have HBG : Hid (big (.node t x .nil)) := big_put h4 hx (by rw [h5]; exact HL.out)
    clear hrs hxo hx
    gi_wp2
    refine ⟨Same2.refl _ W, ⟨Nat.le_refl _, trivial⟩, ?_⟩
    intro w2 hp ⟨r, hr⟩
    have hw2 : Below w.heap.size w w2 := hb.trans ((hp.below (Nat.le_refl _)).mono (by omega))
    have hs2 : w.heap.size + 6 ≤ w2.heap.size := by rw [hp.size]; exact hlW
    have k1 := (hp.cell (b := w.heap.size) (o := 0) (by omega)).trans h1
    have k2 := (hp.frozen (b := w.heap.size) (o := 0) (by omega)).trans h2
    have k6 := (hp.cell (b := w.heap.size + 3) (o := 5) (by omega)).trans h6
    have k8 := (hp.cell (b := w.heap.size) (o := 5) (by omega)).trans h8
    have k7 := none_loop hr 5
    have k3 : isTree w2 q t := isTree_but (B := w.heap.size + 5) ⟨hp.os, hp.tape, hp.output, Nat.le_of_eq hp.size.symm, fun k _ hk => hp.block k hk⟩ h7 h3
    have HT : Hid (isTree w2 q t) := k3
    have HO : Hid (okT t) := h4
    have HR5 : Hid (t.runes = pre.flatten) := h5
    have cK := fun wx (hbx : Below w.heap.size w wx) => chunkOf_any x HX.out.2.2 (by have := HL.out; rw [C1_append] at this; have := C1_len pre.flatten; have := C1_len x; omega) wx (Go.Proofs.Utf8Tabs_below hT hbx)
    clear h1 h2 h3 h4 h5 h6 h7 h8 h9 k3 hb hp hr
    gi_wp2
    refine wpR_region_rel 4 5 (by kernel_rfl) rfl (by kernel_rfl) ?_
    intro w3 hb3
    obtain ⟨G, hG⟩ := exists_growth w3
    have hw3 : Below w.heap.size w w3 := hw2.trans (hb3.mono (by omega))
    have k1G : ∀ x, (G x).cell? ⟨w.heap.size, 0, none⟩ = some (.pointer q) := hG.cell ((hb3.cell (p := ⟨w.heap.size, 0, none⟩) (by show w.heap.size < _; omega)).trans k1)
    have cKG := fun x => (cK (G x) (hw3.trans ((hG.below x).mono hw3.size)))
    have k1' := k1
    clear k1
    (refine anyG_step hG (i := 0) rfl (by kernel_rfl) (by kernel_rfl) (by kernel_rfl) (fun K hK => ?_); go_simp; refine hK _ ?_; clear hK K)
    (refine anyG_step hG (i := 1) rfl (by kernel_rfl) (by kernel_rfl) (by kernel_rfl) (fun K hK => ?_); go_simp; refine hK _ ?_; clear hK K)
    (refine anyG_step hG (i := 2) rfl (by kernel_rfl) (by kernel_rfl) (by kernel_rfl) (fun K hK => ?_); go_simp; apply Exists.intro; refine ⟨fun _ => ?_, hK _ ?_⟩; exact cKG _; clear hK K)
    clear k1G cKG hG
    have HTT : Hid (Lib.Utf8Tabs 2 3 w) := hT
    clear hT
    refine anyG_one (i := 3) rfl (by kernel_rfl) ?_
    intro w4 hb4 K hK
    have hb24 : Below w2.heap.size w2 w4 := hb3.trans (hb4.mono hb3.size)
    have ck := add_any q t x w4 (Go.Proofs.Utf8Tabs_below HTT.out (hw2.trans (hb24.mono (by omega)))) (isTree_below hb24 HT.out) HBG.out HO.out HX.out
    go_simp
    refine ck.mono ?_
    rintro e w5 ⟨q5, t5, rfl, ht5, ha5, hb5⟩
    refine ⟨_, rfl, hK _ _ hb5 ?_⟩
    clear hK K ck
    have hb25 : Below w2.heap.size w2 w5 := hb24.trans (hb5.mono hb24.size)
    have HT5 : Hid _ := ht5
    have HA5 : Hid _ := ha5
    clear ht5 ha5 hb3 hb4 hb5 hb24 hw3
    refine anyG_late (i := 4) rfl (by kernel_rfl) (by kernel_rfl) ?_
    intro w6 hb6 K hK
    have c6 : w6.cell? ⟨w.heap.size, 0, none⟩ = some (.pointer q) := (hb6.cell (p := ⟨w.heap.size, 0, none⟩) (by have := hb25.size; show w.heap.size < _; omega)).trans ((hb25.cell (p := ⟨w.heap.size, 0, none⟩) (by show w.heap.size < _; omega)).trans k1')
    have f6 : w6.frozen? ⟨w.heap.size, 0, none⟩ = false := (hb6.frozen (p := ⟨w.heap.size, 0, none⟩) (by have := hb25.size; show w.heap.size < _; omega)).trans ((hb25.frozen (p := ⟨w.heap.size, 0, none⟩) (by show w.heap.size < _; omega)).trans k2)
    go_simp
    refine hK _ _ ?_
    clear hK K
    refine anyG_end (by kernel_rfl) ?_
    intro w7 hb7
    have HG : Hid _ := grows_put hw2 hs2 k1' k2 k6 k7 k8 (hb25.trans (hb6.mono hb25.size)) (isTree_below hb6 HT5.out) HA5.out.2.1 (HA5.out.1.trans (by rw [HR5.out])) (by have := hb7; rwa [show (w6.setCell ⟨w.heap.size, 0, none⟩ (.pointer q5)).heap.size = w6.heap.size by simp [World.setCell]] at this)
    clear c6 f6 hb7 k1' k2 k6 k7 k8
    gi_wp2
    refine ⟨HG.out.1, HG.out.2.1, ?_⟩
    have := HG.out.2.2
    show grows w w7 w.heap.size (w.heap.size + 3) (w.heap.size + 5) (pre ++ [x]).flatten
    rw [show (pre ++ [x]).flatten = pre.flatten ++ x by simp]
    exact this
  case done =>
    rintro xs W ⟨hxs, hxo⟩ hI hDef
    rw [hs4] at hDef ⊢
    obtain ⟨hb, ⟨q, t, h1, h2, h3, h4, h5⟩, h6, h7, h8, h9⟩ := hI
    have H3 : Hid (isTree W q t) := h3
    have H4 : Hid (okT t) := h4
    have H5 : Hid (t.runes = rs) := h5.trans hxs
    have c86 := chain_nil q
    clear h3 h4 h5 hxs hxo
    gi_wp2_with (first
      | (refine ⟨trivial, ?_⟩; gi_at_call 63; refine (callsIn_wide.2 (c86 _)).mono ?_; rintro e wx ⟨rfl, hwx⟩; obtain rfl := hwx.symm)
      | fail)
    have hdn : W.cell? ⟨w.heap.size + 4, 5, none⟩ = none := by unfold World.cell?; simp [hDef]
    refine ⟨by simp, .inl ⟨_, _, rfl, run_takeDeferred hDef, ?_⟩⟩
    refine ⟨.pointer q, by simp [results, Tryz.results27, go_sem], q, t, rfl, isTree_but (But.putObj _ _ _) hdn H3.out, H4.out, H5.out, hb.trans (((But.putObj (w.heap.size + 4) W _).below (by omega)).mono (by omega))⟩
end Go.Proofs.YtldhbjmillfjgaaGreatDoor

namespace Go.Proofs.YtldhbjmillfjgaaGreatDoor
open Go.RowKit
set_option linter.unusedVariables false
attribute [local go_sem] Oper.semAt_some

/-- A document that lies in a block, of these runes. -/
def isRope (w : World) (b : Nat) (rs : List Nat) : Prop :=
  ∃ q t, w.cell? ⟨b, 0, none⟩ = some (.pointer q) ∧ w.frozen? ⟨b, 0, none⟩ = false ∧ w.cell? ⟨b, 5, none⟩ = none ∧ isTree w q t ∧ okT t ∧ t.runes = rs
theorem isRope_below {w w' : World} {b : Nat} {rs : List Nat} (h : isRope w b rs) (hb : Below w.heap.size w w') : isRope w' b rs := by
  obtain ⟨q, t, h1, h2, h3, h4, h5⟩ := h
  have hlt := World.block_lt_of_cell? w _ h1
  have e := hb.block b hlt
  exact ⟨q, t, (cellOn e 0).trans h1, (frozenOn e 0).trans h2, (cellOn e 5).trans h3, isTree_below hb h4, h5⟩

theorem counted_new (w : World) (n1 n2 n3 n4 : Int) (t : TypeId) : counted (w.alloc (.cells #[.int .i64 n1, .int .i64 n2, .int .i64 n3, .int .i64 n4] t)) w.heap.size n1 n2 n3 n4 := by
  refine ⟨⟨?_, ?_, ?_, ?_⟩, ?_, ?_, ?_, ?_⟩ <;> simp [go_sem]
theorem below_set4 {lo : Nat} {w W : World} {B : Nat} (hb : Below lo w W) (hlo : lo ≤ B) (u0 u1 u2 u3 : Value) :
    Below lo w ((((W.setCell ⟨B, 0, none⟩ u0).setCell ⟨B, 1, none⟩ u1).setCell ⟨B, 2, none⟩ u2).setCell ⟨B, 3, none⟩ u3) :=
  (((hb.setCell (p := ⟨B, 0, none⟩) hlo _).setCell (p := ⟨B, 1, none⟩) hlo _).setCell (p := ⟨B, 2, none⟩) hlo _).setCell (p := ⟨B, 3, none⟩) hlo _

set_option maxRecDepth 100000 in
set_option maxHeartbeats 2000000 in
theorem ropetree_any (b : Nat) (q : Option Addr) (w : World) (h : w.cell? ⟨b, 0, none⟩ = some (.pointer q)) :
    Calls Tryz.prog 35 #[.pointer (some ⟨b, 0, none⟩)] w fun e w' => e = .returned (.pointer q) ∧ w' = w := by
  go_enter Tryz.func35, Tryz.ntmps35
  go_wp2
  go_ret
  exact ⟨rfl, rfl⟩

set_option maxRecDepth 100000 in
set_option maxHeartbeats 2000000 in
theorem ropecounts_any (b : Nat) (rs : List Nat) (w : World) (h : isRope w b rs) :
    Calls Tryz.prog 11 #[.pointer (some ⟨b, 0, none⟩)] w fun e w' => e = .returned (.agg #[.int .i64 (C1 rs), .int .i64 (C2 rs), .int .i64 (C3 rs), .int .i64 (C4 rs)]) ∧ Below w.heap.size w w' := by
  obtain ⟨q, t, h1, _, _, h4, _, rfl⟩ := h
  have hb0 : ∀ o, Below w.heap.size w (w.alloc o) := fun o => (Below.refl _ w).alloc (Nat.le_refl _) o
  have cT := fun o => ropetree_any b q (w.alloc o) (cell_on (hb0 o) h1)
  have cC := fun o => ncounts_any q t (w.alloc o) (isTree_below (hb0 o) h4)
  generalize C1 t.runes = x1 at *
  generalize C2 t.runes = x2 at *
  generalize C3 t.runes = x3 at *
  generalize C4 t.runes = x4 at *
  clear h4
  go_enter Tryz.func11, Tryz.ntmps11
  go_wp2_with (first
    | (go_at_call 35; refine (cT _).mono ?_; rintro e w1 ⟨rfl, hw1⟩; obtain rfl := hw1.symm)
    | (go_at_call 36; refine (cC _).mono ?_; rintro e w2 ⟨rfl, hb2⟩; have hm := counted_below (counted_new w 0 0 0 0 29) hb2; have HM : Hid _ := hm; obtain ⟨⟨m0, m1, m2, m3⟩, n0, n1, n2, n3⟩ := hm)
    | fail)
  have hms := counted_set (m1 := x1) (m2 := x2) (m3 := x3) (m4 := x4) HM.out
  obtain ⟨⟨s0, s1, s2, s3⟩, _⟩ := hms
  have hbw := (hb0 (.cells #[.int .i64 0, .int .i64 0, .int .i64 0, .int .i64 0] 29)).trans (hb2.mono (hb0 (.cells #[.int .i64 0, .int .i64 0, .int .i64 0, .int .i64 0] 29)).size)
  refine bodyPost_ret (v := .agg #[.int .i64 x1, .int .i64 x2, .int .i64 x3, .int .i64 x4]) (by simp [results, Tryz.results11, go_sem, s0, s1, s2, s3]) rfl ⟨rfl, below_set4 hbw (Nat.le_refl _) _ _ _ _⟩

set_option maxRecDepth 100000 in
set_option maxHeartbeats 2000000 in
theorem new_good (rs : List Nat) (hr : ∀ r ∈ rs, isRune r) (hz : C1 rs ≤ 8000) (w : World) (hT : Lib.Utf8Tabs 2 3 w) :
    Calls Tryz.prog 5 #[.string (bytesOf rs)] w fun e w' => ∃ b, e = .returned (.tuple #[.pointer (some ⟨b, 0, none⟩), .nilIface]) ∧ w.heap.size ≤ b ∧ isRope w' b rs ∧ Below w.heap.size w w' := by
  have hsz : (bytesOf rs).size ≤ 8000 := by rw [bytesOf_size]; rw [C1_len] at hz; omega
  have c1 := count_of rs hr (by omega) w hT
  have c2 := fun wx (hb : Below w.heap.size w wx) => between_new rs hr (by rw [C1_len] at hz; omega) wx (Go.Proofs.Utf8Tabs_below hT hb)
  clear hr hz hT
  generalize C1 rs = x1 at *
  generalize C2 rs = x2 at *
  generalize C3 rs = x3 at *
  generalize C4 rs = x4 at *
  go_enter Tryz.func5, Tryz.ntmps5
  go_wp2_with (first
    | (go_at_call 26; refine c1.mono ?_; rintro e w1 ⟨rfl, hb1⟩; have hB1 : Below w.heap.size w (w1.alloc (.cells #[.int .i64 x1, .int .i64 x2, .int .i64 x3, .int .i64 x4] 29)) := hb1.alloc hb1.size _)
    | (go_at_call 27; refine (c2 _ hB1).mono ?_; rintro e w2 ⟨q, t, rfl, ht, ho, hrn, hb2⟩; have HT : Hid (isTree w2 q t ∧ okT t ∧ t.runes = rs) := ⟨ht, ho, hrn⟩; clear ht ho hrn)
    | fail)
  have hb2W : Below w2.heap.size w2 (w2.alloc (.cells #[.pointer q] 70)) := (Below.refl _ w2).alloc (Nat.le_refl _) _
  have hB2 := hB1.trans (hb2.mono hB1.size)
  have hR : isRope (w2.alloc (.cells #[.pointer q] 70)) w2.heap.size rs := ⟨q, t, by simp [go_sem], by simp [go_sem], by simp [go_sem], isTree_below hb2W HT.out.1, HT.out.2⟩
  refine bodyPost_ret (v := .tuple #[.pointer (some ⟨w2.heap.size, 0, none⟩), .nilIface]) (by simp [results, Tryz.results5, go_sem]) rfl ⟨_, rfl, hB2.size, hR, hB2.trans (hb2W.mono hB2.size)⟩

set_option maxRecDepth 100000 in
set_option maxHeartbeats 2000000 in
theorem new_full (rs : List Nat) (hr : ∀ r ∈ rs, isRune r) (hz : 8000 < C1 rs) (hz2 : C1 rs ≤ 100000000) (w : World) (hT : Lib.Utf8Tabs 2 3 w) :
    Calls Tryz.prog 5 #[.string (bytesOf rs)] w fun e w' => e = .returned (.tuple #[.pointer none, .iface 30 (.int .i64 12)]) ∧ Below w.heap.size w w' := by
  have hsz : 8000 < (bytesOf rs).size ∧ (bytesOf rs).size ≤ 100000000 := by rw [bytesOf_size]; rw [C1_len] at hz hz2; omega
  obtain ⟨hs1, hs2⟩ := hsz
  have hs3 : (8000 : Int) < ((bytesOf rs).size : Int) := by omega
  have c1 := count_of rs hr (by omega) w hT
  clear hr hz hz2 hT
  generalize C1 rs = x1 at *
  generalize C2 rs = x2 at *
  generalize C3 rs = x3 at *
  generalize C4 rs = x4 at *
  go_enter Tryz.func5, Tryz.ntmps5
  go_wp2_with (first
    | (go_at_call 26; refine c1.mono ?_; rintro e w1 ⟨rfl, hb1⟩)
    | fail)
  refine bodyPost_ret (v := .tuple #[.pointer none, .iface 30 (.int .i64 12)]) (by simp [results, Tryz.results5, go_sem]) rfl ⟨rfl, hb1.alloc hb1.size _⟩
end Go.Proofs.YtldhbjmillfjgaaGreatDoor

namespace Go.Proofs.YtldhbjmillfjgaaGreatDoor
open Go.RowKit
set_option linter.unusedVariables false
attribute [local go_sem] yieldsUpon okUpon


set_option maxRecDepth 100000 in
set_option maxHeartbeats 2000000 in
theorem first_one (p : Option Addr) (r : T) (c : List Nat) (w : World) (ht : isTree w p (.node .nil c r)) :
    Calls Tryz.prog 59 #[.pointer p] w fun e w' => ∃ q, e = .returned (.tuple #[chunkV c, .pointer q]) ∧ isTree w' q r ∧ Below w.heap.size w w' := by
  obtain ⟨b1, pl, pr, rfl, ⟨c0, c1, c2, c3, c4⟩, ⟨c5, c6⟩, _, _, hl, hr⟩ := ht
  have hb0 : ∀ o, Below w.heap.size w (w.alloc o) := fun o => (Below.refl _ w).alloc (Nat.le_refl _) o
  have hlt : b1 < w.heap.size := World.block_lt_of_cell? w _ c0
  have HT : Hid (isTree w pr r) := hr
  obtain rfl : pl = none := hl
  clear hr
  have d5 := fun o => cell_on (hb0 o) c5
  have hA := chunkAt_new w (.string ⟨#[]⟩) (.int .i64 0) (.int .i64 0) (.int .i64 0) (.int .i64 0) 106
  unfold chunkV
  generalize bytesOf c = v0 at *
  generalize C1 c = v1 at *
  generalize C2 c = v2 at *
  generalize C3 c = v3 at *
  generalize C4 c = v4 at *
  go_enter Tryz.func59, Tryz.ntmps59
  go_wp2
  have hbW := hb0 (.cells #[.string ⟨#[]⟩, .int .i64 0, .int .i64 0, .int .i64 0, .int .i64 0] 106)
  generalize (w.alloc (.cells #[.string ⟨#[]⟩, .int .i64 0, .int .i64 0, .int .i64 0, .int .i64 0] 106)) = W at *
  clear d5 hb0
  refine wp_region_but w.heap.size 10 10 (by kernel_rfl) rfl ?_
  intro w1 hb1
  have hbw := hbW.trans (hb1.mono hbW.size)
  have hA1 := chunkAt_below hA hb1
  obtain ⟨G, hG⟩ := exists_growB w.heap.size w1
  have hw0 := But.refl w.heap.size w1
  have hne : b1 ≠ w.heap.size := Nat.ne_of_lt hlt
  have g0 := hG.cell hne (cell_on hbw c0)
  have g1 := hG.cell hne (cell_on hbw c1)
  have g2 := hG.cell hne (cell_on hbw c2)
  have g3 := hG.cell hne (cell_on hbw c3)
  have g4 := hG.cell hne (cell_on hbw c4)
  have g6 := hG.cell hne (cell_on hbw c6)
  clear c0 c1 c2 c3 c4 c5 c6 hA
  (refine anyB_step hG hw0 (i := 0) rfl (by kernel_rfl) (by kernel_rfl) (by kernel_rfl) (fun K hK => ?_); go_simp; refine hK _ ?_; clear hK K)
  (refine anyB_step hG hw0 (i := 1) rfl (by kernel_rfl) (by kernel_rfl) (by kernel_rfl) (fun K hK => ?_); go_simp; refine hK _ ?_; clear hK K)
  (refine anyB_step hG hw0 (i := 2) rfl (by kernel_rfl) (by kernel_rfl) (by kernel_rfl) (fun K hK => ?_); go_simp; refine hK _ ?_; clear hK K)
  (refine anyB_step hG hw0 (i := 3) rfl (by kernel_rfl) (by kernel_rfl) (by kernel_rfl) (fun K hK => ?_); go_simp; refine hK _ ?_; clear hK K)
  (refine anyB_step hG hw0 (i := 4) rfl (by kernel_rfl) (by kernel_rfl) (by kernel_rfl) (fun K hK => ?_); go_simp; refine hK _ ?_; clear hK K)
  (refine anyB_step hG hw0 (i := 5) rfl (by kernel_rfl) (by kernel_rfl) (by kernel_rfl) (fun K hK => ?_); go_simp; refine hK _ ?_; clear hK K)
  (refine anyB_step hG hw0 (i := 6) rfl (by kernel_rfl) (by kernel_rfl) (by kernel_rfl) (fun K hK => ?_); go_simp; refine hK _ ?_; clear hK K)
  (refine anyB_step hG hw0 (i := 7) rfl (by kernel_rfl) (by kernel_rfl) (by kernel_rfl) (fun K hK => ?_); go_simp; refine hK _ ?_; clear hK K)
  clear g0 g1 g2 g3 g4 g6 hG
  refine anyB_one (i := 8) (by kernel_rfl) ⟨_, rfl, ?_⟩
  intro w2 hb2 K hK
  have hA2 := chunkAt_below hA1 hb2
  have hbw2 := hbw.trans (hb2.mono hbw.size)
  have HA2 : Hid _ := hA2
  obtain ⟨⟨a0, a1, a2, a3, a4⟩, f0, f1, f2, f3, f4⟩ := hA2
  go_simp
  refine hK _ _ (fun h => ((((h.setCell rfl _).setCell rfl _).setCell rfl _).setCell rfl _).setCell rfl _) ?_
  clear hK K
  refine anyB_one (i := 9) (by kernel_rfl) ⟨_, rfl, ?_⟩
  intro w3 hb3 K hK
  have hA3 := chunkAt_below (chunkAt_set HA2.out) hb3
  have hbw3 := (below_set5 hbw2 (Nat.le_refl _) _ _ _ _ _).trans (hb3.mono (below_set5 hbw2 (Nat.le_refl _) _ _ _ _ _).size)
  go_simp
  refine hK _ _ (fun h => h) ?_
  clear hK K
  refine anyB_end (by kernel_rfl) ?_
  intro w4 hb4
  have hA4 := chunkAt_below hA3 hb4
  have hbw4 := hbw3.trans (hb4.mono hbw3.size)
  clear a0 a1 a2 a3 a4 f0 f1 f2 f3 f4 hb3 hb4 hA3 HA2 hA1
  have HT4 : Hid _ := isTree_below hbw4 HT.out
  obtain ⟨⟨a0, a1, a2, a3, a4⟩, f0, f1, f2, f3, f4⟩ := hA4
  go_wp2
  refine bodyPost_ret (v := .tuple #[.agg #[.string v0, .int .i64 v1, .int .i64 v2, .int .i64 v3, .int .i64 v4], .pointer pr]) (by simp [results, Tryz.results59, go_sem, a0, a1, a2, a3, a4]) rfl ⟨_, rfl, HT4.out, hbw4⟩

set_option maxRecDepth 100000 in
set_option maxHeartbeats 2000000 in
theorem first_more (p : Option Addr) (l r : T) (c : List Nat) (w : World) (ht : isTree w p (.node l c r)) (hne : l ≠ .nil) (hz : big (.node l c r)) (hbal : (T.node l c r).bal)
    (ih : ∀ (p : Option Addr) (w : World), isTree w p l → Calls Tryz.prog 59 #[.pointer p] w fun e w' => ∃ c q t, e = .returned (.tuple #[chunkV c, .pointer q]) ∧ isTree w' q t ∧ begun l c t ∧ Below w.heap.size w w') :
    Calls Tryz.prog 59 #[.pointer p] w fun e w' => ∃ c1 q t, e = .returned (.tuple #[chunkV c1, .pointer q]) ∧ isTree w' q t ∧ begun (.node l c r) c1 t ∧ Below w.heap.size w w' := by
  obtain ⟨b1, pl, pr, rfl, ⟨c0, c1, c2, c3, c4⟩, ⟨c5, c6⟩, _, _, hl, hr⟩ := ht
  have hb0 : ∀ o, Below w.heap.size w (w.alloc o) := fun o => (Below.refl _ w).alloc (Nat.le_refl _) o
  have hlt : b1 < w.heap.size := World.block_lt_of_cell? w _ c0
  have hsub : ∃ b2, pl = some ⟨b2, 0, none⟩ := by
    cases l with
    | nil => exact absurd rfl hne
    | node x y z => obtain ⟨b, _, _, e, _⟩ := hl; exact ⟨b, e⟩
  obtain ⟨b2, rfl⟩ := hsub
  have cI := fun o => ih _ (w.alloc o) (isTree_below (hb0 o) hl)
  have HT : Hid (isTree w pr r) := hr
  have HJ : Hid (∀ c1 t, begun l c1 t → ∀ p1 p2 W, isTree W p1 t → isTree W p2 r → Calls Tryz.prog 70 #[.pointer p1, chunkV c, .pointer p2] W fun e w' => ∃ q t', e = .returned (.pointer q) ∧ isTree w' q t' ∧ begun (.node l c r) c1 t' ∧ Below W.heap.size W w') := fun c1 t he p1 p2 W h1 h2 => by
    obtain ⟨b1, b2, b3, b4⟩ := hbal
    have hbig : big (.node t c r) := by
      obtain ⟨z1, z2⟩ := hz
      have e1 := he.1
      simp only [T.runes, T.size, C1_append] at z1 z2
      rw [runes_chunks l, e1] at z1
      rw [size_chunks l, e1] at z2
      simp only [List.flatten_append, C1_append, List.length_append, List.length_singleton] at z1 z2
      have := C1_pos [c1].flatten
      exact ⟨by simp only [T.runes, C1_append, runes_chunks t]; omega, by simp only [T.size, size_chunks t]; omega⟩
    refine (join_any _ p1 p2 t r c W (Nat.le_refl _) h1 h2 hbig he.2 b2).mono ?_
    rintro e w' ⟨q, t', rfl, ht', ⟨j1, j2, _, _⟩, hb⟩
    exact ⟨q, t', rfl, ht', ⟨by rw [j1, T.chunks, he.1]; simp, j2⟩, hb⟩
  clear hl hr hne hz hbal ih
  have d5 := fun o => cell_on (hb0 o) c5
  have hA := chunkAt_new w (.string ⟨#[]⟩) (.int .i64 0) (.int .i64 0) (.int .i64 0) (.int .i64 0) 106
  have hN : (w.alloc (.cells #[.string ⟨#[]⟩, .int .i64 0, .int .i64 0, .int .i64 0, .int .i64 0] 106)).cell? ⟨w.heap.size, 5, none⟩ = none := by simp [go_sem]
  have HA : Hid _ := hA
  have HN : Hid _ := hN
  clear hA hN
  unfold chunkV at cI HJ ⊢
  go_enter Tryz.func59, Tryz.ntmps59
  go_wp2_with (first | (go_at_call 59; refine (cI _).mono ?_; rintro e w1 ⟨x, p', t, rfl, ht1, he, hb1⟩; have HT1 : Hid _ := ht1; have HE : Hid _ := he; clear ht1 he) | fail)
  obtain ⟨W, hW⟩ : ∃ W, w1.alloc (.cells #[.string (bytesOf x), .int .i64 (C1 x), .int .i64 (C2 x), .int .i64 (C3 x), .int .i64 (C4 x)] 106) = W := ⟨_, rfl⟩
  have hB4 : chunkAt W w1.heap.size (.string (bytesOf x)) (.int .i64 (C1 x)) (.int .i64 (C2 x)) (.int .i64 (C3 x)) (.int .i64 (C4 x)) := by rw [← hW]; exact chunkAt_new _ _ _ _ _ _ _
  have hb1W : Below w1.heap.size w1 W := by rw [← hW]; exact (Below.refl _ _).alloc (Nat.le_refl _) _
  rw [hW]
  clear hW cI d5
  have hA := chunkAt_below (chunkAt_below HA.out hb1) hb1W
  have hltA := chunkAt_lt HA.out
  have hN := (((hb1.trans (hb1W.mono hb1.size)).cell (p := ⟨w.heap.size, 5, none⟩) hltA)).trans HN.out
  have ht1 := isTree_below hb1W HT1.out
  have hbW := (hb0 (.cells #[.string ⟨#[]⟩, .int .i64 0, .int .i64 0, .int .i64 0, .int .i64 0] 106)).trans ((hb1.trans (hb1W.mono hb1.size)).mono (hb0 (.cells #[.string ⟨#[]⟩, .int .i64 0, .int .i64 0, .int .i64 0, .int .i64 0] 106)).size)
  have hn14 : w1.heap.size ≠ w.heap.size := by have := hb1.size; omega
  clear HA HN HT1 hb1 hb1W hb0
  refine wp_region_but w.heap.size 13 13 (by kernel_rfl) rfl ?_
  intro w2 hb2
  have hbw := hbW.trans (hb2.mono hbW.size)
  have HA1 : Hid _ := chunkAt_below hA hb2
  have HN1 : Hid _ := (hb2.cell (p := ⟨w.heap.size, 5, none⟩) (chunkAt_lt hA)).trans hN
  have HT1 : Hid _ := isTree_below hb2 ht1
  have hB4' := chunkAt_below hB4 hb2
  obtain ⟨⟨e0, e1, e2, e3, e4⟩, _⟩ := hB4'
  obtain ⟨G, hG⟩ := exists_growB w.heap.size w2
  have hw0 := But.refl w.heap.size w2
  have hne : b1 ≠ w.heap.size := Nat.ne_of_lt hlt
  have g0 := hG.cell hne (cell_on hbw c0)
  have g1 := hG.cell hne (cell_on hbw c1)
  have g2 := hG.cell hne (cell_on hbw c2)
  have g3 := hG.cell hne (cell_on hbw c3)
  have g4 := hG.cell hne (cell_on hbw c4)
  have g6 := hG.cell hne (cell_on hbw c6)
  have k0 := hG.cell hn14 e0
  have k1 := hG.cell hn14 e1
  have k2 := hG.cell hn14 e2
  have k3 := hG.cell hn14 e3
  have k4 := hG.cell hn14 e4
  clear c0 c1 c2 c3 c4 c5 c6 hA hN ht1 hB4 e0 e1 e2 e3 e4
  (refine anyB_step hG hw0 (i := 0) rfl (by kernel_rfl) (by kernel_rfl) (by kernel_rfl) (fun K hK => ?_); go_simp; refine hK _ ?_; clear hK K)
  (refine anyB_step hG hw0 (i := 1) rfl (by kernel_rfl) (by kernel_rfl) (by kernel_rfl) (fun K hK => ?_); go_simp; refine hK _ ?_; clear hK K)
  (refine anyB_step hG hw0 (i := 2) rfl (by kernel_rfl) (by kernel_rfl) (by kernel_rfl) (fun K hK => ?_); go_simp; refine hK _ ?_; clear hK K)
  (refine anyB_step hG hw0 (i := 3) rfl (by kernel_rfl) (by kernel_rfl) (by kernel_rfl) (fun K hK => ?_); go_simp; refine hK _ ?_; clear hK K)
  (refine anyB_step hG hw0 (i := 4) rfl (by kernel_rfl) (by kernel_rfl) (by kernel_rfl) (fun K hK => ?_); go_simp; refine hK _ ?_; clear hK K)
  (refine anyB_step hG hw0 (i := 5) rfl (by kernel_rfl) (by kernel_rfl) (by kernel_rfl) (fun K hK => ?_); go_simp; refine hK _ ?_; clear hK K)
  (refine anyB_step hG hw0 (i := 6) rfl (by kernel_rfl) (by kernel_rfl) (by kernel_rfl) (fun K hK => ?_); go_simp; refine hK _ ?_; clear hK K)
  (refine anyB_step hG hw0 (i := 7) rfl (by kernel_rfl) (by kernel_rfl) (by kernel_rfl) (fun K hK => ?_); go_simp; refine hK _ ?_; clear hK K)
  (refine anyB_step hG hw0 (i := 8) rfl (by kernel_rfl) (by kernel_rfl) (by kernel_rfl) (fun K hK => ?_); go_simp; refine hK _ ?_; clear hK K)
  (refine anyB_step hG hw0 (i := 9) rfl (by kernel_rfl) (by kernel_rfl) (by kernel_rfl) (fun K hK => ?_); go_simp; refine hK _ ?_; clear hK K)
  clear g0 g1 g2 g3 g4 g6 k0 k1 k2 k3 k4 hG hb2
  refine anyB_one (i := 10) (by kernel_rfl) ⟨_, rfl, ?_⟩
  · intro w3 hb3 K hK
    have hbw3 := hbw.trans (hb3.mono hbw.size)
    have ht3 := isTree_below hb3 HT1.out
    have cj := HJ.out x t HE.out _ _ w3 ht3 (isTree_below hbw3 HT.out)
    go_simp
    refine cj.mono ?_
    rintro e w4 ⟨q, t', rfl, ht4, he4, hb4⟩
    have HE9 : Hid _ := he4
    refine ⟨_, rfl, hK _ _ (fun h => h.trans (But.of_below hb4)) ?_⟩
    clear hK K cj he4 ht3
    have hb34 := hb3.trans (hb4.mono hb3.size)
    have hbw4 := hbw3.trans (hb4.mono hbw3.size)
    have HA4 : Hid _ := chunkAt_below HA1.out hb34
    have HN4 : Hid _ := (hb34.cell (p := ⟨w.heap.size, 5, none⟩) (chunkAt_lt HA1.out)).trans HN1.out
    refine anyB_one (i := 11) (by kernel_rfl) ⟨_, rfl, ?_⟩
    intro w5 hb5 K hK
    have hbw5 := hbw4.trans (hb5.mono hbw4.size)
    have hN5 := (hb5.cell (p := ⟨w.heap.size, 5, none⟩) (chunkAt_lt HA4.out)).trans HN4.out
    have HT5 : Hid _ := isTree_but (((((But.refl w.heap.size w5).setCell (p := ⟨w.heap.size, 0, none⟩) rfl (.string (bytesOf x))).setCell (p := ⟨w.heap.size, 1, none⟩) rfl (.int .i64 (C1 x))).setCell (p := ⟨w.heap.size, 2, none⟩) rfl (.int .i64 (C2 x))).setCell (p := ⟨w.heap.size, 3, none⟩) rfl (.int .i64 (C3 x)) |>.setCell (p := ⟨w.heap.size, 4, none⟩) rfl (.int .i64 (C4 x))) hN5 (isTree_below hb5 ht4)
    clear ht4 hN5
    have HA5 : Hid _ := chunkAt_below HA4.out hb5
    have hx := HA5.out
    obtain ⟨⟨a0, a1, a2, a3, a4⟩, f0, f1, f2, f3, f4⟩ := hx
    go_simp
    refine hK _ _ (fun h => ((((h.setCell rfl _).setCell rfl _).setCell rfl _).setCell rfl _).setCell rfl _) ?_
    clear hK K a0 a1 a2 a3 a4 f0 f1 f2 f3 f4
    have hbs := below_set5 hbw5 (Nat.le_refl _) (.string (bytesOf x)) (.int .i64 (C1 x)) (.int .i64 (C2 x)) (.int .i64 (C3 x)) (.int .i64 (C4 x))
    have hAs := chunkAt_set (u0 := .string (bytesOf x)) (u1 := .int .i64 (C1 x)) (u2 := .int .i64 (C2 x)) (u3 := .int .i64 (C3 x)) (u4 := .int .i64 (C4 x)) HA5.out
    have hts := HT5.out
    refine anyB_one (i := 12) (by kernel_rfl) ⟨_, rfl, ?_⟩
    intro w8 hb8 K hK
    go_simp
    refine hK _ _ (fun h => h) ?_
    clear hK K
    refine anyB_end (by kernel_rfl) ?_
    intro w9 hb9
    have hb89 := hb8.trans (hb9.mono hb8.size)
    have hA9 := chunkAt_below hAs hb89
    have hbw9 := hbs.trans (hb89.mono hbs.size)
    have HT9 : Hid _ := isTree_below hb89 hts
    clear hb8 hb9 hb89 hts
    obtain ⟨⟨a0, a1, a2, a3, a4⟩, f0, f1, f2, f3, f4⟩ := hA9
    go_wp2
    refine bodyPost_ret (v := .tuple #[chunkV x, .pointer q]) (by simp [results, Tryz.results59, go_sem, a0, a1, a2, a3, a4, chunkV]) rfl ⟨_, _, _, rfl, HT9.out, HE9.out, hbw9⟩

theorem ropefirst_any : ∀ (n : Nat) (t : T) (p : Option Addr) (w : World), t.size ≤ n → t ≠ .nil → isTree w p t → big t → t.bal →
    Calls Tryz.prog 59 #[.pointer p] w fun e w' => ∃ c q t', e = .returned (.tuple #[chunkV c, .pointer q]) ∧ isTree w' q t' ∧ begun t c t' ∧ Below w.heap.size w w' := by
  intro n
  induction n with
  | zero =>
    intro t p w hn hne
    cases t with
    | nil => exact absurd rfl hne
    | node l c r => simp [T.size] at hn
  | succ n ih =>
    intro t p w hn hne ht hz hbal
    match t, hn, hne, ht, hz, hbal with
    | .nil, _, hne, _, _, _ => exact absurd rfl hne
    | .node l c r, hn, _, ht, hz, hbal =>
      by_cases hs : l = .nil
      · subst hs
        refine (first_one p r c w ht).mono ?_
        rintro e w' ⟨q, rfl, hq, hb⟩
        exact ⟨c, q, r, rfl, hq, ⟨by simp [T.chunks], hbal.2.1⟩, hb⟩
      · simp only [T.size] at hn
        exact first_more p l r c w ht hs hz hbal fun p' w' h' => ih l p' w' (by omega) hs h' (big_node hz).1 hbal.1
end Go.Proofs.YtldhbjmillfjgaaGreatDoor

namespace Go.Proofs.YtldhbjmillfjgaaGreatDoor
open Go.RowKit
set_option linter.unusedVariables false
attribute [local go_sem] Oper.semAt_some

theorem tree_at {w : World} {p : Option Addr} {t : T} (h : isTree w p t) : (t = .nil ∧ p = none) ∨ ∃ b, p = some ⟨b, 0, none⟩ ∧ t ≠ .nil := by
  cases t with
  | nil => exact .inl ⟨rfl, h⟩
  | node l c r =>
    obtain ⟨b, _, _, rfl, _⟩ := h
    exact .inr ⟨b, rfl, by simp⟩
theorem begun_ok {t t' : T} {c : List Nat} (h : begun t c t') (ho : okT t) : okChunk c ∧ okT t' ∧ t.runes = c ++ t'.runes :=
  ⟨ho.2 c (by rw [h.1]; simp), ⟨h.2, fun x hx => ho.2 x (by rw [h.1]; simp [hx])⟩, by rw [runes_chunks, runes_chunks t', h.1]; simp⟩
theorem ended_ok {t t' : T} {c : List Nat} (h : ended t c t') (ho : okT t) : okChunk c ∧ okT t' ∧ t.runes = t'.runes ++ c :=
  ⟨ho.2 c (by rw [h.1]; simp), ⟨h.2, fun x hx => ho.2 x (by rw [h.1]; simp [hx])⟩, by rw [runes_chunks, runes_chunks t', h.1]; simp⟩
theorem joined_ok {l r t : T} {c : List Nat} (h : joined l r c t) (hl : okT l) (hr : okT r) (hc : okChunk c) : okT t ∧ t.runes = l.runes ++ c ++ r.runes := by
  refine ⟨⟨h.2.1, fun x hx => ?_⟩, by rw [runes_chunks, runes_chunks l, runes_chunks r, h.1]; simp⟩
  rw [h.1] at hx
  simp only [List.mem_append, List.mem_singleton] at hx
  rcases hx with (hx | rfl) | hx
  · exact hl.2 x hx
  · exact hc
  · exact hr.2 x hx
theorem big_three {l r : T} {x : List Nat} (hl : okT l) (hr : okT r) (hx : okChunk x) (hz : C1 (l.runes ++ x ++ r.runes) ≤ 100000000) : big (.node l x r) := by
  have e : (T.node l x r).runes = l.runes ++ x ++ r.runes := by simp [T.runes]
  have h1 := okT_size hl.2
  have h2 := okT_size hr.2
  have h3 := (C3_le (l.runes ++ x ++ r.runes)).2
  unfold C3 at h3
  have hx1 : 1 ≤ x.length := by cases x with | nil => exact absurd rfl hx.1 | cons _ _ => simp
  rw [← runes_chunks] at h1 h2
  rw [List.length_append, List.length_append] at h3
  refine ⟨by rw [e]; omega, ?_⟩
  simp only [T.size]
  rw [size_chunks, size_chunks]
  omega
theorem but_set5 (W : World) (B : Nat) (u0 u1 u2 u3 u4 : Value) : But B W (((((W.setCell ⟨B, 0, none⟩ u0).setCell ⟨B, 1, none⟩ u1).setCell ⟨B, 2, none⟩ u2).setCell ⟨B, 3, none⟩ u3).setCell ⟨B, 4, none⟩ u4) :=
  (((((But.refl B W).setCell (p := ⟨B, 0, none⟩) rfl u0).setCell (p := ⟨B, 1, none⟩) rfl u1).setCell (p := ⟨B, 2, none⟩) rfl u2).setCell (p := ⟨B, 3, none⟩) rfl u3).setCell (p := ⟨B, 4, none⟩) rfl u4
theorem C1_left {a b : List Nat} {k : Int} (h : C1 (a ++ b) ≤ k) : C1 a ≤ k := by rw [C1_append] at h; have := C1_pos b; omega
theorem C1_right {a b : List Nat} {k : Int} (h : C1 (a ++ b) ≤ k) : C1 b ≤ k := by rw [C1_append] at h; have := C1_pos a; omega

set_option maxRecDepth 100000 in
set_option maxHeartbeats 2000000 in
theorem chain_more (pl : Option Addr) (bb : Nat) (l r : T) (w : World) (hT : Lib.Utf8Tabs 2 3 w) (hl : isTree w pl l) (hr : isTree w (some ⟨bb, 0, none⟩) r) (hne : r ≠ .nil) (hol : okT l) (hor : okT r) (hz : C1 (l.runes ++ r.runes) ≤ 100000000) :
    Calls Tryz.prog 63 #[.pointer pl, .pointer (some ⟨bb, 0, none⟩)] w fun e w' => ∃ q t, e = .returned (.pointer q) ∧ isTree w' q t ∧ okT t ∧ t.runes = l.runes ++ r.runes ∧ Below w.heap.size w w' := by
  have HL : Hid (isTree w pl l) := hl
  have HOL : Hid (okT l) := hol
  have HOR : Hid (okT r) := hor
  have HZ : Hid (C1 (l.runes ++ r.runes) ≤ 100000000) := hz
  have HT : Hid (Lib.Utf8Tabs 2 3 w) := hT
  have cF := ropefirst_any _ r _ w (Nat.le_refl _) hne hr (okT_big hor (C1_right hz)) hor.1
  clear hl hr hne hol hor hz hT
  go_enter Tryz.func63, Tryz.ntmps63
  go_wp2_with (first | (go_at_call 9999) | fail)
  refine cF.mono ?_
  rintro e w1 ⟨x, q0, t0, rfl, ht0, hbg, hb1⟩
  obtain ⟨hx, ho0, hrn⟩ := begun_ok hbg HOR.out
  have hb1W : Below w1.heap.size w1 (w1.alloc (.cells #[.string (bytesOf x), .int .i64 (C1 x), .int .i64 (C2 x), .int .i64 (C3 x), .int .i64 (C4 x)] 106)) := (Below.refl _ w1).alloc (Nat.le_refl _) _
  have hbW := hb1.trans (hb1W.mono hb1.size)
  have HA : Hid (okChunk x ∧ okT t0 ∧ r.runes = x ++ t0.runes) := ⟨hx, ho0, hrn⟩
  have cA := add_any pl l x _ (Go.Proofs.Utf8Tabs_below HT.out hbW) (isTree_below hbW HL.out) (big_put HOL.out hx (by have := HZ.out; rw [hrn, ← List.append_assoc] at this; exact C1_left this)) HOL.out hx
  have HT0 : Hid _ := isTree_below hb1W ht0
  have HB : Hid _ := hbW
  have hm := chunkAt_new w1 (.string (bytesOf x)) (.int .i64 (C1 x)) (.int .i64 (C2 x)) (.int .i64 (C3 x)) (.int .i64 (C4 x)) 106
  have hk5' : (w1.alloc (.cells #[.string (bytesOf x), .int .i64 (C1 x), .int .i64 (C2 x), .int .i64 (C3 x), .int .i64 (C4 x)] 106)).cell? ⟨w1.heap.size, 5, none⟩ = none := by simp [go_sem]
  have HSZ : Hid (w.heap.size ≤ w1.heap.size) := hb1.size
  unfold chunkV at *
  clear cF hbg hx ho0 hrn
  rcases tree_at ht0 with ⟨rfl, rfl⟩ | ⟨b0, rfl, hne0⟩
  · clear ht0 hb1 hb1W hbW
    go_wp2_with (first
      | (go_at_call 61; refine cA.mono ?_; rintro e w2 ⟨q2, t2, rfl, ht2, ha2, hb2⟩; have HT2 : Hid _ := ht2; have HA2 : Hid _ := ha2; clear ht2 ha2)
      | fail)
    go_ret
    exact ⟨q2, t2, rfl, HT2.out, HA2.out.2.1, by rw [HA2.out.1, HA.out.2.2]; simp [T.runes], HB.out.trans (hb2.mono HB.out.size)⟩
  · clear ht0 hb1 hb1W hbW
    go_wp2_with (first
      | (go_at_call 61; refine cA.mono ?_; rintro e w2 ⟨q2, t2, rfl, ht2, ha2, hb2⟩; have HT2 : Hid _ := ht2; have HA2 : Hid _ := ha2; have HB2 : Hid _ := hb2; have hm2 := chunkAt_below hm hb2; clear ht2 ha2 hb2)
      | fail)
    have hk5 : w2.cell? ⟨w1.heap.size, 5, none⟩ = none := (cellOn (HB2.out.block w1.heap.size (by simp)) 5).trans hk5'
    have hoA := HA.out.2.1
    refine (ropefirst_any _ t0 _ w2 (Nat.le_refl _) hne0 (isTree_below HB2.out HT0.out) (okT_big hoA (by have := HZ.out; rw [HA.out.2.2] at this; exact C1_right (C1_right this))) hoA.1).mono ?_
    rintro e w3 ⟨y, q3, t3, rfl, ht3, hbg3, hb3⟩
    obtain ⟨hy, ho3, hrn3⟩ := begun_ok hbg3 hoA
    have HB3 : Hid _ := hb3
    have HT3 : Hid _ := ht3
    have HA3 : Hid (okChunk y ∧ okT t3 ∧ t0.runes = y ++ t3.runes) := ⟨hy, ho3, hrn3⟩
    have HK5 : Hid (w3.cell? ⟨w1.heap.size, 5, none⟩ = none) := (cellOn (hb3.block w1.heap.size (World.block_lt_of_cell? _ _ hm2.1.1)) 5).trans hk5
    have hm3 := chunkAt_below hm2 hb3
    have HM3 : Hid _ := hm3
    obtain ⟨⟨m0, m1, m2, m3, m4⟩, f0, f1, f2, f3, f4⟩ := hm3
    have HBU : Hid _ := but_set5 w3 w1.heap.size (.string (bytesOf y)) (.int .i64 (C1 y)) (.int .i64 (C2 y)) (.int .i64 (C3 y)) (.int .i64 (C4 y))
    have cJ := join_any _ q2 q3 t2 t3 y _ (Nat.le_refl _) (isTree_but HBU.out HK5.out (isTree_below hb3 HT2.out)) (isTree_but HBU.out HK5.out ht3) (big_three HA2.out.2.1 ho3 hy (by have := HZ.out; rw [HA.out.2.2, hrn3] at this; rw [HA2.out.1]; simpa using this)) HA2.out.2.1.1 ho3.1
    unfold chunkV at *
    clear hm hm2 cA hk5 hk5' hoA ht3 hbg3 hb3 hy ho3 hrn3
    go_wp2_with (first
      | (go_at_call 70; refine cJ.mono ?_; rintro e w4 ⟨q4, t4, rfl, ht4, hj4, hb4⟩; have HT4 : Hid _ := ht4; have HJ4 : Hid _ := hj4; have HB4 : Hid _ := hb4; clear ht4 hj4 hb4)
      | fail)
    obtain ⟨j1, j2⟩ := joined_ok HJ4.out HA2.out.2.1 HA3.out.2.1 HA3.out.1
    go_ret
    have hB3 : Below w.heap.size w w3 := (HB.out.trans (HB2.out.mono HB.out.size)).trans (HB3.out.mono (HB.out.trans (HB2.out.mono HB.out.size)).size)
    have hB5 := below_set5 hB3 (B := w1.heap.size) HSZ.out (.string (bytesOf y)) (.int .i64 (C1 y)) (.int .i64 (C2 y)) (.int .i64 (C3 y)) (.int .i64 (C4 y))
    exact ⟨q4, t4, rfl, HT4.out, j1, by rw [j2, HA2.out.1, HA.out.2.2, HA3.out.2.2]; simp, hB5.trans (HB4.out.mono hB5.size)⟩

theorem chain_any (pl pr : Option Addr) (l r : T) (w : World) (hT : Lib.Utf8Tabs 2 3 w) (hl : isTree w pl l) (hr : isTree w pr r) (hol : okT l) (hor : okT r) (hz : C1 (l.runes ++ r.runes) ≤ 100000000) :
    Calls Tryz.prog 63 #[.pointer pl, .pointer pr] w fun e w' => ∃ q t, e = .returned (.pointer q) ∧ isTree w' q t ∧ okT t ∧ t.runes = l.runes ++ r.runes ∧ Below w.heap.size w w' := by
  rcases tree_at hr with ⟨rfl, rfl⟩ | ⟨b, rfl, hne⟩
  · refine (chain_nil pl w).mono ?_
    rintro e w' ⟨rfl, rfl⟩
    exact ⟨pl, l, rfl, hl, hol, by simp [T.runes], Below.refl _ _⟩
  · exact chain_more pl b l r w hT hl hr hne hol hor hz
end Go.Proofs.YtldhbjmillfjgaaGreatDoor

namespace Go.Proofs.YtldhbjmillfjgaaGreatDoor
open Go.RowKit

/-- What each rune's closure keeps, and what holds where it has said no. -/
structure TakesS (W : World) (F : Nat) (cap : Array Value) (l : List (Nat × Nat)) (I Ix : List (Nat × Nat) → World → Prop) : Prop where
  enters : ∀ args w, (callFunc F args).run Tryz.prog w = .ok (.enter F args) w
  stays : ∀ done w w', I done w → Below w.heap.size w w' → I done w'
  step : ∀ done p rest, l = done ++ p :: rest → ∀ w, I done w → Below W.heap.size W w →
    Calls Tryz.prog F (#[.int .i32 p.1, .int .i64 p.2] ++ cap) w fun e w' => Below W.heap.size W w' ∧ ((e = .returned (.bool true) ∧ I (done ++ [p]) w') ∨ (e = .returned (.bool false) ∧ Ix (done ++ [p]) w'))

set_option maxHeartbeats 2000000 in
theorem each_stops (s : ByteArray) (hs : s.size ≤ maxLen) (F : Nat) (cap : Array Value) (W : World) (hT : Lib.Utf8Tabs 2 3 W) (I Ix : List (Nat × Nat) → World → Prop)
    (H : TakesS W F cap (scan s.data.toList).1 I Ix) (w : World) (hw : Below W.heap.size W w) (h0 : I [] w) :
    Calls Tryz.prog 54 #[.string s, .func (.func F) #[] cap] w fun e w' => (∃ v, e = .returned v) ∧ Below W.heap.size W w' ∧
      (I (scan s.data.toList).1 w' ∨ (∃ pre rest, (scan s.data.toList).1 = pre ++ rest ∧ Ix pre w')) := by
  unfold maxLen at hs
  have hent := H.enters
  go_enter Tryz.func54, Tryz.ntmps54
  go_wp2
  go_loopw [5, 6, 7, 12] (fun at_ _ _ _ wr => ∃ (k : Nat) (done : List (Nat × Nat)), k ≤ s.size ∧ at_ = .int .i64 k ∧ (scan s.data.toList).1 = done ++ (scan (s.data.toList.drop k)).1 ∧ I done wr ∧ Below W.heap.size W wr) (fun at_ _ _ _ _ => s.size - (intOf at_).toNat)
  case atStart => exact ⟨0, [], Nat.zero_le _, rfl, by rw [List.drop_zero]; rfl, h0, hw⟩
  case round =>
    obtain ⟨k, done, hk, rfl, hd1, hI, hwr⟩ := hrel
    have hTr := Go.Proofs.Utf8Tabs_below hT hwr
    by_cases hlt : k < s.size
    · have hne : s.data.toList.drop k ≠ [] := by
        intro e
        have := congrArg List.length e
        rw [List.length_drop, List.length_nil, ← Lib.size_eq] at this
        omega
      have hdec : Lib.decodeGo (s.extract k s.size) = dec (s.data.toList.drop k) := by
        unfold Lib.decodeGo
        rw [if_neg (by rw [ByteArray.size_extract]; omega), decode_dec]
      have hge := dec_ge1 (s.data.toList.drop k)
      have hle := dec_le hne
      have hle4 := dec_le4 (s.data.toList.drop k)
      have cD := Tryz.utf8_DecodeRuneInString (s.extract k s.size) wr hTr
      rw [hdec] at cD
      by_cases hb : badB (dec (s.data.toList.drop k)) = true
      · have hs2 := scan_bad hne hb
        have hfin : Hid (I (scan s.data.toList).1 wr) := by show I _ wr; rw [hd1, hs2, List.append_nil]; exact hI
        have hb' : (dec (s.data.toList.drop k)).1 = 65533 ∧ (dec (s.data.toList.drop k)).2 = 1 := badB_true hb
        rw [hb'.1, hb'.2] at cD
        clear hdec hge hle hle4 hb hb' hd1 hs2 hne hI
        go_wp2_with (first | (go_at_call 78; refine cD.mono ?_; rintro e w1 ⟨rfl, hb1⟩) | (go_at_call 79; refine (wrong_any _ _).mono ?_; rintro e w2 ⟨⟨v, rfl, hv⟩, hb2⟩) | fail)
        go_ret
        have hb12 : Below wr.heap.size wr w2 := hb1.trans (hb2.mono hb1.size)
        exact ⟨⟨_, rfl⟩, hwr.trans (hb12.mono hwr.size), .inl (H.stays _ _ _ hfin hb12)⟩
      · have hb : badB (dec (s.data.toList.drop k)) = false := Bool.eq_false_iff.2 hb
        have hs2 := scan_good hne hb
        have hl : (scan s.data.toList).1 = done ++ dec (s.data.toList.drop k) :: (scan ((s.data.toList.drop k).drop (dec (s.data.toList.drop k)).2)).1 := by rw [hd1, hs2]
        rw [List.drop_drop] at hl
        rw [List.length_drop, ← Lib.size_eq] at hle
        have hstep := H.step done _ _ hl
        obtain ⟨R, hR⟩ : ∃ R, R = (dec (s.data.toList.drop k)).1 := ⟨_, rfl⟩
        obtain ⟨K, hK⟩ : ∃ K, K = (dec (s.data.toList.drop k)).2 := ⟨_, rfl⟩
        have hp : dec (s.data.toList.drop k) = (R, K) := by rw [hR, hK]
        rw [hp] at cD hb hge hle hle4 hl hstep
        have hnext : Hid ((scan s.data.toList).1 = done ++ [(R, K)] ++ (scan (s.data.toList.drop (k + K))).1) := by
          show _ = _
          rw [hl, List.append_assoc]; rfl
        simp only [] at hge hle
        clear hdec hd1 hs2 hne hle4 hl hR hK hp
        have hbF := badB_false hb
        clear hb
        rcases hbF with hr | ⟨hr, hr2⟩
        · have hr0 : ((R : Int) == 65533) = false := by
            rw [beq_eq_false_iff_ne]
            intro e
            exact hr (by omega)
          clear hr
          go_wp2_with (first | (go_at_call 78; refine cD.mono ?_; rintro e w1 ⟨rfl, hb1⟩) | (go_at_fn F; refine (hstep w1 (H.stays _ _ _ hI hb1) (hwr.trans (hb1.mono hwr.size))).mono ?_; rintro e w2 ⟨hb2, ⟨rfl, hI2⟩ | ⟨rfl, hI2⟩⟩) | fail)
          · go_roundw
            case rel => exact ⟨k + K, done ++ [(R, K)], by omega, by go_num, hnext, hI2, hb2⟩
            case measure => simp [intOf]; omega
          · go_ret
            exact ⟨⟨_, rfl⟩, hb2, .inr ⟨_, _, hnext, hI2⟩⟩
        · have hr0 : ((K : Int) == 1) = false := by
            rw [beq_eq_false_iff_ne]
            intro e
            exact hr2 (by omega)
          subst hr
          clear hr2
          go_wp2_with (first | (go_at_call 78; refine cD.mono ?_; rintro e w1 ⟨rfl, hb1⟩) | (go_at_fn F; refine (hstep w1 (H.stays _ _ _ hI hb1) (hwr.trans (hb1.mono hwr.size))).mono ?_; rintro e w2 ⟨hb2, ⟨rfl, hI2⟩ | ⟨rfl, hI2⟩⟩) | fail)
          · go_roundw
            case rel => exact ⟨k + K, done ++ [(65533, K)], by omega, by go_num, hnext, hI2, hb2⟩
            case measure => simp [intOf]; omega
          · go_ret
            exact ⟨⟨_, rfl⟩, hb2, .inr ⟨_, _, hnext, hI2⟩⟩
    · have hend : s.data.toList.drop k = [] := List.drop_eq_nil_of_le (by rw [← Lib.size_eq]; omega)
      rw [hend, scan_nil] at hd1
      rw [List.append_nil] at hd1
      have hfin : Hid (I (scan s.data.toList).1 wr) := by show I _ wr; rw [hd1]; exact hI
      clear hd1 hend hTr
      go_wp2
      go_ret
      exact ⟨⟨_, rfl⟩, hwr, .inl hfin⟩
end Go.Proofs.YtldhbjmillfjgaaGreatDoor

namespace Go.Proofs.YtldhbjmillfjgaaGreatDoor
open Go.RowKit

/-- A round keeps all blocks from lo on that there were. -/
structure KeepUp (lo : Nat) (A B : World) : Prop where
  size : A.heap.size ≤ B.heap.size
  same : ∀ k, lo ≤ k → k < A.heap.size → B.heap[k]? = A.heap[k]?
theorem KeepUp.refl (lo : Nat) (A : World) : KeepUp lo A A := ⟨Nat.le_refl _, fun _ _ _ => rfl⟩
theorem KeepUp.trans {lo : Nat} {A B C : World} (h : KeepUp lo A B) (k : KeepUp lo B C) : KeepUp lo A C :=
  ⟨Nat.le_trans h.size k.size, fun i h1 h2 => (k.same i h1 (Nat.lt_of_lt_of_le h2 h.size)).trans (h.same i h1 h2)⟩
theorem KeepUp.of_below {lo : Nat} {A B : World} (h : Below A.heap.size A B) : KeepUp lo A B := ⟨h.size, fun k _ h2 => h.block k h2⟩
theorem KeepUp.setCell {lo : Nat} {A W : World} (h : KeepUp lo A W) {p : Addr} (hp : p.block < lo) (v : Value) : KeepUp lo A (W.setCell p v) :=
  h.trans ⟨by simp [World.setCell], fun k h1 _ => Below.heap_setCell W p v k (by omega)⟩
theorem KeepUp.alloc {lo : Nat} {A W : World} (h : KeepUp lo A W) (o : Obj) : KeepUp lo A (W.alloc o) :=
  h.trans ⟨by simp, fun k _ h2 => Below.heap_alloc W o k h2⟩
theorem KeepUp.drew {lo : Nat} {A W : World} (h : KeepUp lo A W) : KeepUp lo A W.drew := h.trans ⟨Nat.le_refl _, fun _ _ _ => rfl⟩
theorem KeepUp.putObj {lo r : Nat} (A : World) (o : Obj) (h : r < lo) : KeepUp lo A (A.putObj r o) :=
  ⟨by simp, fun k h1 _ => World.putObj_heap_other (by omega)⟩
theorem KeepUp.counted {lo : Nat} {A B : World} (h : KeepUp lo A B) {a : Nat} {n1 n2 n3 n4 : Int} (ha : lo ≤ a) (hc : counted A a n1 n2 n3 n4) : counted B a n1 n2 n3 n4 := by
  have hb := h.same a ha (counted_lt hc)
  have e1 : ∀ i, B.cell? ⟨a, i, none⟩ = A.cell? ⟨a, i, none⟩ := fun i => World.cell?_of_block (w := A) (a := ⟨a, i, none⟩) hb
  have e2 : ∀ i, B.frozen? ⟨a, i, none⟩ = A.frozen? ⟨a, i, none⟩ := fun i => World.frozen?_of_block (w := A) (a := ⟨a, i, none⟩) hb
  unfold Go.Proofs.YtldhbjmillfjgaaGreatDoor.counted
  rw [e1, e1, e1, e1, e2, e2, e2, e2]
  exact hc
theorem KeepUp.cell {lo : Nat} {A B : World} (h : KeepUp lo A B) {a i : Nat} {v : Value} (ha : lo ≤ a) (hc : A.cell? ⟨a, i, none⟩ = some v) : B.cell? ⟨a, i, none⟩ = some v := by
  have hb := h.same a ha (World.block_lt_of_cell? A _ hc)
  exact (World.cell?_of_block (w := A) (a := ⟨a, i, none⟩) hb).trans hc

/-- What a round is handed: what is counted ahead of its rune, and of it. -/
def walkArgs (pre : List (Nat × Nat)) (p : Nat × Nat) : Array Value :=
  #[cnt (sum1 pre) (sum2 pre) pre.length (sum4 pre), cnt p.2 (cH p.1) 1 (cL p.1)]

attribute [local go_sem] Oper.semAt_some

set_option maxRecDepth 100000 in
set_option maxHeartbeats 2000000 in
/-- The walk's own closure, at one rune. -/
theorem walk11_any (l : Nat) (b0 b1 lo : Nat) (h0 : lo ≤ b0) (h1 : lo ≤ b1) (hne : b0 ≠ b1) (r : Nat) (n n1 n2 n3 n4 : Int) (w : World) (hlw : lo ≤ w.heap.size) (hc : counted w b1 n1 n2 n3 n4) (hy : w.cell? ⟨b0, 0, none⟩ = some (.func (.yield l) #[] #[]))
    (R1 R0 : World → Prop)
    (hR : ∀ A, Below w.heap.size w A → YieldAt Fence.wide 0 Tryz.prog l #[cnt n1 n2 n3 n4, cnt n (cH r) 1 (cL r)] A fun e A' =>
      (e = .returned (.bool true) ∧ R1 A' ∧ KeepUp lo A A') ∨ (e = .returned (.bool false) ∧ R0 A' ∧ KeepUp lo A A')) :
    Calls Tryz.prog 101 #[.int .i32 r, .int .i64 n, .pointer (some ⟨b0, 0, none⟩), .pointer (some ⟨b1, 0, none⟩)] w fun e w' =>
      (e = .returned (.bool true) ∧ counted w' b1 (wrap64 (n1 + n)) (wrap64 (n2 + cH r)) (wrap64 (n3 + 1)) (wrap64 (n4 + cL r)) ∧ w'.cell? ⟨b0, 0, none⟩ = some (.func (.yield l) #[] #[]) ∧
        ∃ A', R1 A' ∧ Below lo A' w') ∨ (e = .returned (.bool false) ∧ R0 w') := by
  have hlt := counted_lt hc
  have hlt0 : b0 < w.heap.size := World.block_lt_of_cell? w _ hy
  have HC : Hid (counted w b1 n1 n2 n3 n4) := hc
  have cO := fun (w : World) => countsOf_any r n w
  generalize cH r = x2 at *
  generalize cL r = x4 at *
  generalize (r : Int) = R at cO ⊢
  unfold cnt at hR
  refine (callsIn_wide (n := 1)).1 ?_
  refine callsIn_of_wp Tryz.func101 rfl trivial ?_ rfl
  simp only [Tryz.ntmps101, List.size_toArray, List.length_cons, List.length_nil, Nat.reduceAdd, Nat.reduceSub, Array.replicate_succ, Array.replicate_zero, List.push_toArray, List.append_toArray, List.nil_append, List.cons_append]
  gi_wp2_with (first | (refine ⟨trivial, ?_⟩; gi_at_call 57; refine (callsIn_wide.2 (cO _)).mono ?_; rintro e w1 ⟨rfl, hb1⟩; have hb2 : Below w.heap.size w (w1.alloc (.cells #[.int .i64 n, .int .i64 x2, .int .i64 1, .int .i64 x4] 29)) := hb1.alloc hb1.size _; have HC2 := counted_old HC.out hb2 hlt; have HB : Hid (Below w.heap.size w (w1.alloc (.cells #[.int .i64 n, .int .i64 x2, .int .i64 1, .int .i64 x4] 29))) := hb2; obtain ⟨⟨a0, a1, a2, a3⟩, b0', b1', b2', b3'⟩ := HC2; have hy2 := (hb2.cell (p := ⟨b0, 0, none⟩) hlt0).trans hy; obtain ⟨fn, tmps, assign, body, hyy, hRd⟩ := hR _ hb2; clear hb2) | fail)
  refine hRd.mono ?_
  rintro e A' (⟨rfl, hR1, hk⟩ | ⟨rfl, hR0, hk⟩)
  · have HCA := hk.counted h1 (counted_old HC.out HB.out hlt)
    have HCN : counted (w1.alloc (.cells #[.int .i64 n, .int .i64 x2, .int .i64 1, .int .i64 x4] 29)) w1.heap.size n x2 1 x4 := by
      refine ⟨⟨?_, ?_, ?_, ?_⟩, ?_, ?_, ?_, ?_⟩ <;> simp [go_sem]
    have HCO := hk.counted (Nat.le_trans hlw hb1.size) HCN
    have hyA := hk.cell h0 hy2
    have HCA' : Hid (counted A' b1 n1 n2 n3 n4) := HCA
    have hyA' : Hid (A'.cell? ⟨b0, 0, none⟩ = some (.func (.yield l) #[] #[])) := hyA
    obtain ⟨⟨c0, c1, c2, c3⟩, d0, d1, d2, d3⟩ := HCA
    obtain ⟨⟨e0, e1, e2, e3⟩, f0, f1, f2, f3⟩ := HCO
    have hlA : b1 < A'.heap.size := counted_lt HCA'.out
    have hlA0 : b0 < A'.heap.size := World.block_lt_of_cell? A' _ hyA
    clear a0 a1 a2 a3 b0' b1' b2' b3' hy2 hyy hRd hy HC hc cO hR HCN hyA
    gi_wp2_with (first | (refine ⟨trivial, ?_⟩; gi_at_call 56; refine (callsIn_wide.2 (plus_any _ _ _ _ _ _ _ _ _)).mono ?_; rintro e w2 ⟨rfl, hb2⟩; have HC3 := counted_below HCA'.out hb2; have HC4 : Hid (counted w2 b1 n1 n2 n3 n4) := HC3; obtain ⟨⟨g0, g1, g2, g3⟩, k0, k1, k2, k3⟩ := HC3; have hB3 : Hid (Below A'.heap.size A' w2) := hb2; clear hb2) | fail)
    have hy3 : w2.cell? ⟨b0, 0, none⟩ = some (.func (.yield l) #[] #[]) := (hB3.out.cell (p := ⟨b0, 0, none⟩) hlA0).trans hyA'.out
    go_ret
    exact .inl ⟨rfl, counted_set HC4.out, by simp [go_sem, hy3], A', hR1, below_set (hB3.out.mono (Nat.le_of_lt (Nat.lt_of_le_of_lt h1 hlA))) h1 _ _ _ _⟩
  · gi_wp2
    go_ret
    exact .inr ⟨rfl, hR0⟩

theorem takes_walk (l : Nat) (b0 b1 lo : Nat) (h0 : lo ≤ b0) (h1 : lo ≤ b1) (hne : b0 ≠ b1) (W0 : World) (xs : List (Nat × Nat)) (hx : xs.length < 1000000000) (hx4 : ∀ p ∈ xs, p.2 ≤ 4) (J Jx : List (Nat × Nat) → World → Prop)
    (hz : ∀ pre A, J pre A → Below W0.heap.size W0 A) (hzx : ∀ pre A, Jx pre A → Below W0.heap.size W0 A) (hJ : ∀ pre A B, J pre A → Below lo A B → J pre B)
    (hR : ∀ pre x A, J pre A → (∃ rest, xs = pre ++ [x] ++ rest) → YieldAt Fence.wide 0 Tryz.prog l (walkArgs pre x) A fun e A' =>
      (e = .returned (.bool true) ∧ J (pre ++ [x]) A' ∧ KeepUp lo A A') ∨ (e = .returned (.bool false) ∧ Jx (pre ++ [x]) A' ∧ KeepUp lo A A')) :
    TakesS W0 101 #[.pointer (some ⟨b0, 0, none⟩), .pointer (some ⟨b1, 0, none⟩)] xs
      (fun done w => J done w ∧ lo ≤ w.heap.size ∧ counted w b1 (sum1 done) (sum2 done) (done.length : Int) (sum4 done) ∧ w.cell? ⟨b0, 0, none⟩ = some (.func (.yield l) #[] #[]))
      (fun done w => Jx done w) where
  enters := enters_of Tryz.func101 (by kernel_rfl) rfl
  stays := fun done w w' hI hb => ⟨hJ _ _ _ hI.1 (hb.mono hI.2.1), Nat.le_trans hI.2.1 hb.size, counted_below hI.2.2.1 hb, (hb.cell (p := ⟨b0, 0, none⟩) (World.block_lt_of_cell? w _ hI.2.2.2)).trans hI.2.2.2⟩
  step := fun done p rest e w hI hw => by
    obtain ⟨hj, hlw, hc, hy⟩ := hI
    have hlen := congrArg List.length e
    rw [List.length_append] at hlen
    have k1 := sum1_le done fun q hq => hx4 q (by rw [e]; simp [hq])
    have k2 := sum2_le done
    have k4 := sum4_le done
    have hp := hx4 p (by rw [e]; simp)
    have hp2 := cH_le p.1
    have hp4 := cL_le p.1
    refine (walk11_any l b0 b1 lo h0 h1 hne p.1 p.2 _ _ _ _ w hlw hc hy (J (done ++ [p])) (Jx (done ++ [p])) fun A hb => hR done p A (hJ _ _ _ hj (hb.mono hlw)) ⟨rest, by rw [e]; simp⟩).mono ?_
    rintro e' w' (⟨rfl, c, hy', A', hj', hb'⟩ | ⟨rfl, hj'⟩)
    · rw [wrap64_small (by omega) (by omega), wrap64_small (by omega) (by omega), wrap64_small (by omega) (by omega), wrap64_small (by omega) (by omega)] at c
      have e1 : sum1 (done ++ [p]) = sum1 done + p.2 := by simp [sum1]
      have e2 : sum2 (done ++ [p]) = sum2 done + cH p.1 := by simp [sum2]
      have e3 : (((done ++ [p]).length : Nat) : Int) = done.length + 1 := by simp
      have e4 : sum4 (done ++ [p]) = sum4 done + cL p.1 := by simp [sum4]
      have hJw := hJ _ _ _ hj' hb'
      refine ⟨hz _ _ hJw, .inl ⟨rfl, hJw, Nat.le_trans h1 (Nat.le_of_lt (counted_lt c)), ?_, hy'⟩⟩
      rw [e1, e2, e3, e4]
      exact c
    · exact ⟨hzx _ _ hj', .inr ⟨rfl, hj'⟩⟩

theorem yield_not_nil (l : Nat) (w : World) : (binOp .eql 156 (.func (.yield l) #[] #[]) .nilFunc).run Tryz.prog w = .ok (.bool false) w := by kernel_rfl

set_option maxRecDepth 100000 in
set_option maxHeartbeats 2000000 in
/-- The iterator of Walk, called with a loop's yield. -/
theorem walk_seq (s : ByteArray) (hs : s.size < 400000000) (W0 : World) (hT : Lib.Utf8Tabs 2 3 W0) (sb : Nat) (W : World) (hsb : W.cell? ⟨sb, 0, none⟩ = some (.string s)) :
    SeqOwn Tryz.prog 100 #[.pointer (some ⟨sb, 0, none⟩)] walkArgs (Below W.heap.size) (KeepUp W.heap.size) (Below W0.heap.size W0)
      (fun xs => xs = (scan s.data.toList).1) (fun pre => ∃ rest, (scan s.data.toList).1 = pre ++ rest) W := by
  intro l J Jx hz hzx hJ hJx hR hj0
  have hlen := scan_len s.data.toList
  rw [← Lib.size_eq] at hlen
  have hW := hz _ _ hj0
  have hlt := World.block_lt_of_cell? W _ hsb
  have hb2 : Below W.heap.size W ((W.alloc (.cells #[.func (.yield l) #[] #[]] 156)).alloc (.cells #[.int .i64 0, .int .i64 0, .int .i64 0, .int .i64 0] 29)) :=
    ((Below.refl _ W).alloc (Nat.le_refl _) _).alloc (by rw [World.size_alloc]; exact Nat.le_succ _) _
  have cE := each_stops s (by unfold maxLen; omega) 101 #[.pointer (some ⟨W.heap.size, 0, none⟩), .pointer (some ⟨W.heap.size + 1, 0, none⟩)] W0 hT _ _
    (takes_walk l W.heap.size (W.heap.size + 1) W.heap.size (Nat.le_refl _) (Nat.le_succ _) (by omega) W0 (scan s.data.toList).1 (by omega) (scan_w4 _) J Jx hz hzx hJ hR) _ (hz _ _ (hJ _ _ _ hj0 hb2))
    ⟨hJ _ _ _ hj0 hb2, hb2.size, (by refine ⟨⟨?_, ?_, ?_, ?_⟩, ?_, ?_, ?_, ?_⟩ <;> simp [go_sem, sum1, sum2, sum4]), (by simp [go_sem])⟩
  have hs2 := (((Below.refl _ W).alloc (Nat.le_refl _) (.cells #[.func (.yield l) #[] #[]] 156)).cell (p := ⟨sb, 0, none⟩) hlt).trans hsb
  have hs3 := (hb2.cell (p := ⟨sb, 0, none⟩) hlt).trans hsb
  clear hb2 hR hj0 hW hlen hs
  have hnil : ∀ w, (binOp .eql 156 (.func (.yield l) #[] #[]) .nilFunc).run Tryz.prog w = .ok (.bool false) w := fun w => yield_not_nil l w
  refine callsIn_wide.2 ?_
  simp only [List.append_toArray, List.cons_append, List.nil_append]
  go_enter Tryz.func100, Tryz.ntmps100
  go_wp2_with (first | (go_at_call 54; refine cE.mono ?_; rintro e w1 ⟨⟨v, rfl⟩, hb1, ⟨hj1, _⟩ | ⟨pre, rest, e1, hj1⟩⟩) | fail)
  · go_end0
    exact ⟨⟨_, rfl⟩, .inl ⟨_, rfl, hj1⟩⟩
  · go_end0
    exact ⟨⟨_, rfl⟩, .inr ⟨pre, ⟨rest, e1⟩, hj1⟩⟩
end Go.Proofs.YtldhbjmillfjgaaGreatDoor

namespace Go.Proofs.YtldhbjmillfjgaaGreatDoor
open Go.RowKit
set_option linter.unusedVariables false

/-- What the first i runes count. -/
def edge1 (rs : List Nat) (i : Nat) : Int := (encs (rs.take i)).length
def edge2 (rs : List Nat) (i : Nat) : Int := (halRow (rs.take i)).length
def edge4 (rs : List Nat) (i : Nat) : Int := Lib.countByte (encs (rs.take i)) 10
def edge (rs : List Nat) (i : Nat) : List Value := [.int .i64 (edge1 rs i), .int .i64 (edge2 rs i), .int .i64 i, .int .i64 (edge4 rs i)]
def edges (rs : List Nat) (m : Nat) : List Value := (List.range m).flatMap (edge rs)
theorem edges_succ (rs : List Nat) (m : Nat) : edges rs (m + 1) = edges rs m ++ edge rs m := by simp [edges, List.range_succ]

theorem info36 : (Tryz.prog.info? 29).map (fun i => (i.zero, i.size, i.bytes)) = some (some (.agg #[.int .i64 0, .int .i64 0, .int .i64 0, .int .i64 0]), 4, 32) := by kernel_rfl
theorem cell_four_new (w : World) (a b c d : Value) (t : TypeId) : ∀ j u, [a, b, c, d][j]? = some u → (w.alloc (.cells #[a, b, c, d] t)).cell? ((⟨w.heap.size, 0, none⟩ : Addr).add j) = some u := by
  intro j u hj
  match j, hj with
  | 0, hj => simp at hj; subst hj; simp [Addr.add]
  | 1, hj => simp at hj; subst hj; simp [Addr.add]
  | 2, hj => simp at hj; subst hj; simp [Addr.add]
  | 3, hj => simp at hj; subst hj; simp [Addr.add]

theorem take_extract (s : ByteArray) (k : Nat) : (s.extract 0 k).data.toList = s.data.toList.take k := by
  rw [Lib.extract_data, List.drop_zero, Nat.sub_zero]

/-- What Count tells of the first runes. -/
theorem count_take (s : ByteArray) (hs : s.size < 100000000) (rs : List Nat) (he : encs rs = s.data.toList) (hr : ∀ r ∈ rs, isRune r) (i : Nat) (hi : i ≤ rs.length) (w : World) :
    Calls Tryz.prog 6 #[.string (s.extract 0 (encs (rs.take i)).length)] w fun e w' => e = .returned (.tuple #[.agg #[.int .i64 (edge1 rs i), .int .i64 (edge2 rs i), .int .i64 i, .int .i64 (edge4 rs i)], .agg #[.int .i64 0, .int .i64 (-1)]]) ∧ Below w.heap.size w w' := by
  have hl : (s.extract 0 (encs (rs.take i)).length).data.toList = encs (rs.take i) := by
    rw [take_extract, ← he]
    have e : encs rs = encs (rs.take i) ++ encs (rs.drop i) := by rw [← encs_append, List.take_append_drop]
    rw [e, List.take_left]
  have hri : ∀ r ∈ rs.take i, isRune r := fun r h => hr r (List.mem_of_mem_take h)
  have hsc := scan_encs (rs.take i) hri
  have hro : runesOf (encs (rs.take i)) = rs.take i := by
    unfold runesOf
    rw [hsc]
    simp [wide, List.map_map, Function.comp_def]
  have hsz : (s.extract 0 (encs (rs.take i)).length).size = (encs (rs.take i)).length := by rw [Lib.size_eq, hl]
  have hlt : (s.extract 0 (encs (rs.take i)).length).size < 100000000 := by rw [ByteArray.size_extract]; omega
  refine (refCount_good _ hlt w (by rw [hl, hsc])).mono ?_
  rintro e w' ⟨hb, rfl⟩
  refine ⟨?_, hb⟩
  rw [hsz, hl, hro, List.length_take, Nat.min_eq_left hi]
  rfl

set_option maxRecDepth 100000 in
set_option maxHeartbeats 4000000 in
theorem refEdges_any (s : ByteArray) (hs : s.size < 100000000) (w : World) (hok : (scan s.data.toList).2 = true) :
    Calls Tryz.prog 44 #[.string s] w fun e w' => ∃ v, e = .returned v ∧ w'.ownsRow w.heap.size 29 4 v ((runesOf s.data.toList).length + 1) (edges (runesOf s.data.toList) ((runesOf s.data.toList).length + 1)) ∧ Below w.heap.size w w' := by
  have hru : ∀ r ∈ runesOf s.data.toList, isRune r := fun r h => runesOf_rune h
  have he := encs_runesOf hok
  have hrl : (runesOf s.data.toList).length < 100000000 := by
    have := scan_len s.data.toList
    rw [← Lib.size_eq] at this
    unfold runesOf
    rw [List.length_map]
    omega
  have cR : ∀ w, Calls Tryz.prog 28 #[.string s] w fun e w' => Below w.heap.size w w' ∧ ∃ p c, e = .returned (.tuple #[.slice p (runesOf s.data.toList).length c, .agg #[.int .i64 0, .int .i64 (-1)]]) ∧ reads w' .i32 (.slice p (runesOf s.data.toList).length c) (toI (runesOf s.data.toList)) := fun w => by
    refine (refRunes_any s hs w).mono ?_
    rintro e w' ⟨hb, ⟨_, v, rfl, p, c, rfl, hown⟩ | ⟨h, _⟩⟩
    · have e1 : cellsOf21 (scan s.data.toList).1 = (toI (runesOf s.data.toList)).map (Value.int .i32) := by rw [scan_wide, cells21_toI]
      have e2 : (cellsOf21 (scan s.data.toList).1).length = (toI (runesOf s.data.toList)).length := by rw [e1, List.length_map]
      have e3 : (toI (runesOf s.data.toList)).length = (runesOf s.data.toList).length := by simp [toI]
      rw [e2] at hown
      rw [e2, ← e3]
      exact ⟨hb, p, c, rfl, reads_own e1 hown⟩
    · rw [hok] at h; cases h
  clear hok
  generalize runesOf s.data.toList = rs at *
  have hel : ∀ i, (encs (rs.take i)).length ≤ s.size := fun i => by
    have e : encs rs = encs (rs.take i) ++ encs (rs.drop i) := by rw [← encs_append, List.take_append_drop]
    have := congrArg List.length (he.symm.trans e)
    rw [List.length_append, ← Lib.size_eq] at this
    omega
  have HC : Hid (∀ i, i ≤ rs.length → ∀ w, _) := fun i hi w => count_take s hs rs he hru i hi w
  have HEL : Hid _ := hel
  have HRU : Hid (∀ r ∈ rs, isRune r) := hru
  obtain ⟨n, hn⟩ : ∃ n, n = rs.length := ⟨_, rfl⟩
  rw [← hn] at cR hrl ⊢
  have HN : Hid (n = rs.length) := hn
  clear hru hn he hel
  obtain ⟨i0, hi, hz0, hz1, hz2⟩ := info_parts info36
  go_enter Tryz.func44, Tryz.ntmps44
  go_wp2_with (first | (go_at_call 28; refine (cR _).mono ?_; rintro e w1 ⟨hb1, p, c, rfl, hrd⟩; have HRD : Hid (reads w1 .i32 (.slice p n c) (toI rs)) := hrd; clear hrd) | fail)
  go_loopw [5, 6, 20] (fun b t i wr => ∃ (k : Nat), k ≤ n ∧ i = .int .i64 k ∧ t = .int .i64 (edge1 rs k) ∧ wr.ownsRow w1.heap.size 29 4 b (k + 1) (edges rs (k + 1)) ∧ Below w1.heap.size w1 wr) (fun _ _ i _ => n - (intOf i).toNat)
  case atStart =>
    refine ⟨0, Nat.zero_le _, rfl, rfl, ⟨by simp [edges, edge], .inr ⟨w1.heap.size + 1, 1, #[.int .i64 0, .int .i64 0, .int .i64 0, .int .i64 0], rfl, Nat.le_succ _, by rw [← World.size_alloc w1 _]; exact World.alloc_heap_new (w1.alloc _) _, Nat.le_refl _, by unfold maxLen; omega, rfl, rfl⟩⟩, ((Below.refl _ w1).alloc (Nat.le_refl _) _).alloc (by rw [World.size_alloc]; exact Nat.le_succ _) _⟩
  case round =>
    obtain ⟨k, hk, rfl, rfl, hown, hwr⟩ := hrel
    by_cases hlt : k < n
    · have hkr : k < rs.length := by rw [← HN.out]; exact hlt
      have hrd := reads_below HRD.out hwr (Nat.le_refl _)
      obtain ⟨p', c', hpc, a1, a2, a3⟩ := hrd
      have hne : toI rs ≠ [] := by
        intro e
        have := congrArg List.length e
        simp [toI] at this
        rw [this] at hkr
        exact absurd hkr (Nat.not_lt_zero _)
      obtain ⟨b, o, hp, hbw, hcell⟩ := a3 hne
      have hlen : (toI rs).length = rs.length := by simp [toI]
      have hc := hcell k (by rw [hlen]; exact hkr)
      have hze : (toI rs).getD k 0 = (rs[k] : Int) := by
        rw [List.getD_eq_getElem?_getD, toI, List.getElem?_map, List.getElem?_eq_getElem hkr]; rfl
      rw [hze] at hc
      obtain ⟨hp1, hp2, hp3⟩ := Value.slice.inj hpc
      clear hp2
      subst hp3
      subst hp1
      subst hp
      have hr := HRU.out rs[k] (List.getElem_mem _)
      have hts : rs.take (k + 1) = rs.take k ++ [rs[k]] := List.take_succ_eq_append_getElem hkr
      have h1 : (encs (rs.take (k + 1))).length = (encs (rs.take k)).length + (⟨(enc rs[k]).toArray⟩ : ByteArray).size := by
        rw [hts, encs_append, List.length_append, Lib.size_eq]
        simp [encs]
      have hE : (encs (rs.take (k + 1))).length ≤ s.size := HEL.out (k + 1)
      have cB := Bytes_any rs[k] hr
      have cC := HC.out (k + 1) hkr
      have hes : edges rs (k + 1 + 1) = edges rs (k + 1) ++ edge rs (k + 1) := edges_succ rs (k + 1)
      unfold edge at hes
      have hE1 : Hid (edge1 rs (k + 1) = ((encs (rs.take (k + 1))).length : Int)) := rfl
      have hE0 : edge1 rs k = ((encs (rs.take k)).length : Int) := rfl
      rw [hE1.out] at cC hes
      rw [hE0]
      clear hE0 a1 a2 a3 hcell hne hze hts hr hlen hpc
      generalize (⟨(enc rs[k]).toArray⟩ : ByteArray) = u at cB h1
      generalize (rs[k] : Int) = z at cB hc
      clear hkr
      generalize (encs (rs.take (k + 1))).length = N1 at *
      generalize (encs (rs.take k)).length = N0 at *
      generalize edge2 rs (k + 1) = A2 at *
      generalize edge4 rs (k + 1) = A4 at *
      have hE2 : N0 + u.size ≤ s.size := by omega
      have cC2 : ∀ w, Calls Tryz.prog 6 #[.string (s.extract 0 (N0 + u.size))] w fun e w' => e = .returned (.tuple #[.agg #[.int .i64 (N1 : Int), .int .i64 A2, .int .i64 ((k + 1 : Nat) : Int), .int .i64 A4], .agg #[.int .i64 0, .int .i64 (-1)]]) ∧ Below w.heap.size w w' := by
        rw [← h1]; exact cC
      have H1 : Hid (N1 = N0 + u.size) := h1
      clear cC h1 hE
      have hw1 := hwr.size
      have NX : Hid (∀ w0 w2 v' o, Below wr.heap.size wr w0 → w2.ownsRow w1.heap.size 29 4 v' (k + 1 + 1) (edges rs (k + 1) ++ [.int .i64 N1, .int .i64 A2, .int .i64 ((k + 1 : Nat) : Int), .int .i64 A4]) → (w0.alloc o).grownBy w2 (u5).ownBlock →
          w2.ownsRow w1.heap.size 29 4 v' (k + 1 + 1) (edges rs (k + 1 + 1)) ∧ Below w1.heap.size w1 w2) := by
        intro w0 w2 v' o hb0 h3 hg
        have hB : Below w1.heap.size wr w2 := ((hb0.mono hw1).alloc (Nat.le_trans hw1 hb0.size) o).grown hg (by rw [World.size_alloc]; have := hb0.size; omega) fun k hk => (hown.lt k hk).1
        exact ⟨by rw [hes]; exact h3, hwr.trans hB⟩
      obtain ⟨pb, cb, rfl⟩ := own_slice hown
      clear hes
      generalize edges rs (k + 1) = xs at hown NX
      go_wp2_with (first | (go_at_call 74; refine (cB _).mono ?_; rintro e w2 ⟨rfl, hb2⟩) | (go_at_call 6; refine (cC2 _).mono ?_; rintro e w3 ⟨rfl, hb3⟩; have HBB : Below wr.heap.size wr w3 := hb2.trans (hb3.mono hb2.size)) | (at_builtin; refine wpList_append_own _ rfl _ _ 93 rfl w1.heap.size 29 i0 (.agg #[.int .i64 0, .int .i64 0, .int .i64 0, .int .i64 0]) 4 32 Tryz.underlying93 hi hz0 hz1 hz2 rfl (by decide) _ (k + 1) xs rfl ((((own_below hown HBB).alloc _).alloc _).alloc _) _ 1 1 [.int .i64 N1, .int .i64 A2, .int .i64 ((k : Int) + 1), .int .i64 A4] rfl rfl ?c1 ?c2 ?c3 ?c4 ?c5 ?_) | fail)
      case c1 =>
        intro j u hj
        match j, hj with
        | 0, hj => simp at hj; subst hj; simp [Addr.add, go_sem]
        | 1, hj => simp at hj; subst hj; simp [Addr.add, go_sem]
        | 2, hj => simp at hj; subst hj; simp [Addr.add, go_sem]
        | 3, hj => simp at hj; subst hj; simp [Addr.add, go_sem]
      case c2 => simp [Value.oneCell']
      case c3 => unfold maxLen; omega
      case c4 => omega
      case c5 =>
        have := HBB.size
        simp
        omega
      intro v' w4 hown4 hg _
      have hR := NX.out ((w3.alloc _).alloc _) w4 v' _ (HBB.alloc HBB.size _ |>.alloc (by rw [World.size_alloc]; have := HBB.size; omega) _) hown4 hg
      obtain ⟨R1, R2⟩ := hR
      obtain ⟨p9, c9, hv⟩ := own_slice hown4
      clear hown4 hg hown hi hz0 hz1 hz2 hc cB cC2 HBB hb2 hb3
      rw [hv] at R1 ⊢
      go_wp2
      go_roundw
      case rel => exact ⟨k + 1, by omega, by go_num, by rw [hE1.out, H1.out]; go_num, R1, R2⟩
      case measure => simp [intOf]; omega
    · have hkn : k = n := by omega
      subst hkn
      obtain ⟨pb, cb, rfl⟩ := own_slice hown
      have HO : Hid _ := hown
      clear hown
      go_wp2
      go_ret
      exact ⟨_, rfl, own_mono HO.out hb1.size, hb1.trans (hwr.mono hb1.size)⟩
end Go.Proofs.YtldhbjmillfjgaaGreatDoor

namespace Go.Proofs.YtldhbjmillfjgaaGreatDoor
open Go.RowKit

/-- An edge, by what is counted ahead of it. -/
theorem edge_sums {rs : List Nat} (hr : ∀ r ∈ rs, isRune r) {pre rest : List (Nat × Nat)} (h : wide rs = pre ++ rest) :
    edge rs pre.length = [.int .i64 (sum1 pre), .int .i64 (sum2 pre), .int .i64 pre.length, .int .i64 (sum4 pre)] := by
  have hp : pre = wide (rs.take pre.length) := by
    have := congrArg (List.take pre.length) h
    rw [List.take_left] at this
    unfold wide at this ⊢
    rw [List.map_take]
    exact this.symm
  have hrt : ∀ r ∈ rs.take pre.length, isRune r := fun r hm => hr r (List.mem_of_mem_take hm)
  have e1 := sum1_wide (rs.take pre.length)
  have e2 := sum2_wide (rs.take pre.length)
  have e4 := sum4_wide hrt
  rw [← hp] at e1 e2 e4
  unfold edge edge1 edge2 edge4
  rw [e1, e2, e4]

theorem sums_snoc (pre : List (Nat × Nat)) (x : Nat × Nat) : sum1 (pre ++ [x]) = sum1 pre + x.2 ∧ sum2 (pre ++ [x]) = sum2 pre + cH x.1 ∧ sum4 (pre ++ [x]) = sum4 pre + cL x.1 := by
  simp [sum1, sum2, sum4]

theorem edges_len (rs : List Nat) (m : Nat) : (edges rs m).length = m * 4 := by
  induction m with
  | zero => rfl
  | succ m ih => rw [edges_succ, List.length_append, ih]; simp [edge]; omega
theorem edges_get (rs : List Nat) (m i j : Nat) (hi : i < m) (hj : j < 4) : (edges rs m)[i * 4 + j]? = (edge rs i)[j]? := by
  induction m with
  | zero => omega
  | succ m ih =>
    rw [edges_succ]
    by_cases h : i < m
    · rw [List.getElem?_append_left (by rw [edges_len]; omega)]
      exact ih h
    · have : i = m := by omega
      subst this
      rw [List.getElem?_append_right (by rw [edges_len]; omega), edges_len]
      congr 1
      omega

/-- The cells of an edge in memory. -/
theorem edge_cell {w : World} {B m g c : Nat} {rs : List Nat} (h : w.ownsRow B 29 4 (.slice (some ⟨g, 0, none⟩) m c) m (edges rs m)) (i j : Nat) (hi : i < m) (hj : j < 4) {v : Value} (hv : (edge rs i)[j]? = some v) :
    w.cell? ⟨g, i * 4 + j, none⟩ = some v := by
  obtain ⟨h0, hrow⟩ := h
  rcases hrow with ⟨h1, h2⟩ | ⟨g', cap, cur, h1, h2, h3, h4, h5, h6, h7⟩
  · omega
  · cases h1
    have hlt : i * 4 + j < m * 4 := by omega
    have hc : cur[i * 4 + j]? = some v := by
      rw [← Array.getElem?_toList]
      have := congrArg (·[i * 4 + j]?) h7
      simp only [List.getElem?_take, hlt, if_true] at this
      rw [this, edges_get rs m i j hi hj, hv]
    unfold World.cell?
    simp [h3, hc]

theorem own_pos {w : World} {B e size n : Nat} {v : Value} {xs : List Value} (h : w.ownsRow B e size v n xs) (hn : 0 < n) : ∃ g c, v = .slice (some ⟨g, 0, none⟩) n c ∧ B ≤ g ∧ g < w.heap.size := by
  rcases h.2 with ⟨_, h2⟩ | ⟨g, cap, cur, h1, h2, h3, _⟩
  · omega
  · exact ⟨g, cap, h1, h2, (Array.getElem?_eq_some_iff.1 h3).1⟩

/-- A variable in the one but last of three new blocks is written. -/
theorem below_turn {A W : World} {o1 o3 : Obj} {x y : Value} {t : TypeId} (h : Below (A.heap.size + 3) (((A.alloc o1).alloc (.cells #[x] t)).alloc o3) W) :
    Below (A.heap.size + 3) (((A.alloc o1).alloc (.cells #[y] t)).alloc o3) (W.setCell ⟨A.heap.size + 1, 0, none⟩ y) := by
  refine ⟨h.os, h.tape, h.output, by have := h.size; simp at this ⊢; omega, fun k hk => ?_⟩
  have hb := h.block k hk
  by_cases e : k = A.heap.size + 1
  · subst e
    have e1 : ∀ z, (((A.alloc o1).alloc (.cells #[z] t)).alloc o3).heap[A.heap.size + 1]? = some (.cells #[z] t) := fun z => by
      rw [Below.heap_alloc _ _ _ (by simp)]
      have := World.alloc_heap_new (A.alloc o1) (.cells #[z] t)
      rwa [World.size_alloc] at this
    rw [e1] at hb ⊢
    obtain ⟨hlt, hb'⟩ := Array.getElem?_eq_some_iff.1 hb
    simp only [World.setCell, Array.getElem?_modify, if_true, hb]
    rfl
  · rw [Below.heap_setCell _ _ _ _ e, hb]
    have e2 : ∀ z z', k ≠ A.heap.size + 1 → (((A.alloc o1).alloc (.cells #[z] t)).alloc o3).heap[k]? = (((A.alloc o1).alloc (.cells #[z'] t)).alloc o3).heap[k]? := fun z z' hne => by
      by_cases h2 : k = A.heap.size + 2
      · subst h2
        have e3 : ∀ z, (((A.alloc o1).alloc (.cells #[z] t)).alloc o3).heap[A.heap.size + 2]? = some o3 := fun z => by
          have := World.alloc_heap_new ((A.alloc o1).alloc (.cells #[z] t)) o3
          rwa [World.size_alloc, World.size_alloc] at this
        rw [e3, e3]
      · have e4 : ∀ z, (((A.alloc o1).alloc (.cells #[z] t)).alloc o3).heap[k]? = (A.alloc o1).heap[k]? := fun z =>
          (Below.heap_alloc _ _ _ (by rw [World.size_alloc, World.size_alloc]; omega)).trans (Below.heap_alloc _ _ _ (by rw [World.size_alloc]; omega))
        rw [e4, e4]
    exact e2 _ _ e

/-- The runes ahead of the first bad byte are a sound text's. -/
theorem scan_place (s : ByteArray) (_h : (scan s.data.toList).2 = false) : place s.data.toList ≤ s.size ∧ (scan (s.extract 0 (place s.data.toList)).data.toList).2 = true ∧ runesOf (s.extract 0 (place s.data.toList)).data.toList = runesOf s.data.toList := by
  obtain ⟨h0, t, h1, _, _⟩ := scan_spec s.data.toList.length s.data.toList (Nat.le_refl _)
  have hl : (encs (runesOf s.data.toList)).length = place s.data.toList := by
    have e := sum1_wide (runesOf s.data.toList)
    rw [← scan_wide] at e
    unfold place
    have : ∀ l : List (Nat × Nat), sum1 l = (((l.map (·.2)).sum : Nat) : Int) := fun l => by
      induction l with
      | nil => rfl
      | cons p l ih => unfold sum1 at ih ⊢; rw [List.map_cons, List.sum_cons, ih, List.map_cons, List.sum_cons]; push_cast; rfl
    rw [this] at e
    omega
  have h1' : s.data.toList = encs (runesOf s.data.toList) ++ t := h1
  have hle : place s.data.toList ≤ s.size := by
    have := congrArg List.length h1'
    rw [List.length_append, hl, ← Lib.size_eq] at this
    omega
  have hx : (s.extract 0 (place s.data.toList)).data.toList = encs (runesOf s.data.toList) := by
    rw [take_extract, ← hl]
    have := congrArg (List.take (encs (runesOf s.data.toList)).length) h1'
    rw [List.take_left] at this
    exact this
  have hsc := scan_encs (runesOf s.data.toList) fun r hr => runesOf_rune hr
  rw [hx]
  refine ⟨hle, by rw [hsc], ?_⟩
  generalize runesOf s.data.toList = R at hsc
  show (scan (encs R)).1.map (·.1) = R
  rw [hsc]
  simp [wide, Function.comp_def]
end Go.Proofs.YtldhbjmillfjgaaGreatDoor

namespace Go.Proofs.YtldhbjmillfjgaaGreatDoor
open Go.RowKit
set_option linter.unusedVariables false
attribute [local go_sem] Oper.semAt_some yieldsUpon okUpon

theorem Walk_one (s : ByteArray) (w : World) : Calls Tryz.prog 89 #[.string s] w fun e w' => e = .returned (.func (.func 100) #[] #[.pointer (some ⟨w.heap.size, 0, none⟩)]) ∧ w' = w.alloc (.cells #[.string s] 9) := by
  go_enter Tryz.func89, Tryz.ntmps89
  go_wp2
  go_ret
  exact ⟨rfl, rfl⟩

/-- What some runes count, as a value. -/
def cntV (rs : List Nat) : Value := .agg #[.int .i64 (C1 rs), .int .i64 (C2 rs), .int .i64 (C3 rs), .int .i64 (C4 rs)]

/-- The least beginning, with one rune at least behind pre, that is enough. -/
def seek (f : List Nat → Bool) : List Nat → List Nat → Option (List Nat)
  | _, [] => none
  | pre, r :: rs => if f (pre ++ [r]) then some (pre ++ [r]) else seek f (pre ++ [r]) rs
theorem seek_none (f : List Nat → Bool) : ∀ (c1 pre c2 : List Nat), seek f pre c1 = none → seek f pre (c1 ++ c2) = seek f (pre ++ c1) c2
  | [], pre, c2, _ => by simp
  | r :: c1, pre, c2, h => by
    simp only [seek] at h
    by_cases hf : f (pre ++ [r]) = true
    · rw [if_pos hf] at h; cases h
    · rw [if_neg hf] at h
      rw [List.cons_append, seek, if_neg hf, seek_none f c1 (pre ++ [r]) c2 h]
      simp

/-- What a closure answers of counts, in all worlds behind W. -/
def asks (W : World) (F : Nat) (cap : Array Value) (f : List Nat → Bool) : Prop :=
  (∀ args w, (callFunc F args).run Tryz.prog w = .ok (.enter F args) w) ∧
  ∀ rs wx, C1 rs ≤ 200000000 → Below W.heap.size W wx → Calls Tryz.prog F (#[cntV rs] ++ cap) wx fun e w' => e = .returned (.bool (f rs)) ∧ Below wx.heap.size wx w'

theorem wide_cut {c : List Nat} {pre : List (Nat × Nat)} {x : Nat × Nat} {rest : List (Nat × Nat)} (h : wide c = pre ++ x :: rest) : ∃ c1 r c2, c = c1 ++ r :: c2 ∧ pre = wide c1 ∧ x = (r, (enc r).length) := by
  induction pre generalizing c with
  | nil =>
    cases c with
    | nil => simp [wide] at h
    | cons r c2 => simp only [wide, List.map_cons, List.nil_append, List.cons.injEq] at h; exact ⟨[], r, c2, rfl, rfl, h.1.symm⟩
  | cons p pre ih =>
    cases c with
    | nil => simp [wide] at h
    | cons a c =>
      simp only [wide, List.map_cons, List.cons_append, List.cons.injEq] at h
      obtain ⟨c1, r, c2, h1, h2, h3⟩ := ih (c := c) h.2
      exact ⟨a :: c1, r, c2, by rw [h1]; rfl, by rw [← h.1, h2]; rfl, h3⟩

theorem plus_cnt (a b : List Nat) (hz : C1 (a ++ b) ≤ 200000000) (w : World) : Calls Tryz.prog 56 #[cntV a, cntV b] w fun e w' => e = .returned (cntV (a ++ b)) ∧ Below w.heap.size w w' := by
  have h := plus_any (C1 a) (C2 a) (C3 a) (C4 a) (C1 b) (C2 b) (C3 b) (C4 b) w
  rw [C1_append] at hz
  have a2 := C2_le a
  have a3 := C3_le a
  have a4 := C4_le a
  have b2 := C2_le b
  have b3 := C3_le b
  have b4 := C4_le b
  rw [wrap64_small (by omega) (by omega), wrap64_small (by omega) (by omega), wrap64_small (by omega) (by omega), wrap64_small (by omega) (by omega), ← C1_append, ← C2_append, ← C3_append, ← C4_append] at h
  exact h
theorem walkArgs_cut (c1 : List Nat) (r : Nat) : walkArgs (wide c1) (r, (enc r).length) = #[cntV c1, cntV [r]] := by
  simp [walkArgs, cnt, cntV, C1, C2, C3, C4, wide, sum1, sum2, sum4]

set_option maxRecDepth 100000 in
set_option maxHeartbeats 4000000 in
theorem within_any (f : List Nat → Bool) (F : Nat) (cap : Array Value) (fs c : List Nat) (hc : ∀ r ∈ c, isRune r) (hz : C1 (fs ++ c) ≤ 100000000) (w : World) (hT : Lib.Utf8Tabs 2 3 w) (hE : asks w F cap f) :
    Calls Tryz.prog 75 #[cntV fs, .string (bytesOf c), .func (.func F) #[] cap] w fun e w' => e = .returned (cntV ((seek f fs c).getD fs)) ∧ Below w.heap.size w w' := by
  have HC : Hid (∀ r ∈ c, isRune r) := hc
  have HZ : Hid (C1 (fs ++ c) ≤ 100000000) := hz
  have HT : Hid (Lib.Utf8Tabs 2 3 w) := hT
  have hent := hE.1
  have HE : Hid (∀ rs wx, C1 rs ≤ 200000000 → Below w.heap.size w wx → Calls Tryz.prog F (#[cntV rs] ++ cap) wx fun e w' => e = .returned (.bool (f rs)) ∧ Below wx.heap.size wx w') := hE.2
  have HSC : Hid ((scan (bytesOf c).data.toList).1 = wide c) := by show _ = _; rw [bytesOf_list, scan_encs c hc]
  have hsz : (bytesOf c).size ≤ 100000000 := by rw [bytesOf_size]; have := C1_right hz; rw [C1_len] at this; omega
  clear hE hc hz hT
  have HV : Hid (cntV fs = .agg #[.int .i64 (C1 fs), .int .i64 (C2 fs), .int .i64 (C3 fs), .int .i64 (C4 fs)]) := rfl
  rw [HV.out]
  refine (callsIn_wide (n := 3)).1 ?_
  refine callsIn_of_wp_marks Tryz.func75 rfl trivial ?_ rfl
  simp only [Tryz.ntmps75, List.size_toArray, List.length_cons, List.length_nil, Nat.reduceAdd, Nat.reduceSub, Array.replicate_succ, Array.replicate_zero, List.push_toArray, List.append_toArray, List.nil_append, List.cons_append]
  gi_wp2_with (first
    | (refine ⟨trivial, ?_⟩; gi_at_call 89; refine (callsIn_wide.2 (Walk_one (bytesOf c) _)).mono ?_; rintro e w13 ⟨rfl, rfl⟩)
    | fail)
  obtain ⟨W4, hW4⟩ : ∃ W4, W4 = (((w.alloc (Obj.cells #[Value.int IntKind.i64 (C1 fs), Value.int IntKind.i64 (C2 fs), Value.int IntKind.i64 (C3 fs), Value.int IntKind.i64 (C4 fs)] 29)).alloc (Obj.cells #[Value.func (Fn.func F) #[] cap] 96)).alloc (Obj.cells #[Value.int IntKind.i64 0, Value.int IntKind.i64 0, Value.int IntKind.i64 0, Value.int IntKind.i64 0] 29)).alloc (.cells #[.string (bytesOf c)] 9) := ⟨_, rfl⟩
  have hb4 : Below w.heap.size w W4 := by rw [hW4]; exact ((((Below.refl _ w).alloc (Nat.le_refl _) _).alloc (by simp) _).alloc (by simp; omega) _).alloc (by simp; omega) _
  have hs4 : W4.heap.size = w.heap.size + 4 := by rw [hW4]; simp
  have f4 : counted W4 w.heap.size (C1 fs) (C2 fs) (C3 fs) (C4 fs) := by rw [hW4]; refine ⟨⟨?_, ?_, ?_, ?_⟩, ?_, ?_, ?_, ?_⟩ <;> simp [go_sem]
  have e4 : W4.cell? ⟨w.heap.size + 1, 0, none⟩ = some (.func (.func F) #[] cap) := by rw [hW4]; simp [go_sem]
  have r4 : counted W4 (w.heap.size + 2) 0 0 0 0 := by rw [hW4]; refine ⟨⟨?_, ?_, ?_, ?_⟩, ?_, ?_, ?_, ?_⟩ <;> simp [go_sem]
  have s4 : W4.cell? ⟨w.heap.size + 3, 0, none⟩ = some (.string (bytesOf c)) := by rw [hW4]; simp [go_sem]
  rw [← hW4]
  clear hW4
  refine wp_range_own (gf := 100) (lb := #[.pointer (some ⟨w.heap.size + 3, 0, none⟩)]) rfl (enters_of Tryz.func100 (by kernel_rfl) rfl) (encs := walkArgs) (fun _ _ => rfl)
    (It := Below (w.heap.size + 6)) (Kp := KeepUp (w.heap.size + 6)) (Z := Below w.heap.size w) (S := fun xs => xs = (scan (bytesOf c).data.toList).1) (Sp := fun pre => ∃ rest, (scan (bytesOf c).data.toList).1 = pre ++ rest)
    ?seq ?its (fun h k => h.trans k) (fun A o => KeepUp.putObj A (.loop o) (by rw [hs4]; omega))
    (fun pre W => Below (w.heap.size + 4) W4 W ∧ ∃ c1 c2, c = c1 ++ c2 ∧ pre = wide c1 ∧ seek f fs c1 = none)
    (fun k pre W => k = .ret ∧ ∃ x, seek f fs c = some x ∧ counted W (w.heap.size + 2) (C1 x) (C2 x) (C3 x) (C4 x) ∧ Below w.heap.size w W ∧ w.heap.size + 6 ≤ W.heap.size) ?iz ?ixz ?ii ?ib ?ix ?ixb ?h0 ?round ?done ?stop
  case seq =>
    intro W hs1 hb1
    rw [hs4] at hs1 hb1
    have := walk_seq (bytesOf c) (by omega) w HT.out (w.heap.size + 3) W ((hb1.cell (p := ⟨w.heap.size + 3, 0, none⟩) (by show w.heap.size + 3 < _; omega)).trans s4)
    rw [hs1] at this
    exact this
  case its => exact fun A B h => Same2.of_below h (by rw [hs4]; omega)
  case iz => exact fun pre A h => hb4.trans (h.1.mono (by omega))
  case ixz => exact fun k pre A h => by obtain ⟨_, x, _, _, h, _⟩ := h; exact h
  case ii => exact fun pre A B h hb => ⟨h.1.trans (hb.mono (by omega)), h.2⟩
  case ib => exact fun pre A o h => ⟨h.1.trans ((Put1.putObj _ A (.loop o)).below (by rw [hs4]; omega)), h.2⟩
  case ix => exact fun k pre A B h hb => by obtain ⟨h0, x, h1, h2, h3, h4⟩ := h; exact ⟨h0, x, h1, counted_old h2 hb (by omega), h3.trans (hb.mono (by omega)), Nat.le_trans h4 hb.size⟩
  case ixb =>
    rintro k pre A o ⟨h0, x, h1, h2, h3, h4⟩
    have hb : Below (w.heap.size + 5) A (A.putObj (w.heap.size + 5) (.loop o)) := (Put1.putObj _ A (.loop o)).below (Nat.le_refl _)
    rw [hs4]
    exact ⟨h0, x, h1, counted_old h2 hb (by omega), h3.trans (hb.mono (by omega)), Nat.le_trans h4 hb.size⟩
  case h0 => exact fun W hs hb _ => by rw [hs4] at hb; exact ⟨hb, [], c, rfl, rfl, rfl⟩
  case round =>
    rintro l pre x W ⟨hI, c1, c2, hcc, rfl, hsk⟩ hlW ⟨rest, hsp⟩
    rw [hs4] at hlW ⊢
    rw [HSC.out, List.append_assoc, hcc, wide_append] at hsp
    have hsp2 := List.append_cancel_left hsp
    obtain ⟨r, d2, rfl, rfl⟩ : ∃ r d2, c2 = r :: d2 ∧ x = (r, (enc r).length) := by
      cases c2 with
      | nil => simp [wide] at hsp2
      | cons r d2 => simp only [wide, List.map_cons, List.singleton_append, List.cons.injEq] at hsp2; exact ⟨r, d2, rfl, hsp2.1.symm⟩
    have HW : Hid (wide c1 ++ [(r, (enc r).length)] = wide (c1 ++ [r])) := by show _ = _; rw [wide_append]; rfl
    have HCC : Hid (c = (c1 ++ [r]) ++ d2) := by show _ = _; rw [hcc]; simp
    have HSK : Hid (seek f fs c1 = none) := hsk
    have hzc : C1 (fs ++ (c1 ++ [r])) ≤ 100000000 := by have := HZ.out; rw [HCC.out, ← List.append_assoc] at this; exact C1_left this
    have HP1 : Hid (∀ wx, Calls Tryz.prog 56 #[cntV c1, cntV [r]] wx fun e w' => e = .returned (cntV (c1 ++ [r])) ∧ Below wx.heap.size wx w') := fun wx => plus_cnt c1 [r] (by have := C1_right hzc; omega) wx
    have HP2 : Hid (∀ wx, Calls Tryz.prog 56 #[cntV fs, cntV (c1 ++ [r])] wx fun e w' => e = .returned (cntV (fs ++ (c1 ++ [r]))) ∧ Below wx.heap.size wx w') := fun wx => plus_cnt fs (c1 ++ [r]) (by omega) wx
    have HQ : Hid (∀ wx, Below w.heap.size w wx → Calls Tryz.prog F (#[cntV (fs ++ (c1 ++ [r]))] ++ cap) wx fun e w' => e = .returned (.bool (f (fs ++ (c1 ++ [r])))) ∧ Below wx.heap.size wx w') := fun wx hb => HE.out _ wx (by omega) hb
    rw [walkArgs_cut]
    clear hsp hsp2 hcc hsk hzc
    unfold cntV at HP1 HP2 HQ ⊢
    generalize C1 c1 = y1 at *
    generalize C2 c1 = y2 at *
    generalize C3 c1 = y3 at *
    generalize C4 c1 = y4 at *
    generalize C1 [r] = u1 at *
    generalize C2 [r] = u2 at *
    generalize C3 [r] = u3 at *
    generalize C4 [r] = u4 at *
    gi_wp2
    refine ⟨(((Same2.refl _ W).alloc (by omega) _).alloc (by rw [World.size_alloc]; omega) _), ((KeepUp.refl _ W).alloc _).alloc _, ?_⟩
    intro w20 hp _
    have hww : Below W.heap.size W ((W.alloc (.cells #[.int .i64 y1, .int .i64 y2, .int .i64 y3, .int .i64 y4] 29)).alloc (.cells #[.int .i64 u1, .int .i64 u2, .int .i64 u3, .int .i64 u4] 29)) := ((Below.refl _ W).alloc (Nat.le_refl _) _).alloc (by rw [World.size_alloc]; exact Nat.le_succ _) _
    have hs20 : w20.heap.size = W.heap.size + 2 := by rw [hp.size, World.size_alloc, World.size_alloc]
    have hWW : Below (w.heap.size + 4) W4 w20 := hI.trans ((hww.mono (by omega)).trans (hp.below (by omega)))
    have hKU : KeepUp (w.heap.size + 6) W w20 := ⟨by omega, fun k h1 h2 => (hp.block k (by omega)).trans (hww.block k h2)⟩
    have hS2 : Same2 (w.heap.size + 4) ((W.alloc (.cells #[.int .i64 y1, .int .i64 y2, .int .i64 y3, .int .i64 y4] 29)).alloc (.cells #[.int .i64 u1, .int .i64 u2, .int .i64 u3, .int .i64 u4] 29)) w20 → True := fun _ => trivial
    have f20 := counted_old f4 hWW (by omega)
    have r20 := counted_old r4 hWW (by omega)
    have e20 := (hWW.cell (p := ⟨w.heap.size + 1, 0, none⟩) (by show w.heap.size + 1 < _; omega)).trans e4
    have a20 : counted w20 W.heap.size y1 y2 y3 y4 := by
      have h : counted ((W.alloc (.cells #[.int .i64 y1, .int .i64 y2, .int .i64 y3, .int .i64 y4] 29)).alloc (.cells #[.int .i64 u1, .int .i64 u2, .int .i64 u3, .int .i64 u4] 29)) W.heap.size y1 y2 y3 y4 := counted_below (counted_new W y1 y2 y3 y4 _) ((Below.refl _ _).alloc (Nat.le_refl _) _)
      obtain ⟨⟨h0, h1, h2, h3⟩, k0, k1, k2, k3⟩ := h
      exact ⟨⟨(hp.cell (by omega)).trans h0, (hp.cell (by omega)).trans h1, (hp.cell (by omega)).trans h2, (hp.cell (by omega)).trans h3⟩, (hp.frozen (by omega)).trans k0, (hp.frozen (by omega)).trans k1, (hp.frozen (by omega)).trans k2, (hp.frozen (by omega)).trans k3⟩
    have o20 : counted w20 (W.heap.size + 1) u1 u2 u3 u4 := by
      have h : counted ((W.alloc (.cells #[.int .i64 y1, .int .i64 y2, .int .i64 y3, .int .i64 y4] 29)).alloc (.cells #[.int .i64 u1, .int .i64 u2, .int .i64 u3, .int .i64 u4] 29)) (W.heap.size + 1) u1 u2 u3 u4 := by have := counted_new (W.alloc (.cells #[.int .i64 y1, .int .i64 y2, .int .i64 y3, .int .i64 y4] 29)) u1 u2 u3 u4 29; rwa [World.size_alloc] at this
      obtain ⟨⟨h0, h1, h2, h3⟩, k0, k1, k2, k3⟩ := h
      exact ⟨⟨(hp.cell (by omega)).trans h0, (hp.cell (by omega)).trans h1, (hp.cell (by omega)).trans h2, (hp.cell (by omega)).trans h3⟩, (hp.frozen (by omega)).trans k0, (hp.frozen (by omega)).trans k1, (hp.frozen (by omega)).trans k2, (hp.frozen (by omega)).trans k3⟩
    have hw20 : Below w.heap.size w w20 := hb4.trans (hWW.mono (by omega))
    clear hp hww hS2 f4 r4 e4 s4
    gi_wp2
    refine wpR_region_rel 6 7 (by kernel_rfl) rfl (by kernel_rfl) ?_
    intro w21 hb21
    obtain ⟨G, hG⟩ := exists_growth w21
    have f21 := counted_below f20 hb21
    have a21 := counted_below a20 hb21
    have o21 := counted_below o20 hb21
    obtain ⟨⟨f0, f1, f2, f3⟩, _⟩ := f21
    obtain ⟨⟨a0, a1, a2, a3⟩, _⟩ := a21
    obtain ⟨⟨o0, o1, o2, o3⟩, _⟩ := o21
    have gf0 := hG.cell f0
    have gf1 := hG.cell f1
    have gf2 := hG.cell f2
    have gf3 := hG.cell f3
    have ga0 := hG.cell a0
    have ga1 := hG.cell a1
    have ga2 := hG.cell a2
    have ga3 := hG.cell a3
    have go0 := hG.cell o0
    have go1 := hG.cell o1
    have go2 := hG.cell o2
    have go3 := hG.cell o3
    clear f0 f1 f2 f3 a0 a1 a2 a3 o0 o1 o2 o3
    (refine anyG_step hG (i := 0) rfl (by kernel_rfl) (by kernel_rfl) (by kernel_rfl) (fun K hK => ?_); go_simp; refine hK _ ?_; clear hK K)
    (refine anyG_step hG (i := 1) rfl (by kernel_rfl) (by kernel_rfl) (by kernel_rfl) (fun K hK => ?_); go_simp; refine hK _ ?_; clear hK K)
    (refine anyG_step hG (i := 2) rfl (by kernel_rfl) (by kernel_rfl) (by kernel_rfl) (fun K hK => ?_); go_simp; refine hK _ ?_; clear hK K)
    (refine anyG_step hG (i := 3) rfl (by kernel_rfl) (by kernel_rfl) (by kernel_rfl) (fun K hK => ?_); go_simp; apply Exists.intro; refine ⟨fun _ => ?_, hK _ ?_⟩; exact HP1.out _; clear hK K)
    (refine anyG_step hG (i := 4) rfl (by kernel_rfl) (by kernel_rfl) (by kernel_rfl) (fun K hK => ?_); go_simp; apply Exists.intro; refine ⟨fun _ => ?_, hK _ ?_⟩; exact HP2.out _; clear hK K)
    clear gf0 gf1 gf2 gf3 ga0 ga1 ga2 ga3 go0 go1 go2 go3 hG
    refine anyG_one (i := 5) rfl (by kernel_rfl) ?_
    intro w22 hb22 K hK
    go_simp
    have hb22a : Below w22.heap.size w22 (w22.alloc (.cells #[.int .i64 0, .int .i64 0, .int .i64 0, .int .i64 0] 29)) := (Below.refl _ w22).alloc (Nat.le_refl _) _
    refine hK _ _ hb22a ?_
    clear hK K
    refine anyG_late (i := 6) rfl (by kernel_rfl) (by kernel_rfl) ?_
    intro w23 hb23 K hK
    have hh := counted_below (counted_new w22 0 0 0 0 29) hb23
    have HH : Hid _ := hh
    obtain ⟨⟨h0, h1, h2, h3⟩, k0, k1, k2, k3⟩ := hh
    go_simp
    refine hK _ _ ?_
    clear hK K
    refine anyG_end (by kernel_rfl) ?_
    intro w24 hb24
    have hb23' := hb21.trans (hb22.mono hb21.size)
    have hb2a := hb23'.trans (hb22a.mono hb23'.size)
    have hb2b := hb2a.trans (hb23.mono hb2a.size)
    have hb2c := below_set4 hb2b (B := w22.heap.size) hb23'.size (.int .i64 (C1 (fs ++ (c1 ++ [r])))) (.int .i64 (C2 (fs ++ (c1 ++ [r])))) (.int .i64 (C3 (fs ++ (c1 ++ [r])))) (.int .i64 (C4 (fs ++ (c1 ++ [r]))))
    have hbF := hb2c.trans (hb24.mono hb2c.size)
    have h24 := counted_below (counted_set (m1 := C1 (fs ++ (c1 ++ [r]))) (m2 := C2 (fs ++ (c1 ++ [r]))) (m3 := C3 (fs ++ (c1 ++ [r]))) (m4 := C4 (fs ++ (c1 ++ [r]))) HH.out) hb24
    have e24 := (hbF.cell (p := ⟨w.heap.size + 1, 0, none⟩) (by show w.heap.size + 1 < _; omega)).trans e20
    have r24 := counted_below r20 hbF
    have hw24 : Below w.heap.size w w24 := hw20.trans (hbF.mono hw20.size)
    have hKU24 : KeepUp (w.heap.size + 6) W w24 := hKU.trans (KeepUp.of_below hbF)
    have HCQ := HQ.out w24 hw24
    have H24 : Hid _ := h24
    have HR24 : Hid _ := r24
    have HBF : Hid _ := hbF
    have HWW : Hid _ := hWW
    have HKU : Hid _ := hKU24
    clear hb21 hb22 hb22a hb23 hb24 hb23' hb2a hb2b hb2c HH h0 h1 h2 h3 k0 k1 k2 k3 f20 r20 a20 o20 e20 hKU hKU24 hbF hWW
    generalize w22.heap.size = hB at *
    obtain ⟨⟨h0, h1, h2, h3⟩, _⟩ := h24
    obtain ⟨_, t0, t1, t2, t3⟩ := r24
    generalize hX1 : C1 (fs ++ (c1 ++ [r])) = X1 at *
    generalize hX2 : C2 (fs ++ (c1 ++ [r])) = X2 at *
    generalize hX3 : C3 (fs ++ (c1 ++ [r])) = X3 at *
    generalize hX4 : C4 (fs ++ (c1 ++ [r])) = X4 at *
    generalize hfx : f (fs ++ (c1 ++ [r])) = fx at *
    gi_wp2
    refine ⟨trivial, rfl, ?_⟩
    refine (CallsIn.inRound l (callsIn_wide.2 HCQ)).mono ?_
    rintro e w25 ⟨rfl, hb25⟩
    have h25 := counted_below H24.out hb25
    have r25 := counted_below HR24.out hb25
    have HR25 : Hid _ := r25
    have hbZ := HBF.out.trans (hb25.mono HBF.out.size)
    have HBZ : Hid _ := hbZ
    have HWZ : Hid _ := hw24.trans (hb25.mono hw24.size)
    clear h0 h1 h2 h3 t0 t1 t2 t3 e24 hb25 hbZ HCQ
    obtain ⟨⟨h0, h1, h2, h3⟩, _⟩ := h25
    obtain ⟨⟨z0, z1, z2, z3⟩, t0, t1, t2, t3⟩ := r25
    cases fx with
    | false =>
      gi_wp2
      refine ⟨Same2.of_below HBZ.out (by omega), KeepUp.of_below HBZ.out, HWW.out.trans (HBZ.out.mono (by omega)), c1 ++ [r], d2, HCC.out, HW.out, ?_⟩
      rw [seek_none f c1 fs [r] HSK.out, seek, List.append_assoc, hfx]
      rfl
    | true =>
      gi_wp2
      have hkk : KeepUp (w.heap.size + 6) w20 w25 := KeepUp.of_below HBZ.out
      refine ⟨((((Same2.of_below HBZ.out (by omega)).setCell (by show w.heap.size + 2 ≠ _; omega) (by show w.heap.size + 2 ≠ _; omega) _).setCell (by show w.heap.size + 2 ≠ _; omega) (by show w.heap.size + 2 ≠ _; omega) _).setCell (by show w.heap.size + 2 ≠ _; omega) (by show w.heap.size + 2 ≠ _; omega) _).setCell (by show w.heap.size + 2 ≠ _; omega) (by show w.heap.size + 2 ≠ _; omega) _,
        (((hkk.setCell (by show w.heap.size + 2 < _; omega) _).setCell (by show w.heap.size + 2 < _; omega) _).setCell (by show w.heap.size + 2 < _; omega) _).setCell (by show w.heap.size + 2 < _; omega) _, rfl, fs ++ (c1 ++ [r]), ?_, ?_, below_set4 HWZ.out (by omega) _ _ _ _, ?_⟩
      · rw [HCC.out, List.append_assoc, seek_none f c1 fs ([r] ++ d2) HSK.out, List.singleton_append, seek, List.append_assoc, hfx]
        rfl
      · rw [hX1, hX2, hX3, hX4]
        exact counted_set HR25.out
      · have := HBZ.out.size
        simp [World.setCell]
        omega
  case done =>
    rintro xs W rfl ⟨hI, c1, c2, hcc, hx, hsk⟩ hDef
    rw [hs4] at hDef ⊢
    have HN : Hid (seek f fs c = none) := by
      show _ = _
      rw [HSC.out] at hx
      have : c2 = [] := by
        have := congrArg List.length hx
        rw [hcc] at this
        simp only [wide, List.length_map, List.length_append] at this
        exact List.length_eq_zero_iff.1 (by omega)
      subst this
      rw [hcc, List.append_nil]
      exact hsk
    have f5 := counted_old f4 hI (by omega)
    have r5 := counted_old r4 hI (by omega)
    have HR5 : Hid _ := r5
    have hbW : Below w.heap.size w W := hb4.trans (hI.mono (by omega))
    have HBW : Hid _ := hbW
    have hIs := hI.size
    clear hcc hx hsk hbW hI f4 r4 e4 s4
    obtain ⟨⟨f0, f1, f2, f3⟩, _⟩ := f5
    obtain ⟨⟨z0, z1, z2, z3⟩, t0, t1, t2, t3⟩ := r5
    generalize C1 fs = y1 at *
    generalize C2 fs = y2 at *
    generalize C3 fs = y3 at *
    generalize C4 fs = y4 at *
    gi_wp2
    have hset := counted_set (m1 := y1) (m2 := y2) (m3 := y3) (m4 := y4) HR5.out
    obtain ⟨⟨x0, x1, x2, x3⟩, _⟩ := hset
    have hDef' : ((((W.setCell ⟨w.heap.size + 2, 0, none⟩ (.int .i64 y1)).setCell ⟨w.heap.size + 2, 1, none⟩ (.int .i64 y2)).setCell ⟨w.heap.size + 2, 2, none⟩ (.int .i64 y3)).setCell ⟨w.heap.size + 2, 3, none⟩ (.int .i64 y4)).heap[w.heap.size + 4]? = some (.deferred (some [])) := by
      refine (Below.heap_setCell _ _ _ _ ?_).trans ((Below.heap_setCell _ _ _ _ ?_).trans ((Below.heap_setCell _ _ _ _ ?_).trans ((Below.heap_setCell _ _ _ _ ?_).trans hDef))) <;> (show w.heap.size + 4 ≠ w.heap.size + 2; omega)
    have hP := Put1.putObj (w.heap.size + 4) ((((W.setCell ⟨w.heap.size + 2, 0, none⟩ (.int .i64 y1)).setCell ⟨w.heap.size + 2, 1, none⟩ (.int .i64 y2)).setCell ⟨w.heap.size + 2, 2, none⟩ (.int .i64 y3)).setCell ⟨w.heap.size + 2, 3, none⟩ (.int .i64 y4)) (.deferred none)
    have p0 := (hP.cell (b := w.heap.size + 2) (o := 0) (by omega)).trans x0
    have p1 := (hP.cell (b := w.heap.size + 2) (o := 1) (by omega)).trans x1
    have p2 := (hP.cell (b := w.heap.size + 2) (o := 2) (by omega)).trans x2
    have p3 := (hP.cell (b := w.heap.size + 2) (o := 3) (by omega)).trans x3
    refine ⟨by simp, .inl ⟨_, _, rfl, run_takeDeferred hDef', ?_⟩⟩
    refine ⟨.agg #[.int .i64 y1, .int .i64 y2, .int .i64 y3, .int .i64 y4], by simp [results, Tryz.results75, go_sem, p0, p1, p2, p3], ?_, (below_set4 HBW.out (B := w.heap.size + 2) (by omega) _ _ _ _).trans (hP.below (by omega))⟩
    rw [HN.out]
    exact congrArg Ending.returned HV.out.symm
  case stop =>
    rintro k pre W hsp ⟨rfl, x, hx, hc2, hbW, hsW⟩ hDef
    rw [hs4] at hDef ⊢
    have HC2 : Hid _ := hc2
    obtain ⟨⟨z0, z1, z2, z3⟩, _⟩ := hc2
    clear f4 r4 e4 s4
    gi_wp2
    have hP := Put1.putObj (w.heap.size + 4) W (.deferred none)
    have p0 := (hP.cell (b := w.heap.size + 2) (o := 0) (by omega)).trans z0
    have p1 := (hP.cell (b := w.heap.size + 2) (o := 1) (by omega)).trans z1
    have p2 := (hP.cell (b := w.heap.size + 2) (o := 2) (by omega)).trans z2
    have p3 := (hP.cell (b := w.heap.size + 2) (o := 3) (by omega)).trans z3
    refine ⟨by simp, .inl ⟨_, _, rfl, run_takeDeferred hDef, ?_⟩⟩
    refine ⟨cntV x, by simp [results, Tryz.results75, go_sem, p0, p1, p2, p3, cntV], ?_, hbW.trans (hP.below (by omega))⟩
    rw [hx]; rfl
end Go.Proofs.YtldhbjmillfjgaaGreatDoor
