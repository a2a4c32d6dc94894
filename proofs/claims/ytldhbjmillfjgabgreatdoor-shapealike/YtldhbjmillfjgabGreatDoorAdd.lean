/-
  rope.add: a chunk behind all of a tree's.
-/
import Derived.Test.YtldhbjmillfjgabGreatDoorLast
namespace Go.Proofs.YtldhbjmillfjgabGreatDoor
open Go.RowKit
set_option linter.unusedVariables false

/-- A chunk as it is to be: runes, one to thirty-two bytes. -/
def okChunk (c : List Nat) : Prop := c ≠ [] ∧ (encs c).length ≤ 32 ∧ ∀ r ∈ c, isRune r
def okT (t : T) : Prop := t.bal ∧ ∀ c ∈ t.chunks, okChunk c
theorem okT_nil : okT .nil := ⟨trivial, fun c h => by cases h⟩
/-- What comes of a chunk behind all. -/
def added (t : T) (c : List Nat) (t' : T) : Prop := t'.runes = t.runes ++ c ∧ okT t' ∧ t'.size ≤ t.size + 1

theorem joined_nil {t t' : T} {c : List Nat} (h : joined t .nil c t') (ht : okT t) (hc : okChunk c) : added t c t' := by
  obtain ⟨j1, j2, _, _⟩ := h
  refine ⟨by rw [runes_chunks, runes_chunks t, j1]; simp [T.chunks], ⟨j2, fun x hx => ?_⟩, by rw [size_chunks, size_chunks, j1]; simp [T.chunks]⟩
  rw [j1] at hx
  simp only [T.chunks, List.append_nil, List.mem_append, List.mem_singleton] at hx
  rcases hx with hx | rfl
  · exact ht.2 x hx
  · exact hc

set_option maxRecDepth 100000 in
set_option maxHeartbeats 2000000 in
theorem add_nil (c : List Nat) (w : World) (hz : C1 c ≤ 1000000000) :
    Calls Tryz.prog 115 #[.pointer none, chunkV c] w fun e w' => ∃ q, e = .returned (.pointer q) ∧ isTree w' q (.node .nil c .nil) ∧ Below w.heap.size w w' := by
  have hb0 : ∀ o, Below w.heap.size w (w.alloc o) := fun o => (Below.refl _ w).alloc (Nat.le_refl _) o
  have e0 : C1 T.nil.runes = 0 := rfl
  have ck := fun wx => link_any none none .nil .nil c wx rfl rfl (by rw [e0]; omega) (by simp [T.size, T.height])
  unfold chunkV at *
  clear hz e0
  go_enter Tryz.func115, Tryz.ntmps115
  go_wp2_with (first | (go_at_call 161; refine (ck _).mono ?_; rintro e w1 ⟨q, rfl, ht, hb⟩; have HT : Hid _ := ht; clear ht) | fail)
  go_ret
  exact ⟨q, rfl, HT.out, (hb0 _).trans (hb.mono (hb0 _).size)⟩

set_option maxRecDepth 100000 in
set_option maxHeartbeats 2000000 in
theorem add_more (b : Nat) (t : T) (c : List Nat) (w : World) (hT : Lib.Utf8Tabs 2 3 w) (ht : isTree w (some ⟨b, 0, none⟩) t) (hne : t ≠ .nil) (hz : big (.node t c .nil)) (hok : okT t) (hc : okChunk c) :
    Calls Tryz.prog 115 #[.pointer (some ⟨b, 0, none⟩), chunkV c] w fun e w' => ∃ q t', e = .returned (.pointer q) ∧ isTree w' q t' ∧ added t c t' ∧ Below w.heap.size w w' := by
  have hb0 : ∀ o, Below w.heap.size w (w.alloc o) := fun o => (Below.refl _ w).alloc (Nat.le_refl _) o
  have cl := fun o => last_any _ t _ (w.alloc o) (Nat.le_refl _) hne (isTree_below (hb0 o) ht) (big_node hz).1 hok.1
  have HT : Hid (isTree w (some ⟨b, 0, none⟩) t) := ht
  have HTT : Hid (Lib.Utf8Tabs 2 3 w) := hT
  have HB : Hid (big (.node t c .nil)) := hz
  have HO : Hid (okT t) := hok
  have HC : Hid (okChunk c) := hc
  have hcs : (bytesOf c).size ≤ 32 := by rw [bytesOf_size]; exact hc.2.1
  clear hT ht hne hz hok hc
  have HA0 : Hid (∀ x t0, ended t x t0 → okChunk x ∧ (encs x).length ≤ 32 ∧ big (.node t0 (x ++ c) .nil) ∧ okT t0) := fun x t0 he => by
    have hx : okChunk x := HO.out.2 x (by rw [he.1]; simp)
    refine ⟨hx, hx.2.1, ?_, he.2, fun y hy => HO.out.2 y (by rw [he.1]; simp [hy])⟩
    obtain ⟨z1, z2⟩ := HB.out
    simp only [T.runes, T.size, C1_append] at z1 z2
    rw [runes_chunks t, he.1] at z1
    rw [size_chunks t, he.1] at z2
    simp only [List.flatten_append, C1_append, List.length_append, List.length_singleton, List.flatten_cons, List.flatten_nil, List.append_nil] at z1 z2
    exact ⟨by simp only [T.runes, C1_append, runes_chunks t0]; omega, by simp only [T.size, size_chunks t0]; omega⟩
  have HK : Hid (∀ x t0, ended t x t0 → ∀ wx, Below w.heap.size w wx → Calls Tryz.prog 116 #[.string (bytesOf x ++ bytesOf c)] wx fun e w' => e = .returned (chunkV (x ++ c)) ∧ Below wx.heap.size wx w') := fun x t0 he wx hb => by
    obtain ⟨h1, h2, h3, _⟩ := HA0.out x t0 he
    rw [bytesOf_append]
    have hl := HC.out.2.1
    refine chunkOf_any (x ++ c) (fun r hr => ?_) ?_ wx (Go.Proofs.Utf8Tabs_below HTT.out hb)
    · rcases List.mem_append.1 hr with hr | hr
      · exact h1.2.2 r hr
      · exact HC.out.2.2 r hr
    · rw [C1_append, C1_len, C1_len]; omega
  have HJ1 : Hid (∀ x t0, ended t x t0 → (encs x).length + (encs c).length ≤ 32 → ∀ q0 wx, isTree wx q0 t0 → Calls Tryz.prog 159 #[.pointer q0, chunkV (x ++ c), .pointer none] wx fun e w' => ∃ q t', e = .returned (.pointer q) ∧ isTree w' q t' ∧ added t c t' ∧ Below wx.heap.size wx w') := fun x t0 he hle q0 wx h => by
    obtain ⟨h1, h2, h3, h4⟩ := HA0.out x t0 he
    refine (join_any _ q0 none t0 .nil (x ++ c) wx (Nat.le_refl _) h rfl h3 he.2 trivial).mono ?_
    rintro e w' ⟨q, t', rfl, ht', hj, hb⟩
    have hok : okChunk (x ++ c) := ⟨by simp [h1.1], by rw [encs_append, List.length_append]; exact hle, fun r hr => (List.mem_append.1 hr).elim (h1.2.2 r) (HC.out.2.2 r)⟩
    obtain ⟨a1, a2, a3⟩ := joined_nil hj h4 hok
    refine ⟨q, t', rfl, ht', ⟨?_, a2, ?_⟩, hb⟩
    · rw [a1, runes_chunks t, runes_chunks t0, he.1]; simp
    · have := size_chunks t; rw [he.1] at this; have := size_chunks t0; simp at *; omega
  have HJ2 : Hid (∀ wx, Below w.heap.size w wx → Calls Tryz.prog 159 #[.pointer (some ⟨b, 0, none⟩), chunkV c, .pointer none] wx fun e w' => ∃ q t', e = .returned (.pointer q) ∧ isTree w' q t' ∧ added t c t' ∧ Below wx.heap.size wx w') := fun wx hb => by
    refine (join_any _ _ none t .nil c wx (Nat.le_refl _) (isTree_below hb HT.out) rfl HB.out HO.out.1 trivial).mono ?_
    rintro e w' ⟨q, t', rfl, ht', hj, hb⟩
    exact ⟨q, t', rfl, ht', joined_nil hj HO.out HC.out, hb⟩
  unfold chunkV at *
  go_enter Tryz.func115, Tryz.ntmps115
  go_wp2_with (first
    | (go_at_call 112; refine (cl _).mono ?_; rintro e w1 ⟨x, q0, t0, rfl, ht0, he, hb1⟩; have HT0 : Hid _ := ht0; have HE : Hid (ended t x t0) := he; have hxs : (bytesOf x).size ≤ 32 := (by rw [bytesOf_size]; exact (HA0.out x t0 he).2.1); have hb1W : Below w1.heap.size w1 (w1.alloc (.cells #[.string (bytesOf x), .int .i64 (C1 x), .int .i64 (C2 x), .int .i64 (C3 x), .int .i64 (C4 x)] 194)) := (Below.refl _ w1).alloc (Nat.le_refl _) _; have hm := chunkAt_below (chunkAt_below (chunkAt_new w (.string (bytesOf c)) (.int .i64 (C1 c)) (.int .i64 (C2 c)) (.int .i64 (C3 c)) (.int .i64 (C4 c)) 194) hb1) hb1W; obtain ⟨⟨m0, m1, m2, m3, m4⟩, _⟩ := hm; have hBW : Below w.heap.size w (w1.alloc (.cells #[.string (bytesOf x), .int .i64 (C1 x), .int .i64 (C2 x), .int .i64 (C3 x), .int .i64 (C4 x)] 194)) := (hb0 _).trans ((hb1.trans (hb1W.mono hb1.size)).mono (hb0 _).size); have HBW : Hid _ := hBW; have HTW : Hid _ := isTree_below hb1W ht0; clear ht0 he hBW hb1 hb1W)
    | fail)
  · have hle : (encs x).length + (encs c).length ≤ 32 := by rw [← bytesOf_size, ← bytesOf_size]; omega
    refine (HK.out x t0 HE.out _ HBW.out).mono ?_
    rintro e w2 ⟨rfl, hb2⟩
    have hw2 := HBW.out.trans (hb2.mono HBW.out.size)
    have cj := HJ1.out x t0 HE.out hle q0 w2 (isTree_below hb2 HTW.out)
    unfold chunkV at cj
    clear hb2
    go_wp2_with (first | (go_at_call 159; refine cj.mono ?_; rintro e w3 ⟨q, t', rfl, ht', ha, hb3⟩; have HT' : Hid _ := ht'; have HA' : Hid _ := ha; clear ht' ha) | fail)
    go_ret
    exact ⟨q, t', rfl, HT'.out, HA'.out, hw2.trans (hb3.mono hw2.size)⟩
  · refine (HJ2.out _ HBW.out).mono ?_
    rintro e w3 ⟨q, t', rfl, ht', ha, hb3⟩
    have hw3 := HBW.out.trans (hb3.mono HBW.out.size)
    have HT' : Hid _ := ht'
    have HA' : Hid _ := ha
    clear ht' ha hb3
    go_wp2
    go_ret
    exact ⟨q, t', rfl, HT'.out, HA'.out, hw3⟩

theorem add_any (p : Option Addr) (t : T) (c : List Nat) (w : World) (hT : Lib.Utf8Tabs 2 3 w) (ht : isTree w p t) (hz : big (.node t c .nil)) (hok : okT t) (hc : okChunk c) :
    Calls Tryz.prog 115 #[.pointer p, chunkV c] w fun e w' => ∃ q t', e = .returned (.pointer q) ∧ isTree w' q t' ∧ added t c t' ∧ Below w.heap.size w w' := by
  cases t with
  | nil =>
    obtain rfl : p = none := ht
    refine (add_nil c w (by obtain ⟨z, _⟩ := hz; simp only [T.runes, List.nil_append, List.append_nil] at z; omega)).mono ?_
    rintro e w' ⟨q, rfl, hq, hb⟩
    refine ⟨q, _, rfl, hq, ⟨by simp [T.runes], ⟨⟨trivial, trivial, by simp [T.height], by simp [T.height]⟩, fun x hx => ?_⟩, by simp [T.size]⟩, hb⟩
    simp only [T.chunks, List.nil_append, List.append_nil, List.mem_singleton] at hx
    subst hx
    exact hc
  | node l x r =>
    have h2 := ht
    obtain ⟨b, _, _, rfl, _⟩ := h2
    exact add_more b _ c w hT ht (by simp) hz hok hc
end Go.Proofs.YtldhbjmillfjgabGreatDoor
