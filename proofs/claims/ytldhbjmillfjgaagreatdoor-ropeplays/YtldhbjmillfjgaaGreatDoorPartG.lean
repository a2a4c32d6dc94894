/-
  A splice, by the program and by the document: what both tell, put side by side.
  LoopOwn's law for a body that never leaves its loop: the iterator is asked for rounds that all go on.
  rope's chunks: the iterator that calls itself through a variable.
  rope's chunks: what a range over them is given, in their order.
  The library's contracts that these texts use, laid at this program by the shelf's own command, its plain mode.
  strings.Builder, as this program's text has it: what is written is behind what was.
  LoopOwn's law once more: what its rounds begin with knows the loop's first block, too.
  ops.Apply: what an operation makes of a text.
  rope.Text: all of a document.
  What rosettalaw.RopePlays asks of a document, by the program and by the document.
  rosettalaw.RopePlays' great question, walked once.
  rosettalaw.RopePlays' splice, walked once.
-/
import Derived.Test.YtldhbjmillfjgaaGreatDoorPartF
import Derived.Test.YtldhbjmillfjgaaGreatDoorPartC
import Derived.Stop.RegionWithIn
import Derived.Sort.QuietIn
import Derived.Lib.FrozenHead
import Derived.Laws.EntriesVeiled
import Derived.Shelf.Strings.Builder1
import Derived.Shelf.Small.Utf8
import Derived.Shelf.Small.Strs
import Derived.Shelf.Strings.BuilderF
import Derived.Shelf.Strings.BuilderK
import Derived.Shelf.Utf8.RuneCount
import Derived.Shelf.LaysM
import Derived.Shelf.Strconv.Clone
import Derived.Shelf.Strings.Search1
import Derived.Shelf.Strings.Search2
import Derived.Shelf.Strings.Search3
import Derived.Shelf.Strings.Count
import Derived.Shelf.Strings.Shaped
import Derived.Shelf.Strings.LastIndex
import Derived.Shelf.Strings.Split
import Derived.Shelf.Unicode.Decode
import Derived.Shelf.Strings.RuneCount
import Derived.Shelf.Unicode.DecodeSlow
import Derived.Shelf.Unicode.DecodeAny
import Derived.Shelf.Strings.BuilderCap
import Derived.Test.YtldhbjmillfjgaaGreatDoorProg
import Derived.Lib.Builder
import Derived.Lib.OthersKept
import Derived.Test.YtldhbjmillfjgaaGreatDoorPartE
namespace Go.Proofs.YtldhbjmillfjgaaGreatDoor
open Go.RowKit
set_option linter.unusedVariables false

theorem spliceR_fine (rs ps : List Nat) (at_ drop : Int) (hr : ∀ r ∈ rs, isRune r) (hps : ∀ r ∈ ps, isRune r) (hz : C1 rs ≤ 8000) : (∀ r ∈ spliceR rs ps at_ drop, isRune r) ∧ C1 (spliceR rs ps at_ drop) ≤ 8000 := by
  unfold spliceR
  by_cases hE : spliceE rs at_ drop (C1 ps) = 0
  · rw [if_pos hE]
    unfold spliceE at hE
    split at hE
    · cases hE
    · rename_i h1
      split at hE
      · cases hE
      · rename_i h2
        split at hE
        · cases hE
        · rename_i h3
          rw [not_or] at h2
          obtain ⟨ra, rd, rb, er, ca, cd, eu, ev⟩ := cut_three (rs := rs) (at_ := at_) (drop := drop) (by omega) (by omega) (by omega) (by omega) (by simpa using h2.1) (by simpa using h2.2)
          rw [eu, ev]
          have hC : C1 rs = C1 ra + (C1 rd + C1 rb) := by rw [er, C1_append, C1_append]
          refine ⟨fun r h => ?_, by rw [C1_append, C1_append]; omega⟩
          rcases List.mem_append.1 h with h | h
          · rcases List.mem_append.1 h with h | h
            · exact hr r (by rw [er]; exact List.mem_append_left _ h)
            · exact hps r h
          · exact hr r (by rw [er]; exact List.mem_append_right _ (List.mem_append_right _ h))
  · rw [if_neg hE]
    exact ⟨hr, hz⟩

theorem splice_pack (put : ByteArray) (hp : put.size ≤ 1000000) (rs : List Nat) (hr : ∀ r ∈ rs, isRune r) (hz : C1 rs ≤ 8000) (at_ drop : Int) :
    ∃ rs' E P, (∀ r ∈ rs', isRune r) ∧ C1 rs' ≤ 8000 ∧
      (∀ wx, Calls Tryz.prog 8 #[.string (bytesOf rs), .int .i64 at_, .int .i64 drop, .string put] wx fun e w' => e = .returned (.tuple #[.string (bytesOf rs'), .agg #[.int .i64 E, .int .i64 P]]) ∧ Below wx.heap.size wx w') ∧
      (∀ b wx, Lib.Utf8Tabs 2 3 wx → isRope wx b rs → Calls Tryz.prog 9 #[.pointer (some ⟨b, 0, none⟩), .int .i64 at_, .int .i64 drop, .string put] wx fun e w' =>
        ∃ x, e = .returned x ∧ isRope w' b rs' ∧ But b wx w' ∧ ∀ w2, asLaid w2 → Below w'.heap.size w' w2 → Calls Tryz.prog 7 #[x, .agg #[.int .i64 E, .int .i64 P]] w2 fun e w3 => e = .returned (.bool true) ∧ Below w2.heap.size w2 w3) := by
  by_cases hok : (scan put.data.toList).2 = true
  · obtain ⟨ps, hps0⟩ : ∃ ps, runesOf put.data.toList = ps := ⟨_, rfl⟩
    have he : encs ps = put.data.toList := by rw [← hps0]; exact encs_runesOf hok
    have hps : ∀ r ∈ ps, isRune r := fun r h => runesOf_rune (by rw [hps0]; exact h)
    obtain rfl : put = bytesOf ps := ba_of he.symm
    have hpz : C1 ps ≤ 10000000 := by rw [bytesOf_size] at hp; rw [C1_len]; omega
    obtain ⟨f1, f2⟩ := spliceR_fine rs ps at_ drop hr hps hz
    refine ⟨spliceR rs ps at_ drop, spliceE rs at_ drop (C1 ps), -1, f1, f2, fun wx => refSplice_all rs ps at_ drop hr hps (by omega) hpz wx, fun b wx hT h => ?_⟩
    refine (splice_all b rs ps at_ drop hps hpz wx hT h (by omega)).mono ?_
    rintro e w' ⟨rfl, hR, hB⟩
    refine ⟨_, rfl, hR, hB, fun w2 hg hb => ?_⟩
    by_cases hE : spliceE rs at_ drop (C1 ps) = 0
    · rw [hE]
      exact is_any_nil w2
    · unfold errV
      rw [if_neg hE]
      exact is_any_number _ w2 hg
  · have hok2 := Bool.eq_false_iff.2 hok
    have cC : ∀ wx, Calls Tryz.prog 6 #[.string put] wx fun e w' => e = .returned (.tuple #[.agg #[.int .i64 0, .int .i64 0, .int .i64 0, .int .i64 0], .agg #[.int .i64 3, .int .i64 (place put.data.toList)]]) ∧ Below wx.heap.size wx w' := fun wx => (refCount_bad put (by omega) wx hok2).mono fun e w' h => ⟨h.2, h.1⟩
    have hsz : (bytesOf rs).size < 100000000 := by rw [bytesOf_size]; rw [C1_len] at hz; omega
    refine ⟨rs, 3, place put.data.toList, hr, hz, fun wx => refSplice_bad (bytesOf rs) put 0 0 0 0 at_ drop _ _ _ _ _ hsz (by omega) wx cC, fun b wx hT h => ?_⟩
    refine (splice_bad b at_ drop put (by omega) hok2 wx hT).mono ?_
    rintro e w' ⟨x, rfl, hx, hb⟩
    exact ⟨x, rfl, isRope_below h hb, But.of_below hb, fun w2 hg hb2 => is_at hg hx hb2⟩
end Go.Proofs.YtldhbjmillfjgaaGreatDoor

namespace Go.Proofs.YtldhbjmillfjgaaGreatDoor
open Go.RowKit

/-- What an iterator does, called with a yield that always says 'go on'. -/
def SeqAll {α : Type} (P : Program) (g : Nat) (lb : Array Value) (encs : List α → α → Array Value) (It Kp : World → World → Prop) (Z : World → Prop) (S Sp : List α → Prop) (W : World) : Prop :=
  ∀ (l : Nat) (J : List α → World → Prop), (∀ pre A, J pre A → Z A) → (∀ pre A B, J pre A → It A B → J pre B) →
    (∀ pre x A, J pre A → Sp (pre ++ [x]) → YieldAt Fence.wide 0 P l (encs pre x) A fun e A' => e = .returned (.bool true) ∧ J (pre ++ [x]) A' ∧ Kp A A') →
    J [] W →
    CallsIn Fence.wide 0 P g (#[.func (.yield l) #[] #[]] ++ lb) W fun e W' => (∃ v, e = .returned v) ∧ ∃ xs, S xs ∧ J xs W'

/-- How a round is left: at its end. -/
def allPost {α : Type} (n : Nat) (Kp : World → World → Prop) (I : List α → World → Prop) (xs : List α) (W : World) : Exit → Act → World → Prop
  | .normal, _, W' => Same2 n W W' ∧ Kp W W' ∧ I xs W'
  | _, _, _ => False

theorem wp_range_all {α : Type} {P : Program} {g : Operand} {ps : Array Tmp} {assign body : Code} {Q : Exit → Act → World → Prop} {a : Act} {w : World} {n : Nat}
    {gf : Nat} {lb : Array Value} (hg : a.eval g = .func (.func gf) #[] lb) (eg : ∀ args w, (callFunc gf args).run P w = .ok (.enter gf args) w)
    {encs : List α → α → Array Value} (hps : ∀ pre x, (encs pre x).size = ps.size)
    {It Kp : World → World → Prop} {Z : World → Prop} {S Sp : List α → Prop}
    (hseq : ∀ W, W.heap.size = w.heap.size + 2 → Below w.heap.size w W → SeqAll P gf lb encs It Kp Z S Sp W)
    (hIt : ∀ A B, It A B → Same2 w.heap.size A B)
    (hKt : ∀ {A B C : World}, Kp A B → Kp B C → Kp A C) (hKb : ∀ (A : World) (r : Loop), Kp A (A.putObj (w.heap.size + 1) (.loop r)))
    (I : List α → World → Prop)
    (hIz : ∀ pre A, I pre A → Z A)
    (hI : ∀ pre A B, I pre A → It A B → I pre B) (hIb : ∀ pre A (r : Loop), I pre A → I pre (A.putObj (w.heap.size + 1) (.loop r)))
    (h0 : ∀ W, W.heap.size = w.heap.size + 2 → Below w.heap.size w W → (∃ r, W.heap[w.heap.size + 1]? = some (.loop r)) → W.heap[w.heap.size]? = some (.deferred (some [])) → I [] W)
    (hround : ∀ (l : Nat) (pre : List α) (x : α) (W : World), I pre W → w.heap.size + 2 ≤ W.heap.size → Sp (pre ++ [x]) →
      assign.wpIn (Fence.wide.inRound l) 0 P (Exit.then (fun a₁ w₁ => Same2 w.heap.size W w₁ ∧ Kp W w₁ ∧ ∀ w₂, Put1 (w.heap.size + 1) w₁ w₂ → (∃ r, w₂.heap[w.heap.size + 1]? = some (.loop r)) → body.wpIn (Fence.wide.inRound l) 0 P (allPost w.heap.size Kp I (pre ++ [x]) w₂) a₁ w₂) (fun _ _ _ => False))
        { tmps := (ps.zip (encs pre x)).foldl (fun t (p, v) => t.setIfInBounds p v) a.tmps, defers := [] } W)
    (hdone : ∀ (xs : List α) (W : World), S xs → I xs W → W.heap[w.heap.size]? = some (.deferred (some [])) → Q .normal { a with defers := { target := .collected w.heap.size, args := #[] } :: a.defers } W) :
    (Code.rangeFunc g ps assign body).wpIn Fence.wide n P Q a w := by
  refine wpIn_rangeFunc ?_
  intro fn hfn
  obtain ⟨rec, hrec⟩ : ∃ rec : LoopState → Option Code → Loop, rec = fun st pe => { state := st, pending := pe, fn, tmps := a.tmps, params := ps, assign, body, defers := w.heap.size } := ⟨_, rfl⟩
  obtain ⟨W1, hW1⟩ : ∃ W1, (w.alloc (.deferred (some []))).alloc (.loop (rec .ready none)) = W1 := ⟨_, rfl⟩
  have hL1 : W1.heap[w.heap.size + 1]? = some (.loop (rec .ready none)) := by
    rw [← hW1]; have := World.alloc_heap_new (w.alloc (.deferred (some []))) (.loop (rec .ready none)); rwa [World.size_alloc] at this
  have hK1 : W1.heap[w.heap.size]? = some (.deferred (some [])) := by
    rw [← hW1]; exact (Below.heap_alloc _ _ _ (by simp)).trans (World.alloc_heap_new w _)
  have hs1 : W1.heap.size = w.heap.size + 2 := by rw [← hW1, World.size_alloc, World.size_alloc]
  have hb1 : Below w.heap.size w W1 := by
    rw [← hW1]; exact ((Below.refl _ w).alloc (Nat.le_refl _) _).alloc (by simp) _
  have hI1 : I [] W1 := h0 W1 hs1 hb1 ⟨_, hL1⟩ hK1
  refine ⟨w.heap.size + 1, [{ target := .collected w.heap.size, args := #[] }], W1, { target := .fn (.func gf) lb, args := #[.func (.yield (w.heap.size + 1)) #[] #[]] }, W1, gf,
    #[.func (.yield (w.heap.size + 1)) #[] #[]] ++ lb, W1, ?_, ?_, ?_, ?_, fun h => (by cases h), ?_⟩
  · rw [← hW1, hrec]; exact run_enterLoop_outer _ _ _ _ _
  · simp only [resolve, hg]
    simp [go_sem]
  · intro f' hf'; trivial
  · simp [invoke, go_sem, eg]
  · refine CallsIn.more ((hseq W1 hs1 hb1 (w.heap.size + 1)
      (fun pre W => I pre W ∧ W.heap[w.heap.size + 1]? = some (.loop (rec .ready none)) ∧ W.heap[w.heap.size]? = some (.deferred (some [])))
      (fun s A hs => hIz s A hs.1)
      (fun s A B hs hg' => ⟨hI s A B hs.1 hg', (hIt A B hg').b.trans hs.2.1, (hIt A B hg').a.trans hs.2.2⟩)
      ?_ ⟨hI1, hL1, hK1⟩).mono ?_) (Nat.zero_le _)
    · -- one round
      rintro pre x W ⟨hi, hl, hk⟩ hSp
      have hlt : w.heap.size + 1 < W.heap.size := (Array.getElem?_eq_some_iff.1 hl).1
      have hy := run_yield (P := P) (args := encs pre x) hl (by rw [hrec]; exact hps pre x)
      rw [hrec] at hy
      refine ⟨fn, _, assign, body, hy, roundIn_of_wpIn hfn (wpIn_mono (hround _ pre x W hi (by omega) hSp) ?_)⟩
      clear hy
      rintro ea a' Wa hq
      cases ea with
      | normal => ?_
      | ret => exact hq.elim
      | exit id => exact hq.elim
      | goto t => exact hq.elim
      | panic c => exact hq.elim
      | outgrown => exact hq.elim
      obtain ⟨h2a, hkpa, hbody⟩ := hq
      replace hl := h2a.b.trans hl
      replace hk := h2a.a.trans hk
      replace hlt : w.heap.size + 1 < Wa.heap.size := (Array.getElem?_eq_some_iff.1 hl).1
      refine ⟨_, run_beginRound hl (by rw [hrec]), ?_⟩
      have hl2 : (Wa.putObj (w.heap.size + 1) (.loop { rec .ready none with state := .busy })).heap[w.heap.size + 1]? = some (.loop { rec .ready none with state := .busy }) := World.putObj_heap_same hlt
      have hk2 : (Wa.putObj (w.heap.size + 1) (.loop { rec .ready none with state := .busy })).heap[w.heap.size]? = some (.deferred (some [])) := (World.putObj_heap_other (by omega)).trans hk
      have hw2 : Kp Wa (Wa.putObj (w.heap.size + 1) (.loop { rec .ready none with state := .busy })) := hKb _ _
      refine wpIn_mono (hbody _ (Put1.putObj _ _ _) ⟨_, hl2⟩) ?_
      have fin : ∀ (jump : Option Code) (W3 : World), Same2 w.heap.size (Wa.putObj (w.heap.size + 1) (.loop { rec .ready none with state := .busy })) W3 →
          (Instr.endRound (w.heap.size + 1) jump).run P W3 = .ok (.bool jump.isNone) (W3.putObj (w.heap.size + 1) (.loop (rec (if jump.isNone then .ready else .done) jump))) ∧
          (W3.putObj (w.heap.size + 1) (.loop (rec (if jump.isNone then .ready else .done) jump))).heap[w.heap.size + 1]? = some (.loop (rec (if jump.isNone then .ready else .done) jump)) ∧
          (W3.putObj (w.heap.size + 1) (.loop (rec (if jump.isNone then .ready else .done) jump))).heap[w.heap.size]? = some (.deferred (some [])) := fun jump W3 hk3 => by
        have hl3 := hk3.b.trans hl2
        have := run_endRound (P := P) jump hl3
        rw [hrec] at this ⊢
        exact ⟨this, World.putObj_heap_same (Array.getElem?_eq_some_iff.1 hl3).1, (World.putObj_heap_other (by omega)).trans (hk3.a.trans hk2)⟩
      rintro e a3 W3 hp
      cases e with
      | normal =>
        obtain ⟨hk3, hkp3, hi3⟩ := hp
        obtain ⟨hr, hl4, hk4⟩ := fin none W3 hk3
        exact ⟨_, _, hr, rfl, ⟨hIb _ _ _ hi3, hl4, hk4⟩, hKt hkpa (hKt (hKt hw2 hkp3) (hKb _ _))⟩
      | ret => exact hp.elim
      | exit id => exact hp.elim
      | goto t => exact hp.elim
      | panic ch => exact hp.elim
      | outgrown => exact hp.elim
    · -- behind the iterator
      rintro e W2 ⟨⟨v, rfl⟩, xs, hS, hi, hl, hk⟩
      exact ⟨none, _, by have := run_endLoop (P := P) hl (by rw [hrec]; simp); rw [hrec] at this; exact this, hdone xs _ hS (hIb _ _ _ hi) ((World.putObj_heap_other (by omega)).trans hk)⟩

end Go.Proofs.YtldhbjmillfjgaaGreatDoor

namespace Go.Proofs.YtldhbjmillfjgaaGreatDoor
open Go.RowKit
set_option linter.unusedVariables false
attribute [local go_sem] Oper.semAt_some yieldsUpon okUpon

theorem chunks_any (b : Nat) (w : World) : Calls Tryz.prog 39 #[.pointer (some ⟨b, 0, none⟩)] w fun e w' => e = .returned (.func (.func 71) #[] #[.pointer (some ⟨w.heap.size, 0, none⟩)]) ∧ w' = w.alloc (.cells #[.pointer (some ⟨b, 0, none⟩)] 23) := by
  go_enter Tryz.func39, Tryz.ntmps39
  go_wp2
  go_ret
  exact ⟨rfl, rfl⟩

/-- What lies in the iterator's own boxes. -/
def walkB (l yb wb : Nat) (A : World) : Prop :=
  A.heap[wb]? = some (.cells #[.func (.func 72) #[] #[.pointer (some ⟨wb, 0, none⟩), .pointer (some ⟨yb, 0, none⟩)]] 128 (0, 0)) ∧
  A.heap[yb]? = some (.cells #[.func (.yield l) #[] #[]] 127 (0, 0))

theorem below_drewN0 (A : World) (n : Nat) : Below A.heap.size A (A.drewN n) := ⟨rfl, rfl, rfl, Nat.le_refl _, fun _ _ => rfl⟩
set_option maxRecDepth 100000 in
set_option maxHeartbeats 4000000 in
theorem walk_nil (wb yb : Nat) (A : World) : Calls Tryz.prog 72 #[.pointer none, .pointer (some ⟨wb, 0, none⟩), .pointer (some ⟨yb, 0, none⟩)] A fun e A' => e = .returned (.bool true) ∧ ∃ n, A' = A.drewN n := by
  go_enter Tryz.func72, Tryz.ntmps72
  go_wp2
  go_quiet (fail)
  go_wp2
  go_ret
  exact ⟨rfl, _, rfl⟩

set_option maxRecDepth 100000 in
set_option maxHeartbeats 4000000 in
theorem walk_tree (l yb wb : Nat) (w : World) (N : List (List Nat)) (J : List (List Nat) → World → Prop) (Kp It : World → World → Prop)
    (hZ : ∀ pre A, J pre A → Below w.heap.size w A) (hIt : ∀ A B, Below A.heap.size A B → walkB l yb wb A → It A B) (hJ : ∀ pre A B, J pre A → It A B → J pre B)
    (hK : ∀ A B, Kp A B → walkB l yb wb A → walkB l yb wb B)
    (hY : ∀ pre x A, J pre A → (∃ rest, N = (pre ++ [x]) ++ rest) → YieldAt Fence.wide 0 Tryz.prog l #[.string (bytesOf x)] A fun e A' => e = .returned (.bool true) ∧ J (pre ++ [x]) A' ∧ Kp A A') :
    ∀ (t : T) (p : Option Addr) (pre : List (List Nat)) (A : World), isTree w p t → J pre A → walkB l yb wb A → (∃ rest, N = pre ++ t.chunks ++ rest) →
      CallsIn Fence.wide 0 Tryz.prog 72 #[.pointer p, .pointer (some ⟨wb, 0, none⟩), .pointer (some ⟨yb, 0, none⟩)] A fun e A' => e = .returned (.bool true) ∧ J (pre ++ t.chunks) A' ∧ walkB l yb wb A' := by
  intro t
  induction t with
  | nil =>
    intro p pre A ht hj hb hN
    obtain rfl : p = none := ht
    refine (callsIn_wide.2 (walk_nil wb yb A)).mono ?_
    rintro e A' ⟨rfl, n, rfl⟩
    exact ⟨rfl, by simpa [T.chunks] using hJ _ _ _ hj (hIt _ _ (below_drewN0 A n) hb), hb⟩
  | node tl c tr ihl ihr =>
    intro p pre A ht hj hb hN
    obtain ⟨b, pl, pr, rfl, ⟨a0, _⟩, ⟨a5, a6⟩, _, _, hl, hr⟩ := ht
    obtain ⟨rest, hrest⟩ := hN
    have hN1 : ∃ rest, N = pre ++ tl.chunks ++ rest := ⟨[c] ++ tr.chunks ++ rest, by rw [hrest]; simp [T.chunks]⟩
    have hN2 : ∃ rest, N = (pre ++ tl.chunks ++ [c]) ++ rest := ⟨tr.chunks ++ rest, by rw [hrest]; simp [T.chunks]⟩
    have hN3 : ∃ rest, N = (pre ++ tl.chunks ++ [c]) ++ tr.chunks ++ rest := ⟨rest, by rw [hrest]; simp [T.chunks]⟩
    -- the right tree, behind the node's own chunk
    have h3 : ∀ A2, J (pre ++ tl.chunks ++ [c]) A2 → walkB l yb wb A2 → (A2.cell? ⟨wb, 0, none⟩ = some (.func (.func 72) #[] #[.pointer (some ⟨wb, 0, none⟩), .pointer (some ⟨yb, 0, none⟩)]) ∧ A2.cell? ⟨b, 6, none⟩ = some (.pointer pr) ∧
        CallsIn Fence.wide 0 Tryz.prog 72 #[.pointer pr, .pointer (some ⟨wb, 0, none⟩), .pointer (some ⟨yb, 0, none⟩)] A2 fun e A' => e = .returned (.bool true) ∧ J (pre ++ (T.node tl c tr).chunks) A' ∧ walkB l yb wb A') := fun A2 hj2 hb2 =>
      ⟨Lib.cell_of_heap hb2.1 0, cell_on (hZ _ _ hj2) a6, (ihr pr _ A2 hr hj2 hb2 hN3).mono fun e A' h => ⟨h.1, by simpa [T.chunks] using h.2.1, h.2.2⟩⟩
    -- the node's own chunk, behind the left tree
    have h2 : ∀ A1, J (pre ++ tl.chunks) A1 → walkB l yb wb A1 → (A1.cell? ⟨yb, 0, none⟩ = some (.func (.yield l) #[] #[]) ∧ A1.cell? ⟨b, 0, none⟩ = some (.string (bytesOf c)) ∧
        YieldAt Fence.wide 0 Tryz.prog l #[.string (bytesOf c)] A1 fun e A2 => e = .returned (.bool true) ∧ (A2.cell? ⟨wb, 0, none⟩ = some (.func (.func 72) #[] #[.pointer (some ⟨wb, 0, none⟩), .pointer (some ⟨yb, 0, none⟩)]) ∧ A2.cell? ⟨b, 6, none⟩ = some (.pointer pr) ∧
        CallsIn Fence.wide 0 Tryz.prog 72 #[.pointer pr, .pointer (some ⟨wb, 0, none⟩), .pointer (some ⟨yb, 0, none⟩)] A2 fun e A' => e = .returned (.bool true) ∧ J (pre ++ (T.node tl c tr).chunks) A' ∧ walkB l yb wb A')) := fun A1 hj1 hb1 =>
      ⟨Lib.cell_of_heap hb1.2 0, cell_on (hZ _ _ hj1) a0, YieldAt.mono (hY _ c A1 hj1 hN2) fun e A2 h => ⟨h.1, h3 A2 h.2.1 (hK _ _ h.2.2 hb1)⟩⟩
    have hbd : walkB l yb wb A.drew := hb
    have hjd : J pre A.drew := hJ _ _ _ hj (hIt _ _ (Below.refl _ _).drew hb)
    have h1 := (ihl pl pre A.drew hl hjd hbd hN1).mono fun e A1 h => (⟨h.1, h2 A1 h.2.1 h.2.2⟩ : e = .returned (.bool true) ∧ _)
    have b0 : A.cell? ⟨wb, 0, none⟩ = some (.func (.func 72) #[] #[.pointer (some ⟨wb, 0, none⟩), .pointer (some ⟨yb, 0, none⟩)]) := Lib.cell_of_heap hb.1 0
    have b1 : A.cell? ⟨b, 5, none⟩ = some (.pointer pl) := cell_on (hZ _ _ hj) a5
    have HP : Hid (∀ A', J (pre ++ (T.node tl c tr).chunks) A' → walkB l yb wb A' → True) := fun _ _ _ => trivial
    clear hZ hIt hJ hK hY hj hb hN1 hN2 hN3 h3 h2 hbd hjd a0 a5 a6 hl hr ihl ihr hrest
    refine callsIn_of_wp Tryz.func72 rfl trivial ?_ rfl
    simp only [Tryz.ntmps72, List.size_toArray, List.length_cons, List.length_nil, Nat.reduceAdd, Nat.reduceSub, Array.replicate_succ, Array.replicate_zero, List.push_toArray, List.append_toArray, List.nil_append, List.cons_append]
    gi_wp2
    gi_region_with (first
      | (refine ⟨trivial, rfl, ?_⟩; gi_at_call 72; refine h1.mono ?_; clear h1; rintro e A1 ⟨rfl, c0, c1, fn, tmps, assign, body, hy, hR⟩)
      | (refine ⟨rfl, hR.mono ?_⟩; clear hR; rintro e A2 ⟨rfl, d0, d1, hR3⟩)
      | (refine ⟨trivial, rfl, ?_⟩; gi_at_call 72; refine hR3.mono ?_; clear hR3; rintro e A3 ⟨rfl, hJ3, hB3⟩))
    all_goals
      gi_wp2
      go_ret
      exact ⟨rfl, hJ3, hB3⟩
end Go.Proofs.YtldhbjmillfjgaaGreatDoor

namespace Go.Proofs.YtldhbjmillfjgaaGreatDoor
open Go.RowKit
set_option linter.unusedVariables false
attribute [local go_sem] Oper.semAt_some yieldsUpon okUpon

/-- A round keeps all but the builder's box, the loop's record, and rows of bytes. -/
def keptR (bb lp : Nat) (A B : World) : Prop := A.heap.size ≤ B.heap.size ∧ ∀ x obj, A.heap[x]? = some obj → x ≠ bb → x ≠ lp → (∀ c fz, obj ≠ .cells c 5 fz) → B.heap[x]? = some obj
theorem keptR_trans {bb lp : Nat} {A B C : World} (h : keptR bb lp A B) (k : keptR bb lp B C) : keptR bb lp A C :=
  ⟨Nat.le_trans h.1 k.1, fun x obj h0 h1 h2 h3 => k.2 x obj (h.2 x obj h0 h1 h2 h3) h1 h2 h3⟩
theorem set_new (W : World) (v u : Value) (t : TypeId) : ((W.alloc (.cells #[v] t)).setCell ⟨W.heap.size, 0, none⟩ u).heap[W.heap.size]? = some (.cells #[u] t (0, 0)) := by
  have h := World.alloc_heap_new W (.cells #[v] t)
  obtain ⟨hlt, hk⟩ := Array.getElem?_eq_some_iff.1 h
  show ((W.alloc (.cells #[v] t)).heap.modify W.heap.size _)[W.heap.size]? = _
  rw [Array.getElem?_eq_getElem (by rw [Array.size_modify]; exact hlt), Array.getElem_modify_self, hk]
  rfl

set_option maxRecDepth 100000 in
set_option maxHeartbeats 4000000 in
theorem chunks_seq (b rb bb lp : Nat) (w W : World) (q : Option Addr) (t : T) (hq : w.cell? ⟨b, 0, none⟩ = some (.pointer q)) (ht : isTree w q t) (hrb : rb < W.heap.size) (hbb : bb < W.heap.size) (hlp : lp < W.heap.size) :
    SeqAll Tryz.prog 71 #[.pointer (some ⟨rb, 0, none⟩)] (fun _ (x : List Nat) => #[.string (bytesOf x)]) (fun A B => Below A.heap.size A B ∧ W.heap.size ≤ A.heap.size) (keptR bb lp)
      (fun A => Below w.heap.size w A ∧ A.heap[rb]? = some (.cells #[.pointer (some ⟨b, 0, none⟩)] 23 (0, 0))) (fun xs => xs = t.chunks) (fun pre => ∃ rest, t.chunks = pre ++ rest) W := by
  intro l J hZ hJ hY hj0
  obtain ⟨W2, hW2⟩ : ∃ W2, W2 = ((W.alloc (.cells #[.func (.yield l) #[] #[]] 127)).alloc (.cells #[.nilFunc] 128)).setCell ⟨W.heap.size + 1, 0, none⟩ (.func (.func 72) #[] #[.pointer (some ⟨W.heap.size + 1, 0, none⟩), .pointer (some ⟨W.heap.size, 0, none⟩)]) := ⟨_, rfl⟩
  have hb2 : Below W.heap.size W W2 := by
    rw [hW2]
    exact ((((Below.refl _ W).alloc (Nat.le_refl _) _).alloc (by simp) _)).setCell (p := ⟨W.heap.size + 1, 0, none⟩) (by show W.heap.size ≤ W.heap.size + 1; omega) _
  have hwb : walkB l W.heap.size (W.heap.size + 1) W2 := by
    rw [hW2]
    refine ⟨?_, ?_⟩
    · have := set_new (W.alloc (.cells #[.func (.yield l) #[] #[]] 127)) .nilFunc (.func (.func 72) #[] #[.pointer (some ⟨W.heap.size + 1, 0, none⟩), .pointer (some ⟨W.heap.size, 0, none⟩)]) 128
      rwa [World.size_alloc] at this
    · rw [Below.heap_setCell _ _ _ _ (by show W.heap.size ≠ W.heap.size + 1; omega)]
      exact (Below.heap_alloc _ _ _ (by simp)).trans (World.alloc_heap_new _ _)
  have hj2 : J [] W2.drew := hJ _ _ _ hj0 ⟨hb2.trans ((Below.refl _ _).drew), Nat.le_refl _⟩
  have hz2 := hZ _ _ hj2
  have cR : W2.cell? ⟨rb, 0, none⟩ = some (.pointer (some ⟨b, 0, none⟩)) := Lib.cell_of_heap hz2.2 0
  have cW : W2.cell? ⟨W.heap.size + 1, 0, none⟩ = some (.func (.func 72) #[] #[.pointer (some ⟨W.heap.size + 1, 0, none⟩), .pointer (some ⟨W.heap.size, 0, none⟩)]) := Lib.cell_of_heap hwb.1 0
  have cT := ropetree_any b q W2.drew (cell_on hz2.1 hq)
  have hW := walk_tree l W.heap.size (W.heap.size + 1) w t.chunks J (keptR bb lp) (fun A B => Below A.heap.size A B ∧ W.heap.size ≤ A.heap.size) (fun pre A h => (hZ pre A h).1)
    (fun A B h k => ⟨h, by have := (Array.getElem?_eq_some_iff.1 k.2).1; omega⟩) hJ
    (fun A B h k => ⟨h.2 _ _ k.1 (by omega) (by omega) (by intro c fz e; cases e), h.2 _ _ k.2 (by omega) (by omega) (by intro c fz e; cases e)⟩)
    (fun pre x A hj hr => hY pre x A hj hr) t q [] W2.drew ht hj2 hwb ⟨[], by simp⟩
  have s0 : ((W.alloc (.cells #[.func (.yield l) #[] #[]] 127)).alloc (.cells #[.nilFunc] 128)).cell? ⟨W.heap.size + 1, 0, none⟩ = some .nilFunc := by simp [go_sem]
  have s1 : ((W.alloc (.cells #[.func (.yield l) #[] #[]] 127)).alloc (.cells #[.nilFunc] 128)).frozen? ⟨W.heap.size + 1, 0, none⟩ = false := by simp [go_sem]
  obtain ⟨W1, hW1⟩ : ∃ W1, ((W.alloc (.cells #[.func (.yield l) #[] #[]] 127)).alloc (.cells #[.nilFunc] 128)) = W1 := ⟨_, rfl⟩
  rw [hW1] at s0 s1 hW2
  have HW1 : Hid _ := hW1
  have HW2 : Hid _ := hW2
  clear hW1 hW2
  clear hZ hJ hY hj0 hb2 hwb hj2 hz2 hq ht hrb hbb hlp
  refine callsIn_of_wp Tryz.func71 rfl trivial ?_ rfl
  simp only [Tryz.ntmps71, List.size_toArray, List.length_cons, List.length_nil, Nat.reduceAdd, Nat.reduceSub, Array.replicate_succ, Array.replicate_zero, List.push_toArray, List.append_toArray, List.nil_append, List.cons_append]
  refine wpIn_seq_key (fun a' w' => a' = { tmps := #[.func (.yield l) #[] #[], .pointer (some ⟨rb, 0, none⟩), .pointer (some ⟨W.heap.size, 0, none⟩), undef, undef, undef, undef, undef, undef], defers := [] } ∧ w' = W.alloc (.cells #[.func (.yield l) #[] #[]] 127)) (fun Q' hQ => ?_) ?_
  · have HQ : Hid _ := hQ
    clear hQ
    gi_wp2
    exact HQ.out _ _ ⟨rfl, rfl⟩
  rintro a' w' ⟨rfl, rfl⟩
  refine wpIn_seq_key (fun a' w' => a' = { tmps := #[.func (.yield l) #[] #[], .pointer (some ⟨rb, 0, none⟩), .pointer (some ⟨W.heap.size, 0, none⟩), .pointer (some ⟨W.heap.size + 1, 0, none⟩), undef, undef, undef, undef, undef], defers := [] } ∧ w' = W1) (fun Q' hQ => ?_) ?_
  · have HQ : Hid _ := hQ
    clear hQ
    gi_wp2
    exact HQ.out _ _ ⟨rfl, HW1.out⟩
  rintro a' w' ⟨rfl, rfl⟩
  gi_wp2
  rw [← HW2.out]
  gi_region_with (first
    | (refine ⟨trivial, rfl, ?_⟩; gi_at_call 35; refine (callsIn_wide.2 cT).mono ?_; rintro e wx ⟨rfl, hwx⟩; obtain rfl := hwx.symm)
    | (refine ⟨trivial, rfl, ?_⟩; gi_at_call 72; refine hW.mono ?_; rintro e A3 ⟨rfl, hJ3, hB3⟩))
  all_goals
    gi_wp2
    go_end0
    exact ⟨⟨_, rfl⟩, _, rfl, by simpa using hJ3⟩
end Go.Proofs.YtldhbjmillfjgaaGreatDoor

namespace Go.Proofs
open Go.Shelf
def Tryz.lays169_ren : Go.Shelf.Ren := ⟨fun | 169 => 41 | n => n, fun | 70 => 86 | 9 => 9 | 0 => 0 | 72 => 89 | 37 => 87 | 127 => 129 | 3 => 3 | 5 => 5 | n => n, fun | n => n⟩
theorem Tryz.lays169 : Go.Proofs.Lays.n169 Tryz.prog Tryz.lays169_ren := {
  mixed := by kernel_rfl
  f169 := Tryz.func41.trans (congrArg some (by kernel_rfl))
  t0 := Tryz.underlying0
  a0 := Tryz.isAgg0
  z0 := Tryz.sizeOf0
  v0 := Tryz.zeroValue0
  t3 := Tryz.underlying3
  a3 := Tryz.isAgg3
  z3 := Tryz.sizeOf3
  v3 := Tryz.zeroValue3
  t9 := Tryz.underlying9
  a9 := Tryz.isAgg9
  z9 := Tryz.sizeOf9
  v9 := Tryz.zeroValue9
  t37 := Tryz.underlying87
  a37 := Tryz.isAgg87
  z37 := Tryz.sizeOf87
  v37 := Tryz.zeroValue87
  t70 := Tryz.underlying86
  a70 := Tryz.isAgg86
  z70 := Tryz.sizeOf86
  v70 := Tryz.zeroValue86
  t72 := Tryz.underlying89
  a72 := Tryz.isAgg89
  z72 := Tryz.sizeOf89
  v72 := Tryz.zeroValue89
  t127 := Tryz.underlying129
  a127 := Tryz.isAgg129
  z127 := Tryz.sizeOf129
  v127 := Tryz.zeroValue129 }
theorem Tryz.Builder_Extra_169 : Builder.Extra Tryz.prog Tryz.lays169_ren := {
  sizeBuilder := by kernel_rfl
  liesBuilder := by kernel_rfl
  t5 := Tryz.underlying5
  a5 := Tryz.isAgg5
  z5 := Tryz.sizeOf5
  v5 := Tryz.zeroValue5
  infoByte := by kernel_rfl
  cellsByte := by kernel_rfl
  sizeByte := by kernel_rfl
  neB5 := by decide }
open Go.RowKit in
theorem Tryz.Builder_String_any (B b : Nat) (l : List UInt8) (w : World) (h : Lib.IsBuilder 89 5 B b (Lib.byteCells l) w) (hBw : B ≤ w.heap.size) :
    Calls Tryz.prog 41 #[.pointer (some ⟨b, 0, none⟩)] w fun e w' => e = .returned (.string ⟨l.toArray⟩) ∧ Below B w w' := Any.Builder_String_any Tryz.lays169 Tryz.Builder_Extra_169 B b l w h hBw
end Go.Proofs

namespace Go.Proofs.YtldhbjmillfjgaaGreatDoor
open Go.RowKit
set_option linter.unusedVariables false

theorem size_builder : (Tryz.prog.info? 89).map (·.size) = some 2 := by kernel_rfl
theorem lies_builder : liesAt Tryz.prog Tryz.prog.depth 89 (2 / Tryz.prog.cellsOf 89) 0 89 1 = true := by kernel_rfl

set_option maxHeartbeats 1000000 in
set_option maxRecDepth 100000 in
theorem copyCheck_fresh (b : Nat) (w : World) (h0 : w.cell? ⟨b, 0, none⟩ = some (.pointer none)) (hsh : w.shape? b = some (89, 2)) (hfz : w.frozen? ⟨b, 0, none⟩ = false) :
    Calls Tryz.prog 73 #[.pointer (some ⟨b, 0, none⟩)] w fun e w' => e = .returned (.tuple #[]) ∧ w' = w.setCell ⟨b, 0, none⟩ (.pointer (some ⟨b, 0, none⟩)) := by
  obtain ⟨j, hj, hjs⟩ := Option.map_eq_some_iff.1 size_builder
  have h1 := fun w => Lib.run_to_unsafe (P := Tryz.prog) w ⟨b, 0, none⟩ Tryz.underlying86 Tryz.underlying138 hj (by rw [hjs]; decide) (e := 89) (cells := 2)
  have h3 := Lib.run_from_unsafe (P := Tryz.prog) w ⟨b, 0, none⟩ Tryz.underlying138 Tryz.underlying86 hj hsh lies_builder
  have h1' := h1 w hsh (Nat.zero_lt_succ 1)
  have hNE := @run_callFunc_extern Tryz.prog 88 _ Extern.AbiNoEscape.same Tryz.func88 (by kernel_rfl) (by kernel_rfl) (by kernel_rfl) (by kernel_rfl)
  have hNR := fun (x : Value) (w : World) => Lib.run_noEscape (P := Tryz.prog) w x
  clear h1
  go_enter Tryz.func73, Tryz.ntmps73
  go_wp2
  go_end0
  exact ⟨rfl, rfl⟩
set_option maxHeartbeats 1000000 in
set_option maxRecDepth 100000 in
theorem copyCheck_used (b : Nat) (w : World) (h0 : w.cell? ⟨b, 0, none⟩ = some (.pointer (some ⟨b, 0, none⟩))) :
    Calls Tryz.prog 73 #[.pointer (some ⟨b, 0, none⟩)] w fun e w' => e = .returned (.tuple #[]) ∧ w' = w := by
  obtain ⟨j, hj, _⟩ := Option.map_eq_some_iff.1 size_builder
  have hne := Lib.run_neq_ptr_same (P := Tryz.prog) w ⟨b, 0, none⟩ Tryz.underlying86 hj
  go_enter Tryz.func73, Tryz.ntmps73
  go_wp2
  go_end0
  exact ⟨rfl, rfl⟩

theorem copyCheck_any (B b : Nat) (bs : List Value) (w : World) (h : Lib.IsBuilder 89 5 B b bs w) :
    Calls Tryz.prog 73 #[.pointer (some ⟨b, 0, none⟩)] w fun e w' => e = .returned (.tuple #[]) ∧ (Lib.BuilderAt 89 5 B b (.pointer (some ⟨b, 0, none⟩)) bs w' ∧ Below B w w' ∧ Lib.OthersKept 5 (some b) w w') := by
  rcases h with h | h
  · refine (copyCheck_fresh b w h.cell0 h.shape h.frozen0).mono ?_
    rintro e w' ⟨rfl, rfl⟩
    exact ⟨rfl, h.used _, (Below.refl B w).setCell (p := ⟨b, 0, none⟩) h.1 _, (Lib.OthersKept.refl _ _ w).setCell ⟨b, 0, none⟩ rfl _⟩
  · refine (copyCheck_used b w h.cell0).mono ?_
    rintro e w' ⟨rfl, rfl⟩
    exact ⟨rfl, h, Below.refl B _, Lib.OthersKept.refl _ _ _⟩

set_option maxHeartbeats 2000000 in
set_option maxRecDepth 100000 in
theorem WriteString_any (B b : Nat) (bs : List Value) (s : ByteArray) (w : World) (h : Lib.IsBuilder 89 5 B b bs w) (hlen : bs.length + s.size ≤ 1000000000000) (hBw : B ≤ w.heap.size) :
    Calls Tryz.prog 40 #[.pointer (some ⟨b, 0, none⟩), .string s] w fun e w' => (∃ v, e = .returned v) ∧ (Lib.IsBuilder 89 5 B b (bs ++ Lib.strCells s) w' ∧ Below B w w' ∧ Lib.OthersKept 5 (some b) w w') := by
  obtain ⟨i0, hi, hz0, hz1, hz2⟩ := info_parts info_u8
  have cC := copyCheck_any B b bs w h
  clear h
  go_enter Tryz.func40, Tryz.ntmps40
  go_wp2_with (first | (go_at_call 73; refine cC.mono ?_; rintro e w1 ⟨rfl, ⟨hB, v, hbk, hown, hne⟩, hb1, hk1⟩; have c0 : w1.cell? ⟨b, 0, none⟩ = some (.pointer (some ⟨b, 0, none⟩)) := (by rw [Lib.cell_of_heap hbk]; rfl); have c1 : w1.cell? ⟨b, 1, none⟩ = some v := (by rw [Lib.cell_of_heap hbk]; rfl)) | (at_builtin; refine Lib.wpList_append_own_string _ rfl _ _ 87 9 rfl B 5 i0 Tryz.underlying87 Tryz.underlying9 hi hz0 hz1 hz2 _ _ _ rfl hown s rfl (by unfold maxLen; omega) (by omega) (by have := hb1.size; omega) ?_) | fail)
  intro v' w2 hown' hgrow _
  have hlt : b < w1.heap.size := World.block_lt_of_cell? w1 _ c0
  have hb2 : w2.heap[b]? = some (.cells #[.pointer (some ⟨b, 0, none⟩), v] 89 (0, 0)) := by
    rw [hgrow.block b hlt (fun e => hne e.symm)]
    exact hbk
  have d0 : w2.cell? ⟨b, 0, none⟩ = some (.pointer (some ⟨b, 0, none⟩)) := by rw [Lib.cell_of_heap hb2]; rfl
  have d1 : w2.cell? ⟨b, 1, none⟩ = some v := by rw [Lib.cell_of_heap hb2]; rfl
  have f1 : w2.frozen? ⟨b, 1, none⟩ = false := Lib.frozen_of_heap hb2 1
  obtain ⟨ao, cap, rfl⟩ := own_slice hown'
  have HP : Hid (Lib.IsBuilder 89 5 B b (bs ++ Lib.strCells s) (w2.setCell ⟨b, 1, none⟩ (.slice ao (bs.length + s.size) cap)) ∧ Below B w (w2.setCell ⟨b, 1, none⟩ (.slice ao (bs.length + s.size) cap)) ∧ Lib.OthersKept 5 (some b) w (w2.setCell ⟨b, 1, none⟩ (.slice ao (bs.length + s.size) cap))) := by
    refine ⟨.inr ?_, ?_, (hk1.grown hgrow (Lib.ownsRowF_kind (World.ownsRowF_of hown))).setCell ⟨b, 1, none⟩ rfl _⟩
    · exact Lib.BuilderAt.put (T := 89) (e := 5) hB hb2 (bs' := bs ++ Lib.strCells s) (by simpa [Lib.strCells_length] using hown') (by decide)
    · exact (hb1.grown hgrow (by have := hb1.size; omega) (fun k hk => (hown.lt k hk).1)).setCell (p := ⟨b, 1, none⟩) hB _
  clear hown hown' hgrow hb2 hbk hb1 hk1 c0 c1
  go_wp2
  go_ret2
  exact ⟨⟨_, rfl⟩, HP.out⟩
end Go.Proofs.YtldhbjmillfjgaaGreatDoor

namespace Go.Proofs.YtldhbjmillfjgaaGreatDoor
open Go.RowKit

theorem wp_range_ownD {α : Type} {P : Program} {g : Operand} {ps : Array Tmp} {assign body : Code} {Q : Exit → Act → World → Prop} {a : Act} {w : World} {n : Nat}
    {gf : Nat} {lb : Array Value} (hg : a.eval g = .func (.func gf) #[] lb) (eg : ∀ args w, (callFunc gf args).run P w = .ok (.enter gf args) w)
    {encs : List α → α → Array Value} (hps : ∀ pre x, (encs pre x).size = ps.size)
    {It Kp : World → World → Prop} {Z : World → Prop} {S Sp : List α → Prop}
    (hseq : ∀ W, W.heap.size = w.heap.size + 2 → Below w.heap.size w W → SeqOwn P gf lb encs It Kp Z S Sp W)
    (hIt : ∀ A B, It A B → Same2 w.heap.size A B)
    (hKt : ∀ {A B C : World}, Kp A B → Kp B C → Kp A C) (hKb : ∀ (A : World) (r : Loop), Kp A (A.putObj (w.heap.size + 1) (.loop r)))
    (I : List α → World → Prop) (Ix : Code → List α → World → Prop)
    (hIz : ∀ pre A, I pre A → Z A) (hIxz : ∀ c pre A, Ix c pre A → Z A)
    (hI : ∀ pre A B, I pre A → It A B → I pre B) (hIb : ∀ pre A (r : Loop), I pre A → I pre (A.putObj (w.heap.size + 1) (.loop r)))
    (hIx : ∀ c pre A B, Ix c pre A → It A B → Ix c pre B) (hIxb : ∀ c pre A (r : Loop), Ix c pre A → Ix c pre (A.putObj (w.heap.size + 1) (.loop r)))
    (h0 : ∀ W, W.heap.size = w.heap.size + 2 → Below w.heap.size w W → (∃ r, W.heap[w.heap.size + 1]? = some (.loop r)) → W.heap[w.heap.size]? = some (.deferred (some [])) → I [] W)
    (hround : ∀ (l : Nat) (pre : List α) (x : α) (W : World), I pre W → w.heap.size + 2 ≤ W.heap.size → Sp (pre ++ [x]) →
      assign.wpIn (Fence.wide.inRound l) 0 P (Exit.then (fun a₁ w₁ => Same2 w.heap.size W w₁ ∧ Kp W w₁ ∧ ∀ w₂, Put1 (w.heap.size + 1) w₁ w₂ → (∃ r, w₂.heap[w.heap.size + 1]? = some (.loop r)) → body.wpIn (Fence.wide.inRound l) 0 P (ownPostO w.heap.size Kp I Ix (pre ++ [x]) w₂) a₁ w₂) (fun _ _ _ => False))
        { tmps := (ps.zip (encs pre x)).foldl (fun t (p, v) => t.setIfInBounds p v) a.tmps, defers := [] } W)
    (hdone : ∀ (xs : List α) (W : World), S xs → I xs W → W.heap[w.heap.size]? = some (.deferred (some [])) → Q .normal { a with defers := { target := .collected w.heap.size, args := #[] } :: a.defers } W)
    (hstop : ∀ (c : Code) (pre : List α) (W : World), Sp pre → Ix c pre W → W.heap[w.heap.size]? = some (.deferred (some [])) → c.wpIn Fence.wide n P Q { a with defers := { target := .collected w.heap.size, args := #[] } :: a.defers } W) :
    (Code.rangeFunc g ps assign body).wpIn Fence.wide n P Q a w := by
  refine wpIn_rangeFunc ?_
  intro fn hfn
  obtain ⟨rec, hrec⟩ : ∃ rec : LoopState → Option Code → Loop, rec = fun st pe => { state := st, pending := pe, fn, tmps := a.tmps, params := ps, assign, body, defers := w.heap.size } := ⟨_, rfl⟩
  obtain ⟨W1, hW1⟩ : ∃ W1, (w.alloc (.deferred (some []))).alloc (.loop (rec .ready none)) = W1 := ⟨_, rfl⟩
  have hL1 : W1.heap[w.heap.size + 1]? = some (.loop (rec .ready none)) := by
    rw [← hW1]; have := World.alloc_heap_new (w.alloc (.deferred (some []))) (.loop (rec .ready none)); rwa [World.size_alloc] at this
  have hK1 : W1.heap[w.heap.size]? = some (.deferred (some [])) := by
    rw [← hW1]; exact (Below.heap_alloc _ _ _ (by simp)).trans (World.alloc_heap_new w _)
  have hs1 : W1.heap.size = w.heap.size + 2 := by rw [← hW1, World.size_alloc, World.size_alloc]
  have hb1 : Below w.heap.size w W1 := by
    rw [← hW1]; exact ((Below.refl _ w).alloc (Nat.le_refl _) _).alloc (by simp) _
  have hI1 : I [] W1 := h0 W1 hs1 hb1 ⟨_, hL1⟩ hK1
  refine ⟨w.heap.size + 1, [{ target := .collected w.heap.size, args := #[] }], W1, { target := .fn (.func gf) lb, args := #[.func (.yield (w.heap.size + 1)) #[] #[]] }, W1, gf,
    #[.func (.yield (w.heap.size + 1)) #[] #[]] ++ lb, W1, ?_, ?_, ?_, ?_, fun h => (by cases h), ?_⟩
  · rw [← hW1, hrec]; exact run_enterLoop_outer _ _ _ _ _
  · simp only [resolve, hg]
    simp [go_sem]
  · intro f' hf'; trivial
  · simp [invoke, go_sem, eg]
  · refine CallsIn.more ((hseq W1 hs1 hb1 (w.heap.size + 1)
      (fun pre W => I pre W ∧ W.heap[w.heap.size + 1]? = some (.loop (rec .ready none)) ∧ W.heap[w.heap.size]? = some (.deferred (some [])))
      (fun pre W => ∃ c, Ix c pre W ∧ W.heap[w.heap.size + 1]? = some (.loop (rec .done (some c))) ∧ W.heap[w.heap.size]? = some (.deferred (some [])))
      (fun s A hs => hIz s A hs.1) (fun s A hs => (by obtain ⟨c, hc, _⟩ := hs; exact hIxz c s A hc))
      (fun s A B hs hg' => ⟨hI s A B hs.1 hg', (hIt A B hg').b.trans hs.2.1, (hIt A B hg').a.trans hs.2.2⟩)
      (fun s A B hs hg' => by
        obtain ⟨c, hc, hl, hk⟩ := hs
        exact ⟨c, hIx c s A B hc hg', (hIt A B hg').b.trans hl, (hIt A B hg').a.trans hk⟩)
      ?_ ⟨hI1, hL1, hK1⟩).mono ?_) (Nat.zero_le _)
    · -- one round
      rintro pre x W ⟨hi, hl, hk⟩ hSp
      have hlt : w.heap.size + 1 < W.heap.size := (Array.getElem?_eq_some_iff.1 hl).1
      have hy := run_yield (P := P) (args := encs pre x) hl (by rw [hrec]; exact hps pre x)
      rw [hrec] at hy
      refine ⟨fn, _, assign, body, hy, roundIn_of_wpIn hfn (wpIn_mono (hround _ pre x W hi (by omega) hSp) ?_)⟩
      clear hy
      rintro ea a' Wa hq
      cases ea with
      | normal => ?_
      | ret => exact hq.elim
      | exit id => exact hq.elim
      | goto t => exact hq.elim
      | panic c => exact hq.elim
      | outgrown => exact hq.elim
      obtain ⟨h2a, hkpa, hbody⟩ := hq
      replace hl := h2a.b.trans hl
      replace hk := h2a.a.trans hk
      replace hlt : w.heap.size + 1 < Wa.heap.size := (Array.getElem?_eq_some_iff.1 hl).1
      refine ⟨_, run_beginRound hl (by rw [hrec]), ?_⟩
      have hl2 : (Wa.putObj (w.heap.size + 1) (.loop { rec .ready none with state := .busy })).heap[w.heap.size + 1]? = some (.loop { rec .ready none with state := .busy }) := World.putObj_heap_same hlt
      have hk2 : (Wa.putObj (w.heap.size + 1) (.loop { rec .ready none with state := .busy })).heap[w.heap.size]? = some (.deferred (some [])) := (World.putObj_heap_other (by omega)).trans hk
      have hw2 : Kp Wa (Wa.putObj (w.heap.size + 1) (.loop { rec .ready none with state := .busy })) := hKb _ _
      refine wpIn_mono (hbody _ (Put1.putObj _ _ _) ⟨_, hl2⟩) ?_
      have fin : ∀ (jump : Option Code) (W3 : World), Same2 w.heap.size (Wa.putObj (w.heap.size + 1) (.loop { rec .ready none with state := .busy })) W3 →
          (Instr.endRound (w.heap.size + 1) jump).run P W3 = .ok (.bool jump.isNone) (W3.putObj (w.heap.size + 1) (.loop (rec (if jump.isNone then .ready else .done) jump))) ∧
          (W3.putObj (w.heap.size + 1) (.loop (rec (if jump.isNone then .ready else .done) jump))).heap[w.heap.size + 1]? = some (.loop (rec (if jump.isNone then .ready else .done) jump)) ∧
          (W3.putObj (w.heap.size + 1) (.loop (rec (if jump.isNone then .ready else .done) jump))).heap[w.heap.size]? = some (.deferred (some [])) := fun jump W3 hk3 => by
        have hl3 := hk3.b.trans hl2
        have := run_endRound (P := P) jump hl3
        rw [hrec] at this ⊢
        exact ⟨this, World.putObj_heap_same (Array.getElem?_eq_some_iff.1 hl3).1, (World.putObj_heap_other (by omega)).trans (hk3.a.trans hk2)⟩
      rintro e a3 W3 hp
      cases e with
      | normal =>
        obtain ⟨hk3, hkp3, hi3⟩ := hp
        obtain ⟨hr, hl4, hk4⟩ := fin none W3 hk3
        exact ⟨_, _, hr, .inl ⟨rfl, ⟨hIb _ _ _ hi3, hl4, hk4⟩, hKt hkpa (hKt (hKt hw2 hkp3) (hKb _ _))⟩⟩
      | ret =>
        obtain ⟨hk3, hkp3, hi3⟩ := hp
        obtain ⟨hr, hl4, hk4⟩ := fin (some .ret) W3 hk3
        exact ⟨_, _, hr, .inr ⟨rfl, ⟨.ret, hIxb _ _ _ _ hi3, hl4, hk4⟩, hKt hkpa (hKt (hKt hw2 hkp3) (hKb _ _))⟩⟩
      | exit id =>
        obtain ⟨hk3, hkp3, hi3⟩ := hp
        obtain ⟨hr, hl4, hk4⟩ := fin (some (.exit id)) W3 hk3
        exact ⟨_, _, hr, .inr ⟨rfl, ⟨.exit id, hIxb _ _ _ _ hi3, hl4, hk4⟩, hKt hkpa (hKt (hKt hw2 hkp3) (hKb _ _))⟩⟩
      | goto t =>
        obtain ⟨hk3, hkp3, hi3⟩ := hp
        obtain ⟨hr, hl4, hk4⟩ := fin (some (.goto t)) W3 hk3
        exact ⟨_, _, hr, .inr ⟨rfl, ⟨.goto t, hIxb _ _ _ _ hi3, hl4, hk4⟩, hKt hkpa (hKt (hKt hw2 hkp3) (hKb _ _))⟩⟩
      | panic ch => exact hp.elim
      | outgrown => exact hp.elim
    · -- behind the iterator
      rintro e W2 ⟨⟨v, rfl⟩, (⟨xs, hS, hi, hl, hk⟩ | ⟨pre, hSp, c, hi, hl, hk⟩)⟩
      · exact ⟨none, _, by have := run_endLoop (P := P) hl (by rw [hrec]; simp); rw [hrec] at this; exact this, hdone xs _ hS (hIb _ _ _ hi) ((World.putObj_heap_other (by omega)).trans hk)⟩
      · exact ⟨some c, _, by have := run_endLoop (P := P) hl (by rw [hrec]; simp); rw [hrec] at this; exact this, hstop c pre _ hSp (hIxb _ _ _ _ hi) ((World.putObj_heap_other (by omega)).trans hk)⟩

end Go.Proofs.YtldhbjmillfjgaaGreatDoor

namespace Go.Proofs.YtldhbjmillfjgaaGreatDoor
open Go.RowKit
set_option linter.unusedVariables false
attribute [local go_sem] Oper.semAt_some

theorem String_any (B b : Nat) (l : List UInt8) (w : World) (h : Lib.IsBuilder 89 5 B b (Lib.byteCells l) w) (hBw : B ≤ w.heap.size) :
    Calls Tryz.prog 41 #[.pointer (some ⟨b, 0, none⟩)] w fun e w' => e = .returned (.string ⟨l.toArray⟩) ∧ (Below B w w' ∧ Lib.OthersKept 5 (some b) w w') := by
  have c : Calls Tryz.prog 41 #[.pointer (some ⟨b, 0, none⟩)] w fun e w' => e = .returned (.string ⟨l.toArray⟩) ∧ (Lib.IsBuilderF 89 5 B b (Lib.byteCells l) w' ∧ Below B w w' ∧ Lib.OthersKept 5 (some b) w w') := Any.Builder_String_any_k Tryz.lays169 Tryz.Builder_Extra_169 B b l w (.of h) hBw
  exact c.mono fun e w' h => ⟨h.1, h.2.2⟩

/-- What a part makes of its piece. -/
def madeP (x : Pt × List UInt8) : List UInt8 := (if 0 < x.1.keep then x.2 else []) ++ x.1.put
def applyP (ps : List Pt) (s : List UInt8) : List UInt8 := (pcs ps s).flatMap madeP

theorem pcs_len (ps : List Pt) (s : List UInt8) (h : fitsP ps s) : (((pcs ps s).map fun x => x.2.length).sum : Nat) ≤ s.length := by
  induction ps generalizing s with
  | nil => simp [pcs]
  | cons p ps ih =>
    obtain ⟨h1, h2, h3, h4⟩ := h
    have := ih _ h4
    simp only [pcs, List.map_cons, List.sum_cons]
    rw [List.length_take]
    rw [List.length_drop] at this
    omega
theorem pcs_puts (ps : List Pt) (s : List UInt8) : (pcs ps s).map (fun x => x.1.put.length) = ps.map fun p => p.put.length := by
  induction ps generalizing s with
  | nil => rfl
  | cons p ps ih => simp [pcs, ih]
def putsP (ps : List Pt) : Nat := (ps.map fun p => p.put.length).sum
theorem made_len (l : List (Pt × List UInt8)) : (l.flatMap madeP).length ≤ (l.map fun x => x.2.length).sum + (l.map fun x => x.1.put.length).sum := by
  induction l with
  | nil => simp
  | cons x l ih =>
    simp only [List.flatMap_cons, List.length_append, List.map_cons, List.sum_cons]
    have : (madeP x).length ≤ x.2.length + x.1.put.length := by
      unfold madeP
      rw [List.length_append]
      split <;> simp
    omega
theorem made_pre {ps : List Pt} {s : List UInt8} (h : fitsP ps s) {pre rest : List (Pt × List UInt8)} (e : pcs ps s = pre ++ rest) : (pre.flatMap madeP).length ≤ s.length + putsP ps := by
  have h1 := made_len pre
  have h2 := pcs_len ps s h
  have h3 := congrArg List.sum (pcs_puts ps s)
  rw [e] at h2 h3
  rw [List.map_append, List.sum_append] at h2 h3
  unfold putsP
  omega

theorem own_put {A B : World} {n N e size k : Nat} {v : Value} {xs : List Value} {r : Loop} (h : A.ownsRow N e size v k xs) (hn : A.heap[n]? = some (.loop r)) (hp : Put1 n A B) : B.ownsRow N e size v k xs := by
  obtain ⟨h0, hrow⟩ := h
  refine ⟨h0, ?_⟩
  rcases hrow with hx | ⟨g, cap, cur, rfl, hg, hgg, rest⟩
  · exact .inl hx
  · refine .inr ⟨g, cap, cur, rfl, hg, (hp.block g ?_).trans hgg, rest⟩
    rintro rfl
    rw [hn] at hgg
    cases hgg
theorem bld_at {T e B b : Nat} {p : Value} {bs : List Value} {w w' : World} (h : Lib.BuilderAt T e B b p bs w) (hb : w'.heap[b]? = w.heap[b]?) (ho : ∀ v, w.ownsRow B e 1 v bs.length bs → w'.ownsRow B e 1 v bs.length bs) : Lib.BuilderAt T e B b p bs w' := by
  obtain ⟨h1, v, h2, h3, h4⟩ := h
  exact ⟨h1, v, hb.trans h2, ho v h3, h4⟩
theorem bld_is {T e B b : Nat} {bs : List Value} {w w' : World} (h : Lib.IsBuilder T e B b bs w) (hb : w'.heap[b]? = w.heap[b]?) (ho : ∀ v, w.ownsRow B e 1 v bs.length bs → w'.ownsRow B e 1 v bs.length bs) : Lib.IsBuilder T e B b bs w' :=
  h.elim (fun h => .inl (bld_at h hb ho)) (fun h => .inr (bld_at h hb ho))
theorem bld_lt {T e B b : Nat} {bs : List Value} {w : World} (h : Lib.IsBuilder T e B b bs w) : b < w.heap.size := h.elim Lib.BuilderAt.lt Lib.BuilderAt.lt

end Go.Proofs.YtldhbjmillfjgaaGreatDoor

namespace Go.Proofs.YtldhbjmillfjgaaGreatDoor
open Go.RowKit
set_option linter.unusedVariables false
attribute [local go_sem] Oper.semAt_some

/-- What a round of Text's loop keeps. -/
structure txI (w : World) (β : Nat) (v1 : Value) (r : Loop) (bs : List UInt8) (A : World) : Prop where
  below : Below w.heap.size w A
  size : β + 4 ≤ A.heap.size
  bld : Lib.IsBuilder 89 5 β β (Lib.byteCells bs) A
  h1 : A.heap[β + 1]? = some (.cells #[v1] 23 (0, 0))
  h3 : A.heap[β + 2]? = some (.deferred (some []))
  h4 : A.heap[β + 3]? = some (.loop r)
theorem txI.grow {w : World} {β : Nat} {v1 : Value} {r : Loop} {bs : List UInt8} {A B : World} (h : txI w β v1 r bs A) (hb : Below A.heap.size A B) : txI w β v1 r bs B := by
  have hs := h.size
  exact ⟨h.below.trans (hb.mono h.below.size), Nat.le_trans hs hb.size, bld_is h.bld (hb.block β (by omega)) (fun v hv => own_below hv hb), (hb.block (β + 1) (by omega)).trans h.h1, (hb.block (β + 2) (by omega)).trans h.h3, (hb.block (β + 3) (by omega)).trans h.h4⟩
theorem txI.put {w : World} {β : Nat} {v1 : Value} {r r' : Loop} {bs : List UInt8} {A B : World} (h : txI w β v1 r bs A) (hw : w.heap.size ≤ β) (hp : Put1 (β + 3) A B) (hl : B.heap[β + 3]? = some (.loop r')) : txI w β v1 r' bs B :=
  ⟨h.below.trans (hp.below (by omega)), by rw [hp.size]; exact h.size, bld_is h.bld (hp.block β (by omega)) (fun v hv => own_put hv h.h4 hp), (hp.block (β + 1) (by omega)).trans h.h1, (hp.block (β + 2) (by omega)).trans h.h3, hl⟩
theorem txI.wrote {w : World} {β : Nat} {v1 : Value} {r : Loop} {bs u : List UInt8} {A B : World} (h : txI w β v1 r bs A) (hw : w.heap.size ≤ β) (h1 : Lib.IsBuilder 89 5 β β (Lib.byteCells bs ++ Lib.strCells ⟨u.toArray⟩) B) (h2 : Below β A B) (h3 : Lib.OthersKept 5 (some β) A B) : txI w β v1 r (bs ++ u) B := by
  refine ⟨h.below.trans (h2.mono hw), Nat.le_trans h.size h2.size, ?_, h3 _ _ h.h1 (by simp) (by intro c fz e; cases e), h3 _ _ h.h3 (by simp) (by intro c fz e; cases e), h3 _ _ h.h4 (by simp) (by intro c fz e; cases e)⟩
  rw [Lib.byteCells_append]
  exact h1

set_option maxRecDepth 100000 in
set_option maxHeartbeats 8000000 in
theorem ropetext_any (b : Nat) (rs : List Nat) (w : World) (h : isRope w b rs) (hz : C1 rs ≤ 10000000) :
    Calls Tryz.prog 10 #[.pointer (some ⟨b, 0, none⟩)] w fun e w' => e = .returned (.string (bytesOf rs)) ∧ Below w.heap.size w w' := by
  obtain ⟨q, t, k1, k2, k3, k4, k5, k6⟩ := h
  have hen : (encs rs).length ≤ 10000000 := by rw [C1_len] at hz; omega
  have HQ : Hid (w.cell? ⟨b, 0, none⟩ = some (.pointer q)) := k1
  have HT : Hid (isTree w q t) := k4
  have HEN : Hid ((encs rs).length ≤ 10000000) := hen
  have hfl : t.chunks.flatten = rs := by rw [← runes_chunks]; exact k6
  have HFL : Hid (t.chunks.flatten = rs) := hfl
  have cK := fun (wx : World) => chunks_any b wx
  clear k1 k2 k3 k4 k5 k6 hz hen hfl
  refine (callsIn_wide (n := 3)).1 ?_
  refine callsIn_of_wp_marks Tryz.func10 rfl trivial ?_ rfl
  simp only [Tryz.ntmps10, List.size_toArray, List.length_cons, List.length_nil, Nat.reduceAdd, Nat.reduceSub, Array.replicate_succ, Array.replicate_zero, List.push_toArray, List.append_toArray, List.nil_append, List.cons_append]
  gi_wp2_with (first
    | (refine ⟨trivial, ?_⟩; gi_at_call 39; refine (callsIn_wide.2 (cK _)).mono ?_; rintro e w13 ⟨rfl, rfl⟩)
    | fail)
  obtain ⟨β, hβ⟩ : ∃ β, w.heap.size = β := ⟨_, rfl⟩
  obtain ⟨W4, hW4⟩ : ∃ W4, W4 = (w.alloc (.cells #[.pointer none, .slice none 0 0] 89)).alloc (.cells #[.pointer (some ⟨b, 0, none⟩)] 23) := ⟨_, rfl⟩
  have hb4 : Below w.heap.size w W4 := by rw [hW4]; exact ((Below.refl _ w).alloc (Nat.le_refl _) _).alloc (by simp) _
  have hs4 : W4.heap.size = β + 2 := by rw [hW4, ← hβ]; simp
  have q0 : W4.heap[β]? = some (.cells #[.pointer none, .slice none 0 0] 89 (0, 0)) := by rw [hW4, ← hβ]; exact (Below.heap_alloc _ _ _ (by simp)).trans (World.alloc_heap_new _ _)
  have q1 : W4.heap[β + 1]? = some (.cells #[.pointer (some ⟨b, 0, none⟩)] 23 (0, 0)) := by rw [hW4, ← hβ]; have := World.alloc_heap_new (w.alloc (.cells #[.pointer none, .slice none 0 0] 89)) (.cells #[.pointer (some ⟨b, 0, none⟩)] 23); rwa [World.size_alloc] at this
  rw [← hW4, hβ]
  have hlt1 : w.heap.size ≤ β := by omega
  clear hW4 cK
  refine wp_range_all (gf := 71) (lb := #[.pointer (some ⟨β + 1, 0, none⟩)]) rfl (enters_of Tryz.func71 (by kernel_rfl) rfl) (encs := fun _ (x : List Nat) => #[.string (bytesOf x)]) (fun _ _ => rfl)
    (It := fun A B => Below A.heap.size A B ∧ β + 4 ≤ A.heap.size) (Kp := keptR β (β + 3)) (Z := fun A => Below w.heap.size w A ∧ A.heap[β + 1]? = some (.cells #[.pointer (some ⟨b, 0, none⟩)] 23 (0, 0))) (S := fun xs => xs = t.chunks) (Sp := fun pre => ∃ rest, t.chunks = pre ++ rest)
    ?seq ?its (fun h k => keptR_trans h k) ?hkb
    (fun pre W => ∃ r, txI w β (.pointer (some ⟨b, 0, none⟩)) r (encs pre.flatten) W) ?iz ?ii ?ib ?h0 ?round ?done
  case seq =>
    intro W hs1 hb1
    rw [hs4] at hs1 hb1
    have := chunks_seq b (β + 1) β (β + 3) w W q t HQ.out HT.out (by omega) (by omega) (by omega)
    rw [hs1] at this
    exact this
  case its => exact fun A B h => Same2.of_below h.1 (by rw [hs4]; omega)
  case hkb =>
    intro A r
    rw [hs4]
    exact ⟨by simp, fun x obj h _ h2 _ => (World.putObj_heap_other h2).trans h⟩
  case iz => exact fun pre A h => by obtain ⟨r, h⟩ := h; exact ⟨h.below, h.h1⟩
  case ii => exact fun pre A B h hb => by obtain ⟨r, h⟩ := h; exact ⟨r, h.grow hb.1⟩
  case ib =>
    rintro pre A r ⟨r0, h⟩
    rw [hs4]
    exact ⟨r, h.put hlt1 (Put1.putObj _ _ _) (World.putObj_heap_same (by have := h.size; omega))⟩
  case h0 =>
    rintro W hs hb ⟨r, hr⟩ hd
    rw [hs4] at hs hb hr hd
    exact ⟨r, hb4.trans (hb.mono (by omega)), by omega, .inl ⟨Nat.le_refl _, .slice none 0 0, (hb.block β (by omega)).trans q0, World.ownsRow_nil _ _ _ _, by simp [Value.ownBlock]⟩, (hb.block (β + 1) (by omega)).trans q1, hd, hr⟩
  case round =>
    rintro l pre x W ⟨r0, hI⟩ hlW ⟨rest, hSp⟩
    rw [hs4] at hlW ⊢
    have hml : (encs pre.flatten).length + (encs x).length ≤ 10000000 := by
      have h1 := HEN.out
      rw [← HFL.out, hSp] at h1
      simp only [List.flatten_append, List.flatten_cons, List.flatten_nil, List.append_nil, encs_append, List.length_append] at h1
      omega
    have HML : Hid _ := hml
    have HI : Hid (txI w β (.pointer (some ⟨b, 0, none⟩)) r0 (encs pre.flatten) W) := hI
    have HNX : Hid (encs (pre ++ [x]).flatten = encs pre.flatten ++ encs x) := by show _ = _; simp [encs_append]
    clear hI hSp q0 q1 hb4 hml
    gi_wp2
    refine ⟨Same2.refl _ W, ⟨Nat.le_refl _, fun x obj h _ _ _ => h⟩, ?_⟩
    intro w2 hp ⟨r, hr⟩
    have hI2 := HI.out.put hlt1 hp hr
    have hL2 : (Lib.byteCells (encs pre.flatten)).length + (bytesOf x).size ≤ 1000000000000 := by have := HML.out; rw [Lib.byteCells_length, bytesOf_size]; omega
    have hB2 : β ≤ w2.heap.size := by have := hI2.size; omega
    have cW := WriteString_any β β (Lib.byteCells (encs pre.flatten)) (bytesOf x) w2 hI2.bld hL2 hB2
    have HI2 : Hid (txI w β (.pointer (some ⟨b, 0, none⟩)) r (encs pre.flatten) w2) := hI2
    clear hp hr hI2
    gi_wp2_with (first
      | (refine ⟨trivial, rfl, ?_⟩; gi_at_call 40; refine (CallsIn.inRound l (callsIn_wide.2 cW)).mono ?_; rintro e w5 ⟨⟨v5, rfl⟩, hw5, hb5, hk5⟩)
      | fail)
    have hI5 := HI2.out.wrote (u := encs x) hlt1 hw5 hb5 hk5
    refine ⟨⟨hI5.h3.trans HI2.out.h3.symm, hI5.h4.trans HI2.out.h4.symm⟩, ⟨hb5.size, fun y obj h h1 h2 h3 => hk5 y obj h (fun e => h1 (Option.some.inj e)) h3⟩, r, ?_⟩
    rw [HNX.out]
    exact hI5
  case done =>
    rintro xs W rfl ⟨r, hI⟩ hDef
    rw [hs4] at hDef ⊢
    rw [HFL.out] at hI
    have HI : Hid (txI w β (.pointer (some ⟨b, 0, none⟩)) r (encs rs) W) := hI
    have cS := String_any β β (encs rs) W HI.out.bld (by have := HI.out.size; omega)
    clear hI q0 q1 hb4
    gi_wp2_with (first
      | (refine ⟨trivial, ?_⟩; gi_at_call 41; refine (callsIn_wide.2 cS).mono ?_; rintro e w6 ⟨rfl, hb6, hk6⟩)
      | fail)
    have hDef6 := hk6 _ _ hDef (fun e => by have := Option.some.inj e; omega) (by intro c fz e; cases e)
    have hP := Put1.putObj (β + 2) w6 (.deferred none)
    refine ⟨by simp, .inl ⟨_, _, rfl, run_takeDeferred hDef6, ?_⟩⟩
    exact ⟨.string (bytesOf rs), by simp [results, Tryz.results10, go_sem]; rfl, rfl, (HI.out.below.trans (hb6.mono hlt1)).trans (hP.below (by omega))⟩
end Go.Proofs.YtldhbjmillfjgaaGreatDoor

namespace Go.Proofs.YtldhbjmillfjgaaGreatDoor
open Go.RowKit
set_option linter.unusedVariables false
attribute [local go_sem] Oper.semAt_some

def lnN (line : Int) (rs : List Nat) : List Nat := if line < 0 ∨ C4 rs < line then [] else find (reachesLine line) [] rs
def lnE (line : Int) (rs : List Nat) : Int := if line < 0 ∨ C4 rs < line then 2 else 0
theorem refLine_all (s : ByteArray) (rs : List Nat) (line : Int) (hr : ∀ r ∈ rs, isRune r) (he : encs rs = s.data.toList) (hs : s.size < 1000000) (w : World) :
    Calls Tryz.prog 17 #[.string s, .int .i64 line] w fun e w' => e = .returned (.tuple #[cntV (lnN line rs), .int .i64 (lnE line rs)]) ∧ Below w.heap.size w w' := by
  unfold lnN lnE
  by_cases hl : line < 0 ∨ C4 rs < line
  · rw [if_pos hl, if_pos hl]
    exact refLine_rng s rs line hr he hs hl w
  · rw [if_neg hl, if_neg hl]
    exact refLine_at s rs line hr he hs (by omega) (by omega) w
theorem lineLn_all (b : Nat) (rs : List Nat) (line : Int) (w : World) (hT : Lib.Utf8Tabs 2 3 w) (h : isRope w b rs) (hz : C1 rs ≤ 100000000) :
    Calls Tryz.prog 18 #[.pointer (some ⟨b, 0, none⟩), .int .i64 line] w fun e w' => e = .returned (.tuple #[cntV (lnN line rs), errV (lnE line rs)]) ∧ Below w.heap.size w w' := by
  unfold lnN lnE
  have c := line_all b rs line w hT h hz
  unfold lineE at c
  by_cases hl : line < 0 ∨ C4 rs < line
  · rw [if_pos hl] at c
    rw [if_pos hl, if_pos hl]
    exact c
  · rw [if_neg hl] at c
    rw [if_neg hl, if_neg hl]
    exact c
set_option maxHeartbeats 1000000 in
theorem high_tree (b : Nat) (q : Option Addr) (t : T) (w : World) (h : w.cell? ⟨b, 0, none⟩ = some (.pointer q)) (ht : isTree w q t) :
    Calls Tryz.prog 13 #[.pointer (some ⟨b, 0, none⟩)] w fun e w' => e = .returned (.int .i64 (t.height : Int)) ∧ Below w.heap.size w w' := by
  have cT := fun (wx : World) (hb : Below w.heap.size w wx) => ropetree_any b q wx (cell_on hb h)
  have cH := fun (wx : World) (hb : Below w.heap.size w wx) => nheight_any q t wx (isTree_below hb ht)
  have HB : Hid (Below w.heap.size w w) := Below.refl _ w
  clear h ht
  go_enter Tryz.func13, Tryz.ntmps13
  go_wp2_with (first
    | (go_at_call 35; refine (cT _ HB.out).mono ?_; rintro e w1 ⟨rfl, hw1⟩; obtain rfl := hw1.symm)
    | (go_at_call 42; refine (cH _ HB.out).mono ?_; rintro e w2 ⟨rfl, hb2⟩)
    | fail)
  go_ret
  first
    | exact ⟨rfl, hb2⟩
    | exact ⟨rfl, by rw [hb2]; exact HB.out⟩
    | (subst hb2; exact ⟨rfl, HB.out⟩)
set_option maxHeartbeats 1000000 in
theorem many_tree (b : Nat) (q : Option Addr) (t : T) (w : World) (h : w.cell? ⟨b, 0, none⟩ = some (.pointer q)) (ht : isTree w q t) :
    Calls Tryz.prog 14 #[.pointer (some ⟨b, 0, none⟩)] w fun e w' => e = .returned (.int .i64 (t.size : Int)) ∧ Below w.heap.size w w' := by
  have cT := fun (wx : World) (hb : Below w.heap.size w wx) => ropetree_any b q wx (cell_on hb h)
  have cH := fun (wx : World) (hb : Below w.heap.size w wx) => nsize_any q t wx (isTree_below hb ht)
  have HB : Hid (Below w.heap.size w w) := Below.refl _ w
  clear h ht
  go_enter Tryz.func14, Tryz.ntmps14
  go_wp2_with (first
    | (go_at_call 35; refine (cT _ HB.out).mono ?_; rintro e w1 ⟨rfl, hw1⟩; obtain rfl := hw1.symm)
    | (go_at_call 43; refine (cH _ HB.out).mono ?_; rintro e w2 ⟨rfl, hb2⟩)
    | fail)
  go_ret
  first
    | exact ⟨rfl, hb2⟩
    | exact ⟨rfl, by rw [hb2]; exact HB.out⟩
    | (subst hb2; exact ⟨rfl, HB.out⟩)

theorem chunks_most : ∀ {l : List (List Nat)}, (∀ c ∈ l, okChunk c) → (encs l.flatten).length ≤ 32 * l.length
  | [], _ => by simp [encs]
  | c :: l, h => by
    have h1 := (h c (List.mem_cons.2 (.inl rfl))).2.1
    have h2 := chunks_most fun x hx => h x (List.mem_cons.2 (.inr hx))
    rw [List.flatten_cons, encs_append, List.length_append, List.length_cons]
    omega
/-- How high, and how many chunks. -/
theorem rope_hm (b : Nat) (rs : List Nat) (w : World) (h : isRope w b rs) (hz : C1 rs ≤ 10000000) : ∃ hh m : Nat, ((m : Int) ≤ C1 rs ∧ C1 rs ≤ 32 * (m : Int)) ∧ m < 100000000 ∧
    (∀ wx, Below w.heap.size w wx → Calls Tryz.prog 13 #[.pointer (some ⟨b, 0, none⟩)] wx fun e w' => e = .returned (.int .i64 (hh : Int)) ∧ Below wx.heap.size wx w') ∧
    (∀ wx, Below w.heap.size w wx → Calls Tryz.prog 14 #[.pointer (some ⟨b, 0, none⟩)] wx fun e w' => e = .returned (.int .i64 (m : Int)) ∧ Below wx.heap.size wx w') ∧
    (∀ wx, Calls Tryz.prog 12 #[.int .i64 (hh : Int), .int .i64 (m : Int)] wx fun e w' => e = .returned (.bool true) ∧ Below wx.heap.size wx w') := by
  obtain ⟨q, t, k1, k2, k3, k4, k5, k6⟩ := h
  have h1 := okT_size k5.2
  have h2 := chunks_most k5.2
  rw [← runes_chunks, k6] at h1 h2
  have h3 := (C3_le rs).2
  unfold C3 at h3
  rw [← size_chunks] at h1 h2
  have hl := C1_len rs
  obtain ⟨g1, g2, g3⟩ := high_le t
  have hm : t.size < 100000000 := by omega
  refine ⟨t.height, t.size, by omega, hm, fun wx hb => high_tree b q t wx (cell_on hb k1) (isTree_below hb k4), fun wx hb => many_tree b q t wx (cell_on hb k1) (isTree_below hb k4), fun wx => low_any t.height t.size hm g2 (fun h => ⟨g3 h, g1⟩) (high_sq t k5.1) wx⟩
end Go.Proofs.YtldhbjmillfjgaaGreatDoor

namespace Go.Proofs.YtldhbjmillfjgaaGreatDoor
open Go.RowKit
set_option linter.unusedVariables false
attribute [local go_sem] Oper.semAt_some

set_option maxRecDepth 100000 in
set_option maxHeartbeats 8000000 in
theorem check_regionN {Qn : Act → World → Prop} (b BC : Nat) (rs : List Nat) (hh mm : Nat) (wr W2 : World) (x1 x2 x3 x4 x5 x6 x7 x8 x9 x10 x12 x13 x14 x15 x16 x17 x18 x20 x21 x22 x23 x24 x25 x26 x27 x28 x29 x30 x31 x32 x33 x34 x35 x36 x37 x38 x39 x40 x41 x42 x43 x44 x45 x46 x47 x48 x49 x50 x51 x52 x53 x54 x55 x56 x57 x58 x59 x60 x61 x62 x63 x64 x65 x66 x67 x68 x69 x70 x71 x72 x73 x74 x75 x76 x77 x78 x79 x80 x81 x82 x83 x84 x85 x86 x87 x88 x89 x90 x91 x92 x93 x94 x95 x96 x97 x98 x99 x100 x101 x102 x103 x104 x105 x106 x107 x108 x109 x110 x111 x112 x113 x114 x115 x116 x117 x118 x119 x120 x121 x122 x123 x124 x125 x126 x127 x128 x129 x130 x131 x132 x133 x134 x135 x136 x137 x138 x139 x140 x141 x142 x143 x144 x145 x146 x147 x148 x149 x150 x151 x152 x153 x154 x155 x156 x157 x158 x159 x160 x161 x162 x163 x164 x165 x166 x167 x168 x169 x170 x171 x172 x173 x174 x175 x176 x177 x178 x179 x180 x181 x182 x183 x184 x185 x186 x187 x188 x189 x190 x191 x192 x193 x194 x195 : Value)
    (DT : Hid (∀ w1, Below wr.heap.size wr w1 → Calls Tryz.prog 10 #[.pointer (some ⟨b, 0, none⟩)] w1 fun e w' => e = .returned (.string (bytesOf rs)) ∧ Below w1.heap.size w1 w'))
    (DC : Hid (∀ w1, Below wr.heap.size wr w1 → Calls Tryz.prog 11 #[.pointer (some ⟨b, 0, none⟩)] w1 fun e w' => e = .returned (.agg #[.int .i64 (C1 rs), .int .i64 (C2 rs), .int .i64 (C3 rs), .int .i64 (C4 rs)]) ∧ Below w1.heap.size w1 w'))
    (DH : Hid (∀ w1, Below wr.heap.size wr w1 → Calls Tryz.prog 13 #[.pointer (some ⟨b, 0, none⟩)] w1 fun e w' => e = .returned (.int .i64 (hh : Int)) ∧ Below w1.heap.size w1 w'))
    (DM : Hid (∀ w1, Below wr.heap.size wr w1 → Calls Tryz.prog 14 #[.pointer (some ⟨b, 0, none⟩)] w1 fun e w' => e = .returned (.int .i64 (mm : Int)) ∧ Below w1.heap.size w1 w'))
    (CLOW : Hid (∀ w1, Calls Tryz.prog 12 #[.int .i64 (hh : Int), .int .i64 (mm : Int)] w1 fun e w' => e = .returned (.bool true) ∧ Below w1.heap.size w1 w'))
    (h1 : (mm : Int) ≤ C1 rs) (h2 : C1 rs ≤ 32 * (mm : Int)) (h3 : C1 rs ≤ 8000) (hy : Below wr.heap.size wr W2) (hk : counted W2 BC (C1 rs) (C2 rs) (C3 rs) (C4 rs))
    (hQ : ∀ (y108 y109 y110 y111 y112 y113 y114 y115 y116 y117 y118 y119 y120 y121 y122 y123 y124 y125 y126 y127 y128 y129 y130 y131 y132 y133 y134 y135 y136 y137 y138 y139 : Value) (w' : World), Below wr.heap.size wr w' → Qn { tmps := #[.string (bytesOf rs), x1, x2, x3, x4, x5, x6, x7, x8, x9, x10, .pointer (some ⟨b, 0, none⟩), x12, x13, x14, x15, x16, x17, x18, .pointer (some ⟨BC, 0, none⟩), x20, x21, x22, x23, x24, x25, x26, x27, x28, x29, x30, x31, x32, x33, x34, x35, x36, x37, x38, x39, x40, x41, x42, x43, x44, x45, x46, x47, x48, x49, x50, x51, x52, x53, x54, x55, x56, x57, x58, x59, x60, x61, x62, x63, x64, x65, x66, x67, x68, x69, x70, x71, x72, x73, x74, x75, x76, x77, x78, x79, x80, x81, x82, x83, x84, x85, x86, x87, x88, x89, x90, x91, x92, x93, x94, x95, x96, x97, x98, x99, x100, x101, x102, x103, x104, x105, x106, x107, y108, y109, y110, y111, y112, y113, y114, y115, y116, y117, y118, y119, y120, y121, y122, y123, y124, y125, y126, y127, y128, y129, y130, y131, y132, y133, y134, y135, y136, y137, y138, y139, .bool false, x141, x142, x143, x144, x145, x146, x147, x148, x149, x150, x151, x152, x153, x154, x155, x156, x157, x158, x159, x160, x161, x162, x163, x164, x165, x166, x167, x168, x169, x170, x171, x172, x173, x174, x175, x176, x177, x178, x179, x180, x181, x182, x183, x184, x185, x186, x187, x188, x189, x190, x191, x192, x193, x194, x195], defers := [] } w') :
    (Go.Code.region 21 #[{ dst := some 108, op := Go.Op.move (Go.Operand.tmp 11), type := 23, pos := "law.go:147", after := #[], guard := none }, { dst := some 109, op := Go.Op.call { callee := Go.Callee.value (Go.Operand.func 10), args := #[Go.Operand.tmp 108], argTypes := #[23] }, type := 9, pos := "law.go:147", after := #[{ on := 0, ground := Go.Ground.data }], guard := none }, { dst := some 110, op := Go.Op.move (Go.Operand.tmp 0), type := 9, pos := "law.go:147", after := #[], guard := none }, { dst := some 111, op := Go.Op.binOp Go.BinOp.neq 9 (Go.Operand.tmp 109) (Go.Operand.tmp 110) 9, type := 4, pos := "law.go:147", after := #[{ on := 1, ground := Go.Ground.data }, { on := 2, ground := Go.Ground.data }], guard := none }, { dst := some 112, op := Go.Op.move (Go.Operand.tmp 111), type := 4, pos := "law.go:147", after := #[{ on := 3, ground := Go.Ground.data }, { on := 1, ground := Go.Ground.chain }], guard := none }, { dst := some 113, op := Go.Op.move (Go.Operand.tmp 11), type := 23, pos := "law.go:147", after := #[{ on := 4, ground := Go.Ground.guard }], guard := some (4, false) }, { dst := some 114, op := Go.Op.call { callee := Go.Callee.value (Go.Operand.func 11), args := #[Go.Operand.tmp 113], argTypes := #[23] }, type := 29, pos := "law.go:147", after := #[{ on := 5, ground := Go.Ground.data }, { on := 4, ground := Go.Ground.chain }, { on := 4, ground := Go.Ground.guard }], guard := some (4, false) }, { dst := some 115, op := Go.Op.load 29 (Go.Operand.tmp 19), type := 29, pos := "law.go:147", after := #[{ on := 4, ground := Go.Ground.guard }], guard := some (4, false) }, { dst := some 116, op := Go.Op.binOp Go.BinOp.neq 29 (Go.Operand.tmp 114) (Go.Operand.tmp 115) 29, type := 4, pos := "law.go:147", after := #[{ on := 6, ground := Go.Ground.data }, { on := 7, ground := Go.Ground.data }, { on := 4, ground := Go.Ground.guard }], guard := some (4, false) }, { dst := some 117, op := Go.Op.pick (Go.Operand.tmp 112) (Go.Operand.const (Go.Value.bool true)) (Go.Operand.tmp 116), type := 4, pos := "law.go:147", after := #[{ on := 4, ground := Go.Ground.data }, { on := 8, ground := Go.Ground.data }], guard := none }, { dst := some 118, op := Go.Op.move (Go.Operand.tmp 117), type := 4, pos := "law.go:147", after := #[{ on := 9, ground := Go.Ground.data }, { on := 6, ground := Go.Ground.chain }], guard := none }, { dst := some 119, op := Go.Op.move (Go.Operand.tmp 11), type := 23, pos := "law.go:147", after := #[{ on := 10, ground := Go.Ground.guard }], guard := some (10, false) }, { dst := some 120, op := Go.Op.call { callee := Go.Callee.value (Go.Operand.func 13), args := #[Go.Operand.tmp 119], argTypes := #[23] }, type := 3, pos := "law.go:147", after := #[{ on := 11, ground := Go.Ground.data }, { on := 10, ground := Go.Ground.chain }, { on := 10, ground := Go.Ground.guard }], guard := some (10, false) }, { dst := some 121, op := Go.Op.move (Go.Operand.tmp 11), type := 23, pos := "law.go:147", after := #[{ on := 10, ground := Go.Ground.guard }], guard := some (10, false) }, { dst := some 122, op := Go.Op.call { callee := Go.Callee.value (Go.Operand.func 14), args := #[Go.Operand.tmp 121], argTypes := #[23] }, type := 3, pos := "law.go:147", after := #[{ on := 13, ground := Go.Ground.data }, { on := 12, ground := Go.Ground.chain }, { on := 10, ground := Go.Ground.guard }], guard := some (10, false) }, { dst := some 123, op := Go.Op.call { callee := Go.Callee.value (Go.Operand.func 12), args := #[Go.Operand.tmp 120, Go.Operand.tmp 122], argTypes := #[3, 3] }, type := 4, pos := "law.go:147", after := #[{ on := 12, ground := Go.Ground.data }, { on := 14, ground := Go.Ground.data }, { on := 14, ground := Go.Ground.chain }, { on := 10, ground := Go.Ground.guard }], guard := some (10, false) }, { dst := some 124, op := Go.Op.unOp Go.UnOp.not 4 (Go.Operand.tmp 123), type := 4, pos := "law.go:147", after := #[{ on := 15, ground := Go.Ground.data }, { on := 10, ground := Go.Ground.guard }], guard := some (10, false) }, { dst := some 125, op := Go.Op.pick (Go.Operand.tmp 118) (Go.Operand.const (Go.Value.bool true)) (Go.Operand.tmp 124), type := 4, pos := "law.go:147", after := #[{ on := 10, ground := Go.Ground.data }, { on := 16, ground := Go.Ground.data }], guard := none }, { dst := some 126, op := Go.Op.move (Go.Operand.tmp 125), type := 4, pos := "law.go:147", after := #[{ on := 17, ground := Go.Ground.data }, { on := 15, ground := Go.Ground.chain }], guard := none }, { dst := some 127, op := Go.Op.move (Go.Operand.tmp 11), type := 23, pos := "law.go:147", after := #[{ on := 18, ground := Go.Ground.guard }], guard := some (18, false) }, { dst := some 128, op := Go.Op.call { callee := Go.Callee.value (Go.Operand.func 14), args := #[Go.Operand.tmp 127], argTypes := #[23] }, type := 3, pos := "law.go:147", after := #[{ on := 19, ground := Go.Ground.data }, { on := 18, ground := Go.Ground.chain }, { on := 18, ground := Go.Ground.guard }], guard := some (18, false) }, { dst := some 129, op := Go.Op.move (Go.Operand.tmp 0), type := 9, pos := "law.go:147", after := #[{ on := 18, ground := Go.Ground.guard }], guard := some (18, false) }, { dst := some 130, op := Go.Op.call { callee := Go.Callee.builtin Go.Builtin.len, args := #[Go.Operand.tmp 129], argTypes := #[9] }, type := 3, pos := "law.go:147", after := #[{ on := 21, ground := Go.Ground.data }, { on := 18, ground := Go.Ground.guard }], guard := some (18, false) }, { dst := some 131, op := Go.Op.binOp Go.BinOp.gtr 3 (Go.Operand.tmp 128) (Go.Operand.tmp 130) 3, type := 4, pos := "law.go:147", after := #[{ on := 20, ground := Go.Ground.data }, { on := 22, ground := Go.Ground.data }, { on := 18, ground := Go.Ground.guard }], guard := some (18, false) }, { dst := some 132, op := Go.Op.pick (Go.Operand.tmp 126) (Go.Operand.const (Go.Value.bool true)) (Go.Operand.tmp 131), type := 4, pos := "law.go:147", after := #[{ on := 18, ground := Go.Ground.data }, { on := 23, ground := Go.Ground.data }], guard := none }, { dst := some 133, op := Go.Op.move (Go.Operand.tmp 132), type := 4, pos := "law.go:147", after := #[{ on := 24, ground := Go.Ground.data }, { on := 20, ground := Go.Ground.chain }], guard := none }, { dst := some 134, op := Go.Op.move (Go.Operand.tmp 11), type := 23, pos := "law.go:147", after := #[{ on := 25, ground := Go.Ground.guard }], guard := some (25, false) }, { dst := some 135, op := Go.Op.call { callee := Go.Callee.value (Go.Operand.func 14), args := #[Go.Operand.tmp 134], argTypes := #[23] }, type := 3, pos := "law.go:147", after := #[{ on := 26, ground := Go.Ground.data }, { on := 25, ground := Go.Ground.chain }, { on := 25, ground := Go.Ground.guard }], guard := some (25, false) }, { dst := some 136, op := Go.Op.binOp Go.BinOp.mul 3 (Go.Operand.tmp 135) (Go.Operand.const (Go.Value.int Go.IntKind.i64 32)) 3, type := 3, pos := "law.go:147", after := #[{ on := 27, ground := Go.Ground.data }, { on := 25, ground := Go.Ground.guard }], guard := some (25, false) }, { dst := some 137, op := Go.Op.move (Go.Operand.tmp 0), type := 9, pos := "law.go:147", after := #[{ on := 25, ground := Go.Ground.guard }], guard := some (25, false) }, { dst := some 138, op := Go.Op.call { callee := Go.Callee.builtin Go.Builtin.len, args := #[Go.Operand.tmp 137], argTypes := #[9] }, type := 3, pos := "law.go:147", after := #[{ on := 29, ground := Go.Ground.data }, { on := 25, ground := Go.Ground.guard }], guard := some (25, false) }, { dst := some 139, op := Go.Op.binOp Go.BinOp.lss 3 (Go.Operand.tmp 136) (Go.Operand.tmp 138) 3, type := 4, pos := "law.go:147", after := #[{ on := 28, ground := Go.Ground.data }, { on := 30, ground := Go.Ground.data }, { on := 25, ground := Go.Ground.guard }], guard := some (25, false) }, { dst := some 140, op := Go.Op.pick (Go.Operand.tmp 133) (Go.Operand.const (Go.Value.bool true)) (Go.Operand.tmp 139), type := 4, pos := "law.go:147", after := #[{ on := 25, ground := Go.Ground.data }, { on := 31, ground := Go.Ground.data }], guard := none }] true).wp Tryz.prog (fun e a w => match e with | .normal => Qn a w | _ => False) { tmps := #[.string (bytesOf rs), x1, x2, x3, x4, x5, x6, x7, x8, x9, x10, .pointer (some ⟨b, 0, none⟩), x12, x13, x14, x15, x16, x17, x18, .pointer (some ⟨BC, 0, none⟩), x20, x21, x22, x23, x24, x25, x26, x27, x28, x29, x30, x31, x32, x33, x34, x35, x36, x37, x38, x39, x40, x41, x42, x43, x44, x45, x46, x47, x48, x49, x50, x51, x52, x53, x54, x55, x56, x57, x58, x59, x60, x61, x62, x63, x64, x65, x66, x67, x68, x69, x70, x71, x72, x73, x74, x75, x76, x77, x78, x79, x80, x81, x82, x83, x84, x85, x86, x87, x88, x89, x90, x91, x92, x93, x94, x95, x96, x97, x98, x99, x100, x101, x102, x103, x104, x105, x106, x107, x108, x109, x110, x111, x112, x113, x114, x115, x116, x117, x118, x119, x120, x121, x122, x123, x124, x125, x126, x127, x128, x129, x130, x131, x132, x133, x134, x135, x136, x137, x138, x139, x140, x141, x142, x143, x144, x145, x146, x147, x148, x149, x150, x151, x152, x153, x154, x155, x156, x157, x158, x159, x160, x161, x162, x163, x164, x165, x166, x167, x168, x169, x170, x171, x172, x173, x174, x175, x176, x177, x178, x179, x180, x181, x182, x183, x184, x185, x186, x187, x188, x189, x190, x191, x192, x193, x194, x195], defers := [] } W2 := by
  dsimp only at hQ ⊢
  have hsz : ((bytesOf rs).size : Int) = C1 rs := by rw [bytesOf_size, C1_len]
  have hmz : ¬ ((bytesOf rs).size : Int) < (mm : Int) := by omega
  have hmy : ¬ (mm : Int) * 32 < ((bytesOf rs).size : Int) := by omega
  have hmzn : ¬ (bytesOf rs).size < mm := by omega
  have hmyn : ¬ mm * 32 < (bytesOf rs).size := by omega
  have hmw : IntKind.i64.wrap ((mm : Int) * 32) = (mm : Int) * 32 := by rw [IntKind.wrap_i64]; omega
  have hzz : (bytesOf rs).size ≤ 8000 := by omega
  have HQ : Hid _ := hQ
  have hyd : Below wr.heap.size wr W2.drew := hy.trans ((Below.refl _ W2).drew.mono hy.size)
  have HY : Hid (Below wr.heap.size wr W2.drew) := hyd
  have HK : Hid (counted W2.drew BC (C1 rs) (C2 rs) (C3 rs) (C4 rs)) := hk
  obtain ⟨⟨e0, e1, e2, e3⟩, _⟩ := hk
  clear hQ hy hyd hsz h1 h2 h3
  go_region_with (first
    | (go_at_call 10; refine (DT.out _ HY.out).mono ?_; rintro e z1 ⟨rfl, hb1⟩; have HY1 : Hid (Below wr.heap.size wr z1) := HY.out.trans (hb1.mono HY.out.size); have hk1 := counted_below HK.out hb1; have HK1 : Hid _ := hk1; obtain ⟨⟨f0, f1, f2, f3⟩, _⟩ := hk1; clear hb1)
    | (go_at_call 11; refine (DC.out _ HY1.out).mono ?_; rintro e z2 ⟨rfl, hb2⟩; have HY2 : Hid (Below wr.heap.size wr z2) := HY1.out.trans (hb2.mono HY1.out.size); have hk2 := counted_below HK1.out hb2; have HK2 : Hid _ := hk2; obtain ⟨⟨g0, g1, g2, g3⟩, _⟩ := hk2; clear hb2)
    | (go_at_call 13; refine (DH.out _ HY2.out).mono ?_; rintro e z3 ⟨rfl, hb3⟩; have HY3 : Hid (Below wr.heap.size wr z3) := HY2.out.trans (hb3.mono HY2.out.size); clear hb3)
    | (have _ := HY6; go_at_call 14; refine (DM.out _ HY6.out).mono ?_; rintro e z7 ⟨rfl, hb7⟩; have HY7 : Hid (Below wr.heap.size wr z7) := HY6.out.trans (hb7.mono HY6.out.size); clear hb7)
    | (have _ := HY5; go_at_call 14; refine (DM.out _ HY5.out).mono ?_; rintro e z6 ⟨rfl, hb6⟩; have HY6 : Hid (Below wr.heap.size wr z6) := HY5.out.trans (hb6.mono HY5.out.size); clear hb6)
    | (go_at_call 14; refine (DM.out _ HY3.out).mono ?_; rintro e z4 ⟨rfl, hb4⟩; have HY4 : Hid (Below wr.heap.size wr z4) := HY3.out.trans (hb4.mono HY3.out.size); clear hb4)
    | (go_at_call 12; refine (CLOW.out _).mono ?_; rintro e z5 ⟨rfl, hb5⟩; have HY5 : Hid (Below wr.heap.size wr z5) := HY4.out.trans (hb5.mono HY4.out.size); clear hb5))
  all_goals
    first
      | exact HQ.out _ _ _ _ _ _ _ _ _ _ _ _ _ _ _ _ _ _ _ _ _ _ _ _ _ _ _ _ _ _ _ _ _ HY7.out
      | (rw [decide_eq_false (show ¬ (mm : Int) * 32 < ((bytesOf rs).size : Int) by omega)]; exact HQ.out _ _ _ _ _ _ _ _ _ _ _ _ _ _ _ _ _ _ _ _ _ _ _ _ _ _ _ _ _ _ _ _ _ HY7.out)
      | (go_simp; exact HQ.out _ _ _ _ _ _ _ _ _ _ _ _ _ _ _ _ _ _ _ _ _ _ _ _ _ _ _ _ _ _ _ _ _ HY7.out)
set_option maxRecDepth 100000 in
theorem check_region {Q : Exit → Act → World → Prop} (b BC : Nat) (rs : List Nat) (hh mm : Nat) (wr W2 : World) (x1 x2 x3 x4 x5 x6 x7 x8 x9 x10 x12 x13 x14 x15 x16 x17 x18 x20 x21 x22 x23 x24 x25 x26 x27 x28 x29 x30 x31 x32 x33 x34 x35 x36 x37 x38 x39 x40 x41 x42 x43 x44 x45 x46 x47 x48 x49 x50 x51 x52 x53 x54 x55 x56 x57 x58 x59 x60 x61 x62 x63 x64 x65 x66 x67 x68 x69 x70 x71 x72 x73 x74 x75 x76 x77 x78 x79 x80 x81 x82 x83 x84 x85 x86 x87 x88 x89 x90 x91 x92 x93 x94 x95 x96 x97 x98 x99 x100 x101 x102 x103 x104 x105 x106 x107 x108 x109 x110 x111 x112 x113 x114 x115 x116 x117 x118 x119 x120 x121 x122 x123 x124 x125 x126 x127 x128 x129 x130 x131 x132 x133 x134 x135 x136 x137 x138 x139 x140 x141 x142 x143 x144 x145 x146 x147 x148 x149 x150 x151 x152 x153 x154 x155 x156 x157 x158 x159 x160 x161 x162 x163 x164 x165 x166 x167 x168 x169 x170 x171 x172 x173 x174 x175 x176 x177 x178 x179 x180 x181 x182 x183 x184 x185 x186 x187 x188 x189 x190 x191 x192 x193 x194 x195 : Value)
    (DT : Hid (∀ w1, Below wr.heap.size wr w1 → Calls Tryz.prog 10 #[.pointer (some ⟨b, 0, none⟩)] w1 fun e w' => e = .returned (.string (bytesOf rs)) ∧ Below w1.heap.size w1 w'))
    (DC : Hid (∀ w1, Below wr.heap.size wr w1 → Calls Tryz.prog 11 #[.pointer (some ⟨b, 0, none⟩)] w1 fun e w' => e = .returned (.agg #[.int .i64 (C1 rs), .int .i64 (C2 rs), .int .i64 (C3 rs), .int .i64 (C4 rs)]) ∧ Below w1.heap.size w1 w'))
    (DH : Hid (∀ w1, Below wr.heap.size wr w1 → Calls Tryz.prog 13 #[.pointer (some ⟨b, 0, none⟩)] w1 fun e w' => e = .returned (.int .i64 (hh : Int)) ∧ Below w1.heap.size w1 w'))
    (DM : Hid (∀ w1, Below wr.heap.size wr w1 → Calls Tryz.prog 14 #[.pointer (some ⟨b, 0, none⟩)] w1 fun e w' => e = .returned (.int .i64 (mm : Int)) ∧ Below w1.heap.size w1 w'))
    (CLOW : Hid (∀ w1, Calls Tryz.prog 12 #[.int .i64 (hh : Int), .int .i64 (mm : Int)] w1 fun e w' => e = .returned (.bool true) ∧ Below w1.heap.size w1 w'))
    (h1 : (mm : Int) ≤ C1 rs) (h2 : C1 rs ≤ 32 * (mm : Int)) (h3 : C1 rs ≤ 8000) (hy : Below wr.heap.size wr W2) (hk : counted W2 BC (C1 rs) (C2 rs) (C3 rs) (C4 rs))
    (hQ : ∀ (y108 y109 y110 y111 y112 y113 y114 y115 y116 y117 y118 y119 y120 y121 y122 y123 y124 y125 y126 y127 y128 y129 y130 y131 y132 y133 y134 y135 y136 y137 y138 y139 : Value) (w' : World), Below wr.heap.size wr w' → Q .normal { tmps := #[.string (bytesOf rs), x1, x2, x3, x4, x5, x6, x7, x8, x9, x10, .pointer (some ⟨b, 0, none⟩), x12, x13, x14, x15, x16, x17, x18, .pointer (some ⟨BC, 0, none⟩), x20, x21, x22, x23, x24, x25, x26, x27, x28, x29, x30, x31, x32, x33, x34, x35, x36, x37, x38, x39, x40, x41, x42, x43, x44, x45, x46, x47, x48, x49, x50, x51, x52, x53, x54, x55, x56, x57, x58, x59, x60, x61, x62, x63, x64, x65, x66, x67, x68, x69, x70, x71, x72, x73, x74, x75, x76, x77, x78, x79, x80, x81, x82, x83, x84, x85, x86, x87, x88, x89, x90, x91, x92, x93, x94, x95, x96, x97, x98, x99, x100, x101, x102, x103, x104, x105, x106, x107, y108, y109, y110, y111, y112, y113, y114, y115, y116, y117, y118, y119, y120, y121, y122, y123, y124, y125, y126, y127, y128, y129, y130, y131, y132, y133, y134, y135, y136, y137, y138, y139, .bool false, x141, x142, x143, x144, x145, x146, x147, x148, x149, x150, x151, x152, x153, x154, x155, x156, x157, x158, x159, x160, x161, x162, x163, x164, x165, x166, x167, x168, x169, x170, x171, x172, x173, x174, x175, x176, x177, x178, x179, x180, x181, x182, x183, x184, x185, x186, x187, x188, x189, x190, x191, x192, x193, x194, x195], defers := [] } w') :
    (Go.Code.region 21 #[{ dst := some 108, op := Go.Op.move (Go.Operand.tmp 11), type := 23, pos := "law.go:147", after := #[], guard := none }, { dst := some 109, op := Go.Op.call { callee := Go.Callee.value (Go.Operand.func 10), args := #[Go.Operand.tmp 108], argTypes := #[23] }, type := 9, pos := "law.go:147", after := #[{ on := 0, ground := Go.Ground.data }], guard := none }, { dst := some 110, op := Go.Op.move (Go.Operand.tmp 0), type := 9, pos := "law.go:147", after := #[], guard := none }, { dst := some 111, op := Go.Op.binOp Go.BinOp.neq 9 (Go.Operand.tmp 109) (Go.Operand.tmp 110) 9, type := 4, pos := "law.go:147", after := #[{ on := 1, ground := Go.Ground.data }, { on := 2, ground := Go.Ground.data }], guard := none }, { dst := some 112, op := Go.Op.move (Go.Operand.tmp 111), type := 4, pos := "law.go:147", after := #[{ on := 3, ground := Go.Ground.data }, { on := 1, ground := Go.Ground.chain }], guard := none }, { dst := some 113, op := Go.Op.move (Go.Operand.tmp 11), type := 23, pos := "law.go:147", after := #[{ on := 4, ground := Go.Ground.guard }], guard := some (4, false) }, { dst := some 114, op := Go.Op.call { callee := Go.Callee.value (Go.Operand.func 11), args := #[Go.Operand.tmp 113], argTypes := #[23] }, type := 29, pos := "law.go:147", after := #[{ on := 5, ground := Go.Ground.data }, { on := 4, ground := Go.Ground.chain }, { on := 4, ground := Go.Ground.guard }], guard := some (4, false) }, { dst := some 115, op := Go.Op.load 29 (Go.Operand.tmp 19), type := 29, pos := "law.go:147", after := #[{ on := 4, ground := Go.Ground.guard }], guard := some (4, false) }, { dst := some 116, op := Go.Op.binOp Go.BinOp.neq 29 (Go.Operand.tmp 114) (Go.Operand.tmp 115) 29, type := 4, pos := "law.go:147", after := #[{ on := 6, ground := Go.Ground.data }, { on := 7, ground := Go.Ground.data }, { on := 4, ground := Go.Ground.guard }], guard := some (4, false) }, { dst := some 117, op := Go.Op.pick (Go.Operand.tmp 112) (Go.Operand.const (Go.Value.bool true)) (Go.Operand.tmp 116), type := 4, pos := "law.go:147", after := #[{ on := 4, ground := Go.Ground.data }, { on := 8, ground := Go.Ground.data }], guard := none }, { dst := some 118, op := Go.Op.move (Go.Operand.tmp 117), type := 4, pos := "law.go:147", after := #[{ on := 9, ground := Go.Ground.data }, { on := 6, ground := Go.Ground.chain }], guard := none }, { dst := some 119, op := Go.Op.move (Go.Operand.tmp 11), type := 23, pos := "law.go:147", after := #[{ on := 10, ground := Go.Ground.guard }], guard := some (10, false) }, { dst := some 120, op := Go.Op.call { callee := Go.Callee.value (Go.Operand.func 13), args := #[Go.Operand.tmp 119], argTypes := #[23] }, type := 3, pos := "law.go:147", after := #[{ on := 11, ground := Go.Ground.data }, { on := 10, ground := Go.Ground.chain }, { on := 10, ground := Go.Ground.guard }], guard := some (10, false) }, { dst := some 121, op := Go.Op.move (Go.Operand.tmp 11), type := 23, pos := "law.go:147", after := #[{ on := 10, ground := Go.Ground.guard }], guard := some (10, false) }, { dst := some 122, op := Go.Op.call { callee := Go.Callee.value (Go.Operand.func 14), args := #[Go.Operand.tmp 121], argTypes := #[23] }, type := 3, pos := "law.go:147", after := #[{ on := 13, ground := Go.Ground.data }, { on := 12, ground := Go.Ground.chain }, { on := 10, ground := Go.Ground.guard }], guard := some (10, false) }, { dst := some 123, op := Go.Op.call { callee := Go.Callee.value (Go.Operand.func 12), args := #[Go.Operand.tmp 120, Go.Operand.tmp 122], argTypes := #[3, 3] }, type := 4, pos := "law.go:147", after := #[{ on := 12, ground := Go.Ground.data }, { on := 14, ground := Go.Ground.data }, { on := 14, ground := Go.Ground.chain }, { on := 10, ground := Go.Ground.guard }], guard := some (10, false) }, { dst := some 124, op := Go.Op.unOp Go.UnOp.not 4 (Go.Operand.tmp 123), type := 4, pos := "law.go:147", after := #[{ on := 15, ground := Go.Ground.data }, { on := 10, ground := Go.Ground.guard }], guard := some (10, false) }, { dst := some 125, op := Go.Op.pick (Go.Operand.tmp 118) (Go.Operand.const (Go.Value.bool true)) (Go.Operand.tmp 124), type := 4, pos := "law.go:147", after := #[{ on := 10, ground := Go.Ground.data }, { on := 16, ground := Go.Ground.data }], guard := none }, { dst := some 126, op := Go.Op.move (Go.Operand.tmp 125), type := 4, pos := "law.go:147", after := #[{ on := 17, ground := Go.Ground.data }, { on := 15, ground := Go.Ground.chain }], guard := none }, { dst := some 127, op := Go.Op.move (Go.Operand.tmp 11), type := 23, pos := "law.go:147", after := #[{ on := 18, ground := Go.Ground.guard }], guard := some (18, false) }, { dst := some 128, op := Go.Op.call { callee := Go.Callee.value (Go.Operand.func 14), args := #[Go.Operand.tmp 127], argTypes := #[23] }, type := 3, pos := "law.go:147", after := #[{ on := 19, ground := Go.Ground.data }, { on := 18, ground := Go.Ground.chain }, { on := 18, ground := Go.Ground.guard }], guard := some (18, false) }, { dst := some 129, op := Go.Op.move (Go.Operand.tmp 0), type := 9, pos := "law.go:147", after := #[{ on := 18, ground := Go.Ground.guard }], guard := some (18, false) }, { dst := some 130, op := Go.Op.call { callee := Go.Callee.builtin Go.Builtin.len, args := #[Go.Operand.tmp 129], argTypes := #[9] }, type := 3, pos := "law.go:147", after := #[{ on := 21, ground := Go.Ground.data }, { on := 18, ground := Go.Ground.guard }], guard := some (18, false) }, { dst := some 131, op := Go.Op.binOp Go.BinOp.gtr 3 (Go.Operand.tmp 128) (Go.Operand.tmp 130) 3, type := 4, pos := "law.go:147", after := #[{ on := 20, ground := Go.Ground.data }, { on := 22, ground := Go.Ground.data }, { on := 18, ground := Go.Ground.guard }], guard := some (18, false) }, { dst := some 132, op := Go.Op.pick (Go.Operand.tmp 126) (Go.Operand.const (Go.Value.bool true)) (Go.Operand.tmp 131), type := 4, pos := "law.go:147", after := #[{ on := 18, ground := Go.Ground.data }, { on := 23, ground := Go.Ground.data }], guard := none }, { dst := some 133, op := Go.Op.move (Go.Operand.tmp 132), type := 4, pos := "law.go:147", after := #[{ on := 24, ground := Go.Ground.data }, { on := 20, ground := Go.Ground.chain }], guard := none }, { dst := some 134, op := Go.Op.move (Go.Operand.tmp 11), type := 23, pos := "law.go:147", after := #[{ on := 25, ground := Go.Ground.guard }], guard := some (25, false) }, { dst := some 135, op := Go.Op.call { callee := Go.Callee.value (Go.Operand.func 14), args := #[Go.Operand.tmp 134], argTypes := #[23] }, type := 3, pos := "law.go:147", after := #[{ on := 26, ground := Go.Ground.data }, { on := 25, ground := Go.Ground.chain }, { on := 25, ground := Go.Ground.guard }], guard := some (25, false) }, { dst := some 136, op := Go.Op.binOp Go.BinOp.mul 3 (Go.Operand.tmp 135) (Go.Operand.const (Go.Value.int Go.IntKind.i64 32)) 3, type := 3, pos := "law.go:147", after := #[{ on := 27, ground := Go.Ground.data }, { on := 25, ground := Go.Ground.guard }], guard := some (25, false) }, { dst := some 137, op := Go.Op.move (Go.Operand.tmp 0), type := 9, pos := "law.go:147", after := #[{ on := 25, ground := Go.Ground.guard }], guard := some (25, false) }, { dst := some 138, op := Go.Op.call { callee := Go.Callee.builtin Go.Builtin.len, args := #[Go.Operand.tmp 137], argTypes := #[9] }, type := 3, pos := "law.go:147", after := #[{ on := 29, ground := Go.Ground.data }, { on := 25, ground := Go.Ground.guard }], guard := some (25, false) }, { dst := some 139, op := Go.Op.binOp Go.BinOp.lss 3 (Go.Operand.tmp 136) (Go.Operand.tmp 138) 3, type := 4, pos := "law.go:147", after := #[{ on := 28, ground := Go.Ground.data }, { on := 30, ground := Go.Ground.data }, { on := 25, ground := Go.Ground.guard }], guard := some (25, false) }, { dst := some 140, op := Go.Op.pick (Go.Operand.tmp 133) (Go.Operand.const (Go.Value.bool true)) (Go.Operand.tmp 139), type := 4, pos := "law.go:147", after := #[{ on := 25, ground := Go.Ground.data }, { on := 31, ground := Go.Ground.data }], guard := none }] true).wp Tryz.prog Q { tmps := #[.string (bytesOf rs), x1, x2, x3, x4, x5, x6, x7, x8, x9, x10, .pointer (some ⟨b, 0, none⟩), x12, x13, x14, x15, x16, x17, x18, .pointer (some ⟨BC, 0, none⟩), x20, x21, x22, x23, x24, x25, x26, x27, x28, x29, x30, x31, x32, x33, x34, x35, x36, x37, x38, x39, x40, x41, x42, x43, x44, x45, x46, x47, x48, x49, x50, x51, x52, x53, x54, x55, x56, x57, x58, x59, x60, x61, x62, x63, x64, x65, x66, x67, x68, x69, x70, x71, x72, x73, x74, x75, x76, x77, x78, x79, x80, x81, x82, x83, x84, x85, x86, x87, x88, x89, x90, x91, x92, x93, x94, x95, x96, x97, x98, x99, x100, x101, x102, x103, x104, x105, x106, x107, x108, x109, x110, x111, x112, x113, x114, x115, x116, x117, x118, x119, x120, x121, x122, x123, x124, x125, x126, x127, x128, x129, x130, x131, x132, x133, x134, x135, x136, x137, x138, x139, x140, x141, x142, x143, x144, x145, x146, x147, x148, x149, x150, x151, x152, x153, x154, x155, x156, x157, x158, x159, x160, x161, x162, x163, x164, x165, x166, x167, x168, x169, x170, x171, x172, x173, x174, x175, x176, x177, x178, x179, x180, x181, x182, x183, x184, x185, x186, x187, x188, x189, x190, x191, x192, x193, x194, x195], defers := [] } W2 :=
  Code.wp_mono (fun e a w h => by cases e <;> first | exact h | exact h.elim) (check_regionN (Qn := Q .normal) b BC rs hh mm wr W2 x1 x2 x3 x4 x5 x6 x7 x8 x9 x10 x12 x13 x14 x15 x16 x17 x18 x20 x21 x22 x23 x24 x25 x26 x27 x28 x29 x30 x31 x32 x33 x34 x35 x36 x37 x38 x39 x40 x41 x42 x43 x44 x45 x46 x47 x48 x49 x50 x51 x52 x53 x54 x55 x56 x57 x58 x59 x60 x61 x62 x63 x64 x65 x66 x67 x68 x69 x70 x71 x72 x73 x74 x75 x76 x77 x78 x79 x80 x81 x82 x83 x84 x85 x86 x87 x88 x89 x90 x91 x92 x93 x94 x95 x96 x97 x98 x99 x100 x101 x102 x103 x104 x105 x106 x107 x108 x109 x110 x111 x112 x113 x114 x115 x116 x117 x118 x119 x120 x121 x122 x123 x124 x125 x126 x127 x128 x129 x130 x131 x132 x133 x134 x135 x136 x137 x138 x139 x140 x141 x142 x143 x144 x145 x146 x147 x148 x149 x150 x151 x152 x153 x154 x155 x156 x157 x158 x159 x160 x161 x162 x163 x164 x165 x166 x167 x168 x169 x170 x171 x172 x173 x174 x175 x176 x177 x178 x179 x180 x181 x182 x183 x184 x185 x186 x187 x188 x189 x190 x191 x192 x193 x194 x195 DT DC DH DM CLOW h1 h2 h3 hy hk hQ)
end Go.Proofs.YtldhbjmillfjgaaGreatDoor

namespace Go.Proofs.YtldhbjmillfjgaaGreatDoor
open Go.RowKit
set_option linter.unusedVariables false
attribute [local go_sem] Oper.semAt_some

set_option maxRecDepth 100000 in
set_option maxHeartbeats 8000000 in
theorem splice_regionN {Qn : Act → World → Prop} (S5 : World → Prop) (ba put : ByteArray) (b BX BF : Nat) (q0 q1 E P : Int) (WX : World) (x1 x2 x3 x4 x5 x6 x7 x8 x9 x10 x12 x13 x14 x15 x17 x19 x20 x21 x22 x23 x24 x25 x26 x27 x28 x29 x30 x31 x32 x33 x34 x35 x36 x37 x38 x39 x40 x41 x42 x43 x44 x45 x46 x47 x48 x49 x50 x51 x52 x53 x54 x55 x56 x57 x58 x59 x60 x61 x62 x63 x64 x65 x66 x67 x68 x69 x70 x71 x72 x73 x74 x75 x76 x77 x78 x79 x80 x81 x82 x83 x84 x85 x86 x87 x88 x89 x90 x91 x92 x93 x94 x95 x96 x97 x98 x99 x100 x101 x102 x103 x104 x105 x106 x107 x108 x109 x110 x111 x112 x113 x114 x115 x116 x117 x118 x119 x120 x121 x122 x123 x124 x125 x126 x127 x128 x129 x130 x131 x132 x133 x134 x135 x136 x137 x138 x139 x140 x141 x142 x143 x144 x145 x146 x147 x148 x149 x150 x151 x152 x153 x154 x155 x156 x157 x158 x159 x160 x161 x162 x163 x164 x165 x166 x167 x168 x169 x170 x171 x172 x173 x174 x175 x176 x177 x178 x179 x180 x181 x182 x183 x184 x185 x186 x187 x188 x189 x190 x191 x192 x193 x194 x195 : Value)
    (hS : Calls Tryz.prog 9 #[.pointer (some ⟨b, 0, none⟩), .int .i64 q0, .int .i64 q1, .string put] WX.drew fun e w4 => ∃ x, e = .returned x ∧ spotW w4 BF E P ∧
      Calls Tryz.prog 7 #[x, .agg #[.int .i64 E, .int .i64 P]] w4 fun e w5 => e = .returned (.bool true) ∧ S5 w5)
    (hf : spotW WX BF E P) (k0 : WX.cell? ⟨BX, 0, none⟩ = some (.int .i64 q0)) (k1 : WX.cell? ⟨BX, 1, none⟩ = some (.int .i64 q1)) (k2 : WX.cell? ⟨BX, 2, none⟩ = some (.string put))
    (hQ : ∀ (y92 y93 y94 y95 y96 y97 y98 y99 y100 y101 : Value) (w' : World), S5 w' → Qn { tmps := #[.string ba, x1, x2, x3, x4, x5, x6, x7, x8, x9, x10, .pointer (some ⟨b, 0, none⟩), x12, x13, x14, x15, .pointer (some ⟨BX, 0, none⟩), x17, .pointer (some ⟨BF, 0, none⟩), x19, x20, x21, x22, x23, x24, x25, x26, x27, x28, x29, x30, x31, x32, x33, x34, x35, x36, x37, x38, x39, x40, x41, x42, x43, x44, x45, x46, x47, x48, x49, x50, x51, x52, x53, x54, x55, x56, x57, x58, x59, x60, x61, x62, x63, x64, x65, x66, x67, x68, x69, x70, x71, x72, x73, x74, x75, x76, x77, x78, x79, x80, x81, x82, x83, x84, x85, x86, x87, x88, x89, x90, x91, y92, y93, y94, y95, y96, y97, y98, y99, y100, y101, .bool false, x103, x104, x105, x106, x107, x108, x109, x110, x111, x112, x113, x114, x115, x116, x117, x118, x119, x120, x121, x122, x123, x124, x125, x126, x127, x128, x129, x130, x131, x132, x133, x134, x135, x136, x137, x138, x139, x140, x141, x142, x143, x144, x145, x146, x147, x148, x149, x150, x151, x152, x153, x154, x155, x156, x157, x158, x159, x160, x161, x162, x163, x164, x165, x166, x167, x168, x169, x170, x171, x172, x173, x174, x175, x176, x177, x178, x179, x180, x181, x182, x183, x184, x185, x186, x187, x188, x189, x190, x191, x192, x193, x194, x195], defers := [] } w') :
    (Go.Code.region 18 #[{ dst := some 92, op := Go.Op.move (Go.Operand.tmp 11), type := 23, pos := "law.go:142", after := #[], guard := none }, { dst := some 93, op := Go.Op.fieldAddr 37 (Go.Operand.tmp 16) 0, type := 0, pos := "law.go:142", after := #[], guard := none }, { dst := some 94, op := Go.Op.load 3 (Go.Operand.tmp 93), type := 3, pos := "law.go:142", after := #[{ on := 1, ground := Go.Ground.data }], guard := none }, { dst := some 95, op := Go.Op.fieldAddr 37 (Go.Operand.tmp 16) 1, type := 0, pos := "law.go:142", after := #[], guard := none }, { dst := some 96, op := Go.Op.load 3 (Go.Operand.tmp 95), type := 3, pos := "law.go:142", after := #[{ on := 3, ground := Go.Ground.data }], guard := none }, { dst := some 97, op := Go.Op.fieldAddr 37 (Go.Operand.tmp 16) 2, type := 0, pos := "law.go:142", after := #[], guard := none }, { dst := some 98, op := Go.Op.load 9 (Go.Operand.tmp 97), type := 9, pos := "law.go:142", after := #[{ on := 5, ground := Go.Ground.data }], guard := none }, { dst := some 99, op := Go.Op.call { callee := Go.Callee.value (Go.Operand.func 9), args := #[Go.Operand.tmp 92, Go.Operand.tmp 94, Go.Operand.tmp 96, Go.Operand.tmp 98], argTypes := #[23, 3, 3, 9] }, type := 25, pos := "law.go:142", after := #[{ on := 0, ground := Go.Ground.data }, { on := 2, ground := Go.Ground.data }, { on := 4, ground := Go.Ground.data }, { on := 6, ground := Go.Ground.data }], guard := none }, { dst := some 100, op := Go.Op.load 32 (Go.Operand.tmp 18), type := 32, pos := "law.go:142", after := #[], guard := none }, { dst := some 101, op := Go.Op.call { callee := Go.Callee.value (Go.Operand.func 7), args := #[Go.Operand.tmp 99, Go.Operand.tmp 100], argTypes := #[25, 32] }, type := 4, pos := "law.go:142", after := #[{ on := 7, ground := Go.Ground.data }, { on := 8, ground := Go.Ground.data }, { on := 7, ground := Go.Ground.chain }], guard := none }, { dst := some 102, op := Go.Op.unOp Go.UnOp.not 4 (Go.Operand.tmp 101), type := 4, pos := "law.go:142", after := #[{ on := 9, ground := Go.Ground.data }], guard := none }] true).wp Tryz.prog (fun e a w => match e with | .normal => Qn a w | _ => False) { tmps := #[.string ba, x1, x2, x3, x4, x5, x6, x7, x8, x9, x10, .pointer (some ⟨b, 0, none⟩), x12, x13, x14, x15, .pointer (some ⟨BX, 0, none⟩), x17, .pointer (some ⟨BF, 0, none⟩), x19, x20, x21, x22, x23, x24, x25, x26, x27, x28, x29, x30, x31, x32, x33, x34, x35, x36, x37, x38, x39, x40, x41, x42, x43, x44, x45, x46, x47, x48, x49, x50, x51, x52, x53, x54, x55, x56, x57, x58, x59, x60, x61, x62, x63, x64, x65, x66, x67, x68, x69, x70, x71, x72, x73, x74, x75, x76, x77, x78, x79, x80, x81, x82, x83, x84, x85, x86, x87, x88, x89, x90, x91, x92, x93, x94, x95, x96, x97, x98, x99, x100, x101, x102, x103, x104, x105, x106, x107, x108, x109, x110, x111, x112, x113, x114, x115, x116, x117, x118, x119, x120, x121, x122, x123, x124, x125, x126, x127, x128, x129, x130, x131, x132, x133, x134, x135, x136, x137, x138, x139, x140, x141, x142, x143, x144, x145, x146, x147, x148, x149, x150, x151, x152, x153, x154, x155, x156, x157, x158, x159, x160, x161, x162, x163, x164, x165, x166, x167, x168, x169, x170, x171, x172, x173, x174, x175, x176, x177, x178, x179, x180, x181, x182, x183, x184, x185, x186, x187, x188, x189, x190, x191, x192, x193, x194, x195], defers := [] } WX := by
  dsimp only at hQ ⊢
  have HQ : Hid _ := hQ
  obtain ⟨⟨x0, x1⟩, _⟩ := hf
  clear hQ
  go_region_with (first
    | (go_at_call 9; refine hS.mono ?_; clear hS; rintro e w4 ⟨x, rfl, hf4, hI4⟩; obtain ⟨⟨y0, y1⟩, _⟩ := hf4)
    | (go_at_call 7; refine hI4.mono ?_; clear hI4; rintro e w5 ⟨rfl, h5⟩; have H5 : Hid _ := h5; clear h5))
  all_goals
    first
      | exact HQ.out _ _ _ _ _ _ _ _ _ _ _ H5.out
      | (go_simp; exact HQ.out _ _ _ _ _ _ _ _ _ _ _ H5.out)
set_option maxRecDepth 100000 in
theorem splice_region {Q : Exit → Act → World → Prop} (S5 : World → Prop) (ba put : ByteArray) (b BX BF : Nat) (q0 q1 E P : Int) (WX : World) (x1 x2 x3 x4 x5 x6 x7 x8 x9 x10 x12 x13 x14 x15 x17 x19 x20 x21 x22 x23 x24 x25 x26 x27 x28 x29 x30 x31 x32 x33 x34 x35 x36 x37 x38 x39 x40 x41 x42 x43 x44 x45 x46 x47 x48 x49 x50 x51 x52 x53 x54 x55 x56 x57 x58 x59 x60 x61 x62 x63 x64 x65 x66 x67 x68 x69 x70 x71 x72 x73 x74 x75 x76 x77 x78 x79 x80 x81 x82 x83 x84 x85 x86 x87 x88 x89 x90 x91 x92 x93 x94 x95 x96 x97 x98 x99 x100 x101 x102 x103 x104 x105 x106 x107 x108 x109 x110 x111 x112 x113 x114 x115 x116 x117 x118 x119 x120 x121 x122 x123 x124 x125 x126 x127 x128 x129 x130 x131 x132 x133 x134 x135 x136 x137 x138 x139 x140 x141 x142 x143 x144 x145 x146 x147 x148 x149 x150 x151 x152 x153 x154 x155 x156 x157 x158 x159 x160 x161 x162 x163 x164 x165 x166 x167 x168 x169 x170 x171 x172 x173 x174 x175 x176 x177 x178 x179 x180 x181 x182 x183 x184 x185 x186 x187 x188 x189 x190 x191 x192 x193 x194 x195 : Value)
    (hS : Calls Tryz.prog 9 #[.pointer (some ⟨b, 0, none⟩), .int .i64 q0, .int .i64 q1, .string put] WX.drew fun e w4 => ∃ x, e = .returned x ∧ spotW w4 BF E P ∧
      Calls Tryz.prog 7 #[x, .agg #[.int .i64 E, .int .i64 P]] w4 fun e w5 => e = .returned (.bool true) ∧ S5 w5)
    (hf : spotW WX BF E P) (k0 : WX.cell? ⟨BX, 0, none⟩ = some (.int .i64 q0)) (k1 : WX.cell? ⟨BX, 1, none⟩ = some (.int .i64 q1)) (k2 : WX.cell? ⟨BX, 2, none⟩ = some (.string put))
    (hQ : ∀ (y92 y93 y94 y95 y96 y97 y98 y99 y100 y101 : Value) (w' : World), S5 w' → Q .normal { tmps := #[.string ba, x1, x2, x3, x4, x5, x6, x7, x8, x9, x10, .pointer (some ⟨b, 0, none⟩), x12, x13, x14, x15, .pointer (some ⟨BX, 0, none⟩), x17, .pointer (some ⟨BF, 0, none⟩), x19, x20, x21, x22, x23, x24, x25, x26, x27, x28, x29, x30, x31, x32, x33, x34, x35, x36, x37, x38, x39, x40, x41, x42, x43, x44, x45, x46, x47, x48, x49, x50, x51, x52, x53, x54, x55, x56, x57, x58, x59, x60, x61, x62, x63, x64, x65, x66, x67, x68, x69, x70, x71, x72, x73, x74, x75, x76, x77, x78, x79, x80, x81, x82, x83, x84, x85, x86, x87, x88, x89, x90, x91, y92, y93, y94, y95, y96, y97, y98, y99, y100, y101, .bool false, x103, x104, x105, x106, x107, x108, x109, x110, x111, x112, x113, x114, x115, x116, x117, x118, x119, x120, x121, x122, x123, x124, x125, x126, x127, x128, x129, x130, x131, x132, x133, x134, x135, x136, x137, x138, x139, x140, x141, x142, x143, x144, x145, x146, x147, x148, x149, x150, x151, x152, x153, x154, x155, x156, x157, x158, x159, x160, x161, x162, x163, x164, x165, x166, x167, x168, x169, x170, x171, x172, x173, x174, x175, x176, x177, x178, x179, x180, x181, x182, x183, x184, x185, x186, x187, x188, x189, x190, x191, x192, x193, x194, x195], defers := [] } w') :
    (Go.Code.region 18 #[{ dst := some 92, op := Go.Op.move (Go.Operand.tmp 11), type := 23, pos := "law.go:142", after := #[], guard := none }, { dst := some 93, op := Go.Op.fieldAddr 37 (Go.Operand.tmp 16) 0, type := 0, pos := "law.go:142", after := #[], guard := none }, { dst := some 94, op := Go.Op.load 3 (Go.Operand.tmp 93), type := 3, pos := "law.go:142", after := #[{ on := 1, ground := Go.Ground.data }], guard := none }, { dst := some 95, op := Go.Op.fieldAddr 37 (Go.Operand.tmp 16) 1, type := 0, pos := "law.go:142", after := #[], guard := none }, { dst := some 96, op := Go.Op.load 3 (Go.Operand.tmp 95), type := 3, pos := "law.go:142", after := #[{ on := 3, ground := Go.Ground.data }], guard := none }, { dst := some 97, op := Go.Op.fieldAddr 37 (Go.Operand.tmp 16) 2, type := 0, pos := "law.go:142", after := #[], guard := none }, { dst := some 98, op := Go.Op.load 9 (Go.Operand.tmp 97), type := 9, pos := "law.go:142", after := #[{ on := 5, ground := Go.Ground.data }], guard := none }, { dst := some 99, op := Go.Op.call { callee := Go.Callee.value (Go.Operand.func 9), args := #[Go.Operand.tmp 92, Go.Operand.tmp 94, Go.Operand.tmp 96, Go.Operand.tmp 98], argTypes := #[23, 3, 3, 9] }, type := 25, pos := "law.go:142", after := #[{ on := 0, ground := Go.Ground.data }, { on := 2, ground := Go.Ground.data }, { on := 4, ground := Go.Ground.data }, { on := 6, ground := Go.Ground.data }], guard := none }, { dst := some 100, op := Go.Op.load 32 (Go.Operand.tmp 18), type := 32, pos := "law.go:142", after := #[], guard := none }, { dst := some 101, op := Go.Op.call { callee := Go.Callee.value (Go.Operand.func 7), args := #[Go.Operand.tmp 99, Go.Operand.tmp 100], argTypes := #[25, 32] }, type := 4, pos := "law.go:142", after := #[{ on := 7, ground := Go.Ground.data }, { on := 8, ground := Go.Ground.data }, { on := 7, ground := Go.Ground.chain }], guard := none }, { dst := some 102, op := Go.Op.unOp Go.UnOp.not 4 (Go.Operand.tmp 101), type := 4, pos := "law.go:142", after := #[{ on := 9, ground := Go.Ground.data }], guard := none }] true).wp Tryz.prog Q { tmps := #[.string ba, x1, x2, x3, x4, x5, x6, x7, x8, x9, x10, .pointer (some ⟨b, 0, none⟩), x12, x13, x14, x15, .pointer (some ⟨BX, 0, none⟩), x17, .pointer (some ⟨BF, 0, none⟩), x19, x20, x21, x22, x23, x24, x25, x26, x27, x28, x29, x30, x31, x32, x33, x34, x35, x36, x37, x38, x39, x40, x41, x42, x43, x44, x45, x46, x47, x48, x49, x50, x51, x52, x53, x54, x55, x56, x57, x58, x59, x60, x61, x62, x63, x64, x65, x66, x67, x68, x69, x70, x71, x72, x73, x74, x75, x76, x77, x78, x79, x80, x81, x82, x83, x84, x85, x86, x87, x88, x89, x90, x91, x92, x93, x94, x95, x96, x97, x98, x99, x100, x101, x102, x103, x104, x105, x106, x107, x108, x109, x110, x111, x112, x113, x114, x115, x116, x117, x118, x119, x120, x121, x122, x123, x124, x125, x126, x127, x128, x129, x130, x131, x132, x133, x134, x135, x136, x137, x138, x139, x140, x141, x142, x143, x144, x145, x146, x147, x148, x149, x150, x151, x152, x153, x154, x155, x156, x157, x158, x159, x160, x161, x162, x163, x164, x165, x166, x167, x168, x169, x170, x171, x172, x173, x174, x175, x176, x177, x178, x179, x180, x181, x182, x183, x184, x185, x186, x187, x188, x189, x190, x191, x192, x193, x194, x195], defers := [] } WX :=
  Code.wp_mono (fun e a w h => by cases e <;> first | exact h | exact h.elim) (splice_regionN (Qn := Q .normal) S5 ba put b BX BF q0 q1 E P WX x1 x2 x3 x4 x5 x6 x7 x8 x9 x10 x12 x13 x14 x15 x17 x19 x20 x21 x22 x23 x24 x25 x26 x27 x28 x29 x30 x31 x32 x33 x34 x35 x36 x37 x38 x39 x40 x41 x42 x43 x44 x45 x46 x47 x48 x49 x50 x51 x52 x53 x54 x55 x56 x57 x58 x59 x60 x61 x62 x63 x64 x65 x66 x67 x68 x69 x70 x71 x72 x73 x74 x75 x76 x77 x78 x79 x80 x81 x82 x83 x84 x85 x86 x87 x88 x89 x90 x91 x92 x93 x94 x95 x96 x97 x98 x99 x100 x101 x102 x103 x104 x105 x106 x107 x108 x109 x110 x111 x112 x113 x114 x115 x116 x117 x118 x119 x120 x121 x122 x123 x124 x125 x126 x127 x128 x129 x130 x131 x132 x133 x134 x135 x136 x137 x138 x139 x140 x141 x142 x143 x144 x145 x146 x147 x148 x149 x150 x151 x152 x153 x154 x155 x156 x157 x158 x159 x160 x161 x162 x163 x164 x165 x166 x167 x168 x169 x170 x171 x172 x173 x174 x175 x176 x177 x178 x179 x180 x181 x182 x183 x184 x185 x186 x187 x188 x189 x190 x191 x192 x193 x194 x195 hS hf k0 k1 k2 hQ)
end Go.Proofs.YtldhbjmillfjgaaGreatDoor
