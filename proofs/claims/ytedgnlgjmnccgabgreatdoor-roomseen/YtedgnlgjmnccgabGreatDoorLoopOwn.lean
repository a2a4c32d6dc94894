/-
  A range over an iterator that keeps state in cells of its own: the statement's law, over what the iterator may turn between two rounds and what a round keeps, both the user's choice.
-/
import Derived.RangeFuncNested
import Derived.RangeFuncBound
import Derived.RangeFuncCalls
import Derived.RangeFuncLeaves
import Derived.WalkKit
namespace Go.Proofs.YtedgnlgjmnccgabGreatDoor
open Go.RowKit

/-- The loop's two blocks of book-keeping lie as they lay. -/
structure Same2 (n : Nat) (W W' : World) : Prop where
  a : W'.heap[n]? = W.heap[n]?
  b : W'.heap[n + 1]? = W.heap[n + 1]?
theorem Same2.refl (n : Nat) (W : World) : Same2 n W W := ⟨rfl, rfl⟩
theorem Same2.trans {n : Nat} {A B C : World} (h : Same2 n A B) (k : Same2 n B C) : Same2 n A C := ⟨k.a.trans h.a, k.b.trans h.b⟩
theorem Same2.of_below {n B : Nat} {W W' : World} (h : Below B W W') (hB : n + 2 ≤ B) : Same2 n W W' := ⟨h.block n (by omega), h.block (n + 1) (by omega)⟩
theorem Same2.setCell {n : Nat} {A W : World} (h : Same2 n A W) {p : Addr} (h1 : p.block ≠ n) (h2 : p.block ≠ n + 1) (v : Value) : Same2 n A (W.setCell p v) :=
  ⟨(Below.heap_setCell W p v n (fun e => h1 e.symm)).trans h.a, (Below.heap_setCell W p v (n + 1) (fun e => h2 e.symm)).trans h.b⟩
theorem Same2.alloc {n : Nat} {A W : World} (h : Same2 n A W) (hn : n + 2 ≤ W.heap.size) (o : Obj) : Same2 n A (W.alloc o) :=
  ⟨(Below.heap_alloc W o n (by omega)).trans h.a, (Below.heap_alloc W o (n + 1) (by omega)).trans h.b⟩
theorem Same2.drew {n : Nat} {A W : World} (h : Same2 n A W) : Same2 n A W.drew := ⟨h.a, h.b⟩

/-- All blocks but one lie as they lay. -/
structure Put1 (n : Nat) (A B : World) : Prop where
  os : B.os = A.os
  tape : B.tape = A.tape
  output : B.output = A.output
  size : B.heap.size = A.heap.size
  block : ∀ k, k ≠ n → B.heap[k]? = A.heap[k]?
theorem Put1.putObj (n : Nat) (A : World) (o : Obj) : Put1 n A (A.putObj n o) := ⟨rfl, rfl, rfl, by simp, fun _ h => World.putObj_heap_other h⟩
theorem Put1.below {n B : Nat} {A A' : World} (h : Put1 n A A') (hB : B ≤ n) : Below B A A' := ⟨h.os, h.tape, h.output, Nat.le_of_eq h.size.symm, fun k hk => h.block k (by omega)⟩
theorem Put1.cell {n : Nat} {A A' : World} (h : Put1 n A A') {b o : Nat} (hb : b ≠ n) : A'.cell? ⟨b, o, none⟩ = A.cell? ⟨b, o, none⟩ := World.cell?_of_block (w := A) (a := ⟨b, o, none⟩) (h.block b hb)
theorem Put1.frozen {n : Nat} {A A' : World} (h : Put1 n A A') {b o : Nat} (hb : b ≠ n) : A'.frozen? ⟨b, o, none⟩ = A.frozen? ⟨b, o, none⟩ := World.frozen?_of_block (w := A) (a := ⟨b, o, none⟩) (h.block b hb)

/-- How a round may be left. -/
def ownPostO {α : Type} (n : Nat) (Kp : World → World → Prop) (I : List α → World → Prop) (Ix : Code → List α → World → Prop) (xs : List α) (W : World) : Exit → Act → World → Prop
  | .normal, _, W' => Same2 n W W' ∧ Kp W W' ∧ I xs W'
  | .ret, _, W' => Same2 n W W' ∧ Kp W W' ∧ Ix .ret xs W'
  | .exit id, _, W' => Same2 n W W' ∧ Kp W W' ∧ Ix (.exit id) xs W'
  | .goto t, _, W' => Same2 n W W' ∧ Kp W W' ∧ Ix (.goto t) xs W'
  | .panic _, _, _ => False
  | .outgrown, _, _ => False

/-- What an iterator does, called with a loop's yield in a world W: over all invariants of its rounds that abide its own steps. -/
def SeqOwn {α : Type} (P : Program) (g : Nat) (lb : Array Value) (encs : List α → α → Array Value) (It Kp : World → World → Prop) (Z : World → Prop) (S Sp : List α → Prop) (W : World) : Prop :=
  ∀ (l : Nat) (J Jx : List α → World → Prop), (∀ pre A, J pre A → Z A) → (∀ pre A, Jx pre A → Z A) → (∀ pre A B, J pre A → It A B → J pre B) → (∀ pre A B, Jx pre A → It A B → Jx pre B) →
    (∀ pre x A, J pre A → Sp (pre ++ [x]) → YieldAt Fence.wide 0 P l (encs pre x) A fun e A' =>
      (e = .returned (.bool true) ∧ J (pre ++ [x]) A' ∧ Kp A A') ∨ (e = .returned (.bool false) ∧ Jx (pre ++ [x]) A' ∧ Kp A A')) →
    J [] W →
    CallsIn Fence.wide 0 P g (#[.func (.yield l) #[] #[]] ++ lb) W fun e W' => (∃ v, e = .returned v) ∧ ((∃ xs, S xs ∧ J xs W') ∨ (∃ pre, Sp pre ∧ Jx pre W'))

theorem wp_range_own {α : Type} {P : Program} {g : Operand} {ps : Array Tmp} {assign body : Code} {Q : Exit → Act → World → Prop} {a : Act} {w : World} {n : Nat}
    {gf : Nat} {lb : Array Value} (hg : a.eval g = .func (.func gf) #[] lb) (eg : ∀ args w, (callFunc gf args).run P w = .ok (.enter gf args) w)
    {encs : List α → α → Array Value} (hps : ∀ pre x, (encs pre x).size = ps.size)
    {It Kp : World → World → Prop} {Z : World → Prop} {S Sp : List α → Prop}
    (hseq : ∀ W, W.heap.size = w.heap.size + 2 → Below w.heap.size w W → SeqOwn P gf lb encs It Kp Z S Sp W)
    (hIt : ∀ A B, It A B → Same2 w.heap.size A B)
    (hKt : ∀ {A B C : World}, Kp A B → Kp B C → Kp A C) (hKb : ∀ (A : World) (r : Loop), Kp A (A.putObj (w.heap.size + 1) (.loop r)))
    (I : List α → World → Prop) (Ix : Code → List α → World → Prop)
    (hIz : ∀ pre A, I pre A → Z A) (hIxz : ∀ c pre A, Ix c pre A → Z A)
    (hI : ∀ pre A B, I pre A → It A B → I pre B) (hIb : ∀ pre A (r : Loop), I pre A → I pre (A.putObj (w.heap.size + 1) (.loop r)))
    (hIx : ∀ c pre A B, Ix c pre A → It A B → Ix c pre B) (hIxb : ∀ c pre A (r : Loop), Ix c pre A → Ix c pre (A.putObj (w.heap.size + 1) (.loop r)))
    (h0 : ∀ W, W.heap.size = w.heap.size + 2 → Below w.heap.size w W → (∃ r, W.heap[w.heap.size + 1]? = some (.loop r)) → I [] W)
    (hround : ∀ (l : Nat) (pre : List α) (x : α) (W : World), I pre W → w.heap.size + 2 ≤ W.heap.size → Sp (pre ++ [x]) →
      assign.wpIn (Fence.wide.inRound l) 0 P (Exit.then (fun a₁ w₁ => Same2 w.heap.size W w₁ ∧ Kp W w₁ ∧ ∀ w₂, Put1 (w.heap.size + 1) w₁ w₂ → (∃ r, w₂.heap[w.heap.size + 1]? = some (.loop r)) → body.wpIn (Fence.wide.inRound l) 0 P (ownPostO w.heap.size Kp I Ix (pre ++ [x]) w₂) a₁ w₂) (fun _ _ _ => False))
        { tmps := (ps.zip (encs pre x)).foldl (fun t (p, v) => t.setIfInBounds p v) a.tmps, defers := [] } W)
    (hdone : ∀ (xs : List α) (W : World), S xs → I xs W → W.heap[w.heap.size]? = some (.deferred (some [])) → Q .normal { a with defers := { target := .collected w.heap.size, args := #[] } :: a.defers } W)
    (hstop : ∀ (c : Code) (pre : List α) (W : World), Sp pre → Ix c pre W → W.heap[w.heap.size]? = some (.deferred (some [])) → c.wpIn Fence.wide n P Q { a with defers := { target := .collected w.heap.size, args := #[] } :: a.defers } W) :
    (Code.rangeFunc g ps assign body).wpIn Fence.wide n P Q a w := by
  refine wpIn_rangeFunc ?_
  intro fn hfn
  obtain ⟨rec, hrec⟩ : ∃ rec : LoopState → Option Code → Loop, rec = fun st pe => { state := st, pending := pe, fn, tmps := a.tmps, params := ps, assign, body, defers := w.heap.size } := ⟨_, rfl⟩
  obtain ⟨W1, hW1⟩ : ∃ W1, (w.alloc (.deferred (some []))).alloc (.loop (rec .ready none)) = W1 := ⟨_, rfl⟩
  have hL1 : W1.heap[w.heap.size + 1]? = some (.loop (rec .ready none)) := by
    rw [← hW1]; have := World.alloc_heap_new (w.alloc (.deferred (some []))) (.loop (rec .ready none)); rwa [World.size_alloc] at this
  have hK1 : W1.heap[w.heap.size]? = some (.deferred (some [])) := by
    rw [← hW1]; exact (Below.heap_alloc _ _ _ (by simp)).trans (World.alloc_heap_new w _)
  have hs1 : W1.heap.size = w.heap.size + 2 := by rw [← hW1, World.size_alloc, World.size_alloc]
  have hb1 : Below w.heap.size w W1 := by
    rw [← hW1]; exact ((Below.refl _ w).alloc (Nat.le_refl _) _).alloc (by simp) _
  have hI1 : I [] W1 := h0 W1 hs1 hb1 ⟨_, hL1⟩
  refine ⟨w.heap.size + 1, [{ target := .collected w.heap.size, args := #[] }], W1, { target := .fn (.func gf) lb, args := #[.func (.yield (w.heap.size + 1)) #[] #[]] }, W1, gf,
    #[.func (.yield (w.heap.size + 1)) #[] #[]] ++ lb, W1, ?_, ?_, ?_, ?_, fun h => (by cases h), ?_⟩
  · rw [← hW1, hrec]; exact run_enterLoop_outer _ _ _ _ _
  · simp only [resolve, hg]
    simp [go_sem]
  · intro f' hf'; trivial
  · simp [invoke, go_sem, eg]
  · refine CallsIn.more ((hseq W1 hs1 hb1 (w.heap.size + 1)
      (fun pre W => I pre W ∧ W.heap[w.heap.size + 1]? = some (.loop (rec .ready none)) ∧ W.heap[w.heap.size]? = some (.deferred (some [])))
      (fun pre W => ∃ c, Ix c pre W ∧ W.heap[w.heap.size + 1]? = some (.loop (rec .done (some c))) ∧ W.heap[w.heap.size]? = some (.deferred (some [])))
      (fun s A hs => hIz s A hs.1) (fun s A hs => (by obtain ⟨c, hc, _⟩ := hs; exact hIxz c s A hc))
      (fun s A B hs hg' => ⟨hI s A B hs.1 hg', (hIt A B hg').b.trans hs.2.1, (hIt A B hg').a.trans hs.2.2⟩)
      (fun s A B hs hg' => by
        obtain ⟨c, hc, hl, hk⟩ := hs
        exact ⟨c, hIx c s A B hc hg', (hIt A B hg').b.trans hl, (hIt A B hg').a.trans hk⟩)
      ?_ ⟨hI1, hL1, hK1⟩).mono ?_) (Nat.zero_le _)
    · -- one round
      rintro pre x W ⟨hi, hl, hk⟩ hSp
      have hlt : w.heap.size + 1 < W.heap.size := (Array.getElem?_eq_some_iff.1 hl).1
      have hy := run_yield (P := P) (args := encs pre x) hl (by rw [hrec]; exact hps pre x)
      rw [hrec] at hy
      refine ⟨fn, _, assign, body, hy, roundIn_of_wpIn hfn (wpIn_mono (hround _ pre x W hi (by omega) hSp) ?_)⟩
      clear hy
      rintro ea a' Wa hq
      cases ea with
      | normal => ?_
      | ret => exact hq.elim
      | exit id => exact hq.elim
      | goto t => exact hq.elim
      | panic c => exact hq.elim
      | outgrown => exact hq.elim
      obtain ⟨h2a, hkpa, hbody⟩ := hq
      replace hl := h2a.b.trans hl
      replace hk := h2a.a.trans hk
      replace hlt : w.heap.size + 1 < Wa.heap.size := (Array.getElem?_eq_some_iff.1 hl).1
      refine ⟨_, run_beginRound hl (by rw [hrec]), ?_⟩
      have hl2 : (Wa.putObj (w.heap.size + 1) (.loop { rec .ready none with state := .busy })).heap[w.heap.size + 1]? = some (.loop { rec .ready none with state := .busy }) := World.putObj_heap_same hlt
      have hk2 : (Wa.putObj (w.heap.size + 1) (.loop { rec .ready none with state := .busy })).heap[w.heap.size]? = some (.deferred (some [])) := (World.putObj_heap_other (by omega)).trans hk
      have hw2 : Kp Wa (Wa.putObj (w.heap.size + 1) (.loop { rec .ready none with state := .busy })) := hKb _ _
      refine wpIn_mono (hbody _ (Put1.putObj _ _ _) ⟨_, hl2⟩) ?_
      have fin : ∀ (jump : Option Code) (W3 : World), Same2 w.heap.size (Wa.putObj (w.heap.size + 1) (.loop { rec .ready none with state := .busy })) W3 →
          (Instr.endRound (w.heap.size + 1) jump).run P W3 = .ok (.bool jump.isNone) (W3.putObj (w.heap.size + 1) (.loop (rec (if jump.isNone then .ready else .done) jump))) ∧
          (W3.putObj (w.heap.size + 1) (.loop (rec (if jump.isNone then .ready else .done) jump))).heap[w.heap.size + 1]? = some (.loop (rec (if jump.isNone then .ready else .done) jump)) ∧
          (W3.putObj (w.heap.size + 1) (.loop (rec (if jump.isNone then .ready else .done) jump))).heap[w.heap.size]? = some (.deferred (some [])) := fun jump W3 hk3 => by
        have hl3 := hk3.b.trans hl2
        have := run_endRound (P := P) jump hl3
        rw [hrec] at this ⊢
        exact ⟨this, World.putObj_heap_same (Array.getElem?_eq_some_iff.1 hl3).1, (World.putObj_heap_other (by omega)).trans (hk3.a.trans hk2)⟩
      rintro e a3 W3 hp
      cases e with
      | normal =>
        obtain ⟨hk3, hkp3, hi3⟩ := hp
        obtain ⟨hr, hl4, hk4⟩ := fin none W3 hk3
        exact ⟨_, _, hr, .inl ⟨rfl, ⟨hIb _ _ _ hi3, hl4, hk4⟩, hKt hkpa (hKt (hKt hw2 hkp3) (hKb _ _))⟩⟩
      | ret =>
        obtain ⟨hk3, hkp3, hi3⟩ := hp
        obtain ⟨hr, hl4, hk4⟩ := fin (some .ret) W3 hk3
        exact ⟨_, _, hr, .inr ⟨rfl, ⟨.ret, hIxb _ _ _ _ hi3, hl4, hk4⟩, hKt hkpa (hKt (hKt hw2 hkp3) (hKb _ _))⟩⟩
      | exit id =>
        obtain ⟨hk3, hkp3, hi3⟩ := hp
        obtain ⟨hr, hl4, hk4⟩ := fin (some (.exit id)) W3 hk3
        exact ⟨_, _, hr, .inr ⟨rfl, ⟨.exit id, hIxb _ _ _ _ hi3, hl4, hk4⟩, hKt hkpa (hKt (hKt hw2 hkp3) (hKb _ _))⟩⟩
      | goto t =>
        obtain ⟨hk3, hkp3, hi3⟩ := hp
        obtain ⟨hr, hl4, hk4⟩ := fin (some (.goto t)) W3 hk3
        exact ⟨_, _, hr, .inr ⟨rfl, ⟨.goto t, hIxb _ _ _ _ hi3, hl4, hk4⟩, hKt hkpa (hKt (hKt hw2 hkp3) (hKb _ _))⟩⟩
      | panic ch => exact hp.elim
      | outgrown => exact hp.elim
    · -- behind the iterator
      rintro e W2 ⟨⟨v, rfl⟩, (⟨xs, hS, hi, hl, hk⟩ | ⟨pre, hSp, c, hi, hl, hk⟩)⟩
      · exact ⟨none, _, by have := run_endLoop (P := P) hl (by rw [hrec]; simp); rw [hrec] at this; exact this, hdone xs _ hS (hIb _ _ _ hi) ((World.putObj_heap_other (by omega)).trans hk)⟩
      · exact ⟨some c, _, by have := run_endLoop (P := P) hl (by rw [hrec]; simp); rw [hrec] at this; exact this, hstop c pre _ hSp (hIxb _ _ _ _ hi) ((World.putObj_heap_other (by omega)).trans hk)⟩

end Go.Proofs.YtedgnlgjmnccgabGreatDoor
