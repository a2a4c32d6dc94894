/-
  Two operations side by side: the model of what Compose and Transform go through (pure).
  ops.cut: so much off an operation's first part; the operation's own row is written.
  ops.cut where some is left: a first part that keeps, drops or puts more.
  Gaps, from the left on (pure); the document's Transform over them.
  Side by side is gap by gap (pure), where puts stand alone in both.
-/
import Derived.Test.YtedonckeomccpaaDoorOpsPure
import Derived.Test.YtedonckeomccpaaDoorPartG
import Derived.Test.YtedonckeomccpaaDoorOpsInv
namespace Go.Proofs.YtedonckeomccpaaDoor
set_option linter.unusedVariables false

/-- Whatever the gaps: gathered, they are what their parts add up to. -/
theorem gather_runG (G : GSt) : gatherP G = tellP (runG G) := by
  unfold gatherP
  obtain ⟨h1, h2⟩ := steps_any G.1 kst0 inv0
  obtain ⟨f1, f2, f3, f4⟩ := step_flush _ h2 G.2 false
  rw [endK_nf, f1, h1]
  · rfl
  · intro hk
    by_cases hq : G.2 ≠ [] ∨ false = true
    · rw [f2 hq] at hk; omega
    · rw [f3 hq] at hk ⊢
      exact ⟨(h2.quiet hk).1, (h2.quiet hk).2.1⟩

def lengthP (p : Pt) : Int := p.keep + p.drop + p.put.length
def noP : Pt := ⟨0, 0, []⟩
/-- So much off a first part; what is left of it. -/
def cutP (p : Pt) (n : Int) : Pt × List Pt :=
  if lengthP p = n then (p, [])
  else if 0 < p.keep then (⟨n, 0, []⟩, [⟨p.keep - n, p.drop, p.put⟩])
  else if 0 < p.drop then (⟨0, n, []⟩, [⟨p.keep, p.drop - n, p.put⟩])
  else (⟨0, 0, p.put.take n.toNat⟩, [⟨p.keep, p.drop, p.put.drop n.toNat⟩])
/-- The pairs that are taken, from the left on. -/
def sideP (la lb : Pt → Bool) : Nat → List Pt → List Pt → List (Pt × Pt)
  | 0, _, _ => []
  | f + 1, p :: a, b => if la p then (p, noP) :: sideP la lb f a b else match b with
    | q :: b => if lb q then (noP, q) :: sideP la lb f (p :: a) b else
      ((cutP p (min (lengthP p) (lengthP q))).1, (cutP q (min (lengthP p) (lengthP q))).1) :: sideP la lb f ((cutP p (min (lengthP p) (lengthP q))).2 ++ a) ((cutP q (min (lengthP p) (lengthP q))).2 ++ b)
    | [] => []
  | f + 1, [], q :: b => if lb q then (noP, q) :: sideP la lb f [] b else []
  | f + 1, [], [] => []

def isDropP (p : Pt) : Bool := decide (0 < p.drop)
def isKeepP (p : Pt) : Bool := decide (0 < p.keep)
def isPutP (p : Pt) : Bool := decide (p.put ≠ [])
/-- What Compose adds of a pair. -/
def compP (x : Pt × Pt) : List Pt := if isDropP x.1 || isKeepP x.2 then [x.1] else if isPutP x.2 || isKeepP x.1 then [x.2] else []
/-- What Transform adds of a pair. -/
def turnP (x : Pt × Pt) : List Pt := if isPutP x.2 then [⟨x.2.put.length, 0, []⟩] else if isPutP x.1 || isKeepP x.2 then [x.1] else []

/-- A part that is one thing, and not nothing. -/
def oneP (p : Pt) : Prop := (0 < p.keep ∧ p.drop = 0 ∧ p.put = []) ∨ (p.keep = 0 ∧ 0 < p.drop ∧ p.put = []) ∨ (p.keep = 0 ∧ p.drop = 0 ∧ p.put ≠ [])
theorem length_pos {p : Pt} (h : oneP p) : 0 < lengthP p := by
  unfold lengthP
  rcases h with ⟨h1, h2, h3⟩ | ⟨h1, h2, h3⟩ | ⟨h1, h2, h3⟩
  · rw [h2, h3]; simp; omega
  · rw [h1, h3]; simp; omega
  · have := List.length_pos_iff.2 h3; omega
theorem cut_one {p : Pt} (h : oneP p) {n : Int} (h0 : 0 < n) (hn : n ≤ lengthP p) : oneP (cutP p n).1 ∧ lengthP (cutP p n).1 = n ∧ (∀ q ∈ (cutP p n).2, oneP q ∧ lengthP q = lengthP p - n) ∧ ((cutP p n).2 = [] ↔ lengthP p = n) := by
  unfold cutP
  by_cases e : lengthP p = n
  · rw [if_pos e]; exact ⟨h, e, by simp, by simp [e]⟩
  · rw [if_neg e]
    obtain ⟨K, D, U⟩ := p
    have e' : ¬ K + D + (U.length : Int) = n := e
    have hn' : n ≤ K + D + (U.length : Int) := hn
    clear e hn
    rcases h with ⟨h1, h2, h3⟩ | ⟨h1, h2, h3⟩ | ⟨h1, h2, h3⟩
    · replace h1 : 0 < K := h1
      obtain rfl : D = 0 := h2
      obtain rfl : U = [] := h3
      have hl : (([] : List UInt8).length : Int) = 0 := rfl
      rw [hl] at e' hn'
      rw [if_pos (show 0 < (⟨K, 0, []⟩ : Pt).keep from h1)]
      refine ⟨.inl ⟨h0, rfl, rfl⟩, by simp [lengthP], ?_, ⟨fun h => (by cases h), fun h => absurd h (by simp only [lengthP, List.length_nil]; omega)⟩⟩
      intro q hq
      obtain rfl := List.mem_singleton.1 hq
      exact ⟨.inl ⟨by show 0 < K - n; omega, rfl, rfl⟩, by simp only [lengthP, List.length_nil]; omega⟩
    · obtain rfl : K = 0 := h1
      replace h2 : 0 < D := h2
      obtain rfl : U = [] := h3
      have hl : (([] : List UInt8).length : Int) = 0 := rfl
      rw [hl] at e' hn'
      rw [if_neg (show ¬ 0 < (⟨0, D, []⟩ : Pt).keep from Int.lt_irrefl 0), if_pos (show 0 < (⟨0, D, []⟩ : Pt).drop from h2)]
      refine ⟨.inr (.inl ⟨rfl, h0, rfl⟩), by simp [lengthP], ?_, ⟨fun h => (by cases h), fun h => absurd h (by simp only [lengthP, List.length_nil]; omega)⟩⟩
      intro q hq
      obtain rfl := List.mem_singleton.1 hq
      exact ⟨.inr (.inl ⟨rfl, by show 0 < D - n; omega, rfl⟩), by simp only [lengthP, List.length_nil]; omega⟩
    · obtain rfl : K = 0 := h1
      obtain rfl : D = 0 := h2
      replace h3 : U ≠ [] := h3
      rw [if_neg (show ¬ 0 < (⟨0, 0, U⟩ : Pt).keep from Int.lt_irrefl 0), if_neg (show ¬ 0 < (⟨0, 0, U⟩ : Pt).drop from Int.lt_irrefl 0)]
      have hl : (U.take n.toNat).length = n.toNat := by rw [List.length_take]; omega
      have hd : (U.drop n.toNat).length = U.length - n.toNat := List.length_drop
      refine ⟨.inr (.inr ⟨rfl, rfl, ?_⟩), by simp only [lengthP, hl]; omega, ?_, ⟨fun h => (by cases h), fun h => absurd h (by simp only [lengthP]; omega)⟩⟩
      · intro e'
        have := congrArg List.length e'
        rw [hl, List.length_nil] at this
        omega
      · intro q hq
        obtain rfl := List.mem_singleton.1 hq
        refine ⟨.inr (.inr ⟨rfl, rfl, ?_⟩), by simp only [lengthP, hd]; omega⟩
        intro e'
        have := congrArg List.length e'
        rw [hd, List.length_nil] at this
        omega
end Go.Proofs.YtedonckeomccpaaDoor

namespace Go.Proofs.YtedonckeomccpaaDoor
open Go.RowKit
set_option linter.unusedVariables false
attribute [local go_sem] Oper.semAt_some

/-- Every block but g that was there stands. -/
structure But (g : Nat) (w w' : World) : Prop where
  os : w'.os = w.os
  tape : w'.tape = w.tape
  output : w'.output = w.output
  size : w.heap.size ≤ w'.heap.size
  block : ∀ k, k < w.heap.size → k ≠ g → w'.heap[k]? = w.heap[k]?
theorem But.of {g : Nat} {w w' : World} (h : Below w.heap.size w w') : But g w w' := ⟨h.os, h.tape, h.output, h.size, fun k hk _ => h.block k hk⟩
theorem But.refl (g : Nat) (w : World) : But g w w := .of (.refl _ _)
theorem But.trans {g : Nat} {a b c : World} (h : But g a b) (k : But g b c) : But g a c :=
  ⟨k.os.trans h.os, k.tape.trans h.tape, k.output.trans h.output, Nat.le_trans h.size k.size, fun i hi hg => (k.block i (Nat.lt_of_lt_of_le hi h.size) hg).trans (h.block i hi hg)⟩
theorem But.below {g B : Nat} {w w' : World} (h : But g w w') (hg : B ≤ g) (hB : B ≤ w.heap.size) : Below B w w' := ⟨h.os, h.tape, h.output, h.size, fun k hk => h.block k (by omega) (by omega)⟩
theorem But.set {g : Nat} {a w : World} (h : But g a w) (o : Nat) (u : Value) : But g a (w.setCell ⟨g, o, none⟩ u) :=
  h.trans ⟨rfl, rfl, rfl, by simp [World.setCell], fun k _ hk => Below.heap_setCell _ _ _ _ (by show k ≠ g; exact hk)⟩
theorem But.drew {g : Nat} {a w : World} (h : But g a w) : But g a w.drew := h.trans ⟨rfl, rfl, rfl, Nat.le_refl _, fun _ _ _ => rfl⟩

/-- A window into block g that may be written: these parts, first to last. -/
def winP (w : World) (g : Nat) (v : Value) (ps : List Pt) : Prop :=
  ∃ p c, v = .slice p ps.length c ∧ ps.length ≤ c ∧ c ≤ maxLen ∧ (ps ≠ [] → ∃ o, p = some ⟨g, o, none⟩ ∧ g < w.heap.size ∧ (∀ j, w.frozen? ⟨g, j, none⟩ = false) ∧ ∀ i q, ps[i]? = some q →
    w.cell? ⟨g, o + i * 3, none⟩ = some (.int .i64 q.keep) ∧ w.cell? ⟨g, o + i * 3 + 1, none⟩ = some (.int .i64 q.drop) ∧ w.cell? ⟨g, o + i * 3 + 2, none⟩ = some (.string ⟨q.put.toArray⟩))
theorem winP_kept {w w' : World} {g : Nat} {v : Value} {ps : List Pt} (h : winP w g v ps) (hs : w.heap.size ≤ w'.heap.size) (hb : g < w.heap.size → w'.heap[g]? = w.heap[g]?) : winP w' g v ps := by
  obtain ⟨p, c, rfl, h1, h2, h3⟩ := h
  refine ⟨p, c, rfl, h1, h2, fun hne => ?_⟩
  obtain ⟨o, e1, e2, e4, e3⟩ := h3 hne
  have hg := hb e2
  refine ⟨o, e1, by omega, fun j => (World.frozen?_of_block (w := w) (a := ⟨g, j, none⟩) hg).trans (e4 j), fun i q hi => ?_⟩
  obtain ⟨f1, f2, f3⟩ := e3 i q hi
  exact ⟨(World.cell?_of_block (w := w) (a := ⟨g, o + i * 3, none⟩) hg).trans f1, (World.cell?_of_block (w := w) (a := ⟨g, o + i * 3 + 1, none⟩) hg).trans f2, (World.cell?_of_block (w := w) (a := ⟨g, o + i * 3 + 2, none⟩) hg).trans f3⟩
theorem winP_below {w w' : World} {g : Nat} {v : Value} {ps : List Pt} (h : winP w g v ps) (hb : Below w.heap.size w w') : winP w' g v ps := winP_kept h hb.size fun hg => hb.block g hg
theorem winP_but {w w' : World} {g k : Nat} {v : Value} {ps : List Pt} (h : winP w g v ps) (hb : But k w w') (hne : g ≠ k) : winP w' g v ps := winP_kept h hb.size fun hg => hb.block g hg hne
theorem winP_own {w : World} {B : Nat} {v : Value} {ps : List Pt} (h : w.ownsRow B 151 3 v ps.length (cellsP ps)) : ∃ g, (g = B ∨ (B ≤ g ∧ g < w.heap.size)) ∧ winP w g v ps := by
  have h' := h
  rcases h.2 with ⟨rfl, h2⟩ | ⟨g, cap, cur, rfl, h2, h3, h4, h5, h6, h7⟩
  · obtain rfl : ps = [] := List.eq_nil_of_length_eq_zero h2
    exact ⟨B, .inl rfl, none, 0, rfl, Nat.le_refl _, Nat.zero_le _, fun h => absurd rfl h⟩
  · have hlt := (Array.getElem?_eq_some_iff.1 h3).1
    refine ⟨g, .inr ⟨h2, hlt⟩, _, cap, rfl, h4, h5, fun _ => ⟨0, rfl, hlt, fun j => h'.frozenAt j, fun i q hi => ?_⟩⟩
    have hlt := (List.getElem?_eq_some_iff.1 hi).1
    have hc := cellsP_get ps i q hi
    refine ⟨?_, ?_, ?_⟩
    · rw [Nat.zero_add, h'.cellAt _ (by omega)]; exact hc 0 (by omega)
    · rw [Nat.zero_add, h'.cellAt _ (by omega)]; exact hc 1 (by omega)
    · rw [Nat.zero_add, h'.cellAt _ (by omega)]; exact hc 2 (by omega)
/-- The first part of a window, and the window behind it. -/
theorem winP_head {w : World} {g : Nat} {v : Value} {p : Pt} {ps : List Pt} (h : winP w g v (p :: ps)) : ∃ o c, v = .slice (some ⟨g, o, none⟩) (ps.length + 1) c ∧ ps.length + 1 ≤ c ∧ c ≤ maxLen ∧ g < w.heap.size ∧ (∀ j, w.frozen? ⟨g, j, none⟩ = false) ∧
    w.cell? ⟨g, o, none⟩ = some (.int .i64 p.keep) ∧ w.cell? ⟨g, o + 1, none⟩ = some (.int .i64 p.drop) ∧ w.cell? ⟨g, o + 2, none⟩ = some (.string ⟨p.put.toArray⟩) := by
  obtain ⟨q, c, rfl, h1, h2, h3⟩ := h
  obtain ⟨o, rfl, e2, e4, e3⟩ := h3 (by simp)
  obtain ⟨f1, f2, f3⟩ := e3 0 p rfl
  simp only [Nat.zero_mul, Nat.add_zero] at f1 f2 f3
  exact ⟨o, c, rfl, h1, h2, e2, e4, f1, f2, f3⟩
theorem winP_tail {w w' : World} {g o c : Nat} {p : Pt} {ps : List Pt} (h : winP w g (.slice (some ⟨g, o, none⟩) (ps.length + 1) c) (p :: ps)) (hs : w.heap.size ≤ w'.heap.size) (hf : ∀ j, w'.frozen? ⟨g, j, none⟩ = w.frozen? ⟨g, j, none⟩) (hc : ∀ j, o + 3 ≤ j → w'.cell? ⟨g, j, none⟩ = w.cell? ⟨g, j, none⟩) :
    winP w' g (.slice (some ⟨g, o + 3, none⟩) ps.length (c - 1)) ps := by
  obtain ⟨q, c', e, h1, h2, h3⟩ := h
  obtain ⟨o', rfl, e2, e4, e3⟩ := h3 (by simp)
  simp only [Value.slice.injEq, Option.some.injEq, Addr.mk.injEq, true_and, and_true] at e
  obtain ⟨e5, _, e6⟩ := e
  subst e5 e6
  simp only [List.length_cons] at h1
  refine ⟨_, c - 1, rfl, by omega, by omega, fun hne => ⟨o + 3, rfl, by omega, fun j => (hf j).trans (e4 j), fun i q hi => ?_⟩⟩
  obtain ⟨f1, f2, f3⟩ := e3 (i + 1) q (by simpa using hi)
  rw [show o + (i + 1) * 3 = o + 3 + i * 3 by omega] at f1 f2 f3
  exact ⟨(hc _ (by omega)).trans f1, (hc _ (by omega)).trans f2, (hc _ (by omega)).trans f3⟩
/-- The first part, turned. -/
theorem winP_first {w w' : World} {g o c : Nat} {p p' : Pt} {ps : List Pt} (h : winP w g (.slice (some ⟨g, o, none⟩) (ps.length + 1) c) (p :: ps)) (hs : w.heap.size ≤ w'.heap.size) (hf : ∀ j, w'.frozen? ⟨g, j, none⟩ = w.frozen? ⟨g, j, none⟩) (hc : ∀ j, o + 3 ≤ j → w'.cell? ⟨g, j, none⟩ = w.cell? ⟨g, j, none⟩)
    (c0 : w'.cell? ⟨g, o, none⟩ = some (.int .i64 p'.keep)) (c1 : w'.cell? ⟨g, o + 1, none⟩ = some (.int .i64 p'.drop)) (c2 : w'.cell? ⟨g, o + 2, none⟩ = some (.string ⟨p'.put.toArray⟩)) :
    winP w' g (.slice (some ⟨g, o, none⟩) (ps.length + 1) c) (p' :: ps) := by
  obtain ⟨q, c', e, h1, h2, h3⟩ := h
  obtain ⟨o', rfl, e2, e4, e3⟩ := h3 (by simp)
  simp only [Value.slice.injEq, Option.some.injEq, Addr.mk.injEq, true_and, and_true] at e
  obtain ⟨e5, _, e6⟩ := e
  subst e5 e6
  refine ⟨_, c, rfl, h1, h2, fun _ => ⟨o, rfl, by omega, fun j => (hf j).trans (e4 j), fun i q hi => ?_⟩⟩
  cases i with
  | zero =>
    obtain rfl : p' = q := by simpa using hi
    simp only [Nat.zero_mul, Nat.add_zero]
    exact ⟨c0, c1, c2⟩
  | succ i =>
    obtain ⟨f1, f2, f3⟩ := e3 (i + 1) q (by simpa using hi)
    exact ⟨(hc _ (by omega)).trans f1, (hc _ (by omega)).trans f2, (hc _ (by omega)).trans f3⟩

theorem frozen_of_heap {w : World} {b : Nat} {xs : Array Value} {t : TypeId} (h : w.heap[b]? = some (.cells xs t (0, 0))) (j : Nat) : w.frozen? ⟨b, j, none⟩ = false := by
  simp [World.frozen?, h]
theorem two_boxes {w w1 : World} {R P : Array Value} {T S : TypeId} (hb : Below ((w.alloc (.cells R T)).alloc (.cells P S)).heap.size ((w.alloc (.cells R T)).alloc (.cells P S)) w1) :
    w1.heap[w.heap.size]? = some (.cells R T (0, 0)) ∧ w1.heap[w.heap.size + 1]? = some (.cells P S (0, 0)) ∧ Below w.heap.size w w1 := by
  refine ⟨(hb.block _ (by simp only [World.size_alloc]; omega)).trans ((heap_alloc_old _ _ (by rw [World.size_alloc]; omega)).trans (heap_alloc_new _ _)), (hb.block _ (by simp only [World.size_alloc]; omega)).trans (by have := heap_alloc_new (w.alloc (.cells R T)) (.cells P S); rwa [World.size_alloc] at this), ?_⟩
  exact (((Below.refl _ w).alloc (Nat.le_refl _) _).alloc (by rw [World.size_alloc]; omega) _).trans (hb.mono (by simp only [World.size_alloc]; omega))

theorem cut_rest {w w' : World} {g o c : Nat} {p : Pt} {ps : List Pt} (h : winP w g (.slice (some ⟨g, o, none⟩) (ps.length + 1) c) (p :: ps)) (hb : Below w.heap.size w w') :
    winP w' g (.slice (some ⟨g, o + 3, none⟩) ps.length (c - 1)) ps ∧ (c = 1 → winP w' g (.slice (some ⟨g, o, none⟩) ps.length 0) ps) := by
  have hg : g < w.heap.size := by obtain ⟨_, _, _, _, _, hg, _⟩ := winP_head h; exact hg
  refine ⟨winP_tail h hb.size (fun j => hb.frozen (p := ⟨g, j, none⟩) hg) fun j _ => hb.cell (p := ⟨g, j, none⟩) hg, fun hc => ?_⟩
  obtain ⟨_, _, e, h1, _⟩ := h
  simp only [Value.slice.injEq, List.length_cons] at e h1
  obtain rfl : ps = [] := List.eq_nil_of_length_eq_zero (by omega)
  exact ⟨_, 0, rfl, Nat.le_refl _, Nat.zero_le _, fun h => absurd rfl h⟩

set_option maxRecDepth 100000 in
set_option maxHeartbeats 4000000 in
theorem cut_all (g : Nat) (v : Value) (p : Pt) (ps : List Pt) (n : Nat) (w : World) (h : winP w g v (p :: ps)) (hp : 0 ≤ p.keep ∧ 0 ≤ p.drop) (hn : lengthP p = n) (hb : n < 1000000000) :
    Calls Tryd.prog 140 #[v, .int .i64 n] w fun e w' => ∃ v', e = .returned (.tuple #[partV p, v']) ∧ winP w' g v' ps ∧ But g w w' := by
  have H : Hid (winP w g v (p :: ps)) := h
  obtain ⟨o, c, rfl, h1, h2, h3, h4, c0, c1, c2⟩ := winP_head h
  have cL : Hid (∀ wx, Calls Tryd.prog 139 #[partV p] wx fun e w' => e = .returned (.int .i64 n) ∧ Below wx.heap.size wx w') := fun wx => by
    have := length_any p wx hp (by unfold lengthP at hn; omega)
    rw [show p.keep + p.drop + (p.put.length : Int) = n from hn] at this
    exact this
  obtain ⟨K, D, U⟩ := p
  simp only at c0 c1 c2
  have c0' : w.cell? ⟨g, o + 0, none⟩ = some (.int .i64 K) := c0
  have h4' := h4 o
  have hi1 : (1 : Int) ≤ (ps.length : Int) + 1 := by omega
  unfold partV at cL
  have H4 : Hid (∀ j, w.frozen? ⟨g, j, none⟩ = false) := h4
  clear h hn hp h4
  go_enter Tryd.func140, Tryd.ntmps140
  go_wp2_with (first
    | (go_at_call 139; refine (cL.out _).mono ?_; rintro e w1 ⟨rfl, hb1⟩; obtain ⟨b1, b2, b3⟩ := two_boxes hb1; have HB : Hid (Below w.heap.size w w1) := b3; have r0 : w1.cell? ⟨w.heap.size, 0, none⟩ = some (.int .i64 0) := Lib.cell_of_heap b1 0; have r1 : w1.cell? ⟨w.heap.size, 1, none⟩ = some (.int .i64 0) := Lib.cell_of_heap b1 1; have r2 : w1.cell? ⟨w.heap.size, 2, none⟩ = some (.string ⟨#[]⟩) := Lib.cell_of_heap b1 2; have p0 : w1.cell? ⟨w.heap.size + 1, 0, none⟩ = some (.int .i64 K) := Lib.cell_of_heap b2 0; have p1 : w1.cell? ⟨w.heap.size + 1, 1, none⟩ = some (.int .i64 D) := Lib.cell_of_heap b2 1; have p2 : w1.cell? ⟨w.heap.size + 1, 2, none⟩ = some (.string ⟨U.toArray⟩) := Lib.cell_of_heap b2 2; have rF : w1.frozen? ⟨w.heap.size, 0, none⟩ = false := frozen_of_heap b1 0; have rF1 : w1.frozen? ⟨w.heap.size, 1, none⟩ = false := frozen_of_heap b1 1; have rF2 : w1.frozen? ⟨w.heap.size, 2, none⟩ = false := frozen_of_heap b1 2; clear b1 b2 b3 hb1)
    | fail)
  have s0 : (w1.setCell ⟨w.heap.size, 0, none⟩ (.int .i64 K)).cell? ⟨w.heap.size, 0, none⟩ = some (.int .i64 K) := World.cell?_setCell_same _ _ _ r0
  have s1 : ((w1.setCell ⟨w.heap.size, 0, none⟩ (.int .i64 K)).setCell ⟨w.heap.size, 1, none⟩ (.int .i64 D)).cell? ⟨w.heap.size, 1, none⟩ = some (.int .i64 D) := by
    have : (w1.setCell ⟨w.heap.size, 0, none⟩ (.int .i64 K)).cell? ⟨w.heap.size, 1, none⟩ = some (.int .i64 0) := by simp [go_sem, r1]
    exact World.cell?_setCell_same _ _ _ this
  have s2 : (((w1.setCell ⟨w.heap.size, 0, none⟩ (.int .i64 K)).setCell ⟨w.heap.size, 1, none⟩ (.int .i64 D)).setCell ⟨w.heap.size, 2, none⟩ (.string ⟨U.toArray⟩)).cell? ⟨w.heap.size, 2, none⟩ = some (.string ⟨U.toArray⟩) := by
    have : ((w1.setCell ⟨w.heap.size, 0, none⟩ (.int .i64 K)).setCell ⟨w.heap.size, 1, none⟩ (.int .i64 D)).cell? ⟨w.heap.size, 2, none⟩ = some (.string ⟨#[]⟩) := by simp [go_sem, r2]
    exact World.cell?_setCell_same _ _ _ this
  go_region
  all_goals go_wp2
  · have hc1 : c = 1 := by assumption
    subst hc1
    refine bodyPost_ret (v := .tuple #[.agg #[.int .i64 K, .int .i64 D, .string ⟨U.toArray⟩], .slice (some ⟨g, o, none⟩) ps.length 0]) (by simp [results, Tryd.results140, go_sem, s0, s1, s2]) rfl ?_
    have hbw := ((((HB.out.setCell (p := ⟨w.heap.size, 0, none⟩) (Nat.le_refl _) (.int .i64 K)).setCell (p := ⟨w.heap.size, 1, none⟩) (Nat.le_refl _) (.int .i64 D)).setCell (p := ⟨w.heap.size, 2, none⟩) (Nat.le_refl _) (.string ⟨U.toArray⟩)).drew)
    exact ⟨_, rfl, (cut_rest H.out hbw).2 rfl, .of hbw⟩
  · refine bodyPost_ret (v := .tuple #[.agg #[.int .i64 K, .int .i64 D, .string ⟨U.toArray⟩], .slice (some ⟨g, o + 3, none⟩) ps.length (c - 1)]) (by simp [results, Tryd.results140, go_sem, s0, s1, s2]) rfl ?_
    have hbw := ((((HB.out.setCell (p := ⟨w.heap.size, 0, none⟩) (Nat.le_refl _) (.int .i64 K)).setCell (p := ⟨w.heap.size, 1, none⟩) (Nat.le_refl _) (.int .i64 D)).setCell (p := ⟨w.heap.size, 2, none⟩) (Nat.le_refl _) (.string ⟨U.toArray⟩)).drew)
    exact ⟨_, rfl, (cut_rest H.out hbw).1, .of hbw⟩
end Go.Proofs.YtedonckeomccpaaDoor

namespace Go.Proofs.YtedonckeomccpaaDoor
open Go.RowKit
set_option linter.unusedVariables false
attribute [local go_sem] Oper.semAt_some

theorem cell_set_off {w : World} {b o o' : Nat} {x : Value} (h : o ≠ o') : (w.setCell ⟨b, o, none⟩ x).cell? ⟨b, o', none⟩ = w.cell? ⟨b, o', none⟩ := World.cell?_setCell_other _ _ _ _ (by intro e; simp only [Addr.mk.injEq] at e; omega)
theorem three_set {w : World} {b : Nat} {y0 y1 y2 : Value} (r0 : w.cell? ⟨b, 0, none⟩ = some y0) (r1 : w.cell? ⟨b, 1, none⟩ = some y1) (r2 : w.cell? ⟨b, 2, none⟩ = some y2) (x0 x1 x2 : Value) :
    (w.setCell ⟨b, 0, none⟩ x0).cell? ⟨b, 0, none⟩ = some x0 ∧ ((w.setCell ⟨b, 0, none⟩ x0).setCell ⟨b, 1, none⟩ x1).cell? ⟨b, 1, none⟩ = some x1 ∧ (((w.setCell ⟨b, 0, none⟩ x0).setCell ⟨b, 1, none⟩ x1).setCell ⟨b, 2, none⟩ x2).cell? ⟨b, 2, none⟩ = some x2 ∧
    (((w.setCell ⟨b, 0, none⟩ x0).setCell ⟨b, 1, none⟩ x1).setCell ⟨b, 2, none⟩ x2).heap.size = w.heap.size ∧ ∀ k, k ≠ b → (((w.setCell ⟨b, 0, none⟩ x0).setCell ⟨b, 1, none⟩ x1).setCell ⟨b, 2, none⟩ x2).heap[k]? = w.heap[k]? := by
  have h1 : (w.setCell ⟨b, 0, none⟩ x0).cell? ⟨b, 1, none⟩ = some y1 := by rw [cell_set_off (by omega)]; exact r1
  have h2 : ((w.setCell ⟨b, 0, none⟩ x0).setCell ⟨b, 1, none⟩ x1).cell? ⟨b, 2, none⟩ = some y2 := by rw [cell_set_off (by omega), cell_set_off (by omega)]; exact r2
  refine ⟨World.cell?_setCell_same _ _ _ r0, World.cell?_setCell_same _ _ _ h1, World.cell?_setCell_same _ _ _ h2, by simp, fun k hk => ?_⟩
  rw [Below.heap_setCell _ _ _ _ (by show k ≠ b; exact hk), Below.heap_setCell _ _ _ _ (by show k ≠ b; exact hk), Below.heap_setCell _ _ _ _ (by show k ≠ b; exact hk)]
theorem But.trans' {g : Nat} {w A Z : World} (h : But g w A) (hs : Z.heap.size = A.heap.size) (hk : ∀ k, k < w.heap.size → Z.heap[k]? = A.heap[k]?) (ho : Z.os = A.os ∧ Z.tape = A.tape ∧ Z.output = A.output) : But g w Z :=
  ⟨ho.1.trans h.os, ho.2.1.trans h.tape, ho.2.2.trans h.output, by rw [hs]; exact h.size, fun k hk1 hk2 => (hk k hk1).trans (h.block k hk1 hk2)⟩

set_option maxRecDepth 100000 in
set_option maxHeartbeats 4000000 in
theorem cut_keep (g : Nat) (v : Value) (K : Int) (ps : List Pt) (n : Nat) (w : World) (h : winP w g v (⟨K, 0, []⟩ :: ps)) (h0 : 0 < n) (hn : (n : Int) < K) (hb : K < 1000000000) :
    Calls Tryd.prog 140 #[v, .int .i64 n] w fun e w' => ∃ v', e = .returned (.tuple #[partV ⟨n, 0, []⟩, v']) ∧ winP w' g v' (⟨K - n, 0, []⟩ :: ps) ∧ But g w w' := by
  have H : Hid (winP w g v (⟨K, 0, []⟩ :: ps)) := h
  obtain ⟨o, c, rfl, h1, h2, h3, h4, c0, c1, c2⟩ := winP_head h
  have cL : Hid (∀ wx, Calls Tryd.prog 139 #[partV ⟨K, 0, []⟩] wx fun e w' => e = .returned (.int .i64 K) ∧ Below wx.heap.size wx w') := fun wx => by
    have := length_any ⟨K, 0, []⟩ wx ⟨by simp <;> omega, by simp <;> omega⟩ (by simp <;> omega)
    simpa using this
  have cK := isKeep_any ⟨K, 0, []⟩
  have cD := isDrop_any ⟨K, 0, []⟩
  have hkd : decide (0 < (⟨K, 0, []⟩ : Pt).keep) = true := decide_eq_true (show 0 < K by omega)
  rw [hkd] at cK
  have hne : ¬ K = (n : Int) := by omega
  have hw1 : -9223372036854775808 ≤ K - (n : Int) := by omega
  have hw2 : K - (n : Int) < 9223372036854775808 := by omega
  simp only at c0 c1 c2
  have H4 : Hid (∀ j, w.frozen? ⟨g, j, none⟩ = false) := h4
  have hgw : ¬ g = w.heap.size := by omega
  have hwg : ¬ w.heap.size = g := by omega
  have C0 : Hid (w.cell? ⟨g, o, none⟩ = some (.int .i64 K)) := c0
  have C1 : Hid (w.cell? ⟨g, o + 1, none⟩ = some (.int .i64 0)) := c1
  have C2 : Hid (w.cell? ⟨g, o + 2, none⟩ = some (.string ⟨[].toArray⟩)) := c2
  have c0' : w.cell? ⟨g, o + 0, none⟩ = some (.int .i64 K) := c0
  have H3 : Hid (g < w.heap.size) := h3
  unfold partV at cL cK cD
  clear h hb h4
  go_enter Tryd.func140, Tryd.ntmps140
  go_wp2_with (first
    | (go_at_call 139; refine (cL.out _).mono ?_; rintro e w1 ⟨rfl, hb1⟩; obtain ⟨b1, b2, b3⟩ := two_boxes hb1; have HR1 : Hid (w1.heap[w.heap.size]? = some (.cells #[.int .i64 0, .int .i64 0, .string ⟨#[]⟩] 151 (0, 0))) := b1; have HP1 : Hid (w1.heap[w.heap.size + 1]? = some (.cells #[.int .i64 K, .int .i64 0, .string ⟨[].toArray⟩] 151 (0, 0))) := b2; have HB1 : Hid (Below w.heap.size w w1) := b3; have p0 : w1.cell? ⟨w.heap.size + 1, 0, none⟩ = some (.int .i64 K) := Lib.cell_of_heap b2 0; have p1 : w1.cell? ⟨w.heap.size + 1, 1, none⟩ = some (.int .i64 0) := Lib.cell_of_heap b2 1; have p2 : w1.cell? ⟨w.heap.size + 1, 2, none⟩ = some (.string ⟨[].toArray⟩) := Lib.cell_of_heap b2 2; clear b1 b2 b3 hb1)
    | (go_at_call 101; refine (cK _).mono ?_; rintro e w2 ⟨rfl, hb2⟩; have HR2 : Hid (w2.heap[w.heap.size]? = some (.cells #[.int .i64 0, .int .i64 0, .string ⟨#[]⟩] 151 (0, 0))) := (hb2.block _ (heap_lt HR1.out)).trans HR1.out; have HP2 : Hid (w2.heap[w.heap.size + 1]? = some (.cells #[.int .i64 K, .int .i64 0, .string ⟨[].toArray⟩] 151 (0, 0))) := (hb2.block _ (heap_lt HP1.out)).trans HP1.out; have HB2 : Hid (Below w.heap.size w w2) := HB1.out.trans (hb2.mono HB1.out.size); have r0 : w2.cell? ⟨w.heap.size, 0, none⟩ = some (.int .i64 0) := Lib.cell_of_heap HR2.out 0; have r1 : w2.cell? ⟨w.heap.size, 1, none⟩ = some (.int .i64 0) := Lib.cell_of_heap HR2.out 1; have r2 : w2.cell? ⟨w.heap.size, 2, none⟩ = some (.string ⟨#[]⟩) := Lib.cell_of_heap HR2.out 2; have rF : w2.frozen? ⟨w.heap.size, 0, none⟩ = false := frozen_of_heap HR2.out 0; have rF1 : w2.frozen? ⟨w.heap.size, 1, none⟩ = false := frozen_of_heap HR2.out 1; have rF2 : w2.frozen? ⟨w.heap.size, 2, none⟩ = false := frozen_of_heap HR2.out 2; have g0 : w2.cell? ⟨g, o, none⟩ = some (.int .i64 K) := (HB2.out.cell H3.out).trans C0.out; have g1 : w2.cell? ⟨g, o + 1, none⟩ = some (.int .i64 0) := (HB2.out.cell H3.out).trans C1.out; have g2 : w2.cell? ⟨g, o + 2, none⟩ = some (.string ⟨[].toArray⟩) := (HB2.out.cell H3.out).trans C2.out; have gF : w2.frozen? ⟨g, o, none⟩ = false := (HB2.out.frozen H3.out).trans (H4.out o); have gF1 : w2.frozen? ⟨g, o + 1, none⟩ = false := (HB2.out.frozen H3.out).trans (H4.out _); have gF2 : w2.frozen? ⟨g, o + 2, none⟩ = false := (HB2.out.frozen H3.out).trans (H4.out _); clear hb2)
    | fail)
  obtain ⟨A, hA⟩ : ∃ A, w2.setCell ⟨g, o + 0, none⟩ (.int .i64 (K - n)) = A := ⟨_, rfl⟩
  have hA' : w2.setCell ⟨g, o, none⟩ (.int .i64 (K - n)) = A := hA
  rw [hA']
  have hkeep : A.heap[w.heap.size]? = w2.heap[w.heap.size]? := by rw [← hA]; exact Below.heap_setCell _ _ _ _ (by show w.heap.size ≠ g; omega)
  have e0 : A.cell? ⟨w.heap.size, 0, none⟩ = some (.int .i64 0) := (World.cell?_of_block (w := w2) (a := ⟨w.heap.size, 0, none⟩) hkeep).trans r0
  have e1 : A.cell? ⟨w.heap.size, 1, none⟩ = some (.int .i64 0) := (World.cell?_of_block (w := w2) (a := ⟨w.heap.size, 1, none⟩) hkeep).trans r1
  have e2 : A.cell? ⟨w.heap.size, 2, none⟩ = some (.string ⟨#[]⟩) := (World.cell?_of_block (w := w2) (a := ⟨w.heap.size, 2, none⟩) hkeep).trans r2
  obtain ⟨s0, s1, s2, hs, hk⟩ := three_set e0 e1 e2 (.int .i64 n) (.int .i64 0) (.string ⟨#[]⟩)
  refine bodyPost_ret (v := .tuple #[.agg #[(.int .i64 n), (.int .i64 0), (.string ⟨#[]⟩)], .slice (some ⟨g, o, none⟩) (ps.length + 1) c]) (by simp [results, Tryd.results140, go_sem, s0, s1, s2]) rfl ?_
  have hfirst : winP A g (.slice (some ⟨g, o, none⟩) (ps.length + 1) c) (⟨K - n, 0, []⟩ :: ps) := by
    rw [← hA]
    exact winP_first H.out (by rw [World.size_setCell]; exact HB2.out.size) (fun j => by rw [World.frozen?_setCell]; exact HB2.out.frozen H3.out) (fun j hj => by rw [cell_set_off (by omega)]; exact HB2.out.cell H3.out)
      (World.cell?_setCell_same _ _ _ g0) (by rw [cell_set_off (by omega)]; exact g1) (by rw [cell_set_off (by omega)]; exact g2)
  have hbut : But g w A := by rw [← hA]; exact (But.of HB2.out).set _ _
  generalize hZ : ((A.setCell ⟨w.heap.size, 0, none⟩ (.int .i64 n)).setCell ⟨w.heap.size, 1, none⟩ (.int .i64 0)).setCell ⟨w.heap.size, 2, none⟩ (.string ⟨#[]⟩) = Z at *
  exact ⟨_, rfl, winP_kept hfirst (Nat.le_of_eq hs.symm) fun _ => hk g (by omega), hbut.trans' hs (fun k hk' => hk k (by omega)) (by rw [← hZ]; exact ⟨rfl, rfl, rfl⟩)⟩

set_option maxRecDepth 100000 in
set_option maxHeartbeats 4000000 in
theorem cut_drop (g : Nat) (v : Value) (K : Int) (ps : List Pt) (n : Nat) (w : World) (h : winP w g v (⟨0, K, []⟩ :: ps)) (h0 : 0 < n) (hn : (n : Int) < K) (hb : K < 1000000000) :
    Calls Tryd.prog 140 #[v, .int .i64 n] w fun e w' => ∃ v', e = .returned (.tuple #[partV ⟨0, n, []⟩, v']) ∧ winP w' g v' (⟨0, K - n, []⟩ :: ps) ∧ But g w w' := by
  have H : Hid (winP w g v (⟨0, K, []⟩ :: ps)) := h
  obtain ⟨o, c, rfl, h1, h2, h3, h4, c0, c1, c2⟩ := winP_head h
  have cL : Hid (∀ wx, Calls Tryd.prog 139 #[partV ⟨0, K, []⟩] wx fun e w' => e = .returned (.int .i64 K) ∧ Below wx.heap.size wx w') := fun wx => by
    have := length_any ⟨0, K, []⟩ wx ⟨by simp <;> omega, by simp <;> omega⟩ (by simp <;> omega)
    simpa using this
  have cK := isKeep_any ⟨0, K, []⟩
  have cD := isDrop_any ⟨0, K, []⟩
  have hkd : decide (0 < (⟨0, K, []⟩ : Pt).keep) = false := rfl
  have hdd : decide (0 < (⟨0, K, []⟩ : Pt).drop) = true := decide_eq_true (show 0 < K by omega)
  rw [hkd] at cK
  rw [hdd] at cD
  have hne : ¬ K = (n : Int) := by omega
  have hw1 : -9223372036854775808 ≤ K - (n : Int) := by omega
  have hw2 : K - (n : Int) < 9223372036854775808 := by omega
  simp only at c0 c1 c2
  have H4 : Hid (∀ j, w.frozen? ⟨g, j, none⟩ = false) := h4
  have hgw : ¬ g = w.heap.size := by omega
  have hwg : ¬ w.heap.size = g := by omega
  have C0 : Hid (w.cell? ⟨g, o, none⟩ = some (.int .i64 0)) := c0
  have C1 : Hid (w.cell? ⟨g, o + 1, none⟩ = some (.int .i64 K)) := c1
  have C2 : Hid (w.cell? ⟨g, o + 2, none⟩ = some (.string ⟨[].toArray⟩)) := c2
  have c0' : w.cell? ⟨g, o + 0, none⟩ = some (.int .i64 0) := c0
  have H3 : Hid (g < w.heap.size) := h3
  unfold partV at cL cK cD
  clear h hb h4
  go_enter Tryd.func140, Tryd.ntmps140
  go_wp2_with (first
    | (go_at_call 139; refine (cL.out _).mono ?_; rintro e w1 ⟨rfl, hb1⟩; obtain ⟨b1, b2, b3⟩ := two_boxes hb1; have HR1 : Hid (w1.heap[w.heap.size]? = some (.cells #[.int .i64 0, .int .i64 0, .string ⟨#[]⟩] 151 (0, 0))) := b1; have HP1 : Hid (w1.heap[w.heap.size + 1]? = some (.cells #[.int .i64 0, .int .i64 K, .string ⟨[].toArray⟩] 151 (0, 0))) := b2; have HB1 : Hid (Below w.heap.size w w1) := b3; have p0 : w1.cell? ⟨w.heap.size + 1, 0, none⟩ = some (.int .i64 0) := Lib.cell_of_heap b2 0; have p1 : w1.cell? ⟨w.heap.size + 1, 1, none⟩ = some (.int .i64 K) := Lib.cell_of_heap b2 1; have p2 : w1.cell? ⟨w.heap.size + 1, 2, none⟩ = some (.string ⟨[].toArray⟩) := Lib.cell_of_heap b2 2; clear b1 b2 b3 hb1)
    | (go_at_call 101; refine (cK _).mono ?_; rintro e w2 ⟨rfl, hb2⟩; have HR2 : Hid (w2.heap[w.heap.size]? = some (.cells #[.int .i64 0, .int .i64 0, .string ⟨#[]⟩] 151 (0, 0))) := (hb2.block _ (heap_lt HR1.out)).trans HR1.out; have HP2 : Hid (w2.heap[w.heap.size + 1]? = some (.cells #[.int .i64 0, .int .i64 K, .string ⟨[].toArray⟩] 151 (0, 0))) := (hb2.block _ (heap_lt HP1.out)).trans HP1.out; have HB2 : Hid (Below w.heap.size w w2) := HB1.out.trans (hb2.mono HB1.out.size); have p0 : w2.cell? ⟨w.heap.size + 1, 0, none⟩ = some (.int .i64 0) := Lib.cell_of_heap HP2.out 0; have p1 : w2.cell? ⟨w.heap.size + 1, 1, none⟩ = some (.int .i64 K) := Lib.cell_of_heap HP2.out 1; have p2 : w2.cell? ⟨w.heap.size + 1, 2, none⟩ = some (.string ⟨[].toArray⟩) := Lib.cell_of_heap HP2.out 2; clear hb2)
    | (go_at_call 102; refine (cD _).mono ?_; rintro e w3 ⟨rfl, hb3⟩; have HR3 : Hid (w3.heap[w.heap.size]? = some (.cells #[.int .i64 0, .int .i64 0, .string ⟨#[]⟩] 151 (0, 0))) := (hb3.block _ (heap_lt HR2.out)).trans HR2.out; have HP3 : Hid (w3.heap[w.heap.size + 1]? = some (.cells #[.int .i64 0, .int .i64 K, .string ⟨[].toArray⟩] 151 (0, 0))) := (hb3.block _ (heap_lt HP2.out)).trans HP2.out; have HB3 : Hid (Below w.heap.size w w3) := HB2.out.trans (hb3.mono HB2.out.size); have r0 : w3.cell? ⟨w.heap.size, 0, none⟩ = some (.int .i64 0) := Lib.cell_of_heap HR3.out 0; have r1 : w3.cell? ⟨w.heap.size, 1, none⟩ = some (.int .i64 0) := Lib.cell_of_heap HR3.out 1; have r2 : w3.cell? ⟨w.heap.size, 2, none⟩ = some (.string ⟨#[]⟩) := Lib.cell_of_heap HR3.out 2; have rF : w3.frozen? ⟨w.heap.size, 0, none⟩ = false := frozen_of_heap HR3.out 0; have rF1 : w3.frozen? ⟨w.heap.size, 1, none⟩ = false := frozen_of_heap HR3.out 1; have rF2 : w3.frozen? ⟨w.heap.size, 2, none⟩ = false := frozen_of_heap HR3.out 2; have g0 : w3.cell? ⟨g, o, none⟩ = some (.int .i64 0) := (HB3.out.cell H3.out).trans C0.out; have g1 : w3.cell? ⟨g, o + 1, none⟩ = some (.int .i64 K) := (HB3.out.cell H3.out).trans C1.out; have g2 : w3.cell? ⟨g, o + 2, none⟩ = some (.string ⟨[].toArray⟩) := (HB3.out.cell H3.out).trans C2.out; have gF : w3.frozen? ⟨g, o, none⟩ = false := (HB3.out.frozen H3.out).trans (H4.out o); have gF1 : w3.frozen? ⟨g, o + 1, none⟩ = false := (HB3.out.frozen H3.out).trans (H4.out _); have gF2 : w3.frozen? ⟨g, o + 2, none⟩ = false := (HB3.out.frozen H3.out).trans (H4.out _); clear hb3)
    | fail)
  obtain ⟨A, hA⟩ : ∃ A, w3.setCell ⟨g, o + 1, none⟩ (.int .i64 (K - n)) = A := ⟨_, rfl⟩
  have hA' := hA
  rw [hA']
  have hkeep : A.heap[w.heap.size]? = w3.heap[w.heap.size]? := by rw [← hA]; exact Below.heap_setCell _ _ _ _ (by show w.heap.size ≠ g; omega)
  have e0 : A.cell? ⟨w.heap.size, 0, none⟩ = some (.int .i64 0) := (World.cell?_of_block (w := w3) (a := ⟨w.heap.size, 0, none⟩) hkeep).trans r0
  have e1 : A.cell? ⟨w.heap.size, 1, none⟩ = some (.int .i64 0) := (World.cell?_of_block (w := w3) (a := ⟨w.heap.size, 1, none⟩) hkeep).trans r1
  have e2 : A.cell? ⟨w.heap.size, 2, none⟩ = some (.string ⟨#[]⟩) := (World.cell?_of_block (w := w3) (a := ⟨w.heap.size, 2, none⟩) hkeep).trans r2
  obtain ⟨s0, s1, s2, hs, hk⟩ := three_set e0 e1 e2 (.int .i64 0) (.int .i64 n) (.string ⟨#[]⟩)
  refine bodyPost_ret (v := .tuple #[.agg #[(.int .i64 0), (.int .i64 n), (.string ⟨#[]⟩)], .slice (some ⟨g, o, none⟩) (ps.length + 1) c]) (by simp [results, Tryd.results140, go_sem, s0, s1, s2]) rfl ?_
  have hfirst : winP A g (.slice (some ⟨g, o, none⟩) (ps.length + 1) c) (⟨0, K - n, []⟩ :: ps) := by
    rw [← hA]
    exact winP_first H.out (by rw [World.size_setCell]; exact HB3.out.size) (fun j => by rw [World.frozen?_setCell]; exact HB3.out.frozen H3.out) (fun j hj => by rw [cell_set_off (by omega)]; exact HB3.out.cell H3.out)
      (by rw [cell_set_off (by omega)]; exact g0) (World.cell?_setCell_same _ _ _ g1) (by rw [cell_set_off (by omega)]; exact g2)
  have hbut : But g w A := by rw [← hA]; exact (But.of HB3.out).set _ _
  generalize hZ : ((A.setCell ⟨w.heap.size, 0, none⟩ (.int .i64 0)).setCell ⟨w.heap.size, 1, none⟩ (.int .i64 n)).setCell ⟨w.heap.size, 2, none⟩ (.string ⟨#[]⟩) = Z at *
  exact ⟨_, rfl, winP_kept hfirst (Nat.le_of_eq hs.symm) fun _ => hk g (by omega), hbut.trans' hs (fun k hk' => hk k (by omega)) (by rw [← hZ]; exact ⟨rfl, rfl, rfl⟩)⟩

set_option maxRecDepth 100000 in
set_option maxHeartbeats 4000000 in
theorem cut_put (g : Nat) (v : Value) (U : List UInt8) (ps : List Pt) (n : Nat) (w : World) (h : winP w g v (⟨0, 0, U⟩ :: ps)) (h0 : 0 < n) (hn : n < U.length) (hb : U.length < 1000000000) :
    Calls Tryd.prog 140 #[v, .int .i64 n] w fun e w' => ∃ v', e = .returned (.tuple #[partV ⟨0, 0, U.take n⟩, v']) ∧ winP w' g v' (⟨0, 0, U.drop n⟩ :: ps) ∧ But g w w' := by
  have H : Hid (winP w g v (⟨0, 0, U⟩ :: ps)) := h
  obtain ⟨o, c, rfl, h1, h2, h3, h4, c0, c1, c2⟩ := winP_head h
  have cL : Hid (∀ wx, Calls Tryd.prog 139 #[partV ⟨0, 0, U⟩] wx fun e w' => e = .returned (.int .i64 (U.length : Int)) ∧ Below wx.heap.size wx w') := fun wx => by
    have := length_any ⟨0, 0, U⟩ wx ⟨by simp <;> omega, by simp <;> omega⟩ (by simp <;> omega)
    simpa using this
  have cK := isKeep_any ⟨0, 0, U⟩
  have cD := isDrop_any ⟨0, 0, U⟩
  have hkd : decide (0 < (⟨0, 0, U⟩ : Pt).keep) = false := rfl
  have hdd : decide (0 < (⟨0, 0, U⟩ : Pt).drop) = false := rfl
  rw [hkd] at cK
  rw [hdd] at cD
  have hne : ¬ (U.length : Int) = (n : Int) := by omega
  have hz : (ByteArray.mk U.toArray).size = U.length := by simp [ByteArray.size]
  have hle : n ≤ U.length := by omega
  simp only at c0 c1 c2
  have H4 : Hid (∀ j, w.frozen? ⟨g, j, none⟩ = false) := h4
  have hgw : ¬ g = w.heap.size := by omega
  have hwg : ¬ w.heap.size = g := by omega
  have C0 : Hid (w.cell? ⟨g, o, none⟩ = some (.int .i64 0)) := c0
  have C1 : Hid (w.cell? ⟨g, o + 1, none⟩ = some (.int .i64 0)) := c1
  have C2 : Hid (w.cell? ⟨g, o + 2, none⟩ = some (.string ⟨U.toArray⟩)) := c2
  have c0' : w.cell? ⟨g, o + 0, none⟩ = some (.int .i64 0) := c0
  have H3 : Hid (g < w.heap.size) := h3
  unfold partV at cL cK cD
  clear h hb h4
  go_enter Tryd.func140, Tryd.ntmps140
  go_wp2_with (first
    | (go_at_call 139; refine (cL.out _).mono ?_; rintro e w1 ⟨rfl, hb1⟩; obtain ⟨b1, b2, b3⟩ := two_boxes hb1; have HR1 : Hid (w1.heap[w.heap.size]? = some (.cells #[.int .i64 0, .int .i64 0, .string ⟨#[]⟩] 151 (0, 0))) := b1; have HP1 : Hid (w1.heap[w.heap.size + 1]? = some (.cells #[.int .i64 0, .int .i64 0, .string ⟨U.toArray⟩] 151 (0, 0))) := b2; have HB1 : Hid (Below w.heap.size w w1) := b3; have p0 : w1.cell? ⟨w.heap.size + 1, 0, none⟩ = some (.int .i64 0) := Lib.cell_of_heap b2 0; have p1 : w1.cell? ⟨w.heap.size + 1, 1, none⟩ = some (.int .i64 0) := Lib.cell_of_heap b2 1; have p2 : w1.cell? ⟨w.heap.size + 1, 2, none⟩ = some (.string ⟨U.toArray⟩) := Lib.cell_of_heap b2 2; clear b1 b2 b3 hb1)
    | (go_at_call 101; refine (cK _).mono ?_; rintro e w2 ⟨rfl, hb2⟩; have HR2 : Hid (w2.heap[w.heap.size]? = some (.cells #[.int .i64 0, .int .i64 0, .string ⟨#[]⟩] 151 (0, 0))) := (hb2.block _ (heap_lt HR1.out)).trans HR1.out; have HP2 : Hid (w2.heap[w.heap.size + 1]? = some (.cells #[.int .i64 0, .int .i64 0, .string ⟨U.toArray⟩] 151 (0, 0))) := (hb2.block _ (heap_lt HP1.out)).trans HP1.out; have HB2 : Hid (Below w.heap.size w w2) := HB1.out.trans (hb2.mono HB1.out.size); have p0 : w2.cell? ⟨w.heap.size + 1, 0, none⟩ = some (.int .i64 0) := Lib.cell_of_heap HP2.out 0; have p1 : w2.cell? ⟨w.heap.size + 1, 1, none⟩ = some (.int .i64 0) := Lib.cell_of_heap HP2.out 1; have p2 : w2.cell? ⟨w.heap.size + 1, 2, none⟩ = some (.string ⟨U.toArray⟩) := Lib.cell_of_heap HP2.out 2; clear hb2)
    | (go_at_call 102; refine (cD _).mono ?_; rintro e w3 ⟨rfl, hb3⟩; have HR3 : Hid (w3.heap[w.heap.size]? = some (.cells #[.int .i64 0, .int .i64 0, .string ⟨#[]⟩] 151 (0, 0))) := (hb3.block _ (heap_lt HR2.out)).trans HR2.out; have HP3 : Hid (w3.heap[w.heap.size + 1]? = some (.cells #[.int .i64 0, .int .i64 0, .string ⟨U.toArray⟩] 151 (0, 0))) := (hb3.block _ (heap_lt HP2.out)).trans HP2.out; have HB3 : Hid (Below w.heap.size w w3) := HB2.out.trans (hb3.mono HB2.out.size); have r0 : w3.cell? ⟨w.heap.size, 0, none⟩ = some (.int .i64 0) := Lib.cell_of_heap HR3.out 0; have r1 : w3.cell? ⟨w.heap.size, 1, none⟩ = some (.int .i64 0) := Lib.cell_of_heap HR3.out 1; have r2 : w3.cell? ⟨w.heap.size, 2, none⟩ = some (.string ⟨#[]⟩) := Lib.cell_of_heap HR3.out 2; have rF : w3.frozen? ⟨w.heap.size, 0, none⟩ = false := frozen_of_heap HR3.out 0; have rF1 : w3.frozen? ⟨w.heap.size, 1, none⟩ = false := frozen_of_heap HR3.out 1; have rF2 : w3.frozen? ⟨w.heap.size, 2, none⟩ = false := frozen_of_heap HR3.out 2; have g0 : w3.cell? ⟨g, o, none⟩ = some (.int .i64 0) := (HB3.out.cell H3.out).trans C0.out; have g1 : w3.cell? ⟨g, o + 1, none⟩ = some (.int .i64 0) := (HB3.out.cell H3.out).trans C1.out; have g2 : w3.cell? ⟨g, o + 2, none⟩ = some (.string ⟨U.toArray⟩) := (HB3.out.cell H3.out).trans C2.out; have gF : w3.frozen? ⟨g, o, none⟩ = false := (HB3.out.frozen H3.out).trans (H4.out o); have gF1 : w3.frozen? ⟨g, o + 1, none⟩ = false := (HB3.out.frozen H3.out).trans (H4.out _); have gF2 : w3.frozen? ⟨g, o + 2, none⟩ = false := (HB3.out.frozen H3.out).trans (H4.out _); have p0 : w3.cell? ⟨w.heap.size + 1, 0, none⟩ = some (.int .i64 0) := Lib.cell_of_heap HP3.out 0; have p1 : w3.cell? ⟨w.heap.size + 1, 1, none⟩ = some (.int .i64 0) := Lib.cell_of_heap HP3.out 1; have p2 : w3.cell? ⟨w.heap.size + 1, 2, none⟩ = some (.string ⟨U.toArray⟩) := Lib.cell_of_heap HP3.out 2; clear hb3)
    | fail)
  obtain ⟨A, hA⟩ : ∃ A, w3.setCell ⟨g, o + 2, none⟩ (.string ((ByteArray.mk U.toArray).extract n U.length)) = A := ⟨_, rfl⟩
  have hA' := hA
  rw [hA']
  have hkeep : A.heap[w.heap.size]? = w3.heap[w.heap.size]? := by rw [← hA]; exact Below.heap_setCell _ _ _ _ (by show w.heap.size ≠ g; omega)
  have e0 : A.cell? ⟨w.heap.size, 0, none⟩ = some (.int .i64 0) := (World.cell?_of_block (w := w3) (a := ⟨w.heap.size, 0, none⟩) hkeep).trans r0
  have e1 : A.cell? ⟨w.heap.size, 1, none⟩ = some (.int .i64 0) := (World.cell?_of_block (w := w3) (a := ⟨w.heap.size, 1, none⟩) hkeep).trans r1
  have e2 : A.cell? ⟨w.heap.size, 2, none⟩ = some (.string ⟨#[]⟩) := (World.cell?_of_block (w := w3) (a := ⟨w.heap.size, 2, none⟩) hkeep).trans r2
  obtain ⟨s0, s1, s2, hs, hk⟩ := three_set e0 e1 e2 (.int .i64 0) (.int .i64 0) (.string ((ByteArray.mk U.toArray).extract 0 n))
  refine bodyPost_ret (v := .tuple #[.agg #[(.int .i64 0), (.int .i64 0), (.string ((ByteArray.mk U.toArray).extract 0 n))], .slice (some ⟨g, o, none⟩) (ps.length + 1) c]) (by simp [results, Tryd.results140, go_sem, s0, s1, s2]) rfl ?_
  have hfirst : winP A g (.slice (some ⟨g, o, none⟩) (ps.length + 1) c) (⟨0, 0, U.drop n⟩ :: ps) := by
    rw [← hA]
    exact winP_first H.out (by rw [World.size_setCell]; exact HB3.out.size) (fun j => by rw [World.frozen?_setCell]; exact HB3.out.frozen H3.out) (fun j hj => by rw [cell_set_off (by omega)]; exact HB3.out.cell H3.out)
      (by rw [cell_set_off (by omega)]; exact g0) (by rw [cell_set_off (by omega)]; exact g1) ((World.cell?_setCell_same _ _ _ g2).trans (by rw [cut_tail]))
  have hbut : But g w A := by rw [← hA]; exact (But.of HB3.out).set _ _
  generalize hZ : ((A.setCell ⟨w.heap.size, 0, none⟩ (.int .i64 0)).setCell ⟨w.heap.size, 1, none⟩ (.int .i64 0)).setCell ⟨w.heap.size, 2, none⟩ (.string ((ByteArray.mk U.toArray).extract 0 n)) = Z at *
  exact ⟨_, by rw [cut_head]; rfl, winP_kept hfirst (Nat.le_of_eq hs.symm) fun _ => hk g (by omega), hbut.trans' hs (fun k hk' => hk k (by omega)) (by rw [← hZ]; exact ⟨rfl, rfl, rfl⟩)⟩
end Go.Proofs.YtedonckeomccpaaDoor

namespace Go.Proofs.YtedonckeomccpaaDoor
set_option linter.unusedVariables false

theorem ticks_shift (d : Bool) : ∀ (n : Nat) (l : List (List UInt8 × Bool)) (g : GSt), ticks d n (l ++ g.1, g.2) = (l ++ (ticks d n g).1, (ticks d n g).2)
  | 0, l, g => rfl
  | n + 1, l, g => by
    rw [ticks, ticks]
    have e : tick d (l ++ g.1, g.2) = (l ++ (tick d g).1, (tick d g).2) := by simp [tick]
    rw [e]
    exact ticks_shift d n l (tick d g)
theorem spreadP_shift (l : List (List UInt8 × Bool)) (g : GSt) (p : Pt) : spreadP (l ++ g.1, g.2) p = (l ++ (spreadP g p).1, (spreadP g p).2) := by
  unfold spreadP
  rw [ticks_shift true p.drop.toNat l (g.1, g.2 ++ p.put), ticks_shift]
/-- The gaps of what is yet to come, with what was put ahead of it. -/
def gapsR : List UInt8 → List Pt → GSt
  | acc, [] => ([], acc)
  | acc, p :: ps => ((spreadP ([], acc) p).1 ++ (gapsR (spreadP ([], acc) p).2 ps).1, (gapsR (spreadP ([], acc) p).2 ps).2)
theorem spreads_gaps (ps : List Pt) : ∀ (l : List (List UInt8 × Bool)) (acc : List UInt8), ps.foldl spreadP (l, acc) = (l ++ (gapsR acc ps).1, (gapsR acc ps).2) := by
  induction ps with
  | nil => intro l acc; simp [gapsR]
  | cons p ps ih =>
    intro l acc
    have e := spreadP_shift l ([], acc) p
    rw [List.append_nil] at e
    rw [List.foldl_cons, e, ih]
    simp [gapsR]
theorem spreads_eq (ps : List Pt) : spreads ps = gapsR [] ps := by
  have := spreads_gaps ps [] []
  simpa [spreads] using this
theorem gaps_put (acc u : List UInt8) (ps : List Pt) : gapsR acc (⟨0, 0, u⟩ :: ps) = gapsR (acc ++ u) ps := by
  simp [gapsR, spreadP, ticks]
theorem ticks_one (d : Bool) : ∀ (n : Nat) (acc : List UInt8), ticks d (n + 1) ([], acc) = ((acc, d) :: List.replicate n ([], d), [])
  | 0, acc => by simp [ticks, tick]
  | n + 1, acc => by
    rw [ticks_more, ticks_one d n acc]
    simp [tick, List.replicate_succ']
theorem gaps_keep (acc : List UInt8) (n : Nat) (ps : List Pt) : gapsR acc (⟨(n : Int) + 1, 0, []⟩ :: ps) = ((acc, false) :: List.replicate n ([], false) ++ (gapsR [] ps).1, (gapsR [] ps).2) := by
  have h1 : ((n : Int) + 1).toNat = n + 1 := by omega
  have h2 := ticks_one false n acc
  rw [ticks] at h2
  simp only [gapsR, spreadP, h1, Int.toNat_zero, ticks, List.append_nil, h2]
theorem gaps_drop (acc : List UInt8) (n : Nat) (ps : List Pt) : gapsR acc (⟨0, (n : Int) + 1, []⟩ :: ps) = ((acc, true) :: List.replicate n ([], true) ++ (gapsR [] ps).1, (gapsR [] ps).2) := by
  have h1 : ((n : Int) + 1).toNat = n + 1 := by omega
  have h2 := ticks_one true n acc
  rw [ticks] at h2
  simp only [gapsR, spreadP, h1, Int.toNat_zero, ticks, List.append_nil, h2]

/-- What the document's Transform adds, gap by gap: b says that the other's put is counted first. -/
def docT (first : Bool) : List (List UInt8 × Bool) → List UInt8 → List (List UInt8 × Bool) → List UInt8 → List Pt
  | (u, d) :: x, xl, (v, e) :: y, yl => (if first then [⟨0, 0, u⟩, ⟨v.length, 0, []⟩] else [⟨v.length, 0, []⟩, ⟨0, 0, u⟩]) ++ (if e then [] else [unitP d]) ++ docT first x xl y yl
  | _, xl, _, yl => if first then [⟨0, 0, xl⟩, ⟨yl.length, 0, []⟩] else [⟨yl.length, 0, []⟩, ⟨0, 0, xl⟩]
end Go.Proofs.YtedonckeomccpaaDoor

namespace Go.Proofs.YtedonckeomccpaaDoor
set_option linter.unusedVariables false

def unitK (d : Bool) (k : Nat) : Pt := if d then ⟨0, k, []⟩ else ⟨k, 0, []⟩
theorem one_cases {p : Pt} (h : oneP p) : (∃ u, u ≠ [] ∧ p = ⟨0, 0, u⟩) ∨ ∃ d n, p = unitK d (n + 1) := by
  obtain ⟨K, D, U⟩ := p
  rcases h with ⟨h1, h2, h3⟩ | ⟨h1, h2, h3⟩ | ⟨h1, h2, h3⟩
  · obtain rfl : D = 0 := h2
    obtain rfl : U = [] := h3
    replace h1 : 0 < K := h1
    refine .inr ⟨false, K.toNat - 1, ?_⟩
    have : K = ((K.toNat - 1 + 1 : Nat) : Int) := by omega
    show (⟨K, 0, []⟩ : Pt) = ⟨((K.toNat - 1 + 1 : Nat) : Int), 0, []⟩
    rw [← this]
  · obtain rfl : K = 0 := h1
    obtain rfl : U = [] := h3
    replace h2 : 0 < D := h2
    refine .inr ⟨true, D.toNat - 1, ?_⟩
    have : D = ((D.toNat - 1 + 1 : Nat) : Int) := by omega
    show (⟨0, D, []⟩ : Pt) = ⟨0, ((D.toNat - 1 + 1 : Nat) : Int), []⟩
    rw [← this]
  · obtain rfl : K = 0 := h1
    obtain rfl : D = 0 := h2
    exact .inl ⟨U, h3, rfl⟩
theorem gaps_unit (acc : List UInt8) (d : Bool) (n : Nat) (ps : List Pt) : gapsR acc (unitK d (n + 1) :: ps) = ((acc, d) :: List.replicate n ([], d) ++ (gapsR [] ps).1, (gapsR [] ps).2) := by
  cases d with
  | true => exact gaps_drop acc n ps
  | false => exact gaps_keep acc n ps
def accG (acc : List UInt8) : GSt → GSt
  | ([], l) => ([], acc ++ l)
  | ((u, d) :: x, l) => ((acc ++ u, d) :: x, l)
theorem accG_nil (g : GSt) : accG [] g = g := by
  obtain ⟨x, l⟩ := g
  cases x <;> rfl
theorem accG_more (a b : List UInt8) (g : GSt) : accG a (accG b g) = accG (a ++ b) g := by
  obtain ⟨x, l⟩ := g
  cases x <;> simp [accG]
theorem gaps_acc (ps : List Pt) (h : ∀ p ∈ ps, oneP p) : ∀ acc, gapsR acc ps = accG acc (gapsR [] ps) := by
  induction ps with
  | nil => intro acc; simp [gapsR, accG]
  | cons p ps ih =>
    intro acc
    have ih := ih fun q hq => h q (by simp [hq])
    rcases one_cases (h p (by simp)) with ⟨u, hu, rfl⟩ | ⟨d, n, rfl⟩
    · rw [gaps_put, gaps_put, ih, ih ([] ++ u), accG_more, List.nil_append]
    · rw [gaps_unit, gaps_unit]; simp [accG]

/-- Gap by gap. -/
def docG (eA eB : List UInt8 → NSt → NSt) (eU : Bool → Bool → NSt → NSt) : List (List UInt8 × Bool) → List UInt8 → List (List UInt8 × Bool) → List UInt8 → NSt → NSt
  | (u, d) :: x, xl, (v, e) :: y, yl, s => docG eA eB eU x xl y yl (eU d e (eB v (eA u s)))
  | [], xl, _, yl, s => eB yl (eA xl s)
  | _, xl, [], yl, s => eB yl (eA xl s)
def docS (eA eB : List UInt8 → NSt → NSt) (eU : Bool → Bool → NSt → NSt) (a b : GSt) (s : NSt) : NSt := docG eA eB eU a.1 a.2 b.1 b.2 s
def stepsU (eU : NSt → NSt) : Nat → NSt → NSt
  | 0, s => s
  | n + 1, s => stepsU eU n (eU s)

theorem docS_accA (eA eB : List UInt8 → NSt → NSt) (eU : Bool → Bool → NSt → NSt) (hA : ∀ u v s, eA (u ++ v) s = eA v (eA u s)) (acc : List UInt8) (a b : GSt) (s : NSt) (hl : a.1.length = b.1.length) : docS eA eB eU (accG acc a) b s = docS eA eB eU a b (eA acc s) := by
  obtain ⟨x, xl⟩ := a
  obtain ⟨y, yl⟩ := b
  cases x with
  | nil => cases y <;> simp [docS, accG, docG, hA]
  | cons c x =>
    cases y with
    | nil => simp at hl
    | cons e y => simp [docS, accG, docG, hA]
/-- Where nothing is put ahead in a. -/
def quietG (a : GSt) : Prop := match a with
  | ([], l) => l = []
  | ((u, _) :: _, _) => u = []
theorem docS_accB (eA eB : List UInt8 → NSt → NSt) (eU : Bool → Bool → NSt → NSt) (hA0 : ∀ s, eA [] s = s) (hB : ∀ u v s, eB (u ++ v) s = eB v (eB u s)) (acc : List UInt8) (a b : GSt) (s : NSt) (hl : a.1.length = b.1.length) (hq : quietG a) : docS eA eB eU a (accG acc b) s = docS eA eB eU a b (eB acc s) := by
  obtain ⟨x, xl⟩ := a
  obtain ⟨y, yl⟩ := b
  cases x with
  | nil =>
    obtain rfl : xl = [] := hq
    cases y with
    | nil => simp [docS, accG, docG, hA0, hB]
    | cons e y => simp at hl
  | cons c x =>
    cases y with
    | nil => simp at hl
    | cons e y =>
      obtain ⟨u, d⟩ := c
      obtain rfl : u = [] := hq
      simp [docS, accG, docG, hA0, hB]
theorem docS_units (eA eB : List UInt8 → NSt → NSt) (eU : Bool → Bool → NSt → NSt) (hA0 : ∀ s, eA [] s = s) (hB0 : ∀ s, eB [] s = s) (d e : Bool) : ∀ (k : Nat) (a b : GSt) (s : NSt), docS eA eB eU (List.replicate k ([], d) ++ a.1, a.2) (List.replicate k ([], e) ++ b.1, b.2) s = docS eA eB eU a b (stepsU (eU d e) k s)
  | 0, a, b, s => rfl
  | k + 1, a, b, s => by
    have := docS_units eA eB eU hA0 hB0 d e k a b (eU d e s)
    simpa [docS, docG, List.replicate_succ, hA0, hB0, stepsU] using this
/-- So many units off a first part. -/
theorem cut_unit (d : Bool) (n k : Nat) (hk : k ≤ n) : (cutP (unitK d (n + 1)) ((k : Int) + 1)).1 = unitK d (k + 1) ∧ ∀ ps, gapsR [] (unitK d (n + 1) :: ps) = (List.replicate (k + 1) ([], d) ++ (gapsR [] ((cutP (unitK d (n + 1)) ((k : Int) + 1)).2 ++ ps)).1, (gapsR [] ((cutP (unitK d (n + 1)) ((k : Int) + 1)).2 ++ ps)).2) := by
  have hl : lengthP (unitK d (n + 1)) = (n : Int) + 1 := by cases d <;> simp [lengthP, unitK]
  by_cases e : n = k
  · subst e
    have hc : cutP (unitK d (n + 1)) ((n : Int) + 1) = (unitK d (n + 1), []) := by unfold cutP; rw [if_pos hl]
    rw [hc]
    refine ⟨rfl, fun ps => ?_⟩
    rw [gaps_unit]
    simp [List.replicate_succ]
  · obtain ⟨m, rfl⟩ : ∃ m, n = k + (m + 1) := ⟨n - k - 1, by omega⟩
    have hc : cutP (unitK d (k + (m + 1) + 1)) ((k : Int) + 1) = (unitK d (k + 1), [unitK d (m + 1)]) := by
      unfold cutP
      rw [if_neg (by rw [hl]; omega)]
      cases d with
      | true =>
        have h1 : ¬ 0 < (unitK true (k + (m + 1) + 1)).keep := by simp [unitK]
        have h2 : 0 < (unitK true (k + (m + 1) + 1)).drop := by simp [unitK]; omega
        rw [if_neg h1, if_pos h2]
        simp [unitK]; omega
      | false =>
        have h1 : 0 < (unitK false (k + (m + 1) + 1)).keep := by simp [unitK]; omega
        rw [if_pos h1]
        simp [unitK]; omega
    rw [hc]
    refine ⟨rfl, fun ps => ?_⟩
    rw [List.singleton_append, gaps_unit, gaps_unit]
    have e2 : List.replicate (k + (m + 1)) (([] : List UInt8), d) = List.replicate k ([], d) ++ ([], d) :: List.replicate m ([], d) := by
      rw [← List.replicate_succ, List.replicate_append_replicate]
    rw [e2]
    simp [List.replicate_succ]

def runS (t : Pt × Pt → List Pt) (l : List (Pt × Pt)) (s : NSt) : NSt := l.foldl (fun s x => (t x).foldl addP s) s
def lensU (ps : List Pt) : Nat := (gapsR [] ps).1.length
theorem quiet_unit (d : Bool) (n : Nat) (ps : List Pt) : quietG (gapsR [] (unitK d (n + 1) :: ps)) := by
  rw [gaps_unit]; rfl
theorem put_isPut {u : List UInt8} (h : u ≠ []) : isPutP ⟨0, 0, u⟩ = true := by simp [isPutP, h]
theorem unit_isPut (d : Bool) (n : Nat) : isPutP (unitK d n) = false := by cases d <;> simp [isPutP, unitK]
def weight (ps : List Pt) : Nat := (ps.map fun p => (lengthP p).toNat).sum
theorem weight_cons (p : Pt) (ps : List Pt) : weight (p :: ps) = (lengthP p).toNat + weight ps := by simp [weight]
theorem weight_append (a b : List Pt) : weight (a ++ b) = weight a + weight b := by simp [weight]
theorem len_unit (d : Bool) (n : Nat) : lengthP (unitK d n) = (n : Int) := by cases d <;> simp [lengthP, unitK]
theorem cut_weight (d : Bool) (n k : Nat) (hk : k ≤ n) : weight (cutP (unitK d (n + 1)) ((k : Int) + 1)).2 = n - k := by
  have hl : lengthP (unitK d (n + 1)) = (n : Int) + 1 := by rw [len_unit]; simp
  unfold cutP
  by_cases e : n = k
  · subst e
    rw [if_pos hl]; simp [weight]
  · rw [if_neg (by rw [hl]; omega)]
    cases d with
    | true =>
      have h1 : ¬ 0 < (unitK true (n + 1)).keep := by simp [unitK]
      have h2 : 0 < (unitK true (n + 1)).drop := by simp [unitK]
      rw [if_neg h1, if_pos h2]
      simp [weight, lengthP, unitK]; omega
    | false =>
      have h1 : 0 < (unitK false (n + 1)).keep := by simp [unitK]
      rw [if_pos h1]
      simp [weight, lengthP, unitK]; omega

/-- Pair by pair, or gap by gap. -/
theorem side_gaps (t : Pt × Pt → List Pt) (eA eB : List UInt8 → NSt → NSt) (eU : Bool → Bool → NSt → NSt) (hA0 : ∀ s, eA [] s = s) (hB0 : ∀ s, eB [] s = s)
    (hA : ∀ u v s, eA (u ++ v) s = eA v (eA u s)) (hB : ∀ u v s, eB (u ++ v) s = eB v (eB u s))
    (tA : ∀ u s, u ≠ [] → (t (⟨0, 0, u⟩, noP)).foldl addP s = eA u s) (tB : ∀ u s, u ≠ [] → (t (noP, ⟨0, 0, u⟩)).foldl addP s = eB u s)
    (tU : ∀ d e k s, (t (unitK d (k + 1), unitK e (k + 1))).foldl addP s = stepsU (eU d e) (k + 1) s) :
    ∀ (f : Nat) (a b : List Pt) (s : NSt), (∀ p ∈ a, oneP p) → (∀ p ∈ b, oneP p) → lensU a = lensU b → weight a + weight b ≤ f →
      runS t (sideP isPutP isPutP f a b) s = docS eA eB eU (gapsR [] a) (gapsR [] b) s := by
  intro f
  induction f with
  | zero =>
    intro a b s ha hb hl hw
    have h0 : ∀ (l : List Pt), (∀ p ∈ l, oneP p) → weight l = 0 → l = [] := by
      intro l hl hw
      cases l with
      | nil => rfl
      | cons p l =>
        have := length_pos (hl p (by simp))
        rw [weight_cons] at hw
        omega
    obtain rfl := h0 a ha (by omega)
    obtain rfl := h0 b hb (by omega)
    simp [sideP, runS, docS, docG, gapsR, hA0, hB0]
  | succ f ih =>
    intro a b s ha hb hl hw
    cases a with
    | nil =>
      cases b with
      | nil => simp [sideP, runS, docS, docG, gapsR, hA0, hB0]
      | cons q b =>
        rcases one_cases (hb q (by simp)) with ⟨v, hv, rfl⟩ | ⟨e, m, rfl⟩
        · have hlq := length_pos (hb _ (List.mem_cons_self ..))
          rw [weight_cons] at hw
          have hb' : ∀ p ∈ b, oneP p := fun p hp => hb p (by simp [hp])
          unfold lensU at hl
          rw [gaps_put, gaps_acc b hb'] at hl ⊢
          have hl' : (gapsR [] ([] : List Pt)).1.length = (gapsR [] b).1.length := by
            rw [hl]; cases h : gapsR [] b with | mk x l => cases x <;> simp [accG]
          rw [docS_accB eA eB eU hA0 hB _ _ _ _ hl' rfl]
          rw [← ih [] b (eB ([] ++ v) s) (by simp) hb' hl' (by omega)]
          simp only [sideP, put_isPut hv, if_true, runS, List.foldl_cons, tB v s hv, List.nil_append]
        · unfold lensU at hl
          rw [gaps_unit] at hl
          simp [gapsR] at hl
    | cons p a =>
      have hlp := length_pos (ha p (by simp))
      have ha' : ∀ p ∈ a, oneP p := fun p hp => ha p (by simp [hp])
      rcases one_cases (ha p (by simp)) with ⟨u, hu, rfl⟩ | ⟨d, n, rfl⟩
      · rw [weight_cons] at hw
        unfold lensU at hl
        rw [gaps_put, gaps_acc a ha'] at hl ⊢
        have hl' : (gapsR [] a).1.length = (gapsR [] b).1.length := by
          rw [← hl]; cases h : gapsR [] a with | mk x l => cases x <;> simp [accG]
        rw [docS_accA eA eB eU hA _ _ _ _ hl']
        rw [← ih a b (eA ([] ++ u) s) ha' hb hl' (by omega)]
        simp only [sideP, put_isPut hu, if_true, runS, List.foldl_cons, tA u s hu, List.nil_append]
      · cases b with
        | nil =>
          unfold lensU at hl
          rw [gaps_unit] at hl
          simp [gapsR] at hl
        | cons q b =>
          have hb' : ∀ p ∈ b, oneP p := fun p hp => hb p (by simp [hp])
          have hlq := length_pos (hb q (by simp))
          rcases one_cases (hb q (by simp)) with ⟨v, hv, rfl⟩ | ⟨e, m, rfl⟩
          · rw [weight_cons _ b] at hw
            unfold lensU at hl
            rw [gaps_put, gaps_acc b hb'] at hl ⊢
            have hl' : (gapsR [] (unitK d (n + 1) :: a)).1.length = (gapsR [] b).1.length := by
              rw [hl]; cases h : gapsR [] b with | mk x l => cases x <;> simp [accG]
            rw [docS_accB eA eB eU hA0 hB _ _ _ _ hl' (quiet_unit d n a)]
            rw [← ih (unitK d (n + 1) :: a) b (eB ([] ++ v) s) ha hb' hl' (by omega)]
            simp only [sideP, unit_isPut, put_isPut hv, if_true, Bool.false_eq_true, if_false, runS, List.foldl_cons, tB v s hv, List.nil_append]
          · obtain ⟨k, hk⟩ : ∃ k, k = min n m := ⟨_, rfl⟩
            have l1 : lengthP (unitK d (n + 1)) = (n : Int) + 1 := by cases d <;> simp [lengthP, unitK]
            have l2 : lengthP (unitK e (m + 1)) = (m : Int) + 1 := by cases e <;> simp [lengthP, unitK]
            have hmin : min (lengthP (unitK d (n + 1))) (lengthP (unitK e (m + 1))) = (k : Int) + 1 := by rw [l1, l2]; omega
            obtain ⟨c1, c2⟩ := cut_unit d n k (by omega)
            obtain ⟨c3, c4⟩ := cut_unit e m k (by omega)
            obtain ⟨_, _, o1, _⟩ := cut_one (ha _ (List.mem_cons_self ..)) (n := (k : Int) + 1) (by omega) (by rw [l1]; omega)
            obtain ⟨_, _, o2, _⟩ := cut_one (hb _ (List.mem_cons_self ..)) (n := (k : Int) + 1) (by omega) (by rw [l2]; omega)
            have wA := cut_weight d n k (by omega)
            have wB := cut_weight e m k (by omega)
            rw [weight_cons, weight_cons, len_unit, len_unit] at hw
            have gA := c2 a
            have gB := c4 b
            have ho1 : ∀ p ∈ (cutP (unitK d (n + 1)) ((k : Int) + 1)).2 ++ a, oneP p := fun p hp => by
              rcases List.mem_append.1 hp with h | h
              · exact (o1 p h).1
              · exact ha' p h
            have ho2 : ∀ p ∈ (cutP (unitK e (m + 1)) ((k : Int) + 1)).2 ++ b, oneP p := fun p hp => by
              rcases List.mem_append.1 hp with h | h
              · exact (o2 p h).1
              · exact hb' p h
            have hl' : lensU ((cutP (unitK d (n + 1)) ((k : Int) + 1)).2 ++ a) = lensU ((cutP (unitK e (m + 1)) ((k : Int) + 1)).2 ++ b) := by
              unfold lensU at hl ⊢
              rw [gA, gB] at hl
              simp only [List.length_append, List.length_replicate] at hl
              omega
            rw [gA, gB, docS_units eA eB eU hA0 hB0 d e (k + 1), ← ih _ _ _ ho1 ho2 hl' (by rw [weight_append, weight_append, wA, wB]; omega)]
            simp only [sideP, unit_isPut, Bool.false_eq_true, if_false, runS, List.foldl_cons, hmin, c1, c3, tU]
end Go.Proofs.YtedonckeomccpaaDoor
