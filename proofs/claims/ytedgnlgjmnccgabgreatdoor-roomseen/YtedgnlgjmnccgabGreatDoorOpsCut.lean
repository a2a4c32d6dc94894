/-
  ops.cut: so much off an operation's first part; the operation's own row is written.
-/
import Derived.Test.YtedgnlgjmnccgabGreatDoorOpsBoth
import Derived.Test.YtedgnlgjmnccgabGreatDoorOpsInv
import Derived.Test.YtedgnlgjmnccgabGreatDoorOpsSide
namespace Go.Proofs.YtedgnlgjmnccgabGreatDoor
open Go.RowKit
set_option linter.unusedVariables false
attribute [local go_sem] Oper.semAt_some

/-- Every block but g that was there stands. -/
structure ButO (g : Nat) (w w' : World) : Prop where
  os : w'.os = w.os
  tape : w'.tape = w.tape
  output : w'.output = w.output
  size : w.heap.size ≤ w'.heap.size
  block : ∀ k, k < w.heap.size → k ≠ g → w'.heap[k]? = w.heap[k]?
theorem ButO.of {g : Nat} {w w' : World} (h : Below w.heap.size w w') : ButO g w w' := ⟨h.os, h.tape, h.output, h.size, fun k hk _ => h.block k hk⟩
theorem ButO.refl (g : Nat) (w : World) : ButO g w w := .of (.refl _ _)
theorem ButO.trans {g : Nat} {a b c : World} (h : ButO g a b) (k : ButO g b c) : ButO g a c :=
  ⟨k.os.trans h.os, k.tape.trans h.tape, k.output.trans h.output, Nat.le_trans h.size k.size, fun i hi hg => (k.block i (Nat.lt_of_lt_of_le hi h.size) hg).trans (h.block i hi hg)⟩
theorem ButO.below {g B : Nat} {w w' : World} (h : ButO g w w') (hg : B ≤ g) (hB : B ≤ w.heap.size) : Below B w w' := ⟨h.os, h.tape, h.output, h.size, fun k hk => h.block k (by omega) (by omega)⟩
theorem ButO.set {g : Nat} {a w : World} (h : ButO g a w) (o : Nat) (u : Value) : ButO g a (w.setCell ⟨g, o, none⟩ u) :=
  h.trans ⟨rfl, rfl, rfl, by simp [World.setCell], fun k _ hk => Below.heap_setCell _ _ _ _ (by show k ≠ g; exact hk)⟩
theorem ButO.drew {g : Nat} {a w : World} (h : ButO g a w) : ButO g a w.drew := h.trans ⟨rfl, rfl, rfl, Nat.le_refl _, fun _ _ _ => rfl⟩

/-- A window into block g that may be written: these parts, first to last. -/
def winP (w : World) (g : Nat) (v : Value) (ps : List Pt) : Prop :=
  ∃ p c, v = .slice p ps.length c ∧ ps.length ≤ c ∧ c ≤ maxLen ∧ (ps ≠ [] → ∃ o, p = some ⟨g, o, none⟩ ∧ g < w.heap.size ∧ (∀ j, w.frozen? ⟨g, j, none⟩ = false) ∧ ∀ i q, ps[i]? = some q →
    w.cell? ⟨g, o + i * 3, none⟩ = some (.int .i64 q.keep) ∧ w.cell? ⟨g, o + i * 3 + 1, none⟩ = some (.int .i64 q.drop) ∧ w.cell? ⟨g, o + i * 3 + 2, none⟩ = some (.string ⟨q.put.toArray⟩))
theorem winP_kept {w w' : World} {g : Nat} {v : Value} {ps : List Pt} (h : winP w g v ps) (hs : w.heap.size ≤ w'.heap.size) (hb : g < w.heap.size → w'.heap[g]? = w.heap[g]?) : winP w' g v ps := by
  obtain ⟨p, c, rfl, h1, h2, h3⟩ := h
  refine ⟨p, c, rfl, h1, h2, fun hne => ?_⟩
  obtain ⟨o, e1, e2, e4, e3⟩ := h3 hne
  have hg := hb e2
  refine ⟨o, e1, by omega, fun j => (World.frozen?_of_block (w := w) (a := ⟨g, j, none⟩) hg).trans (e4 j), fun i q hi => ?_⟩
  obtain ⟨f1, f2, f3⟩ := e3 i q hi
  exact ⟨(World.cell?_of_block (w := w) (a := ⟨g, o + i * 3, none⟩) hg).trans f1, (World.cell?_of_block (w := w) (a := ⟨g, o + i * 3 + 1, none⟩) hg).trans f2, (World.cell?_of_block (w := w) (a := ⟨g, o + i * 3 + 2, none⟩) hg).trans f3⟩
theorem winP_below {w w' : World} {g : Nat} {v : Value} {ps : List Pt} (h : winP w g v ps) (hb : Below w.heap.size w w') : winP w' g v ps := winP_kept h hb.size fun hg => hb.block g hg
theorem winP_but {w w' : World} {g k : Nat} {v : Value} {ps : List Pt} (h : winP w g v ps) (hb : ButO k w w') (hne : g ≠ k) : winP w' g v ps := winP_kept h hb.size fun hg => hb.block g hg hne
theorem winP_own {w : World} {B : Nat} {v : Value} {ps : List Pt} (h : w.ownsRow B 50 3 v ps.length (cellsP ps)) : ∃ g, (g = B ∨ (B ≤ g ∧ g < w.heap.size)) ∧ winP w g v ps := by
  have h' := h
  rcases h.2 with ⟨rfl, h2⟩ | ⟨g, cap, cur, rfl, h2, h3, h4, h5, h6, h7⟩
  · obtain rfl : ps = [] := List.eq_nil_of_length_eq_zero h2
    exact ⟨B, .inl rfl, none, 0, rfl, Nat.le_refl _, Nat.zero_le _, fun h => absurd rfl h⟩
  · have hlt := (Array.getElem?_eq_some_iff.1 h3).1
    refine ⟨g, .inr ⟨h2, hlt⟩, _, cap, rfl, h4, h5, fun _ => ⟨0, rfl, hlt, fun j => h'.frozenAt j, fun i q hi => ?_⟩⟩
    have hlt := (List.getElem?_eq_some_iff.1 hi).1
    have hc := cellsP_get ps i q hi
    refine ⟨?_, ?_, ?_⟩
    · rw [Nat.zero_add, h'.cellAt _ (by omega)]; exact hc 0 (by omega)
    · rw [Nat.zero_add, h'.cellAt _ (by omega)]; exact hc 1 (by omega)
    · rw [Nat.zero_add, h'.cellAt _ (by omega)]; exact hc 2 (by omega)
/-- The first part of a window, and the window behind it. -/
theorem winP_head {w : World} {g : Nat} {v : Value} {p : Pt} {ps : List Pt} (h : winP w g v (p :: ps)) : ∃ o c, v = .slice (some ⟨g, o, none⟩) (ps.length + 1) c ∧ ps.length + 1 ≤ c ∧ c ≤ maxLen ∧ g < w.heap.size ∧ (∀ j, w.frozen? ⟨g, j, none⟩ = false) ∧
    w.cell? ⟨g, o, none⟩ = some (.int .i64 p.keep) ∧ w.cell? ⟨g, o + 1, none⟩ = some (.int .i64 p.drop) ∧ w.cell? ⟨g, o + 2, none⟩ = some (.string ⟨p.put.toArray⟩) := by
  obtain ⟨q, c, rfl, h1, h2, h3⟩ := h
  obtain ⟨o, rfl, e2, e4, e3⟩ := h3 (by simp)
  obtain ⟨f1, f2, f3⟩ := e3 0 p rfl
  simp only [Nat.zero_mul, Nat.add_zero] at f1 f2 f3
  exact ⟨o, c, rfl, h1, h2, e2, e4, f1, f2, f3⟩
theorem winP_tail {w w' : World} {g o c : Nat} {p : Pt} {ps : List Pt} (h : winP w g (.slice (some ⟨g, o, none⟩) (ps.length + 1) c) (p :: ps)) (hs : w.heap.size ≤ w'.heap.size) (hf : ∀ j, w'.frozen? ⟨g, j, none⟩ = w.frozen? ⟨g, j, none⟩) (hc : ∀ j, o + 3 ≤ j → w'.cell? ⟨g, j, none⟩ = w.cell? ⟨g, j, none⟩) :
    winP w' g (.slice (some ⟨g, o + 3, none⟩) ps.length (c - 1)) ps := by
  obtain ⟨q, c', e, h1, h2, h3⟩ := h
  obtain ⟨o', rfl, e2, e4, e3⟩ := h3 (by simp)
  simp only [Value.slice.injEq, Option.some.injEq, Addr.mk.injEq, true_and, and_true] at e
  obtain ⟨e5, _, e6⟩ := e
  subst e5 e6
  simp only [List.length_cons] at h1
  refine ⟨_, c - 1, rfl, by omega, by omega, fun hne => ⟨o + 3, rfl, by omega, fun j => (hf j).trans (e4 j), fun i q hi => ?_⟩⟩
  obtain ⟨f1, f2, f3⟩ := e3 (i + 1) q (by simpa using hi)
  rw [show o + (i + 1) * 3 = o + 3 + i * 3 by omega] at f1 f2 f3
  exact ⟨(hc _ (by omega)).trans f1, (hc _ (by omega)).trans f2, (hc _ (by omega)).trans f3⟩
/-- The first part, turned. -/
theorem winP_first {w w' : World} {g o c : Nat} {p p' : Pt} {ps : List Pt} (h : winP w g (.slice (some ⟨g, o, none⟩) (ps.length + 1) c) (p :: ps)) (hs : w.heap.size ≤ w'.heap.size) (hf : ∀ j, w'.frozen? ⟨g, j, none⟩ = w.frozen? ⟨g, j, none⟩) (hc : ∀ j, o + 3 ≤ j → w'.cell? ⟨g, j, none⟩ = w.cell? ⟨g, j, none⟩)
    (c0 : w'.cell? ⟨g, o, none⟩ = some (.int .i64 p'.keep)) (c1 : w'.cell? ⟨g, o + 1, none⟩ = some (.int .i64 p'.drop)) (c2 : w'.cell? ⟨g, o + 2, none⟩ = some (.string ⟨p'.put.toArray⟩)) :
    winP w' g (.slice (some ⟨g, o, none⟩) (ps.length + 1) c) (p' :: ps) := by
  obtain ⟨q, c', e, h1, h2, h3⟩ := h
  obtain ⟨o', rfl, e2, e4, e3⟩ := h3 (by simp)
  simp only [Value.slice.injEq, Option.some.injEq, Addr.mk.injEq, true_and, and_true] at e
  obtain ⟨e5, _, e6⟩ := e
  subst e5 e6
  refine ⟨_, c, rfl, h1, h2, fun _ => ⟨o, rfl, by omega, fun j => (hf j).trans (e4 j), fun i q hi => ?_⟩⟩
  cases i with
  | zero =>
    obtain rfl : p' = q := by simpa using hi
    simp only [Nat.zero_mul, Nat.add_zero]
    exact ⟨c0, c1, c2⟩
  | succ i =>
    obtain ⟨f1, f2, f3⟩ := e3 (i + 1) q (by simpa using hi)
    exact ⟨(hc _ (by omega)).trans f1, (hc _ (by omega)).trans f2, (hc _ (by omega)).trans f3⟩

theorem frozen_of_heap {w : World} {b : Nat} {xs : Array Value} {t : TypeId} (h : w.heap[b]? = some (.cells xs t (0, 0))) (j : Nat) : w.frozen? ⟨b, j, none⟩ = false := by
  simp [World.frozen?, h]
theorem two_boxes {w w1 : World} {R P : Array Value} {T S : TypeId} (hb : Below ((w.alloc (.cells R T)).alloc (.cells P S)).heap.size ((w.alloc (.cells R T)).alloc (.cells P S)) w1) :
    w1.heap[w.heap.size]? = some (.cells R T (0, 0)) ∧ w1.heap[w.heap.size + 1]? = some (.cells P S (0, 0)) ∧ Below w.heap.size w w1 := by
  refine ⟨(hb.block _ (by simp only [World.size_alloc]; omega)).trans ((heap_alloc_old _ _ (by rw [World.size_alloc]; omega)).trans (heap_alloc_new _ _)), (hb.block _ (by simp only [World.size_alloc]; omega)).trans (by have := heap_alloc_new (w.alloc (.cells R T)) (.cells P S); rwa [World.size_alloc] at this), ?_⟩
  exact (((Below.refl _ w).alloc (Nat.le_refl _) _).alloc (by rw [World.size_alloc]; omega) _).trans (hb.mono (by simp only [World.size_alloc]; omega))

theorem cut_rest {w w' : World} {g o c : Nat} {p : Pt} {ps : List Pt} (h : winP w g (.slice (some ⟨g, o, none⟩) (ps.length + 1) c) (p :: ps)) (hb : Below w.heap.size w w') :
    winP w' g (.slice (some ⟨g, o + 3, none⟩) ps.length (c - 1)) ps ∧ (c = 1 → winP w' g (.slice (some ⟨g, o, none⟩) ps.length 0) ps) := by
  have hg : g < w.heap.size := by obtain ⟨_, _, _, _, _, hg, _⟩ := winP_head h; exact hg
  refine ⟨winP_tail h hb.size (fun j => hb.frozen (p := ⟨g, j, none⟩) hg) fun j _ => hb.cell (p := ⟨g, j, none⟩) hg, fun hc => ?_⟩
  obtain ⟨_, _, e, h1, _⟩ := h
  simp only [Value.slice.injEq, List.length_cons] at e h1
  obtain rfl : ps = [] := List.eq_nil_of_length_eq_zero (by omega)
  exact ⟨_, 0, rfl, Nat.le_refl _, Nat.zero_le _, fun h => absurd rfl h⟩

set_option maxRecDepth 100000 in
set_option maxHeartbeats 4000000 in
theorem cut_all (g : Nat) (v : Value) (p : Pt) (ps : List Pt) (n : Nat) (w : World) (h : winP w g v (p :: ps)) (hp : 0 ≤ p.keep ∧ 0 ≤ p.drop) (hn : lengthP p = n) (hb : n < 1000000000) :
    Calls Tryz.prog 268 #[v, .int .i64 n] w fun e w' => ∃ v', e = .returned (.tuple #[partV p, v']) ∧ winP w' g v' ps ∧ ButO g w w' := by
  have H : Hid (winP w g v (p :: ps)) := h
  obtain ⟨o, c, rfl, h1, h2, h3, h4, c0, c1, c2⟩ := winP_head h
  have cL : Hid (∀ wx, Calls Tryz.prog 267 #[partV p] wx fun e w' => e = .returned (.int .i64 n) ∧ Below wx.heap.size wx w') := fun wx => by
    have := length_any p wx hp (by unfold lengthP at hn; omega)
    rw [show p.keep + p.drop + (p.put.length : Int) = n from hn] at this
    exact this
  obtain ⟨K, D, U⟩ := p
  simp only at c0 c1 c2
  have c0' : w.cell? ⟨g, o + 0, none⟩ = some (.int .i64 K) := c0
  have h4' := h4 o
  have hi1 : (1 : Int) ≤ (ps.length : Int) + 1 := by omega
  unfold partV at cL
  have H4 : Hid (∀ j, w.frozen? ⟨g, j, none⟩ = false) := h4
  clear h hn hp h4
  go_enter Tryz.func268, Tryz.ntmps268
  go_wp2_with (first
    | (go_at_call 267; refine (cL.out _).mono ?_; rintro e w1 ⟨rfl, hb1⟩; obtain ⟨b1, b2, b3⟩ := two_boxes hb1; have HB : Hid (Below w.heap.size w w1) := b3; have r0 : w1.cell? ⟨w.heap.size, 0, none⟩ = some (.int .i64 0) := Lib.cell_of_heap b1 0; have r1 : w1.cell? ⟨w.heap.size, 1, none⟩ = some (.int .i64 0) := Lib.cell_of_heap b1 1; have r2 : w1.cell? ⟨w.heap.size, 2, none⟩ = some (.string ⟨#[]⟩) := Lib.cell_of_heap b1 2; have p0 : w1.cell? ⟨w.heap.size + 1, 0, none⟩ = some (.int .i64 K) := Lib.cell_of_heap b2 0; have p1 : w1.cell? ⟨w.heap.size + 1, 1, none⟩ = some (.int .i64 D) := Lib.cell_of_heap b2 1; have p2 : w1.cell? ⟨w.heap.size + 1, 2, none⟩ = some (.string ⟨U.toArray⟩) := Lib.cell_of_heap b2 2; have rF : w1.frozen? ⟨w.heap.size, 0, none⟩ = false := frozen_of_heap b1 0; have rF1 : w1.frozen? ⟨w.heap.size, 1, none⟩ = false := frozen_of_heap b1 1; have rF2 : w1.frozen? ⟨w.heap.size, 2, none⟩ = false := frozen_of_heap b1 2; clear b1 b2 b3 hb1)
    | fail)
  have s0 : (w1.setCell ⟨w.heap.size, 0, none⟩ (.int .i64 K)).cell? ⟨w.heap.size, 0, none⟩ = some (.int .i64 K) := World.cell?_setCell_same _ _ _ r0
  have s1 : ((w1.setCell ⟨w.heap.size, 0, none⟩ (.int .i64 K)).setCell ⟨w.heap.size, 1, none⟩ (.int .i64 D)).cell? ⟨w.heap.size, 1, none⟩ = some (.int .i64 D) := by
    have : (w1.setCell ⟨w.heap.size, 0, none⟩ (.int .i64 K)).cell? ⟨w.heap.size, 1, none⟩ = some (.int .i64 0) := by simp [go_sem, r1]
    exact World.cell?_setCell_same _ _ _ this
  have s2 : (((w1.setCell ⟨w.heap.size, 0, none⟩ (.int .i64 K)).setCell ⟨w.heap.size, 1, none⟩ (.int .i64 D)).setCell ⟨w.heap.size, 2, none⟩ (.string ⟨U.toArray⟩)).cell? ⟨w.heap.size, 2, none⟩ = some (.string ⟨U.toArray⟩) := by
    have : ((w1.setCell ⟨w.heap.size, 0, none⟩ (.int .i64 K)).setCell ⟨w.heap.size, 1, none⟩ (.int .i64 D)).cell? ⟨w.heap.size, 2, none⟩ = some (.string ⟨#[]⟩) := by simp [go_sem, r2]
    exact World.cell?_setCell_same _ _ _ this
  go_region
  all_goals go_wp2
  · have hc1 : c = 1 := by assumption
    subst hc1
    refine bodyPost_ret (v := .tuple #[.agg #[.int .i64 K, .int .i64 D, .string ⟨U.toArray⟩], .slice (some ⟨g, o, none⟩) ps.length 0]) (by simp [results, Tryz.results268, go_sem, s0, s1, s2]) rfl ?_
    have hbw := ((((HB.out.setCell (p := ⟨w.heap.size, 0, none⟩) (Nat.le_refl _) (.int .i64 K)).setCell (p := ⟨w.heap.size, 1, none⟩) (Nat.le_refl _) (.int .i64 D)).setCell (p := ⟨w.heap.size, 2, none⟩) (Nat.le_refl _) (.string ⟨U.toArray⟩)).drew)
    exact ⟨_, rfl, (cut_rest H.out hbw).2 rfl, .of hbw⟩
  · refine bodyPost_ret (v := .tuple #[.agg #[.int .i64 K, .int .i64 D, .string ⟨U.toArray⟩], .slice (some ⟨g, o + 3, none⟩) ps.length (c - 1)]) (by simp [results, Tryz.results268, go_sem, s0, s1, s2]) rfl ?_
    have hbw := ((((HB.out.setCell (p := ⟨w.heap.size, 0, none⟩) (Nat.le_refl _) (.int .i64 K)).setCell (p := ⟨w.heap.size, 1, none⟩) (Nat.le_refl _) (.int .i64 D)).setCell (p := ⟨w.heap.size, 2, none⟩) (Nat.le_refl _) (.string ⟨U.toArray⟩)).drew)
    exact ⟨_, rfl, (cut_rest H.out hbw).1, .of hbw⟩
end Go.Proofs.YtedgnlgjmnccgabGreatDoor
