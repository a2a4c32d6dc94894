/-
  Side by side: what the walk keeps.
-/
import Derived.Test.YtedgnlgjmnccgabGreatDoorOpsTake
namespace Go.Proofs.YtedgnlgjmnccgabGreatDoor
open Go.RowKit
set_option linter.unusedVariables false
attribute [local go_sem] Oper.semAt_some

set_option maxRecDepth 100000 in
set_option maxHeartbeats 2000000 in
theorem turn2_any (M a β β2 : Nat) (s : NSt) (other one : Pt) (w : World) (hg : gath M w a s) (hx : w.heap[β]? = some (.cells #[addV a] 342 (0, 0))) (hx2 : w.heap[β2]? = some (.cells #[.func (.func 228) #[] #[.pointer (some ⟨β, 0, none⟩)]] 347 (0, 0))) {T : Int} {n : Nat} (hB : Bd s T n) (hS : ∀ p ∈ turnP (one, other), soundP p) (hT : T + wts (turnP (one, other)) < 1000000000) (hn : n < 10000000) :
    Calls Tryz.prog 229 #[partV other, partV one, .pointer (some ⟨β2, 0, none⟩)] w (tookP M a s (turnP (one, other)) w) := by
  have hlt := gath_lt hg
  have hlt2 := heap_lt hx2
  have cT : Hid (∀ wx, Below w.heap.size w wx → Calls Tryz.prog 228 #[partV one, partV other, .pointer (some ⟨β, 0, none⟩)] wx (tookP M a s (turnP (one, other)) wx)) := fun wx hb =>
    turnO_any M a β s one other wx (gath_below hg hb) ((hb.block β (heap_lt hx)).trans hx) hB hS hT hn
  obtain ⟨K, D, U⟩ := one
  obtain ⟨K2, D2, U2⟩ := other
  have y2 : w.cell? ⟨β2, 0, none⟩ = some (.func (.func 228) #[] #[.pointer (some ⟨β, 0, none⟩)]) := Lib.cell_of_heap hx2 0
  generalize turnP (⟨K, D, U⟩, ⟨K2, D2, U2⟩) = L at *
  unfold partV at cT ⊢
  clear hg hx hx2 hB hS hT
  go_enter Tryz.func229, Tryz.ntmps229
  have hW : Below w.heap.size w ((w.alloc (.cells #[.int .i64 K2, .int .i64 D2, .string ⟨U2.toArray⟩] 50)).alloc (.cells #[.int .i64 K, .int .i64 D, .string ⟨U.toArray⟩] 50)) := ((Below.refl _ w).alloc (Nat.le_refl _) _).alloc (by rw [World.size_alloc]; omega) _
  have HW : Hid _ := hW
  clear hW
  go_wp2_with (first
    | (go_at_call 228; refine (cT.out _ HW.out).mono ?_; rintro e w1 ⟨⟨v1, rfl⟩, hg1, hb1⟩)
    | fail)
  go_end0
  exact ⟨⟨_, rfl⟩, hg1, (BelowG.of HW.out (by omega)).trans hb1⟩

/-- The pairs of two operations side by side, one behind the other. -/
inductive Side (la lb : Pt → Bool) : List Pt → List Pt → List (Pt × Pt) → Prop
  | nil : Side la lb [] [] []
  | left {p : Pt} {a b : List Pt} {l : List (Pt × Pt)} : la p = true → Side la lb a b l → Side la lb (p :: a) b ((p, noP) :: l)
  | last {q : Pt} {b : List Pt} {l : List (Pt × Pt)} : lb q = true → Side la lb [] b l → Side la lb [] (q :: b) ((noP, q) :: l)
  | right {p q : Pt} {a b : List Pt} {l : List (Pt × Pt)} : la p = false → lb q = true → Side la lb (p :: a) b l → Side la lb (p :: a) (q :: b) ((noP, q) :: l)
  | both {p q : Pt} {a b : List Pt} {l : List (Pt × Pt)} (n : Nat) : la p = false → lb q = false → oneP p → oneP q → 0 < n → min (lengthP p) (lengthP q) = n → lengthP p < 1000000000 → lengthP q < 1000000000 →
      Side la lb ((cutP p n).2 ++ a) ((cutP q n).2 ++ b) l → Side la lb (p :: a) (q :: b) (((cutP p n).1, (cutP q n).1) :: l)

/-- What stands beside the walk: boxes. -/
def boxesP (L : List (Nat × Obj)) (w : World) : Prop := ∀ x ∈ L, w.heap[x.1]? = some x.2
def boxesOk (a g1 g2 : Nat) (L : List (Nat × Obj)) : Prop := ∀ x ∈ L, a + 4 ≤ x.1 ∧ x.1 ≠ g1 ∧ x.1 ≠ g2 ∧ (∀ c fz, x.2 ≠ .cells c 5 fz) ∧ ∀ c fz, x.2 ≠ .cells c 50 fz

/-- What the rounds keep. -/
structure sideI (M a g1 g2 : Nat) (bx : List (Nat × Obj)) (w : World) (v1 v2 : Value) (A B : List Pt) (s : NSt) (W : World) : Prop where
  below : Below a w W
  g : gath M W a s
  r1 : winP W g1 v1 A
  r2 : winP W g2 v2 B
  b : boxesP bx W
theorem sideI.grow {M a g1 g2 : Nat} {bx : List (Nat × Obj)} {w : World} {v1 v2 : Value} {A B : List Pt} {s : NSt} {W W' : World} (h : sideI M a g1 g2 bx w v1 v2 A B s W) (hb : Below W.heap.size W W') : sideI M a g1 g2 bx w v1 v2 A B s W' :=
  ⟨h.below.trans (hb.mono (by have := gath_lt h.g; omega)), gath_below h.g hb, winP_below h.r1 hb, winP_below h.r2 hb, fun x hx => (hb.block _ (heap_lt (h.b x hx))).trans (h.b x hx)⟩
theorem gath_but {M a g : Nat} {s : NSt} {w w' : World} (h : gath M w a s) (hb : ButO g w w') (h1 : a + 4 ≤ g) (h2 : g < M) : gath M w' a s := by
  have hM := h.le
  have hT := h.top
  have hlt := gath_lt h
  have hbl := hb.below h1 (by omega)
  have own : ∀ {e size n : Nat} {v : Value} {xs : List Value}, w.ownsRow M e size v n xs → w'.ownsRow M e size v n xs := by
    intro e size n v xs h
    obtain ⟨h0, hrow⟩ := h
    refine ⟨h0, ?_⟩
    rcases hrow with hx | ⟨g', cap, cur, rfl, hg, hgg, rest⟩
    · exact .inl hx
    · exact .inr ⟨g', cap, cur, rfl, hg, (hb.block g' (heap_lt hgg) (by omega)).trans hgg, rest⟩
  obtain ⟨⟨p, c, h1, h2⟩, h3, ⟨p', c', h4, h5⟩, h6, h7, h8, h9⟩ := h
  exact ⟨⟨p, c, (hbl.cell (p := ⟨a, 0, none⟩) (by show a < a + 4; omega)).trans h1, own h2⟩, (hbl.frozen (p := ⟨a, 0, none⟩) (by show a < a + 4; omega)).trans h3,
    ⟨p', c', (hbl.cell (p := ⟨a + 1, 0, none⟩) (by show a + 1 < a + 4; omega)).trans h4, own h5⟩, (hbl.frozen (p := ⟨a + 1, 0, none⟩) (by show a + 1 < a + 4; omega)).trans h6,
    (hbl.cell (p := ⟨a + 2, 0, none⟩) (by show a + 2 < a + 4; omega)).trans h7, (hbl.frozen (p := ⟨a + 2, 0, none⟩) (by show a + 2 < a + 4; omega)).trans h8, (hbl.cell (p := ⟨a + 3, 0, none⟩) (by show a + 3 < a + 4; omega)).trans h9, hM, Nat.le_trans hT hb.size⟩
theorem sideI.cut2 {M a g1 g2 : Nat} {bx : List (Nat × Obj)} {w : World} {v1 v2 v2' : Value} {A B B' : List Pt} {s : NSt} {W W' : World} (h : sideI M a g1 g2 bx w v1 v2 A B s W) (hb : ButO g2 W W') (ho : boxesOk a g1 g2 bx) (h1 : a + 4 ≤ g2) (h2 : g2 < M) (hne : g1 ≠ g2) (hr : winP W' g2 v2' B') : sideI M a g1 g2 bx w v1 v2' A B' s W' :=
  ⟨h.below.trans (hb.below (by omega) (by have := gath_lt h.g; omega)), gath_but h.g hb h1 h2, winP_but h.r1 hb hne, hr, fun x hx => (hb.block _ (heap_lt (h.b x hx)) (ho x hx).2.2.1).trans (h.b x hx)⟩
theorem winP_g {M a g : Nat} {w w' : World} {v : Value} {ps : List Pt} (h : winP w g v ps) (hb : BelowG M a w w') (h1 : a + 4 ≤ g) (h2 : g < M) : winP w' g v ps := by
  refine winP_kept h hb.size fun hg => ?_
  obtain ⟨o, ho⟩ : ∃ o, w.heap[g]? = some o := ⟨_, Array.getElem?_eq_getElem hg⟩
  rw [ho]
  exact hb.kept g o ho (by omega) (by omega) (by omega) (fun _ _ hM => absurd hM (by omega)) (fun _ _ hM => absurd hM (by omega))
theorem sideI.took {M a g1 g2 : Nat} {bx : List (Nat × Obj)} {w : World} {v1 v2 : Value} {A B : List Pt} {s s' : NSt} {W W' : World} (h : sideI M a g1 g2 bx w v1 v2 A B s W) (hb : BelowG M a W W') (hg : gath M W' a s') (ho : boxesOk a g1 g2 bx) (h1 : a + 4 ≤ g1) (h2 : g1 < M) (h3 : a + 4 ≤ g2) (h4 : g2 < M) : sideI M a g1 g2 bx w v1 v2 A B s' W' :=
  ⟨h.below.trans hb.below, hg, winP_g h.r1 hb h1 h2, winP_g h.r2 hb h3 h4, fun x hx => by
    obtain ⟨o1, _, _, o2, o3⟩ := ho x hx
    exact hb.kept _ _ (h.b x hx) (by omega) (by omega) (by omega) (fun c fz _ => o2 c fz) (fun c fz _ => o3 c fz)⟩
/-- The bounds of what is yet to come. -/
structure BdS (t : Pt × Pt → List Pt) (l : List (Pt × Pt)) (s : NSt) (T : Int) (n : Nat) : Prop where
  bd : Bd s T n
  w : T + wts (l.flatMap t) < 1000000000
  n : n + l.length < 10000000
  sound : ∀ x ∈ l, ∀ p ∈ t x, soundP p
  one : ∀ x ∈ l, (t x).length ≤ 1
theorem Bd.more {s : NSt} {T : Int} {n : Nat} (h : Bd s T n) : Bd s T (n + 1) := ⟨h.put, h.d0, h.dT, h.keep, by have := h.len; omega⟩
theorem BdS.head {t : Pt × Pt → List Pt} {x : Pt × Pt} {l : List (Pt × Pt)} {s : NSt} {T : Int} {n : Nat} (h : BdS t (x :: l) s T n) : (∀ p ∈ t x, soundP p) ∧ T + wts (t x) < 1000000000 ∧ n < 10000000 := by
  refine ⟨h.sound x (by simp), ?_, by have := h.n; simp at this; omega⟩
  have h1 := h.w
  have h2 : 0 ≤ wts (l.flatMap t) := wts_nonneg fun p hp => by
    obtain ⟨y, hy, hp⟩ := List.mem_flatMap.1 hp
    exact h.sound y (by simp [hy]) p hp
  rw [List.flatMap_cons] at h1
  unfold wts at h1 h2 ⊢
  rw [List.map_append, List.sum_append] at h1
  omega
theorem BdS.tail {t : Pt × Pt → List Pt} {x : Pt × Pt} {l : List (Pt × Pt)} {s : NSt} {T : Int} {n : Nat} (h : BdS t (x :: l) s T n) : BdS t l ((t x).foldl addP s) (T + wts (t x)) (n + 1) := by
  refine ⟨?_, ?_, by have := h.n; simp at this; omega, fun y hy => h.sound y (by simp [hy]), fun y hy => h.one y (by simp [hy])⟩
  · have h1 := h.one x (by simp)
    have h2 := h.sound x (by simp)
    generalize t x = L at *
    match L, h1 with
    | [], _ => simpa [wts] using h.bd.more
    | [p], _ =>
      have := h.bd.add p (h2 p (by simp))
      simpa [wts] using this
  · have h1 := h.w
    rw [List.flatMap_cons] at h1
    unfold wts at h1 ⊢
    rw [List.map_append, List.sum_append] at h1
    omega
end Go.Proofs.YtedgnlgjmnccgabGreatDoor
