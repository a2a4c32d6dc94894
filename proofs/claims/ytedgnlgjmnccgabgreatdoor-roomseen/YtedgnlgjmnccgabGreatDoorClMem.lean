/-
  A client in memory: the program's (its struct, the row of what is its own), the document's (its struct).
-/
import Derived.Test.YtedgnlgjmnccgabGreatDoorClP
import Derived.Test.YtedgnlgjmnccgabGreatDoorSrvMem
namespace Go.Proofs.YtedgnlgjmnccgabGreatDoor
open Go.RowKit Go.Maps
set_option linter.unusedVariables false

/-- What is its own: a row of operations. -/
def isMine (lo : Nat) (w : World) (v : Value) (ms : List (List Pt)) : Prop :=
  ∃ vs : List Value, vs.length = ms.length ∧ w.ownsRow lo 23 1 v ms.length vs ∧ ∀ (i : Nat) (m : List Pt) (x : Value), ms[i]? = some m → vs[i]? = some x → opX lo w x m
theorem isMine_but {lo : Nat} {w w' : World} {v : Value} {ms : List (List Pt)} {S : Nat → Prop} (h : isMine lo w v ms) (hs : sameBut w w' S) (hS : ∀ k, k < w.heap.size → S k → lo ≤ k ∧ noPart w k) (hrow : ∀ k, v.ownBlock = some k → ¬ S k) : isMine lo w' v ms := by
  obtain ⟨vs, h1, h2, h3⟩ := h
  exact ⟨vs, h1, own_same h2 hs hrow, fun i m x hm hx => opX_same (h3 i m x hm hx) hs hS⟩
theorem isMine_below {lo : Nat} {w w' : World} {v : Value} {ms : List (List Pt)} (h : isMine lo w v ms) (hb : Below w.heap.size w w') : isMine lo w' v ms :=
  isMine_but (S := fun _ => False) h (sameBut_below hb _) (fun _ _ h => h.elim) fun _ _ h => h.elim
theorem isMine_shape {lo : Nat} {w : World} {v : Value} {ms : List (List Pt)} (h : isMine lo w v ms) : ∃ p c, v = .slice p ms.length c := by
  obtain ⟨vs, _, h2, _⟩ := h
  exact own_slice h2
theorem isMine_nil (lo : Nat) (w : World) : isMine lo w (.slice none 0 0) [] := ⟨[], rfl, World.ownsRow_nil _ _ _ _, fun i m x hm => by simp at hm⟩
theorem mine_own {lo : Nat} {w : World} {v : Value} {ms : List (List Pt)} (h : isMine lo w v ms) {k : Nat} (hk : v.ownBlock = some k) : lo ≤ k ∧ k < w.heap.size ∧ ∃ cs, w.heap[k]? = some (.cells cs 23 (0, 0)) := by
  obtain ⟨vs, _, h2, _⟩ := h
  rcases h2.2 with ⟨rfl, _⟩ | ⟨g, cap, cur, rfl, h3, h4, _⟩
  · cases hk
  · obtain rfl : g = k := Option.some.inj hk
    exact ⟨h3, (Array.getElem?_eq_some_iff.1 h4).1, _, h4⟩

/-- A client's struct. -/
def clCells (who u : Int) (S : Cl) (vm : Value) : Array Value := #[.int .i64 who, .int .i64 u, .int .i64 S.rev, .string ⟨S.seen.toArray⟩, vm, .string ⟨S.doc.toArray⟩, .int .i64 S.id, .int .i64 S.drops]
def isCl (lo : Nat) (w : World) (b : Nat) (who u : Int) (S : Cl) : Prop :=
  lo ≤ b ∧ ∃ vm, w.heap[b]? = some (.cells (clCells who u S vm) 203 (0, 0)) ∧ isMine lo w vm S.mine
/-- The blocks that it alone has. -/
def ownC (w : World) (b k : Nat) : Prop := k = b ∨ ∃ vm, w.cell? ⟨b, 4, none⟩ = some vm ∧ vm.ownBlock = some k
theorem isCl_lt {lo : Nat} {w : World} {b : Nat} {who u : Int} {S : Cl} (h : isCl lo w b who u S) : b < w.heap.size := by
  obtain ⟨_, vm, h3, _⟩ := h
  exact (Array.getElem?_eq_some_iff.1 h3).1
theorem ownC_of {lo : Nat} {w : World} {b : Nat} {who u : Int} {S : Cl} (h : isCl lo w b who u S) {k : Nat} (hk : ownC w b k) : lo ≤ k ∧ k < w.heap.size ∧ ∃ cs T, w.heap[k]? = some (.cells cs T (0, 0)) ∧ (T = 203 ∨ T = 23) := by
  obtain ⟨h1, vm, h3, h4⟩ := h
  rcases hk with rfl | ⟨vm', e, hk⟩
  · exact ⟨h1, (Array.getElem?_eq_some_iff.1 h3).1, _, _, h3, .inl rfl⟩
  · have x4 : w.cell? ⟨b, 4, none⟩ = some vm := Lib.cell_of_heap h3 4
    rw [x4] at e
    obtain rfl := Option.some.inj e
    obtain ⟨a, b, cs, c⟩ := mine_own h4 hk
    exact ⟨a, b, cs, _, c, .inr rfl⟩
theorem ownC_noPart {lo : Nat} {w : World} {b : Nat} {who u : Int} {S : Cl} (h : isCl lo w b who u S) {k : Nat} (hk : ownC w b k) : noPart w k := by
  obtain ⟨_, _, cs, T, h1, h2⟩ := ownC_of h hk
  exact noPart_of h1 (by rcases h2 with rfl | rfl <;> decide)
theorem isCl_but {lo : Nat} {w w' : World} {b : Nat} {who u : Int} {S : Cl} {X : Nat → Prop} (h : isCl lo w b who u S) (hs : sameBut w w' X) (hX : ∀ k, k < w.heap.size → X k → lo ≤ k ∧ noPart w k) (hn : ∀ k, X k → ¬ ownC w b k) : isCl lo w' b who u S := by
  obtain ⟨h1, vm, h3, h4⟩ := h
  have x4 : w.cell? ⟨b, 4, none⟩ = some vm := Lib.cell_of_heap h3 4
  exact ⟨h1, vm, (hs.2 b (Array.getElem?_eq_some_iff.1 h3).1 fun e => hn b e (.inl rfl)).trans h3, isMine_but h4 hs hX fun k hk e => hn k e (.inr ⟨vm, x4, hk⟩)⟩
theorem isCl_below {lo : Nat} {w w' : World} {b : Nat} {who u : Int} {S : Cl} (h : isCl lo w b who u S) (hb : Below w.heap.size w w') : isCl lo w' b who u S :=
  isCl_but (X := fun _ => False) h (sameBut_below hb _) (fun _ _ h => h.elim) fun _ h => h.elim
theorem ownC_same {w w' : World} {b k : Nat} {X : Nat → Prop} (hs : sameBut w w' X) (hb : b < w.heap.size) (hn : ¬ X b) (h : ownC w' b k) : ownC w b k := by
  rcases h with rfl | ⟨vm, e, hk⟩
  · exact .inl rfl
  · exact .inr ⟨vm, (World.cell?_of_block (w := w) (a := ⟨b, 4, none⟩) (hs.2 b hb hn)).symm.trans e, hk⟩
/-- What a call of one client's changes: what it alone has; what it has then is that, or new. -/
def keptC (w w' : World) (b : Nat) : Prop := sameBut w w' (ownC w b) ∧ ∀ k, ownC w' b k → ownC w b k ∨ w.heap.size ≤ k
theorem keptC_below {w w' : World} {b : Nat} (h : Below w.heap.size w w') (hb : b < w.heap.size) : keptC w w' b :=
  ⟨sameBut_below h _, fun k hk => .inl (ownC_same (X := fun _ => False) (sameBut_below h _) hb id hk)⟩
theorem keptC.trans {w w' w'' : World} {b : Nat} (h : keptC w w' b) (h' : keptC w' w'' b) : keptC w w'' b :=
  ⟨h.1.comp h'.1 fun k hk e => (h.2 k e).elim id fun hk' => absurd hk (by omega), fun k hk => (h'.2 k hk).elim (h.2 k) fun hk' => .inr (Nat.le_trans h.1.1 hk')⟩

end Go.Proofs.YtedgnlgjmnccgabGreatDoor
