/-
  A region that draws its order, whose operations only read and whose callees only make new memory: one walk of the text's order serves every order; outside a loop's round, and within one.
  The class of worlds: all that have grown out of W and left everything in it as it was: what a function G gives.
-/
import Derived.WalkKit
import Derived.BigQuiet
import Derived.OrdersIn
import Derived.CallsIn
import Derived.TacticsIn
import Derived.RangeFuncCalls
namespace Go.Proofs.YtedonckeomccpaaDoor
open Go.RowKit

/-- G gives just the worlds that have grown out of W. -/
structure Growth (W : World) (G : World → World) : Prop where
  below : ∀ x, Below W.heap.size W (G x)
  onto : ∀ w, Below W.heap.size W w → G w = w

open Classical in
theorem exists_growth (W : World) : ∃ G, Growth W G :=
  ⟨fun x => if Below W.heap.size W x then x else W, fun x => by
    show Below W.heap.size W (if Below W.heap.size W x then x else W)
    split
    · assumption
    · exact Below.refl _ _, fun w h => if_pos h⟩

theorem Growth.cell {W : World} {G : World → World} (hG : Growth W G) {b o : Nat} {v : Value} (h : W.cell? ⟨b, o, none⟩ = some v) : ∀ x, (G x).cell? ⟨b, o, none⟩ = some v :=
  fun x => ((hG.below x).cell (p := ⟨b, o, none⟩) (World.block_lt_of_cell? W _ h)).trans h

theorem wp_region_grow {P : Program} {id : Nat} {Q : Exit → Act → World → Prop} {a : Act} {w : World} {l : List Oper} {G : World → World} (hG : Growth w G) (hm : P.follows .mixedOrders = true) (hB : Region.lexB .any l.toArray = true)
    (h : wpQuiet P l.toArray (fun w' => ∃ x, w' = G x) (fun a' => ∀ w', (∃ x, w' = G x) → Q .normal a' w') l a) : (Code.region id l.toArray true).wp P Q a w :=
  wp_region_quiet (C := fun w' => ∃ x, w' = G x) hm hB ⟨w.drew, (hG.onto _ ((Below.refl _ _).drew)).symm⟩ (by simpa using h)

theorem grow_of {P : Program} {f : FuncId} {args : Array Value} {W x : World} {G : World → World} (hG : Growth W G) {v : Value}
    (h : Calls P f args (G x) fun e w' => e = .returned v ∧ Below (G x).heap.size (G x) w') : Calls P f args (G x) fun e w'' => e = .returned v ∧ ∃ y, w'' = G y :=
  h.mono fun _ w' ⟨he, hb⟩ => ⟨he, w', (hG.onto _ ((hG.below x).trans (hb.mono (hG.below x).size))).symm⟩

/-! ### Within a round -/
section
variable {P : Program} {ops : Array Oper} {md : Region.Mode} {C : World → Prop} {l0 n : Nat}

/-- No operation defers a call. -/
def noDefer : List Oper → Bool
  | [] => true
  | o :: l => (match o.op with | .defer _ => false | _ => true) && noDefer l
theorem noDefer_at : ∀ {l : List Oper}, noDefer l = true → ∀ (i : Nat) (o : Oper), l[i]? = some o → ∀ c, o.op ≠ .defer c
  | [], _, i, o, hi => by simp at hi
  | o' :: l, h, i, o, hi => by
    rw [noDefer, Bool.and_eq_true] at h
    cases i with
    | zero =>
      simp at hi
      subst hi
      intro c e
      rw [e] at h
      exact absurd h.1 (by simp)
    | succ i => exact noDefer_at h.2 i o (by simpa using hi)

theorem opR_of_quiet {o : Oper} {a : Act} {K : Act → Prop} {K' : Act → World → Prop} {Q' : Exit → Act → World → Prop} {w : World} (hnd : ∀ c, o.op ≠ .defer c) (hw : C w) (h : ∀ a w', C w' → K a → K' a w') (hh : o.quiet P a C K) :
    o.wpIn (Fence.wide.inRound l0) n P a w K' Q' := by
  obtain ⟨v, h1, h2⟩ := hh
  have h3 := h1 w hw
  unfold Oper.quietAt at h3
  unfold Oper.wpIn
  refine ⟨fun _ _ => trivial, ?_⟩
  rw [Fence.inRound_round, Oper.semAt_some _ _ _ hnd]
  generalize (execOp a.eval o).run P w = r at *
  cases r with
  | ok x w' =>
    cases x <;> simp only [Oper.quietUpon] at h3 <;> simp only [Oper.uponIn]
    case value u =>
      obtain ⟨e1, e2⟩ := h3
      rw [e1, e2]
      exact h _ _ hw h2
    case skip =>
      obtain ⟨e1, e2⟩ := h3
      rw [e1, ← e2]
      exact h _ _ hw h2
    case enter f args =>
      obtain ⟨e1, hc⟩ := h3
      rw [e1]
      exact ⟨fun h => (by cases h), (CallsIn.inRound l0 (callsIn_wide.2 hc)).mono fun e w'' ⟨he, hw''⟩ => by subst he; exact h _ _ hw'' h2⟩
  | halt x w' => simp only [Oper.quietUpon] at h3

theorem opsR_of_qOp {i : Nat} {a : Act} {K : Act → Prop} {K' : Act → World → Prop} {Q' : Exit → Act → World → Prop} {w : World} (hnd : ∀ (i : Nat) (o : Oper), ops[i]? = some o → ∀ c, o.op ≠ .defer c) (hC : C w) (h : ∀ a w', C w' → K a → K' a w')
    (hh : qOp P ops C i K a) : wpOpIn (Fence.wide.inRound l0) n P ops Q' i K' a w := by
  unfold qOp at hh
  unfold wpOpIn
  split
  · rename_i ho; simp only [ho] at hh; exact h _ _ hC hh
  · rename_i o ho
    simp only [ho] at hh
    split
    · rename_i hw; simp only [hw, if_true] at hh; exact opR_of_quiet (hnd i o ho) hC h hh
    · rename_i hw; simp only [hw] at hh; exact ⟨fun _ _ => trivial, h _ _ hC hh⟩

theorem anyR_of_quiet {Q : Act → Prop} {Q' : Exit → Act → World → Prop} (hnd : ∀ (i : Nat) (o : Oper), ops[i]? = some o → ∀ c, o.op ≠ .defer c) (hQ : ∀ a w, C w → Q a → Q' .normal a w) : ∀ (fuel : Nat) (listed : Array Bool) (a : Act) (w : World), C w →
    wpAnyQ P md ops C Q fuel listed a → wpAnyIn (Fence.wide.inRound l0) n P md ops Q' fuel listed a w
  | 0, _, _, _, hw, h => ⟨h.1, hQ _ _ hw h.2⟩
  | fuel + 1, _, _, _, hw, h => ⟨fun h0 => hQ _ _ hw (h.1 h0), fun i hi => opsR_of_qOp hnd hw (fun a' w' hw' => anyR_of_quiet hnd hQ fuel _ a' w' hw') (h.2 i hi)⟩
end

theorem wpR_region_grow {P : Program} {id l0 n : Nat} {Q : Exit → Act → World → Prop} {a : Act} {w : World} {l : List Oper} {G : World → World} (hG : Growth w G) (hm : P.follows .mixedOrders = true) (hB : Region.lexB .any l.toArray = true) (hnd : noDefer l = true)
    (h : wpQuiet P l.toArray (fun w' => ∃ x, w' = G x) (fun a' => ∀ w', (∃ x, w' = G x) → Q .normal a' w') l a) : (Code.region id l.toArray true).wpIn (Fence.wide.inRound l0) n P Q a w := by
  simp only [Region.lexB, Bool.and_eq_true] at hB
  refine wpIn_region_any hm (anyR_of_quiet (C := fun w' => ∃ x, w' = G x) (Q := fun a' => ∀ w', (∃ x, w' = G x) → Q .normal a' w') (fun i o hi => noDefer_at hnd i o (by simpa using hi)) (fun _ w' hw' h => h w' hw') _ _ _ _ ⟨w.drew, (hG.onto _ ((Below.refl _ _).drew)).symm⟩ ?_)
  have := wpAnyQ_lex (C := fun w' => ∃ x, w' = G x) (md := .any) hB.1 l.toArray.toList 0 (Array.replicate l.toArray.size false) a (by simp) (by simpa using hB.2) h
  simpa using this

theorem grow_round {P : Program} {f : FuncId} {args : Array Value} {W x : World} {G : World → World} (hG : Growth W G) {v : Value}
    (h : Calls P f args (G x) fun e w' => e = .returned v ∧ Below (G x).heap.size (G x) w') : Calls P f args (G x) fun e w'' => e = .returned v ∧ ∃ y, w'' = G y := grow_of hG h
end Go.Proofs.YtedonckeomccpaaDoor
