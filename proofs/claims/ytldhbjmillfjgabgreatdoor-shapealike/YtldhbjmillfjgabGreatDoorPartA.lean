/-
  A region that draws its order, whose operations only read and whose callees only make new memory: one walk of the text's order serves every order; outside a loop's round, and within one.
  The class of worlds: all that have grown out of W and left everything in it as it was: what a function G gives.
  A region that draws its order, whose operations read, and make new memory, and whose last ones store: operations that yield one value in every world that has grown are taken first; the others in every order in which they may come up.
  The library's contracts that these texts use, laid at this program by the shelf's own command, its plain mode.
  Plain mathematics of UTF-8: bytes as runes and back. No Go in sight.
  utf.wrong and utf.each: a text is walked rune by rune by a closure.
  A captured variable that gathers elements, and the closures of utf that append to one or count.
  The closures of utf.Halves and utf.Count; utf.Plus, utf.countsOf; then utf.Runes, utf.Halves, utf.Count: what they return of any text.
  utf.Runes, utf.Halves, utf.Count: what they return of any text.
  utf.Text and utf.FromHalves: what they return of any slice.
  utf.lead and utf.FromHalves: what they return of any slice of halves.
  Plain mathematics: halves there and back; runes there and back.
  Plain mathematics: what a text counts, told by its runes, and by its bytes.
  The rope's tree, as memory holds it; what its nodes' counts, height and size tell.
  rope.link: a chunk above two trees.
  Plain mathematics: the rope's trees: chunks in order, heights, balance.
  rope.turn: a chunk above two trees that differ by two in height at most.
-/
import Derived.WalkKit
import Derived.BigQuiet
import Derived.OrdersIn
import Derived.CallsIn
import Derived.TacticsIn
import Derived.RangeFuncCalls
import Derived.RegionTactic
import Derived.Shelf.Strings.Builder1
import Derived.Shelf.Small.Utf8
import Derived.Shelf.Strings.BuilderF
import Derived.Shelf.Strings.BuilderK
import Derived.Shelf.Utf8.AppendRune
import Derived.Shelf.Utf8.AppendRunePlain
import Derived.Shelf.Utf8.RuneCount
import Derived.Shelf.LaysM
import Derived.Shelf.Strconv.Clone
import Derived.Shelf.Strings.Search1
import Derived.Shelf.Strings.Search2
import Derived.Shelf.Strings.Search3
import Derived.Shelf.Strings.Count
import Derived.Shelf.Strings.Shaped
import Derived.Shelf.Strings.Split
import Derived.Shelf.Unicode.Decode
import Derived.Shelf.Strings.RuneCount
import Derived.Shelf.Unicode.DecodeSlow
import Derived.Shelf.Unicode.DecodeAny
import Derived.Shelf.Strings.BuilderCap
import Derived.Test.YtldhbjmillfjgabGreatDoorProg
import Derived.Lib.DecodeN
import Derived.Lib.RuneBytes
import Derived.Lib.Strings
import Derived.WalkSpells
import Derived.WalkLawsBesides
import Derived.OwnWalk
import Derived.Lib.QuoteBits
import Derived.Laws.IdiomStrings
import Derived.Lib.UnsafeStr
import Derived.Deep.QuietTactic
import Derived.Deep.RegionWith
namespace Go.Proofs.YtldhbjmillfjgabGreatDoor
open Go.RowKit

/-- G gives just the worlds that have grown out of W. -/
structure Growth (W : World) (G : World → World) : Prop where
  below : ∀ x, Below W.heap.size W (G x)
  onto : ∀ w, Below W.heap.size W w → G w = w

open Classical in
theorem exists_growth (W : World) : ∃ G, Growth W G :=
  ⟨fun x => if Below W.heap.size W x then x else W, fun x => by
    show Below W.heap.size W (if Below W.heap.size W x then x else W)
    split
    · assumption
    · exact Below.refl _ _, fun w h => if_pos h⟩

theorem Growth.cell {W : World} {G : World → World} (hG : Growth W G) {b o : Nat} {v : Value} (h : W.cell? ⟨b, o, none⟩ = some v) : ∀ x, (G x).cell? ⟨b, o, none⟩ = some v :=
  fun x => ((hG.below x).cell (p := ⟨b, o, none⟩) (World.block_lt_of_cell? W _ h)).trans h

theorem wp_region_grow {P : Program} {id : Nat} {Q : Exit → Act → World → Prop} {a : Act} {w : World} {l : List Oper} {G : World → World} (hG : Growth w G) (hm : P.follows .mixedOrders = true) (hB : Region.lexB .any l.toArray = true)
    (h : wpQuiet P l.toArray (fun w' => ∃ x, w' = G x) (fun a' => ∀ w', (∃ x, w' = G x) → Q .normal a' w') l a) : (Code.region id l.toArray true).wp P Q a w :=
  wp_region_quiet (C := fun w' => ∃ x, w' = G x) hm hB ⟨w.drew, (hG.onto _ ((Below.refl _ _).drew)).symm⟩ (by simpa using h)

theorem grow_of {P : Program} {f : FuncId} {args : Array Value} {W x : World} {G : World → World} (hG : Growth W G) {v : Value}
    (h : Calls P f args (G x) fun e w' => e = .returned v ∧ Below (G x).heap.size (G x) w') : Calls P f args (G x) fun e w'' => e = .returned v ∧ ∃ y, w'' = G y :=
  h.mono fun _ w' ⟨he, hb⟩ => ⟨he, w', (hG.onto _ ((hG.below x).trans (hb.mono (hG.below x).size))).symm⟩

/-! ### Within a round -/
section
variable {P : Program} {ops : Array Oper} {md : Region.Mode} {C : World → Prop} {l0 n : Nat}

/-- No operation defers a call. -/
def noDefer : List Oper → Bool
  | [] => true
  | o :: l => (match o.op with | .defer _ => false | _ => true) && noDefer l
theorem noDefer_at : ∀ {l : List Oper}, noDefer l = true → ∀ (i : Nat) (o : Oper), l[i]? = some o → ∀ c, o.op ≠ .defer c
  | [], _, i, o, hi => by simp at hi
  | o' :: l, h, i, o, hi => by
    rw [noDefer, Bool.and_eq_true] at h
    cases i with
    | zero =>
      simp at hi
      subst hi
      intro c e
      rw [e] at h
      exact absurd h.1 (by simp)
    | succ i => exact noDefer_at h.2 i o (by simpa using hi)

end

end Go.Proofs.YtldhbjmillfjgabGreatDoor

namespace Go.Proofs.YtldhbjmillfjgabGreatDoor
open Go.RowKit

section
variable {P : Program} {ops : Array Oper} {md : Region.Mode} {m : Nat} {Q : Exit → Act → World → Prop}

/-- What is asked of what an operation yields: a value, or a call that returns. -/
def okUpon (P : Program) (o : Oper) (a : Act) (K : Act → World → Prop) : Result Next → Prop
  | .ok (.value v) w' => K (a.put o.dst v) w'
  | .ok .skip w' => K (a.put o.dst undef) w'
  | .ok (.enter f args) w' => Calls P f args w' fun e w'' => ∃ v, e = .returned v ∧ K (a.put o.dst v) w''
  | _ => False
theorem okUpon_mono {o : Oper} {a : Act} {K K' : Act → World → Prop} (h : ∀ a w, K a w → K' a w) {r : Result Next} (hh : okUpon P o a K r) : okUpon P o a K' r := by
  cases r with
  | ok n w =>
    cases n <;> simp only [okUpon] at hh ⊢
    case value => exact h _ _ hh
    case skip => exact h _ _ hh
    case enter => exact hh.mono fun e w ⟨v, e1, e2⟩ => ⟨v, e1, h _ _ e2⟩
  | halt x w => simp only [okUpon] at hh
theorem upon_of_ok {o : Oper} {a : Act} {K : Act → World → Prop} {r : Result Next} (hh : okUpon P o a K r) : o.upon P a K Q r := by
  cases r with
  | ok n w =>
    cases n <;> simp only [okUpon] at hh <;> simp only [Oper.upon]
    case value => exact hh
    case skip => exact hh
    case enter => exact hh.mono fun e w ⟨v, e1, e2⟩ => by subst e1; exact e2
  | halt x w => simp only [okUpon] at hh

/-- Operation number i comes up. -/
def opG (P : Program) (ops : Array Oper) (i : Nat) (K : Act → World → Prop) (a : Act) (w : World) : Prop :=
  match ops[i]? with
  | none => K a w
  | some o => if Region.wanted o (yielded ops a.tmps) then okUpon P o a K ((execOp a.eval o).run P w) else K (a.put o.dst undef) w

theorem opG_mono {i : Nat} {K K' : Act → World → Prop} {a : Act} {w : World} (h : ∀ a w, K a w → K' a w) (hh : opG P ops i K a w) : opG P ops i K' a w := by
  unfold opG at *
  split
  · rename_i ho; simp only [ho] at hh; exact h _ _ hh
  · rename_i o ho
    simp only [ho] at hh
    split
    · rename_i hw; simp only [hw, if_true] at hh; exact okUpon_mono h hh
    · rename_i hw; simp only [hw] at hh; exact h _ _ hh

/-- Whatever order is picked from here on, and whatever grows between two operations; those below m do no more than grow. -/
def anyG (P : Program) (md : Region.Mode) (ops : Array Oper) (m : Nat) (Q : Exit → Act → World → Prop) : Nat → Array Bool → Act → World → Prop
  | 0, listed, a, w => Region.ready md ops listed = [] ∧ ∀ w', Below w.heap.size w w' → Q .normal a w'
  | fuel + 1, listed, a, w =>
    (Region.ready md ops listed = [] → ∀ w', Below w.heap.size w w' → Q .normal a w') ∧
    ∀ i ∈ Region.ready md ops listed, ∀ w', Below w.heap.size w w' → opG P ops i (fun a' w'' => (i < m → Below w'.heap.size w' w'') ∧ anyG P md ops m Q fuel (listed.setIfInBounds i true) a' w'') a w'

theorem any_of_anyG : ∀ (fuel : Nat) (listed : Array Bool) (a : Act) (w : World), anyG P md ops m Q fuel listed a w → wpAny P md ops Q fuel listed a w
  | 0, _, _, w, h => ⟨h.1, h.2 w (Below.refl _ _)⟩
  | fuel + 1, listed, a, w, h => ⟨fun h0 => h.1 h0 w (Below.refl _ _), fun i hi => by
      have h1 := h.2 i hi w (Below.refl _ _)
      have h2 := opG_mono (fun a' w'' hh => any_of_anyG fuel _ a' w'' hh.2) h1
      unfold opG at h2
      unfold wpOp
      split
      · rename_i ho; simp only [ho] at h2; exact h2
      · rename_i o ho
        simp only [ho] at h2
        split
        · rename_i hw; simp only [hw, if_true] at h2; exact .inl (upon_of_ok h2)
        · rename_i hw; simp only [hw] at h2; exact h2⟩

theorem anyG_later : ∀ {fuel : Nat} {listed : Array Bool} {a : Act} {w w2 : World}, anyG P md ops m Q fuel listed a w → Below w.heap.size w w2 → anyG P md ops m Q fuel listed a w2
  | 0, _, _, _, _, h, hb => ⟨h.1, fun w' hb' => h.2 w' (hb.trans (hb'.mono hb.size))⟩
  | _ + 1, _, _, _, _, h, hb => ⟨fun h0 w' hb' => h.1 h0 w' (hb.trans (hb'.mono hb.size)), fun i hi w' hb' => h.2 i hi w' (hb.trans (hb'.mono hb.size))⟩

/-- What an operation yields in one world: one value, and no more than growth. -/
def yieldsUpon (P : Program) (w : World) (v : Value) : Result Next → Prop
  | .ok (.value u) w' => w' = w ∧ u = v
  | .ok .skip w' => w' = w ∧ v = undef
  | .ok (.enter f args) w' => w' = w ∧ Calls P f args w (fun e w'' => e = .returned v ∧ Below w.heap.size w w'')
  | _ => False

def yieldsG (P : Program) (ops : Array Oper) (o : Oper) (v : Value) (a : Act) (w : World) : Prop :=
  if Region.wanted o (yielded ops a.tmps) then ∀ w', Below w.heap.size w w' → yieldsUpon P w' v ((execOp a.eval o).run P w') else v = undef

theorem yieldsG_same {o : Oper} {v : Value} {a a' : Act} {w w2 : World} (hy : yieldsG P ops o v a w) (he : execOp a'.eval o = execOp a.eval o)
    (hw : Region.wanted o (yielded ops a'.tmps) = Region.wanted o (yielded ops a.tmps)) (hb : Below w.heap.size w w2) : yieldsG P ops o v a' w2 := by
  unfold yieldsG at *
  rw [hw]
  split
  · rename_i h
    rw [if_pos h] at hy
    intro w' hb'
    rw [he]
    exact hy w' (hb.trans (hb'.mono hb.size))
  · rename_i h
    rw [if_neg h] at hy
    exact hy

theorem opG_of_yields {i : Nat} {o : Oper} {v : Value} {a : Act} {w w' : World} (hi : ops[i]? = some o) (hy : yieldsG P ops o v a w) (hb : Below w.heap.size w w') {K : Act → World → Prop}
    (h : ∀ w'', Below w'.heap.size w' w'' → K (a.put o.dst v) w'') : opG P ops i K a w' := by
  unfold opG
  simp only [hi]
  unfold yieldsG at hy
  split
  · rename_i hw
    rw [if_pos hw] at hy
    have h3 := hy w' hb
    generalize (execOp a.eval o).run P w' = r at *
    cases r with
    | ok n w2 =>
      cases n <;> simp only [yieldsUpon] at h3 <;> simp only [okUpon]
      case value u =>
        obtain ⟨e1, e2⟩ := h3
        rw [e2]
        exact h _ (by rw [e1]; exact Below.refl _ _)
      case skip =>
        obtain ⟨e1, e2⟩ := h3
        rw [← e2]
        exact h _ (by rw [e1]; exact Below.refl _ _)
      case enter f args =>
        obtain ⟨e1, hc⟩ := h3
        rw [e1]
        exact hc.mono fun e w'' ⟨he, hw''⟩ => ⟨v, he, h _ hw''⟩
    | halt x w2 => simp only [yieldsUpon] at h3
  · rename_i hw
    rw [if_neg hw] at hy
    rw [← hy]
    exact h _ (Below.refl _ _)

/-- An operation that another one leaves alone runs as it would behind that. -/
theorem opG_put {j : Nat} {oi oj : Oper} {v : Value} (hj : ops[j]? = some oj) (hap : oi.apart ops oj = true) (hsi : ∀ cs b, oi.op ≠ .select cs b) (hsj : ∀ cs b, oj.op ≠ .select cs b)
    {K : Act → World → Prop} {a : Act} {w0 w : World} (hy : yieldsG P ops oi v a w0) (h : opG P ops j K (a.put oi.dst v) w) :
    opG P ops j (fun a' w' => yieldsG P ops oi v a' w0 ∧ K (a'.put oi.dst v) w') a w := by
  obtain ⟨h1, h2, h3⟩ := Oper.apart_spec hap
  have keep : ∀ u, yieldsG P ops oi v (a.put oj.dst u) w0 := fun u => yieldsG_same hy (execOp_put oi hsi a oj.dst u h3) (wanted_put oi a oj.dst u h3) (Below.refl _ _)
  unfold opG at *
  simp only [hj] at *
  rw [wanted_put oj a oi.dst v h1] at h
  split
  · rename_i hw
    simp only [hw, if_true] at h
    rw [execOp_put oj hsj a oi.dst v h1] at h
    generalize (execOp a.eval oj).run P w = r at *
    cases r with
    | ok n w2 =>
      cases n <;> simp only [okUpon] at h ⊢
      case value u => exact ⟨keep u, by rw [← Act.put_comm a v u h2]; exact h⟩
      case skip => exact ⟨keep _, by rw [← Act.put_comm a v undef h2]; exact h⟩
      case enter f args => exact h.mono fun e w'' ⟨u, e1, e2⟩ => ⟨u, e1, keep u, by rw [← Act.put_comm a v u h2]; exact e2⟩
    | halt x w2 => simp only [okUpon] at h
  · rename_i hw
    simp only [hw] at h
    exact ⟨keep _, by rw [← Act.put_comm a v undef h2]; exact h⟩

/-- The operations from m on come behind all others. -/
def lateOk (md : Region.Mode) (ops : Array Oper) (m : Nat) : Bool :=
  (List.range ops.size).all fun j => j < m || match ops[j]? with
    | some o => (List.range m).all fun i => o.after.any fun e => Region.binds md e && e.on == i
    | none => true
theorem lateOk_spec (h : lateOk md ops m = true) {j i : Nat} {o : Oper} (hj : ops[j]? = some o) (hm : ¬ j < m) (hi : i < m) : ∃ e ∈ o.after, Region.binds md e = true ∧ e.on = i := by
  unfold lateOk at h
  rw [List.all_eq_true] at h
  have h1 := h j (List.mem_range.2 (Array.getElem?_eq_some_iff.1 hj).1)
  simp only [hj, hm, decide_false, Bool.false_or, List.all_eq_true, List.mem_range] at h1
  obtain ⟨e, he, hb⟩ := Array.any_eq_true'.1 (h1 i hi)
  rw [Bool.and_eq_true, beq_iff_eq] at hb
  exact ⟨e, he, hb.1, hb.2⟩

/-- An operation that yields one value in every world that has grown is taken first. -/
theorem anyG_first {i : Nat} {oi : Oper} {v : Value} (hi : ops[i]? = some oi) (him : i < m) (hsel : ∀ (j : Nat) (o : Oper) cs b, ops[j]? = some o → o.op ≠ .select cs b) (hlate : lateOk md ops m = true) :
    ∀ (fuel : Nat) (listed : Array Bool) (a : Act) (w : World),
      (∀ j oj, ops[j]? = some oj → j ≠ i → listed.getD j true = false → (∀ e ∈ oj.after, Region.binds md e = true → e.on ≠ i) → oi.apart ops oj = true) →
      i ∈ Region.ready md ops listed → yieldsG P ops oi v a w →
      anyG P md ops m Q fuel (listed.setIfInBounds i true) (a.put oi.dst v) w → anyG P md ops m Q (fuel + 1) listed a w := by
  intro fuel
  induction fuel with
  | zero =>
    intro listed a w _ hr hy H
    refine ⟨fun h => (by rw [h] at hr; cases hr), fun j hj w' hb => ?_⟩
    by_cases hji : j = i
    · subst hji; exact opG_of_yields hi hy hb fun w'' hb' => ⟨fun _ => hb', anyG_later H (hb.trans (hb'.mono hb.size))⟩
    · have := ready_mono hj hji
      rw [H.1] at this
      cases this
  | succ fuel ih =>
    intro listed a w hfree hr hy H
    refine ⟨fun h => (by rw [h] at hr; cases hr), fun j hj w' hb => ?_⟩
    by_cases hji : j = i
    · subst hji; exact opG_of_yields hi hy hb fun w'' hb' => ⟨fun _ => hb', anyG_later H (hb.trans (hb'.mono hb.size))⟩
    · have h1 := H.2 j (ready_mono hj hji) w' hb
      obtain ⟨hjun, oj, hoj, hall⟩ := mem_ready.1 hj
      have hnot : ∀ e ∈ oj.after, Region.binds md e = true → e.on ≠ i := fun e he hb heq => by
        have h1 := hall e he hb
        have h0 := (mem_ready.1 hr).1
        rw [heq] at h1
        rcases Nat.lt_or_ge i listed.size with h' | h'
        · simp [h'] at h0 h1; rw [h0] at h1; cases h1
        · simp [Array.getElem?_eq_none h'] at h1
      have hjm : j < m := by
        by_cases hjm : j < m
        · exact hjm
        · obtain ⟨e, he, hb, hon⟩ := lateOk_spec hlate hoj hjm him
          exact absurd hon (hnot e he hb)
      have h2 := opG_put hoj (hfree j oj hoj hji hjun hnot) (fun cs b => hsel i oi cs b hi) (fun cs b => hsel j oj cs b hoj) hy h1
      have hfree' : ∀ k ok, ops[k]? = some ok → k ≠ i → (listed.setIfInBounds j true).getD k true = false →
          (∀ e ∈ ok.after, Region.binds md e = true → e.on ≠ i) → oi.apart ops ok = true := fun k ok hk hki hun hno => by
        refine hfree k ok hk hki ?_ hno
        by_cases hjk : j = k
        · subst hjk; exact hjun
        · rw [getD_set_ne true hjk] at hun; exact hun
      refine opG_mono (fun a' w'' h3 => ?_) h2
      obtain ⟨h3y, h3g, h3a⟩ := h3
      have hg := h3g hjm
      refine ⟨fun _ => hg, ih (listed.setIfInBounds j true) a' w'' hfree' (ready_mono hr (Ne.symm hji)) (yieldsG_same h3y rfl rfl (hb.trans (hg.mono hb.size))) ?_⟩
      rw [Array.setIfInBounds_comm _ _ hji]
      exact h3a

theorem anyG_take {i fuel : Nat} {oi : Oper} {v : Value} {listed : Array Bool} {a : Act} {w : World} (hi : ops[i]? = some oi) (him : i < m) (hs : (Region.noSelect ops && lateOk md ops m) = true)
    (hf : (Region.free md ops listed i && (Region.ready md ops listed).contains i) = true) (hy : yieldsG P ops oi v a w) (H : anyG P md ops m Q fuel (listed.setIfInBounds i true) (a.put oi.dst v) w) : anyG P md ops m Q (fuel + 1) listed a w := by
  rw [Bool.and_eq_true] at hs hf
  exact anyG_first hi him (Region.noSelect_spec hs.1) hs.2 fuel listed a w (Region.free_spec hi hf.1) (by simpa using hf.2) hy H

theorem anyG_step {i fuel : Nat} {o : Oper} {listed : Array Bool} {a : Act} {w : World} {G : World → World} (hG : Growth w G) (hi : ops[i]? = some o) (him : decide (i < m) = true) (hs : (Region.noSelect ops && lateOk md ops m) = true)
    (hf : (Region.free md ops listed i && (Region.ready md ops listed).contains i) = true)
    (h : ∀ K : Act → Prop, (∀ a, anyG P md ops m Q fuel (listed.setIfInBounds i true) a w → K a) → if Region.wanted o (yielded ops a.tmps) then ∃ v, (∀ x, yieldsUpon P (G x) v ((execOp a.eval o).run P (G x))) ∧ K (a.put o.dst v) else K (a.put o.dst undef)) :
    anyG P md ops m Q (fuel + 1) listed a w := by
  have h1 := h _ fun _ h => h
  have him' : i < m := of_decide_eq_true him
  split at h1
  · rename_i hw
    obtain ⟨v, h2, h3⟩ := h1
    refine anyG_take hi him' hs hf ?_ h3
    unfold yieldsG
    rw [if_pos hw]
    intro w' hb
    have := h2 w'
    rw [hG.onto w' hb] at this
    exact this
  · rename_i hw
    refine anyG_take hi him' hs hf ?_ h1
    unfold yieldsG
    rw [if_neg hw]

/-- One operation alone may come up. -/
theorem anyG_one {i fuel : Nat} {o : Oper} {listed : Array Bool} {a : Act} {w : World} (hi : ops[i]? = some o) (hr : Region.ready md ops listed = [i])
    (h : ∀ w', Below w.heap.size w w' → ∀ K : Act → World → Prop, (∀ a' w'', Below w'.heap.size w' w'' → anyG P md ops m Q fuel (listed.setIfInBounds i true) a' w'' → K a' w'') → if Region.wanted o (yielded ops a.tmps) then okUpon P o a K ((execOp a.eval o).run P w') else K (a.put o.dst undef) w') :
    anyG P md ops m Q (fuel + 1) listed a w :=
  ⟨fun h0 => absurd (hr.symm.trans h0) (by simp), fun j hj w' hb => by
    rw [hr, List.mem_singleton] at hj
    subst hj
    unfold opG
    simp only [hi]
    exact h w' hb _ fun a' w'' hb' ha => ⟨fun _ => hb', ha⟩⟩
/-- .. one of the last ones. -/
theorem anyG_late {i fuel : Nat} {o : Oper} {listed : Array Bool} {a : Act} {w : World} (hi : ops[i]? = some o) (hr : Region.ready md ops listed = [i]) (him : decide (i < m) = false)
    (h : ∀ w', Below w.heap.size w w' → ∀ K : Act → World → Prop, (∀ a' w'', anyG P md ops m Q fuel (listed.setIfInBounds i true) a' w'' → K a' w'') → if Region.wanted o (yielded ops a.tmps) then okUpon P o a K ((execOp a.eval o).run P w') else K (a.put o.dst undef) w') :
    anyG P md ops m Q (fuel + 1) listed a w :=
  ⟨fun h0 => absurd (hr.symm.trans h0) (by simp), fun j hj w' hb => by
    rw [hr, List.mem_singleton] at hj
    subst hj
    unfold opG
    simp only [hi]
    exact h w' hb _ fun a' w'' ha => ⟨fun hm => absurd hm (of_decide_eq_false him), ha⟩⟩
theorem anyG_end {fuel : Nat} {listed : Array Bool} {a : Act} {w : World} (hr : Region.ready md ops listed = []) (h : ∀ w', Below w.heap.size w w' → Q .normal a w') : anyG P md ops m Q fuel listed a w := by
  cases fuel with
  | zero => exact ⟨hr, h⟩
  | succ n => exact ⟨fun _ => h, fun i hi => (by rw [hr] at hi; cases hi)⟩

theorem wp_region_rel {id : Nat} {a : Act} {w : World} {l : List Oper} (m n : Nat) (hm : P.follows .mixedOrders = true) (hn : l.length = n)
    (h : ∀ w', Below w.heap.size w w' → anyG P .any l.toArray m Q n (Array.replicate n false) a w') : (Code.region id l.toArray true).wp P Q a w :=
  wp_region_any hm (any_of_anyG _ _ _ _ (by subst hn; simpa using h { w with drawn := w.drawn + 1 } (Below.drew (Below.refl _ w))))
end
end Go.Proofs.YtldhbjmillfjgabGreatDoor

namespace Go.Proofs
open Go.Shelf
def Tryz.lays119_ren : Go.Shelf.Ren := ⟨fun | 119 => 126 | n => n, fun | 21 => 21 | 4 => 4 | n => n, fun | n => n⟩
theorem Tryz.lays119 : Go.Proofs.Lays.n119 Tryz.prog Tryz.lays119_ren := {
  mixed := by kernel_rfl
  f119 := Tryz.func126.trans (congrArg some (by kernel_rfl))
  t4 := Tryz.underlying4
  a4 := Tryz.isAgg4
  z4 := Tryz.sizeOf4
  v4 := Tryz.zeroValue4
  t21 := Tryz.underlying21
  a21 := Tryz.isAgg21
  z21 := Tryz.sizeOf21
  v21 := Tryz.zeroValue21 }
theorem Tryz.utf8_ValidRune (r : Int) (w : World) :
    Calls Tryz.prog 126 #[.int .i32 r] w fun e w' => e = .returned (.bool (Lib.validRune r)) ∧ w' = w := Any.utf8_ValidRune Tryz.lays119 r w
def Tryz.lays242_ren : Go.Shelf.Ren := ⟨fun | 242 => 128 | 278 => 169 | n => n, fun | 37 => 130 | 21 => 21 | 51 => 268 | 4 => 4 | 5 => 5 | 46 => 86 | n => n, fun | n => n⟩
theorem Tryz.lays242 : Go.Proofs.Lays.n242 Tryz.prog Tryz.lays242_ren := {
  mixed := by kernel_rfl
  f242 := Tryz.func128.trans (congrArg some (by kernel_rfl))
  f278 := Tryz.func169.trans (congrArg some (by kernel_rfl))
  t4 := Tryz.underlying4
  a4 := Tryz.isAgg4
  z4 := Tryz.sizeOf4
  v4 := Tryz.zeroValue4
  t5 := Tryz.underlying5
  a5 := Tryz.isAgg5
  z5 := Tryz.sizeOf5
  v5 := Tryz.zeroValue5
  t21 := Tryz.underlying21
  a21 := Tryz.isAgg21
  z21 := Tryz.sizeOf21
  v21 := Tryz.zeroValue21
  t37 := Tryz.underlying130
  a37 := Tryz.isAgg130
  z37 := Tryz.sizeOf130
  v37 := Tryz.zeroValue130
  t46 := Tryz.underlying86
  a46 := Tryz.isAgg86
  z46 := Tryz.sizeOf86
  v46 := Tryz.zeroValue86
  t51 := Tryz.underlying268
  a51 := Tryz.isAgg268
  z51 := Tryz.sizeOf268
  v51 := Tryz.zeroValue268 }
open Go.RowKit in
theorem Tryz.utf8_AppendRune_plain (B : Nat) (v : Value) (n : Nat) (xs : List Value) (r : Int) (hr0 : -2147483648 ≤ r) (hr1 : r ≤ 2147483647) (w : World) (hown : w.ownsRow B 5 1 v n xs) (hlen : n + 4 ≤ 140737488355328) (hBw : B ≤ w.heap.size) :
    Calls Tryz.prog 128 #[v, .int .i32 r] w fun e w' => ∃ v', e = .returned v' ∧ w'.ownsRow B 5 1 v' (n + (Lib.runeCells r).length) (xs ++ Lib.runeCells r) ∧ ∃ o, (w.alloc o).grownBy w' v.ownBlock := Any.utf8_AppendRune_plain Tryz.lays242 (by kernel_rfl) B v n xs r hr0 hr1 w hown hlen hBw
def Tryz.lays197_ren : Go.Shelf.Ren := ⟨fun | 197 => 158 | 260 => 188 | n => n, fun | 9 => 9 | 21 => 21 | 3 => 3 | 4 => 4 | 5 => 5 | 105 => 185 | 119 => 263 | 0 => 0 | 46 => 86 | 139 => 266 | 138 => 265 | n => n, fun | 3 => 2 | 4 => 3 | n => n⟩
theorem Tryz.lays197 : Go.Proofs.Lays.n197 Tryz.prog Tryz.lays197_ren := {
  mixed := by kernel_rfl
  f197 := Tryz.func158.trans (congrArg some (by kernel_rfl))
  f260 := Tryz.func188.trans (congrArg some (by kernel_rfl))
  t0 := Tryz.underlying0
  a0 := Tryz.isAgg0
  z0 := Tryz.sizeOf0
  v0 := Tryz.zeroValue0
  t3 := Tryz.underlying3
  a3 := Tryz.isAgg3
  z3 := Tryz.sizeOf3
  v3 := Tryz.zeroValue3
  t4 := Tryz.underlying4
  a4 := Tryz.isAgg4
  z4 := Tryz.sizeOf4
  v4 := Tryz.zeroValue4
  t5 := Tryz.underlying5
  a5 := Tryz.isAgg5
  z5 := Tryz.sizeOf5
  v5 := Tryz.zeroValue5
  t9 := Tryz.underlying9
  a9 := Tryz.isAgg9
  z9 := Tryz.sizeOf9
  v9 := Tryz.zeroValue9
  t21 := Tryz.underlying21
  a21 := Tryz.isAgg21
  z21 := Tryz.sizeOf21
  v21 := Tryz.zeroValue21
  t46 := Tryz.underlying86
  a46 := Tryz.isAgg86
  z46 := Tryz.sizeOf86
  v46 := Tryz.zeroValue86
  t105 := Tryz.underlying185
  a105 := Tryz.isAgg185
  z105 := Tryz.sizeOf185
  v105 := Tryz.zeroValue185
  t119 := Tryz.underlying263
  a119 := Tryz.isAgg263
  z119 := Tryz.sizeOf263
  t138 := Tryz.underlying265
  a138 := Tryz.isAgg265
  z138 := Tryz.sizeOf265
  v138 := Tryz.zeroValue265
  t139 := Tryz.underlying266
  a139 := Tryz.isAgg266
  z139 := Tryz.sizeOf266
  v139 := Tryz.zeroValue266
  g3 := by kernel_rfl
  g4 := by kernel_rfl }
def Tryz.lays260_ren : Go.Shelf.Ren := ⟨fun | 260 => 188 | n => n, fun | 9 => 9 | 21 => 21 | 3 => 3 | 4 => 4 | 5 => 5 | 119 => 263 | 0 => 0 | 46 => 86 | 139 => 266 | 138 => 265 | n => n, fun | 3 => 2 | 4 => 3 | n => n⟩
theorem Tryz.lays260 : Go.Proofs.Lays.n260 Tryz.prog Tryz.lays260_ren := {
  mixed := by kernel_rfl
  f260 := Tryz.func188.trans (congrArg some (by kernel_rfl))
  t0 := Tryz.underlying0
  a0 := Tryz.isAgg0
  z0 := Tryz.sizeOf0
  v0 := Tryz.zeroValue0
  t3 := Tryz.underlying3
  a3 := Tryz.isAgg3
  z3 := Tryz.sizeOf3
  v3 := Tryz.zeroValue3
  t4 := Tryz.underlying4
  a4 := Tryz.isAgg4
  z4 := Tryz.sizeOf4
  v4 := Tryz.zeroValue4
  t5 := Tryz.underlying5
  a5 := Tryz.isAgg5
  z5 := Tryz.sizeOf5
  v5 := Tryz.zeroValue5
  t9 := Tryz.underlying9
  a9 := Tryz.isAgg9
  z9 := Tryz.sizeOf9
  v9 := Tryz.zeroValue9
  t21 := Tryz.underlying21
  a21 := Tryz.isAgg21
  z21 := Tryz.sizeOf21
  v21 := Tryz.zeroValue21
  t46 := Tryz.underlying86
  a46 := Tryz.isAgg86
  z46 := Tryz.sizeOf86
  v46 := Tryz.zeroValue86
  t119 := Tryz.underlying263
  a119 := Tryz.isAgg263
  z119 := Tryz.sizeOf263
  t138 := Tryz.underlying265
  a138 := Tryz.isAgg265
  z138 := Tryz.sizeOf265
  v138 := Tryz.zeroValue265
  t139 := Tryz.underlying266
  a139 := Tryz.isAgg266
  z139 := Tryz.sizeOf266
  v139 := Tryz.zeroValue266
  g3 := by kernel_rfl
  g4 := by kernel_rfl }
open Go.RowKit Go.Lib in
theorem Tryz.utf8_DecodeRuneInString (s : ByteArray) (w : World) (hT : Lib.Utf8Tabs 2 3 w) :
    Calls Tryz.prog 158 #[.string s] w fun e w' => e = .returned (.tuple #[.int .i32 (Lib.decodeGo s).1, .int .i64 (Lib.decodeGo s).2]) ∧ Below w.heap.size w w' := Any.utf8_DecodeRuneInString Tryz.lays197 s w hT
end Go.Proofs

namespace Go.Proofs.YtldhbjmillfjgabGreatDoor
open Go.Lib

/-- The rune at the beginning of bytes, and how many it takes; (65533, 1): none begins there. -/
def dec (l : List UInt8) : Nat × Nat := decodeN l.length (l.getD 0 0).toNat (l.getD 1 0).toNat (l.getD 2 0).toNat (l.getD 3 0).toNat

theorem decN_ge1 (n b0 b1 b2 b3 : Nat) : 1 ≤ (decodeN n b0 b1 b2 b3).2 := by
  unfold decodeN
  repeat' split
  all_goals simp
theorem decN_le4 (n b0 b1 b2 b3 : Nat) : (decodeN n b0 b1 b2 b3).2 ≤ 4 := by
  unfold decodeN
  repeat' split
  all_goals simp
theorem decN_le (n b0 b1 b2 b3 : Nat) (h : 1 ≤ n) : (decodeN n b0 b1 b2 b3).2 ≤ n := by
  unfold decodeN
  repeat' split
  all_goals simp
  all_goals omega
theorem dec_ge1 (l : List UInt8) : 1 ≤ (dec l).2 := decN_ge1 _ _ _ _ _
theorem dec_le4 (l : List UInt8) : (dec l).2 ≤ 4 := decN_le4 _ _ _ _ _
theorem dec_le {l : List UInt8} (h : l ≠ []) : (dec l).2 ≤ l.length := decN_le _ _ _ _ _ (by cases l <;> simp_all)

/-- No rune begins here. -/
def badB (p : Nat × Nat) : Bool := p.1 == 65533 && p.2 == 1

/-- The runes of bytes, each with its width, up to the first byte at which none begins; and whether that is the end: n: as many at most. -/
def scanF : Nat → List UInt8 → List (Nat × Nat) × Bool
  | 0, _ => ([], true)
  | n + 1, l => if l = [] then ([], true) else if badB (dec l) then ([], false) else (dec l :: (scanF n (l.drop (dec l).2)).1, (scanF n (l.drop (dec l).2)).2)
theorem scanF_any : ∀ (n m : Nat) (l : List UInt8), l.length ≤ n → l.length ≤ m → scanF n l = scanF m l
  | 0, m, l, hn, _ => by
    obtain rfl : l = [] := List.eq_nil_of_length_eq_zero (by omega)
    cases m <;> simp [scanF]
  | n + 1, 0, l, _, hm => by
    obtain rfl : l = [] := List.eq_nil_of_length_eq_zero (by omega)
    simp [scanF]
  | n + 1, m + 1, l, hn, hm => by
    unfold scanF
    by_cases h : l = []
    · simp [h]
    · have h1 := dec_ge1 l
      have h2 : l.length ≠ 0 := by simpa using h
      rw [scanF_any n m (l.drop (dec l).2) (by rw [List.length_drop]; omega) (by rw [List.length_drop]; omega)]
/-- All of them. -/
def scan (l : List UInt8) : List (Nat × Nat) × Bool := scanF l.length l
theorem scan_step (l : List UInt8) (h : l ≠ []) : scan l = if badB (dec l) then ([], false) else (dec l :: (scan (l.drop (dec l).2)).1, (scan (l.drop (dec l).2)).2) := by
  have h1 := dec_ge1 l
  have h2 : l.length ≠ 0 := by simpa using h
  unfold scan
  rw [scanF_any l.length ((l.length - 1) + 1) l (Nat.le_refl _) (by omega), scanF, if_neg h, scanF_any (l.length - 1) (l.drop (dec l).2).length _ (by rw [List.length_drop]; omega) (Nat.le_refl _)]

theorem scan_nil : scan [] = ([], true) := rfl
theorem scan_bad {l : List UInt8} (h : l ≠ []) (hb : badB (dec l) = true) : scan l = ([], false) := by rw [scan_step l h, hb]; rfl
theorem scan_good {l : List UInt8} (h : l ≠ []) (hb : badB (dec l) = false) : scan l = (dec l :: (scan (l.drop (dec l).2)).1, (scan (l.drop (dec l).2)).2) := by
  rw [scan_step l h, hb]; rfl

/-- What a rune is. -/
def isRune (r : Nat) : Prop := r < 55296 ∨ (57344 ≤ r ∧ r ≤ 1114111)

/-- A rune's bytes. -/
def enc (r : Nat) : List UInt8 := encodeRune r
theorem enc1 {r : Nat} (h : r ≤ 127) : enc r = [r.toUInt8] := by
  unfold enc encodeRune; rw [encodeRuneZ_one (by omega) (by omega)]; simp
theorem enc2 {r : Nat} (h0 : 128 ≤ r) (h1 : r ≤ 2047) : enc r = [(192 + r / 64).toUInt8, (128 + r % 64).toUInt8] := by
  unfold enc encodeRune; rw [encodeRuneZ_two (by omega) (by omega)]
  simp only [List.map_cons, List.map_nil]
  rw [show (192 + (r : Int) / 64).toNat = 192 + r / 64 by omega, show (128 + (r : Int) % 64).toNat = 128 + r % 64 by omega]
theorem enc3 {r : Nat} (h : (2048 ≤ r ∧ r < 55296) ∨ (57343 < r ∧ r ≤ 65535)) : enc r = [(224 + r / 4096).toUInt8, (128 + r / 64 % 64).toUInt8, (128 + r % 64).toUInt8] := by
  unfold enc encodeRune; rw [encodeRuneZ_three (by omega)]
  simp only [List.map_cons, List.map_nil]
  rw [show (224 + (r : Int) / 4096).toNat = 224 + r / 4096 by omega, show (128 + (r : Int) / 64 % 64).toNat = 128 + r / 64 % 64 by omega, show (128 + (r : Int) % 64).toNat = 128 + r % 64 by omega]
theorem enc4 {r : Nat} (h0 : 65536 ≤ r) (h1 : r ≤ 1114111) : enc r = [(240 + r / 262144).toUInt8, (128 + r / 4096 % 64).toUInt8, (128 + r / 64 % 64).toUInt8, (128 + r % 64).toUInt8] := by
  unfold enc encodeRune; rw [encodeRuneZ_four (by omega) (by omega)]
  simp only [List.map_cons, List.map_nil]
  rw [show (240 + (r : Int) / 262144).toNat = 240 + r / 262144 by omega, show (128 + (r : Int) / 4096 % 64).toNat = 128 + r / 4096 % 64 by omega, show (128 + (r : Int) / 64 % 64).toNat = 128 + r / 64 % 64 by omega, show (128 + (r : Int) % 64).toNat = 128 + r % 64 by omega]

theorem toU8 {n : Nat} (h : n < 256) : n.toUInt8.toNat = n := by simp [Nat.toUInt8]; omega
theorem u8_eq {n : Nat} {a : UInt8} (h : n = a.toNat) : n.toUInt8 = a := by
  subst h; simp [Nat.toUInt8]

/-- Where a rune begins as it should be, its bytes are just its own. -/
theorem dec_good {l : List UInt8} (h : l ≠ []) (hb : badB (dec l) = false) : isRune (dec l).1 ∧ l.take (dec l).2 = enc (dec l).1 := by
  revert hb
  unfold badB dec isRune
  have z0 : (l.getD 0 0).toNat < 256 := (l.getD 0 0).toNat_lt
  have z1 : (l.getD 1 0).toNat < 256 := (l.getD 1 0).toNat_lt
  have z2 : (l.getD 2 0).toNat < 256 := (l.getD 2 0).toNat_lt
  have z3 : (l.getD 3 0).toNat < 256 := (l.getD 3 0).toNat_lt
  obtain ⟨a, t, rfl⟩ := List.exists_cons_of_ne_nil h
  unfold decodeN
  split
  · intro _
    refine ⟨by simp only [List.getD_cons_zero] at *; omega, ?_⟩
    rw [enc1 (by omega)]
    simp
  split
  · rename_i c
    split
    · intro _
      obtain ⟨c1, c2, c3⟩ := c
      obtain ⟨b, t, rfl⟩ : ∃ b t', t = b :: t' := by cases t with | nil => simp at c2 | cons b t => exact ⟨b, t, rfl⟩
      simp only [List.getD_cons_zero, List.getD_cons_succ] at *
      refine ⟨by omega, ?_⟩
      rw [enc2 (by omega) (by omega)]
      simp only [List.take_succ_cons, List.take_zero]
      rw [u8_eq (a := a) (by omega), u8_eq (a := b) (by omega)]
    · intro hb; simp at hb
  split
  · rename_i c
    split
    · intro _
      obtain ⟨c1, ⟨c2, c3⟩, c4, c5⟩ := c
      obtain ⟨b, t, rfl⟩ : ∃ b t', t = b :: t' := by cases t with | nil => simp at c2 | cons b t => exact ⟨b, t, rfl⟩
      obtain ⟨d, t, rfl⟩ : ∃ b t', t = b :: t' := by cases t with | nil => simp at c4 | cons b t => exact ⟨b, t, rfl⟩
      simp only [List.getD_cons_zero, List.getD_cons_succ] at *
      refine ⟨by omega, ?_⟩
      rw [enc3 (by omega)]
      simp only [List.take_succ_cons, List.take_zero]
      rw [u8_eq (a := a) (by omega), u8_eq (a := b) (by omega), u8_eq (a := d) (by omega)]
    · intro hb; simp at hb
  split
  · rename_i c
    split
    · intro _
      obtain ⟨c1, ⟨c2, c3⟩, ⟨c4, c5⟩, c6, c7⟩ := c
      obtain ⟨b, t, rfl⟩ : ∃ b t', t = b :: t' := by cases t with | nil => simp at c2 | cons b t => exact ⟨b, t, rfl⟩
      obtain ⟨d, t, rfl⟩ : ∃ b t', t = b :: t' := by cases t with | nil => simp at c4 | cons b t => exact ⟨b, t, rfl⟩
      obtain ⟨e, t, rfl⟩ : ∃ b t', t = b :: t' := by cases t with | nil => simp at c6 | cons b t => exact ⟨b, t, rfl⟩
      simp only [List.getD_cons_zero, List.getD_cons_succ] at *
      refine ⟨by omega, ?_⟩
      rw [enc4 (by omega) (by omega)]
      simp only [List.take_succ_cons, List.take_zero]
      rw [u8_eq (a := a) (by omega), u8_eq (a := b) (by omega), u8_eq (a := d) (by omega), u8_eq (a := e) (by omega)]
    · intro hb; simp at hb
  · intro hb; simp at hb

/-- A rune's bytes, whatever stands behind them, are that rune. -/
theorem dec_enc {r : Nat} (hr : isRune r) (t : List UInt8) : dec (enc r ++ t) = (r, (enc r).length) ∧ badB (dec (enc r ++ t)) = false := by
  have key : dec (enc r ++ t) = (r, (enc r).length) ∧ ((enc r).length = 1 → r ≤ 127) := by
    unfold isRune at hr
    by_cases h1 : r ≤ 127
    · rw [enc1 h1]
      simp only [dec, List.cons_append, List.nil_append, List.getD_cons_zero, toU8 (show r < 256 by omega), List.length_cons, List.length_nil]
      exact ⟨by simp [decodeN, show r < 128 by omega], fun _ => h1⟩
    by_cases h2 : r ≤ 2047
    · rw [enc2 (by omega) h2]
      simp only [dec, List.cons_append, List.nil_append, List.getD_cons_zero, List.getD_cons_succ, toU8 (show 192 + r / 64 < 256 by omega), toU8 (show 128 + r % 64 < 256 by omega), List.length_cons, List.length_nil]
      refine ⟨?_, by simp⟩
      unfold decodeN
      rw [if_neg (by omega), if_pos ⟨by omega, by omega, by omega⟩, if_pos (by omega)]
      simp; omega
    by_cases h3 : r ≤ 65535
    · rw [enc3 (by omega)]
      simp only [dec, List.cons_append, List.nil_append, List.getD_cons_zero, List.getD_cons_succ, toU8 (show 224 + r / 4096 < 256 by omega), toU8 (show 128 + r / 64 % 64 < 256 by omega), toU8 (show 128 + r % 64 < 256 by omega), List.length_cons, List.length_nil]
      refine ⟨?_, by simp⟩
      unfold decodeN
      rw [if_neg (by omega), if_neg (by omega), if_pos ⟨by omega, ⟨by omega, by omega⟩, by omega, by omega⟩, if_pos (by omega)]
      simp; omega
    · rw [enc4 (by omega) (by omega)]
      simp only [dec, List.cons_append, List.nil_append, List.getD_cons_zero, List.getD_cons_succ, toU8 (show 240 + r / 262144 < 256 by omega), toU8 (show 128 + r / 4096 % 64 < 256 by omega), toU8 (show 128 + r / 64 % 64 < 256 by omega), toU8 (show 128 + r % 64 < 256 by omega), List.length_cons, List.length_nil]
      refine ⟨?_, by simp⟩
      unfold decodeN
      rw [if_neg (by omega), if_neg (by omega), if_neg (by omega), if_pos ⟨by omega, ⟨by omega, by omega⟩, ⟨by omega, by omega⟩, by omega, by omega⟩, if_pos (by omega)]
      simp; omega
  refine ⟨key.1, ?_⟩
  rw [key.1]
  unfold badB
  by_cases hl : (enc r).length = 1
  · have := key.2 hl; simp; omega
  · simp [hl]

theorem enc_ne (r : Nat) : enc r ≠ [] := by
  have := (encodeRuneZ_length r).1
  intro h
  have h2 := congrArg List.length h
  simp [enc, encodeRune] at h2
  rw [h2] at this; simp at this

/-- Runes, each with its width. -/
def wide (rs : List Nat) : List (Nat × Nat) := rs.map fun r => (r, (enc r).length)

/-- The bytes of runes. -/
def encs (rs : List Nat) : List UInt8 := rs.flatMap enc
theorem encs_cons (r : Nat) (rs : List Nat) : encs (r :: rs) = enc r ++ encs rs := rfl
theorem encs_append (a b : List Nat) : encs (a ++ b) = encs a ++ encs b := by simp [encs]

/-- What runes' bytes are: these runes. -/
theorem scan_encs : ∀ (rs : List Nat), (∀ r ∈ rs, isRune r) → scan (encs rs) = (wide rs, true)
  | [], _ => scan_nil
  | r :: rs, h => by
    have hr := h r (by simp)
    obtain ⟨h1, h2⟩ := dec_enc hr (encs rs)
    have hne : encs (r :: rs) ≠ [] := by rw [encs_cons]; simp [enc_ne]
    rw [encs_cons] at hne ⊢
    rw [scan_good hne h2, h1]
    simp only [List.drop_left]
    rw [scan_encs rs (fun x hx => h x (by simp [hx]))]
    rfl

theorem scan_spec (n : Nat) : ∀ (l : List UInt8), l.length ≤ n → (∀ p ∈ (scan l).1, isRune p.1 ∧ p.2 = (enc p.1).length) ∧ (∃ t, l = encs ((scan l).1.map (·.1)) ++ t ∧ ((scan l).2 = true → t = []) ∧ ((scan l).2 = false → t ≠ [] ∧ badB (dec t) = true)) := by
  induction n with
  | zero =>
    intro l hl
    obtain rfl : l = [] := by cases l <;> simp_all
    rw [scan_nil]; exact ⟨by simp, [], by simp [encs]⟩
  | succ n ih =>
    intro l hl
    by_cases h : l = []
    · subst h; rw [scan_nil]; exact ⟨by simp, [], by simp [encs]⟩
    by_cases hb : badB (dec l) = true
    · rw [scan_bad h hb]; exact ⟨by simp, l, by simp [encs], by simp, fun _ => ⟨h, hb⟩⟩
    have hb : badB (dec l) = false := by simpa using hb
    obtain ⟨g1, g2⟩ := dec_good h hb
    have w1 := dec_ge1 l
    have w2 := dec_le h
    obtain ⟨i1, t, i2, i3, i4⟩ := ih (l.drop (dec l).2) (by simp; omega)
    rw [scan_good h hb]
    have hw : (dec l).2 = (enc (dec l).1).length := by rw [← g2]; simp; omega
    refine ⟨?_, t, ?_, i3, i4⟩
    · intro p hp
      rcases List.mem_cons.1 hp with rfl | hp
      · exact ⟨g1, hw⟩
      · exact i1 p hp
    · simp only [List.map_cons, encs_cons]
      rw [← g2, List.append_assoc, ← i2]
      exact (List.take_append_drop _ _).symm

/-- The runes of bytes. -/
def runesOf (l : List UInt8) : List Nat := (scan l).1.map (·.1)
theorem runesOf_rune {l : List UInt8} {r : Nat} (h : r ∈ runesOf l) : isRune r := by
  obtain ⟨p, hp, rfl⟩ := List.mem_map.1 h
  exact ((scan_spec l.length l (Nat.le_refl _)).1 p hp).1
/-- Bytes that are a text are their runes' bytes. -/
theorem encs_runesOf {l : List UInt8} (h : (scan l).2 = true) : encs (runesOf l) = l := by
  obtain ⟨_, t, h1, h2, _⟩ := scan_spec l.length l (Nat.le_refl _)
  rw [h2 h] at h1
  exact (h1.trans (List.append_nil _)).symm

theorem encs_len (rs : List Nat) : rs.length ≤ (encs rs).length := by
  induction rs with
  | nil => simp [encs]
  | cons r rs ih =>
    have h : (enc r).length ≠ 0 := by simpa using enc_ne r
    rw [encs_cons, List.length_append, List.length_cons]
    omega
theorem scan_len (l : List UInt8) : (scan l).1.length ≤ l.length := by
  obtain ⟨_, t, h1, _⟩ := scan_spec l.length l (Nat.le_refl _)
  have h := encs_len ((scan l).1.map (·.1))
  rw [List.length_map] at h
  have h2 := congrArg List.length h1
  rw [List.length_append] at h2
  omega
theorem scan_w4 (l : List UInt8) : ∀ p ∈ (scan l).1, p.2 ≤ 4 := by
  intro p hp
  rw [((scan_spec l.length l (Nat.le_refl _)).1 p hp).2]
  have := (encodeRuneZ_length p.1).2
  simpa [enc, encodeRune] using this

/-! ### Halves -/
def hal (r : Nat) : List Nat := if r < 65536 then [r] else [55296 + (r - 65536) / 1024, 56320 + (r - 65536) % 1024]
def hals (rs : List Nat) : List Nat := rs.flatMap hal

theorem get!_getD (s : ByteArray) (i : Nat) : s.get! i = s.data.toList.getD i 0 := by
  simp only [ByteArray.get!, List.getD_eq_getElem?_getD, Array.getElem?_toList]
  cases h : s.data[i]? with
  | none => rw [getElem!_def]; simp [h]; rfl
  | some x => rw [getElem!_def]; simp [h]

/-- What is decoded behind a place is what begins there. -/
theorem decode_dec (s : ByteArray) (k : Nat) : Utf8.decode (s.extract k s.size) 0 = dec (s.data.toList.drop k) := by
  have e1 : (s.extract k s.size).data.toList = s.data.toList.drop k := by
    rw [extract_data, List.take_of_length_le (by rw [List.length_drop, Array.length_toList]; exact Nat.le_refl _)]
  have e : (s.extract k s.size).size = (s.data.toList.drop k).length := by rw [← e1, Array.length_toList]; rfl
  rw [decode_at, e, get!_getD, get!_getD, get!_getD, get!_getD, e1]
  rfl

/-- Where a text breaks off, or its end. -/
def place (l : List UInt8) : Nat := ((scan l).1.map (·.2)).sum

theorem badB_true {p : Nat × Nat} (h : badB p = true) : p.1 = 65533 ∧ p.2 = 1 := by simpa [badB] using h
theorem badB_false {p : Nat × Nat} (h : badB p = false) : p.1 ≠ 65533 ∨ (p.1 = 65533 ∧ p.2 ≠ 1) := by
  simp [badB] at h
  by_cases h1 : p.1 = 65533
  · exact .inr ⟨h1, h h1⟩
  · exact .inl h1

end Go.Proofs.YtldhbjmillfjgabGreatDoor

namespace Go.Proofs.YtldhbjmillfjgabGreatDoor
open Go.RowKit

/-- An error at a place, in memory that is new since w. -/
def isAt (w w' : World) (v : Value) (at_ : Int) : Prop :=
  ∃ b, v = .iface 233 (.pointer (some ⟨b, 0, none⟩)) ∧ w.heap.size ≤ b ∧ b < w'.heap.size ∧ w'.cell? ⟨b, 0, none⟩ = some (.int .i64 3) ∧ w'.cell? ⟨b, 1, none⟩ = some (.int .i64 at_)

set_option maxHeartbeats 400000 in
theorem wrong_any (n : Int) (w : World) :
    Calls Tryz.prog 127 #[.int .i64 n] w fun e w' => (∃ v, e = .returned v ∧ isAt w w' v n) ∧ Below w.heap.size w w' := by
  go_enter Tryz.func127, Tryz.ntmps127
  go_wp2
  go_ret
  refine ⟨⟨_, rfl, w.heap.size, rfl, Nat.le_refl _, by simp, by simp [go_sem], by simp [go_sem]⟩, (Below.refl _ _).alloc (Nat.le_refl _) _⟩

theorem isAt_from {w0 w w' : World} {v : Value} {n : Int} (h : isAt w w' v n) (hb : w0.heap.size ≤ w.heap.size) : isAt w0 w' v n := by
  obtain ⟨b, rfl, h1, h2⟩ := h
  exact ⟨b, rfl, Nat.le_trans hb h1, h2⟩

/-- What each rune's closure keeps. -/
structure Takes (W : World) (F : Nat) (cap : Array Value) (l : List (Nat × Nat)) (I : List (Nat × Nat) → World → Prop) : Prop where
  enters : ∀ args w, (callFunc F args).run Tryz.prog w = .ok (.enter F args) w
  stays : ∀ done w w', I done w → Below w.heap.size w w' → I done w'
  step : ∀ done p rest, l = done ++ p :: rest → ∀ w, I done w → Below W.heap.size W w →
    Calls Tryz.prog F (#[.int .i32 p.1, .int .i64 p.2] ++ cap) w fun e w' => e = .returned (.bool true) ∧ I (done ++ [p]) w' ∧ Below W.heap.size W w'

set_option maxHeartbeats 1000000 in
theorem each_all (s : ByteArray) (hs : s.size ≤ maxLen) (F : Nat) (cap : Array Value) (W : World) (hT : Lib.Utf8Tabs 2 3 W) (I : List (Nat × Nat) → World → Prop)
    (H : Takes W F cap (scan s.data.toList).1 I) (w : World) (hw : Below W.heap.size W w) (h0 : I [] w) :
    Calls Tryz.prog 108 #[.string s, .func (.func F) #[] cap] w fun e w' => Below W.heap.size W w' ∧ I (scan s.data.toList).1 w' ∧
      (((scan s.data.toList).2 = true ∧ e = .returned .nilIface) ∨ ((scan s.data.toList).2 = false ∧ ∃ v, e = .returned v ∧ isAt W w' v (place s.data.toList))) := by
  unfold maxLen at hs
  have hent := H.enters
  have key : ∀ done k, (scan s.data.toList).1 = done ++ (scan (s.data.toList.drop k)).1 → (done.map (·.2)).sum = k → (scan s.data.toList).2 = (scan (s.data.toList.drop k)).2 →
      (scan (s.data.toList.drop k)).1 = [] → place s.data.toList = k := by
    intro done k h1 h2 _ h4
    unfold place
    rw [h1, h4, List.append_nil, h2]
  go_enter Tryz.func108, Tryz.ntmps108
  go_wp2
  go_loopw [5, 6, 7, 12] (fun at_ _ _ _ wr => ∃ (k : Nat) (done : List (Nat × Nat)), k ≤ s.size ∧ at_ = .int .i64 k ∧ (scan s.data.toList).1 = done ++ (scan (s.data.toList.drop k)).1 ∧ (done.map (·.2)).sum = k ∧
      (scan s.data.toList).2 = (scan (s.data.toList.drop k)).2 ∧ I done wr ∧ Below W.heap.size W wr) (fun at_ _ _ _ _ => s.size - (intOf at_).toNat)
  case atStart => exact ⟨0, [], Nat.zero_le _, rfl, by rw [List.drop_zero]; rfl, rfl, by rw [List.drop_zero], h0, hw⟩
  case round =>
    obtain ⟨k, done, hk, rfl, hd1, hd2, hd3, hI, hwr⟩ := hrel
    have hTr := Go.Proofs.Utf8Tabs_below hT hwr
    by_cases hlt : k < s.size
    · have hne : s.data.toList.drop k ≠ [] := by
        intro e
        have := congrArg List.length e
        rw [List.length_drop, List.length_nil, ← Lib.size_eq] at this
        omega
      have hdec : Lib.decodeGo (s.extract k s.size) = dec (s.data.toList.drop k) := by
        unfold Lib.decodeGo
        rw [if_neg (by rw [ByteArray.size_extract]; omega), decode_dec]
      have hge := dec_ge1 (s.data.toList.drop k)
      have hle := dec_le hne
      have hle4 := dec_le4 (s.data.toList.drop k)
      have cD := Tryz.utf8_DecodeRuneInString (s.extract k s.size) wr hTr
      rw [hdec] at cD
      by_cases hb : badB (dec (s.data.toList.drop k)) = true
      · have hs2 := scan_bad hne hb
        have hpl : Hid (place s.data.toList = k) := key done k hd1 hd2 hd3 (by rw [hs2])
        have hf : (scan s.data.toList).2 = false := by rw [hd3, hs2]
        have hfin : Hid (I (scan s.data.toList).1 wr) := by show I _ wr; rw [hd1, hs2, List.append_nil]; exact hI
        have hb' : (dec (s.data.toList.drop k)).1 = 65533 ∧ (dec (s.data.toList.drop k)).2 = 1 := badB_true hb
        rw [hb'.1, hb'.2] at cD
        clear hdec hge hle hle4 hb hb' hd1 hd2 hd3 hs2 hne key hI
        go_wp2_with (first | (go_at_call 158; refine cD.mono ?_; rintro e w1 ⟨rfl, hb1⟩) | (go_at_call 127; refine (wrong_any _ _).mono ?_; rintro e w2 ⟨⟨v, rfl, hv⟩, hb2⟩) | fail)
        go_ret
        have hb12 : Below wr.heap.size wr w2 := hb1.trans (hb2.mono hb1.size)
        refine ⟨hwr.trans (hb12.mono hwr.size), H.stays _ _ _ hfin hb12, .inr ⟨hf, v, rfl, ?_⟩⟩
        rw [hpl]
        exact isAt_from hv (Nat.le_trans hwr.size hb1.size)
      · have hb : badB (dec (s.data.toList.drop k)) = false := Bool.eq_false_iff.2 hb
        have hs2 := scan_good hne hb
        have hl : (scan s.data.toList).1 = done ++ dec (s.data.toList.drop k) :: (scan ((s.data.toList.drop k).drop (dec (s.data.toList.drop k)).2)).1 := by rw [hd1, hs2]
        have hl' : (scan s.data.toList).2 = (scan ((s.data.toList.drop k).drop (dec (s.data.toList.drop k)).2)).2 := by rw [hd3, hs2]
        rw [List.drop_drop] at hl hl'
        rw [List.length_drop, ← Lib.size_eq] at hle
        have hstep := H.step done _ _ hl
        obtain ⟨R, hR⟩ : ∃ R, R = (dec (s.data.toList.drop k)).1 := ⟨_, rfl⟩
        obtain ⟨K, hK⟩ : ∃ K, K = (dec (s.data.toList.drop k)).2 := ⟨_, rfl⟩
        have hp : dec (s.data.toList.drop k) = (R, K) := by rw [hR, hK]
        rw [hp] at cD hb hge hle hle4 hl hl' hstep
        have hnext : Hid ((scan s.data.toList).1 = done ++ [(R, K)] ++ (scan (s.data.toList.drop (k + K))).1) := by
          show _ = _
          rw [hl, List.append_assoc]; rfl
        have hnext2 : Hid (((done ++ [(R, K)]).map (·.2)).sum = k + K) := by
          show _ = _
          rw [List.map_append, List.sum_append, hd2]; rfl
        have hnext3 : Hid ((scan s.data.toList).2 = (scan (s.data.toList.drop (k + K))).2) := hl'
        simp only [] at hge hle
        clear hdec hd1 hd2 hd3 hs2 hne key hle4 hl hl' hR hK hp
        have hbF := badB_false hb
        clear hb
        rcases hbF with hr | ⟨hr, hr2⟩
        · have hr0 : ((R : Int) == 65533) = false := by
            rw [beq_eq_false_iff_ne]
            intro e
            exact hr (by omega)
          clear hr
          go_wp2_with (first | (go_at_call 158; refine cD.mono ?_; rintro e w1 ⟨rfl, hb1⟩) | (go_at_fn F; refine (hstep w1 (H.stays _ _ _ hI hb1) (hwr.trans (hb1.mono hwr.size))).mono ?_; rintro e w2 ⟨rfl, hI2, hb2⟩) | fail)
          go_roundw
          case rel => exact ⟨k + K, done ++ [(R, K)], by omega, by go_num, hnext, hnext2, hnext3, hI2, hb2⟩
          case measure => simp [intOf]; omega
        · have hr0 : ((K : Int) == 1) = false := by
            rw [beq_eq_false_iff_ne]
            intro e
            exact hr2 (by omega)
          subst hr
          clear hr2
          go_wp2_with (first | (go_at_call 158; refine cD.mono ?_; rintro e w1 ⟨rfl, hb1⟩) | (go_at_fn F; refine (hstep w1 (H.stays _ _ _ hI hb1) (hwr.trans (hb1.mono hwr.size))).mono ?_; rintro e w2 ⟨rfl, hI2, hb2⟩) | fail)
          go_roundw
          case rel => exact ⟨k + K, done ++ [(65533, K)], by omega, by go_num, hnext, hnext2, hnext3, hI2, hb2⟩
          case measure => simp [intOf]; omega
    · have hend : s.data.toList.drop k = [] := List.drop_eq_nil_of_le (by rw [← Lib.size_eq]; omega)
      rw [hend, scan_nil] at hd1 hd3
      rw [List.append_nil] at hd1
      have hfin : Hid (I (scan s.data.toList).1 wr) := by show I _ wr; rw [hd1]; exact hI
      clear hd1 hend key hTr
      go_wp2
      go_ret
      refine ⟨hwr, hfin, ?_⟩
      first | exact rfl | exact .inl ⟨hd3, rfl⟩
end Go.Proofs.YtldhbjmillfjgabGreatDoor

namespace Go.Proofs.YtldhbjmillfjgabGreatDoor
open Go.RowKit

theorem own_below {w w' : World} {B e size n : Nat} {v : Value} {xs : List Value} (h : w.ownsRow B e size v n xs) (hb : Below w.heap.size w w') : w'.ownsRow B e size v n xs := by
  refine ⟨h.1, ?_⟩
  rcases h.2 with hn | ⟨g, cap, cur, rfl, hg, hgg, rest⟩
  · exact .inl hn
  · exact .inr ⟨g, cap, cur, rfl, hg, by rw [hb.block g (Array.getElem?_eq_some_iff.1 hgg).1]; exact hgg, rest⟩
theorem own_slice {w : World} {B e size n : Nat} {v : Value} {xs : List Value} (h : w.ownsRow B e size v n xs) : ∃ p c, v = .slice p n c := by
  rcases h.2 with ⟨rfl, rfl⟩ | ⟨g, cap, cur, rfl, _⟩
  · exact ⟨_, _, rfl⟩
  · exact ⟨_, _, rfl⟩

/-- The variable in block a holds a slice that owns the cells xs, in rows from block a + 1 on. -/
def gathers (w : World) (e a : Nat) (xs : List Value) : Prop :=
  ∃ p c, w.cell? ⟨a, 0, none⟩ = some (.slice p xs.length c) ∧ w.frozen? ⟨a, 0, none⟩ = false ∧ w.ownsRow (a + 1) e 1 (.slice p xs.length c) xs.length xs

theorem gathers_lt {w : World} {e a : Nat} {xs : List Value} (h : gathers w e a xs) : a < w.heap.size := by
  obtain ⟨p, c, h1, _⟩ := h
  exact World.block_lt_of_cell? w _ h1
theorem gathers_below {w w' : World} {e a : Nat} {xs : List Value} (h : gathers w e a xs) (hb : Below w.heap.size w w') : gathers w' e a xs := by
  have hlt := gathers_lt h
  obtain ⟨p, c, h1, h2, h3⟩ := h
  exact ⟨p, c, by rw [hb.cell (p := ⟨a, 0, none⟩) hlt]; exact h1, by rw [hb.frozen (p := ⟨a, 0, none⟩) hlt]; exact h2, own_below h3 hb⟩

theorem gathers_made (w : World) (e T : Nat) : gathers (w.alloc (.cells #[.slice none 0 0] T)) e w.heap.size [] :=
  ⟨none, 0, by simp [go_sem], by simp [go_sem], World.ownsRow_nil _ _ _ _⟩

/-- Behind an append and the store of what it gave. -/
theorem gathers_next {w w1 : World} {e a : Nat} {xs ys : List Value} {p : Option Addr} {c : Nat} {o : Obj} {v' : Value} (hlt : a < w.heap.size) (h2 : w.frozen? ⟨a, 0, none⟩ = false) (hc : w.cell? ⟨a, 0, none⟩ = some (.slice p xs.length c))
    (hown : w.ownsRow (a + 1) e 1 (.slice p xs.length c) xs.length xs)
    (hown1 : w1.ownsRow (a + 1) e 1 v' (xs.length + ys.length) (xs ++ ys)) (hg : (w.alloc o).grownBy w1 (Value.slice p xs.length c).ownBlock) :
    gathers (w1.setCell ⟨a, 0, none⟩ v') e a (xs ++ ys) ∧ Below a w (w1.setCell ⟨a, 0, none⟩ v') ∧ w1.cell? ⟨a, 0, none⟩ = some (.slice p xs.length c) ∧ w1.frozen? ⟨a, 0, none⟩ = false ∧ w.heap.size ≤ w1.heap.size := by
  have hrow : ∀ k, (Value.slice p xs.length c).ownBlock = some k → a + 1 ≤ k := fun k hk => (hown.lt k hk).1
  have hb1 : Below (a + 1) w w1 := ((Below.refl (a + 1) w).alloc hlt o).grown hg (by rw [World.size_alloc]; omega) hrow
  have hc1 : w1.cell? ⟨a, 0, none⟩ = some (.slice p xs.length c) := by rw [hb1.cell (p := ⟨a, 0, none⟩) (Nat.lt_succ_self a)]; exact hc
  have hf1 : w1.frozen? ⟨a, 0, none⟩ = false := by rw [hb1.frozen (p := ⟨a, 0, none⟩) (Nat.lt_succ_self a)]; exact h2
  obtain ⟨p', c', rfl⟩ := own_slice hown1
  refine ⟨⟨p', c', ?_, ?_, ?_⟩, (hb1.mono (Nat.le_succ a)).setCell (Nat.le_refl _) _, hc1, hf1, hb1.size⟩
  · rw [List.length_append]; exact World.cell?_setCell_same _ _ _ hc1
  · rw [World.frozen?_setCell]; exact hf1
  · rw [List.length_append]; exact ownsRow_setCell_below hown1 (Nat.lt_succ_self a) _

theorem info21 : (Tryz.prog.info? 21).map (fun i => (i.zero, i.size, i.bytes)) = some (some (.int .i32 0), 1, 4) := by kernel_rfl
theorem info59 : (Tryz.prog.info? 139).map (fun i => (i.zero, i.size, i.bytes)) = some (some (.int .u16 0), 1, 2) := by kernel_rfl

set_option maxHeartbeats 400000 in
theorem runes1_any (r n : Int) (a : Nat) (w : World) (xs : List Value) (h : gathers w 21 a xs) (hlen : xs.length < 1000000000) :
    Calls Tryz.prog 132 #[.int .i32 r, .int .i64 n, .pointer (some ⟨a, 0, none⟩)] w fun e w' => e = .returned (.bool true) ∧ gathers w' 21 a (xs ++ [.int .i32 r]) ∧ Below a w w' := by
  obtain ⟨i0, hi, hz0, hz1, hz2⟩ := info_parts info21
  have hlt := gathers_lt h
  obtain ⟨p, c, hc, hf, hown⟩ := h
  go_enter Tryz.func132, Tryz.ntmps132
  go_wp2_with (first
    | (at_builtin; refine wpList_append_own _ rfl _ _ 111 rfl (a + 1) 21 i0 (.int .i32 0) 1 4 Tryz.underlying111 hi hz0 hz1 hz2 rfl (by decide) _ _ _ rfl (hown.alloc _) ⟨w.heap.size, 0, none⟩ 1 1 [.int .i32 r] rfl rfl (cell_one_new _ _ _) (ints_oneCell .i32 [r]) ?c3 ?c4 ?c5 ?_)
    | fail)
  case c3 => unfold maxLen; omega
  case c4 => omega
  case c5 => first | omega | (simp; omega)
  intro v' w1 hown1 hg _
  obtain ⟨R1, R2, R3, R4, R5⟩ := gathers_next (ys := [.int .i32 r]) hlt hf hc hown hown1 hg
  obtain ⟨p', c', hv⟩ := own_slice hown1
  clear hown hown1 hg hc hf
  rw [hv] at R1 R2 ⊢
  go_wp2
  go_ret
  exact ⟨rfl, R1, R2⟩

/-- A rune's halves, as cells. -/
def halCells (r : Nat) : List Value := (hal r).map fun h : Nat => Value.int .u16 (h : Int)

theorem and1023 (r : Int) (h0 : 0 ≤ r) (h1 : r ≤ 1114111) : bits BinOp.and IntKind.i32 r 1023 = r % 1024 := by
  obtain ⟨x, rfl⟩ : ∃ x : Nat, r = x := ⟨r.toNat, by omega⟩
  show IntKind.i32.wrap ((BitVec.ofInt 32 (x : Int) &&& BitVec.ofInt 32 ((1023 : Nat) : Int)).toNat : Int) = _
  have hm : x &&& 1023 = x % 1024 := Nat.and_two_pow_sub_one_eq_mod x 10
  rw [BitVec.toNat_and, ofInt_u32 x (by omega), ofInt_u32 1023 (by omega), hm]
  exact (Lib.wrap_i32_small _ (by omega)).trans (Int.natCast_emod x 1024)

set_option maxHeartbeats 400000 in
theorem appendHalves_one (r : Int) (h0 : 0 ≤ r) (h1 : r < 65536) (B n : Nat) (w : World) (v : Value) (xs : List Value) (hown : w.ownsRow B 139 1 v n xs) (hlen : n < 1000000000) (hB : B ≤ w.heap.size) :
    Calls Tryz.prog 130 #[v, .int .i32 r] w fun e w' => ∃ v' o, e = .returned v' ∧ w'.ownsRow B 139 1 v' (n + 1) (xs ++ [.int .u16 r]) ∧ (w.alloc o).grownBy w' v.ownBlock := by
  obtain ⟨i0, hi, hz0, hz1, hz2⟩ := info_parts info59
  obtain ⟨p, c, rfl⟩ := own_slice hown
  go_enter Tryz.func130, Tryz.ntmps130
  go_wp2_with (first
    | (at_builtin; refine wpList_append_own _ rfl _ _ 114 rfl B 139 i0 (.int .u16 0) 1 2 Tryz.underlying114 hi hz0 hz1 hz2 rfl (by decide) _ _ _ rfl (hown.alloc _) ⟨w.heap.size, 0, none⟩ 1 1 [.int .u16 r] rfl rfl (cell_one_new _ _ _) (ints_oneCell .u16 [r]) ?c3 ?c4 ?c5 ?_)
    | fail)
  case c3 => unfold maxLen; omega
  case c4 => omega
  case c5 => first | omega | (simp; omega)
  intro v' w1 hown1 hg _
  obtain ⟨p', c', hv⟩ := own_slice hown1
  clear hown hi hz0 hz1 hz2
  rw [hv] at hown1 ⊢
  go_wp2
  go_ret
  exact ⟨_, _, rfl, hown1, hg⟩
set_option maxHeartbeats 400000 in
theorem appendHalves_two (r : Int) (h1 : ¬ r < 65536) (h2 : r ≤ 1114111) (B n : Nat) (w : World) (v : Value) (xs : List Value) (hown : w.ownsRow B 139 1 v n xs) (hlen : n < 1000000000) (hB : B ≤ w.heap.size) :
    Calls Tryz.prog 130 #[v, .int .i32 r] w fun e w' => ∃ v' o, e = .returned v' ∧ w'.ownsRow B 139 1 v' (n + 2) (xs ++ [.int .u16 (55296 + (r - 65536) / 1024), .int .u16 (56320 + (r - 65536) % 1024)]) ∧ (w.alloc o).grownBy w' v.ownBlock := by
  obtain ⟨i0, hi, hz0, hz1, hz2⟩ := info_parts info59
  obtain ⟨p, c, rfl⟩ := own_slice hown
  have ha := and1023 (r - 65536) (by omega) (by omega)
  go_enter Tryz.func130, Tryz.ntmps130
  go_wp2_with (first
    | (at_builtin; refine wpList_append_own _ rfl _ _ 114 rfl B 139 i0 (.int .u16 0) 1 2 Tryz.underlying114 hi hz0 hz1 hz2 rfl (by decide) _ _ _ rfl (hown.alloc _) ⟨w.heap.size, 0, none⟩ 2 2 [.int .u16 (55296 + (r - 65536) / 1024), .int .u16 (56320 + (r - 65536) % 1024)] rfl rfl (cell_two_new _ _ _ _) (ints_oneCell .u16 [55296 + (r - 65536) / 1024, 56320 + (r - 65536) % 1024]) ?c3 ?c4 ?c5 ?_)
    | fail)
  case c3 => unfold maxLen; omega
  case c4 => omega
  case c5 => first | omega | (simp; omega)
  intro v' w1 hown1 hg _
  obtain ⟨p', c', hv⟩ := own_slice hown1
  clear hown hi hz0 hz1 hz2
  rw [hv] at hown1 ⊢
  go_wp2
  go_ret
  exact ⟨_, _, rfl, hown1, hg⟩
end Go.Proofs.YtldhbjmillfjgabGreatDoor

namespace Go.Proofs.YtldhbjmillfjgabGreatDoor
open Go.RowKit

theorem halCells_one {r : Nat} (h : r < 65536) : halCells r = [.int .u16 r] := by simp [halCells, hal, h]
theorem halCells_two {r : Nat} (h : ¬ r < 65536) : halCells r = [.int .u16 (55296 + ((r : Int) - 65536) / 1024), .int .u16 (56320 + ((r : Int) - 65536) % 1024)] := by
  simp only [halCells, hal, h, if_false, List.map_cons, List.map_nil]
  rw [show ((55296 + (r - 65536) / 1024 : Nat) : Int) = 55296 + ((r : Int) - 65536) / 1024 by omega, show ((56320 + (r - 65536) % 1024 : Nat) : Int) = 56320 + ((r : Int) - 65536) % 1024 by omega]
theorem halCells_le (r : Nat) : (halCells r).length ≤ 2 := by
  by_cases h : r < 65536
  · rw [halCells_one h]; simp
  · rw [halCells_two h]; simp

theorem appendHalves_any (r : Nat) (h2 : r ≤ 1114111) (B n : Nat) (w : World) (v : Value) (xs : List Value) (hown : w.ownsRow B 139 1 v n xs) (hlen : n < 1000000000) (hB : B ≤ w.heap.size) :
    Calls Tryz.prog 130 #[v, .int .i32 r] w fun e w' => ∃ p c o m, e = .returned (.slice p m c) ∧ m = n + (halCells r).length ∧ w'.ownsRow B 139 1 (.slice p m c) m (xs ++ halCells r) ∧ (w.alloc o).grownBy w' v.ownBlock := by
  by_cases h : r < 65536
  · rw [halCells_one h]
    refine (appendHalves_one r (by omega) (by omega) B n w v xs hown hlen hB).mono ?_
    rintro e w' ⟨v', o, rfl, h1, h2⟩
    obtain ⟨p, c, rfl⟩ := own_slice h1
    exact ⟨p, c, o, _, rfl, rfl, h1, h2⟩
  · rw [halCells_two h]
    refine (appendHalves_two r (by omega) (by omega) B n w v xs hown hlen hB).mono ?_
    rintro e w' ⟨v', o, rfl, h1, h2⟩
    obtain ⟨p, c, rfl⟩ := own_slice h1
    exact ⟨p, c, o, _, rfl, rfl, h1, h2⟩

set_option maxHeartbeats 400000 in
theorem halves1_any (r : Nat) (hr : r ≤ 1114111) (n : Int) (a : Nat) (w : World) (xs : List Value) (h : gathers w 139 a xs) (hlen : xs.length < 1000000000) :
    Calls Tryz.prog 129 #[.int .i32 r, .int .i64 n, .pointer (some ⟨a, 0, none⟩)] w fun e w' => e = .returned (.bool true) ∧ gathers w' 139 a (xs ++ halCells r) ∧ Below a w w' := by
  have hlt := gathers_lt h
  obtain ⟨p, c, hc, hf, hown⟩ := h
  have cA := appendHalves_any r hr (a + 1) xs.length w _ xs hown hlen hlt
  obtain ⟨ys, hys⟩ : ∃ ys, ys = halCells r := ⟨_, rfl⟩
  rw [← hys] at cA ⊢
  clear hr hys
  generalize (r : Int) = R at cA ⊢
  have NX := fun (w1 : World) (o : Obj) (v' : Value) => @gathers_next w w1 139 a xs ys p c o v' hlt hf hc hown
  have HN : Hid (∀ (w1 : World) (o : Obj) (v' : Value), w1.ownsRow (a + 1) 139 1 v' (xs.length + ys.length) (xs ++ ys) → (w.alloc o).grownBy w1 (Value.slice p xs.length c).ownBlock → _) := NX
  clear NX hown
  go_enter Tryz.func129, Tryz.ntmps129
  go_wp2_with (first | (go_at_call 130; refine cA.mono ?_; rintro e w1 ⟨p', c', o, m, rfl, hm, hown1, hg⟩; have Rs := HN.out w1 o _ (by rw [← hm]; exact hown1) hg; obtain ⟨R1, R2, R3, R4, R5⟩ := Rs; clear hown1 hg hm) | fail)
  go_ret
  exact ⟨rfl, R1, R2⟩

set_option maxHeartbeats 400000 in
theorem plus_any (a1 a2 a3 a4 b1 b2 b3 b4 : Int) (w : World) :
    Calls Tryz.prog 110 #[.agg #[.int .i64 a1, .int .i64 a2, .int .i64 a3, .int .i64 a4], .agg #[.int .i64 b1, .int .i64 b2, .int .i64 b3, .int .i64 b4]] w
      fun e w' => e = .returned (.agg #[.int .i64 (wrap64 (a1 + b1)), .int .i64 (wrap64 (a2 + b2)), .int .i64 (wrap64 (a3 + b3)), .int .i64 (wrap64 (a4 + b4))]) ∧ Below w.heap.size w w' := by
  go_enter Tryz.func110, Tryz.ntmps110
  go_wp2
  refine bodyPost_ret (v := .agg #[.int .i64 (wrap64 (a1 + b1)), .int .i64 (wrap64 (a2 + b2)), .int .i64 (wrap64 (a3 + b3)), .int .i64 (wrap64 (a4 + b4))]) (by simp [results, Tryz.results110, go_sem]) rfl ⟨rfl, ?_⟩
  exact (((Below.refl _ _).alloc (Nat.le_refl _) _).alloc (by simp) _).alloc (by simp [Nat.le_add_right, Nat.add_assoc]) _

/-- What one rune counts in halves, and in lines. -/
def cH (r : Nat) : Int := if r < 65536 then 1 else 2
def cL (r : Nat) : Int := if r = 10 then 1 else 0

set_option maxHeartbeats 400000 in
theorem countsOf_any (r : Nat) (n : Int) (w : World) :
    Calls Tryz.prog 111 #[.int .i32 r, .int .i64 n] w
      fun e w' => e = .returned (.agg #[.int .i64 n, .int .i64 (cH r), .int .i64 1, .int .i64 (cL r)]) ∧ Below w.heap.size w w' := by
  by_cases h1 : r < 65536
  · have e1 : cH r = 1 := if_pos h1
    by_cases h2 : r = 10
    · have e2 : cL r = 1 := if_pos h2
      rw [e1, e2]
      subst h2
      clear h1 e1 e2
      go_enter Tryz.func111, Tryz.ntmps111
      go_wp2
      refine bodyPost_ret (v := .agg #[.int .i64 n, .int .i64 1, .int .i64 1, .int .i64 1]) (by simp [results, Tryz.results111, go_sem]) rfl ⟨rfl, ?_⟩
      exact ((Below.refl _ _).alloc (Nat.le_refl _) _).alloc (by simp) _
    · have e2 : cL r = 0 := if_neg h2
      rw [e1, e2]
      have k1 : (r : Int) < 65536 := by omega
      have k2 : ((r : Int) == 10) = false := by rw [beq_eq_false_iff_ne]; omega
      clear e1 e2 h1 h2
      generalize (r : Int) = R at k1 k2 ⊢
      go_enter Tryz.func111, Tryz.ntmps111
      go_wp2
      refine bodyPost_ret (v := .agg #[.int .i64 n, .int .i64 1, .int .i64 1, .int .i64 0]) (by simp [results, Tryz.results111, go_sem]) rfl ⟨rfl, ?_⟩
      exact ((Below.refl _ _).alloc (Nat.le_refl _) _).alloc (by simp) _
  · have e1 : cH r = 2 := if_neg h1
    have e2 : cL r = 0 := if_neg (by omega)
    rw [e1, e2]
    · have k1 : ¬ (r : Int) < 65536 := by omega
      have k2 : ((r : Int) == 10) = false := by rw [beq_eq_false_iff_ne]; omega
      clear e1 e2 h1
      generalize (r : Int) = R at k1 k2 ⊢
      go_enter Tryz.func111, Tryz.ntmps111
      go_wp2
      refine bodyPost_ret (v := .agg #[.int .i64 n, .int .i64 2, .int .i64 1, .int .i64 0]) (by simp [results, Tryz.results111, go_sem]) rfl ⟨rfl, ?_⟩
      exact ((Below.refl _ _).alloc (Nat.le_refl _) _).alloc (by simp) _

/-- The variable in block a holds these counts. -/
def counted (w : World) (a : Nat) (n1 n2 n3 n4 : Int) : Prop :=
  (w.cell? ⟨a, 0, none⟩ = some (.int .i64 n1) ∧ w.cell? ⟨a, 1, none⟩ = some (.int .i64 n2) ∧ w.cell? ⟨a, 2, none⟩ = some (.int .i64 n3) ∧ w.cell? ⟨a, 3, none⟩ = some (.int .i64 n4)) ∧
  (w.frozen? ⟨a, 0, none⟩ = false ∧ w.frozen? ⟨a, 1, none⟩ = false ∧ w.frozen? ⟨a, 2, none⟩ = false ∧ w.frozen? ⟨a, 3, none⟩ = false)

theorem counted_lt {w : World} {a : Nat} {n1 n2 n3 n4 : Int} (h : counted w a n1 n2 n3 n4) : a < w.heap.size := World.block_lt_of_cell? w _ h.1.1
theorem counted_old {B : Nat} {w w' : World} {a : Nat} {n1 n2 n3 n4 : Int} (h : counted w a n1 n2 n3 n4) (hb : Below B w w') (hlt : a < B) : counted w' a n1 n2 n3 n4 := by
  obtain ⟨⟨a0, a1, a2, a3⟩, b0, b1, b2, b3⟩ := h
  refine ⟨⟨?_, ?_, ?_, ?_⟩, ?_, ?_, ?_, ?_⟩
  · rw [hb.cell (p := ⟨a, 0, none⟩) hlt]; exact a0
  · rw [hb.cell (p := ⟨a, 1, none⟩) hlt]; exact a1
  · rw [hb.cell (p := ⟨a, 2, none⟩) hlt]; exact a2
  · rw [hb.cell (p := ⟨a, 3, none⟩) hlt]; exact a3
  · rw [hb.frozen (p := ⟨a, 0, none⟩) hlt]; exact b0
  · rw [hb.frozen (p := ⟨a, 1, none⟩) hlt]; exact b1
  · rw [hb.frozen (p := ⟨a, 2, none⟩) hlt]; exact b2
  · rw [hb.frozen (p := ⟨a, 3, none⟩) hlt]; exact b3
theorem counted_below {w w' : World} {a : Nat} {n1 n2 n3 n4 : Int} (h : counted w a n1 n2 n3 n4) (hb : Below w.heap.size w w') : counted w' a n1 n2 n3 n4 := counted_old h hb (counted_lt h)

theorem counted_set {w : World} {a : Nat} {n1 n2 n3 n4 m1 m2 m3 m4 : Int} (h : counted w a n1 n2 n3 n4) :
    counted ((((w.setCell ⟨a, 0, none⟩ (.int .i64 m1)).setCell ⟨a, 1, none⟩ (.int .i64 m2)).setCell ⟨a, 2, none⟩ (.int .i64 m3)).setCell ⟨a, 3, none⟩ (.int .i64 m4)) a m1 m2 m3 m4 := by
  obtain ⟨⟨a0, a1, a2, a3⟩, b0, b1, b2, b3⟩ := h
  refine ⟨⟨?_, ?_, ?_, ?_⟩, ?_, ?_, ?_, ?_⟩
  all_goals simp [go_sem, a0, a1, a2, a3, b0, b1, b2, b3]
theorem below_set {B : Nat} {w w' : World} {a : Nat} (hb : Below B w w') (hB : B ≤ a) (v1 v2 v3 v4 : Value) :
    Below B w ((((w'.setCell ⟨a, 0, none⟩ v1).setCell ⟨a, 1, none⟩ v2).setCell ⟨a, 2, none⟩ v3).setCell ⟨a, 3, none⟩ v4) :=
  (((hb.setCell (p := ⟨a, 0, none⟩) hB _).setCell (p := ⟨a, 1, none⟩) hB _).setCell (p := ⟨a, 2, none⟩) hB _).setCell (p := ⟨a, 3, none⟩) hB _

set_option maxHeartbeats 1000000 in
theorem count1_any (r : Nat) (n : Int) (a : Nat) (w : World) (n1 n2 n3 n4 : Int) (h : counted w a n1 n2 n3 n4) :
    Calls Tryz.prog 109 #[.int .i32 r, .int .i64 n, .pointer (some ⟨a, 0, none⟩)] w fun e w' => e = .returned (.bool true) ∧
      counted w' a (wrap64 (n1 + n)) (wrap64 (n2 + cH r)) (wrap64 (n3 + 1)) (wrap64 (n4 + cL r)) ∧ Below a w w' := by
  have hlt := counted_lt h
  have HC : Hid (counted w a n1 n2 n3 n4) := h
  obtain ⟨⟨a0, a1, a2, a3⟩, b0, b1, b2, b3⟩ := h
  have cO := fun (w : World) => countsOf_any r n w
  generalize cH r = x2 at cO ⊢
  generalize cL r = x4 at cO ⊢
  generalize (r : Int) = R at cO ⊢
  go_enter Tryz.func109, Tryz.ntmps109
  go_wp2
  go_region_with (first | (go_at_call 111; refine (cO _).mono ?_; rintro e w1 ⟨rfl, hb1⟩; have HC1 : counted w1 a n1 n2 n3 n4 := counted_old (w := w.drew) HC.out hb1 hlt; have HD1 : Hid (counted w1 a n1 n2 n3 n4) := HC1; obtain ⟨⟨c0, c1, c2, c3⟩, d0, d1, d2, d3⟩ := HC1) | (go_at_call 110; refine (plus_any _ _ _ _ _ _ _ _ _).mono ?_; rintro e w2 ⟨rfl, hb2⟩; have HC2 : counted w2 a n1 n2 n3 n4 := counted_old (w := w1) HD1.out hb2 (Nat.lt_of_lt_of_le hlt hb1.size); have HD2 : Hid (counted w2 a n1 n2 n3 n4) := HC2; obtain ⟨⟨c0, c1, c2, c3⟩, d0, d1, d2, d3⟩ := HC2))
  all_goals
    have hbb : Below a w w2 := (Below.drew (Below.refl a w)).trans ((hb1.trans (hb2.mono hb1.size)).mono (Nat.le_of_lt hlt))
    clear a0 a1 a2 a3 b0 b1 b2 b3 HC HD1 hb1 hb2 c0 c1 c2 c3 d0 d1 d2 d3
    go_wp2
    go_ret
    exact ⟨rfl, counted_set HD2.out, below_set hbb (Nat.le_refl _) _ _ _ _⟩

/-! ### What is gathered over runes -/
def cellsOf21 (l : List (Nat × Nat)) : List Value := l.map fun p => Value.int .i32 (p.1 : Int)
def cellsOf59 (l : List (Nat × Nat)) : List Value := l.flatMap fun p => halCells p.1
def sum1 (l : List (Nat × Nat)) : Int := (l.map fun p => (p.2 : Int)).sum
def sum2 (l : List (Nat × Nat)) : Int := (l.map fun p => cH p.1).sum
def sum4 (l : List (Nat × Nat)) : Int := (l.map fun p => cL p.1).sum

theorem runes_takes (W : World) (a : Nat) (l : List (Nat × Nat)) (ha : W.heap.size ≤ a) (hl : l.length < 1000000000) :
    Takes W 132 #[.pointer (some ⟨a, 0, none⟩)] l fun done w => gathers w 21 a (cellsOf21 done) where
  enters := enters_of Tryz.func132 (by kernel_rfl) rfl
  stays := fun _ _ _ h hb => gathers_below h hb
  step := fun done p rest e w hI hw => by
    have hlen : (cellsOf21 done).length < 1000000000 := by
      have := congrArg List.length e
      rw [List.length_append] at this
      unfold cellsOf21
      rw [List.length_map]
      omega
    refine (runes1_any p.1 p.2 a w _ hI hlen).mono ?_
    rintro e w' ⟨rfl, h1, h2⟩
    refine ⟨rfl, ?_, hw.trans (h2.mono ha)⟩
    unfold cellsOf21
    rw [List.map_append]
    exact h1

theorem cellsOf59_le (l : List (Nat × Nat)) : (cellsOf59 l).length ≤ 2 * l.length := by
  induction l with
  | nil => simp [cellsOf59]
  | cons p l ih =>
    have := halCells_le p.1
    unfold cellsOf59 at ih ⊢
    rw [List.flatMap_cons, List.length_append, List.length_cons]
    omega

theorem halves_takes (W : World) (a : Nat) (l : List (Nat × Nat)) (ha : W.heap.size ≤ a) (hl : l.length < 500000000) (hr : ∀ p ∈ l, isRune p.1) :
    Takes W 129 #[.pointer (some ⟨a, 0, none⟩)] l fun done w => gathers w 139 a (cellsOf59 done) where
  enters := enters_of Tryz.func129 (by kernel_rfl) rfl
  stays := fun _ _ _ h hb => gathers_below h hb
  step := fun done p rest e w hI hw => by
    have hlen : (cellsOf59 done).length < 1000000000 := by
      have := congrArg List.length e
      rw [List.length_append] at this
      have := cellsOf59_le done
      omega
    have hp : p.1 ≤ 1114111 := by
      have := hr p (by rw [e]; simp)
      unfold isRune at this
      omega
    refine (halves1_any p.1 hp p.2 a w _ hI hlen).mono ?_
    rintro e w' ⟨rfl, h1, h2⟩
    refine ⟨rfl, ?_, hw.trans (h2.mono ha)⟩
    unfold cellsOf59
    rw [List.flatMap_append, List.flatMap_cons, List.flatMap_nil, List.append_nil]
    exact h1

theorem cH_le (r : Nat) : 0 ≤ cH r ∧ cH r ≤ 2 := by unfold cH; split <;> omega
theorem cL_le (r : Nat) : 0 ≤ cL r ∧ cL r ≤ 1 := by unfold cL; split <;> omega
theorem sum2_le (l : List (Nat × Nat)) : 0 ≤ sum2 l ∧ sum2 l ≤ 2 * l.length := by
  induction l with
  | nil => simp [sum2]
  | cons p l ih => have := cH_le p.1; unfold sum2 at ih ⊢; rw [List.map_cons, List.sum_cons, List.length_cons]; omega
theorem sum4_le (l : List (Nat × Nat)) : 0 ≤ sum4 l ∧ sum4 l ≤ l.length := by
  induction l with
  | nil => simp [sum4]
  | cons p l ih => have := cL_le p.1; unfold sum4 at ih ⊢; rw [List.map_cons, List.sum_cons, List.length_cons]; omega
theorem sum1_le (l : List (Nat × Nat)) (h : ∀ p ∈ l, p.2 ≤ 4) : 0 ≤ sum1 l ∧ sum1 l ≤ 4 * l.length := by
  induction l with
  | nil => simp [sum1]
  | cons p l ih =>
    have h1 := h p (by simp)
    have := ih fun q hq => h q (by simp [hq])
    unfold sum1 at this ⊢; rw [List.map_cons, List.sum_cons, List.length_cons]; omega
theorem wrap64_small {n : Int} (h0 : 0 ≤ n) (h1 : n < 9223372036854775808) : wrap64 n = n := by unfold wrap64; omega

theorem count_takes (W : World) (a : Nat) (l : List (Nat × Nat)) (ha : W.heap.size ≤ a) (hl : l.length < 1000000000) (hr : ∀ p ∈ l, p.2 ≤ 4) :
    Takes W 109 #[.pointer (some ⟨a, 0, none⟩)] l fun done w => counted w a (sum1 done) (sum2 done) (done.length : Int) (sum4 done) where
  enters := enters_of Tryz.func109 (by kernel_rfl) rfl
  stays := fun _ _ _ h hb => counted_below h hb
  step := fun done p rest e w hI hw => by
    have hlen := congrArg List.length e
    rw [List.length_append] at hlen
    have h1 := sum1_le done fun q hq => hr q (by rw [e]; simp [hq])
    have h2 := sum2_le done
    have h4 := sum4_le done
    have hp := hr p (by rw [e]; simp)
    have hp2 := cH_le p.1
    have hp4 := cL_le p.1
    refine (count1_any p.1 p.2 a w _ _ _ _ hI).mono ?_
    rintro e w' ⟨rfl, k1, k2⟩
    refine ⟨rfl, ?_, hw.trans (k2.mono ha)⟩
    rw [wrap64_small (by omega) (by omega), wrap64_small (by omega) (by omega), wrap64_small (by omega) (by omega), wrap64_small (by omega) (by omega)] at k1
    have e1 : sum1 (done ++ [p]) = sum1 done + p.2 := by simp [sum1]
    have e2 : sum2 (done ++ [p]) = sum2 done + cH p.1 := by simp [sum2]
    have e3 : (((done ++ [p]).length : Nat) : Int) = done.length + 1 := by simp
    have e4 : sum4 (done ++ [p]) = sum4 done + cL p.1 := by simp [sum4]
    rw [e1, e2, e3, e4]
    exact k1
end Go.Proofs.YtldhbjmillfjgabGreatDoor

namespace Go.Proofs.YtldhbjmillfjgabGreatDoor
open Go.RowKit

/-- A slice of new memory that owns the cells xs; or nil, if there are none. -/
def isRow (w w' : World) (e : Nat) (v : Value) (xs : List Value) : Prop := ∃ p c, v = .slice p xs.length c ∧ w'.ownsRow w.heap.size e 1 v xs.length xs

theorem own_mono {w : World} {B B' e size n : Nat} {v : Value} {xs : List Value} (h : w.ownsRow B e size v n xs) (hB : B' ≤ B) : w.ownsRow B' e size v n xs := by
  refine ⟨h.1, ?_⟩
  rcases h.2 with hn | ⟨g, cap, cur, rfl, hg, rest⟩
  · exact .inl hn
  · exact .inr ⟨g, cap, cur, rfl, Nat.le_trans hB hg, rest⟩

set_option maxHeartbeats 1000000 in
theorem Runes_any (s : ByteArray) (hs : s.size < 400000000) (w : World) (hT : Lib.Utf8Tabs 2 3 w) :
    Calls Tryz.prog 79 #[.string s] w fun e w' => ∃ v x, e = .returned (.tuple #[v, x]) ∧ Below w.heap.size w w' ∧
      (((scan s.data.toList).2 = true ∧ x = .nilIface ∧ isRow w w' 21 v (cellsOf21 (scan s.data.toList).1)) ∨
       ((scan s.data.toList).2 = false ∧ v = .slice none 0 0 ∧ isAt w w' x (place s.data.toList))) := by
  have hlen := scan_len s.data.toList
  rw [← Lib.size_eq] at hlen
  have hb0 : Below w.heap.size w (w.alloc (.cells #[.slice none 0 0] 111)) := (Below.refl _ _).alloc (Nat.le_refl _) _
  have cE := each_all s (by unfold maxLen; omega) 132 #[.pointer (some ⟨w.heap.size, 0, none⟩)] w hT _ (runes_takes w w.heap.size (scan s.data.toList).1 (Nat.le_refl _) (by omega)) _ hb0 (gathers_made w 21 111)
  clear hlen hs hb0
  generalize place s.data.toList = pl at cE ⊢
  generalize scan s.data.toList = sc at cE ⊢
  obtain ⟨rs, ok⟩ := sc
  simp only [] at cE ⊢
  generalize cellsOf21 rs = xs at cE ⊢
  go_enter Tryz.func79, Tryz.ntmps79
  go_wp2_with (first | (go_at_call 108; refine cE.mono ?_; rintro e w1 ⟨hb1, ⟨p, c, g1, g2, g3⟩, ⟨rfl, rfl⟩ | ⟨rfl, v, rfl, ⟨b, rfl, v1, v2, v3, v4⟩⟩⟩) | fail)
  · go_ret2
    have hr : isRow w w1 21 (.slice p xs.length c) xs := ⟨_, _, rfl, own_mono g3 (Nat.le_succ _)⟩
    refine ⟨_, _, rfl, hb1, ?_⟩
    first | exact ⟨rfl, hr⟩ | exact .inl ⟨rfl, rfl, hr⟩
  · go_ret2
    have hv : isAt w w1 (.iface 233 (.pointer (some ⟨b, 0, none⟩))) pl := ⟨b, rfl, v1, v2, v3, v4⟩
    refine ⟨_, _, rfl, hb1, ?_⟩
    first | exact ⟨rfl, hv⟩ | exact .inr ⟨rfl, rfl, hv⟩

set_option maxHeartbeats 1000000 in
theorem Halves_any (s : ByteArray) (hs : s.size < 400000000) (w : World) (hT : Lib.Utf8Tabs 2 3 w) :
    Calls Tryz.prog 75 #[.string s] w fun e w' => ∃ v x, e = .returned (.tuple #[v, x]) ∧ Below w.heap.size w w' ∧
      (((scan s.data.toList).2 = true ∧ x = .nilIface ∧ isRow w w' 139 v (cellsOf59 (scan s.data.toList).1)) ∨
       ((scan s.data.toList).2 = false ∧ v = .slice none 0 0 ∧ isAt w w' x (place s.data.toList))) := by
  have hlen := scan_len s.data.toList
  rw [← Lib.size_eq] at hlen
  have hb0 : Below w.heap.size w (w.alloc (.cells #[.slice none 0 0] 114)) := (Below.refl _ _).alloc (Nat.le_refl _) _
  have cE := each_all s (by unfold maxLen; omega) 129 #[.pointer (some ⟨w.heap.size, 0, none⟩)] w hT _ (halves_takes w w.heap.size (scan s.data.toList).1 (Nat.le_refl _) (by omega) fun p hp => ((scan_spec s.data.toList.length _ (Nat.le_refl _)).1 p hp).1) _ hb0 (gathers_made w 139 114)
  clear hlen hs hb0
  generalize place s.data.toList = pl at cE ⊢
  generalize scan s.data.toList = sc at cE ⊢
  obtain ⟨rs, ok⟩ := sc
  simp only [] at cE ⊢
  generalize cellsOf59 rs = xs at cE ⊢
  go_enter Tryz.func75, Tryz.ntmps75
  go_wp2_with (first | (go_at_call 108; refine cE.mono ?_; rintro e w1 ⟨hb1, ⟨p, c, g1, g2, g3⟩, ⟨rfl, rfl⟩ | ⟨rfl, v, rfl, ⟨b, rfl, v1, v2, v3, v4⟩⟩⟩) | fail)
  · go_ret2
    have hr : isRow w w1 139 (.slice p xs.length c) xs := ⟨_, _, rfl, own_mono g3 (Nat.le_succ _)⟩
    refine ⟨_, _, rfl, hb1, ?_⟩
    first | exact ⟨rfl, hr⟩ | exact .inl ⟨rfl, rfl, hr⟩
  · go_ret2
    have hv : isAt w w1 (.iface 233 (.pointer (some ⟨b, 0, none⟩))) pl := ⟨b, rfl, v1, v2, v3, v4⟩
    refine ⟨_, _, rfl, hb1, ?_⟩
    first | exact ⟨rfl, hv⟩ | exact .inr ⟨rfl, rfl, hv⟩

theorem counted_new1 (w : World) : counted ((w.alloc (.cells #[.int .i64 0, .int .i64 0, .int .i64 0, .int .i64 0] 25)).alloc (.cells #[.int .i64 0, .int .i64 0, .int .i64 0, .int .i64 0] 25)) w.heap.size 0 0 0 0 := by
  refine ⟨⟨?_, ?_, ?_, ?_⟩, ?_, ?_, ?_, ?_⟩ <;> simp [go_sem]
theorem counted_new2 (w : World) : counted ((w.alloc (.cells #[.int .i64 0, .int .i64 0, .int .i64 0, .int .i64 0] 25)).alloc (.cells #[.int .i64 0, .int .i64 0, .int .i64 0, .int .i64 0] 25)) (w.heap.size + 1) (sum1 []) (sum2 []) (([] : List (Nat × Nat)).length : Int) (sum4 []) := by
  refine ⟨⟨?_, ?_, ?_, ?_⟩, ?_, ?_, ?_, ?_⟩ <;> simp [go_sem, sum1, sum2, sum4]

theorem count_takes2 (w : World) (l : List (Nat × Nat)) (hl : l.length < 1000000000) (hr : ∀ p ∈ l, p.2 ≤ 4) :
    Takes w 109 #[.pointer (some ⟨w.heap.size + 1, 0, none⟩)] l fun done w' => counted w' (w.heap.size + 1) (sum1 done) (sum2 done) (done.length : Int) (sum4 done) ∧ counted w' w.heap.size 0 0 0 0 := by
  have T := count_takes w (w.heap.size + 1) l (Nat.le_succ _) hl hr
  refine ⟨T.enters, fun done w1 w2 h hb => ⟨T.stays done w1 w2 h.1 hb, counted_below h.2 hb⟩, fun done p rest e w1 hI hw => ?_⟩
  have h1 := sum1_le done fun q hq => hr q (by rw [e]; simp [hq])
  have hlen := congrArg List.length e
  rw [List.length_append] at hlen
  have h2 := sum2_le done
  have h4 := sum4_le done
  have hp := hr p (by rw [e]; simp)
  have hp2 := cH_le p.1
  have hp4 := cL_le p.1
  refine (count1_any p.1 p.2 (w.heap.size + 1) w1 _ _ _ _ hI.1).mono ?_
  rintro e w2 ⟨rfl, k1, k2⟩
  refine ⟨rfl, ⟨?_, counted_old hI.2 k2 (Nat.lt_succ_self _)⟩, hw.trans (k2.mono (Nat.le_succ _))⟩
  rw [wrap64_small (by omega) (by omega), wrap64_small (by omega) (by omega), wrap64_small (by omega) (by omega), wrap64_small (by omega) (by omega)] at k1
  have e1 : sum1 (done ++ [p]) = sum1 done + p.2 := by simp [sum1]
  have e2 : sum2 (done ++ [p]) = sum2 done + cH p.1 := by simp [sum2]
  have e3 : (((done ++ [p]).length : Nat) : Int) = done.length + 1 := by simp
  have e4 : sum4 (done ++ [p]) = sum4 done + cL p.1 := by simp [sum4]
  rw [e1, e2, e3, e4]
  exact k1

/-- Four counts, as a value. -/
def cnt (n1 n2 n3 n4 : Int) : Value := .agg #[.int .i64 n1, .int .i64 n2, .int .i64 n3, .int .i64 n4]

set_option maxHeartbeats 1000000 in
theorem Count_any (s : ByteArray) (hs : s.size < 400000000) (w : World) (hT : Lib.Utf8Tabs 2 3 w) :
    Calls Tryz.prog 59 #[.string s] w fun e w' => ∃ v x, e = .returned (.tuple #[v, x]) ∧ Below w.heap.size w w' ∧
      (((scan s.data.toList).2 = true ∧ x = .nilIface ∧ v = cnt (sum1 (scan s.data.toList).1) (sum2 (scan s.data.toList).1) (scan s.data.toList).1.length (sum4 (scan s.data.toList).1)) ∨
       ((scan s.data.toList).2 = false ∧ v = cnt 0 0 0 0 ∧ isAt w w' x (place s.data.toList))) := by
  have hlen := scan_len s.data.toList
  rw [← Lib.size_eq] at hlen
  have hb0 : Below w.heap.size w ((w.alloc (.cells #[.int .i64 0, .int .i64 0, .int .i64 0, .int .i64 0] 25)).alloc (.cells #[.int .i64 0, .int .i64 0, .int .i64 0, .int .i64 0] 25)) := ((Below.refl _ _).alloc (Nat.le_refl _) _).alloc (by rw [World.size_alloc]; omega) _
  have cE := each_all s (by unfold maxLen; omega) 109 #[.pointer (some ⟨w.heap.size + 1, 0, none⟩)] w hT
    (fun done w' => counted w' (w.heap.size + 1) (sum1 done) (sum2 done) (done.length : Int) (sum4 done) ∧ counted w' w.heap.size 0 0 0 0)
    (count_takes2 w (scan s.data.toList).1 (by omega) (scan_w4 _)) _ hb0 ⟨counted_new2 w, counted_new1 w⟩
  clear hlen hs hb0
  generalize place s.data.toList = pl at cE ⊢
  generalize scan s.data.toList = sc at cE ⊢
  obtain ⟨rs, ok⟩ := sc
  simp only [] at cE ⊢
  generalize sum1 rs = n1 at cE ⊢
  generalize sum2 rs = n2 at cE ⊢
  generalize sum4 rs = n4 at cE ⊢
  generalize (rs.length : Int) = n3 at cE ⊢
  go_enter Tryz.func59, Tryz.ntmps59
  go_wp2_with (first | (go_at_call 108; refine cE.mono ?_; rintro e w1 ⟨hb1, ⟨⟨⟨a0, a1, a2, a3⟩, b0, b1, b2, b3⟩, ⟨c0, c1, c2, c3⟩, d0, d1, d2, d3⟩, ⟨rfl, rfl⟩ | ⟨rfl, v, rfl, ⟨b, rfl, v1, v2, v3, v4⟩⟩⟩) | fail)
  · refine bodyPost_ret (v := .tuple #[cnt n1 n2 n3 n4, .nilIface]) (by simp [results, Tryz.results59, go_sem, cnt, c0, c1, c2, c3]) rfl ?_
    refine ⟨_, _, rfl, ?_, ?_⟩
    · exact below_set hb1 (Nat.le_refl _) _ _ _ _
    · first | exact ⟨rfl, rfl⟩ | exact .inl ⟨rfl, rfl, rfl⟩
  · have hne : b ≠ w.heap.size := by
      intro e
      subst e
      rw [c0] at v3
      cases v3
    refine bodyPost_ret (v := .tuple #[cnt 0 0 0 0, .iface 233 (.pointer (some ⟨b, 0, none⟩))]) (by simp [results, Tryz.results59, go_sem, cnt, c0, c1, c2, c3]) rfl ?_
    refine ⟨_, _, rfl, ?_, ?_⟩
    · exact below_set hb1 (Nat.le_refl _) _ _ _ _
    · have hv : isAt w ((((w1.setCell ⟨w.heap.size, 0, none⟩ (.int .i64 0)).setCell ⟨w.heap.size, 1, none⟩ (.int .i64 0)).setCell ⟨w.heap.size, 2, none⟩ (.int .i64 0)).setCell ⟨w.heap.size, 3, none⟩ (.int .i64 0)) (.iface 233 (.pointer (some ⟨b, 0, none⟩))) pl :=
        ⟨b, rfl, v1, by simpa using v2, by simp [go_sem, v3], by simp [go_sem, v4]⟩
      first | exact ⟨rfl, hv⟩ | exact .inr ⟨rfl, rfl, hv⟩
end Go.Proofs.YtldhbjmillfjgabGreatDoor

namespace Go.Proofs.YtldhbjmillfjgabGreatDoor
open Go.RowKit

/-- The slice v reads as the numbers zs. -/
def reads (w : World) (k : IntKind) (v : Value) (zs : List Int) : Prop :=
  ∃ p c, v = .slice p zs.length c ∧ zs.length ≤ c ∧ c ≤ maxLen ∧ (zs ≠ [] → ∃ b o, p = some ⟨b, o, none⟩ ∧ b < w.heap.size ∧ ∀ i, i < zs.length → w.cell? ⟨b, o + i, none⟩ = some (.int k (zs.getD i 0)))
/-- 'string(b)' of bytes that the call owns. -/
theorem string_own {w : World} {B n : Nat} {v : Value} {l : List UInt8} (hn : n = l.length) (h : w.ownsRow B 5 1 v n (Lib.byteCells l)) : (convert 130 9 v).run Tryz.prog w = .ok (.string ⟨l.toArray⟩) w := by
  subst hn
  obtain ⟨h0, hrow⟩ := h
  rcases hrow with ⟨rfl, h2⟩ | ⟨g, cap, cur, rfl, h2, h3, h4, h5, h6, h7⟩
  · obtain rfl : l = [] := List.eq_nil_of_length_eq_zero h2
    kernel_rfl
  · refine run_convert_bytes_back w 130 9 5 ⟨g, 0, none⟩ cap l Tryz.underlying130 Tryz.underlying5 Tryz.underlying9 fun j hj => ?_
    rw [Nat.mul_one] at h7
    have hc : cur[j]? = some (.int .u8 (l[j].toNat : Int)) := by
      rw [← Array.getElem?_toList]
      have := congrArg (·[j]?) h7
      simp only [List.getElem?_take, hj, if_true, Lib.byteCells, List.getElem?_map] at this
      rw [this, List.getElem?_eq_getElem hj]
      rfl
    have ea : (⟨g, 0, none⟩ : Addr).add j = ⟨g, j, none⟩ := by simp [Addr.add] <;> omega
    rw [ea]
    unfold World.cell?
    simp [h3, hc]

/-- The bytes of numbers. -/
def encZ (zs : List Int) : List UInt8 := zs.flatMap Lib.encodeRune
theorem encZ_snoc (zs : List Int) (z : Int) : encZ (zs ++ [z]) = encZ zs ++ Lib.encodeRune z := by simp [encZ]
theorem encZ_len (zs : List Int) : (encZ zs).length ≤ 4 * zs.length := by
  induction zs with
  | nil => simp [encZ]
  | cons z zs ih =>
    have := Lib.runeCells_le z
    rw [Lib.runeCells_length] at this
    unfold encZ at ih ⊢
    rw [List.flatMap_cons, List.length_append, List.length_cons]
    omega

/-- Behind a rune's bytes. -/
theorem bytes_next {w w1 wr : World} {v v' : Value} {o : Obj} {zs : List Int} {z : Int} {B : Nat} (hB : B = w.heap.size) (hw : Below B w wr) (hown : wr.ownsRow B 5 1 v (encZ zs).length (Lib.byteCells (encZ zs)))
    (h1 : w1.ownsRow B 5 1 v' ((encZ zs).length + (Lib.runeCells z).length) (Lib.byteCells (encZ zs) ++ Lib.runeCells z)) (hg : (wr.alloc o).grownBy w1 v.ownBlock) :
    w1.ownsRow B 5 1 v' (encZ (zs ++ [z])).length (Lib.byteCells (encZ (zs ++ [z]))) ∧ Below B w w1 := by
  subst hB
  rw [encZ_snoc, List.length_append, Lib.byteCells_append, Lib.byteCells_encodeRune, ← Lib.runeCells_length]
  exact ⟨h1, (hw.alloc hw.size o).grown hg (by rw [World.size_alloc]; have := hw.size; omega) fun k hk => (hown.lt k hk).1⟩

theorem take_succ (zs : List Int) (k : Nat) (h : k < zs.length) : zs.take (k + 1) = zs.take k ++ [zs.getD k 0] := by
  rw [List.take_succ_eq_append_getElem h, List.getD_eq_getElem?_getD, List.getElem?_eq_getElem h]
  rfl

set_option maxHeartbeats 1000000 in
theorem Text_any (v : Value) (zs : List Int) (w : World) (hz : ∀ z ∈ zs, -2147483648 ≤ z ∧ z ≤ 2147483647) (hr : reads w .i32 v zs) (hl : zs.length < 100000000) :
    Calls Tryz.prog 77 #[v] w fun e w' => ∃ s x, e = .returned (.tuple #[.string s, x]) ∧ Below w.heap.size w w' ∧
      (((∀ z ∈ zs, Lib.validRune z = true) ∧ x = .nilIface ∧ s = ⟨(encZ zs).toArray⟩) ∨
       (∃ k : Nat, k < zs.length ∧ (∀ z ∈ zs.take k, Lib.validRune z = true) ∧ Lib.validRune (zs.getD k 0) = false ∧ s = ⟨#[]⟩ ∧ isAt w w' x k)) := by
  obtain ⟨p, c, rfl, r1, r2, r3⟩ := hr
  obtain ⟨n, hn⟩ : ∃ n, n = zs.length := ⟨_, rfl⟩
  rw [← hn] at r1 r3 hl ⊢
  have HN : Hid (n = zs.length) := hn
  clear hn
  have R3 : Hid (zs ≠ [] → ∃ b o, p = some ⟨b, o, none⟩ ∧ b < w.heap.size ∧ ∀ i, i < n → w.cell? ⟨b, o + i, none⟩ = some (.int .i32 (zs.getD i 0))) := r3
  have HZ : Hid (∀ z ∈ zs, -2147483648 ≤ z ∧ z ≤ 2147483647) := hz
  clear r3 hz
  go_enter Tryz.func77, Tryz.ntmps77
  go_wp2
  go_loopw [4, 9] (fun b i wr => ∃ k : Nat, k ≤ n ∧ i = .int .i64 k ∧ (∀ z ∈ zs.take k, Lib.validRune z = true) ∧ wr.ownsRow w.heap.size 5 1 b (encZ (zs.take k)).length (Lib.byteCells (encZ (zs.take k))) ∧ Below w.heap.size w wr) (fun _ i _ => n - (intOf i).toNat)
  case atStart => exact ⟨0, Nat.zero_le _, rfl, by simp, World.ownsRow_nil _ _ _ _, Below.refl _ _⟩
  case round =>
    obtain ⟨k, hk, rfl, hval, hown, hwr⟩ := hrel
    by_cases hlt : k < n
    · have hne : zs ≠ [] := by intro e; rw [HN.out, e] at hlt; exact absurd hlt (Nat.not_lt_zero _)
      obtain ⟨b, o, rfl, hbw, hcell⟩ := R3.out hne
      have hc := (hwr.cell (p := ⟨b, o + k, none⟩) hbw).trans (hcell k hlt)
      obtain ⟨z, hz⟩ : ∃ z, z = zs.getD k 0 := ⟨_, rfl⟩
      rw [← hz] at hc
      have hzr := HZ.out z (by rw [hz, List.getD_eq_getElem?_getD, List.getElem?_eq_getElem (by rw [← HN.out]; exact hlt)]; exact List.getElem_mem _)
      have hzk : Hid (z = zs.getD k 0) := hz
      have hts : Hid (zs.take (k + 1) = zs.take k ++ [z]) := by rw [hz]; exact take_succ zs k (by rw [← HN.out]; exact hlt)
      clear hz hcell hne
      have cV := Tryz.utf8_ValidRune z wr
      have hlen := encZ_len (zs.take k)
      rw [List.length_take] at hlen
      have hlen4 : (encZ (zs.take k)).length + 4 ≤ 140737488355328 := by omega
      have cA := Tryz.utf8_AppendRune_plain w.heap.size _ _ _ z hzr.1 hzr.2 wr hown hlen4 hwr.size
      clear hlen hlen4
      by_cases hv : Lib.validRune z = true
      · rw [hv] at cV
        have hval' : Hid (∀ y ∈ zs.take (k + 1), Lib.validRune y = true) := by
          show ∀ y ∈ zs.take (k + 1), Lib.validRune y = true
          rw [hts.out]
          intro y hy
          rcases List.mem_append.1 hy with hy | hy
          · exact hval y hy
          · rw [List.mem_singleton.1 hy]; exact hv
        have NX : Hid (∀ w1 v' o, w1.ownsRow w.heap.size 5 1 v' ((encZ (zs.take k)).length + (Lib.runeCells z).length) (Lib.byteCells (encZ (zs.take k)) ++ Lib.runeCells z) → (wr.alloc o).grownBy w1 u4.ownBlock →
            w1.ownsRow w.heap.size 5 1 v' (encZ (zs.take (k + 1))).length (Lib.byteCells (encZ (zs.take (k + 1)))) ∧ Below w.heap.size w w1) := by
          intro w1 v' o h1 hg
          rw [hts.out]
          exact bytes_next rfl hwr hown h1 hg
        clear hval hown hv hzk hts hzr R3 HZ
        go_wp2_with (first | (go_at_call 126; refine cV.mono ?_; rintro e wx ⟨rfl, rfl⟩) | (go_at_call 128; refine cA.mono ?_; rintro e w1 ⟨v', rfl, h1, o', hg⟩; have hnx := NX.out w1 v' o' h1 hg; clear h1 hg) | fail)
        go_roundw
        case rel => exact ⟨k + 1, by omega, by go_num, hval'.out, hnx.1, hnx.2⟩
        case measure => simp [intOf]; omega
      · have hv : Lib.validRune z = false := Bool.eq_false_iff.2 hv
        rw [hv] at cV
        have hfin : Hid (∀ y ∈ zs.take k, Lib.validRune y = true) := hval
        have hbad : Hid (Lib.validRune (zs.getD k 0) = false) := by rw [← hzk.out]; exact hv
        clear hval hown hv hzk hts hzr R3 HZ cA
        go_wp2_with (first | (go_at_call 126; refine cV.mono ?_; rintro e wx ⟨rfl, rfl⟩) | (go_at_call 127; refine (wrong_any _ _).mono ?_; rintro e w1 ⟨⟨x, rfl, hx⟩, hb1⟩) | fail)
        go_ret2
        refine ⟨_, _, rfl, hwr.trans (hb1.mono hwr.size), .inr ⟨k, hlt, hfin.out, hbad.out, rfl, isAt_from hx hwr.size⟩⟩
    · have e : zs.take k = zs := List.take_of_length_le (by rw [← HN.out]; omega)
      rw [e] at hval hown
      have hval' : Hid (∀ y ∈ zs, Lib.validRune y = true) := hval
      have hs := string_own rfl hown
      clear hval hown e R3 HZ
      go_wp2
      go_ret2
      refine ⟨_, _, rfl, hwr, .inl ⟨hval'.out, rfl, rfl⟩⟩
end Go.Proofs.YtldhbjmillfjgabGreatDoor

namespace Go.Proofs.YtldhbjmillfjgabGreatDoor
open Go.RowKit
set_option linter.unusedVariables false

theorem or1024 (x y : Int) (h0 : 0 ≤ x) (h1 : x < 1024) (h2 : 0 ≤ y) (h3 : y < 1024) : bits BinOp.or IntKind.i32 (x * 1024) y = x * 1024 + y := by
  obtain ⟨a, rfl⟩ : ∃ a : Nat, x = a := ⟨x.toNat, by omega⟩
  obtain ⟨b, rfl⟩ : ∃ b : Nat, y = b := ⟨y.toNat, by omega⟩
  have e : (a : Int) * 1024 = ((a * 1024 : Nat) : Int) := by omega
  rw [e]
  show IntKind.i32.wrap ((BitVec.ofInt 32 ((a * 1024 : Nat) : Int) ||| BitVec.ofInt 32 (b : Int)).toNat : Int) = _
  have hm : a * 1024 ||| b = a * 1024 + b := by
    have := Nat.shiftLeft_add_eq_or_of_lt (i := 10) (b := b) (by omega) a
    rw [Nat.shiftLeft_eq] at this
    exact this.symm
  rw [BitVec.toNat_or, ofInt_u32 _ (by omega), ofInt_u32 _ (by omega), hm]
  exact (Lib.wrap_i32_small _ (by omega)).trans (by omega)

def firstB (h : Int) : Bool := decide (55296 ≤ h ∧ h < 56320)
def secondB (h : Int) : Bool := decide (56320 ≤ h ∧ h < 57344)

/-- The rune that halves begin with, and how many of them it has. -/
def leadZ : List Int → Int × Nat
  | [] => (0, 1)
  | [a] => (a, 1)
  | a :: b :: _ => if firstB a && secondB b then (65536 + ((a - 55296) * 1024 + (b - 56320)), 2) else (a, 1)

theorem leadZ_ge1 (zs : List Int) : 1 ≤ (leadZ zs).2 := by
  unfold leadZ
  split
  · simp
  · simp
  · split <;> simp
theorem leadZ_le {zs : List Int} (h : zs ≠ []) : (leadZ zs).2 ≤ zs.length := by
  unfold leadZ
  split
  · exact absurd rfl h
  · simp
  · split <;> simp

theorem leadZ_bd {zs : List Int} (h : ∀ z ∈ zs, 0 ≤ z ∧ z < 65536) : 0 ≤ (leadZ zs).1 ∧ (leadZ zs).1 ≤ 1114111 := by
  unfold leadZ
  split
  · simp
  · rename_i a
    have := h a (by simp)
    simp only []
    omega
  · rename_i a b t
    have h1 := h a (by simp)
    have h2 := h b (by simp)
    split
    · rename_i hc
      rw [Bool.and_eq_true] at hc
      have h3 := of_decide_eq_true hc.1
      have h4 := of_decide_eq_true hc.2
      simp only []
      omega
    · simp only []
      omega

/-- The runes of halves, each with how many it has, up to the first half that stands alone; and whether that is the end: n: as many at most. -/
def scanHF : Nat → List Int → List (Int × Nat) × Bool
  | 0, _ => ([], true)
  | n + 1, zs => if zs = [] then ([], true) else if Lib.validRune (leadZ zs).1 then (leadZ zs :: (scanHF n (zs.drop (leadZ zs).2)).1, (scanHF n (zs.drop (leadZ zs).2)).2) else ([], false)
theorem scanHF_any : ∀ (n m : Nat) (l : List Int), l.length ≤ n → l.length ≤ m → scanHF n l = scanHF m l
  | 0, m, l, hn, _ => by
    obtain rfl : l = [] := List.eq_nil_of_length_eq_zero (by omega)
    cases m <;> simp [scanHF]
  | n + 1, 0, l, _, hm => by
    obtain rfl : l = [] := List.eq_nil_of_length_eq_zero (by omega)
    simp [scanHF]
  | n + 1, m + 1, l, hn, hm => by
    unfold scanHF
    by_cases h : l = []
    · simp [h]
    · have h1 := leadZ_ge1 l
      have h2 : l.length ≠ 0 := by simpa using h
      rw [scanHF_any n m (l.drop (leadZ l).2) (by rw [List.length_drop]; omega) (by rw [List.length_drop]; omega)]
/-- All of them. -/
def scanH (zs : List Int) : List (Int × Nat) × Bool := scanHF zs.length zs
theorem scanH_step (l : List Int) (h : l ≠ []) : scanH l = if Lib.validRune (leadZ l).1 then (leadZ l :: (scanH (l.drop (leadZ l).2)).1, (scanH (l.drop (leadZ l).2)).2) else ([], false) := by
  have h1 := leadZ_ge1 l
  have h2 : l.length ≠ 0 := by simpa using h
  unfold scanH
  rw [scanHF_any l.length ((l.length - 1) + 1) l (Nat.le_refl _) (by omega), scanHF, if_neg h, scanHF_any (l.length - 1) (l.drop (leadZ l).2).length _ (by rw [List.length_drop]; omega) (Nat.le_refl _)]

theorem scanH_nil : scanH [] = ([], true) := rfl
theorem scanH_bad {zs : List Int} (h : zs ≠ []) (hb : Lib.validRune (leadZ zs).1 = false) : scanH zs = ([], false) := by rw [scanH_step zs h, hb]; rfl
theorem scanH_good {zs : List Int} (h : zs ≠ []) (hb : Lib.validRune (leadZ zs).1 = true) : scanH zs = (leadZ zs :: (scanH (zs.drop (leadZ zs).2)).1, (scanH (zs.drop (leadZ zs).2)).2) := by
  rw [scanH_step zs h, hb]; rfl
def placeH (zs : List Int) : Nat := ((scanH zs).1.map (·.2)).sum

set_option maxHeartbeats 400000 in
theorem isFirst_any (h : Int) (w : World) : Calls Tryz.prog 167 #[.int .u16 h] w fun e w' => e = .returned (.bool (firstB h)) ∧ w' = w := by
  by_cases h1 : 55296 ≤ h
  · by_cases h2 : h < 56320
    · have e : firstB h = true := decide_eq_true ⟨h1, h2⟩
      rw [e]; clear e
      go_enter Tryz.func167, Tryz.ntmps167
      go_wp2
      go_ret
      exact ⟨rfl, rfl⟩
    · have e : firstB h = false := decide_eq_false fun c => h2 c.2
      rw [e]; clear e
      go_enter Tryz.func167, Tryz.ntmps167
      go_wp2
      go_ret
      exact ⟨rfl, rfl⟩
  · have e : firstB h = false := decide_eq_false fun c => h1 c.1
    rw [e]; clear e
    go_enter Tryz.func167, Tryz.ntmps167
    go_wp2
    go_ret
    exact ⟨rfl, rfl⟩
set_option maxHeartbeats 400000 in
theorem isSecond_any (h : Int) (w : World) : Calls Tryz.prog 168 #[.int .u16 h] w fun e w' => e = .returned (.bool (secondB h)) ∧ w' = w := by
  by_cases h1 : 56320 ≤ h
  · by_cases h2 : h < 57344
    · have e : secondB h = true := decide_eq_true ⟨h1, h2⟩
      rw [e]; clear e
      go_enter Tryz.func168, Tryz.ntmps168
      go_wp2
      go_ret
      exact ⟨rfl, rfl⟩
    · have e : secondB h = false := decide_eq_false fun c => h2 c.2
      rw [e]; clear e
      go_enter Tryz.func168, Tryz.ntmps168
      go_wp2
      go_ret
      exact ⟨rfl, rfl⟩
  · have e : secondB h = false := decide_eq_false fun c => h1 c.1
    rw [e]; clear e
    go_enter Tryz.func168, Tryz.ntmps168
    go_wp2
    go_ret
    exact ⟨rfl, rfl⟩

set_option maxHeartbeats 1000000 in
theorem lead_one (b o c : Nat) (h : Int) (w : World) (hc : w.cell? ⟨b, o, none⟩ = some (.int .u16 h)) (h0 : 0 ≤ h) (h1 : h < 65536) :
    Calls Tryz.prog 125 #[.slice (some ⟨b, o, none⟩) 1 c] w fun e w' => e = .returned (.tuple #[.int .i32 h, .int .i64 1]) ∧ Below w.heap.size w w' := by
  go_enter Tryz.func125, Tryz.ntmps125
  go_wp2
  go_ret2
  exact ⟨rfl, Below.refl _ _⟩

set_option maxHeartbeats 1000000 in
theorem lead_two (b o n c : Nat) (h g : Int) (w : World) (hn : 2 ≤ n) (hcap : n ≤ c) (hm : c ≤ maxLen) (hc : w.cell? ⟨b, o, none⟩ = some (.int .u16 h)) (hd : w.cell? ⟨b, o + 1, none⟩ = some (.int .u16 g)) (h0 : 0 ≤ h) (h1 : h < 65536) (g0 : 0 ≤ g) (g1 : g < 65536) :
    Calls Tryz.prog 125 #[.slice (some ⟨b, o, none⟩) n c] w fun e w' => e = .returned (.tuple #[.int .i32 (leadZ [h, g]).1, .int .i64 (leadZ [h, g]).2]) ∧ Below w.heap.size w w' := by
  unfold maxLen at hm
  have hn1 : (1 : Int) < (n : Int) := by omega
  by_cases hf : firstB h = true
  · have cF := isFirst_any h
    rw [hf] at cF
    by_cases hs : secondB g = true
    · have cS := isSecond_any g
      rw [hs] at cS
      have e : leadZ [h, g] = (65536 + ((h - 55296) * 1024 + (g - 56320)), 2) := by simp [leadZ, hf, hs]
      rw [e]
      have hf' := of_decide_eq_true hf
      have hs' := of_decide_eq_true hs
      have ho := or1024 (h - 55296) (g - 56320) (by omega) (by omega) (by omega) (by omega)
      clear e hf hs
      obtain ⟨f1, f2⟩ := hf'
      obtain ⟨s1, s2⟩ := hs'
      go_enter Tryz.func125, Tryz.ntmps125
      go_wp2_with (first | (go_at_call 167; refine (cF _).mono ?_; rintro e wx ⟨rfl, rfl⟩) | (go_at_call 168; refine (cS _).mono ?_; rintro e wx ⟨rfl, rfl⟩) | fail)
      go_quiet (fail)
      go_wp2
      go_ret2
      exact ⟨rfl, below_drewN (Below.refl _ _) nq⟩
    · have hs : secondB g = false := Bool.eq_false_iff.2 hs
      have cS := isSecond_any g
      rw [hs] at cS
      have e : leadZ [h, g] = (h, 1) := by simp [leadZ, hs]
      rw [e]
      clear e hf hs
      go_enter Tryz.func125, Tryz.ntmps125
      go_wp2_with (first | (go_at_call 167; refine (cF _).mono ?_; rintro e wx ⟨rfl, rfl⟩) | (go_at_call 168; refine (cS _).mono ?_; rintro e wx ⟨rfl, rfl⟩) | fail)
      go_ret2
      exact ⟨rfl, Below.refl _ _⟩
  · have hf : firstB h = false := Bool.eq_false_iff.2 hf
    have cF := isFirst_any h
    rw [hf] at cF
    have e : leadZ [h, g] = (h, 1) := by simp [leadZ, hf]
    rw [e]
    clear e hf
    go_enter Tryz.func125, Tryz.ntmps125
    go_wp2_with (first | (go_at_call 167; refine (cF _).mono ?_; rintro e wx ⟨rfl, rfl⟩) | fail)
    go_ret2
    exact ⟨rfl, Below.refl _ _⟩

/-- utf.lead of whatever stands behind a place. -/
theorem lead_any (b o n c k : Nat) (zs : List Int) (w : World) (hn : n = zs.length) (hk : k < n) (hcap : n ≤ c) (hm : c ≤ maxLen) (hc : ∀ i, i < n → w.cell? ⟨b, o + i, none⟩ = some (.int .u16 (zs.getD i 0))) (hz : ∀ z ∈ zs, 0 ≤ z ∧ z < 65536) :
    Calls Tryz.prog 125 #[.slice (some ⟨b, o + k, none⟩) (n - k : Nat) (c - k)] w fun e w' => e = .returned (.tuple #[.int .i32 (leadZ (zs.drop k)).1, .int .i64 (leadZ (zs.drop k)).2]) ∧ Below w.heap.size w w' := by
  have hk' : k < zs.length := by omega
  have e1 : zs.drop k = zs[k] :: zs.drop (k + 1) := List.drop_eq_getElem_cons hk'
  have m1 := hz zs[k] (List.getElem_mem _)
  have c1 := hc k hk
  have d1 : zs.getD k 0 = zs[k] := by rw [List.getD_eq_getElem?_getD, List.getElem?_eq_getElem hk']; rfl
  rw [d1] at c1
  by_cases h1 : n - k = 1
  · have e2 : zs.drop (k + 1) = [] := List.drop_eq_nil_of_le (by omega)
    rw [e1, e2, h1]
    exact lead_one b (o + k) (c - k) _ w c1 m1.1 m1.2
  · have hk2 : k + 1 < zs.length := by omega
    have e2 : zs.drop (k + 1) = zs[k + 1] :: zs.drop (k + 1 + 1) := List.drop_eq_getElem_cons hk2
    have m2 := hz zs[k + 1] (List.getElem_mem _)
    have c2 := hc (k + 1) (by omega)
    have d2 : zs.getD (k + 1) 0 = zs[k + 1] := by rw [List.getD_eq_getElem?_getD, List.getElem?_eq_getElem hk2]; rfl
    rw [d2] at c2
    have e3 : leadZ (zs.drop k) = leadZ [zs[k], zs[k + 1]] := by rw [e1, e2]; rfl
    rw [e3]
    exact lead_two b (o + k) (n - k) (c - k) _ _ w (by omega) (by omega) (by omega) c1 c2 m1.1 m1.2 m2.1 m2.2

set_option maxHeartbeats 1000000 in
theorem FromHalves_any (v : Value) (zs : List Int) (w : World) (hz : ∀ z ∈ zs, 0 ≤ z ∧ z < 65536) (hr : reads w .u16 v zs) (hl : zs.length < 100000000) :
    Calls Tryz.prog 73 #[v] w fun e w' => ∃ s x, e = .returned (.tuple #[.string s, x]) ∧ Below w.heap.size w w' ∧
      (((scanH zs).2 = true ∧ x = .nilIface ∧ s = ⟨(encZ ((scanH zs).1.map (·.1))).toArray⟩) ∨
       ((scanH zs).2 = false ∧ s = ⟨#[]⟩ ∧ isAt w w' x (placeH zs))) := by
  obtain ⟨p, c, rfl, r1, r2, r3⟩ := hr
  obtain ⟨n, hn⟩ : ∃ n, n = zs.length := ⟨_, rfl⟩
  rw [← hn] at r1 r3 hl ⊢
  have HN : Hid (n = zs.length) := hn
  clear hn
  have R3 : Hid (zs ≠ [] → ∃ b o, p = some ⟨b, o, none⟩ ∧ b < w.heap.size ∧ ∀ i, i < n → w.cell? ⟨b, o + i, none⟩ = some (.int .u16 (zs.getD i 0))) := r3
  have HZ : Hid (∀ z ∈ zs, 0 ≤ z ∧ z < 65536) := hz
  clear r3 hz
  go_enter Tryz.func73, Tryz.ntmps73
  go_wp2
  go_loopw [4, 5] (fun b i wr => ∃ (k : Nat) (done : List (Int × Nat)), k ≤ n ∧ i = .int .i64 k ∧ (scanH zs).1 = done ++ (scanH (zs.drop k)).1 ∧ (done.map (·.2)).sum = k ∧ (scanH zs).2 = (scanH (zs.drop k)).2 ∧ done.length ≤ k ∧
      wr.ownsRow w.heap.size 5 1 b (encZ (done.map (·.1))).length (Lib.byteCells (encZ (done.map (·.1)))) ∧ Below w.heap.size w wr) (fun _ i _ => n - (intOf i).toNat)
  case atStart => exact ⟨0, [], Nat.zero_le _, rfl, by rw [List.drop_zero]; rfl, rfl, by rw [List.drop_zero], Nat.le_refl _, World.ownsRow_nil _ _ _ _, Below.refl _ _⟩
  case round =>
    obtain ⟨k, done, hk, rfl, hd1, hd2, hd3, hdl, hown, hwr⟩ := hrel
    by_cases hlt : k < n
    · have hne : zs ≠ [] := by intro e; rw [HN.out, e] at hlt; exact absurd hlt (Nat.not_lt_zero _)
      have hne2 : zs.drop k ≠ [] := by
        intro e
        have := congrArg List.length e
        rw [List.length_drop, List.length_nil, ← HN.out] at this
        omega
      obtain ⟨b, o, rfl, hbw, hcell⟩ := R3.out hne
      have cL := lead_any b o n c k zs wr HN.out hlt r1 r2 (fun i hi => (hwr.cell (p := ⟨b, o + i, none⟩) hbw).trans (hcell i hi)) HZ.out
      have hge := leadZ_ge1 (zs.drop k)
      have hle := leadZ_le hne2
      rw [List.length_drop, ← HN.out] at hle
      have hzb : -2147483648 ≤ (leadZ (zs.drop k)).1 ∧ (leadZ (zs.drop k)).1 ≤ 2147483647 := by
        have := leadZ_bd (zs := zs.drop k) fun z hz => HZ.out z (List.mem_of_mem_drop hz)
        omega
      obtain ⟨z, hzz⟩ : ∃ z, z = (leadZ (zs.drop k)).1 := ⟨_, rfl⟩
      obtain ⟨m, hmm⟩ : ∃ m, m = (leadZ (zs.drop k)).2 := ⟨_, rfl⟩
      have hp : leadZ (zs.drop k) = (z, m) := by rw [hzz, hmm]
      have cV := Tryz.utf8_ValidRune z
      have hlen := encZ_len (done.map (·.1))
      rw [List.length_map] at hlen
      have hlen4 : (encZ (done.map (·.1))).length + 4 ≤ 140737488355328 := by omega
      rw [← hzz] at hzb
      have cA := fun (wx : World) (hx : Below wr.heap.size wr wx) => Tryz.utf8_AppendRune_plain w.heap.size _ _ _ z hzb.1 hzb.2 wx (own_below hown hx) hlen4 (Nat.le_trans hwr.size hx.size)
      rw [hp] at cL hge hle
      simp only [] at hge hle
      clear hlen hlen4 hzb
      by_cases hv : Lib.validRune z = true
      · have hs2 := scanH_good hne2 (by rw [hp]; exact hv)
        rw [hp] at hs2
        rw [hv] at cV
        have hnext : Hid ((scanH zs).1 = done ++ [(z, m)] ++ (scanH (zs.drop (k + m))).1) := by
          show _ = _
          rw [hd1, hs2, List.append_assoc]
          simp only [List.drop_drop]
          rfl
        have hnext2 : Hid (((done ++ [(z, m)]).map (·.2)).sum = k + m) := by
          show _ = _
          rw [List.map_append, List.sum_append, hd2]; rfl
        have hnext3 : Hid ((scanH zs).2 = (scanH (zs.drop (k + m))).2) := by
          show _ = _
          rw [hd3, hs2]
          simp only [List.drop_drop]
        have hnext4 : Hid ((done ++ [(z, m)]).length ≤ k + m) := by
          show _ ≤ _
          rw [List.length_append]
          simp
          omega
        have NX : Hid (∀ wx w1 v' o, Below wr.heap.size wr wx → w1.ownsRow w.heap.size 5 1 v' ((encZ (done.map (·.1))).length + (Lib.runeCells z).length) (Lib.byteCells (encZ (done.map (·.1))) ++ Lib.runeCells z) → (wx.alloc o).grownBy w1 u4.ownBlock →
            w1.ownsRow w.heap.size 5 1 v' (encZ ((done ++ [(z, m)]).map (·.1))).length (Lib.byteCells (encZ ((done ++ [(z, m)]).map (·.1)))) ∧ Below w.heap.size w w1) := by
          intro wx w1 v' o hx h1 hg
          rw [List.map_append]
          exact bytes_next rfl (hwr.trans (hx.mono hwr.size)) (own_below hown hx) h1 hg
        clear hd1 hd2 hd3 hdl hs2 hown hv hzz hmm hp R3 HZ hcell hne hne2
        go_wp2_with (first | (go_at_call 125; refine cL.mono ?_; rintro e w0 ⟨rfl, hb0⟩) | (go_at_call 126; refine (cV _).mono ?_; rintro e wx ⟨rfl, rfl⟩) | (go_at_call 128; refine (cA _ hb0).mono ?_; rintro e w1 ⟨v', rfl, h1, o', hg⟩; have hnx := NX.out _ w1 v' o' hb0 h1 hg; clear h1 hg) | fail)
        go_roundw
        case rel => exact ⟨k + m, _, by omega, by go_num, hnext.out, hnext2.out, hnext3.out, hnext4.out, hnx.1, hnx.2⟩
        case measure => simp [intOf]; omega
      · have hv : Lib.validRune z = false := Bool.eq_false_iff.2 hv
        have hs2 := scanH_bad hne2 (by rw [hp]; exact hv)
        rw [hv] at cV
        have hpl : Hid (placeH zs = k) := by
          show _ = _
          unfold placeH
          rw [hd1, hs2, List.append_nil, hd2]
        have hf : Hid ((scanH zs).2 = false) := by show _ = _; rw [hd3, hs2]
        clear hd1 hd2 hd3 hdl hs2 hown hv hzz hmm hp R3 HZ hcell hne hne2 cA
        go_wp2_with (first | (go_at_call 125; refine cL.mono ?_; rintro e w0 ⟨rfl, hb0⟩) | (go_at_call 126; refine (cV _).mono ?_; rintro e wx ⟨rfl, rfl⟩) | (go_at_call 127; refine (wrong_any _ _).mono ?_; rintro e w1 ⟨⟨x, rfl, hx⟩, hb1⟩) | fail)
        go_ret2
        have hb01 : Below wr.heap.size wr w1 := hb0.trans (hb1.mono hb0.size)
        refine ⟨_, _, rfl, hwr.trans (hb01.mono hwr.size), .inr ⟨hf.out, rfl, ?_⟩⟩
        rw [hpl.out]
        exact isAt_from hx (Nat.le_trans hwr.size hb0.size)
    · have e : zs.drop k = [] := List.drop_eq_nil_of_le (by rw [← HN.out]; omega)
      rw [e, scanH_nil] at hd1 hd3
      rw [List.append_nil] at hd1
      rw [← hd1] at hown
      have hs := string_own rfl hown
      have hf : Hid ((scanH zs).2 = true) := hd3
      clear hown e R3 HZ hd1 hd3
      go_wp2
      go_ret2
      refine ⟨_, _, rfl, hwr, .inl ⟨hf.out, rfl, rfl⟩⟩
end Go.Proofs.YtldhbjmillfjgabGreatDoor

namespace Go.Proofs.YtldhbjmillfjgabGreatDoor

def toI (l : List Nat) : List Int := l.map fun n : Nat => (n : Int)
theorem toI_append (a b : List Nat) : toI (a ++ b) = toI a ++ toI b := by simp [toI]

theorem valid_of_rune {r : Nat} (h : isRune r) : Lib.validRune (r : Int) = true := by
  unfold isRune at h
  unfold Lib.validRune
  apply decide_eq_true
  omega
theorem rune_of_valid {z : Int} (h : Lib.validRune z = true) : ∃ r : Nat, z = r ∧ isRune r := by
  have := of_decide_eq_true h
  exact ⟨z.toNat, by omega, by unfold isRune; omega⟩
theorem valid_toI {rs : List Nat} (h : ∀ r ∈ rs, isRune r) : ∀ z ∈ toI rs, Lib.validRune z = true := by
  intro z hz
  obtain ⟨r, hr, rfl⟩ := List.mem_map.1 hz
  exact valid_of_rune (h r hr)
theorem encZ_toI (rs : List Nat) : encZ (toI rs) = encs rs := by
  induction rs with
  | nil => rfl
  | cons r rs ih =>
    show Lib.encodeRune (r : Int) ++ encZ (toI rs) = enc r ++ encs rs
    rw [ih]; rfl

/-- A rune's halves, whatever stands behind them, are that rune. -/
theorem lead_hal {r : Nat} (h : isRune r) (t : List Int) : leadZ (toI (hal r) ++ t) = ((r : Int), (hal r).length) := by
  unfold isRune at h
  by_cases h1 : r < 65536
  · have e : hal r = [r] := by simp [hal, h1]
    rw [e]
    have hf : firstB (r : Int) = false := decide_eq_false (by omega)
    cases t with
    | nil => rfl
    | cons b t => simp [toI, leadZ, hf]
  · have e : hal r = [55296 + (r - 65536) / 1024, 56320 + (r - 65536) % 1024] := by simp [hal, h1]
    rw [e]
    have hf : firstB ((55296 + (r - 65536) / 1024 : Nat) : Int) = true := decide_eq_true (by omega)
    have hs : secondB ((56320 + (r - 65536) % 1024 : Nat) : Int) = true := decide_eq_true (by omega)
    show leadZ (((55296 + (r - 65536) / 1024 : Nat) : Int) :: ((56320 + (r - 65536) % 1024 : Nat) : Int) :: t) = _
    simp only [leadZ, hf, hs, Bool.and_self, if_true]
    refine Prod.ext ?_ rfl
    show (65536 + ((((55296 + (r - 65536) / 1024 : Nat) : Int) - 55296) * 1024 + (((56320 + (r - 65536) % 1024 : Nat) : Int) - 56320)) : Int) = (r : Int)
    omega

theorem hal_ne (r : Nat) : hal r ≠ [] := by unfold hal; split <;> simp
theorem hals_cons (r : Nat) (rs : List Nat) : hals (r :: rs) = hal r ++ hals rs := rfl

theorem scanH_hals : ∀ (rs : List Nat), (∀ r ∈ rs, isRune r) → scanH (toI (hals rs)) = (rs.map fun r : Nat => ((r : Int), (hal r).length), true)
  | [], _ => scanH_nil
  | r :: rs, h => by
    have hr := h r (by simp)
    have h1 := lead_hal hr (toI (hals rs))
    have e : toI (hals (r :: rs)) = toI (hal r) ++ toI (hals rs) := by rw [hals_cons, toI_append]
    have hne : toI (hals (r :: rs)) ≠ [] := by
      rw [e]
      intro c
      have := congrArg List.length c
      rw [List.length_append] at this
      have h0 : (hal r).length ≠ 0 := by simpa using hal_ne r
      simp [toI] at this
      exact hal_ne r this.1
    rw [← e] at h1
    rw [scanH_good hne (by rw [h1]; exact valid_of_rune hr), h1, e]
    have ed : (toI (hal r) ++ toI (hals rs)).drop (hal r).length = toI (hals rs) := List.drop_left' (by simp [toI])
    simp only [ed]
    rw [scanH_hals rs (fun x hx => h x (by simp [hx]))]
    rfl

/-- Halves that are a text are their runes' halves. -/
theorem hals_scanH (n : Nat) : ∀ (zs : List Int), zs.length ≤ n → (∀ z ∈ zs, 0 ≤ z ∧ z < 65536) → (scanH zs).2 = true →
    ∃ rs : List Nat, (scanH zs).1.map (·.1) = toI rs ∧ (∀ r ∈ rs, isRune r) ∧ zs = toI (hals rs) := by
  induction n with
  | zero =>
    intro zs hl _ _
    obtain rfl : zs = [] := by cases zs <;> simp_all
    rw [scanH_nil]; exact ⟨[], rfl, by simp, rfl⟩
  | succ n ih =>
    intro zs hl hb hg
    by_cases h : zs = []
    · subst h; rw [scanH_nil]; exact ⟨[], rfl, by simp, rfl⟩
    by_cases hv : Lib.validRune (leadZ zs).1 = true
    · rw [scanH_good h hv] at hg ⊢
      have w1 := leadZ_ge1 zs
      obtain ⟨rs, i1, i2, i3⟩ := ih (zs.drop (leadZ zs).2) (by rw [List.length_drop]; omega) (fun z hz => hb z (List.mem_of_mem_drop hz)) hg
      obtain ⟨r, e1, e2⟩ := rune_of_valid hv
      have key : zs.take (leadZ zs).2 = toI (hal r) := by
        match zs, h with
        | [a], _ =>
          have ha := hb a (by simp)
          simp only [leadZ] at e1 ⊢
          subst e1
          have : (r : Nat) < 65536 := by omega
          simp [hal, this, toI]
        | a :: b :: t, _ =>
          have ha := hb a (by simp)
          have hb' := hb b (by simp)
          by_cases c : (firstB a && secondB b) = true
          · have el : leadZ (a :: b :: t) = (65536 + ((a - 55296) * 1024 + (b - 56320)), 2) := by simp only [leadZ, c, if_true]
            rw [el] at e1 ⊢
            rw [Bool.and_eq_true] at c
            have c1 := of_decide_eq_true c.1
            have c2 := of_decide_eq_true c.2
            simp only [] at e1
            have hr : ¬ r < 65536 := by omega
            simp only [List.take_succ_cons, List.take_zero, hal, if_neg hr, toI, List.map_cons, List.map_nil]
            rw [show ((55296 + (r - 65536) / 1024 : Nat) : Int) = a by omega, show ((56320 + (r - 65536) % 1024 : Nat) : Int) = b by omega]
          · have el : leadZ (a :: b :: t) = (a, 1) := by simp only [leadZ, c]; rfl
            rw [el] at e1 ⊢
            simp only [] at e1
            subst e1
            have : (r : Nat) < 65536 := by omega
            simp [hal, this, toI]
      refine ⟨r :: rs, ?_, ?_, ?_⟩
      · rw [List.map_cons, i1, e1]; rfl
      · intro x hx
        rcases List.mem_cons.1 hx with rfl | hx
        · exact e2
        · exact i2 x hx
      · rw [hals_cons, toI_append, ← key, ← i3]
        exact (List.take_append_drop _ _).symm
    · rw [scanH_bad h (Bool.eq_false_iff.2 hv)] at hg
      cases hg

theorem hals_len (rs : List Nat) : (hals rs).length ≤ 2 * rs.length ∧ rs.length ≤ (hals rs).length := by
  induction rs with
  | nil => simp [hals]
  | cons r rs ih =>
    have h0 : (hal r).length ≠ 0 := by simpa using hal_ne r
    have h1 : (hal r).length ≤ 2 := by unfold hal; split <;> simp
    rw [hals_cons, List.length_append, List.length_cons]
    omega

/-- What is gathered over a text's runes. -/
theorem cells21_eq (l : List UInt8) : cellsOf21 (scan l).1 = (toI (runesOf l)).map (Value.int .i32) := by
  unfold cellsOf21 runesOf toI
  rw [List.map_map, List.map_map]
  rfl
theorem cells59_eq (l : List UInt8) : cellsOf59 (scan l).1 = (toI (hals (runesOf l))).map (Value.int .u16) := by
  unfold cellsOf59 runesOf hals toI
  generalize (scan l).1 = ps
  induction ps with
  | nil => rfl
  | cons p ps ih =>
    rw [List.flatMap_cons, ih, List.map_cons, List.flatMap_cons, List.map_append, List.map_append]
    congr 1
    unfold halCells
    rw [List.map_map]
    rfl
theorem toI_bd {rs : List Nat} (h : ∀ r ∈ rs, isRune r) : ∀ z ∈ toI rs, -2147483648 ≤ z ∧ z ≤ 2147483647 := by
  intro z hz
  obtain ⟨r, hr, rfl⟩ := List.mem_map.1 hz
  have := h r hr
  unfold isRune at this
  omega
theorem hals_bd {rs : List Nat} (h : ∀ r ∈ rs, isRune r) : ∀ z ∈ toI (hals rs), 0 ≤ z ∧ z < 65536 := by
  intro z hz
  obtain ⟨n, hn, rfl⟩ := List.mem_map.1 hz
  obtain ⟨r, hr, hn⟩ := List.mem_flatMap.1 hn
  have := h r hr
  unfold isRune at this
  unfold hal at hn
  split at hn
  · simp at hn; omega
  · simp at hn; omega
end Go.Proofs.YtldhbjmillfjgabGreatDoor

namespace Go.Proofs.YtldhbjmillfjgabGreatDoor

theorem sum1_wide (rs : List Nat) : sum1 (wide rs) = ((encs rs).length : Int) := by
  induction rs with
  | nil => rfl
  | cons r rs ih =>
    have e : sum1 (wide (r :: rs)) = ((enc r).length : Int) + sum1 (wide rs) := by simp [sum1, wide]
    rw [e, ih, encs_cons, List.length_append]
    push_cast
    rfl
end Go.Proofs.YtldhbjmillfjgabGreatDoor

namespace Go.Proofs.YtldhbjmillfjgabGreatDoor
open Go.RowKit
set_option linter.unusedVariables false

/-! ### What runes count -/
def C1 (rs : List Nat) : Int := sum1 (wide rs)
def C2 (rs : List Nat) : Int := sum2 (wide rs)
def C3 (rs : List Nat) : Int := rs.length
def C4 (rs : List Nat) : Int := sum4 (wide rs)
theorem wide_append (a b : List Nat) : wide (a ++ b) = wide a ++ wide b := by simp [wide]
theorem C1_append (a b : List Nat) : C1 (a ++ b) = C1 a + C1 b := by unfold C1 sum1; rw [wide_append, List.map_append, List.sum_append]
theorem C2_append (a b : List Nat) : C2 (a ++ b) = C2 a + C2 b := by unfold C2 sum2; rw [wide_append, List.map_append, List.sum_append]
theorem C3_append (a b : List Nat) : C3 (a ++ b) = C3 a + C3 b := by unfold C3; rw [List.length_append]; push_cast; rfl
theorem C4_append (a b : List Nat) : C4 (a ++ b) = C4 a + C4 b := by unfold C4 sum4; rw [wide_append, List.map_append, List.sum_append]
theorem C1_len (rs : List Nat) : C1 rs = (encs rs).length := sum1_wide rs
theorem C3_le (rs : List Nat) : 0 ≤ C3 rs ∧ C3 rs ≤ C1 rs := by
  have := encs_len rs
  rw [C1_len]; unfold C3; omega
theorem C4_le (rs : List Nat) : 0 ≤ C4 rs ∧ C4 rs ≤ C1 rs := by
  have h := sum4_le (wide rs)
  have h3 := C3_le rs
  have e : (wide rs).length = rs.length := by simp [wide]
  rw [e] at h
  unfold C4
  unfold C3 at h3
  omega
theorem C2_le (rs : List Nat) : 0 ≤ C2 rs ∧ C2 rs ≤ 2 * C1 rs := by
  have h := sum2_le (wide rs)
  have h3 := C3_le rs
  have e : (wide rs).length = rs.length := by simp [wide]
  rw [e] at h
  unfold C2
  unfold C3 at h3
  omega

/-- Runes' bytes. -/
def bytesOf (rs : List Nat) : ByteArray := ⟨(encs rs).toArray⟩
theorem bytesOf_size (rs : List Nat) : (bytesOf rs).size = (encs rs).length := by simp [bytesOf, ByteArray.size]
theorem bytesOf_list (rs : List Nat) : (bytesOf rs).data.toList = encs rs := rfl
theorem bytesOf_append (a b : List Nat) : bytesOf a ++ bytesOf b = bytesOf (a ++ b) := by
  apply ByteArray.ext
  rw [ByteArray.data_append]
  unfold bytesOf
  rw [encs_append]
  simp

/-- The chunks' tree. -/
inductive T where
  | nil
  | node (l : T) (rs : List Nat) (r : T)
def T.runes : T → List Nat
  | .nil => []
  | .node l rs r => l.runes ++ rs ++ r.runes
def T.height : T → Nat
  | .nil => 0
  | .node l _ r => 1 + max l.height r.height
def T.size : T → Nat
  | .nil => 0
  | .node l _ r => 1 + l.size + r.size

/-- The tree at p in memory. -/
def isTree (w : World) : Option Addr → T → Prop
  | p, .nil => p = none
  | p, .node l rs r => ∃ b pl pr, p = some ⟨b, 0, none⟩ ∧
      (w.cell? ⟨b, 0, none⟩ = some (.string (bytesOf rs)) ∧ w.cell? ⟨b, 1, none⟩ = some (.int .i64 (C1 rs)) ∧ w.cell? ⟨b, 2, none⟩ = some (.int .i64 (C2 rs)) ∧ w.cell? ⟨b, 3, none⟩ = some (.int .i64 (C3 rs)) ∧ w.cell? ⟨b, 4, none⟩ = some (.int .i64 (C4 rs))) ∧
      (w.cell? ⟨b, 5, none⟩ = some (.pointer pl) ∧ w.cell? ⟨b, 6, none⟩ = some (.pointer pr)) ∧
      (w.cell? ⟨b, 7, none⟩ = some (.int .i64 (C1 (T.node l rs r).runes)) ∧ w.cell? ⟨b, 8, none⟩ = some (.int .i64 (C2 (T.node l rs r).runes)) ∧ w.cell? ⟨b, 9, none⟩ = some (.int .i64 (C3 (T.node l rs r).runes)) ∧ w.cell? ⟨b, 10, none⟩ = some (.int .i64 (C4 (T.node l rs r).runes))) ∧
      (w.cell? ⟨b, 11, none⟩ = some (.int .i64 (T.node l rs r).height) ∧ w.cell? ⟨b, 12, none⟩ = some (.int .i64 (T.node l rs r).size)) ∧
      isTree w pl l ∧ isTree w pr r
theorem cell_on {W W' : World} (hb : Below W.heap.size W W') {b o : Nat} {v : Value} (h : W.cell? ⟨b, o, none⟩ = some v) : W'.cell? ⟨b, o, none⟩ = some v :=
  (hb.cell (p := ⟨b, o, none⟩) (World.block_lt_of_cell? W _ h)).trans h
theorem isTree_below {w w' : World} (hb : Below w.heap.size w w') : ∀ {t : T} {p : Option Addr}, isTree w p t → isTree w' p t
  | .nil, _, h => h
  | .node l rs r, _, ⟨b, pl, pr, e, ⟨a0, a1, a2, a3, a4⟩, ⟨a5, a6⟩, ⟨a7, a8, a9, a10⟩, ⟨a11, a12⟩, hl, hr⟩ =>
    ⟨b, pl, pr, e, ⟨cell_on hb a0, cell_on hb a1, cell_on hb a2, cell_on hb a3, cell_on hb a4⟩, ⟨cell_on hb a5, cell_on hb a6⟩, ⟨cell_on hb a7, cell_on hb a8, cell_on hb a9, cell_on hb a10⟩, ⟨cell_on hb a11, cell_on hb a12⟩, isTree_below hb hl, isTree_below hb hr⟩

set_option maxHeartbeats 1000000 in
theorem ncounts_any (p : Option Addr) (t : T) (w : World) (h : isTree w p t) :
    Calls Tryz.prog 67 #[.pointer p] w fun e w' => e = .returned (.agg #[.int .i64 (C1 t.runes), .int .i64 (C2 t.runes), .int .i64 (C3 t.runes), .int .i64 (C4 t.runes)]) ∧ Below w.heap.size w w' := by
  cases t with
  | nil =>
    obtain rfl : p = none := h
    have e1 : C1 T.nil.runes = 0 := rfl
    have e2 : C2 T.nil.runes = 0 := rfl
    have e3 : C3 T.nil.runes = 0 := rfl
    have e4 : C4 T.nil.runes = 0 := rfl
    rw [e1, e2, e3, e4]
    clear e1 e2 e3 e4
    go_enter Tryz.func67, Tryz.ntmps67
    go_wp2
    refine bodyPost_ret (v := .agg #[.int .i64 0, .int .i64 0, .int .i64 0, .int .i64 0]) (by simp [results, Tryz.results67, go_sem]) rfl ⟨rfl, ?_⟩
    exact (Below.refl _ _).alloc (Nat.le_refl _) _
  | node l rs r =>
    obtain ⟨b, pl, pr, rfl, _, _, ⟨a7, a8, a9, a10⟩, _, _, _⟩ := h
    have hlt := World.block_lt_of_cell? w _ a7
    have hne : ¬ b = w.heap.size := by show ¬ _; intro e; subst e; exact absurd hlt (Nat.lt_irrefl _)
    generalize (T.node l rs r).runes = R at *
    generalize C1 R = x1 at *
    generalize C2 R = x2 at *
    generalize C3 R = x3 at *
    generalize C4 R = x4 at *
    go_enter Tryz.func67, Tryz.ntmps67
    go_wp2
    refine bodyPost_ret (v := .agg #[.int .i64 x1, .int .i64 x2, .int .i64 x3, .int .i64 x4]) (by simp [results, Tryz.results67, go_sem]) rfl ⟨rfl, ?_⟩
    exact (Below.refl _ _).alloc (Nat.le_refl _) _

set_option maxHeartbeats 1000000 in
theorem nheight_any (p : Option Addr) (t : T) (w : World) (h : isTree w p t) :
    Calls Tryz.prog 189 #[.pointer p] w fun e w' => e = .returned (.int .i64 t.height) ∧ w' = w := by
  cases t with
  | nil =>
    obtain rfl : p = none := h
    go_enter Tryz.func189, Tryz.ntmps189
    go_wp2
    go_ret
    exact ⟨rfl, rfl⟩
  | node l rs r =>
    obtain ⟨b, pl, pr, rfl, _, _, _, ⟨a11, _⟩, _, _⟩ := h
    generalize ((T.node l rs r).height : Int) = x1 at *
    go_enter Tryz.func189, Tryz.ntmps189
    go_wp2
    go_ret
    exact ⟨rfl, rfl⟩
set_option maxHeartbeats 1000000 in
theorem nsize_any (p : Option Addr) (t : T) (w : World) (h : isTree w p t) :
    Calls Tryz.prog 191 #[.pointer p] w fun e w' => e = .returned (.int .i64 t.size) ∧ w' = w := by
  cases t with
  | nil =>
    obtain rfl : p = none := h
    go_enter Tryz.func191, Tryz.ntmps191
    go_wp2
    go_ret
    exact ⟨rfl, rfl⟩
  | node l rs r =>
    obtain ⟨b, pl, pr, rfl, _, _, _, ⟨_, a12⟩, _, _⟩ := h
    generalize ((T.node l rs r).size : Int) = x1 at *
    go_enter Tryz.func191, Tryz.ntmps191
    go_wp2
    go_ret
    exact ⟨rfl, rfl⟩
end Go.Proofs.YtldhbjmillfjgabGreatDoor

namespace Go.Proofs.YtldhbjmillfjgabGreatDoor
open Go.RowKit
set_option linter.unusedVariables false
attribute [local go_sem] yieldsUpon okUpon

/-- A chunk as a value. -/
def chunkV (rs : List Nat) : Value := .agg #[.string (bytesOf rs), .int .i64 (C1 rs), .int .i64 (C2 rs), .int .i64 (C3 rs), .int .i64 (C4 rs)]

set_option maxRecDepth 100000 in
set_option maxHeartbeats 400000 in
theorem link_any (pl pr : Option Addr) (l r : T) (rs : List Nat) (w : World) (hl : isTree w pl l) (hr : isTree w pr r) (hz : C1 l.runes + C1 rs + C1 r.runes ≤ 1000000000) (hs : l.size < 1000000000 ∧ r.size < 1000000000 ∧ l.height < 1000000000 ∧ r.height < 1000000000) :
    Calls Tryz.prog 161 #[.pointer pl, chunkV rs, .pointer pr] w fun e w' => ∃ p, e = .returned (.pointer p) ∧ isTree w' p (.node l rs r) ∧ Below w.heap.size w w' := by
  have l1 := C3_le l.runes
  have l2 := C2_le l.runes
  have l4 := C4_le l.runes
  have r1 := C3_le r.runes
  have r2 := C2_le r.runes
  have r4 := C4_le r.runes
  have m1 := C3_le rs
  have m2 := C2_le rs
  have m4 := C4_le rs
  have HL : Hid (isTree w pl l) := hl
  have HR : Hid (isTree w pr r) := hr
  have t1 : Hid (C1 (T.node l rs r).runes = C1 l.runes + C1 rs + C1 r.runes) := by show _ = _; simp only [T.runes, C1_append]
  have t2 : Hid (C2 (T.node l rs r).runes = C2 l.runes + C2 rs + C2 r.runes) := by show _ = _; simp only [T.runes, C2_append]
  have t3 : Hid (C3 (T.node l rs r).runes = C3 l.runes + C3 rs + C3 r.runes) := by show _ = _; simp only [T.runes, C3_append]
  have t4 : Hid (C4 (T.node l rs r).runes = C4 l.runes + C4 rs + C4 r.runes) := by show _ = _; simp only [T.runes, C4_append]
  have t5 : Hid (((T.node l rs r).height : Int) = 1 + max (l.height : Int) r.height) := by show _ = _; simp only [T.height]; omega
  have t6 : Hid (((T.node l rs r).size : Int) = 1 + l.size + r.size) := by show _ = _; simp only [T.size]; omega
  have cl := fun (wx : World) (hb : Below w.heap.size w wx) => ncounts_any pl l wx (isTree_below hb hl)
  have cr := fun (wx : World) (hb : Below w.heap.size w wx) => ncounts_any pr r wx (isTree_below hb hr)
  have hhl := fun (wx : World) (hb : Below w.heap.size w wx) => nheight_any pl l wx (isTree_below hb hl)
  have hhr := fun (wx : World) (hb : Below w.heap.size w wx) => nheight_any pr r wx (isTree_below hb hr)
  have sl := fun (wx : World) (hb : Below w.heap.size w wx) => nsize_any pl l wx (isTree_below hb hl)
  have sr := fun (wx : World) (hb : Below w.heap.size w wx) => nsize_any pr r wx (isTree_below hb hr)
  have p1 : ∀ wx, Calls Tryz.prog 110 #[.agg #[.int .i64 (C1 l.runes), .int .i64 (C2 l.runes), .int .i64 (C3 l.runes), .int .i64 (C4 l.runes)], .agg #[.int .i64 (C1 rs), .int .i64 (C2 rs), .int .i64 (C3 rs), .int .i64 (C4 rs)]] wx
      fun e w' => e = .returned (.agg #[.int .i64 (C1 l.runes + C1 rs), .int .i64 (C2 l.runes + C2 rs), .int .i64 (C3 l.runes + C3 rs), .int .i64 (C4 l.runes + C4 rs)]) ∧ Below wx.heap.size wx w' := fun wx => by
    have := plus_any (C1 l.runes) (C2 l.runes) (C3 l.runes) (C4 l.runes) (C1 rs) (C2 rs) (C3 rs) (C4 rs) wx
    rwa [wrap64_small (by omega) (by omega), wrap64_small (by omega) (by omega), wrap64_small (by omega) (by omega), wrap64_small (by omega) (by omega)] at this
  have p2 : ∀ wx, Calls Tryz.prog 110 #[.agg #[.int .i64 (C1 l.runes + C1 rs), .int .i64 (C2 l.runes + C2 rs), .int .i64 (C3 l.runes + C3 rs), .int .i64 (C4 l.runes + C4 rs)], .agg #[.int .i64 (C1 r.runes), .int .i64 (C2 r.runes), .int .i64 (C3 r.runes), .int .i64 (C4 r.runes)]] wx
      fun e w' => e = .returned (.agg #[.int .i64 (C1 l.runes + C1 rs + C1 r.runes), .int .i64 (C2 l.runes + C2 rs + C2 r.runes), .int .i64 (C3 l.runes + C3 rs + C3 r.runes), .int .i64 (C4 l.runes + C4 rs + C4 r.runes)]) ∧ Below wx.heap.size wx w' := fun wx => by
    have := plus_any (C1 l.runes + C1 rs) (C2 l.runes + C2 rs) (C3 l.runes + C3 rs) (C4 l.runes + C4 rs) (C1 r.runes) (C2 r.runes) (C3 r.runes) (C4 r.runes) wx
    rwa [wrap64_small (by omega) (by omega), wrap64_small (by omega) (by omega), wrap64_small (by omega) (by omega), wrap64_small (by omega) (by omega)] at this
  clear hl hr l1 l2 l4 r1 r2 r4 m1 m2 m4 hz
  obtain ⟨hs1, hs2, hs3, hs4⟩ := hs
  unfold chunkV
  generalize hB : bytesOf rs = B at *
  have HB : Hid (bytesOf rs = B) := hB
  clear hB
  generalize hx1 : C1 rs = x1 at *
  have Hx1 : Hid (C1 rs = x1) := hx1
  clear hx1
  generalize hx2 : C2 rs = x2 at *
  have Hx2 : Hid (C2 rs = x2) := hx2
  clear hx2
  generalize hx3 : C3 rs = x3 at *
  have Hx3 : Hid (C3 rs = x3) := hx3
  clear hx3
  generalize hx4 : C4 rs = x4 at *
  have Hx4 : Hid (C4 rs = x4) := hx4
  clear hx4
  generalize ha1 : C1 l.runes = a1 at *
  clear ha1
  generalize ha2 : C2 l.runes = a2 at *
  clear ha2
  generalize ha3 : C3 l.runes = a3 at *
  clear ha3
  generalize ha4 : C4 l.runes = a4 at *
  clear ha4
  generalize hb1 : C1 r.runes = b1 at *
  clear hb1
  generalize hb2 : C2 r.runes = b2 at *
  clear hb2
  generalize hb3 : C3 r.runes = b3 at *
  clear hb3
  generalize hb4 : C4 r.runes = b4 at *
  clear hb4
  generalize hk1 : (l.height : Int) = k1 at *
  generalize hk2 : (r.height : Int) = k2 at *
  generalize hk3 : (l.size : Int) = k3 at *
  generalize hk4 : (r.size : Int) = k4 at *
  have z1 : 0 ≤ k1 ∧ k1 < 1000000000 := by omega
  have z2 : 0 ≤ k2 ∧ k2 < 1000000000 := by omega
  have z3 : 0 ≤ k3 ∧ k3 < 1000000000 := by omega
  have z4 : 0 ≤ k4 ∧ k4 < 1000000000 := by omega
  clear hk1 hk2 hk3 hk4 hs1 hs2 hs3 hs4
  go_enter Tryz.func161, Tryz.ntmps161
  go_wp2
  refine wp_region_rel 26 26 (by kernel_rfl) rfl ?_
  intro w1 hb1
  have hb0 : Below w.heap.size w (w.alloc (.cells #[.string B, .int .i64 x1, .int .i64 x2, .int .i64 x3, .int .i64 x4] 194)) := (Below.refl _ w).alloc (Nat.le_refl _) _
  have hbw : Below w.heap.size w w1 := hb0.trans (hb1.mono hb0.size)
  obtain ⟨G, hG⟩ := exists_growth w1
  have g0 : ∀ x, (G x).cell? ⟨w.heap.size, 0, none⟩ = some (.string B) := hG.cell (cell_on hb1 (by simp [go_sem]))
  have g1 : ∀ x, (G x).cell? ⟨w.heap.size, 1, none⟩ = some (.int .i64 x1) := hG.cell (cell_on hb1 (by simp [go_sem]))
  have g2 : ∀ x, (G x).cell? ⟨w.heap.size, 2, none⟩ = some (.int .i64 x2) := hG.cell (cell_on hb1 (by simp [go_sem]))
  have g3 : ∀ x, (G x).cell? ⟨w.heap.size, 3, none⟩ = some (.int .i64 x3) := hG.cell (cell_on hb1 (by simp [go_sem]))
  have g4 : ∀ x, (G x).cell? ⟨w.heap.size, 4, none⟩ = some (.int .i64 x4) := hG.cell (cell_on hb1 (by simp [go_sem]))
  have wb : ∀ x, Below w.heap.size w (G x) := fun x => hbw.trans ((hG.below x).mono hbw.size)
  have cl' := fun x => cl (G x) (wb x)
  have cr' := fun x => cr (G x) (wb x)
  have hl' := fun x => (hhl (G x) (wb x)).mono (R' := fun e w' => e = .returned (.int .i64 k1) ∧ Below (G x).heap.size (G x) w') (by rintro e w' ⟨rfl, rfl⟩; exact ⟨rfl, Below.refl _ _⟩)
  have hr' := fun x => (hhr (G x) (wb x)).mono (R' := fun e w' => e = .returned (.int .i64 k2) ∧ Below (G x).heap.size (G x) w') (by rintro e w' ⟨rfl, rfl⟩; exact ⟨rfl, Below.refl _ _⟩)
  have sl' := fun x => (sl (G x) (wb x)).mono (R' := fun e w' => e = .returned (.int .i64 k3) ∧ Below (G x).heap.size (G x) w') (by rintro e w' ⟨rfl, rfl⟩; exact ⟨rfl, Below.refl _ _⟩)
  have sr' := fun x => (sr (G x) (wb x)).mono (R' := fun e w' => e = .returned (.int .i64 k4) ∧ Below (G x).heap.size (G x) w') (by rintro e w' ⟨rfl, rfl⟩; exact ⟨rfl, Below.refl _ _⟩)
  clear cl cr hhl hhr sl sr wb hb0
  (refine anyG_step hG (i := 0) rfl (by kernel_rfl) (by kernel_rfl) (by kernel_rfl) (fun K hK => ?_); go_simp; refine hK _ ?_; clear hK K)
  (refine anyG_step hG (i := 1) rfl (by kernel_rfl) (by kernel_rfl) (by kernel_rfl) (fun K hK => ?_); go_simp; refine hK _ ?_; clear hK K)
  (refine anyG_step hG (i := 2) rfl (by kernel_rfl) (by kernel_rfl) (by kernel_rfl) (fun K hK => ?_); go_simp; refine hK _ ?_; clear hK K)
  (refine anyG_step hG (i := 3) rfl (by kernel_rfl) (by kernel_rfl) (by kernel_rfl) (fun K hK => ?_); go_simp; refine hK _ ?_; clear hK K)
  (refine anyG_step hG (i := 4) rfl (by kernel_rfl) (by kernel_rfl) (by kernel_rfl) (fun K hK => ?_); go_simp; apply Exists.intro; refine ⟨fun _ => ?_, hK _ ?_⟩; exact cl' _; clear hK K)
  (refine anyG_step hG (i := 5) rfl (by kernel_rfl) (by kernel_rfl) (by kernel_rfl) (fun K hK => ?_); go_simp; refine hK _ ?_; clear hK K)
  (refine anyG_step hG (i := 6) rfl (by kernel_rfl) (by kernel_rfl) (by kernel_rfl) (fun K hK => ?_); go_simp; refine hK _ ?_; clear hK K)
  (refine anyG_step hG (i := 7) rfl (by kernel_rfl) (by kernel_rfl) (by kernel_rfl) (fun K hK => ?_); go_simp; apply Exists.intro; refine ⟨fun _ => ?_, hK _ ?_⟩; exact p1 _; clear hK K)
  (refine anyG_step hG (i := 8) rfl (by kernel_rfl) (by kernel_rfl) (by kernel_rfl) (fun K hK => ?_); go_simp; refine hK _ ?_; clear hK K)
  (refine anyG_step hG (i := 9) rfl (by kernel_rfl) (by kernel_rfl) (by kernel_rfl) (fun K hK => ?_); go_simp; apply Exists.intro; refine ⟨fun _ => ?_, hK _ ?_⟩; exact cr' _; clear hK K)
  (refine anyG_step hG (i := 10) rfl (by kernel_rfl) (by kernel_rfl) (by kernel_rfl) (fun K hK => ?_); go_simp; apply Exists.intro; refine ⟨fun _ => ?_, hK _ ?_⟩; exact p2 _; clear hK K)
  (refine anyG_step hG (i := 11) rfl (by kernel_rfl) (by kernel_rfl) (by kernel_rfl) (fun K hK => ?_); go_simp; refine hK _ ?_; clear hK K)
  (refine anyG_step hG (i := 12) rfl (by kernel_rfl) (by kernel_rfl) (by kernel_rfl) (fun K hK => ?_); go_simp; apply Exists.intro; refine ⟨fun _ => ?_, hK _ ?_⟩; exact hl' _; clear hK K)
  (refine anyG_step hG (i := 13) rfl (by kernel_rfl) (by kernel_rfl) (by kernel_rfl) (fun K hK => ?_); go_simp; refine hK _ ?_; clear hK K)
  (refine anyG_step hG (i := 14) rfl (by kernel_rfl) (by kernel_rfl) (by kernel_rfl) (fun K hK => ?_); go_simp; apply Exists.intro; refine ⟨fun _ => ?_, hK _ ?_⟩; exact hr' _; clear hK K)
  (refine anyG_step hG (i := 15) rfl (by kernel_rfl) (by kernel_rfl) (by kernel_rfl) (fun K hK => ?_); go_simp; refine hK _ ?_; clear hK K)
  (refine anyG_step hG (i := 16) rfl (by kernel_rfl) (by kernel_rfl) (by kernel_rfl) (fun K hK => ?_); go_simp; refine hK _ ?_; clear hK K)
  (refine anyG_step hG (i := 17) rfl (by kernel_rfl) (by kernel_rfl) (by kernel_rfl) (fun K hK => ?_); go_simp; refine hK _ ?_; clear hK K)
  (refine anyG_step hG (i := 18) rfl (by kernel_rfl) (by kernel_rfl) (by kernel_rfl) (fun K hK => ?_); go_simp; apply Exists.intro; refine ⟨fun _ => ?_, hK _ ?_⟩; exact sl' _; clear hK K)
  (refine anyG_step hG (i := 19) rfl (by kernel_rfl) (by kernel_rfl) (by kernel_rfl) (fun K hK => ?_); go_simp; refine hK _ ?_; clear hK K)
  (refine anyG_step hG (i := 20) rfl (by kernel_rfl) (by kernel_rfl) (by kernel_rfl) (fun K hK => ?_); go_simp; refine hK _ ?_; clear hK K)
  (refine anyG_step hG (i := 21) rfl (by kernel_rfl) (by kernel_rfl) (by kernel_rfl) (fun K hK => ?_); go_simp; apply Exists.intro; refine ⟨fun _ => ?_, hK _ ?_⟩; exact sr' _; clear hK K)
  (refine anyG_step hG (i := 22) rfl (by kernel_rfl) (by kernel_rfl) (by kernel_rfl) (fun K hK => ?_); go_simp; refine hK _ ?_; clear hK K)
  (refine anyG_step hG (i := 23) rfl (by kernel_rfl) (by kernel_rfl) (by kernel_rfl) (fun K hK => ?_); go_simp; refine hK _ ?_; clear hK K)
  clear cl' cr' hl' hr' sl' sr' p1 p2 g0 g1 g2 g3 g4
  have e5 : IntKind.i64.wrap (1 + max k1 k2) = 1 + max k1 k2 := IntWalk.i64_in _ (by omega)
  have e6 : IntKind.i64.wrap (1 + k3) = 1 + k3 := IntWalk.i64_in _ (by omega)
  have e7 : IntKind.i64.wrap (1 + k3 + k4) = 1 + k3 + k4 := IntWalk.i64_in _ (by omega)
  rw [e5, e6, e7]
  refine anyG_one (i := 24) rfl (by kernel_rfl) ?_
  intro w2 hb2 K hK
  go_simp
  refine hK _ _ ((Below.refl _ w2).alloc (Nat.le_refl _) _) ?_
  clear hK K
  refine anyG_one (i := 25) rfl (by kernel_rfl) ?_
  intro w3 hb3 K hK
  go_simp
  refine hK _ _ (Below.refl _ w3) ?_
  clear hK K
  refine anyG_end (by kernel_rfl) ?_
  intro w4 hb4
  have hb23 : Below w2.heap.size w2 _ := (Below.refl _ w2).alloc (Nat.le_refl _) (.cells #[.string B, .int .i64 x1, .int .i64 x2, .int .i64 x3, .int .i64 x4, .pointer pl, .pointer pr, .int .i64 (a1 + x1 + b1), .int .i64 (a2 + x2 + b2), .int .i64 (a3 + x3 + b3), .int .i64 (a4 + x4 + b4), .int .i64 (1 + max k1 k2), .int .i64 (1 + k3 + k4)] 208)
  have hb34 := hb3.trans (hb4.mono hb3.size)
  have hbw4 : Below w.heap.size w w4 := hbw.trans ((hb2.trans ((hb23.trans (hb34.mono hb23.size)).mono hb2.size)).mono hbw.size)
  have hcell : ∀ o v, (w2.alloc (.cells #[.string B, .int .i64 x1, .int .i64 x2, .int .i64 x3, .int .i64 x4, .pointer pl, .pointer pr, .int .i64 (a1 + x1 + b1), .int .i64 (a2 + x2 + b2), .int .i64 (a3 + x3 + b3), .int .i64 (a4 + x4 + b4), .int .i64 (1 + max k1 k2), .int .i64 (1 + k3 + k4)] 208)).cell? ⟨w2.heap.size, o, none⟩ = some v → w4.cell? ⟨w2.heap.size, o, none⟩ = some v := fun o v h => cell_on hb34 h
  have hT : isTree w4 (some ⟨w2.heap.size, 0, none⟩) (.node l rs r) := by
    refine ⟨w2.heap.size, pl, pr, rfl, ⟨hcell _ _ ?_, hcell _ _ ?_, hcell _ _ ?_, hcell _ _ ?_, hcell _ _ ?_⟩, ⟨hcell _ _ ?_, hcell _ _ ?_⟩, ⟨hcell _ _ ?_, hcell _ _ ?_, hcell _ _ ?_, hcell _ _ ?_⟩, ⟨hcell _ _ ?_, hcell _ _ ?_⟩, isTree_below hbw4 HL.out, isTree_below hbw4 HR.out⟩
    · simp [go_sem, HB.out]
    · simp [go_sem, Hx1.out]
    · simp [go_sem, Hx2.out]
    · simp [go_sem, Hx3.out]
    · simp [go_sem, Hx4.out]
    · simp [go_sem]
    · simp [go_sem]
    · simp [go_sem, t1.out]
    · simp [go_sem, t2.out]
    · simp [go_sem, t3.out]
    · simp [go_sem, t4.out]
    · simp [go_sem, t5.out]
    · simp [go_sem, t6.out]
  clear hcell hb2 hb23 hb34 hb3 hb4 t1 t2 t3 t4 t5 t6
  have HT : Hid _ := hT
  clear hT
  go_wp2
  go_ret
  exact ⟨_, rfl, HT.out, hbw4⟩
end Go.Proofs.YtldhbjmillfjgabGreatDoor

namespace Go.Proofs.YtldhbjmillfjgabGreatDoor

def T.chunks : T → List (List Nat)
  | .nil => []
  | .node l rs r => l.chunks ++ [rs] ++ r.chunks
theorem runes_chunks : ∀ t : T, t.runes = t.chunks.flatten
  | .nil => rfl
  | .node l rs r => by simp [T.runes, T.chunks, runes_chunks l, runes_chunks r]
theorem size_chunks : ∀ t : T, t.size = t.chunks.length
  | .nil => rfl
  | .node l rs r => by simp [T.size, T.chunks, size_chunks l, size_chunks r]; omega
theorem height_size : ∀ t : T, t.height ≤ t.size
  | .nil => Nat.le_refl _
  | .node l rs r => by have := height_size l; have := height_size r; simp only [T.height, T.size]; omega
def T.bal : T → Prop
  | .nil => True
  | .node l _ r => l.bal ∧ r.bal ∧ l.height ≤ r.height + 1 ∧ r.height ≤ l.height + 1

/-- A tree that is not too great. -/
def big (t : T) : Prop := C1 t.runes ≤ 1000000000 ∧ t.size ≤ 100000000
theorem C1_pos (rs : List Nat) : 0 ≤ C1 rs := by rw [C1_len]; omega
theorem big_node {l r : T} {c : List Nat} (h : big (.node l c r)) : big l ∧ big r ∧ C1 l.runes + C1 c + C1 r.runes ≤ 1000000000 ∧ (l.size < 1000000000 ∧ r.size < 1000000000 ∧ l.height < 1000000000 ∧ r.height < 1000000000) := by
  obtain ⟨h1, h2⟩ := h
  simp only [T.runes, C1_append, T.size] at h1 h2
  have a1 := C1_pos l.runes
  have a2 := C1_pos c
  have a3 := C1_pos r.runes
  have b1 := height_size l
  have b2 := height_size r
  exact ⟨⟨by omega, by omega⟩, ⟨by omega, by omega⟩, h1, by omega, by omega, by omega, by omega⟩
theorem big_same {t t' : T} (h : big t) (e : t'.chunks = t.chunks) : big t' := by
  unfold big at *
  rw [runes_chunks, e, ← runes_chunks, size_chunks, e, ← size_chunks]
  exact h

/-- What 'turn' makes of two trees with a chunk between. -/
def turnT (l : T) (c : List Nat) (r : T) : T :=
  if l.height = r.height + 2 then
    match l with
    | .node ll lc (.node a b d) => if ll.height < (T.node a b d).height then .node (.node ll lc a) b (.node d c r) else .node ll lc (.node (.node a b d) c r)
    | .node ll lc .nil => .node ll lc (.node .nil c r)
    | .nil => .node .nil c r
  else if r.height = l.height + 2 then
    match r with
    | .node (.node a b d) rc rr => if rr.height < (T.node a b d).height then .node (.node l c a) b (.node d rc rr) else .node (.node l c (.node a b d)) rc rr
    | .node .nil rc rr => .node (.node l c .nil) rc rr
    | .nil => .node l c .nil
  else .node l c r
theorem turnT_chunks (l : T) (c : List Nat) (r : T) : (turnT l c r).chunks = l.chunks ++ [c] ++ r.chunks := by
  unfold turnT
  split
  · split
    · split <;> simp [T.chunks]
    · simp [T.chunks]
    · simp [T.chunks]
  · split
    · split
      · split <;> simp [T.chunks]
      · simp [T.chunks]
      · simp [T.chunks]
    · simp [T.chunks]
theorem turnT_bal {l r : T} (c : List Nat) (hl : l.bal) (hr : r.bal) (h1 : l.height ≤ r.height + 2) (h2 : r.height ≤ l.height + 2) :
    (turnT l c r).bal ∧ (l.height ≤ r.height + 1 → r.height ≤ l.height + 1 → (turnT l c r).height = 1 + max l.height r.height) ∧ max l.height r.height ≤ (turnT l c r).height ∧ (turnT l c r).height ≤ 1 + max l.height r.height := by
  unfold turnT
  split
  · rename_i h
    match l, hl, h1, h2, h with
    | .nil, hl, h1, h2, h => simp [T.height] at h
    | .node ll lc .nil, hl, h1, h2, h =>
      simp only [T.bal, T.height] at *
      obtain ⟨hll, _, h5, h6⟩ := hl
      exact ⟨⟨hll, ⟨trivial, hr, by omega, by omega⟩, by omega, by omega⟩, fun _ _ => by omega, by omega, by omega⟩
    | .node ll lc (.node a b d), hl, h1, h2, h =>
      simp only [T.bal, T.height] at *
      obtain ⟨hll, ⟨ha, hd, h3, h4⟩, h5, h6⟩ := hl
      by_cases hc : ll.height < 1 + max a.height d.height
      · simp only [hc, if_true, T.bal, T.height]
        exact ⟨⟨⟨hll, ha, by omega, by omega⟩, ⟨hd, hr, by omega, by omega⟩, by omega, by omega⟩, fun _ _ => by omega, by omega, by omega⟩
      · simp only [hc, if_false, T.bal, T.height]
        exact ⟨⟨hll, ⟨⟨ha, hd, h3, h4⟩, hr, by omega, by omega⟩, by omega, by omega⟩, fun _ _ => by omega, by omega, by omega⟩
  · rename_i h
    split
    · rename_i h'
      match r, hr, h1, h2, h, h' with
      | .nil, hr, h1, h2, h, h' => simp [T.height] at h'
      | .node .nil rc rr, hr, h1, h2, h, h' =>
        simp only [T.bal, T.height] at *
        obtain ⟨_, hrr, h5, h6⟩ := hr
        exact ⟨⟨⟨hl, trivial, by omega, by omega⟩, hrr, by omega, by omega⟩, fun _ _ => by omega, by omega, by omega⟩
      | .node (.node a b d) rc rr, hr, h1, h2, h, h' =>
        simp only [T.bal, T.height] at *
        obtain ⟨⟨ha, hd, h3, h4⟩, hrr, h5, h6⟩ := hr
        by_cases hc : rr.height < 1 + max a.height d.height
        · simp only [hc, if_true, T.bal, T.height]
          exact ⟨⟨⟨hl, ha, by omega, by omega⟩, ⟨hd, hrr, by omega, by omega⟩, by omega, by omega⟩, fun _ _ => by omega, by omega, by omega⟩
        · simp only [hc, if_false, T.bal, T.height]
          exact ⟨⟨⟨hl, ⟨ha, hd, h3, h4⟩, by omega, by omega⟩, hrr, by omega, by omega⟩, fun _ _ => by omega, by omega, by omega⟩
    · rename_i h'
      exact ⟨⟨hl, hr, by omega, by omega⟩, fun _ _ => rfl, by show _ ≤ 1 + max l.height r.height; omega, Nat.le_refl _⟩
end Go.Proofs.YtldhbjmillfjgabGreatDoor

namespace Go.Proofs.YtldhbjmillfjgabGreatDoor
open Go.RowKit
set_option linter.unusedVariables false
attribute [local go_sem] yieldsUpon okUpon

theorem link_fits {pl pr : Option Addr} {l r : T} {c : List Nat} {w : World} (h : big (.node l c r)) (hl : isTree w pl l) (hr : isTree w pr r) :
    Calls Tryz.prog 161 #[.pointer pl, chunkV c, .pointer pr] w fun e w' => ∃ p, e = .returned (.pointer p) ∧ isTree w' p (.node l c r) ∧ Below w.heap.size w w' :=
  link_any pl pr l r c w hl hr (big_node h).2.2.1 (big_node h).2.2.2

set_option maxRecDepth 100000 in
set_option maxHeartbeats 2000000 in
theorem turn_E (pl pr : Option Addr) (l r : T) (c : List Nat) (w : World) (hl : isTree w pl l) (hr : isTree w pr r) (hz : big (.node l c r)) (h1 : ¬ l.height = r.height + 2) (h2 : ¬ r.height = l.height + 2) :
    Calls Tryz.prog 190 #[.pointer pl, chunkV c, .pointer pr] w fun e w' => ∃ p, e = .returned (.pointer p) ∧ isTree w' p (.node l c r) ∧ Below w.heap.size w w' := by
  have hb0 : ∀ o, Below w.heap.size w (w.alloc o) := fun o => (Below.refl _ w).alloc (Nat.le_refl _) o
  have cl := fun o => nheight_any pl l (w.alloc o) (isTree_below (hb0 o) hl)
  have cr := fun o => nheight_any pr r (w.alloc o) (isTree_below (hb0 o) hr)
  have ck := fun o => link_fits hz (isTree_below (hb0 o) hl) (isTree_below (hb0 o) hr)
  obtain ⟨_, _, _, _, _, s3, s4⟩ := big_node hz
  have k1 : (((l.height : Int) - r.height) == 2) = false := by rw [beq_eq_false_iff_ne]; omega
  have k2 : (((l.height : Int) - r.height) == -2) = false := by rw [beq_eq_false_iff_ne]; omega
  have k3 : 0 ≤ (l.height : Int) ∧ (l.height : Int) < 1000000000 := by omega
  have k4 : 0 ≤ (r.height : Int) ∧ (r.height : Int) < 1000000000 := by omega
  clear h1 h2 s3 s4 hz
  have HLR : Hid (isTree w pl l ∧ isTree w pr r) := ⟨hl, hr⟩
  clear hl hr
  generalize (l.height : Int) = x1 at *
  generalize (r.height : Int) = x2 at *
  unfold chunkV at *
  go_enter Tryz.func190, Tryz.ntmps190
  go_wp2_with (first | (go_at_call_of 189 pl; refine (cl _).mono ?_; rintro e w1 ⟨rfl, rfl⟩) | (go_at_call_of 189 pr; refine (cr _).mono ?_; rintro e w1 ⟨rfl, rfl⟩) | (go_at_call 161; refine (ck _).mono ?_; rintro e w2 ⟨p, rfl, ht, hb⟩; have HT : Hid _ := ht; clear ht) | fail)
  go_ret
  exact ⟨p, rfl, HT.out, (hb0 _).trans (hb.mono (hb0 _).size)⟩

end Go.Proofs.YtldhbjmillfjgabGreatDoor
