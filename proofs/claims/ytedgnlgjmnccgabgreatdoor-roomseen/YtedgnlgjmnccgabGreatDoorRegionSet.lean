/-
  A region that draws its order, where blocks are written meanwhile: operations that yield one value in every world of a class (that the others keep) are taken first.
-/
import Derived.Test.YtedgnlgjmnccgabGreatDoorRegionRel
namespace Go.Proofs.YtedgnlgjmnccgabGreatDoor
open Go.RowKit
set_option linter.unusedVariables false

/-- G gives just the worlds of the class; what has grown is of it, too. -/
structure GrowZ (Z : World → Prop) (G : World → World) : Prop where
  grow : ∀ {w w' : World}, Z w → Below w.heap.size w w' → Z w'
  but : ∀ x, Z (G x)
  onto : ∀ w, Z w → G w = w
open Classical in
theorem exists_growZ {Z : World → Prop} {W : World} (hW : Z W) (h : ∀ {w w' : World}, Z w → Below w.heap.size w w' → Z w') : ∃ G, GrowZ Z G :=
  ⟨fun x => if Z x then x else W, h, fun x => by
    show Z (if Z x then x else W)
    split
    · assumption
    · exact hW, fun w h => if_pos h⟩

section
variable {P : Program} {ops : Array Oper} {md : Region.Mode} {m : Nat} {Z : World → Prop} {Q : Exit → Act → World → Prop}

def anyZ (Z : World → Prop) (P : Program) (md : Region.Mode) (ops : Array Oper) (m : Nat) (Q : Exit → Act → World → Prop) : Nat → Array Bool → Act → World → Prop
  | 0, listed, a, w => Region.ready md ops listed = [] ∧ ∀ w', Below w.heap.size w w' → Q .normal a w'
  | fuel + 1, listed, a, w =>
    (Region.ready md ops listed = [] → ∀ w', Below w.heap.size w w' → Q .normal a w') ∧
    ∀ i ∈ Region.ready md ops listed, ∀ w', Below w.heap.size w w' → opG P ops i (fun a' w'' => (i < m → Z w' → Z w'') ∧ anyZ Z P md ops m Q fuel (listed.setIfInBounds i true) a' w'') a w'

theorem any_of_anyZ : ∀ (fuel : Nat) (listed : Array Bool) (a : Act) (w : World), anyZ Z P md ops m Q fuel listed a w → wpAny P md ops Q fuel listed a w
  | 0, _, _, w, h => ⟨h.1, h.2 w (Below.refl _ _)⟩
  | fuel + 1, listed, a, w, h => ⟨fun h0 => h.1 h0 w (Below.refl _ _), fun i hi => by
      have h1 := h.2 i hi w (Below.refl _ _)
      have h2 := opG_mono (fun a' w'' hh => any_of_anyZ fuel _ a' w'' hh.2) h1
      unfold opG at h2
      unfold wpOp
      split
      · rename_i ho; simp only [ho] at h2; exact h2
      · rename_i o ho
        simp only [ho] at h2
        split
        · rename_i hw; simp only [hw, if_true] at h2; exact .inl (upon_of_ok h2)
        · rename_i hw; simp only [hw] at h2; exact h2⟩
theorem anyZ_later : ∀ {fuel : Nat} {listed : Array Bool} {a : Act} {w w2 : World}, anyZ Z P md ops m Q fuel listed a w → Below w.heap.size w w2 → anyZ Z P md ops m Q fuel listed a w2
  | 0, _, _, _, _, h, hb => ⟨h.1, fun w' hb' => h.2 w' (hb.trans (hb'.mono hb.size))⟩
  | _ + 1, _, _, _, _, h, hb => ⟨fun h0 w' hb' => h.1 h0 w' (hb.trans (hb'.mono hb.size)), fun i hi w' hb' => h.2 i hi w' (hb.trans (hb'.mono hb.size))⟩

def yieldsZ (Z : World → Prop) (P : Program) (ops : Array Oper) (o : Oper) (v : Value) (a : Act) : Prop :=
  if Region.wanted o (yielded ops a.tmps) then ∀ w', Z w' → yieldsUpon P w' v ((execOp a.eval o).run P w') else v = undef
theorem yieldsZ_same {o : Oper} {v : Value} {a a' : Act} (hy : yieldsZ Z P ops o v a) (he : execOp a'.eval o = execOp a.eval o)
    (hw : Region.wanted o (yielded ops a'.tmps) = Region.wanted o (yielded ops a.tmps)) : yieldsZ Z P ops o v a' := by
  unfold yieldsZ at *
  rw [hw, he]
  exact hy

theorem opG_of_yieldsZ {i : Nat} {o : Oper} {v : Value} {a : Act} {w' : World} (hi : ops[i]? = some o) (hy : yieldsZ Z P ops o v a) (hb : Z w') {K : Act → World → Prop}
    (h : ∀ w'', Below w'.heap.size w' w'' → K (a.put o.dst v) w'') : opG P ops i K a w' := by
  unfold opG
  simp only [hi]
  unfold yieldsZ at hy
  split
  · rename_i hw
    rw [if_pos hw] at hy
    have h3 := hy w' hb
    generalize (execOp a.eval o).run P w' = r at *
    cases r with
    | ok n w2 =>
      cases n <;> simp only [yieldsUpon] at h3 <;> simp only [okUpon]
      case value u =>
        obtain ⟨e1, e2⟩ := h3
        rw [e2]
        exact h _ (by rw [e1]; exact Below.refl _ _)
      case skip =>
        obtain ⟨e1, e2⟩ := h3
        rw [← e2]
        exact h _ (by rw [e1]; exact Below.refl _ _)
      case enter f args =>
        obtain ⟨e1, hc⟩ := h3
        rw [e1]
        exact hc.mono fun e w'' ⟨he, hw''⟩ => ⟨v, he, h _ hw''⟩
    | halt x w2 => simp only [yieldsUpon] at h3
  · rename_i hw
    rw [if_neg hw] at hy
    rw [← hy]
    exact h _ (Below.refl _ _)

theorem opG_putZ {j : Nat} {oi oj : Oper} {v : Value} (hj : ops[j]? = some oj) (hap : oi.apart ops oj = true) (hsi : ∀ cs b, oi.op ≠ .select cs b) (hsj : ∀ cs b, oj.op ≠ .select cs b)
    {K : Act → World → Prop} {a : Act} {w : World} (hy : yieldsZ Z P ops oi v a) (h : opG P ops j K (a.put oi.dst v) w) :
    opG P ops j (fun a' w' => yieldsZ Z P ops oi v a' ∧ K (a'.put oi.dst v) w') a w := by
  obtain ⟨h1, h2, h3⟩ := Oper.apart_spec hap
  have keep : ∀ u, yieldsZ Z P ops oi v (a.put oj.dst u) := fun u => yieldsZ_same hy (execOp_put oi hsi a oj.dst u h3) (wanted_put oi a oj.dst u h3)
  unfold opG at *
  simp only [hj] at *
  rw [wanted_put oj a oi.dst v h1] at h
  split
  · rename_i hw
    simp only [hw, if_true] at h
    rw [execOp_put oj hsj a oi.dst v h1] at h
    generalize (execOp a.eval oj).run P w = r at *
    cases r with
    | ok n w2 =>
      cases n <;> simp only [okUpon] at h ⊢
      case value u => exact ⟨keep u, by rw [← Act.put_comm a v u h2]; exact h⟩
      case skip => exact ⟨keep _, by rw [← Act.put_comm a v undef h2]; exact h⟩
      case enter f args => exact h.mono fun e w'' ⟨u, e1, e2⟩ => ⟨u, e1, keep u, by rw [← Act.put_comm a v u h2]; exact e2⟩
    | halt x w2 => simp only [okUpon] at h
  · rename_i hw
    simp only [hw] at h
    exact ⟨keep _, by rw [← Act.put_comm a v undef h2]; exact h⟩

theorem anyZ_first (hZ : ∀ {w w' : World}, Z w → Below w.heap.size w w' → Z w') {i : Nat} {oi : Oper} {v : Value} (hi : ops[i]? = some oi) (him : i < m) (hsel : ∀ (j : Nat) (o : Oper) cs b, ops[j]? = some o → o.op ≠ .select cs b) (hlate : lateOk md ops m = true) :
    ∀ (fuel : Nat) (listed : Array Bool) (a : Act) (w : World), Z w →
      (∀ j oj, ops[j]? = some oj → j ≠ i → listed.getD j true = false → (∀ e ∈ oj.after, Region.binds md e = true → e.on ≠ i) → oi.apart ops oj = true) →
      i ∈ Region.ready md ops listed → yieldsZ Z P ops oi v a →
      anyZ Z P md ops m Q fuel (listed.setIfInBounds i true) (a.put oi.dst v) w → anyZ Z P md ops m Q (fuel + 1) listed a w := by
  intro fuel
  induction fuel with
  | zero =>
    intro listed a w hC _ hr hy H
    refine ⟨fun h => (by rw [h] at hr; cases hr), fun j hj w' hb => ?_⟩
    by_cases hji : j = i
    · subst hji; exact opG_of_yieldsZ hi hy (hZ hC hb) fun w'' hb' => ⟨fun _ h => hZ h hb', anyZ_later H (hb.trans (hb'.mono hb.size))⟩
    · have := ready_mono hj hji
      rw [H.1] at this
      cases this
  | succ fuel ih =>
    intro listed a w hC hfree hr hy H
    refine ⟨fun h => (by rw [h] at hr; cases hr), fun j hj w' hb => ?_⟩
    have hC' := hZ hC hb
    by_cases hji : j = i
    · subst hji; exact opG_of_yieldsZ hi hy hC' fun w'' hb' => ⟨fun _ h => hZ h hb', anyZ_later H (hb.trans (hb'.mono hb.size))⟩
    · have h1 := H.2 j (ready_mono hj hji) w' hb
      obtain ⟨hjun, oj, hoj, hall⟩ := mem_ready.1 hj
      have hnot : ∀ e ∈ oj.after, Region.binds md e = true → e.on ≠ i := fun e he hb heq => by
        have h1 := hall e he hb
        have h0 := (mem_ready.1 hr).1
        rw [heq] at h1
        rcases Nat.lt_or_ge i listed.size with h' | h'
        · simp [h'] at h0 h1; rw [h0] at h1; cases h1
        · simp [Array.getElem?_eq_none h'] at h1
      have hjm : j < m := by
        by_cases hjm : j < m
        · exact hjm
        · obtain ⟨e, he, hb, hon⟩ := lateOk_spec hlate hoj hjm him
          exact absurd hon (hnot e he hb)
      have h2 := opG_putZ hoj (hfree j oj hoj hji hjun hnot) (fun cs b => hsel i oi cs b hi) (fun cs b => hsel j oj cs b hoj) hy h1
      have hfree' : ∀ k ok, ops[k]? = some ok → k ≠ i → (listed.setIfInBounds j true).getD k true = false →
          (∀ e ∈ ok.after, Region.binds md e = true → e.on ≠ i) → oi.apart ops ok = true := fun k ok hk hki hun hno => by
        refine hfree k ok hk hki ?_ hno
        by_cases hjk : j = k
        · subst hjk; exact hjun
        · rw [getD_set_ne true hjk] at hun; exact hun
      refine opG_mono (fun a' w'' h3 => ?_) h2
      obtain ⟨h3y, h3g, h3a⟩ := h3
      refine ⟨fun _ => h3g hjm, ih (listed.setIfInBounds j true) a' w'' (h3g hjm hC') hfree' (ready_mono hr (Ne.symm hji)) h3y ?_⟩
      rw [Array.setIfInBounds_comm _ _ hji]
      exact h3a

theorem anyZ_step {i fuel : Nat} {o : Oper} {listed : Array Bool} {a : Act} {w : World} {G : World → World} (hG : GrowZ Z G) (hw0 : Z w) (hi : ops[i]? = some o) (him : decide (i < m) = true) (hs : (Region.noSelect ops && lateOk md ops m) = true)
    (hf : (Region.free md ops listed i && (Region.ready md ops listed).contains i) = true)
    (h : ∀ K : Act → Prop, (∀ a, anyZ Z P md ops m Q fuel (listed.setIfInBounds i true) a w → K a) → if Region.wanted o (yielded ops a.tmps) then ∃ v, (∀ x, yieldsUpon P (G x) v ((execOp a.eval o).run P (G x))) ∧ K (a.put o.dst v) else K (a.put o.dst undef)) :
    anyZ Z P md ops m Q (fuel + 1) listed a w := by
  have h1 := h _ fun _ h => h
  have him' : i < m := of_decide_eq_true him
  rw [Bool.and_eq_true] at hs hf
  split at h1
  · rename_i hw
    obtain ⟨v, h2, h3⟩ := h1
    refine anyZ_first hG.grow hi him' (Region.noSelect_spec hs.1) hs.2 fuel listed a w hw0 (Region.free_spec hi hf.1) (by simpa using hf.2) ?_ h3
    unfold yieldsZ
    rw [if_pos hw]
    intro w' hb
    have := h2 w'
    rw [hG.onto w' hb] at this
    exact this
  · rename_i hw
    refine anyZ_first hG.grow hi him' (Region.noSelect_spec hs.1) hs.2 fuel listed a w hw0 (Region.free_spec hi hf.1) (by simpa using hf.2) ?_ h1
    unfold yieldsZ
    rw [if_neg hw]

/-- One of those that may come up: what is asked of it. -/
def askZ (Z : World → Prop) (P : Program) (md : Region.Mode) (ops : Array Oper) (m : Nat) (Q : Exit → Act → World → Prop) (fuel : Nat) (listed : Array Bool) (a : Act) (w : World) (i : Nat) : Prop :=
  ∃ o, ops[i]? = some o ∧ ∀ w', Below w.heap.size w w' → ∀ K : Act → World → Prop, (∀ a' w'', (Z w' → Z w'') → anyZ Z P md ops m Q fuel (listed.setIfInBounds i true) a' w'' → K a' w'') → if Region.wanted o (yielded ops a.tmps) then okUpon P o a K ((execOp a.eval o).run P w') else K (a.put o.dst undef) w'
theorem anyZ_one {i fuel : Nat} {listed : Array Bool} {a : Act} {w : World} (hr : Region.ready md ops listed = [i]) (h : askZ Z P md ops m Q fuel listed a w i) : anyZ Z P md ops m Q (fuel + 1) listed a w := by
  obtain ⟨o, hi, h⟩ := h
  refine ⟨fun h0 => absurd (hr.symm.trans h0) (by simp), fun j hj w' hb => ?_⟩
  rw [hr, List.mem_singleton] at hj
  subst hj
  unfold opG
  simp only [hi]
  exact h w' hb _ fun a' w'' hb' ha => ⟨fun _ => hb', ha⟩
theorem anyZ_end {fuel : Nat} {listed : Array Bool} {a : Act} {w : World} (hr : Region.ready md ops listed = []) (h : ∀ w', Below w.heap.size w w' → Q .normal a w') : anyZ Z P md ops m Q fuel listed a w := by
  cases fuel with
  | zero => exact ⟨hr, h⟩
  | succ n => exact ⟨fun _ => h, fun i hi => (by rw [hr] at hi; cases hi)⟩
theorem wp_region_set {id : Nat} {a : Act} {w : World} {l : List Oper} (Z : World → Prop) (m n : Nat) (hm : P.follows .mixedOrders = true) (hn : l.length = n)
    (h : ∀ w', Below w.heap.size w w' → anyZ Z P .any l.toArray m Q n (Array.replicate n false) a w') : (Code.region id l.toArray true).wp P Q a w :=
  wp_region_any hm (any_of_anyZ (Z := Z) _ _ _ _ (by subst hn; simpa using h { w with drawn := w.drawn + 1 } (Below.drew (Below.refl _ w))))
end
end Go.Proofs.YtedgnlgjmnccgabGreatDoor
