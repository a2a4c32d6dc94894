/-
  RegionRel's walk within a loop's round.
-/
import Derived.Test.YtedgnlgjmnccgabGreatDoorRegionRel
namespace Go.Proofs.YtedgnlgjmnccgabGreatDoor
open Go.RowKit

section
variable {P : Program} {ops : Array Oper} {md : Region.Mode} {m l0 n : Nat} {Q : Exit → Act → World → Prop}

theorem uponR_of_ok {o : Oper} {a : Act} {K : Act → World → Prop} {r : Result Next} (hh : okUpon P o a K r) : o.uponIn (Fence.wide.inRound l0) n P a K Q r := by
  cases r with
  | ok x w =>
    cases x <;> simp only [okUpon] at hh <;> simp only [Oper.uponIn]
    case value => exact hh
    case skip => exact hh
    case enter => exact ⟨fun h => (by cases h), (CallsIn.inRound l0 (callsIn_wide.2 hh)).mono fun e w ⟨v, e1, e2⟩ => by subst e1; exact e2⟩
  | halt x w => simp only [okUpon] at hh

theorem anyR_of_anyG (hnd : ∀ (i : Nat) (o : Oper), ops[i]? = some o → ∀ c, o.op ≠ .defer c) : ∀ (fuel : Nat) (listed : Array Bool) (a : Act) (w : World), anyG P md ops m Q fuel listed a w → wpAnyIn (Fence.wide.inRound l0) n P md ops Q fuel listed a w
  | 0, _, _, w, h => ⟨h.1, h.2 w (Below.refl _ _)⟩
  | fuel + 1, listed, a, w, h => ⟨fun h0 => h.1 h0 w (Below.refl _ _), fun i hi => by
      have h1 := h.2 i hi w (Below.refl _ _)
      have h2 := opG_mono (fun a' w'' hh => anyR_of_anyG hnd fuel _ a' w'' hh.2) h1
      unfold opG at h2
      unfold wpOpIn
      split
      · rename_i ho; simp only [ho] at h2; exact h2
      · rename_i o ho
        simp only [ho] at h2
        split
        · rename_i hw
          simp only [hw, if_true] at h2
          unfold Oper.wpIn
          refine ⟨fun _ _ => trivial, ?_⟩
          rw [Fence.inRound_round, Oper.semAt_some _ _ _ (hnd i o ho)]
          exact uponR_of_ok h2
        · rename_i hw; simp only [hw] at h2; exact ⟨fun _ _ => trivial, h2⟩⟩
end

theorem wpR_region_rel {P : Program} {Q : Exit → Act → World → Prop} {id l0 k : Nat} {a : Act} {w : World} {l : List Oper} (m n : Nat) (hm : P.follows .mixedOrders = true) (hn : l.length = n) (hnd : noDefer l = true)
    (h : ∀ w', Below w.heap.size w w' → anyG P .any l.toArray m Q n (Array.replicate n false) a w') : (Code.region id l.toArray true).wpIn (Fence.wide.inRound l0) k P Q a w :=
  wpIn_region_any hm (anyR_of_anyG (fun i o hi => noDefer_at hnd i o (by simpa using hi)) _ _ _ _ (by subst hn; simpa using h { w with drawn := w.drawn + 1 } (Below.drew (Below.refl _ w))))
end Go.Proofs.YtedgnlgjmnccgabGreatDoor
