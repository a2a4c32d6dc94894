/-
  Behind a region's early operations: what is late may be walked over another class.
-/
import Derived.Test.YtedgnlgjmnccgabGreatDoorRegionSet
namespace Go.Proofs.YtedgnlgjmnccgabGreatDoor
open Go.RowKit
set_option linter.unusedVariables false

section
variable {P : Program} {ops : Array Oper} {md : Region.Mode} {m m' : Nat} {Z Z' : World → Prop} {Q : Exit → Act → World → Prop}
theorem anyZ_past : ∀ (fuel : Nat) (listed : Array Bool) (a : Act) (w : World), (∀ i, i < m → listed.getD i true = true) → anyZ Z' P md ops m' Q fuel listed a w → anyZ Z P md ops m Q fuel listed a w
  | 0, _, _, _, _, h => h
  | fuel + 1, listed, a, w, hl, h => by
    refine ⟨h.1, fun i hi w' hb => opG_mono (fun a' w'' h3 => ?_) (h.2 i hi w' hb)⟩
    refine ⟨fun him => ?_, anyZ_past fuel _ a' w'' (fun j hj => ?_) h3.2⟩
    · obtain ⟨hun, _⟩ := mem_ready.1 hi
      rw [hl i him] at hun
      cases hun
    · by_cases hij : i = j
      · subst hij
        by_cases hs : i < listed.size <;> simp [hs]
      · rw [getD_set_ne true hij]; exact hl j hj
theorem anyZ_pastB {fuel : Nat} {listed : Array Bool} {a : Act} {w : World} (hl : ((List.range m).all fun i => listed.getD i true) = true) (h : anyZ (fun _ => True) P md ops ops.size Q fuel listed a w) : anyZ Z P md ops m Q fuel listed a w :=
  anyZ_past fuel listed a w (fun i hi => List.all_eq_true.1 hl i (List.mem_range.2 hi)) h
end
end Go.Proofs.YtedgnlgjmnccgabGreatDoor
