/-
  rosettalaw.ShapePlays: the law's own walk.
-/
import Derived.Test.YtedgnlgjmnccgabGreatDoorShapeNew
import Derived.Test.YtedgnlgjmnccgabGreatDoorOpsList
import Derived.Test.YtedgnlgjmnccgabGreatDoorOpsOrd
import Derived.Test.YtedgnlgjmnccgabGreatDoorOpsInv
import Derived.Test.YtedgnlgjmnccgabGreatDoorOpsChk
import Derived.Test.YtedgnlgjmnccgabGreatDoorHalves
import Derived.Test.YtedgnlgjmnccgabGreatDoorBackPure
import Derived.Deep.RegionWith
import Derived.Deep.QuietTactic
import Derived.BigQuiet
import Derived.Test.YtedgnlgjmnccgabGreatDoorUtf
import Derived.Test.YtedgnlgjmnccgabGreatDoorOpsGather
import Derived.Laws.EntriesVeiled
import Derived.Test.YtedgnlgjmnccgabGreatDoorOpsBoth
import Derived.Deep.LoopGhost
import Derived.Test.YtedgnlgjmnccgabGreatDoorOpsTransE
import Derived.Deep.Cut
import Derived.Test.YtedgnlgjmnccgabGreatDoorUnits
import Derived.Shelf.Strings.Builder1
import Derived.Shelf.Strings.Builder2
import Derived.Shelf.Small.Utf8
import Derived.Shelf.Strings.BuilderF
import Derived.Shelf.Strings.BuilderK
import Derived.Shelf.Utf8.AppendRunePlain
import Derived.Shelf.Utf8.RuneCount
import Derived.Shelf.Strings.Builder2Cap
import Derived.Shelf.LaysM
import Derived.Shelf.Strconv.Clone
import Derived.Shelf.Strings.Search1
import Derived.Shelf.Strings.Search2
import Derived.Shelf.Strings.Search3
import Derived.Shelf.Strings.Cut
import Derived.Shelf.Strings.Count
import Derived.Shelf.Strings.Shaped
import Derived.Shelf.Strings.RuneCount
import Derived.Shelf.Unicode.DecodeSlow
import Derived.Shelf.Unicode.DecodeAny
import Derived.Shelf.Strings.BuilderCap
import Derived.Test.YtedgnlgjmnccgabGreatDoorProg
import Derived.Test.YtedgnlgjmnccgabGreatDoorReadsFacts
import Derived.RangeFuncRecord
import Derived.Test.YtedgnlgjmnccgabGreatDoorWalkIter
import Derived.Test.YtedgnlgjmnccgabGreatDoorRoundGrow
import Derived.Maps.OwnOps
import Derived.Test.YtedgnlgjmnccgabGreatDoorBridgeAll
namespace Go.Proofs.YtedgnlgjmnccgabGreatDoor
open Go.RowKit
set_option linter.unusedVariables false
attribute [local go_sem] Oper.semAt_some

theorem shlen_any (b u : Nat) (hu : unitN u) (rs : List Nat) (w : World) (h : isShape w b u rs) : Calls Tryz.prog 33 #[.pointer (some ⟨b, 0, none⟩)] w fun e w' => e = .returned (.int .i64 (by_ (u : Int) rs)) ∧ w' = w := by
  rcases hu with rfl | rfl | rfl
  · exact shlen1_any b rs w h
  · exact shlen2_any b rs w h
  · exact shlen3_any b rs w h
theorem shnew_good (u : Nat) (hu : unitN u) (rs : List Nat) (hR : ∀ r ∈ rs, isRune r) (hz : C1 rs ≤ 8000) (w : World) (hT : Lib.Utf8Tabs 2 3 w) : Calls Tryz.prog 25 #[.int .i64 (u : Int), .string (bytesOf rs)] w fun e w' => ∃ b, e = .returned (.tuple #[.pointer (some ⟨b, 0, none⟩), .nilIface]) ∧ isShape w' b u rs ∧ w.heap.size ≤ b ∧ Below w.heap.size w w' := by
  rcases hu with rfl | rfl | rfl
  · exact shnew1_good rs hR hz w hT
  · exact shnew2_good rs hR hz w hT
  · exact shnew3_good rs hR hz w hT

theorem sh_fine {u : Int} (hu : unitOk u) {rs : List Nat} {q : List Pt} (hR : ∀ r ∈ rs, isRune r) (h : tzE rs u 1 q = 0) :
    good (tzO rs u 1 q) (encs rs) ∧ applyP (tzO rs u 1 q) (encs rs) = encs (comesZ u rs q) ∧ (∀ r ∈ comesZ u rs q, isRune r) ∧ shE u rs q = (if C1 (comesZ u rs q) ≤ 8000 then 0 else 12) ∧ shR u rs q = (if C1 (comesZ u rs q) ≤ 8000 then comesZ u rs q else rs) ∧ chkE q (by_ u rs) = 0 ∧ okZ u rs q = true ∧ tzO rs u 1 q = inZ u 1 rs q := by
  have h1 : (uB u && uB 1) = true := by rw [(uB_iff u).2 hu, (uB_iff 1).2 (.inl rfl)]; rfl
  unfold tzE at h
  unfold tzO
  rw [h1, if_pos rfl] at h ⊢
  have hc : chkE q (by_ u rs) = 0 := by
    by_cases hc : chkE q (by_ u rs) = 0
    · exact hc
    · rw [if_neg hc] at h; exact absurd h hc
  rw [if_pos hc] at h ⊢
  obtain ⟨hp1, h2, h3⟩ := chkE_parts hc
  obtain ⟨t1, t2⟩ := turn_in hu 1 q rs h3 (Int.le_of_eq h2)
  have ho : okZ u rs q = true := by
    rw [t1] at h
    cases e : okZ u rs q with
    | true => rfl
    | false => rw [e] at h; cases h
  rw [t2, ho, if_pos rfl]
  obtain ⟨il, ia⟩ := in_left hu q rs hp1 h2 hR ho
  have hE : shE u rs q = (if C1 (comesZ u rs q) ≤ 8000 then 0 else 12) := by
    unfold shE plE
    rw [if_pos hc, if_pos ho]
  refine ⟨il.good, ia, comes_rune hu q rs h3 (Int.le_of_eq h2) ho hR, hE, ?_, hc, rfl, rfl⟩
  unfold shR
  rw [hE]
  by_cases h8 : C1 (comesZ u rs q) ≤ 8000
  · rw [if_pos h8, if_pos rfl, if_pos h8]
  · rw [if_neg h8, if_neg (by decide), if_neg h8]
theorem in_puts {u : Int} : ∀ (qs : List Pt) (R : List Nat), (∀ q ∈ qs, oneB q = true) → putsP (inZ u 1 R qs) = putsP qs
  | [], _, _ => rfl
  | q :: qs, R, h => by
    have ih := in_puts (u := u) qs (restZ u R (lenP q)) fun x hx => h x (by simp [hx])
    have e : ∀ (p : Pt) (l : List Pt), putsP (p :: l) = p.put.length + putsP l := fun p l => by simp [putsP]
    rw [inZ, e, e, ih, unit_put (h q (by simp))]
theorem putsP_le : ∀ (qs : List Pt), (∀ q ∈ qs, q.put.length ≤ 300) → putsP qs ≤ 300 * qs.length
  | [], _ => by simp [putsP]
  | q :: qs, h => by
    have ih := putsP_le qs fun x hx => h x (by simp [hx])
    have := h q (by simp)
    have e : putsP (q :: qs) = q.put.length + putsP qs := by simp [putsP]
    rw [e, List.length_cons]; omega

end Go.Proofs.YtedgnlgjmnccgabGreatDoor
