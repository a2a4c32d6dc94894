/-
  rosettalaw.ShapePlays: the law's own walk.
-/
import Derived.Test.YtldhbjmillfjgabGreatDoorShapeNew
import Derived.Test.YtldhbjmillfjgabGreatDoorOpsOpen
import Derived.Test.YtldhbjmillfjgabGreatDoorOpsChk
import Derived.Test.YtldhbjmillfjgabGreatDoorOpsOrd
import Derived.Test.YtldhbjmillfjgabGreatDoorOpsInv
import Derived.Test.YtldhbjmillfjgabGreatDoorHalves
import Derived.Test.YtldhbjmillfjgabGreatDoorBackPure
import Derived.Deep.RegionWith
import Derived.Deep.QuietTactic
import Derived.BigQuiet
import Derived.Test.YtldhbjmillfjgabGreatDoorUtf
import Derived.Test.YtldhbjmillfjgabGreatDoorOpsGather
import Derived.Laws.EntriesVeiled
import Derived.Test.YtldhbjmillfjgabGreatDoorOpsCheckLaw
import Derived.Deep.LoopGhost
import Derived.Test.YtldhbjmillfjgabGreatDoorOpsTransF
import Derived.Deep.Cut
import Derived.Test.YtldhbjmillfjgabGreatDoorUnits
import Derived.Shelf.Strings.Builder1
import Derived.Shelf.Small.Utf8
import Derived.Shelf.Strings.BuilderF
import Derived.Shelf.Strings.BuilderK
import Derived.Shelf.Utf8.AppendRune
import Derived.Shelf.Utf8.AppendRunePlain
import Derived.Shelf.Utf8.RuneCount
import Derived.Shelf.LaysM
import Derived.Shelf.Strconv.Clone
import Derived.Shelf.Strings.Search1
import Derived.Shelf.Strings.Search2
import Derived.Shelf.Strings.Search3
import Derived.Shelf.Strings.Count
import Derived.Shelf.Strings.Shaped
import Derived.Shelf.Strings.Split
import Derived.Shelf.Unicode.Decode
import Derived.Shelf.Strings.RuneCount
import Derived.Shelf.Unicode.DecodeSlow
import Derived.Shelf.Unicode.DecodeAny
import Derived.Shelf.Strings.BuilderCap
import Derived.Test.YtldhbjmillfjgabGreatDoorProg
import Derived.Test.YtldhbjmillfjgabGreatDoorReadsFacts
import Derived.RangeFuncRecord
import Derived.Test.YtldhbjmillfjgabGreatDoorWalkIter
import Derived.Test.YtldhbjmillfjgabGreatDoorRoundGrow
import Derived.Maps.OwnOps
import Derived.Test.YtldhbjmillfjgabGreatDoorBridgeAll
namespace Go.Proofs.YtldhbjmillfjgabGreatDoor
open Go.RowKit
set_option linter.unusedVariables false
attribute [local go_sem] Oper.semAt_some

theorem shtext_any (b u : Nat) (hu : unitN u) (rs : List Nat) (w : World) (h : isShape w b u rs) (hR : ∀ r ∈ rs, isRune r) (hz : C1 rs ≤ 1000000) (hT : Lib.Utf8Tabs 2 3 w) : Calls Tryz.prog 24 #[.pointer (some ⟨b, 0, none⟩)] w fun e w' => e = .returned (.string (bytesOf rs)) ∧ Below w.heap.size w w' := by
  rcases hu with rfl | rfl | rfl
  · exact shtext1_any b rs w h hR hz hT
  · exact shtext2_any b rs w h hR hz hT
  · exact shtext3_any b rs w h hR hz hT
theorem shapply_any (b u : Nat) (hu : unitN u) (rs : List Nat) (qs : List Pt) (v : Value) (w : World) (h : isShape w b u rs) (hR : ∀ r ∈ rs, isRune r) (hz : C1 rs ≤ 100000) (hT : Lib.Utf8Tabs 2 3 w) (hr : opAt w v qs) (hwf : ∀ q ∈ qs, wfP q) (hl : qs.length ≤ 1000) (hpl : ∀ q ∈ qs, q.put.length ≤ 1000000) :
    Calls Tryz.prog 22 #[.pointer (some ⟨b, 0, none⟩), v] w fun e w' => e = .returned (errV (shE (u : Int) rs qs)) ∧ isShape w' b u (shR (u : Int) rs qs) ∧ Below b w w' := by
  rcases hu with rfl | rfl | rfl
  · exact shapply1_any b rs qs v w h hR hz hT hr hwf hl hpl
  · exact shapply2_any b rs qs v w h hR hz hT hr hwf hl hpl
  · exact shapply3_any b rs qs v w h hR hz hT hr hwf hl hpl
theorem shnew_good (u : Nat) (hu : unitN u) (rs : List Nat) (hR : ∀ r ∈ rs, isRune r) (hz : C1 rs ≤ 8000) (w : World) (hT : Lib.Utf8Tabs 2 3 w) : Calls Tryz.prog 21 #[.int .i64 (u : Int), .string (bytesOf rs)] w fun e w' => ∃ b, e = .returned (.tuple #[.pointer (some ⟨b, 0, none⟩), .nilIface]) ∧ isShape w' b u rs ∧ w.heap.size ≤ b ∧ Below w.heap.size w w' := by
  rcases hu with rfl | rfl | rfl
  · exact shnew1_good rs hR hz w hT
  · exact shnew2_good rs hR hz w hT
  · exact shnew3_good rs hR hz w hT

theorem sh_bad {u : Int} (hu : unitOk u) {rs : List Nat} {q : List Pt} (h : tzE rs u 1 q ≠ 0) : shE u rs q = tzE rs u 1 q ∧ shR u rs q = rs := by
  have h1 : (uB u && uB 1) = true := by rw [(uB_iff u).2 hu, (uB_iff 1).2 (.inl rfl)]; rfl
  have key : shE u rs q = tzE rs u 1 q := by
    unfold tzE at h ⊢
    rw [h1, if_pos rfl] at h ⊢
    unfold shE
    by_cases hc : chkE q (by_ u rs) = 0
    · rw [if_pos hc] at h
      rw [if_pos hc, if_pos hc]
      obtain ⟨_, h2, h3⟩ := chkE_parts hc
      obtain ⟨t1, _⟩ := turn_in hu 1 q rs h3 (Int.le_of_eq h2)
      rw [t1] at h ⊢
      unfold plE
      split at h
      · exact absurd rfl h
      · rename_i ho; rw [if_neg ho, if_neg ho]
    · rw [if_neg hc, if_neg hc]
  exact ⟨key, by unfold shR; rw [if_neg (by rw [key]; exact h)]⟩
theorem sh_fine {u : Int} (hu : unitOk u) {rs : List Nat} {q : List Pt} (hR : ∀ r ∈ rs, isRune r) (h : tzE rs u 1 q = 0) :
    good (tzO rs u 1 q) (encs rs) ∧ applyP (tzO rs u 1 q) (encs rs) = encs (comesZ u rs q) ∧ (∀ r ∈ comesZ u rs q, isRune r) ∧ shE u rs q = (if C1 (comesZ u rs q) ≤ 8000 then 0 else 12) ∧ shR u rs q = (if C1 (comesZ u rs q) ≤ 8000 then comesZ u rs q else rs) ∧ chkE q (by_ u rs) = 0 ∧ okZ u rs q = true ∧ tzO rs u 1 q = inZ u 1 rs q := by
  have h1 : (uB u && uB 1) = true := by rw [(uB_iff u).2 hu, (uB_iff 1).2 (.inl rfl)]; rfl
  unfold tzE at h
  unfold tzO
  rw [h1, if_pos rfl] at h ⊢
  have hc : chkE q (by_ u rs) = 0 := by
    by_cases hc : chkE q (by_ u rs) = 0
    · exact hc
    · rw [if_neg hc] at h; exact absurd h hc
  rw [if_pos hc] at h ⊢
  obtain ⟨hp1, h2, h3⟩ := chkE_parts hc
  obtain ⟨t1, t2⟩ := turn_in hu 1 q rs h3 (Int.le_of_eq h2)
  have ho : okZ u rs q = true := by
    rw [t1] at h
    cases e : okZ u rs q with
    | true => rfl
    | false => rw [e] at h; cases h
  rw [t2, ho, if_pos rfl]
  obtain ⟨il, ia⟩ := in_left hu q rs hp1 h2 hR ho
  have hE : shE u rs q = (if C1 (comesZ u rs q) ≤ 8000 then 0 else 12) := by
    unfold shE plE
    rw [if_pos hc, if_pos ho]
  refine ⟨il.good, ia, comes_rune hu q rs h3 (Int.le_of_eq h2) ho hR, hE, ?_, hc, rfl, rfl⟩
  unfold shR
  rw [hE]
  by_cases h8 : C1 (comesZ u rs q) ≤ 8000
  · rw [if_pos h8, if_pos rfl, if_pos h8]
  · rw [if_neg h8, if_neg (by decide), if_neg h8]
theorem in_puts {u : Int} : ∀ (qs : List Pt) (R : List Nat), (∀ q ∈ qs, oneB q = true) → putsP (inZ u 1 R qs) = putsP qs
  | [], _, _ => rfl
  | q :: qs, R, h => by
    have ih := in_puts (u := u) qs (restZ u R (lenP q)) fun x hx => h x (by simp [hx])
    have e : ∀ (p : Pt) (l : List Pt), putsP (p :: l) = p.put.length + putsP l := fun p l => by simp [putsP]
    rw [inZ, e, e, ih, unit_put (h q (by simp))]
theorem in_len {u v : Int} : ∀ (qs : List Pt) (R : List Nat), (inZ u v R qs).length = qs.length
  | [], _ => rfl
  | q :: qs, R => by rw [inZ, List.length_cons, List.length_cons, in_len qs]
theorem putsP_le : ∀ (qs : List Pt), (∀ q ∈ qs, q.put.length ≤ 300) → putsP qs ≤ 300 * qs.length
  | [], _ => by simp [putsP]
  | q :: qs, h => by
    have ih := putsP_le qs fun x hx => h x (by simp [hx])
    have := h q (by simp)
    have e : putsP (q :: qs) = q.put.length + putsP qs := by simp [putsP]
    rw [e, List.length_cons]; omega

theorem put_le_puts (p : Pt) : ∀ (qs : List Pt), p ∈ qs → p.put.length ≤ putsP qs
  | [], h => by cases h
  | q :: qs, h => by
    have e : putsP (q :: qs) = q.put.length + putsP qs := by simp [putsP]
    rw [e]
    rcases List.mem_cons.1 h with rfl | h
    · omega
    · have := put_le_puts p qs h; omega
end Go.Proofs.YtldhbjmillfjgabGreatDoor
