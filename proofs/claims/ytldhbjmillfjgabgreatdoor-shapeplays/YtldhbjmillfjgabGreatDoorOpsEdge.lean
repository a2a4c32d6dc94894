/-
  rosettaref's edge, and what it says of an operation's parts.
-/
import Derived.Test.YtldhbjmillfjgabGreatDoorOpsOrd
namespace Go.Proofs.YtldhbjmillfjgabGreatDoor
open Go.RowKit
set_option linter.unusedVariables false
attribute [local go_sem] Oper.semAt_some

/-- What the document asks of the places where parts meet. -/
def refBad : List Pt → List UInt8 → Bool
  | [], _ => false
  | p :: ps, s => badPiece s || badPiece (s.drop (lenP p).toNat) || refBad ps (s.drop (lenP p).toNat)
theorem badO_head (ps : List Pt) (s : List UInt8) (hl : leftP ps s = []) (h : badPiece s = true) : badO ps s = true := by
  induction ps generalizing s with
  | nil =>
    have : s = [] := hl
    rw [this] at h
    cases h
  | cons p ps ih =>
    rw [badO, Bool.or_eq_true]
    cases hn : (lenP p).toNat with
    | zero =>
      refine .inr ?_
      have hl' : leftP ps (s.drop (lenP p).toNat) = [] := hl
      rw [hn] at hl'
      exact ih _ hl' h
    | succ m =>
      refine .inl ?_
      cases s with
      | nil => cases h
      | cons b l => exact h
theorem refBad_eq (ps : List Pt) (s : List UInt8) (hl : leftP ps s = []) : refBad ps s = badO ps s := by
  induction ps generalizing s with
  | nil => rfl
  | cons p ps ih =>
    have hl' : leftP ps (s.drop (lenP p).toNat) = [] := hl
    have e := ih _ hl'
    rw [Bool.eq_iff_iff]
    constructor
    · intro h
      rw [refBad, Bool.or_eq_true, Bool.or_eq_true] at h
      rcases h with (h | h) | h
      · exact badO_head (p :: ps) s hl h
      · rw [badO, Bool.or_eq_true]; exact .inr (badO_head ps _ hl' h)
      · rw [badO, Bool.or_eq_true]; rw [e] at h; exact .inr h
    · intro h
      rw [badO, Bool.or_eq_true] at h
      rw [refBad, Bool.or_eq_true, Bool.or_eq_true]
      rcases h with h | h
      · refine .inl (.inl ?_)
        cases s with
        | nil => simp [badPiece] at h
        | cons b l =>
          cases hn : (lenP p).toNat with
          | zero => rw [hn] at h; cases h
          | succ m => rw [hn] at h; exact h
      · rw [← e] at h; exact .inr h

theorem startO_eq (b : UInt8) : startO b = (decide ((b.toNat : Int) < 128) || decide (192 ≤ (b.toNat : Int))) := by
  have hb := b.toNat_lt
  unfold startO Lib.runeStart
  rw [Bool.eq_iff_iff]
  simp only [bne_iff_ne, ne_eq, Bool.or_eq_true, decide_eq_true_eq]
  omega
set_option maxRecDepth 100000 in
set_option maxHeartbeats 1000000 in
theorem edge_end (s : List UInt8) (w : World) (hs : s.length < 1000000000) :
    Calls Tryz.prog 87 #[.string ⟨s.toArray⟩, .int .i64 s.length] w fun e w' => e = .returned (.bool true) ∧ w' = w := by
  have hz := str_size s
  go_enter Tryz.func87, Tryz.ntmps87
  go_wp2
  go_ret
  exact ⟨rfl, rfl⟩
set_option maxRecDepth 100000 in
set_option maxHeartbeats 1000000 in
theorem edge_mid (s : List UInt8) (k : Nat) (w : World) (hs : s.length < 1000000000) (hk : k < s.length) :
    Calls Tryz.prog 87 #[.string ⟨s.toArray⟩, .int .i64 k] w fun e w' => e = .returned (.bool (!badPiece (s.drop k))) ∧ w' = w := by
  have hz := str_size s
  have hd : s.drop k = s[k] :: s.drop (k + 1) := List.drop_eq_getElem_cons hk
  have hb : badPiece (s.drop k) = !startO s[k] := by rw [hd]; rfl
  rw [startO_eq] at hb
  obtain ⟨R, hR⟩ : ∃ R, (!badPiece (s.drop k)) = R := ⟨_, rfl⟩
  have HB : Hid (R = (decide ((s[k].toNat : Int) < 128) || decide (192 ≤ (s[k].toNat : Int)))) := by
    show R = _
    rw [← hR, hb, Bool.not_not]
  rw [hR]
  clear hd hb hR
  go_enter Tryz.func87, Tryz.ntmps87
  go_wp2
  all_goals go_ret
  all_goals refine ⟨?_, rfl⟩
  all_goals rw [HB.out]
  all_goals have hne : ((k : Int) == (s.length : Int)) = false := beq_eq_false_iff_ne.2 (by omega)
  all_goals first
    | (rw [hne, Bool.false_or]; rfl)
    | (rename_i h; have h' : (s[k].toNat : Int) < 128 := h; rw [decide_eq_true h']; rfl)
theorem edge_any (s : List UInt8) (k : Nat) (w : World) (hs : s.length < 1000000000) (hk : k ≤ s.length) :
    Calls Tryz.prog 87 #[.string ⟨s.toArray⟩, .int .i64 k] w fun e w' => e = .returned (.bool (!badPiece (s.drop k))) ∧ w' = w := by
  rcases Nat.lt_or_ge k s.length with h | h
  · exact edge_mid s k w hs h
  · obtain rfl : k = s.length := Nat.le_antisymm hk h
    rw [List.drop_length]
    exact edge_end s w hs
end Go.Proofs.YtldhbjmillfjgabGreatDoor
