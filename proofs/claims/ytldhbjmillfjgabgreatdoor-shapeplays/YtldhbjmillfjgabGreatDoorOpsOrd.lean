/-
  ops.checkOver: what it says of an operation over a text.
-/
import Derived.Test.YtldhbjmillfjgabGreatDoorOpsOver
import Derived.Test.YtldhbjmillfjgabGreatDoorOpsChk
import Derived.Shelf.Strings.Builder1
import Derived.Shelf.Small.Utf8
import Derived.Shelf.Strings.BuilderF
import Derived.Shelf.Strings.BuilderK
import Derived.Shelf.Utf8.AppendRune
import Derived.Shelf.Utf8.AppendRunePlain
import Derived.Shelf.Utf8.RuneCount
import Derived.Shelf.LaysM
import Derived.Shelf.Strconv.Clone
import Derived.Shelf.Strings.Search1
import Derived.Shelf.Strings.Search2
import Derived.Shelf.Strings.Search3
import Derived.Shelf.Strings.Count
import Derived.Shelf.Strings.Shaped
import Derived.Shelf.Strings.Split
import Derived.Shelf.Unicode.Decode
import Derived.Shelf.Strings.RuneCount
import Derived.Shelf.Unicode.DecodeSlow
import Derived.Shelf.Unicode.DecodeAny
import Derived.Shelf.Strings.BuilderCap
import Derived.Test.YtldhbjmillfjgabGreatDoorProg
namespace Go.Proofs.YtldhbjmillfjgabGreatDoor
open Go.RowKit
set_option linter.unusedVariables false
attribute [local go_sem] Oper.semAt_some

/-- A byte that begins a rune. -/
def startO (b : UInt8) : Bool := Lib.runeStart (b.toNat : Int)
/-- A piece that begins within a rune. -/
def badPiece (l : List UInt8) : Bool := match l with
  | [] => false
  | b :: _ => !startO b
def badO : List Pt → List UInt8 → Bool
  | [], _ => false
  | p :: ps, s => badPiece (s.take (lenP p).toNat) || badO ps (s.drop (lenP p).toNat)
theorem chkE_ok {ps : List Pt} {n : Int} (h : chkE ps n = 0) : ∀ p ∈ ps, soundP p := by
  unfold chkE at h
  split at h
  · rename_i h1
    exact fun p hp => (one_sound (chk1_ones h1 p hp).1).1
  · rename_i h1
    exact absurd h h1
theorem chk2_fits {ps : List Pt} {s : List UInt8} (hs : ∀ p ∈ ps, soundP p) (h : chk2 ps (s.length : Int) = 0) : fitsP ps s ∧ leftP ps s = [] := by
  induction ps generalizing s with
  | nil =>
    unfold chk2 at h
    refine ⟨trivial, ?_⟩
    split at h
    · exact List.eq_nil_of_length_eq_zero (by show s.length = 0; omega)
    · cases h
  | cons p ps ih =>
    unfold chk2 at h
    have hp := hs p (List.mem_cons_self ..)
    obtain ⟨h1, h2⟩ := hp
    split at h
    · cases h
    · rename_i h3
      have hl : lenP p = p.keep + p.drop := rfl
      have e : ((s.drop (lenP p).toNat).length : Int) = (s.length : Int) - (p.keep + p.drop) := by rw [List.length_drop]; omega
      rw [← e] at h
      obtain ⟨i1, i2⟩ := ih (fun q hq => hs q (List.mem_cons_of_mem _ hq)) h
      exact ⟨⟨h1, h2, by omega, i1⟩, i2⟩
theorem chkE_fits {ps : List Pt} {s : List UInt8} (h : chkE ps (s.length : Int) = 0) : fitsP ps s ∧ leftP ps s = [] := by
  have hs := chkE_ok h
  unfold chkE at h
  split at h
  · exact chk2_fits hs h
  · rename_i h1; exact absurd h h1

/-- What checkOver says. -/
def ordE (ps : List Pt) (s : List UInt8) : Int := if chkE ps (s.length : Int) = 0 then (if badO ps s then 10 else 0) else chkE ps (s.length : Int)

theorem str_size (s : List UInt8) : (ByteArray.mk s.toArray).size = s.length := by simp [ByteArray.size]

end Go.Proofs.YtldhbjmillfjgabGreatDoor
