/-
  The library's contract of utf8.ValidString, laid at this program.
-/
import Derived.Shelf.Unicode.ValidAny
import Derived.Test.YtedgnlgjmnccgabGreatDoorPure
import Derived.Test.YtedgnlgjmnccgabGreatDoorProg
namespace Go.Proofs
open Go.Shelf
def Tryz.lays196_ren : Go.Shelf.Ren := ⟨fun | 196 => 158 | 259 => 212 | n => n, fun | 0 => 0 | 3 => 3 | 4 => 4 | 5 => 5 | 9 => 9 | 12 => 12 | 46 => 86 | 53 => 351 | 119 => 320 | 138 => 322 | 139 => 323 | n => n, fun | 3 => 2 | 4 => 3 | n => n⟩
theorem Tryz.lays196 : Go.Proofs.Lays.n196 Tryz.prog Tryz.lays196_ren := {
  mixed := by kernel_rfl
  f196 := Tryz.func158.trans (congrArg some (by kernel_rfl))
  f259 := Tryz.func212.trans (congrArg some (by kernel_rfl))
  t0 := Tryz.underlying0
  a0 := Tryz.isAgg0
  z0 := Tryz.sizeOf0
  v0 := Tryz.zeroValue0
  t3 := Tryz.underlying3
  a3 := Tryz.isAgg3
  z3 := Tryz.sizeOf3
  v3 := Tryz.zeroValue3
  t4 := Tryz.underlying4
  a4 := Tryz.isAgg4
  z4 := Tryz.sizeOf4
  v4 := Tryz.zeroValue4
  t5 := Tryz.underlying5
  a5 := Tryz.isAgg5
  z5 := Tryz.sizeOf5
  v5 := Tryz.zeroValue5
  t9 := Tryz.underlying9
  a9 := Tryz.isAgg9
  z9 := Tryz.sizeOf9
  v9 := Tryz.zeroValue9
  t12 := Tryz.underlying12
  a12 := Tryz.isAgg12
  z12 := Tryz.sizeOf12
  v12 := Tryz.zeroValue12
  t46 := Tryz.underlying86
  a46 := Tryz.isAgg86
  z46 := Tryz.sizeOf86
  v46 := Tryz.zeroValue86
  t53 := Tryz.underlying351
  a53 := Tryz.isAgg351
  z53 := Tryz.sizeOf351
  v53 := Tryz.zeroValue351
  t119 := Tryz.underlying320
  a119 := Tryz.isAgg320
  z119 := Tryz.sizeOf320
  t138 := Tryz.underlying322
  a138 := Tryz.isAgg322
  z138 := Tryz.sizeOf322
  v138 := Tryz.zeroValue322
  t139 := Tryz.underlying323
  a139 := Tryz.isAgg323
  z139 := Tryz.sizeOf323
  v139 := Tryz.zeroValue323
  g3 := by kernel_rfl
  g4 := by kernel_rfl }
end Go.Proofs
namespace Go.Proofs.YtedgnlgjmnccgabGreatDoor
open Go.RowKit

/-- The library's own word for a sound text is ours. -/
theorem valid_scan (n : Nat) : ∀ (l : List UInt8), l.length ≤ n → Lib.validGoD n l = (scan l).2 := by
  induction n with
  | zero =>
    intro l hl
    have : l = [] := List.eq_nil_of_length_eq_zero (by omega)
    subst this
    rfl
  | succ n ih =>
    intro l hl
    unfold Lib.validGoD
    by_cases hne : l = []
    · subst hne; rfl
    · rw [if_neg hne]
      have hd : Lib.decodeL l = dec l := by
        have := decode_dec ⟨l.toArray⟩ 0
        rw [List.drop_zero] at this
        rw [← this]
        unfold Lib.decodeL
        congr 1
        apply ByteArray.ext
        simp
      rw [hd]
      by_cases hb : badB (dec l) = true
      · rw [scan_bad hne hb, if_pos (badB_true hb)]
      · have hb' : badB (dec l) = false := Bool.eq_false_iff.2 hb
        rw [scan_good hne hb', if_neg (by intro h; exact hb (by unfold badB; simp [h])), ih]
        have h1 := dec_ge1 l
        rw [List.length_drop]
        omega

theorem ValidString_any (s : ByteArray) (w : World) (hs : s.size ≤ 9223372036854775807) (hT : Lib.Utf8Tabs 2 3 w) :
    Calls Tryz.prog 158 #[.string s] w fun e w' => e = .returned (.bool (scan s.data.toList).2) ∧ Below w.heap.size w w' := by
  have := Any.utf8_ValidString Tryz.lays196 s w hs hT
  rwa [show Lib.validD s.data.toList = (scan s.data.toList).2 from valid_scan _ _ (Nat.le_refl _)] at this
end Go.Proofs.YtedgnlgjmnccgabGreatDoor
