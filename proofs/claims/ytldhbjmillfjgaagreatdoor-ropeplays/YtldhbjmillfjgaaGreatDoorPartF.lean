/-
  The library's contracts that these texts use, laid at this program by the shelf's own command, its plain mode.
  The document's Spot of any place: as pos.Spot tells it.
  The document's own Line, where there is such a line.
  The document's own Splice, over what its calls tell.
  rope.between, of any trees.
  rope.Splice.
  rope.Splice of any text that is one, at any place.
  The closures of ops.gather: parts are added, told, and in the end there.
  ops.gather, and its closures tell, add and done, walked.
  ops.gather's add and done, and ops.isKeep, isDrop, isPut, walked.
  ops.Norm of any operation that is not too great: its least form.
  ops.over: what its iterator does with the rounds of a loop.
  The library's contract of utf8.ValidString, laid at this program.
  ops.isOne, and what ops.Check says of any operation.
  ops.checkOver: what it says of an operation over a text.
  rosettaref's edge, and what it says of an operation's parts.
  The document's Splice: as rope.Splice tells it.
-/
import Derived.Shelf.Strings.Builder1
import Derived.Shelf.Small.Utf8
import Derived.Shelf.Small.Strs
import Derived.Shelf.Strings.BuilderF
import Derived.Shelf.Strings.BuilderK
import Derived.Shelf.Utf8.RuneCount
import Derived.Shelf.LaysM
import Derived.Shelf.Strconv.Clone
import Derived.Shelf.Strings.Search1
import Derived.Shelf.Strings.Search2
import Derived.Shelf.Strings.Search3
import Derived.Shelf.Strings.Count
import Derived.Shelf.Strings.Shaped
import Derived.Shelf.Strings.LastIndex
import Derived.Shelf.Strings.Split
import Derived.Shelf.Unicode.Decode
import Derived.Shelf.Strings.RuneCount
import Derived.Shelf.Unicode.DecodeSlow
import Derived.Shelf.Unicode.DecodeAny
import Derived.Shelf.Strings.BuilderCap
import Derived.Test.YtldhbjmillfjgaaGreatDoorProg
import Derived.Test.YtldhbjmillfjgaaGreatDoorPartE
import Derived.Test.YtldhbjmillfjgaaGreatDoorPartB
import Derived.Test.YtldhbjmillfjgaaGreatDoorPartC
import Derived.Test.YtldhbjmillfjgaaGreatDoorPartD
import Derived.Test.YtldhbjmillfjgaaGreatDoorPartA
import Derived.Lib.AppendStr
import Derived.Laws.OwnMore
import Derived.Maps.AppendAt
import Derived.Laws.EntriesVeiled
import Derived.OwnWalkIn
import Derived.TacticsInMore
import Derived.LoopNIn
import Derived.LoopIn
import Derived.Stop.RegionWithIn
import Derived.Shelf.Unicode.ValidAny
namespace Go.Proofs
open Go.Shelf
def Tryz.lays137_ren : Go.Shelf.Ren := ⟨fun | 137 => 49 | 217 => 76 | 266 => 90 | n => n, fun | 9 => 9 | 5 => 5 | 3 => 3 | n => n, fun | n => n⟩
theorem Tryz.lays137 : Go.Proofs.Lays.n137 Tryz.prog Tryz.lays137_ren := {
  mixed := by kernel_rfl
  f137 := Tryz.func49.trans (congrArg some (by kernel_rfl))
  f217 := Tryz.func76.trans (congrArg some (by kernel_rfl))
  f266 := Tryz.func90.trans (congrArg some (by kernel_rfl))
  t3 := Tryz.underlying3
  a3 := Tryz.isAgg3
  z3 := Tryz.sizeOf3
  v3 := Tryz.zeroValue3
  t5 := Tryz.underlying5
  a5 := Tryz.isAgg5
  z5 := Tryz.sizeOf5
  v5 := Tryz.zeroValue5
  t9 := Tryz.underlying9
  a9 := Tryz.isAgg9
  z9 := Tryz.sizeOf9
  v9 := Tryz.zeroValue9 }
open Go.RowKit in
theorem Tryz.strings_IndexByte (s : ByteArray) (c : Int) (w : World) :
    Calls Tryz.prog 49 #[.string s, .int .u8 c] w fun e w' => e = .returned (.int .i64 (Lib.indexByte s.data.toList c.toNat.toUInt8)) ∧ w' = w := Any.strings_IndexByte Tryz.lays137 s c w
def Tryz.lays149_ren : Go.Shelf.Ren := ⟨fun | 149 => 52 | 222 => 77 | n => n, fun | 9 => 9 | 5 => 5 | 3 => 3 | 4 => 4 | n => n, fun | n => n⟩
theorem Tryz.lays149 : Go.Proofs.Lays.n149 Tryz.prog Tryz.lays149_ren := {
  mixed := by kernel_rfl
  f149 := Tryz.func52.trans (congrArg some (by kernel_rfl))
  f222 := Tryz.func77.trans (congrArg some (by kernel_rfl))
  t3 := Tryz.underlying3
  a3 := Tryz.isAgg3
  z3 := Tryz.sizeOf3
  v3 := Tryz.zeroValue3
  t4 := Tryz.underlying4
  a4 := Tryz.isAgg4
  z4 := Tryz.sizeOf4
  v4 := Tryz.zeroValue4
  t5 := Tryz.underlying5
  a5 := Tryz.isAgg5
  z5 := Tryz.sizeOf5
  v5 := Tryz.zeroValue5
  t9 := Tryz.underlying9
  a9 := Tryz.isAgg9
  z9 := Tryz.sizeOf9
  v9 := Tryz.zeroValue9 }
open Go.RowKit Go.Lib in
theorem Tryz.strings_LastIndexByte (s : ByteArray) (c : Int) (hs : s.size < 4611686018427387904) (w : World) :
    Calls Tryz.prog 52 #[.string s, .int .u8 c] w fun e w' => e = .returned (.int .i64 (Lib.lastIndexByte s c)) ∧ w' = w := Any.strings_LastIndexByte Tryz.lays149 s c hs w
end Go.Proofs

namespace Go.Proofs.YtldhbjmillfjgaaGreatDoor
open Go.RowKit
set_option linter.unusedVariables false

/-- What the document's Spot tells. -/
def refSpotE (u at_ : Int) (rs : List Nat) : Value :=
  if ¬ (u = 1 ∨ u = 2 ∨ u = 3) then .tuple #[.agg #[.int .i64 0, .int .i64 0], .int .i64 1]
  else if at_ < 0 ∨ by_ u rs < at_ then .tuple #[.agg #[.int .i64 0, .int .i64 0], .int .i64 2]
  else if by_ u (upTo rs u at_) = at_ then .tuple #[.agg #[.int .i64 (C4 (upTo rs u at_)), .int .i64 (by_ u (upTo rs u at_) - by_ u (find (reachesLine (C4 (upTo rs u at_))) [] rs))], .int .i64 0]
  else .tuple #[.agg #[.int .i64 0, .int .i64 0], .int .i64 10]
theorem cut_first (s : ByteArray) (a b : List UInt8) (he : s.data.toList = a ++ b) : (s.extract 0 a.length).data.toList = a := by
  rw [Lib.extract_data, he]; simp
theorem cut_part (s : ByteArray) (a b c : List UInt8) (he : s.data.toList = a ++ b ++ c) : (s.extract a.length (a ++ b).length).data.toList = b := by
  rw [Lib.extract_data, he]; simp
theorem refSpot_all (s : ByteArray) (rs : List Nat) (u at_ : Int) (hr : ∀ r ∈ rs, isRune r) (he : encs rs = s.data.toList) (hs : s.size < 1000000) (w : World) :
    Calls Tryz.prog 22 #[.string s, .int .i64 u, .int .i64 at_] w fun e w' => e = .returned (refSpotE u at_ rs) ∧ Below w.heap.size w w' := by
  unfold refSpotE
  by_cases hu : (u = 1 ∨ u = 2 ∨ u = 3)
  · rw [if_neg (not_not_intro hu)]
    by_cases hl : at_ < 0 ∨ by_ u rs < at_
    · rw [if_pos hl]
      exact refSpot_told s u at_ 2 (by decide) w fun wx hb => refAhead_rng s rs u at_ hr he hs hu hl wx
    · rw [if_neg hl]
      have cA := fun (wx : World) => refAhead_any s rs u at_ hr he hs hu (by omega) (by omega) wx
      by_cases hf : by_ u (upTo rs u at_) = at_
      · rw [if_pos hf]
        have ho : onEdge rs u at_ = true := decide_eq_true hf
        rw [ho] at cA
        obtain ⟨k, hk, ek, _, _⟩ := find_least u at_ rs [] (by simpa using (by omega : at_ ≤ by_ u rs))
        rw [List.nil_append] at ek
        have ek2 : upTo rs u at_ = rs.take k := ek
        obtain ⟨Y, Z, e1, hz, hy, e2, e3⟩ := find_line_of (X := rs.take k) (rs.drop k)
        rw [List.take_append_drop] at e3
        have hr1 : ∀ r ∈ Y ++ Z, isRune r := fun r h => hr r (by rw [← e1] at h; exact List.mem_of_mem_take h)
        have hrZ : ∀ r ∈ Z, isRune r := fun r h => hr1 r (List.mem_append_right _ h)
        have hsz : s.data.toList = encs Y ++ encs Z ++ encs (rs.drop k) := by
          rw [← he, ← encs_append, ← e1, ← encs_append, List.take_append_drop]
        have hX : (encs (rs.take k)).length = (encs Y ++ encs Z).length := by rw [e1, encs_append]
        have hlen : s.size = (encs Y).length + (encs Z).length + (encs (rs.drop k)).length := by
          rw [Lib.size_eq, hsz, List.length_append, List.length_append]
        have hb : by_ u (rs.take k) - by_ u Y = by_ u Z := by rw [e1, by_append]; omega
        have c1 : (s.extract 0 (encs Y ++ encs Z).length).data.toList = encs Y ++ encs Z := cut_first s _ _ hsz
        have c2 : (s.extract (encs Y).length (encs Y ++ encs Z).length).data.toList = encs Z := cut_part s _ _ _ hsz
        have z1 : (s.extract 0 (encs Y ++ encs Z).length).size < 4611686018427387904 := by rw [Lib.size_eq, c1, List.length_append]; omega
        have z2 : (s.extract (encs Y).length (encs Y ++ encs Z).length).size < 100000000 := by rw [Lib.size_eq, c2]; omega
        have zl := last_lf _ Y Z hrZ c1 hz hy
        rw [ek2] at cA hf ⊢
        rw [e3, hb]
        refine refSpot_good s (rs.take k) Z (encs Y ++ encs Z).length (encs Y).length u at_ (by rw [C1_len, hX]) hs (by rw [hlen, List.length_append]; omega) (by rw [List.length_append]; omega) w
          (fun wx _ => cA wx) (fun wx => ?_) (fun wx => refCount_of _ Z hrZ c2.symm z2 wx) (fun wx => refIn_any u Z (by omega) (by omega) (by rw [C1_len]; omega) wx)
        have := Tryz.strings_LastIndexByte (s.extract 0 (encs Y ++ encs Z).length) 10 z1 wx
        rw [zl] at this
        exact this
      · rw [if_neg hf]
        have ho : onEdge rs u at_ = false := decide_eq_false hf
        rw [ho] at cA
        exact refSpot_told s u at_ 10 (by decide) w fun wx _ => cA wx
  · rw [if_pos hu]
    exact refSpot_told s u at_ 1 (by decide) w fun wx hb => refAhead_bad s u at_ hu wx
end Go.Proofs.YtldhbjmillfjgaaGreatDoor

namespace Go.Proofs.YtldhbjmillfjgaaGreatDoor
open Go.RowKit
set_option linter.unusedVariables false
attribute [local go_sem] Oper.semAt_some

theorem line_next : ∀ {m : List Nat}, 0 < C4 m → ∃ Z m', m = Z ++ 10 :: m' ∧ noLF Z
  | [], h => absurd h (by decide)
  | r :: m, h => by
    by_cases e : r = 10
    · exact ⟨[], m, by rw [e]; rfl, fun _ h => (by cases h)⟩
    · rw [C4_cons] at h
      have hc : cL r = 0 := by unfold cL; rw [if_neg e]
      obtain ⟨Z, m', rfl, hz⟩ := line_next (m := m) (by rw [hc] at h; omega)
      exact ⟨r :: Z, m', rfl, fun x hx => by
        rcases List.mem_cons.1 hx with rfl | hx
        · exact e
        · exact hz x hx⟩
theorem cut_rest (s : ByteArray) (a b : List UInt8) (he : s.data.toList = a ++ b) : (s.extract a.length s.size).data.toList = b := by
  have h : s.size = (a ++ b).length := by rw [Lib.size_eq, he]
  rw [h]
  exact cut_part s a b [] (by rw [he, List.append_nil])

set_option maxRecDepth 100000 in
set_option maxHeartbeats 8000000 in
theorem refLine_at (s : ByteArray) (rs : List Nat) (line : Int) (hr : ∀ r ∈ rs, isRune r) (he : encs rs = s.data.toList) (hs : s.size < 1000000) (h0 : 0 ≤ line) (hl : line ≤ C4 rs) (w : World) :
    Calls Tryz.prog 17 #[.string s, .int .i64 line] w fun e w' => e = .returned (.tuple #[cntV (find (reachesLine line) [] rs), .int .i64 0]) ∧ Below w.heap.size w w' := by
  have hra : inB line 0 (C4 rs) = true := decide_eq_true ⟨h0, hl⟩
  have hC1 : C1 rs = s.size := by rw [C1_len, he, ← Lib.size_eq]
  have hC4 : C4 rs < 1000000 := by
    have := C4_le rs
    omega
  have cI : Hid (∀ wx, Calls Tryz.prog 32 #[.int .i64 line, .int .i64 0, .int .i64 (C4 rs)] wx fun e w' => e = .returned (.bool true) ∧ w' = wx) := fun wx => by
    have := in_any line 0 (C4 rs) wx
    rw [hra] at this
    exact this
  have cC : Hid (∀ wx, Calls Tryz.prog 6 #[.string s] wx fun e w' => e = .returned (.tuple #[cntV rs, .agg #[.int .i64 0, .int .i64 (-1)]]) ∧ Below wx.heap.size wx w') := fun wx => refCount_of s rs hr he (by omega) wx
  have HF : Hid (∀ Y m, rs = Y ++ m → endsLF Y → C4 Y = line → find (reachesLine line) [] rs = Y) := fun Y m e hy hc => by rw [← hc, e]; exact find_line hy m
  have cD : Hid (∀ Y m wx, rs = Y ++ m → Calls Tryz.prog 6 #[.string (s.extract 0 (encs Y).length)] wx fun e w' => e = .returned (.tuple #[cntV Y, .agg #[.int .i64 0, .int .i64 (-1)]]) ∧ Below wx.heap.size wx w') := fun Y m wx e => by
    have c1 : (s.extract 0 (encs Y).length).data.toList = encs Y := cut_first s _ (encs m) (by rw [← he, e, encs_append])
    refine refCount_of _ Y (fun r h => hr r (by rw [e]; exact List.mem_append_left _ h)) c1.symm ?_ wx
    have hsz := congrArg List.length he
    rw [e, encs_append, List.length_append] at hsz
    rw [Lib.size_eq, c1]
    rw [Lib.size_eq] at hs
    omega
  have HL : Hid (∀ Y m, rs = Y ++ m → (encs Y).length ≤ s.size) := fun Y m e => by
    have hsz := congrArg List.length he
    rw [e, encs_append, List.length_append] at hsz
    rw [Lib.size_eq]
    omega
  have HN : Hid (∀ Y m, rs = Y ++ m → endsLF Y → C4 Y < line → ∃ Z m', rs = (Y ++ Z ++ [10]) ++ m' ∧ endsLF (Y ++ Z ++ [10]) ∧ C4 (Y ++ Z ++ [10]) = C4 Y + 1 ∧ (encs (Y ++ Z ++ [10])).length = (encs Y).length + ((encs Z).length + 1) ∧
      ∀ wx, Calls Tryz.prog 49 #[.string (s.extract (encs Y).length s.size), .int .u8 10] wx fun e w' => e = .returned (.int .i64 (encs Z).length) ∧ w' = wx) := fun Y m e hy hc => by
    have hm : 0 < C4 m := by
      have : C4 rs = C4 Y + C4 m := by rw [e, C4_append]
      omega
    obtain ⟨Z, m', rfl, hz⟩ := line_next hm
    have e10 : C4 [10] = 1 := rfl
    have el : encs [10] = [10] := by
      show encs (10 :: []) = _
      rw [encs_cons, enc_lf]; rfl
    have hZ : ∀ r ∈ Z, isRune r := fun r h => hr r (by rw [e]; exact List.mem_append_right _ (List.mem_append_left _ h))
    refine ⟨Z, m', by rw [e]; simp, .inr ⟨Y ++ Z, rfl⟩, by rw [C4_append, C4_append, C4_none hz, e10]; omega, by rw [encs_append, encs_append, el]; simp, fun wx => ?_⟩
    have c1 : (s.extract (encs Y).length s.size).data.toList = encs Z ++ 10 :: encs m' := cut_rest s _ _ (by rw [← he, e, encs_append, encs_append, encs_cons, enc_lf]; rfl)
    have := Tryz.strings_IndexByte (s.extract (encs Y).length s.size) 10 wx
    rw [c1] at this
    have e2 : ((10 : Int)).toNat.toUInt8 = (10 : UInt8) := rfl
    rw [e2, index_at _ (noLF_bytes hZ hz)] at this
    exact this
  have HG : Hid (endsLF [] ∧ C4 [] = 0 ∧ (encs []).length = 0) := ⟨.inl rfl, rfl, rfl⟩
  have HC0 : Hid (∀ Y, 0 ≤ C4 Y) := fun Y => (C4_le Y).1
  have hb0 : Below w.heap.size w (w.alloc (.cells #[.int .i64 0, .int .i64 0, .int .i64 0, .int .i64 0] 29)) := (Below.refl _ w).alloc (Nat.le_refl _) _
  have HB0 : Hid _ := hb0
  have HK0 : Hid (counted (w.alloc (.cells #[.int .i64 0, .int .i64 0, .int .i64 0, .int .i64 0] 29)) w.heap.size 0 0 0 0) := counted_new w 0 0 0 0 29
  obtain ⟨FF, hFF⟩ : ∃ FF, find (reachesLine line) [] rs = FF := ⟨_, rfl⟩
  rw [hFF]
  have HFF : Hid (∀ Y m, rs = Y ++ m → endsLF Y → C4 Y = line → FF = Y) := by rw [← hFF]; exact HF.out
  clear hFF HF
  unfold cntV at cC ⊢
  have hl2 : line < 1000000 := by omega
  obtain ⟨n4, hn4⟩ : ∃ n4, C4 rs = n4 := ⟨_, rfl⟩
  rw [hn4] at cI cC hl
  clear hr he hra hb0 hC1 hC4 hn4
  go_enter Tryz.func17, Tryz.ntmps17
  go_wp2_with (first
    | (go_at_call 6; refine (cC.out _).mono ?_; rintro e w1 ⟨rfl, hb1⟩; have HB1 : Hid (Below w.heap.size w w1) := HB0.out.trans (hb1.mono HB0.out.size); have HK1 : Hid (counted w1 w.heap.size 0 0 0 0) := counted_below HK0.out hb1; have hbx := (Below.refl w1.heap.size w1).alloc (Nat.le_refl _) (.cells #[.int .i64 (C1 rs), .int .i64 (C2 rs), .int .i64 (C3 rs), .int .i64 n4] 29); have hby := hbx.alloc hbx.size (.cells #[.int .i64 0, .int .i64 (-1)] 32); have HBY : Hid (Below w.heap.size w ((w1.alloc (.cells #[.int .i64 (C1 rs), .int .i64 (C2 rs), .int .i64 (C3 rs), .int .i64 n4] 29)).alloc (.cells #[.int .i64 0, .int .i64 (-1)] 32))) := HB1.out.trans (hby.mono HB1.out.size); have HKY : Hid (counted ((w1.alloc (.cells #[.int .i64 (C1 rs), .int .i64 (C2 rs), .int .i64 (C3 rs), .int .i64 n4] 29)).alloc (.cells #[.int .i64 0, .int .i64 (-1)] 32)) w.heap.size 0 0 0 0) := counted_below HK1.out hby; clear hb1 hbx hby; obtain ⟨W2, hW2⟩ : ∃ W2, ((w1.alloc (.cells #[.int .i64 (C1 rs), .int .i64 (C2 rs), .int .i64 (C3 rs), .int .i64 n4] 29)).alloc (.cells #[.int .i64 0, .int .i64 (-1)] 32)) = W2 := ⟨_, rfl⟩; have HW2 : Hid _ := hW2; clear hW2)
    | (go_at_call 32; rw [HW2.out] at HBY HKY; (try rw [HW2.out]); refine (cI.out _).mono ?_; rintro e w3 ⟨rfl, hw3⟩; obtain rfl := hw3.symm)
    | fail)
  go_loopw [8, 23] (fun at_ i wr => ∃ Y m, rs = Y ++ m ∧ endsLF Y ∧ at_ = .int .i64 ((encs Y).length : Nat) ∧ i = .int .i64 (C4 Y) ∧ C4 Y ≤ line ∧ Below W2.heap.size W2 wr) (fun _ i _ => (line - intOf i).toNat)
  case atStart => exact ⟨[], rs, rfl, HG.out.1, by rw [HG.out.2.2]; rfl, by rw [HG.out.2.1], by rw [HG.out.2.1]; exact h0, Below.refl _ _⟩
  case round =>
    obtain ⟨Y, m, hY, hy, rfl, rfl, hle, hbw⟩ := hrel
    have hc0 := HC0.out Y
    have hly := HL.out Y m hY
    have HBW : Hid (Below w.heap.size w wr) := HBY.out.trans (hbw.mono HBY.out.size)
    have HKW : Hid (counted wr w.heap.size 0 0 0 0) := counted_below HKY.out hbw
    have HBR : Hid (Below W2.heap.size W2 wr) := hbw
    by_cases hlt : C4 Y < line
    · obtain ⟨Z, m', e1, e2, e3, e4, cX0⟩ := HN.out Y m hY hy hlt
      have cX : Hid _ := cX0
      have hlz := HL.out _ _ e1
      rw [e4] at hlz
      have HE : Hid (rs = (Y ++ Z ++ [10]) ++ m' ∧ endsLF (Y ++ Z ++ [10]) ∧ C4 (Y ++ Z ++ [10]) = C4 Y + 1 ∧ (encs (Y ++ Z ++ [10])).length = (encs Y).length + ((encs Z).length + 1)) := ⟨e1, e2, e3, e4⟩
      obtain ⟨nY, hnY⟩ : ∃ nY, (encs Y).length = nY := ⟨_, rfl⟩
      obtain ⟨nZ, hnZ⟩ : ∃ nZ, (encs Z).length = nZ := ⟨_, rfl⟩
      obtain ⟨cY, hcY⟩ : ∃ cY, C4 Y = cY := ⟨_, rfl⟩
      rw [hnY, hnZ, hcY] at HE
      rw [hnY] at hly hlz cX ⊢
      rw [hnZ] at hlz cX
      rw [hcY] at hc0 hle hlt ⊢
      clear cX0 e1 e2 e3 e4 hY hy hbw hnY hnZ hcY
      go_wp2_with (first
        | (go_at_call 49; refine (cX.out _).mono ?_; rintro e w4 ⟨rfl, hw4⟩; obtain rfl := hw4.symm)
        | fail)
      go_roundw
      case rel =>
        obtain ⟨e1, e2, e3, e4⟩ := HE.out
        exact ⟨_, _, e1, e2, by rw [e4]; first | go_num | (simp; omega), by rw [e3], by rw [e3]; omega, HBR.out⟩
      case measure => simp [intOf]; omega
    · obtain rfl := HFF.out Y m hY hy (by omega)
      have cE : Hid _ := fun wx => cD.out FF m wx hY
      obtain ⟨nY, hnY⟩ : ∃ nY, (encs FF).length = nY := ⟨_, rfl⟩
      rw [hnY] at cE hly ⊢
      unfold cntV at cE
      clear hY hy hbw hnY
      go_wp2_with (first
        | (go_at_call 6; refine (cE.out _).mono ?_; rintro e w5 ⟨rfl, hb5⟩; have HB5 : Hid (Below w.heap.size w w5) := HBW.out.trans (hb5.mono HBW.out.size); have HK5 : Hid (counted w5 w.heap.size 0 0 0 0) := counted_below HKW.out hb5; have hbx := (Below.refl w5.heap.size w5).alloc (Nat.le_refl _) (.cells #[.int .i64 (C1 FF), .int .i64 (C2 FF), .int .i64 (C3 FF), .int .i64 (C4 FF)] 29); have hby := hbx.alloc hbx.size (.cells #[.int .i64 0, .int .i64 (-1)] 32); have HBZ : Hid (Below w.heap.size w ((w5.alloc (.cells #[.int .i64 (C1 FF), .int .i64 (C2 FF), .int .i64 (C3 FF), .int .i64 (C4 FF)] 29)).alloc (.cells #[.int .i64 0, .int .i64 (-1)] 32))) := HB5.out.trans (hby.mono HB5.out.size); have HKZ : Hid (counted ((w5.alloc (.cells #[.int .i64 (C1 FF), .int .i64 (C2 FF), .int .i64 (C3 FF), .int .i64 (C4 FF)] 29)).alloc (.cells #[.int .i64 0, .int .i64 (-1)] 32)) w.heap.size 0 0 0 0) := counted_below HK5.out hby; have hlt : w.heap.size < w5.heap.size := World.block_lt_of_cell? w5 _ HK5.out.1.1; have hne : w.heap.size ≠ w5.heap.size := Nat.ne_of_lt hlt; clear hb5 hbx hby; have hne2 : w.heap.size ≠ w5.heap.size + 1 := (by omega); obtain ⟨⟨z0, z1, z2, z3⟩, y0, y1, y2, y3⟩ := HK5.out)
        | fail)
      have hset := counted_set (m1 := C1 FF) (m2 := C2 FF) (m3 := C3 FF) (m4 := C4 FF) HK5.out
      have hB := below_set4 HB5.out (Nat.le_refl _) (.int .i64 (C1 FF)) (.int .i64 (C2 FF)) (.int .i64 (C3 FF)) (.int .i64 (C4 FF))
      generalize ((((w5.setCell ⟨w.heap.size, 0, none⟩ (.int .i64 (C1 FF))).setCell ⟨w.heap.size, 1, none⟩ (.int .i64 (C2 FF))).setCell ⟨w.heap.size, 2, none⟩ (.int .i64 (C3 FF))).setCell ⟨w.heap.size, 3, none⟩ (.int .i64 (C4 FF))) = W6 at *
      have hbx := (Below.refl W6.heap.size W6).alloc (Nat.le_refl _) (.cells #[.int .i64 (C1 FF), .int .i64 (C2 FF), .int .i64 (C3 FF), .int .i64 (C4 FF)] 29)
      have hby := hbx.alloc hbx.size (.cells #[.int .i64 0, .int .i64 (-1)] 32)
      obtain ⟨⟨s0, s1, s2, s3⟩, _⟩ := counted_below hset hby
      refine bodyPost_ret (v := .tuple #[.agg #[.int .i64 (C1 FF), .int .i64 (C2 FF), .int .i64 (C3 FF), .int .i64 (C4 FF)], .int .i64 0]) (by simp [results, Tryz.results17, go_sem, s0, s1, s2, s3]) rfl ⟨rfl, hB.trans (hby.mono hB.size)⟩
end Go.Proofs.YtldhbjmillfjgaaGreatDoor

namespace Go.Proofs.YtldhbjmillfjgaaGreatDoor
open Go.RowKit
set_option linter.unusedVariables false
attribute [local go_sem] Oper.semAt_some yieldsUpon okUpon field0 field3

set_option maxRecDepth 100000 in
set_option maxHeartbeats 8000000 in
theorem refSplice_bad (s put : ByteArray) (k d j n : Nat) (at_ drop c1 c2 c3 c4 PL : Int) (hs : s.size < 100000000) (hp : put.size < 100000000)  (w : World)
    (cC : Hid (∀ wx, Calls Tryz.prog 6 #[.string put] wx fun e w' => e = .returned (.tuple #[.agg #[.int .i64 c1, .int .i64 c2, .int .i64 c3, .int .i64 c4], .agg #[.int .i64 3, .int .i64 PL]]) ∧ Below wx.heap.size wx w')) :
    Calls Tryz.prog 8 #[.string s, .int .i64 at_, .int .i64 drop, .string put] w fun e w' => e = .returned (.tuple #[.string s, .agg #[.int .i64 3, .int .i64 PL]]) ∧ Below w.heap.size w w' := by
  have cBr : Hid (∀ wx, Calls Tryz.prog 33 #[.int .i64 3] wx fun e w' => e = .returned (.agg #[.int .i64 3, .int .i64 (-1)]) ∧ Below wx.heap.size wx w') := fun wx => Bare_any 3 wx
  have HB0 : Hid (Below w.heap.size w (w.alloc (.cells #[.int .i64 0, .int .i64 0] 32))) := (Below.refl _ w).alloc (Nat.le_refl _) _
  have HS0 : Hid (spotW (w.alloc (.cells #[.int .i64 0, .int .i64 0] 32)) w.heap.size 0 0) := spotW_new w _ _ _
  go_enter Tryz.func8, Tryz.ntmps8
  go_wp2_with (first
    | (go_at_call 6; refine (cC.out _).mono ?_; rintro e w1 ⟨rfl, hb1⟩; have hby : Below w1.heap.size w1 ((w1.alloc (.cells #[.int .i64 c1, .int .i64 c2, .int .i64 c3, .int .i64 c4] 29)).alloc (.cells #[.int .i64 3, .int .i64 PL] 32)) := ((Below.refl _ _).alloc (Nat.le_refl _) _).alloc (by simp) _; have HB1 : Hid (Below w.heap.size w w1) := HB0.out.trans (hb1.mono HB0.out.size); have HB2 : Hid (Below w.heap.size w ((w1.alloc (.cells #[.int .i64 c1, .int .i64 c2, .int .i64 c3, .int .i64 c4] 29)).alloc (.cells #[.int .i64 3, .int .i64 PL] 32))) := HB1.out.trans (hby.mono HB1.out.size); have HS1 : Hid (spotW w1 w.heap.size 0 0) := spotW_below HS0.out hb1; have HS2 : Hid (spotW ((w1.alloc (.cells #[.int .i64 c1, .int .i64 c2, .int .i64 c3, .int .i64 c4] 29)).alloc (.cells #[.int .i64 3, .int .i64 PL] 32)) w.heap.size 0 0) := spotW_below HS1.out hby; have HF2 : Hid (spotW ((w1.alloc (.cells #[.int .i64 c1, .int .i64 c2, .int .i64 c3, .int .i64 c4] 29)).alloc (.cells #[.int .i64 3, .int .i64 PL] 32)) (w1.heap.size + 1) 3 PL) := (by have := spotW_new (w1.alloc (.cells #[.int .i64 c1, .int .i64 c2, .int .i64 c3, .int .i64 c4] 29)) 3 PL 32; rw [World.size_alloc] at this; exact this); have hl1 : w.heap.size < w1.heap.size := World.block_lt_of_cell? w1 _ HS1.out.1.1; have hn1 : w.heap.size ≠ w1.heap.size := Nat.ne_of_lt hl1; clear hb1 hby)
    | fail)
  have hb2 := HB2.out
  have hs2 := HS2.out
  have hf2 := HF2.out
  generalize ((w1.alloc (.cells #[.int .i64 c1, .int .i64 c2, .int .i64 c3, .int .i64 c4] 29)).alloc (.cells #[.int .i64 3, .int .i64 PL] 32)) = WW at *
  generalize w1.heap.size = BF at *
  clear HB0 HS0 HB1 HS1 HB2 HS2 HF2 hl1 hn1 cC
  refine wp_region_rel 3 4 (by kernel_rfl) rfl ?_
  intro w6 hb6
  obtain ⟨G, hG⟩ := exists_growth w6
  obtain ⟨⟨x0, x1⟩, _⟩ := spotW_below hf2 hb6
  have gx0 := hG.cell x0
  have gx1 := hG.cell x1
  clear x0 x1
  (refine anyG_step hG (i := 0) rfl (by kernel_rfl) (by kernel_rfl) (by kernel_rfl) (fun K hK => ?_); go_simp; refine hK _ ?_; clear hK K)
  (refine anyG_step hG (i := 1) rfl (by kernel_rfl) (by kernel_rfl) (by kernel_rfl) (fun K hK => ?_); go_simp; refine hK _ ?_; clear hK K)
  (refine anyG_step hG (i := 2) rfl (by kernel_rfl) (by kernel_rfl) (by kernel_rfl) (fun K hK => ?_); go_simp; refine hK _ ?_; clear hK K)
  clear gx0 gx1 hG
  refine anyG_late (i := 3) rfl (by kernel_rfl) (by kernel_rfl) ?_
  intro w7 hb7 K hK
  have hb67 := hb6.trans (hb7.mono hb6.size)
  have hs7 := spotW_below hs2 hb67
  have HS7 : Hid _ := hs7
  have HB7 : Hid (Below w.heap.size w w7) := hb2.trans (hb67.mono hb2.size)
  obtain ⟨⟨k0, k1⟩, k2, k3⟩ := hs7
  clear hb6 hb7 hb67 hs2 hf2 hb2
  go_simp
  refine hK _ _ ?_
  clear hK K
  refine anyG_end (by kernel_rfl) ?_
  intro w9 hb9
  obtain ⟨⟨s0, s1⟩, _⟩ := spotW_below (spotW_set (m := 3) (n := PL) HS7.out) hb9
  have hB7 := below_set2 HB7.out (Nat.le_refl _) (.int .i64 3) (.int .i64 PL)
  have hB9 := hB7.trans (hb9.mono hB7.size)
  clear hb9 hB7 k0 k1 k2 k3
  go_wp2
  refine bodyPost_ret (v := .tuple #[.string s, .agg #[.int .i64 3, .int .i64 PL]]) (by simp [results, Tryz.results8, go_sem, s0, s1]) rfl ⟨rfl, hB9⟩

set_option maxRecDepth 100000 in
set_option maxHeartbeats 8000000 in
theorem refSplice_rng1 (s put : ByteArray) (k d j n : Nat) (at_ drop c1 c2 c3 c4 PL : Int) (hs : s.size < 100000000) (hp : put.size < 100000000)  (w : World)
    (cC : Hid (∀ wx, Calls Tryz.prog 6 #[.string put] wx fun e w' => e = .returned (.tuple #[.agg #[.int .i64 c1, .int .i64 c2, .int .i64 c3, .int .i64 c4], .agg #[.int .i64 0, .int .i64 (-1)]]) ∧ Below wx.heap.size wx w'))
    (cI1 : Hid (∀ wx, Calls Tryz.prog 32 #[.int .i64 at_, .int .i64 0, .int .i64 (s.size : Int)] wx fun e w' => e = .returned (.bool false) ∧ w' = wx)) :
    Calls Tryz.prog 8 #[.string s, .int .i64 at_, .int .i64 drop, .string put] w fun e w' => e = .returned (.tuple #[.string s, .agg #[.int .i64 2, .int .i64 (-1)]]) ∧ Below w.heap.size w w' := by
  have cBr : Hid (∀ wx, Calls Tryz.prog 33 #[.int .i64 2] wx fun e w' => e = .returned (.agg #[.int .i64 2, .int .i64 (-1)]) ∧ Below wx.heap.size wx w') := fun wx => Bare_any 2 wx
  have HB0 : Hid (Below w.heap.size w (w.alloc (.cells #[.int .i64 0, .int .i64 0] 32))) := (Below.refl _ w).alloc (Nat.le_refl _) _
  have HS0 : Hid (spotW (w.alloc (.cells #[.int .i64 0, .int .i64 0] 32)) w.heap.size 0 0) := spotW_new w _ _ _
  go_enter Tryz.func8, Tryz.ntmps8
  go_wp2_with (first
    | (go_at_call 6; refine (cC.out _).mono ?_; rintro e w1 ⟨rfl, hb1⟩; have hby : Below w1.heap.size w1 ((w1.alloc (.cells #[.int .i64 c1, .int .i64 c2, .int .i64 c3, .int .i64 c4] 29)).alloc (.cells #[.int .i64 0, .int .i64 (-1)] 32)) := ((Below.refl _ _).alloc (Nat.le_refl _) _).alloc (by simp) _; have HB1 : Hid (Below w.heap.size w w1) := HB0.out.trans (hb1.mono HB0.out.size); have HB2 : Hid (Below w.heap.size w ((w1.alloc (.cells #[.int .i64 c1, .int .i64 c2, .int .i64 c3, .int .i64 c4] 29)).alloc (.cells #[.int .i64 0, .int .i64 (-1)] 32))) := HB1.out.trans (hby.mono HB1.out.size); have HS1 : Hid (spotW w1 w.heap.size 0 0) := spotW_below HS0.out hb1; have HS2 : Hid (spotW ((w1.alloc (.cells #[.int .i64 c1, .int .i64 c2, .int .i64 c3, .int .i64 c4] 29)).alloc (.cells #[.int .i64 0, .int .i64 (-1)] 32)) w.heap.size 0 0) := spotW_below HS1.out hby; have HF2 : Hid (spotW ((w1.alloc (.cells #[.int .i64 c1, .int .i64 c2, .int .i64 c3, .int .i64 c4] 29)).alloc (.cells #[.int .i64 0, .int .i64 (-1)] 32)) (w1.heap.size + 1) 0 (-1)) := (by have := spotW_new (w1.alloc (.cells #[.int .i64 c1, .int .i64 c2, .int .i64 c3, .int .i64 c4] 29)) 0 (-1) 32; rw [World.size_alloc] at this; exact this); have hl1 : w.heap.size < w1.heap.size := World.block_lt_of_cell? w1 _ HS1.out.1.1; have hn1 : w.heap.size ≠ w1.heap.size := Nat.ne_of_lt hl1; clear hb1 hby)
    | (go_at_call 32; refine (cI1.out _).mono ?_; rintro e wz ⟨rfl, hwz⟩; obtain rfl := hwz.symm)
    | (go_at_call 33; refine (cBr.out _).mono ?_; rintro e w5 ⟨rfl, hb5⟩; have HB5 : Hid (Below w.heap.size w w5) := HB2.out.trans (hb5.mono HB2.out.size); have HS5 : Hid (spotW w5 w.heap.size 0 0) := spotW_below HS2.out hb5; have ⟨⟨m0, m1⟩, m2, m3⟩ := HS5.out; clear hb5)
    | fail)
  obtain ⟨⟨s0, s1⟩, _⟩ := spotW_set (m := 2) (n := -1) HS5.out
  have hB := below_set2 HB5.out (Nat.le_refl _) (.int .i64 2) (.int .i64 (-1))
  refine bodyPost_ret (v := .tuple #[.string s, .agg #[.int .i64 2, .int .i64 (-1)]]) (by simp [results, Tryz.results8, go_sem, s0, s1]) rfl ⟨rfl, hB⟩

set_option maxRecDepth 100000 in
set_option maxHeartbeats 8000000 in
theorem refSplice_rng2 (s put : ByteArray) (k d j n : Nat) (at_ drop c1 c2 c3 c4 PL : Int) (hs : s.size < 100000000) (hp : put.size < 100000000) (h0 : 0 ≤ at_ ∧ at_ ≤ s.size) (w : World)
    (cC : Hid (∀ wx, Calls Tryz.prog 6 #[.string put] wx fun e w' => e = .returned (.tuple #[.agg #[.int .i64 c1, .int .i64 c2, .int .i64 c3, .int .i64 c4], .agg #[.int .i64 0, .int .i64 (-1)]]) ∧ Below wx.heap.size wx w'))
    (cI1 : Hid (∀ wx, Calls Tryz.prog 32 #[.int .i64 at_, .int .i64 0, .int .i64 (s.size : Int)] wx fun e w' => e = .returned (.bool true) ∧ w' = wx))
    (cI2 : Hid (∀ wx, Calls Tryz.prog 32 #[.int .i64 drop, .int .i64 0, .int .i64 ((s.size : Int) - at_)] wx fun e w' => e = .returned (.bool false) ∧ w' = wx)) :
    Calls Tryz.prog 8 #[.string s, .int .i64 at_, .int .i64 drop, .string put] w fun e w' => e = .returned (.tuple #[.string s, .agg #[.int .i64 2, .int .i64 (-1)]]) ∧ Below w.heap.size w w' := by
  obtain ⟨h01, h02⟩ := h0
  have cBr : Hid (∀ wx, Calls Tryz.prog 33 #[.int .i64 2] wx fun e w' => e = .returned (.agg #[.int .i64 2, .int .i64 (-1)]) ∧ Below wx.heap.size wx w') := fun wx => Bare_any 2 wx
  have HB0 : Hid (Below w.heap.size w (w.alloc (.cells #[.int .i64 0, .int .i64 0] 32))) := (Below.refl _ w).alloc (Nat.le_refl _) _
  have HS0 : Hid (spotW (w.alloc (.cells #[.int .i64 0, .int .i64 0] 32)) w.heap.size 0 0) := spotW_new w _ _ _
  go_enter Tryz.func8, Tryz.ntmps8
  go_wp2_with (first
    | (go_at_call 6; refine (cC.out _).mono ?_; rintro e w1 ⟨rfl, hb1⟩; have hby : Below w1.heap.size w1 ((w1.alloc (.cells #[.int .i64 c1, .int .i64 c2, .int .i64 c3, .int .i64 c4] 29)).alloc (.cells #[.int .i64 0, .int .i64 (-1)] 32)) := ((Below.refl _ _).alloc (Nat.le_refl _) _).alloc (by simp) _; have HB1 : Hid (Below w.heap.size w w1) := HB0.out.trans (hb1.mono HB0.out.size); have HB2 : Hid (Below w.heap.size w ((w1.alloc (.cells #[.int .i64 c1, .int .i64 c2, .int .i64 c3, .int .i64 c4] 29)).alloc (.cells #[.int .i64 0, .int .i64 (-1)] 32))) := HB1.out.trans (hby.mono HB1.out.size); have HS1 : Hid (spotW w1 w.heap.size 0 0) := spotW_below HS0.out hb1; have HS2 : Hid (spotW ((w1.alloc (.cells #[.int .i64 c1, .int .i64 c2, .int .i64 c3, .int .i64 c4] 29)).alloc (.cells #[.int .i64 0, .int .i64 (-1)] 32)) w.heap.size 0 0) := spotW_below HS1.out hby; have HF2 : Hid (spotW ((w1.alloc (.cells #[.int .i64 c1, .int .i64 c2, .int .i64 c3, .int .i64 c4] 29)).alloc (.cells #[.int .i64 0, .int .i64 (-1)] 32)) (w1.heap.size + 1) 0 (-1)) := (by have := spotW_new (w1.alloc (.cells #[.int .i64 c1, .int .i64 c2, .int .i64 c3, .int .i64 c4] 29)) 0 (-1) 32; rw [World.size_alloc] at this; exact this); have hl1 : w.heap.size < w1.heap.size := World.block_lt_of_cell? w1 _ HS1.out.1.1; have hn1 : w.heap.size ≠ w1.heap.size := Nat.ne_of_lt hl1; clear hb1 hby)
    | (have _ := HI1; go_at_call 32; refine (cI2.out _).mono ?_; rintro e wz ⟨rfl, hwz⟩; obtain rfl := hwz.symm)
    | (go_at_call 32; have HI1 := True.intro; refine (cI1.out _).mono ?_; rintro e wz ⟨rfl, hwz⟩; obtain rfl := hwz.symm)
    | (go_at_call 33; refine (cBr.out _).mono ?_; rintro e w5 ⟨rfl, hb5⟩; have HB5 : Hid (Below w.heap.size w w5) := HB2.out.trans (hb5.mono HB2.out.size); have HS5 : Hid (spotW w5 w.heap.size 0 0) := spotW_below HS2.out hb5; have ⟨⟨m0, m1⟩, m2, m3⟩ := HS5.out; clear hb5)
    | fail)
  obtain ⟨⟨s0, s1⟩, _⟩ := spotW_set (m := 2) (n := -1) HS5.out
  have hB := below_set2 HB5.out (Nat.le_refl _) (.int .i64 2) (.int .i64 (-1))
  refine bodyPost_ret (v := .tuple #[.string s, .agg #[.int .i64 2, .int .i64 (-1)]]) (by simp [results, Tryz.results8, go_sem, s0, s1]) rfl ⟨rfl, hB⟩

set_option maxRecDepth 100000 in
set_option maxHeartbeats 8000000 in
theorem refSplice_arg1 (s put : ByteArray) (k d j n : Nat) (at_ drop c1 c2 c3 c4 PL : Int) (hs : s.size < 100000000) (hp : put.size < 100000000) (hk : at_ = (k : Int)) (hd : drop = (d : Int)) (hj : k + d = j) (hjs : j ≤ s.size) (w : World)
    (cC : Hid (∀ wx, Calls Tryz.prog 6 #[.string put] wx fun e w' => e = .returned (.tuple #[.agg #[.int .i64 c1, .int .i64 c2, .int .i64 c3, .int .i64 c4], .agg #[.int .i64 0, .int .i64 (-1)]]) ∧ Below wx.heap.size wx w'))
    (cI1 : Hid (∀ wx, Calls Tryz.prog 32 #[.int .i64 at_, .int .i64 0, .int .i64 (s.size : Int)] wx fun e w' => e = .returned (.bool true) ∧ w' = wx))
    (cI2 : Hid (∀ wx, Calls Tryz.prog 32 #[.int .i64 drop, .int .i64 0, .int .i64 ((s.size : Int) - at_)] wx fun e w' => e = .returned (.bool true) ∧ w' = wx))
    (cE1 : Hid (∀ wx, Calls Tryz.prog 34 #[.string s, .int .i64 at_] wx fun e w' => e = .returned (.bool false) ∧ w' = wx)) :
    Calls Tryz.prog 8 #[.string s, .int .i64 at_, .int .i64 drop, .string put] w fun e w' => e = .returned (.tuple #[.string s, .agg #[.int .i64 1, .int .i64 (-1)]]) ∧ Below w.heap.size w w' := by
  subst hk hd
  have hjj : (k : Int) + (d : Int) = (j : Int) := by omega
  have hks : k ≤ s.size := by omega
  have cBr : Hid (∀ wx, Calls Tryz.prog 33 #[.int .i64 1] wx fun e w' => e = .returned (.agg #[.int .i64 1, .int .i64 (-1)]) ∧ Below wx.heap.size wx w') := fun wx => Bare_any 1 wx
  have HB0 : Hid (Below w.heap.size w (w.alloc (.cells #[.int .i64 0, .int .i64 0] 32))) := (Below.refl _ w).alloc (Nat.le_refl _) _
  have HS0 : Hid (spotW (w.alloc (.cells #[.int .i64 0, .int .i64 0] 32)) w.heap.size 0 0) := spotW_new w _ _ _
  go_enter Tryz.func8, Tryz.ntmps8
  go_wp2_with (first
    | (go_at_call 6; refine (cC.out _).mono ?_; rintro e w1 ⟨rfl, hb1⟩; have hby : Below w1.heap.size w1 ((w1.alloc (.cells #[.int .i64 c1, .int .i64 c2, .int .i64 c3, .int .i64 c4] 29)).alloc (.cells #[.int .i64 0, .int .i64 (-1)] 32)) := ((Below.refl _ _).alloc (Nat.le_refl _) _).alloc (by simp) _; have HB1 : Hid (Below w.heap.size w w1) := HB0.out.trans (hb1.mono HB0.out.size); have HB2 : Hid (Below w.heap.size w ((w1.alloc (.cells #[.int .i64 c1, .int .i64 c2, .int .i64 c3, .int .i64 c4] 29)).alloc (.cells #[.int .i64 0, .int .i64 (-1)] 32))) := HB1.out.trans (hby.mono HB1.out.size); have HS1 : Hid (spotW w1 w.heap.size 0 0) := spotW_below HS0.out hb1; have HS2 : Hid (spotW ((w1.alloc (.cells #[.int .i64 c1, .int .i64 c2, .int .i64 c3, .int .i64 c4] 29)).alloc (.cells #[.int .i64 0, .int .i64 (-1)] 32)) w.heap.size 0 0) := spotW_below HS1.out hby; have HF2 : Hid (spotW ((w1.alloc (.cells #[.int .i64 c1, .int .i64 c2, .int .i64 c3, .int .i64 c4] 29)).alloc (.cells #[.int .i64 0, .int .i64 (-1)] 32)) (w1.heap.size + 1) 0 (-1)) := (by have := spotW_new (w1.alloc (.cells #[.int .i64 c1, .int .i64 c2, .int .i64 c3, .int .i64 c4] 29)) 0 (-1) 32; rw [World.size_alloc] at this; exact this); have hl1 : w.heap.size < w1.heap.size := World.block_lt_of_cell? w1 _ HS1.out.1.1; have hn1 : w.heap.size ≠ w1.heap.size := Nat.ne_of_lt hl1; clear hb1 hby)
    | (have _ := HI1; go_at_call 32; refine (cI2.out _).mono ?_; rintro e wz ⟨rfl, hwz⟩; obtain rfl := hwz.symm)
    | (go_at_call 32; have HI1 := True.intro; refine (cI1.out _).mono ?_; rintro e wz ⟨rfl, hwz⟩; obtain rfl := hwz.symm)
    | (go_at_call 34; have HE1 := True.intro; refine (cE1.out _).mono ?_; rintro e wz ⟨rfl, hwz⟩; obtain rfl := hwz.symm)
    | (go_at_call 33; refine (cBr.out _).mono ?_; rintro e w5 ⟨rfl, hb5⟩; have HB5 : Hid (Below w.heap.size w w5) := HB2.out.trans (hb5.mono HB2.out.size); have HS5 : Hid (spotW w5 w.heap.size 0 0) := spotW_below HS2.out hb5; have ⟨⟨m0, m1⟩, m2, m3⟩ := HS5.out; clear hb5)
    | fail)
  obtain ⟨⟨s0, s1⟩, _⟩ := spotW_set (m := 1) (n := -1) HS5.out
  have hB := below_set2 HB5.out (Nat.le_refl _) (.int .i64 1) (.int .i64 (-1))
  refine bodyPost_ret (v := .tuple #[.string s, .agg #[.int .i64 1, .int .i64 (-1)]]) (by simp [results, Tryz.results8, go_sem, s0, s1]) rfl ⟨rfl, hB⟩

set_option maxRecDepth 100000 in
set_option maxHeartbeats 8000000 in
theorem refSplice_arg2 (s put : ByteArray) (k d j n : Nat) (at_ drop c1 c2 c3 c4 PL : Int) (hs : s.size < 100000000) (hp : put.size < 100000000) (hk : at_ = (k : Int)) (hd : drop = (d : Int)) (hj : k + d = j) (hjs : j ≤ s.size) (w : World)
    (cC : Hid (∀ wx, Calls Tryz.prog 6 #[.string put] wx fun e w' => e = .returned (.tuple #[.agg #[.int .i64 c1, .int .i64 c2, .int .i64 c3, .int .i64 c4], .agg #[.int .i64 0, .int .i64 (-1)]]) ∧ Below wx.heap.size wx w'))
    (cI1 : Hid (∀ wx, Calls Tryz.prog 32 #[.int .i64 at_, .int .i64 0, .int .i64 (s.size : Int)] wx fun e w' => e = .returned (.bool true) ∧ w' = wx))
    (cI2 : Hid (∀ wx, Calls Tryz.prog 32 #[.int .i64 drop, .int .i64 0, .int .i64 ((s.size : Int) - at_)] wx fun e w' => e = .returned (.bool true) ∧ w' = wx))
    (cE1 : Hid (∀ wx, Calls Tryz.prog 34 #[.string s, .int .i64 at_] wx fun e w' => e = .returned (.bool true) ∧ w' = wx))
    (cE2 : Hid (∀ wx, Calls Tryz.prog 34 #[.string s, .int .i64 (j : Int)] wx fun e w' => e = .returned (.bool false) ∧ w' = wx)) :
    Calls Tryz.prog 8 #[.string s, .int .i64 at_, .int .i64 drop, .string put] w fun e w' => e = .returned (.tuple #[.string s, .agg #[.int .i64 1, .int .i64 (-1)]]) ∧ Below w.heap.size w w' := by
  subst hk hd
  have hjj : (k : Int) + (d : Int) = (j : Int) := by omega
  have hks : k ≤ s.size := by omega
  have cBr : Hid (∀ wx, Calls Tryz.prog 33 #[.int .i64 1] wx fun e w' => e = .returned (.agg #[.int .i64 1, .int .i64 (-1)]) ∧ Below wx.heap.size wx w') := fun wx => Bare_any 1 wx
  have HB0 : Hid (Below w.heap.size w (w.alloc (.cells #[.int .i64 0, .int .i64 0] 32))) := (Below.refl _ w).alloc (Nat.le_refl _) _
  have HS0 : Hid (spotW (w.alloc (.cells #[.int .i64 0, .int .i64 0] 32)) w.heap.size 0 0) := spotW_new w _ _ _
  go_enter Tryz.func8, Tryz.ntmps8
  go_wp2_with (first
    | (go_at_call 6; refine (cC.out _).mono ?_; rintro e w1 ⟨rfl, hb1⟩; have hby : Below w1.heap.size w1 ((w1.alloc (.cells #[.int .i64 c1, .int .i64 c2, .int .i64 c3, .int .i64 c4] 29)).alloc (.cells #[.int .i64 0, .int .i64 (-1)] 32)) := ((Below.refl _ _).alloc (Nat.le_refl _) _).alloc (by simp) _; have HB1 : Hid (Below w.heap.size w w1) := HB0.out.trans (hb1.mono HB0.out.size); have HB2 : Hid (Below w.heap.size w ((w1.alloc (.cells #[.int .i64 c1, .int .i64 c2, .int .i64 c3, .int .i64 c4] 29)).alloc (.cells #[.int .i64 0, .int .i64 (-1)] 32))) := HB1.out.trans (hby.mono HB1.out.size); have HS1 : Hid (spotW w1 w.heap.size 0 0) := spotW_below HS0.out hb1; have HS2 : Hid (spotW ((w1.alloc (.cells #[.int .i64 c1, .int .i64 c2, .int .i64 c3, .int .i64 c4] 29)).alloc (.cells #[.int .i64 0, .int .i64 (-1)] 32)) w.heap.size 0 0) := spotW_below HS1.out hby; have HF2 : Hid (spotW ((w1.alloc (.cells #[.int .i64 c1, .int .i64 c2, .int .i64 c3, .int .i64 c4] 29)).alloc (.cells #[.int .i64 0, .int .i64 (-1)] 32)) (w1.heap.size + 1) 0 (-1)) := (by have := spotW_new (w1.alloc (.cells #[.int .i64 c1, .int .i64 c2, .int .i64 c3, .int .i64 c4] 29)) 0 (-1) 32; rw [World.size_alloc] at this; exact this); have hl1 : w.heap.size < w1.heap.size := World.block_lt_of_cell? w1 _ HS1.out.1.1; have hn1 : w.heap.size ≠ w1.heap.size := Nat.ne_of_lt hl1; clear hb1 hby)
    | (have _ := HI1; go_at_call 32; refine (cI2.out _).mono ?_; rintro e wz ⟨rfl, hwz⟩; obtain rfl := hwz.symm)
    | (go_at_call 32; have HI1 := True.intro; refine (cI1.out _).mono ?_; rintro e wz ⟨rfl, hwz⟩; obtain rfl := hwz.symm)
    | (have _ := HE1; go_at_call 34; refine (cE2.out _).mono ?_; rintro e wz ⟨rfl, hwz⟩; obtain rfl := hwz.symm)
    | (go_at_call 34; have HE1 := True.intro; refine (cE1.out _).mono ?_; rintro e wz ⟨rfl, hwz⟩; obtain rfl := hwz.symm)
    | (go_at_call 33; refine (cBr.out _).mono ?_; rintro e w5 ⟨rfl, hb5⟩; have HB5 : Hid (Below w.heap.size w w5) := HB2.out.trans (hb5.mono HB2.out.size); have HS5 : Hid (spotW w5 w.heap.size 0 0) := spotW_below HS2.out hb5; have ⟨⟨m0, m1⟩, m2, m3⟩ := HS5.out; clear hb5)
    | fail)
  obtain ⟨⟨s0, s1⟩, _⟩ := spotW_set (m := 1) (n := -1) HS5.out
  have hB := below_set2 HB5.out (Nat.le_refl _) (.int .i64 1) (.int .i64 (-1))
  refine bodyPost_ret (v := .tuple #[.string s, .agg #[.int .i64 1, .int .i64 (-1)]]) (by simp [results, Tryz.results8, go_sem, s0, s1]) rfl ⟨rfl, hB⟩

set_option maxRecDepth 100000 in
set_option maxHeartbeats 8000000 in
theorem refSplice_full (s put : ByteArray) (k d j n : Nat) (at_ drop c1 c2 c3 c4 PL : Int) (hs : s.size < 100000000) (hp : put.size < 100000000) (hk : at_ = (k : Int)) (hd : drop = (d : Int)) (hj : k + d = j) (hjs : j ≤ s.size) (h5 : (8000 : Int) < (s.size : Int) - drop + put.size) (w : World)
    (cC : Hid (∀ wx, Calls Tryz.prog 6 #[.string put] wx fun e w' => e = .returned (.tuple #[.agg #[.int .i64 c1, .int .i64 c2, .int .i64 c3, .int .i64 c4], .agg #[.int .i64 0, .int .i64 (-1)]]) ∧ Below wx.heap.size wx w'))
    (cI1 : Hid (∀ wx, Calls Tryz.prog 32 #[.int .i64 at_, .int .i64 0, .int .i64 (s.size : Int)] wx fun e w' => e = .returned (.bool true) ∧ w' = wx))
    (cI2 : Hid (∀ wx, Calls Tryz.prog 32 #[.int .i64 drop, .int .i64 0, .int .i64 ((s.size : Int) - at_)] wx fun e w' => e = .returned (.bool true) ∧ w' = wx))
    (cE1 : Hid (∀ wx, Calls Tryz.prog 34 #[.string s, .int .i64 at_] wx fun e w' => e = .returned (.bool true) ∧ w' = wx))
    (cE2 : Hid (∀ wx, Calls Tryz.prog 34 #[.string s, .int .i64 (j : Int)] wx fun e w' => e = .returned (.bool true) ∧ w' = wx)) :
    Calls Tryz.prog 8 #[.string s, .int .i64 at_, .int .i64 drop, .string put] w fun e w' => e = .returned (.tuple #[.string s, .agg #[.int .i64 12, .int .i64 (-1)]]) ∧ Below w.heap.size w w' := by
  subst hk hd
  have hjj : (k : Int) + (d : Int) = (j : Int) := by omega
  have hks : k ≤ s.size := by omega
  have cBr : Hid (∀ wx, Calls Tryz.prog 33 #[.int .i64 12] wx fun e w' => e = .returned (.agg #[.int .i64 12, .int .i64 (-1)]) ∧ Below wx.heap.size wx w') := fun wx => Bare_any 12 wx
  have HB0 : Hid (Below w.heap.size w (w.alloc (.cells #[.int .i64 0, .int .i64 0] 32))) := (Below.refl _ w).alloc (Nat.le_refl _) _
  have HS0 : Hid (spotW (w.alloc (.cells #[.int .i64 0, .int .i64 0] 32)) w.heap.size 0 0) := spotW_new w _ _ _
  go_enter Tryz.func8, Tryz.ntmps8
  go_wp2_with (first
    | (go_at_call 6; refine (cC.out _).mono ?_; rintro e w1 ⟨rfl, hb1⟩; have hby : Below w1.heap.size w1 ((w1.alloc (.cells #[.int .i64 c1, .int .i64 c2, .int .i64 c3, .int .i64 c4] 29)).alloc (.cells #[.int .i64 0, .int .i64 (-1)] 32)) := ((Below.refl _ _).alloc (Nat.le_refl _) _).alloc (by simp) _; have HB1 : Hid (Below w.heap.size w w1) := HB0.out.trans (hb1.mono HB0.out.size); have HB2 : Hid (Below w.heap.size w ((w1.alloc (.cells #[.int .i64 c1, .int .i64 c2, .int .i64 c3, .int .i64 c4] 29)).alloc (.cells #[.int .i64 0, .int .i64 (-1)] 32))) := HB1.out.trans (hby.mono HB1.out.size); have HS1 : Hid (spotW w1 w.heap.size 0 0) := spotW_below HS0.out hb1; have HS2 : Hid (spotW ((w1.alloc (.cells #[.int .i64 c1, .int .i64 c2, .int .i64 c3, .int .i64 c4] 29)).alloc (.cells #[.int .i64 0, .int .i64 (-1)] 32)) w.heap.size 0 0) := spotW_below HS1.out hby; have HF2 : Hid (spotW ((w1.alloc (.cells #[.int .i64 c1, .int .i64 c2, .int .i64 c3, .int .i64 c4] 29)).alloc (.cells #[.int .i64 0, .int .i64 (-1)] 32)) (w1.heap.size + 1) 0 (-1)) := (by have := spotW_new (w1.alloc (.cells #[.int .i64 c1, .int .i64 c2, .int .i64 c3, .int .i64 c4] 29)) 0 (-1) 32; rw [World.size_alloc] at this; exact this); have hl1 : w.heap.size < w1.heap.size := World.block_lt_of_cell? w1 _ HS1.out.1.1; have hn1 : w.heap.size ≠ w1.heap.size := Nat.ne_of_lt hl1; clear hb1 hby)
    | (have _ := HI1; go_at_call 32; refine (cI2.out _).mono ?_; rintro e wz ⟨rfl, hwz⟩; obtain rfl := hwz.symm)
    | (go_at_call 32; have HI1 := True.intro; refine (cI1.out _).mono ?_; rintro e wz ⟨rfl, hwz⟩; obtain rfl := hwz.symm)
    | (have _ := HE1; go_at_call 34; refine (cE2.out _).mono ?_; rintro e wz ⟨rfl, hwz⟩; obtain rfl := hwz.symm)
    | (go_at_call 34; have HE1 := True.intro; refine (cE1.out _).mono ?_; rintro e wz ⟨rfl, hwz⟩; obtain rfl := hwz.symm)
    | (go_at_call 33; refine (cBr.out _).mono ?_; rintro e w5 ⟨rfl, hb5⟩; have HB5 : Hid (Below w.heap.size w w5) := HB2.out.trans (hb5.mono HB2.out.size); have HS5 : Hid (spotW w5 w.heap.size 0 0) := spotW_below HS2.out hb5; have ⟨⟨m0, m1⟩, m2, m3⟩ := HS5.out; clear hb5)
    | fail)
  obtain ⟨⟨s0, s1⟩, _⟩ := spotW_set (m := 12) (n := -1) HS5.out
  have hB := below_set2 HB5.out (Nat.le_refl _) (.int .i64 12) (.int .i64 (-1))
  refine bodyPost_ret (v := .tuple #[.string s, .agg #[.int .i64 12, .int .i64 (-1)]]) (by simp [results, Tryz.results8, go_sem, s0, s1]) rfl ⟨rfl, hB⟩

set_option maxRecDepth 100000 in
set_option maxHeartbeats 8000000 in
theorem refSplice_good (s put : ByteArray) (k d j n : Nat) (at_ drop c1 c2 c3 c4 PL : Int) (hs : s.size < 100000000) (hp : put.size < 100000000) (hk : at_ = (k : Int)) (hd : drop = (d : Int)) (hj : k + d = j) (hjs : j ≤ s.size) (h5 : ¬ (8000 : Int) < (s.size : Int) - drop + put.size) (w : World)
    (cC : Hid (∀ wx, Calls Tryz.prog 6 #[.string put] wx fun e w' => e = .returned (.tuple #[.agg #[.int .i64 c1, .int .i64 c2, .int .i64 c3, .int .i64 c4], .agg #[.int .i64 0, .int .i64 (-1)]]) ∧ Below wx.heap.size wx w'))
    (cI1 : Hid (∀ wx, Calls Tryz.prog 32 #[.int .i64 at_, .int .i64 0, .int .i64 (s.size : Int)] wx fun e w' => e = .returned (.bool true) ∧ w' = wx))
    (cI2 : Hid (∀ wx, Calls Tryz.prog 32 #[.int .i64 drop, .int .i64 0, .int .i64 ((s.size : Int) - at_)] wx fun e w' => e = .returned (.bool true) ∧ w' = wx))
    (cE1 : Hid (∀ wx, Calls Tryz.prog 34 #[.string s, .int .i64 at_] wx fun e w' => e = .returned (.bool true) ∧ w' = wx))
    (cE2 : Hid (∀ wx, Calls Tryz.prog 34 #[.string s, .int .i64 (j : Int)] wx fun e w' => e = .returned (.bool true) ∧ w' = wx)) :
    Calls Tryz.prog 8 #[.string s, .int .i64 at_, .int .i64 drop, .string put] w fun e w' => e = .returned (.tuple #[.string (s.extract 0 k ++ put ++ s.extract j s.size), .agg #[.int .i64 0, .int .i64 (-1)]]) ∧ Below w.heap.size w w' := by
  subst hk hd
  have hjj : (k : Int) + (d : Int) = (j : Int) := by omega
  have hks : k ≤ s.size := by omega
  have z1 : (s.extract 0 k).size = k := by rw [ByteArray.size_extract]; omega
  have z2 : (s.extract j s.size).size = s.size - j := by rw [ByteArray.size_extract]; omega
  have y1 : (s.extract 0 k).size + put.size ≤ 400000000 := by omega
  have y2 : (s.extract 0 k ++ put).size + (s.extract j s.size).size ≤ 400000000 := by rw [ByteArray.size_append]; omega
  have q1 : ¬ 9223372036854775807 < k + put.size := by omega
  have q2 : ¬ 9223372036854775807 < k + put.size + (s.size - j) := by omega
  clear z1 z2
  have cBr : Hid (∀ wx, Calls Tryz.prog 33 #[.int .i64 0] wx fun e w' => e = .returned (.agg #[.int .i64 0, .int .i64 (-1)]) ∧ Below wx.heap.size wx w') := fun wx => Bare_any 0 wx
  have HB0 : Hid (Below w.heap.size w (w.alloc (.cells #[.int .i64 0, .int .i64 0] 32))) := (Below.refl _ w).alloc (Nat.le_refl _) _
  have HS0 : Hid (spotW (w.alloc (.cells #[.int .i64 0, .int .i64 0] 32)) w.heap.size 0 0) := spotW_new w _ _ _
  go_enter Tryz.func8, Tryz.ntmps8
  go_wp2_with (first
    | (go_at_call 6; refine (cC.out _).mono ?_; rintro e w1 ⟨rfl, hb1⟩; have hby : Below w1.heap.size w1 ((w1.alloc (.cells #[.int .i64 c1, .int .i64 c2, .int .i64 c3, .int .i64 c4] 29)).alloc (.cells #[.int .i64 0, .int .i64 (-1)] 32)) := ((Below.refl _ _).alloc (Nat.le_refl _) _).alloc (by simp) _; have HB1 : Hid (Below w.heap.size w w1) := HB0.out.trans (hb1.mono HB0.out.size); have HB2 : Hid (Below w.heap.size w ((w1.alloc (.cells #[.int .i64 c1, .int .i64 c2, .int .i64 c3, .int .i64 c4] 29)).alloc (.cells #[.int .i64 0, .int .i64 (-1)] 32))) := HB1.out.trans (hby.mono HB1.out.size); have HS1 : Hid (spotW w1 w.heap.size 0 0) := spotW_below HS0.out hb1; have HS2 : Hid (spotW ((w1.alloc (.cells #[.int .i64 c1, .int .i64 c2, .int .i64 c3, .int .i64 c4] 29)).alloc (.cells #[.int .i64 0, .int .i64 (-1)] 32)) w.heap.size 0 0) := spotW_below HS1.out hby; have HF2 : Hid (spotW ((w1.alloc (.cells #[.int .i64 c1, .int .i64 c2, .int .i64 c3, .int .i64 c4] 29)).alloc (.cells #[.int .i64 0, .int .i64 (-1)] 32)) (w1.heap.size + 1) 0 (-1)) := (by have := spotW_new (w1.alloc (.cells #[.int .i64 c1, .int .i64 c2, .int .i64 c3, .int .i64 c4] 29)) 0 (-1) 32; rw [World.size_alloc] at this; exact this); have hl1 : w.heap.size < w1.heap.size := World.block_lt_of_cell? w1 _ HS1.out.1.1; have hn1 : w.heap.size ≠ w1.heap.size := Nat.ne_of_lt hl1; clear hb1 hby)
    | (have _ := HI1; go_at_call 32; refine (cI2.out _).mono ?_; rintro e wz ⟨rfl, hwz⟩; obtain rfl := hwz.symm)
    | (go_at_call 32; have HI1 := True.intro; refine (cI1.out _).mono ?_; rintro e wz ⟨rfl, hwz⟩; obtain rfl := hwz.symm)
    | (have _ := HE1; go_at_call 34; refine (cE2.out _).mono ?_; rintro e wz ⟨rfl, hwz⟩; obtain rfl := hwz.symm)
    | (go_at_call 34; have HE1 := True.intro; refine (cE1.out _).mono ?_; rintro e wz ⟨rfl, hwz⟩; obtain rfl := hwz.symm)
    | fail)
  have hb2 := HB2.out
  have hs2 := HS2.out
  have hf2 := HF2.out
  generalize ((w1.alloc (.cells #[.int .i64 c1, .int .i64 c2, .int .i64 c3, .int .i64 c4] 29)).alloc (.cells #[.int .i64 0, .int .i64 (-1)] 32)) = WW at *
  generalize w1.heap.size = BF at *
  clear HB0 HS0 HB1 HS1 HB2 HS2 HF2 hl1 hn1 cC
  refine wp_region_rel 13 14 (by kernel_rfl) rfl ?_
  intro w6 hb6
  obtain ⟨G, hG⟩ := exists_growth w6
  have cZ := fun x => cBr.out (G x)
  have wj : IntKind.i64.wrap (j : Int) = (j : Int) := by rw [IntKind.wrap_i64]; omega
  (refine anyG_step hG (i := 0) rfl (by kernel_rfl) (by kernel_rfl) (by kernel_rfl) (fun K hK => ?_); go_simp; refine hK _ ?_; clear hK K)
  (refine anyG_step hG (i := 1) rfl (by kernel_rfl) (by kernel_rfl) (by kernel_rfl) (fun K hK => ?_); go_simp; refine hK _ ?_; clear hK K)
  (refine anyG_step hG (i := 2) rfl (by kernel_rfl) (by kernel_rfl) (by kernel_rfl) (fun K hK => ?_); go_simp; refine hK _ ?_; clear hK K)
  (refine anyG_step hG (i := 3) rfl (by kernel_rfl) (by kernel_rfl) (by kernel_rfl) (fun K hK => ?_); go_simp; refine hK _ ?_; clear hK K)
  (refine anyG_step hG (i := 4) rfl (by kernel_rfl) (by kernel_rfl) (by kernel_rfl) (fun K hK => ?_); go_simp; refine hK _ ?_; clear hK K)
  (refine anyG_step hG (i := 5) rfl (by kernel_rfl) (by kernel_rfl) (by kernel_rfl) (fun K hK => ?_); go_simp; refine hK _ ?_; clear hK K)
  (refine anyG_step hG (i := 6) rfl (by kernel_rfl) (by kernel_rfl) (by kernel_rfl) (fun K hK => ?_); go_simp; refine hK _ ?_; clear hK K)
  (refine anyG_step hG (i := 7) rfl (by kernel_rfl) (by kernel_rfl) (by kernel_rfl) (fun K hK => ?_); go_simp; refine hK _ ?_; clear hK K)
  (refine anyG_step hG (i := 8) rfl (by kernel_rfl) (by kernel_rfl) (by kernel_rfl) (fun K hK => ?_); go_simp; refine hK _ ?_; clear hK K)
  (refine anyG_step hG (i := 9) rfl (by kernel_rfl) (by kernel_rfl) (by kernel_rfl) (fun K hK => ?_); go_simp; refine hK _ ?_; clear hK K)
  (refine anyG_step hG (i := 10) rfl (by kernel_rfl) (by kernel_rfl) (by kernel_rfl) (fun K hK => ?_); go_simp; refine hK _ ?_; clear hK K)
  (refine anyG_step hG (i := 11) rfl (by kernel_rfl) (by kernel_rfl) (by kernel_rfl) (fun K hK => ?_); go_simp; apply Exists.intro; refine ⟨fun _ => ?_, hK _ ?_⟩; exact cZ _; clear hK K)
  (refine anyG_step hG (i := 12) rfl (by kernel_rfl) (by kernel_rfl) (by kernel_rfl) (fun K hK => ?_); go_simp; refine hK _ ?_; clear hK K)
  clear cZ hG
  refine anyG_late (i := 13) rfl (by kernel_rfl) (by kernel_rfl) ?_
  intro w7 hb7 K hK
  have hb67 := hb6.trans (hb7.mono hb6.size)
  have hs7 := spotW_below hs2 hb67
  have HS7 : Hid _ := hs7
  have HB7 : Hid (Below w.heap.size w w7) := hb2.trans (hb67.mono hb2.size)
  obtain ⟨⟨k0, k1⟩, k2, k3⟩ := hs7
  clear hb6 hb7 hb67 hs2 hf2 hb2
  go_simp
  refine hK _ _ ?_
  clear hK K
  refine anyG_end (by kernel_rfl) ?_
  intro w9 hb9
  obtain ⟨⟨s0, s1⟩, _⟩ := spotW_below (spotW_set (m := 0) (n := (-1)) HS7.out) hb9
  have hB7 := below_set2 HB7.out (Nat.le_refl _) (.int .i64 0) (.int .i64 (-1))
  have hB9 := hB7.trans (hb9.mono hB7.size)
  clear hb9 hB7 k0 k1 k2 k3
  go_wp2
  refine bodyPost_ret (v := .tuple #[.string (s.extract 0 k ++ put ++ s.extract j s.size), .agg #[.int .i64 0, .int .i64 (-1)]]) (by simp [results, Tryz.results8, go_sem, s0, s1]) rfl ⟨rfl, hB9⟩
end Go.Proofs.YtldhbjmillfjgaaGreatDoor

namespace Go.Proofs.YtldhbjmillfjgaaGreatDoor
open Go.RowKit
set_option linter.unusedVariables false
attribute [local go_sem] Oper.semAt_some yieldsUpon okUpon

/-- .. and the tree that waits. -/
def grows2 (w W : World) (L sb : Nat) (q1 : Option Addr) (t1 : T) (rs : List Nat) : Prop := grows w W L sb (sb + 2) rs ∧ isTree W q1 t1

theorem grows_put2 {w W w5 w6 : World} {sb : Nat} {q q1 : Option Addr} {v : Value} {t t1 : T} {rs : List Nat} (hW : Below w.heap.size w W) (hlt : w.heap.size < sb) (hs : sb + 3 ≤ W.heap.size) (k1 : W.cell? ⟨w.heap.size, 0, none⟩ = some v) (k2 : W.frozen? ⟨w.heap.size, 0, none⟩ = false)
    (k6 : W.cell? ⟨sb, 5, none⟩ = none) (k7 : W.cell? ⟨sb + 2, 5, none⟩ = none) (k8 : W.cell? ⟨w.heap.size, 5, none⟩ = none) (h5 : Below W.heap.size W w5) (ht : isTree w5 q t) (ho : okT t) (hr : t.runes = rs) (ht1 : isTree w5 q1 t1)
    (h6 : Below w5.heap.size (w5.setCell ⟨w.heap.size, 0, none⟩ (.pointer q)) w6) :
    Same2 (sb + 1) W w6 ∧ (W.heap.size ≤ w6.heap.size ∧ w6.heap[sb]? = W.heap[sb]?) ∧ grows2 w w6 w.heap.size sb q1 t1 rs := by
  have hB : But w.heap.size w5 (w5.setCell ⟨w.heap.size, 0, none⟩ (.pointer q)) := But.setCell (But.refl _ w5) (p := ⟨w.heap.size, 0, none⟩) rfl _
  have hsz : (w5.setCell ⟨w.heap.size, 0, none⟩ (.pointer q)).heap.size = w5.heap.size := by simp [World.setCell]
  have s5 := h5.size
  have s6 := h6.size
  have blk : ∀ k, k ≠ w.heap.size → k < W.heap.size → w6.heap[k]? = W.heap[k]? := fun k h1 h2 => (h6.block k (by omega)).trans ((hB.block k (by omega) h1).trans (h5.block k h2))
  have c1 : w5.cell? ⟨w.heap.size, 0, none⟩ = some v := (cellOn (h5.block w.heap.size (by omega)) 0).trans k1
  have c5 : w5.cell? ⟨w.heap.size, 5, none⟩ = none := (cellOn (h5.block w.heap.size (by omega)) 5).trans k8
  refine ⟨⟨blk _ (by omega) (by omega), blk _ (by omega) (by omega)⟩, ⟨by omega, blk _ (by omega) (by omega)⟩, ⟨?_, ⟨q, t, ?_, ?_, isTree_below (by rw [hsz]; exact h6) (isTree_but hB c5 ht), ho, hr⟩, ?_, ?_, ?_, by omega⟩, isTree_below (by rw [hsz]; exact h6) (isTree_but hB c5 ht1)⟩
  · exact hW.trans ((h5.mono (by omega)).trans ((hB.below (by omega)).trans (h6.mono (by omega))))
  · exact (cellOn (h6.block w.heap.size (by omega)) 0).trans (World.cell?_setCell_same' _ _ _ (by rw [c1]; rfl))
  · exact (frozenOn (h6.block w.heap.size (by omega)) 0).trans ((World.frozen?_setCell _ _ _ _).trans ((frozenOn (h5.block w.heap.size (by omega)) 0).trans k2))
  · exact (cellOn (blk sb (by omega) (by omega)) 5).trans k6
  · exact (cellOn (blk (sb + 2) (by omega) (by omega)) 5).trans k7
  · exact (cellOn (h6.block w.heap.size (by omega)) 5).trans ((World.cell?_setCell_other (w := w5) ⟨w.heap.size, 0, none⟩ ⟨w.heap.size, 5, none⟩ _ (by simp)).trans c5)

theorem wpIn_seq_key {F : Fence} {n : Nat} {P : Program} {Q : Exit → Act → World → Prop} {a : Act} {w : World} {x y : Code} (Fp : Act → World → Prop)
    (h1 : ∀ Q' : Exit → Act → World → Prop, (∀ a' w', Fp a' w' → Q' .normal a' w') → x.wpIn F n P Q' a w) (h2 : ∀ a' w', Fp a' w' → y.wpIn F n P Q a' w') : (Code.seq x y).wpIn F n P Q a w :=
  wpIn_seq (h1 _ fun a' w' h => h2 a' w' h)

/-- A chunk's text in its box. -/
def boxAt (W : World) (B : Nat) (x : List Nat) : Prop := chunkAt W B (.string (bytesOf x)) (.int .i64 (C1 x)) (.int .i64 (C2 x)) (.int .i64 (C3 x)) (.int .i64 (C4 x)) ∧ W.cell? ⟨B, 5, none⟩ = none
theorem boxAt_below {W W' : World} {B : Nat} {x : List Nat} (h : boxAt W B x) (hb : Below W.heap.size W W') : boxAt W' B x :=
  ⟨chunkAt_below h.1 hb, (cellOn (hb.block B (chunkAt_lt h.1)) 5).trans h.2⟩
/-- Ahead of the walk: the left tree's variable, and the chunks at both sides. -/
def boxes (w W : World) (q0 : Option Addr) (xa xb : List Nat) : Prop :=
  Below w.heap.size w W ∧ w.heap.size + 3 ≤ W.heap.size ∧ (W.cell? ⟨w.heap.size, 0, none⟩ = some (.pointer q0) ∧ W.frozen? ⟨w.heap.size, 0, none⟩ = false ∧ W.cell? ⟨w.heap.size, 5, none⟩ = none) ∧ boxAt W (w.heap.size + 1) xa ∧ boxAt W (w.heap.size + 2) xb
theorem boxes_below {w W W' : World} {q0 : Option Addr} {xa xb : List Nat} (h : boxes w W q0 xa xb) (hb : Below W.heap.size W W') : boxes w W' q0 xa xb := by
  obtain ⟨h1, h2, ⟨h3, h4, h5⟩, h6, h7⟩ := h
  have := hb.size
  have e := hb.block w.heap.size (by omega)
  exact ⟨h1.trans (hb.mono (by omega)), by omega, ⟨(cellOn e 0).trans h3, (frozenOn e 0).trans h4, (cellOn e 5).trans h5⟩, boxAt_below h6 hb, boxAt_below h7 hb⟩
theorem set5_size (W : World) (B : Nat) (u0 u1 u2 u3 u4 : Value) : (((((W.setCell ⟨B, 0, none⟩ u0).setCell ⟨B, 1, none⟩ u1).setCell ⟨B, 2, none⟩ u2).setCell ⟨B, 3, none⟩ u3).setCell ⟨B, 4, none⟩ u4).heap.size = W.heap.size := by simp [World.setCell]
theorem chunkAt_but {B B' : Nat} {A A' : World} {v0 v1 v2 v3 v4 : Value} (h : But B' A A') (hne : B ≠ B') (hc : chunkAt A B v0 v1 v2 v3 v4) : chunkAt A' B v0 v1 v2 v3 v4 := by
  have hlt := chunkAt_lt hc
  have e := h.block B hlt hne
  obtain ⟨⟨a0, a1, a2, a3, a4⟩, f0, f1, f2, f3, f4⟩ := hc
  exact ⟨⟨(cellOn e 0).trans a0, (cellOn e 1).trans a1, (cellOn e 2).trans a2, (cellOn e 3).trans a3, (cellOn e 4).trans a4⟩, (frozenOn e 0).trans f0, (frozenOn e 1).trans f1, (frozenOn e 2).trans f2, (frozenOn e 3).trans f3, (frozenOn e 4).trans f4⟩
theorem boxAt_but {B B' : Nat} {A A' : World} {x : List Nat} (h : But B' A A') (hne : B ≠ B') (hc : boxAt A B x) : boxAt A' B x :=
  ⟨chunkAt_but h hne hc.1, (h.cellEq (chunkAt_lt hc.1) hne).trans hc.2⟩
theorem boxAt_set {A : World} {B : Nat} {x : List Nat} (y : List Nat) (h : boxAt A B x) : boxAt (((((A.setCell ⟨B, 0, none⟩ (.string (bytesOf y))).setCell ⟨B, 1, none⟩ (.int .i64 (C1 y))).setCell ⟨B, 2, none⟩ (.int .i64 (C2 y))).setCell ⟨B, 3, none⟩ (.int .i64 (C3 y))).setCell ⟨B, 4, none⟩ (.int .i64 (C4 y))) B y := by
  refine ⟨chunkAt_set h.1, ?_⟩
  exact (World.cell?_setCell_other (w := _) ⟨B, 4, none⟩ ⟨B, 5, none⟩ _ (by simp)).trans ((World.cell?_setCell_other (w := _) ⟨B, 3, none⟩ ⟨B, 5, none⟩ _ (by simp)).trans ((World.cell?_setCell_other (w := _) ⟨B, 2, none⟩ ⟨B, 5, none⟩ _ (by simp)).trans ((World.cell?_setCell_other (w := _) ⟨B, 1, none⟩ ⟨B, 5, none⟩ _ (by simp)).trans ((World.cell?_setCell_other (w := _) ⟨B, 0, none⟩ ⟨B, 5, none⟩ _ (by simp)).trans h.2))))
theorem boxes_left {w W : World} {q0 q : Option Addr} {xa xb : List Nat} (x : List Nat) (h : boxes w W q0 xa xb) :
    boxes w ((((((W.setCell ⟨w.heap.size + 1, 0, none⟩ (.string (bytesOf x))).setCell ⟨w.heap.size + 1, 1, none⟩ (.int .i64 (C1 x))).setCell ⟨w.heap.size + 1, 2, none⟩ (.int .i64 (C2 x))).setCell ⟨w.heap.size + 1, 3, none⟩ (.int .i64 (C3 x))).setCell ⟨w.heap.size + 1, 4, none⟩ (.int .i64 (C4 x))).setCell ⟨w.heap.size, 0, none⟩ (.pointer q)) q x xb ∧
    ∀ {t : T} {p : Option Addr}, isTree W p t → isTree ((((((W.setCell ⟨w.heap.size + 1, 0, none⟩ (.string (bytesOf x))).setCell ⟨w.heap.size + 1, 1, none⟩ (.int .i64 (C1 x))).setCell ⟨w.heap.size + 1, 2, none⟩ (.int .i64 (C2 x))).setCell ⟨w.heap.size + 1, 3, none⟩ (.int .i64 (C3 x))).setCell ⟨w.heap.size + 1, 4, none⟩ (.int .i64 (C4 x))).setCell ⟨w.heap.size, 0, none⟩ (.pointer q)) p t := by
  obtain ⟨h1, h2, ⟨h3, h4, h5⟩, h6, h7⟩ := h
  have B1 := but_set5 W (w.heap.size + 1) (.string (bytesOf x)) (.int .i64 (C1 x)) (.int .i64 (C2 x)) (.int .i64 (C3 x)) (.int .i64 (C4 x))
  have S1 := boxAt_set x h6
  have Z1 := below_set5 h1 (B := w.heap.size + 1) (by omega) (.string (bytesOf x)) (.int .i64 (C1 x)) (.int .i64 (C2 x)) (.int .i64 (C3 x)) (.int .i64 (C4 x))
  have E1 := set5_size W (w.heap.size + 1) (.string (bytesOf x)) (.int .i64 (C1 x)) (.int .i64 (C2 x)) (.int .i64 (C3 x)) (.int .i64 (C4 x))
  generalize (((((W.setCell ⟨w.heap.size + 1, 0, none⟩ (.string (bytesOf x))).setCell ⟨w.heap.size + 1, 1, none⟩ (.int .i64 (C1 x))).setCell ⟨w.heap.size + 1, 2, none⟩ (.int .i64 (C2 x))).setCell ⟨w.heap.size + 1, 3, none⟩ (.int .i64 (C3 x))).setCell ⟨w.heap.size + 1, 4, none⟩ (.int .i64 (C4 x))) = V at *
  have k3 := (B1.cell (b := w.heap.size) (by omega) h3)
  have k4 := (B1.frozen (b := w.heap.size) (o := 0) (by omega) (by omega)).trans h4
  have k5 := (B1.cellEq (b := w.heap.size) (o := 5) (by omega) (by omega)).trans h5
  have B2 : But w.heap.size V (V.setCell ⟨w.heap.size, 0, none⟩ (.pointer q)) := But.setCell (But.refl _ V) (p := ⟨w.heap.size, 0, none⟩) rfl _
  have e2 : (V.setCell ⟨w.heap.size, 0, none⟩ (.pointer q)).heap.size = V.heap.size := by simp [World.setCell]
  refine ⟨⟨Z1.setCell (p := ⟨w.heap.size, 0, none⟩) (Nat.le_refl _) _, by omega, ⟨World.cell?_setCell_same' _ _ _ (by rw [k3]; rfl), (World.frozen?_setCell _ _ _ _).trans k4, (World.cell?_setCell_other (w := V) ⟨w.heap.size, 0, none⟩ ⟨w.heap.size, 5, none⟩ _ (by simp)).trans k5⟩, boxAt_but B2 (by omega) S1, boxAt_but B2 (by omega) (boxAt_but B1 (by omega) h7)⟩, fun ht => isTree_but B2 k5 (isTree_but B1 h6.2 ht)⟩
theorem boxes_right {w W : World} {q0 : Option Addr} {xa xb : List Nat} (x : List Nat) (h : boxes w W q0 xa xb) :
    boxes w (((((W.setCell ⟨w.heap.size + 2, 0, none⟩ (.string (bytesOf x))).setCell ⟨w.heap.size + 2, 1, none⟩ (.int .i64 (C1 x))).setCell ⟨w.heap.size + 2, 2, none⟩ (.int .i64 (C2 x))).setCell ⟨w.heap.size + 2, 3, none⟩ (.int .i64 (C3 x))).setCell ⟨w.heap.size + 2, 4, none⟩ (.int .i64 (C4 x))) q0 xa x ∧
    ∀ {t : T} {p : Option Addr}, isTree W p t → isTree (((((W.setCell ⟨w.heap.size + 2, 0, none⟩ (.string (bytesOf x))).setCell ⟨w.heap.size + 2, 1, none⟩ (.int .i64 (C1 x))).setCell ⟨w.heap.size + 2, 2, none⟩ (.int .i64 (C2 x))).setCell ⟨w.heap.size + 2, 3, none⟩ (.int .i64 (C3 x))).setCell ⟨w.heap.size + 2, 4, none⟩ (.int .i64 (C4 x))) p t := by
  obtain ⟨h1, h2, ⟨h3, h4, h5⟩, h6, h7⟩ := h
  have B1 := but_set5 W (w.heap.size + 2) (.string (bytesOf x)) (.int .i64 (C1 x)) (.int .i64 (C2 x)) (.int .i64 (C3 x)) (.int .i64 (C4 x))
  have S1 := boxAt_set x h7
  have Z1 := below_set5 h1 (B := w.heap.size + 2) (by omega) (.string (bytesOf x)) (.int .i64 (C1 x)) (.int .i64 (C2 x)) (.int .i64 (C3 x)) (.int .i64 (C4 x))
  have E1 := set5_size W (w.heap.size + 2) (.string (bytesOf x)) (.int .i64 (C1 x)) (.int .i64 (C2 x)) (.int .i64 (C3 x)) (.int .i64 (C4 x))
  generalize (((((W.setCell ⟨w.heap.size + 2, 0, none⟩ (.string (bytesOf x))).setCell ⟨w.heap.size + 2, 1, none⟩ (.int .i64 (C1 x))).setCell ⟨w.heap.size + 2, 2, none⟩ (.int .i64 (C2 x))).setCell ⟨w.heap.size + 2, 3, none⟩ (.int .i64 (C3 x))).setCell ⟨w.heap.size + 2, 4, none⟩ (.int .i64 (C4 x))) = V at *
  exact ⟨⟨Z1, by omega, ⟨B1.cell (b := w.heap.size) (by omega) h3, (B1.frozen (b := w.heap.size) (o := 0) (by omega) (by omega)).trans h4, (B1.cellEq (b := w.heap.size) (o := 5) (by omega) (by omega)).trans h5⟩, boxAt_but B1 (by omega) h6, S1⟩, fun ht => isTree_but B1 h7.2 ht⟩

set_option maxRecDepth 100000 in
set_option maxHeartbeats 4000000 in
theorem between_any (pl pr : Option Addr) (tl tr : T) (rs : List Nat) (hr : ∀ r ∈ rs, isRune r) (w : World) (hT : Lib.Utf8Tabs 2 3 w) (htl : isTree w pl tl) (hol : okT tl) (htr : isTree w pr tr) (hor : okT tr) (hz : C1 (tl.runes ++ rs ++ tr.runes) ≤ 100000000) :
    Calls Tryz.prog 27 #[.pointer pl, .string (bytesOf rs), .pointer pr] w fun e w' => ∃ q t, e = .returned (.pointer q) ∧ isTree w' q t ∧ okT t ∧ t.runes = tl.runes ++ rs ++ tr.runes ∧ Below w.heap.size w w' := by
  refine (callsIn_wide (n := 3)).1 ?_
  refine callsIn_of_wp_marks Tryz.func27 rfl trivial ?_ rfl
  simp only [Tryz.ntmps27, List.size_toArray, List.length_cons, List.length_nil, Nat.reduceAdd, Nat.reduceSub, Array.replicate_succ, Array.replicate_zero, List.push_toArray, List.append_toArray, List.nil_append, List.cons_append]
  refine wpIn_seq_key (fun a' w' => a' = { tmps := #[.pointer pl, .string (bytesOf rs), .pointer pr, .pointer (some ⟨w.heap.size, 0, none⟩), undef, undef, .pointer none, undef, undef, undef, undef, undef, undef, undef, undef, undef, undef, undef, undef, undef, undef, undef, undef, undef, undef, undef, undef, undef, undef, undef, undef, undef, undef, undef, undef, undef, undef, undef, undef, undef], defers := [] } ∧ w' = w.alloc (.cells #[.pointer pl] 67)) (fun Q' hQ => ?_) ?_
  · have HQ : Hid _ := hQ
    clear hQ
    gi_wp2
    exact HQ.out _ _ ⟨rfl, rfl⟩
  rintro a' w' ⟨rfl, rfl⟩
  refine wpIn_seq_key (fun a' w' => a' = { tmps := #[.pointer pl, .string (bytesOf rs), .pointer pr, .pointer (some ⟨w.heap.size, 0, none⟩), undef, undef, .pointer none, .pointer (some ⟨w.heap.size + 1, 0, none⟩), .pointer (some ⟨w.heap.size + 2, 0, none⟩), undef, undef, undef, undef, undef, undef, undef, undef, undef, undef, undef, undef, undef, undef, undef, undef, undef, undef, undef, undef, undef, undef, undef, undef, undef, undef, undef, undef, undef, undef, undef], defers := [] } ∧ boxes w w' pl [] []) (fun Q' hQ => ?_) ?_
  · have HQ : Hid _ := hQ
    clear hQ
    gi_wp2
    refine HQ.out _ _ ⟨rfl, ?_⟩
    refine ⟨(((Below.refl _ w).alloc (Nat.le_refl _) _).alloc (by simp) _).alloc (by simp; omega) _, by simp, ⟨by simp [go_sem], by simp [go_sem], by simp [go_sem]⟩, ⟨?_, by simp [go_sem]⟩, ⟨?_, by simp [go_sem]⟩⟩
    · have := chunkAt_below (chunkAt_new (w.alloc (Obj.cells #[Value.pointer pl] 67)) (.string ⟨#[]⟩) (.int .i64 0) (.int .i64 0) (.int .i64 0) (.int .i64 0) 106) ((Below.refl _ _).alloc (Nat.le_refl _) (Obj.cells #[Value.string { data := #[] }, Value.int IntKind.i64 0, Value.int IntKind.i64 0, Value.int IntKind.i64 0, Value.int IntKind.i64 0] 106))
      rwa [World.size_alloc] at this
    · have := chunkAt_new ((w.alloc (Obj.cells #[Value.pointer pl] 67)).alloc (Obj.cells #[Value.string { data := #[] }, Value.int IntKind.i64 0, Value.int IntKind.i64 0, Value.int IntKind.i64 0, Value.int IntKind.i64 0] 106)) (.string ⟨#[]⟩) (.int .i64 0) (.int .i64 0) (.int .i64 0) (.int .i64 0) 106
      rwa [World.size_alloc, World.size_alloc] at this
  rintro a' w3 ⟨rfl, hbx3⟩
  refine wpIn_seq_key (fun a' w' => ∃ u10 u11 u12 u13 u14 u15 u16 q0 t0 xa, a' = { tmps := #[.pointer pl, .string (bytesOf rs), .pointer pr, .pointer (some ⟨w.heap.size, 0, none⟩), undef, undef, .pointer none, .pointer (some ⟨w.heap.size + 1, 0, none⟩), .pointer (some ⟨w.heap.size + 2, 0, none⟩), undef, u10, u11, u12, u13, u14, u15, u16, undef, undef, undef, undef, undef, undef, undef, undef, undef, undef, undef, undef, undef, undef, undef, undef, undef, undef, undef, undef, undef, undef, undef], defers := [] } ∧
    boxes w w' q0 xa [] ∧ isTree w' q0 t0 ∧ okT t0 ∧ tl.runes = t0.runes ++ xa ∧ (∀ r ∈ xa, isRune r) ∧ (encs xa).length ≤ 32) (fun Q' hQ => ?_) ?_
  · have HQ : Hid _ := hQ
    have HB3 : Hid (boxes w w3 pl [] []) := hbx3
    have HOL : Hid (okT tl) := hol
    rcases tree_at htl with ⟨rfl, rfl⟩ | ⟨bl, rfl, hne⟩
    · obtain ⟨_, _, ⟨h3, h4, _⟩, _, _⟩ := hbx3
      clear hQ htl hol htr hor hz hr hT
      gi_wp2
      exact HQ.out _ _ ⟨_, _, _, _, _, _, _, none, .nil, [], rfl, HB3.out, rfl, okT_nil, rfl, fun _ h => (by cases h), by simp [encs]⟩
    · have cL := last_any _ tl _ w3 (Nat.le_refl _) hne (isTree_below hbx3.1 htl) (okT_big hol (C1_left (C1_left hz))) hol.1
      obtain ⟨_, _, ⟨h3, h4, _⟩, _, _⟩ := hbx3
      clear hQ htl hol htr hor hz hr hT hne
      gi_wp2_with (first
        | (gi_at_call 9999)
        | fail)
      refine ⟨trivial, ?_⟩
      gi_at_call 58
      refine (callsIn_wide.2 cL).mono ?_
      rintro e w1 ⟨x, q, t, rfl, ht, he, hb1⟩
      obtain ⟨hx, ho, hrn⟩ := ended_ok he HOL.out
      have hbx1 := boxes_below HB3.out hb1
      have HB1 : Hid _ := boxes_left (q := q) x hbx1
      have HT1 : Hid _ := ht
      have HX1 : Hid (okChunk x ∧ okT t ∧ tl.runes = t.runes ++ x) := ⟨hx, ho, hrn⟩
      obtain ⟨_, hsz1, ⟨k3, k4, _⟩, ⟨⟨⟨a0, a1, a2, a3, a4⟩, f0, f1, f2, f3, f4⟩, _⟩, _⟩ := hbx1
      unfold chunkV
      clear ht he hb1 hx ho hrn h3 h4 cL
      gi_wp2
      exact HQ.out _ _ ⟨_, _, _, _, _, _, _, q, t, x, rfl, HB1.out.1, HB1.out.2 HT1.out, HX1.out.2.1, HX1.out.2.2, HX1.out.1.2.2, HX1.out.1.2.1⟩
  rintro a' w4 ⟨u10, u11, u12, u13, u14, u15, u16, q0, t0, xa, rfl, hbx4, ht0, ho0, hrn0, hxr, hxl⟩
  refine wpIn_seq_key (fun a' w' => ∃ u17 u18 u19 u20 u21 u22 u23 q1 t1 xb, a' = { tmps := #[.pointer pl, .string (bytesOf rs), .pointer q1, .pointer (some ⟨w.heap.size, 0, none⟩), undef, undef, .pointer none, .pointer (some ⟨w.heap.size + 1, 0, none⟩), .pointer (some ⟨w.heap.size + 2, 0, none⟩), undef, u10, u11, u12, u13, u14, u15, u16, u17, u18, u19, u20, u21, u22, u23, undef, undef, undef, undef, undef, undef, undef, undef, undef, undef, undef, undef, undef, undef, undef, undef], defers := [] } ∧
    boxes w w' q0 xa xb ∧ isTree w' q0 t0 ∧ isTree w' q1 t1 ∧ okT t1 ∧ tr.runes = xb ++ t1.runes ∧ (∀ r ∈ xb, isRune r) ∧ (encs xb).length ≤ 32) (fun Q' hQ => ?_) ?_
  · have HQ : Hid _ := hQ
    have HB4 : Hid (boxes w w4 q0 xa []) := hbx4
    have HT4 : Hid (isTree w4 q0 t0) := ht0
    have HOR : Hid (okT tr) := hor
    rcases tree_at htr with ⟨rfl, rfl⟩ | ⟨br, rfl, hne⟩
    · clear hQ htl hol htr hor hz hr hT hbx4 ht0 ho0 hrn0 hxr hxl
      gi_wp2
      exact HQ.out _ _ ⟨_, _, _, _, _, _, _, none, .nil, [], rfl, HB4.out, HT4.out, rfl, okT_nil, rfl, fun _ h => (by cases h), by simp [encs]⟩
    · have cR := ropefirst_any _ tr _ w4 (Nat.le_refl _) hne (isTree_below hbx4.1 htr) (okT_big hor (C1_right hz)) hor.1
      clear hQ htl hol htr hor hz hr hT hne hbx4 ht0 ho0 hrn0 hxr hxl
      gi_wp2_with (first
        | (gi_at_call 9999)
        | fail)
      refine ⟨trivial, ?_⟩
      gi_at_call 59
      refine (callsIn_wide.2 cR).mono ?_
      rintro e w1 ⟨x, q, t, rfl, ht, he, hb1⟩
      obtain ⟨hx, ho, hrn⟩ := begun_ok he HOR.out
      have hbx1 := boxes_below HB4.out hb1
      have HB1 : Hid _ := boxes_right x hbx1
      have HT1 : Hid _ := ht
      have HT2 : Hid _ := isTree_below hb1 HT4.out
      have HX1 : Hid (okChunk x ∧ okT t ∧ tr.runes = x ++ t.runes) := ⟨hx, ho, hrn⟩
      obtain ⟨_, hsz1, ⟨k3, k4, _⟩, _, ⟨⟨⟨a0, a1, a2, a3, a4⟩, f0, f1, f2, f3, f4⟩, _⟩⟩ := hbx1
      unfold chunkV
      clear ht he hb1 hx ho hrn cR
      gi_wp2
      exact HQ.out _ _ ⟨_, _, _, _, _, _, _, q, t, x, rfl, HB1.out.1, HB1.out.2 HT2.out, HB1.out.2 HT1.out, HX1.out.2.1, HX1.out.2.2, HX1.out.1.2.2, HX1.out.1.2.1⟩
  rintro a' w5 ⟨u17, u18, u19, u20, u21, u22, u23, q1, t1, xb, rfl, hbx5, ht5, ht1, ho1, hrn1, hyr, hyl⟩
  obtain ⟨M, hM⟩ : ∃ M, xa ++ rs ++ xb = M := ⟨_, rfl⟩
  have hcat : bytesOf xa ++ bytesOf rs ++ bytesOf xb = bytesOf M := by rw [bytesOf_append, bytesOf_append, hM]
  have hfull : tl.runes ++ rs ++ tr.runes = t0.runes ++ M ++ t1.runes := by rw [hrn0, hrn1, ← hM]; simp
  have hMz : C1 M ≤ 100000000 := by rw [hfull] at hz; exact C1_right (C1_left hz)
  have hz0 : C1 (t0.runes ++ M ++ t1.runes) ≤ 100000000 := by rw [← hfull]; exact hz
  have hrz : (encs rs).length ≤ 100000000 := by have h := C1_right (C1_left hz); rw [C1_len] at h; omega
  have hMr : ∀ r ∈ M, isRune r := fun r h => by
    rw [← hM] at h
    rcases List.mem_append.1 h with h | h
    · rcases List.mem_append.1 h with h | h
      · exact hxr r h
      · exact hr r h
    · exact hyr r h
  have s1 : (bytesOf xa).size + (bytesOf rs).size ≤ 400000000 := by rw [bytesOf_size, bytesOf_size]; omega
  have s2 : (bytesOf xa ++ bytesOf rs).size + (bytesOf xb).size ≤ 400000000 := by rw [bytesOf_append, bytesOf_size, bytesOf_size, encs_append, List.length_append]; omega
  have HF : Hid (tl.runes ++ rs ++ tr.runes = t0.runes ++ M ++ t1.runes) := hfull
  have HZ : Hid (C1 (t0.runes ++ M ++ t1.runes) ≤ 100000000) := hz0
  have HMR : Hid (∀ r ∈ M, isRune r) := hMr
  have HMZ : Hid (C1 M ≤ 100000000) := hMz
  have HTT : Hid (Lib.Utf8Tabs 2 3 w) := hT
  have HO0 : Hid (okT t0) := ho0
  have HO1 : Hid (okT t1) := ho1
  have HT5 : Hid (isTree w5 q0 t0) := ht5
  have HT1 : Hid (isTree w5 q1 t1) := ht1
  have HB5 : Hid (boxes w w5 q0 xa xb) := hbx5
  have cP := fun wx => pieces_any (bytesOf M) wx
  obtain ⟨_, hsz5, ⟨k3, k4, k5⟩, ⟨⟨⟨a0, _⟩, _⟩, _⟩, ⟨⟨⟨b0, _⟩, _⟩, _⟩⟩ := hbx5
  clear htl hol htr hor hz hr hT hbx4 ht0 ho0 hrn0 hxr hxl ht5 ht1 ho1 hrn1 hyr hyl hM hfull hMz hz0 hrz hMr
  gi_wp2_with (first
    | (refine ⟨trivial, ?_⟩; gi_at_call 60; refine (callsIn_wide.2 (cP _)).mono ?_; rintro e w13 ⟨rfl, rfl⟩)
    | fail)
  have hTT4 := isTree_below (w := w5) (w' := w5.alloc (.cells #[.string (bytesOf M)] 9)) ((Below.refl _ w5).alloc (Nat.le_refl _) _) HT5.out
  have hTT1 := isTree_below (w := w5) (w' := w5.alloc (.cells #[.string (bytesOf M)] 9)) ((Below.refl _ w5).alloc (Nat.le_refl _) _) HT1.out
  obtain ⟨W4, hW4⟩ : ∃ W4, W4 = w5.alloc (.cells #[.string (bytesOf M)] 9) := ⟨_, rfl⟩
  obtain ⟨sb, hsb⟩ : ∃ sb, sb = w5.heap.size := ⟨_, rfl⟩
  have h54 : Below w5.heap.size w5 W4 := by rw [hW4]; exact (Below.refl _ w5).alloc (Nat.le_refl _) _
  have hb4 : Below w.heap.size w W4 := HB5.out.1.trans (h54.mono HB5.out.1.size)
  have hs4 : W4.heap.size = sb + 1 := by rw [hW4, hsb]; simp
  have hlt : w.heap.size + 2 < sb := by omega
  have cl : W4.cell? ⟨w.heap.size, 0, none⟩ = some (.pointer q0) := (cellOn (h54.block _ (by omega)) 0).trans k3
  have fl : W4.frozen? ⟨w.heap.size, 0, none⟩ = false := (frozenOn (h54.block _ (by omega)) 0).trans k4
  have cl5 : W4.cell? ⟨w.heap.size, 5, none⟩ = none := (cellOn (h54.block _ (by omega)) 5).trans k5
  have cs : W4.cell? ⟨sb, 0, none⟩ = some (.string (bytesOf M)) := by rw [hW4, hsb]; simp [go_sem]
  have fs : W4.frozen? ⟨sb, 0, none⟩ = false := by rw [hW4, hsb]; simp [go_sem]
  have cs5 : W4.cell? ⟨sb, 5, none⟩ = none := by rw [hW4, hsb]; simp [go_sem]
  rw [← hW4] at hTT4 hTT1 ⊢
  rw [← hsb]
  have HTA : Hid (isTree W4 q0 t0) := hTT4
  have HTB : Hid (isTree W4 q1 t1) := hTT1
  clear hW4 hcat cP hTT4 hTT1 k3 k4 k5 a0 b0 s1 s2 h54 HT5 HT1 hsb hsz5
  refine wp_range_own (gf := 80) (lb := #[.pointer (some ⟨sb, 0, none⟩)]) rfl (enters_of Tryz.func80 (by kernel_rfl) rfl) (encs := fun _ (x : List Nat) => #[.string (bytesOf x)]) (fun _ _ => rfl)
    (It := fun A B => (∃ v, B = A.setCell ⟨sb, 0, none⟩ v) ∧ sb + 3 ≤ A.heap.size) (Kp := fun A B => A.heap.size ≤ B.heap.size ∧ B.heap[sb]? = A.heap[sb]?) (Z := fun _ => True) (S := fun xs => xs.flatten = M ∧ ∀ x ∈ xs, okChunk x) (Sp := fun pre => (∃ rest, M = pre.flatten ++ rest) ∧ ∀ x ∈ pre, okChunk x)
    ?seq ?its (fun h k => ⟨Nat.le_trans h.1 k.1, k.2.trans h.2⟩) ?hkb
    (fun pre W => grows2 w W w.heap.size sb q1 t1 (t0.runes ++ pre.flatten)) (fun _ _ _ => False) (fun _ _ _ => trivial) (fun _ _ _ h => h.elim) ?ii ?ib (fun _ _ _ _ h _ => h) (fun _ _ _ _ h => h) ?h0 ?round ?done (fun _ _ _ _ h => h.elim)
  case seq =>
    intro W hs1 hb1
    rw [hs4] at hs1 hb1
    have := pieces_seq M HMR.out (by have := HMZ.out; rw [C1_len] at this; omega) (fun _ => True) sb W ((hb1.cell (p := ⟨sb, 0, none⟩) (by show sb < _; omega)).trans cs) ((hb1.frozen (p := ⟨sb, 0, none⟩) (by show sb < _; omega)).trans fs)
    rw [hs1] at this
    exact this
  case its =>
    rintro A B ⟨⟨v, rfl⟩, h⟩
    rw [hs4]
    exact (Same2.refl _ A).setCell (by show sb ≠ _; omega) (by show sb ≠ _; omega) v
  case hkb =>
    intro A r
    rw [hs4]
    exact ⟨by simp, World.putObj_heap_other (by omega)⟩
  case ii =>
    rintro pre A B ⟨⟨hb, ⟨q, t, h1, h2, h3, h4, h5⟩, h6, h7, h8, h9⟩, hw1⟩ ⟨⟨v, rfl⟩, hA⟩
    have hB : But sb A (A.setCell ⟨sb, 0, none⟩ v) := But.setCell (But.refl _ A) (p := ⟨sb, 0, none⟩) rfl v
    exact ⟨⟨hb.setCell (by show w.heap.size ≤ sb; omega) v, ⟨q, t, hB.cell (by omega) h1, (hB.frozen (by omega) (by omega)).trans h2, isTree_but hB h6 h3, h4, h5⟩, ((World.cell?_setCell_other (w := A) ⟨sb, 0, none⟩ ⟨sb, 5, none⟩ v (by simp)).trans h6), (hB.cellEq (by omega) (by omega)).trans h7, (hB.cellEq (by omega) (by omega)).trans h8, by simpa [World.setCell] using h9⟩, isTree_but hB h6 hw1⟩
  case ib =>
    rintro pre A r ⟨⟨hb, ⟨q, t, h1, h2, h3, h4, h5⟩, h6, h7, h8, h9⟩, hw1⟩
    rw [hs4]
    have hB := But.putObj (sb + 2) A (.loop r)
    exact ⟨⟨hb.trans (hB.below (by omega) |>.mono (by omega)), ⟨q, t, hB.cell (by omega) h1, (hB.frozen (by omega) (by omega)).trans h2, isTree_but hB h7 h3, h4, h5⟩, (hB.cellEq (by omega) (by omega)).trans h6, none_loop (World.putObj_heap_same h9) 5, (hB.cellEq (by omega) (by omega)).trans h8, by simpa using h9⟩, isTree_but hB h7 hw1⟩
  case h0 =>
    rintro W hs hb ⟨r, hr⟩
    rw [hs4] at hs hb hr
    have hbl : Below W4.heap.size W4 W := by rw [hs4]; exact hb
    exact ⟨⟨hb4.trans (hb.mono (by omega)), ⟨q0, t0, (hb.cell (p := ⟨w.heap.size, 0, none⟩) (by show w.heap.size < _; omega)).trans cl, (hb.frozen (p := ⟨w.heap.size, 0, none⟩) (by show w.heap.size < _; omega)).trans fl, isTree_below hbl HTA.out, HO0.out, by simp⟩, (hb.cell (p := ⟨sb, 5, none⟩) (by show sb < _; omega)).trans cs5, none_loop hr 5, (hb.cell (p := ⟨w.heap.size, 5, none⟩) (by show w.heap.size < _; omega)).trans cl5, by omega⟩, isTree_below hbl HTB.out⟩
  case round =>
    rintro l pre x W hI hlW hSp
    rw [hs4] at hlW ⊢
    obtain ⟨⟨hb, ⟨q, t, h1, h2, h3, h4, h5⟩, h6, h7, h8, h9⟩, hw1⟩ := hI
    obtain ⟨⟨rest, hrs⟩, hxo⟩ := hSp
    have hx : okChunk x := hxo x (by simp)
    have HX : Hid (okChunk x) := hx
    have HL : Hid (C1 (t0.runes ++ pre.flatten ++ x) ≤ 100000000) := by
      show _ ≤ _
      have h := HZ.out
      rw [hrs] at h
      have e : t0.runes ++ ((pre ++ [x]).flatten ++ rest) ++ t1.runes = (t0.runes ++ pre.flatten ++ x) ++ (rest ++ t1.runes) := by simp
      rw [e] at h
      exact C1_left h
    have HBG : Hid (big (.node t x .nil)) := big_put h4 hx (by rw [h5]; exact HL.out)
    clear hrs hxo hx
    gi_wp2
    refine ⟨Same2.refl _ W, ⟨Nat.le_refl _, trivial⟩, ?_⟩
    intro w2 hp ⟨r, hr⟩
    have hw2 : Below w.heap.size w w2 := hb.trans ((hp.below (Nat.le_refl _)).mono (by omega))
    have hs2 : sb + 3 ≤ w2.heap.size := by rw [hp.size]; omega
    have k1 := (hp.cell (b := w.heap.size) (o := 0) (by omega)).trans h1
    have k2 := (hp.frozen (b := w.heap.size) (o := 0) (by omega)).trans h2
    have k6 := (hp.cell (b := sb) (o := 5) (by omega)).trans h6
    have k8 := (hp.cell (b := w.heap.size) (o := 5) (by omega)).trans h8
    have k7 := none_loop hr 5
    have hpB : But (sb + 2) W w2 := ⟨hp.os, hp.tape, hp.output, Nat.le_of_eq hp.size.symm, fun k _ hk => hp.block k hk⟩
    have k3 : isTree w2 q t := isTree_but hpB h7 h3
    have kw : isTree w2 q1 t1 := isTree_but hpB h7 hw1
    have HT : Hid (isTree w2 q t) := k3
    have HW1 : Hid (isTree w2 q1 t1) := kw
    have HO : Hid (okT t) := h4
    have HR5 : Hid (t.runes = t0.runes ++ pre.flatten) := h5
    have cK := fun wx (hbx : Below w.heap.size w wx) => chunkOf_any x HX.out.2.2 (by have := HX.out.2.1; have := C1_len x; omega) wx (Go.Proofs.Utf8Tabs_below HTT.out hbx)
    clear h1 h2 h3 h4 h5 h6 h7 h8 h9 k3 kw hb hp hpB hr hw1
    gi_wp2
    refine wpR_region_rel 4 5 (by kernel_rfl) rfl (by kernel_rfl) ?_
    intro w3 hb3
    obtain ⟨G, hG⟩ := exists_growth w3
    have hw3 : Below w.heap.size w w3 := hw2.trans (hb3.mono (by omega))
    have k1G : ∀ x, (G x).cell? ⟨w.heap.size, 0, none⟩ = some (.pointer q) := hG.cell ((hb3.cell (p := ⟨w.heap.size, 0, none⟩) (by show w.heap.size < _; omega)).trans k1)
    have cKG := fun x => (cK (G x) (hw3.trans ((hG.below x).mono hw3.size)))
    have k1' := k1
    clear k1
    (refine anyG_step hG (i := 0) rfl (by kernel_rfl) (by kernel_rfl) (by kernel_rfl) (fun K hK => ?_); go_simp; refine hK _ ?_; clear hK K)
    (refine anyG_step hG (i := 1) rfl (by kernel_rfl) (by kernel_rfl) (by kernel_rfl) (fun K hK => ?_); go_simp; refine hK _ ?_; clear hK K)
    (refine anyG_step hG (i := 2) rfl (by kernel_rfl) (by kernel_rfl) (by kernel_rfl) (fun K hK => ?_); go_simp; apply Exists.intro; refine ⟨fun _ => ?_, hK _ ?_⟩; exact cKG _; clear hK K)
    clear k1G cKG hG
    refine anyG_one (i := 3) rfl (by kernel_rfl) ?_
    intro w4 hb4 K hK
    have hb24 : Below w2.heap.size w2 w4 := hb3.trans (hb4.mono hb3.size)
    have ck := add_any q t x w4 (Go.Proofs.Utf8Tabs_below HTT.out (hw2.trans (hb24.mono (by omega)))) (isTree_below hb24 HT.out) HBG.out HO.out HX.out
    go_simp
    refine ck.mono ?_
    rintro e w5 ⟨q5, t5, rfl, ht5, ha5, hb5⟩
    refine ⟨_, rfl, hK _ _ hb5 ?_⟩
    clear hK K ck
    have hb25 : Below w2.heap.size w2 w5 := hb24.trans (hb5.mono hb24.size)
    have HT5 : Hid _ := ht5
    have HA5 : Hid _ := ha5
    clear ht5 ha5 hb3 hb4 hb5 hb24 hw3
    refine anyG_late (i := 4) rfl (by kernel_rfl) (by kernel_rfl) ?_
    intro w6 hb6 K hK
    have hb26 := hb25.trans (hb6.mono hb25.size)
    have c6 : w6.cell? ⟨w.heap.size, 0, none⟩ = some (.pointer q) := (hb26.cell (p := ⟨w.heap.size, 0, none⟩) (by show w.heap.size < _; omega)).trans k1'
    have f6 : w6.frozen? ⟨w.heap.size, 0, none⟩ = false := (hb26.frozen (p := ⟨w.heap.size, 0, none⟩) (by show w.heap.size < _; omega)).trans k2
    go_simp
    refine hK _ _ ?_
    clear hK K
    refine anyG_end (by kernel_rfl) ?_
    intro w7 hb7
    have HG : Hid _ := grows_put2 hw2 (by omega) hs2 k1' k2 k6 k7 k8 hb26 (isTree_below hb6 HT5.out) HA5.out.2.1 (HA5.out.1.trans (by rw [HR5.out])) (isTree_below hb26 HW1.out) (by have := hb7; rwa [show (w6.setCell ⟨w.heap.size, 0, none⟩ (.pointer q5)).heap.size = w6.heap.size by simp [World.setCell]] at this)
    clear c6 f6 hb7 k1' k2 k6 k7 k8 hb26
    gi_wp2
    refine ⟨HG.out.1, HG.out.2.1, ?_⟩
    have := HG.out.2.2
    show grows2 w w7 w.heap.size sb q1 t1 (t0.runes ++ (pre ++ [x]).flatten)
    rw [show t0.runes ++ (pre ++ [x]).flatten = t0.runes ++ pre.flatten ++ x by simp]
    exact this
  case done =>
    rintro xs W ⟨hxs, hxo⟩ hI hDef
    rw [hs4] at hDef ⊢
    obtain ⟨⟨hb, ⟨q, t, h1, h2, h3, h4, h5⟩, h6, h7, h8, h9⟩, hw1⟩ := hI
    have HS : Hid (sb + 2 < W.heap.size) := h9
    have HD : Hid (W.heap[sb + 1]? = some (.deferred (some []))) := hDef
    have HBW : Hid (Below w.heap.size w W) := hb
    have h5' : t.runes = t0.runes ++ M := by rw [h5, hxs]
    have H5 : Hid (t.runes = t0.runes ++ M) := h5'
    have cC := chain_any q q1 t t1 W (Go.Proofs.Utf8Tabs_below HTT.out hb) h3 hw1 h4 HO1.out (by rw [h5']; exact HZ.out)
    clear h2 h3 h4 h5 h5' hxs hxo hw1 h6 h7 h8 h9 hDef hb
    gi_wp2_with (first
      | (refine ⟨trivial, ?_⟩; gi_at_call 63; refine (callsIn_wide.2 cC).mono ?_; rintro e w9 ⟨q9, t9, rfl, ht9, ho9, hr9, hb9⟩)
      | fail)
    have hDef9 : w9.heap[sb + 1]? = some (.deferred (some [])) := (hb9.block (sb + 1) (by have := HS.out; omega)).trans HD.out
    have hdn : w9.cell? ⟨sb + 1, 5, none⟩ = none := by unfold World.cell?; simp [hDef9]
    have hbw9 := HBW.out.trans (hb9.mono HBW.out.size)
    refine ⟨by simp, .inl ⟨_, _, rfl, run_takeDeferred hDef9, ?_⟩⟩
    refine ⟨.pointer q9, by simp [results, Tryz.results27, go_sem], q9, t9, rfl, isTree_but (But.putObj _ _ _) hdn ht9, ho9, by rw [hr9, H5.out, HF.out], hbw9.trans (((But.putObj (sb + 1) w9 _).below (by have := HS.out; have := hb9.size; omega)).mono (by omega))⟩
end Go.Proofs.YtldhbjmillfjgaaGreatDoor

namespace Go.Proofs.YtldhbjmillfjgaaGreatDoor
open Go.RowKit
set_option linter.unusedVariables false
attribute [local go_sem] Oper.semAt_some yieldsUpon okUpon field0

set_option maxRecDepth 100000 in
set_option maxHeartbeats 2000000 in
theorem splice_bad (b : Nat) (at_ drop : Int) (s : ByteArray) (hs : s.size < 400000000) (hok : (scan s.data.toList).2 = false) (w : World) (hT : Lib.Utf8Tabs 2 3 w) :
    Calls Tryz.prog 9 #[.pointer (some ⟨b, 0, none⟩), .int .i64 at_, .int .i64 drop, .string s] w fun e w' => ∃ x, e = .returned x ∧ isAt w w' x (place s.data.toList) ∧ Below w.heap.size w w' := by
  have cC := (Count_any s hs w hT).mono (R' := fun e w' => ∃ a, e = .returned (.tuple #[cnt 0 0 0 0, .iface 118 (.pointer (some ⟨a, 0, none⟩))]) ∧ Below w.heap.size w w' ∧ isAt w w' (.iface 118 (.pointer (some ⟨a, 0, none⟩))) (place s.data.toList)) (by
    rintro e w' ⟨v, x, rfl, hb, h | h⟩
    · rw [hok] at h; cases h.1
    · obtain ⟨_, rfl, hx⟩ := h
      obtain ⟨a, rfl, hx2⟩ := hx
      exact ⟨a, rfl, hb, a, rfl, hx2⟩)
  generalize place s.data.toList = PL at *
  unfold cnt at cC
  clear hs hok hT
  go_enter Tryz.func9, Tryz.ntmps9
  go_wp2_with (first
    | (go_at_call 26; refine cC.mono ?_; rintro e w1 ⟨a, rfl, hb1, hx1⟩; have HX1 : Hid _ := hx1; clear hx1)
    | fail)
  go_ret
  obtain ⟨a', e1, h1, h2, h3, h4⟩ := HX1.out
  refine ⟨_, rfl, ⟨a', e1, h1, ?_, (World.cell?_of_block (heap_alloc_old _ _ h2)).trans h3, (World.cell?_of_block (heap_alloc_old _ _ h2)).trans h4⟩, hb1.alloc hb1.size _⟩
  rw [World.size_alloc]; omega

set_option maxRecDepth 100000 in
set_option maxHeartbeats 4000000 in
theorem splice_r1 (b : Nat) (q : Option Addr) (at_ drop n1 n2 n3 n4 p1 p2 p3 p4 : Int) (s : ByteArray) (hn : 0 ≤ n1 ∧ n1 ≤ 100000000) (h1 : at_ < 0) (w : World)
    (cC : Hid (Calls Tryz.prog 26 #[.string s] w fun e w' => e = .returned (.tuple #[.agg #[.int .i64 p1, .int .i64 p2, .int .i64 p3, .int .i64 p4], .nilIface]) ∧ Below w.heap.size w w'))
    (cT : Hid (∀ wx, Below w.heap.size w wx → Calls Tryz.prog 35 #[.pointer (some ⟨b, 0, none⟩)] wx fun e w' => e = .returned (.pointer q) ∧ w' = wx))
    (cN : Hid (∀ wx, Below w.heap.size w wx → Calls Tryz.prog 36 #[.pointer q] wx fun e w' => e = .returned (.agg #[.int .i64 n1, .int .i64 n2, .int .i64 n3, .int .i64 n4]) ∧ Below wx.heap.size wx w'))
    :
    Calls Tryz.prog 9 #[.pointer (some ⟨b, 0, none⟩), .int .i64 at_, .int .i64 drop, .string s] w fun e w' => e = .returned (.iface 30 (.int .i64 2)) ∧ Below w.heap.size w w' := by
  obtain ⟨hn0, hn1⟩ := hn
  go_enter Tryz.func9, Tryz.ntmps9
  go_wp2_with (first
    | (go_at_call 26; refine cC.out.mono ?_; rintro e w1 ⟨rfl, hb1⟩; have HB1 : Hid (Below w.heap.size w (w1.alloc (.cells #[.int .i64 p1, .int .i64 p2, .int .i64 p3, .int .i64 p4] 29))) := hb1.alloc hb1.size _; clear hb1)
    | (go_at_call 35; refine (cT.out _ HB1.out).mono ?_; rintro e wz ⟨rfl, hwz⟩; obtain rfl := hwz.symm)
    | (go_at_call 36; refine (cN.out _ HB1.out).mono ?_; rintro e w2 ⟨rfl, hb2⟩; have HB2 : Hid (Below w.heap.size w w2) := HB1.out.trans (hb2.mono HB1.out.size); clear hb2)
    | fail)
  go_ret
  exact ⟨rfl, HB2.out⟩

set_option maxRecDepth 100000 in
set_option maxHeartbeats 4000000 in
theorem splice_r2 (b : Nat) (q : Option Addr) (at_ drop n1 n2 n3 n4 p1 p2 p3 p4 : Int) (s : ByteArray) (hn : 0 ≤ n1 ∧ n1 ≤ 100000000) (h1 : ¬ at_ < 0) (h2 : n1 < at_) (w : World)
    (cC : Hid (Calls Tryz.prog 26 #[.string s] w fun e w' => e = .returned (.tuple #[.agg #[.int .i64 p1, .int .i64 p2, .int .i64 p3, .int .i64 p4], .nilIface]) ∧ Below w.heap.size w w'))
    (cT : Hid (∀ wx, Below w.heap.size w wx → Calls Tryz.prog 35 #[.pointer (some ⟨b, 0, none⟩)] wx fun e w' => e = .returned (.pointer q) ∧ w' = wx))
    (cN : Hid (∀ wx, Below w.heap.size w wx → Calls Tryz.prog 36 #[.pointer q] wx fun e w' => e = .returned (.agg #[.int .i64 n1, .int .i64 n2, .int .i64 n3, .int .i64 n4]) ∧ Below wx.heap.size wx w'))
    :
    Calls Tryz.prog 9 #[.pointer (some ⟨b, 0, none⟩), .int .i64 at_, .int .i64 drop, .string s] w fun e w' => e = .returned (.iface 30 (.int .i64 2)) ∧ Below w.heap.size w w' := by
  obtain ⟨hn0, hn1⟩ := hn
  go_enter Tryz.func9, Tryz.ntmps9
  go_wp2_with (first
    | (go_at_call 26; refine cC.out.mono ?_; rintro e w1 ⟨rfl, hb1⟩; have HB1 : Hid (Below w.heap.size w (w1.alloc (.cells #[.int .i64 p1, .int .i64 p2, .int .i64 p3, .int .i64 p4] 29))) := hb1.alloc hb1.size _; clear hb1)
    | (go_at_call 35; refine (cT.out _ HB1.out).mono ?_; rintro e wz ⟨rfl, hwz⟩; obtain rfl := hwz.symm)
    | (go_at_call 36; refine (cN.out _ HB1.out).mono ?_; rintro e w2 ⟨rfl, hb2⟩; have HB2 : Hid (Below w.heap.size w w2) := HB1.out.trans (hb2.mono HB1.out.size); clear hb2)
    | fail)
  go_ret
  exact ⟨rfl, HB2.out⟩

set_option maxRecDepth 100000 in
set_option maxHeartbeats 4000000 in
theorem splice_r3 (b : Nat) (q : Option Addr) (at_ drop n1 n2 n3 n4 p1 p2 p3 p4 : Int) (s : ByteArray) (hn : 0 ≤ n1 ∧ n1 ≤ 100000000) (h1 : ¬ at_ < 0) (h2 : ¬ n1 < at_) (h3 : drop < 0) (w : World)
    (cC : Hid (Calls Tryz.prog 26 #[.string s] w fun e w' => e = .returned (.tuple #[.agg #[.int .i64 p1, .int .i64 p2, .int .i64 p3, .int .i64 p4], .nilIface]) ∧ Below w.heap.size w w'))
    (cT : Hid (∀ wx, Below w.heap.size w wx → Calls Tryz.prog 35 #[.pointer (some ⟨b, 0, none⟩)] wx fun e w' => e = .returned (.pointer q) ∧ w' = wx))
    (cN : Hid (∀ wx, Below w.heap.size w wx → Calls Tryz.prog 36 #[.pointer q] wx fun e w' => e = .returned (.agg #[.int .i64 n1, .int .i64 n2, .int .i64 n3, .int .i64 n4]) ∧ Below wx.heap.size wx w'))
    :
    Calls Tryz.prog 9 #[.pointer (some ⟨b, 0, none⟩), .int .i64 at_, .int .i64 drop, .string s] w fun e w' => e = .returned (.iface 30 (.int .i64 2)) ∧ Below w.heap.size w w' := by
  obtain ⟨hn0, hn1⟩ := hn
  go_enter Tryz.func9, Tryz.ntmps9
  go_wp2_with (first
    | (go_at_call 26; refine cC.out.mono ?_; rintro e w1 ⟨rfl, hb1⟩; have HB1 : Hid (Below w.heap.size w (w1.alloc (.cells #[.int .i64 p1, .int .i64 p2, .int .i64 p3, .int .i64 p4] 29))) := hb1.alloc hb1.size _; clear hb1)
    | (go_at_call 35; refine (cT.out _ HB1.out).mono ?_; rintro e wz ⟨rfl, hwz⟩; obtain rfl := hwz.symm)
    | (go_at_call 36; refine (cN.out _ HB1.out).mono ?_; rintro e w2 ⟨rfl, hb2⟩; have HB2 : Hid (Below w.heap.size w w2) := HB1.out.trans (hb2.mono HB1.out.size); clear hb2)
    | fail)
  go_ret
  exact ⟨rfl, HB2.out⟩

set_option maxRecDepth 100000 in
set_option maxHeartbeats 4000000 in
theorem splice_r4 (b : Nat) (q : Option Addr) (at_ drop n1 n2 n3 n4 p1 p2 p3 p4 : Int) (s : ByteArray) (hn : 0 ≤ n1 ∧ n1 ≤ 100000000) (h1 : ¬ at_ < 0) (h2 : ¬ n1 < at_) (h3 : ¬ drop < 0) (h4 : n1 - at_ < drop) (w : World)
    (cC : Hid (Calls Tryz.prog 26 #[.string s] w fun e w' => e = .returned (.tuple #[.agg #[.int .i64 p1, .int .i64 p2, .int .i64 p3, .int .i64 p4], .nilIface]) ∧ Below w.heap.size w w'))
    (cT : Hid (∀ wx, Below w.heap.size w wx → Calls Tryz.prog 35 #[.pointer (some ⟨b, 0, none⟩)] wx fun e w' => e = .returned (.pointer q) ∧ w' = wx))
    (cN : Hid (∀ wx, Below w.heap.size w wx → Calls Tryz.prog 36 #[.pointer q] wx fun e w' => e = .returned (.agg #[.int .i64 n1, .int .i64 n2, .int .i64 n3, .int .i64 n4]) ∧ Below wx.heap.size wx w'))
    :
    Calls Tryz.prog 9 #[.pointer (some ⟨b, 0, none⟩), .int .i64 at_, .int .i64 drop, .string s] w fun e w' => e = .returned (.iface 30 (.int .i64 2)) ∧ Below w.heap.size w w' := by
  obtain ⟨hn0, hn1⟩ := hn
  go_enter Tryz.func9, Tryz.ntmps9
  go_wp2_with (first
    | (go_at_call 26; refine cC.out.mono ?_; rintro e w1 ⟨rfl, hb1⟩; have HB1 : Hid (Below w.heap.size w (w1.alloc (.cells #[.int .i64 p1, .int .i64 p2, .int .i64 p3, .int .i64 p4] 29))) := hb1.alloc hb1.size _; clear hb1)
    | (go_at_call 35; refine (cT.out _ HB1.out).mono ?_; rintro e wz ⟨rfl, hwz⟩; obtain rfl := hwz.symm)
    | (go_at_call 36; refine (cN.out _ HB1.out).mono ?_; rintro e w2 ⟨rfl, hb2⟩; have HB2 : Hid (Below w.heap.size w w2) := HB1.out.trans (hb2.mono HB1.out.size); clear hb2)
    | fail)
  go_ret
  exact ⟨rfl, HB2.out⟩

set_option maxRecDepth 100000 in
set_option maxHeartbeats 4000000 in
theorem splice_a1 (b : Nat) (q : Option Addr) (at_ drop n1 n2 n3 n4 p1 p2 p3 p4 : Int) (s : ByteArray) (hn : 0 ≤ n1 ∧ n1 ≤ 100000000) (h1 : ¬ at_ < 0) (h2 : ¬ n1 < at_) (h3 : ¬ drop < 0) (h4 : ¬ n1 - at_ < drop) (w : World)
    (cC : Hid (Calls Tryz.prog 26 #[.string s] w fun e w' => e = .returned (.tuple #[.agg #[.int .i64 p1, .int .i64 p2, .int .i64 p3, .int .i64 p4], .nilIface]) ∧ Below w.heap.size w w'))
    (cT : Hid (∀ wx, Below w.heap.size w wx → Calls Tryz.prog 35 #[.pointer (some ⟨b, 0, none⟩)] wx fun e w' => e = .returned (.pointer q) ∧ w' = wx))
    (cN : Hid (∀ wx, Below w.heap.size w wx → Calls Tryz.prog 36 #[.pointer q] wx fun e w' => e = .returned (.agg #[.int .i64 n1, .int .i64 n2, .int .i64 n3, .int .i64 n4]) ∧ Below wx.heap.size wx w'))
    (cW1 : Hid (∀ wx, Below w.heap.size w wx → Calls Tryz.prog 37 #[.pointer q, .int .i64 at_] wx fun e w' => e = .returned (.bool false) ∧ Below wx.heap.size wx w'))
    :
    Calls Tryz.prog 9 #[.pointer (some ⟨b, 0, none⟩), .int .i64 at_, .int .i64 drop, .string s] w fun e w' => e = .returned (.iface 30 (.int .i64 1)) ∧ Below w.heap.size w w' := by
  obtain ⟨hn0, hn1⟩ := hn
  go_enter Tryz.func9, Tryz.ntmps9
  go_wp2_with (first
    | (go_at_call 26; refine cC.out.mono ?_; rintro e w1 ⟨rfl, hb1⟩; have HB1 : Hid (Below w.heap.size w (w1.alloc (.cells #[.int .i64 p1, .int .i64 p2, .int .i64 p3, .int .i64 p4] 29))) := hb1.alloc hb1.size _; clear hb1)
    | (go_at_call 35; refine (cT.out _ HB1.out).mono ?_; rintro e wz ⟨rfl, hwz⟩; obtain rfl := hwz.symm)
    | (go_at_call 36; refine (cN.out _ HB1.out).mono ?_; rintro e w2 ⟨rfl, hb2⟩; have HB2 : Hid (Below w.heap.size w w2) := HB1.out.trans (hb2.mono HB1.out.size); clear hb2)
    | (go_at_call 37; refine (cW1.out _ HB2.out).mono ?_; rintro e w3 ⟨rfl, hb3⟩; have HB3 : Hid (Below w.heap.size w w3) := HB2.out.trans (hb3.mono HB2.out.size); clear hb3)
    | fail)
  go_ret
  exact ⟨rfl, HB3.out⟩

set_option maxRecDepth 100000 in
set_option maxHeartbeats 4000000 in
theorem splice_a2 (b : Nat) (q : Option Addr) (at_ drop n1 n2 n3 n4 p1 p2 p3 p4 : Int) (s : ByteArray) (hn : 0 ≤ n1 ∧ n1 ≤ 100000000) (h1 : ¬ at_ < 0) (h2 : ¬ n1 < at_) (h3 : ¬ drop < 0) (h4 : ¬ n1 - at_ < drop) (w : World)
    (cC : Hid (Calls Tryz.prog 26 #[.string s] w fun e w' => e = .returned (.tuple #[.agg #[.int .i64 p1, .int .i64 p2, .int .i64 p3, .int .i64 p4], .nilIface]) ∧ Below w.heap.size w w'))
    (cT : Hid (∀ wx, Below w.heap.size w wx → Calls Tryz.prog 35 #[.pointer (some ⟨b, 0, none⟩)] wx fun e w' => e = .returned (.pointer q) ∧ w' = wx))
    (cN : Hid (∀ wx, Below w.heap.size w wx → Calls Tryz.prog 36 #[.pointer q] wx fun e w' => e = .returned (.agg #[.int .i64 n1, .int .i64 n2, .int .i64 n3, .int .i64 n4]) ∧ Below wx.heap.size wx w'))
    (cW1 : Hid (∀ wx, Below w.heap.size w wx → Calls Tryz.prog 37 #[.pointer q, .int .i64 at_] wx fun e w' => e = .returned (.bool true) ∧ Below wx.heap.size wx w'))
    (cW2 : Hid (∀ wx, Below w.heap.size w wx → Calls Tryz.prog 37 #[.pointer q, .int .i64 (at_ + drop)] wx fun e w' => e = .returned (.bool false) ∧ Below wx.heap.size wx w'))
    :
    Calls Tryz.prog 9 #[.pointer (some ⟨b, 0, none⟩), .int .i64 at_, .int .i64 drop, .string s] w fun e w' => e = .returned (.iface 30 (.int .i64 1)) ∧ Below w.heap.size w w' := by
  obtain ⟨hn0, hn1⟩ := hn
  go_enter Tryz.func9, Tryz.ntmps9
  go_wp2_with (first
    | (go_at_call 26; refine cC.out.mono ?_; rintro e w1 ⟨rfl, hb1⟩; have HB1 : Hid (Below w.heap.size w (w1.alloc (.cells #[.int .i64 p1, .int .i64 p2, .int .i64 p3, .int .i64 p4] 29))) := hb1.alloc hb1.size _; clear hb1)
    | (go_at_call 35; refine (cT.out _ HB1.out).mono ?_; rintro e wz ⟨rfl, hwz⟩; obtain rfl := hwz.symm)
    | (go_at_call 36; refine (cN.out _ HB1.out).mono ?_; rintro e w2 ⟨rfl, hb2⟩; have HB2 : Hid (Below w.heap.size w w2) := HB1.out.trans (hb2.mono HB1.out.size); clear hb2)
    | (have _ := HB3; go_at_call 37; refine (cW2.out _ HB3.out).mono ?_; rintro e w4 ⟨rfl, hb4⟩; have HB4 : Hid (Below w.heap.size w w4) := HB3.out.trans (hb4.mono HB3.out.size); clear hb4)
    | (go_at_call 37; refine (cW1.out _ HB2.out).mono ?_; rintro e w3 ⟨rfl, hb3⟩; have HB3 : Hid (Below w.heap.size w w3) := HB2.out.trans (hb3.mono HB2.out.size); clear hb3)
    | fail)
  go_ret
  exact ⟨rfl, HB4.out⟩

set_option maxRecDepth 100000 in
set_option maxHeartbeats 4000000 in
theorem splice_full (b : Nat) (q : Option Addr) (at_ drop n1 n2 n3 n4 p1 p2 p3 p4 : Int) (s : ByteArray) (hn : 0 ≤ n1 ∧ n1 ≤ 100000000) (h1 : ¬ at_ < 0) (h2 : ¬ n1 < at_) (h3 : ¬ drop < 0) (h4 : ¬ n1 - at_ < drop) (h5 : 8000 - (n1 - drop) < (s.size : Int)) (h6 : s.size < 400000000) (w : World)
    (cC : Hid (Calls Tryz.prog 26 #[.string s] w fun e w' => e = .returned (.tuple #[.agg #[.int .i64 p1, .int .i64 p2, .int .i64 p3, .int .i64 p4], .nilIface]) ∧ Below w.heap.size w w'))
    (cT : Hid (∀ wx, Below w.heap.size w wx → Calls Tryz.prog 35 #[.pointer (some ⟨b, 0, none⟩)] wx fun e w' => e = .returned (.pointer q) ∧ w' = wx))
    (cN : Hid (∀ wx, Below w.heap.size w wx → Calls Tryz.prog 36 #[.pointer q] wx fun e w' => e = .returned (.agg #[.int .i64 n1, .int .i64 n2, .int .i64 n3, .int .i64 n4]) ∧ Below wx.heap.size wx w'))
    (cW1 : Hid (∀ wx, Below w.heap.size w wx → Calls Tryz.prog 37 #[.pointer q, .int .i64 at_] wx fun e w' => e = .returned (.bool true) ∧ Below wx.heap.size wx w'))
    (cW2 : Hid (∀ wx, Below w.heap.size w wx → Calls Tryz.prog 37 #[.pointer q, .int .i64 (at_ + drop)] wx fun e w' => e = .returned (.bool true) ∧ Below wx.heap.size wx w'))
    :
    Calls Tryz.prog 9 #[.pointer (some ⟨b, 0, none⟩), .int .i64 at_, .int .i64 drop, .string s] w fun e w' => e = .returned (.iface 30 (.int .i64 12)) ∧ Below w.heap.size w w' := by
  obtain ⟨hn0, hn1⟩ := hn
  go_enter Tryz.func9, Tryz.ntmps9
  go_wp2_with (first
    | (go_at_call 26; refine cC.out.mono ?_; rintro e w1 ⟨rfl, hb1⟩; have HB1 : Hid (Below w.heap.size w (w1.alloc (.cells #[.int .i64 p1, .int .i64 p2, .int .i64 p3, .int .i64 p4] 29))) := hb1.alloc hb1.size _; clear hb1)
    | (go_at_call 35; refine (cT.out _ HB1.out).mono ?_; rintro e wz ⟨rfl, hwz⟩; obtain rfl := hwz.symm)
    | (go_at_call 36; refine (cN.out _ HB1.out).mono ?_; rintro e w2 ⟨rfl, hb2⟩; have HB2 : Hid (Below w.heap.size w w2) := HB1.out.trans (hb2.mono HB1.out.size); clear hb2)
    | (have _ := HB3; go_at_call 37; refine (cW2.out _ HB3.out).mono ?_; rintro e w4 ⟨rfl, hb4⟩; have HB4 : Hid (Below w.heap.size w w4) := HB3.out.trans (hb4.mono HB3.out.size); clear hb4)
    | (go_at_call 37; refine (cW1.out _ HB2.out).mono ?_; rintro e w3 ⟨rfl, hb3⟩; have HB3 : Hid (Below w.heap.size w w3) := HB2.out.trans (hb3.mono HB2.out.size); clear hb3)
    | fail)
  go_ret
  exact ⟨rfl, HB4.out⟩

set_option maxRecDepth 100000 in
set_option maxHeartbeats 4000000 in
theorem splice_put (b : Nat) (q : Option Addr) (at_ drop n1 n2 n3 n4 p1 p2 p3 p4 : Int) (s : ByteArray) (hn : 0 ≤ n1 ∧ n1 ≤ 100000000) (h1 : ¬ at_ < 0) (h2 : ¬ n1 < at_) (h3 : ¬ drop < 0) (h4 : ¬ n1 - at_ < drop) (h5 : ¬ 8000 - (n1 - drop) < (s.size : Int)) (h6 : s.size < 400000000) (w : World) (rs : List Nat) (hbw : b < w.heap.size) (k1 : w.cell? ⟨b, 0, none⟩ = some (.pointer q)) (k2 : w.frozen? ⟨b, 0, none⟩ = false) (k3 : w.cell? ⟨b, 5, none⟩ = none)
    (ra rx rb : List Nat)
    (cC : Hid (Calls Tryz.prog 26 #[.string s] w fun e w' => e = .returned (.tuple #[.agg #[.int .i64 p1, .int .i64 p2, .int .i64 p3, .int .i64 p4], .nilIface]) ∧ Below w.heap.size w w'))
    (cT : Hid (∀ wx, Below w.heap.size w wx → Calls Tryz.prog 35 #[.pointer (some ⟨b, 0, none⟩)] wx fun e w' => e = .returned (.pointer q) ∧ w' = wx))
    (cN : Hid (∀ wx, Below w.heap.size w wx → Calls Tryz.prog 36 #[.pointer q] wx fun e w' => e = .returned (.agg #[.int .i64 n1, .int .i64 n2, .int .i64 n3, .int .i64 n4]) ∧ Below wx.heap.size wx w'))
    (cW1 : Hid (∀ wx, Below w.heap.size w wx → Calls Tryz.prog 37 #[.pointer q, .int .i64 at_] wx fun e w' => e = .returned (.bool true) ∧ Below wx.heap.size wx w'))
    (cW2 : Hid (∀ wx, Below w.heap.size w wx → Calls Tryz.prog 37 #[.pointer q, .int .i64 (at_ + drop)] wx fun e w' => e = .returned (.bool true) ∧ Below wx.heap.size wx w'))
    (cS1 : Hid (∀ wx, Below w.heap.size w wx → Calls Tryz.prog 38 #[.pointer q, .int .i64 at_] wx (parted wx ra rx)))
    (cS2 : Hid (∀ wx q2 t2, Below w.heap.size w wx → isTree wx q2 t2 → okT t2 → t2.runes = rx → ∃ rd, Calls Tryz.prog 38 #[.pointer q2, .int .i64 drop] wx (parted wx rd rb)))
    (cB : Hid (∀ wx qa ta qb tb, Below w.heap.size w wx → isTree wx qa ta → okT ta → ta.runes = ra → isTree wx qb tb → okT tb → tb.runes = rb → Calls Tryz.prog 27 #[.pointer qa, .string s, .pointer qb] wx fun e w' => ∃ q t, e = .returned (.pointer q) ∧ isTree w' q t ∧ okT t ∧ t.runes = rs ∧ Below wx.heap.size wx w')) :
    Calls Tryz.prog 9 #[.pointer (some ⟨b, 0, none⟩), .int .i64 at_, .int .i64 drop, .string s] w fun e w' => e = .returned .nilIface ∧ isRope w' b rs ∧ But b w w' := by
  have K3 : Hid (w.cell? ⟨b, 5, none⟩ = none) := k3
  have KB : Hid (b < w.heap.size) := hbw
  clear k3
  obtain ⟨hn0, hn1⟩ := hn
  go_enter Tryz.func9, Tryz.ntmps9
  go_wp2_with (first
    | (go_at_call 26; refine cC.out.mono ?_; rintro e w1 ⟨rfl, hb1⟩; have HB1 : Hid (Below w.heap.size w (w1.alloc (.cells #[.int .i64 p1, .int .i64 p2, .int .i64 p3, .int .i64 p4] 29))) := hb1.alloc hb1.size _; clear hb1)
    | (go_at_call 35; refine (cT.out _ HB1.out).mono ?_; rintro e wz ⟨rfl, hwz⟩; obtain rfl := hwz.symm)
    | (go_at_call 36; refine (cN.out _ HB1.out).mono ?_; rintro e w2 ⟨rfl, hb2⟩; have HB2 : Hid (Below w.heap.size w w2) := HB1.out.trans (hb2.mono HB1.out.size); clear hb2)
    | (have _ := HB3; go_at_call 37; refine (cW2.out _ HB3.out).mono ?_; rintro e w4 ⟨rfl, hb4⟩; have HB4 : Hid (Below w.heap.size w w4) := HB3.out.trans (hb4.mono HB3.out.size); clear hb4)
    | (go_at_call 37; refine (cW1.out _ HB2.out).mono ?_; rintro e w3 ⟨rfl, hb3⟩; have HB3 : Hid (Below w.heap.size w w3) := HB2.out.trans (hb3.mono HB2.out.size); clear hb3)
    | (have _ := HB5; go_at_call 38; obtain ⟨rd, cs⟩ := cS2.out _ _ _ HB5.out HT5.out.2.1.1 HT5.out.2.1.2.1 HT5.out.2.1.2.2; refine cs.mono ?_; rintro e w6 ⟨qc, tc, qd, td, rfl, hc, hd, hb6⟩; have HB6 : Hid (Below w.heap.size w w6) := HB5.out.trans (hb6.mono HB5.out.size); have HT6 : Hid ((isTree w6 qa ta ∧ okT ta ∧ ta.runes = ra) ∧ (isTree w6 qd td ∧ okT td ∧ td.runes = rb)) := ⟨⟨isTree_below hb6 HT5.out.1.1, HT5.out.1.2⟩, hd⟩; clear hb6 hc hd cs)
    | (go_at_call 38; refine (cS1.out _ HB4.out).mono ?_; rintro e w5 ⟨qa, ta, qb, tb, rfl, ha, hb, hb5⟩; have HB5 : Hid (Below w.heap.size w w5) := HB4.out.trans (hb5.mono HB4.out.size); have HT5 : Hid ((isTree w5 qa ta ∧ okT ta ∧ ta.runes = ra) ∧ (isTree w5 qb tb ∧ okT tb ∧ tb.runes = rx) ∧ True) := ⟨ha, hb, trivial⟩; clear ha hb hb5)
    | (go_at_call 27; refine (cB.out _ _ _ _ _ HB6.out HT6.out.1.1 HT6.out.1.2.1 HT6.out.1.2.2 HT6.out.2.1 HT6.out.2.2.1 HT6.out.2.2.2).mono ?_; rintro e w7 ⟨q7, t7, rfl, ht7, ho7, hr7, hb7⟩; have hbw7 := HB6.out.trans (hb7.mono HB6.out.size); have HB7 : Hid (Below w.heap.size w w7) := hbw7; have HT7 : Hid (isTree w7 q7 t7 ∧ okT t7 ∧ t7.runes = rs) := ⟨ht7, ho7, hr7⟩; have m1 := (cellOn (hbw7.block b hbw) 0).trans k1; have m2 := (frozenOn (hbw7.block b hbw) 0).trans k2; have M5 : Hid (w7.cell? ⟨b, 5, none⟩ = none) := (cellOn (hbw7.block b hbw) 5).trans K3.out; clear ht7 ho7 hr7 hb7 hbw7)
    | fail)
  go_ret
  have hB : But b w7 (w7.setCell ⟨b, 0, none⟩ (.pointer q7)) := But.setCell (But.refl _ w7) (p := ⟨b, 0, none⟩) rfl _
  refine ⟨rfl, ⟨q7, t7, World.cell?_setCell_same' _ _ _ (by rw [m1]; rfl), (World.frozen?_setCell _ _ _ _).trans m2, (World.cell?_setCell_other (w := w7) ⟨b, 0, none⟩ ⟨b, 5, none⟩ _ (by simp)).trans M5.out, isTree_but hB M5.out HT7.out.1, HT7.out.2⟩, (But.of_below HB7.out).trans hB⟩
end Go.Proofs.YtldhbjmillfjgaaGreatDoor

namespace Go.Proofs.YtldhbjmillfjgaaGreatDoor
open Go.RowKit
set_option linter.unusedVariables false

theorem by1 (rs : List Nat) : by_ 1 rs = C1 rs := if_pos rfl
theorem reaches_by (a : Int) : reaches a = reachesBy 1 a := by
  funext rs
  unfold reaches reachesBy
  rw [by1]
theorem whole_edge (rs : List Nat) (a : Int) : decide (C1 (find (reaches a) [] rs) = a) = onEdge rs 1 a := by
  unfold onEdge upTo
  rw [reaches_by, by1]
/-- What is wrong with a splice of so many bytes (0: nothing), and what comes of it. -/
def spliceE (rs : List Nat) (at_ drop n : Int) : Int :=
  if at_ < 0 ∨ C1 rs < at_ ∨ drop < 0 ∨ C1 rs - at_ < drop then 2
  else if onEdge rs 1 at_ = false ∨ onEdge rs 1 (at_ + drop) = false then 1
  else if 8000 - (C1 rs - drop) < n then 12 else 0
def spliceR (rs ps : List Nat) (at_ drop : Int) : List Nat :=
  if spliceE rs at_ drop (C1 ps) = 0 then upTo rs 1 at_ ++ ps ++ rs.drop (upTo rs 1 (at_ + drop)).length else rs
/-- A cut: what is ahead, what goes, what is behind. -/
theorem cut_three {rs : List Nat} {at_ drop : Int} (h0 : 0 ≤ at_) (h1 : at_ ≤ C1 rs) (h2 : 0 ≤ drop) (h3 : drop ≤ C1 rs - at_) (e1 : onEdge rs 1 at_ = true) (e2 : onEdge rs 1 (at_ + drop) = true) :
    ∃ ra rd rb, rs = ra ++ (rd ++ rb) ∧ C1 ra = at_ ∧ C1 rd = drop ∧ upTo rs 1 at_ = ra ∧ rs.drop (upTo rs 1 (at_ + drop)).length = rb := by
  have hu : unitOk 1 := .inl rfl
  obtain ⟨k, hk, ek, ck, _⟩ := (edge_first hu (rs := rs) (a := at_) (by rw [by1]; exact h1)).1 e1
  obtain ⟨j, hj, ej, cj, _⟩ := (edge_first hu (rs := rs) (a := at_ + drop) (by rw [by1]; omega)).1 e2
  rw [by1] at ck cj
  have hkj : k ≤ j := by
    by_cases h : k ≤ j
    · exact h
    · have := by_mono hu rs j k (by omega) hk
      rw [by1, by1] at this
      omega
  have et : rs.take j = rs.take k ++ (rs.drop k).take (j - k) := by
    have : j = k + (j - k) := by omega
    rw [this, List.take_add]
    congr 2
    omega
  have ed : rs.drop k = (rs.drop k).take (j - k) ++ rs.drop j := by
    have h1 := List.take_append_drop (j - k) (rs.drop k)
    rw [List.drop_drop] at h1
    have : k + (j - k) = j := by omega
    rw [this] at h1
    exact h1.symm
  refine ⟨rs.take k, (rs.drop k).take (j - k), rs.drop j, by rw [← ed, List.take_append_drop], ck, ?_, ek, ?_⟩
  · rw [et, C1_append, ck] at cj; omega
  · rw [ej, List.length_take]
    congr 1
    omega

theorem but_of {b : Nat} {w w' : World} {e : Ending} {v : Value} (h : e = .returned v ∧ Below w.heap.size w w') : e = .returned v ∧ But b w w' := ⟨h.1, But.of_below h.2⟩

theorem splice_all (b : Nat) (rs ps : List Nat) (at_ drop : Int) (hps : ∀ r ∈ ps, isRune r) (hpz : C1 ps ≤ 10000000) (w : World) (hT : Lib.Utf8Tabs 2 3 w) (h : isRope w b rs) (hz : C1 rs ≤ 10000000) :
    Calls Tryz.prog 9 #[.pointer (some ⟨b, 0, none⟩), .int .i64 at_, .int .i64 drop, .string (bytesOf ps)] w fun e w' => e = .returned (errV (spliceE rs at_ drop (C1 ps))) ∧ isRope w' b (spliceR rs ps at_ drop) ∧ But b w w' := by
  have h0 := h
  obtain ⟨q, t, k1, k2, k3, k4, k5, k6⟩ := h
  have cC := count_of ps hps (by omega) w hT
  have cT := fun (wx : World) (hb : Below w.heap.size w wx) => ropetree_any b q wx (cell_on hb k1)
  have cN := fun (wx : World) (hb : Below w.heap.size w wx) => ncounts_any q t wx (isTree_below hb k4)
  have cW := fun (a : Int) (wx : World) (hb : Below w.heap.size w wx) => whole_any q t a wx (Go.Proofs.Utf8Tabs_below hT hb) (isTree_below hb k4) k5 (by rw [k6]; omega)
  rw [k6] at cN
  have cW2 : ∀ (a : Int) (wx : World), Below w.heap.size w wx → Calls Tryz.prog 37 #[.pointer q, .int .i64 a] wx fun e w' => e = .returned (.bool (onEdge rs 1 a)) ∧ Below wx.heap.size wx w' := fun a wx hb => by
    have := cW a wx hb
    rw [k6, whole_edge] at this
    exact this
  have hp := C1_pos rs
  have hp2 := C1_pos ps
  have hbw := World.block_lt_of_cell? w _ k1
  have hsz : (bytesOf ps).size = C1 ps := by rw [bytesOf_size, C1_len]
  have hsz2 : (bytesOf ps).size < 400000000 := by omega
  -- what tells an error changes nothing
  have key : ∀ n : Int, n ≠ 0 → spliceE rs at_ drop (C1 ps) = n → Calls Tryz.prog 9 #[.pointer (some ⟨b, 0, none⟩), .int .i64 at_, .int .i64 drop, .string (bytesOf ps)] w (fun e w' => e = .returned (.iface 30 (.int .i64 n)) ∧ Below w.heap.size w w') →
      Calls Tryz.prog 9 #[.pointer (some ⟨b, 0, none⟩), .int .i64 at_, .int .i64 drop, .string (bytesOf ps)] w (fun e w' => e = .returned (errV (spliceE rs at_ drop (C1 ps))) ∧ isRope w' b (spliceR rs ps at_ drop) ∧ But b w w') := fun n hn he hc => hc.mono fun e w' hh => by
    unfold spliceR
    rw [he, if_neg hn]
    exact ⟨by rw [hh.1]; unfold errV; rw [if_neg hn], isRope_below h0 hh.2, But.of_below hh.2⟩
  by_cases c1 : at_ < 0
  · exact key 2 (by decide) (by unfold spliceE; rw [if_pos (.inl c1)]) (splice_r1 b q at_ drop _ _ _ _ _ _ _ _ _ ⟨hp, by omega⟩ c1 w cC cT cN)
  by_cases c2 : C1 rs < at_
  · exact key 2 (by decide) (by unfold spliceE; rw [if_pos (.inr (.inl c2))]) (splice_r2 b q at_ drop _ _ _ _ _ _ _ _ _ ⟨hp, by omega⟩ c1 c2 w cC cT cN)
  by_cases c3 : drop < 0
  · exact key 2 (by decide) (by unfold spliceE; rw [if_pos (.inr (.inr (.inl c3)))]) (splice_r3 b q at_ drop _ _ _ _ _ _ _ _ _ ⟨hp, by omega⟩ c1 c2 c3 w cC cT cN)
  by_cases c4 : C1 rs - at_ < drop
  · exact key 2 (by decide) (by unfold spliceE; rw [if_pos (.inr (.inr (.inr c4)))]) (splice_r4 b q at_ drop _ _ _ _ _ _ _ _ _ ⟨hp, by omega⟩ c1 c2 c3 c4 w cC cT cN)
  have hin : ¬ (at_ < 0 ∨ C1 rs < at_ ∨ drop < 0 ∨ C1 rs - at_ < drop) := by omega
  cases e1 : onEdge rs 1 at_ with
  | false =>
    have cV := cW2 at_
    rw [e1] at cV
    exact key 1 (by decide) (by unfold spliceE; rw [if_neg hin, if_pos (.inl e1)]) (splice_a1 b q at_ drop _ _ _ _ _ _ _ _ _ ⟨hp, by omega⟩ c1 c2 c3 c4 w cC cT cN cV)
  | true =>
  have cV := cW2 at_
  rw [e1] at cV
  cases e2 : onEdge rs 1 (at_ + drop) with
  | false =>
    have cU := cW2 (at_ + drop)
    rw [e2] at cU
    exact key 1 (by decide) (by unfold spliceE; rw [if_neg hin, if_pos (.inr e2)]) (splice_a2 b q at_ drop _ _ _ _ _ _ _ _ _ ⟨hp, by omega⟩ c1 c2 c3 c4 w cC cT cN cV cU)
  | true =>
  have cU := cW2 (at_ + drop)
  rw [e2] at cU
  have hed : ¬ (onEdge rs 1 at_ = false ∨ onEdge rs 1 (at_ + drop) = false) := by rw [e1, e2]; simp
  by_cases c5 : 8000 - (C1 rs - drop) < C1 ps
  · exact key 12 (by decide) (by unfold spliceE; rw [if_neg hin, if_neg hed, if_pos c5]) (splice_full b q at_ drop _ _ _ _ _ _ _ _ _ ⟨hp, by omega⟩ c1 c2 c3 c4 (by rw [hsz]; exact c5) hsz2 w cC cT cN cV cU)
  obtain ⟨ra, rd, rb, er, ca, cd, eu, ev⟩ := cut_three (rs := rs) (at_ := at_) (drop := drop) (by omega) (by omega) (by omega) (by omega) e1 e2
  have hE : spliceE rs at_ drop (C1 ps) = 0 := by unfold spliceE; rw [if_neg hin, if_neg hed, if_neg c5]
  have hR : spliceR rs ps at_ drop = ra ++ ps ++ rb := by unfold spliceR; rw [if_pos hE, eu, ev]
  have hC : C1 rs = C1 ra + (C1 rd + C1 rb) := by rw [er, C1_append, C1_append]
  have hpa := C1_pos ra
  have hpd := C1_pos rd
  have hpb := C1_pos rb
  rw [hE, hR]
  refine splice_put b q at_ drop _ _ _ _ _ _ _ _ (bytesOf ps) ⟨hp, by omega⟩ c1 c2 c3 c4 (by rw [hsz]; exact c5) hsz2 w (ra ++ ps ++ rb) hbw k1 k2 k3 ra (rd ++ rb) rb cC cT cN cV cU ?_ ?_ ?_
  · intro wx hb
    have := split_any t q ra (rd ++ rb) wx (Go.Proofs.Utf8Tabs_below hT hb) (isTree_below hb k4) k5 (by rw [k6, er]) (by rw [k6]; omega)
    rw [ca] at this
    exact this
  · intro wx q2 t2 hb ht ho hr
    refine ⟨rd, ?_⟩
    have := split_any t2 q2 rd rb wx (Go.Proofs.Utf8Tabs_below hT hb) ht ho hr (by rw [hr, C1_append]; omega)
    rw [cd] at this
    exact this
  · intro wx qa ta qb tb hb hta hoa hra htb hob hrb
    have := between_any qa qb ta tb ps hps wx (Go.Proofs.Utf8Tabs_below hT hb) hta hoa htb hob (by rw [hra, hrb, C1_append, C1_append]; omega)
    rw [hra, hrb] at this
    exact this
end Go.Proofs.YtldhbjmillfjgaaGreatDoor

namespace Go.Proofs.YtldhbjmillfjgaaGreatDoor
open Go.RowKit
set_option linter.unusedVariables false

/-- A part's cells, an operation's cells. -/
def partCells (p : Pt) : List Value := [.int .i64 p.keep, .int .i64 p.drop, .string ⟨p.put.toArray⟩]
def cellsP (l : List Pt) : List Value := l.flatMap partCells
theorem cellsP_snoc (l : List Pt) (p : Pt) : cellsP (l ++ [p]) = cellsP l ++ partCells p := by simp [cellsP]
theorem cellsP_len (l : List Pt) : (cellsP l).length = l.length * 3 := by
  induction l with
  | nil => rfl
  | cons p l ih =>
    have : cellsP (p :: l) = partCells p ++ cellsP l := rfl
    rw [this, List.length_append, ih, List.length_cons]
    show 3 + _ = _
    omega
theorem partCells_one (p : Pt) : ∀ u ∈ partCells p, u.oneCell' = true := by
  intro u hu
  simp only [partCells, List.mem_cons, List.not_mem_nil, or_false] at hu
  rcases hu with rfl | rfl | rfl <;> rfl
theorem cells_new (w : World) (l : List Value) (t : TypeId) : ∀ j u, l[j]? = some u → (w.alloc (.cells l.toArray t)).cell? ((⟨w.heap.size, 0, none⟩ : Addr).add j) = some u := by
  intro j u hj
  obtain ⟨hl, rfl⟩ := List.getElem?_eq_some_iff.1 hj
  rw [Addr.add_lit, Nat.zero_add]
  simp

theorem cells_new_set (w : World) (a : Addr) (x : Value) (l : List Value) (t : TypeId) : ∀ j u, l[j]? = some u → ((w.setCell a x).alloc (.cells l.toArray t)).cell? ((⟨w.heap.size, 0, none⟩ : Addr).add j) = some u := by
  have h := cells_new (w.setCell a x) l t
  rwa [show (w.setCell a x).heap.size = w.heap.size by simp] at h

theorem info_u8 : (Tryz.prog.info? 5).map (fun i => (i.zero, i.size, i.bytes)) = some (some (.int .u8 0), 1, 1) := by kernel_rfl

/-- Two rows of cells of different types are different rows. -/
theorem own_ne {w : World} {B B' e e' size size' n n' : Nat} {v v' : Value} {xs xs' : List Value} (h : w.ownsRow B e size v n xs) (h' : w.ownsRow B' e' size' v' n' xs') (hne : e ≠ e') : v.ownBlock = none ∨ v.ownBlock ≠ v'.ownBlock := by
  rcases h.2 with ⟨rfl, _⟩ | ⟨g, cap, cur, rfl, _, hg, _⟩
  · exact .inl rfl
  · rcases h'.2 with ⟨rfl, _⟩ | ⟨g', cap', cur', rfl, _, hg', _⟩
    · exact .inr (by simp [Value.ownBlock])
    · refine .inr fun e => ?_
      simp only [Value.ownBlock, Option.some.injEq] at e
      subst e
      rw [hg] at hg'
      simp only [Option.some.injEq, Obj.cells.injEq] at hg'
      exact hne hg'.2.1

theorem heap_lt {w : World} {k : Nat} {o : Obj} (h : w.heap[k]? = some o) : k < w.heap.size := by
  rcases Nat.lt_or_ge k w.heap.size with h' | h'
  · exact h'
  · rw [Array.getElem?_eq_none h'] at h; cases h
/-- A row beside a box that is written. -/
theorem own_set {w : World} {B e size n b : Nat} {v : Value} {xs : List Value} (h : w.ownsRow B e size v n xs) (hb : b < B) (u : Value) : (w.setCell ⟨b, 0, none⟩ u).ownsRow B e size v n xs := by
  obtain ⟨h0, hrow⟩ := h
  refine ⟨h0, ?_⟩
  rcases hrow with hn | ⟨g, cap, cur, rfl, hg, hgg, rest⟩
  · exact .inl hn
  · exact .inr ⟨g, cap, cur, rfl, hg, (Below.heap_setCell _ _ _ _ (by show g ≠ b; omega)).trans hgg, rest⟩

theorem cell_set_ne {w : World} {b b' o : Nat} (h : b' ≠ b) (u : Value) : (w.setCell ⟨b, 0, none⟩ u).cell? ⟨b', o, none⟩ = w.cell? ⟨b', o, none⟩ := by
  unfold World.cell?
  rw [Below.heap_setCell _ _ _ _ (by show b' ≠ b; exact h)]

/-- A block behind the variables that is not the row of op's. -/
def spare (w : World) (a b : Nat) : Prop := b < w.heap.size ∧ a + 3 < b ∧ ∀ v, w.cell? ⟨a, 0, none⟩ = some v → v.ownBlock ≠ some b

/-- Behind an append to op: the blocks beside it. -/
theorem push_spare {w w1 : World} {a b : Nat} {v v' : Value} {o : Obj} (hc : w.cell? ⟨a, 0, none⟩ = some v) (hc1 : (w1.cell? ⟨a, 0, none⟩).isSome = true) (hg : (w.alloc o).grownBy w1 v.ownBlock) (hat : v'.ownBlock = v.ownBlock ∨ ∃ k, v'.ownBlock = some k ∧ w.heap.size ≤ k) (h : spare w a b) :
    spare (w1.setCell ⟨a, 0, none⟩ v') a b ∧ (w1.setCell ⟨a, 0, none⟩ v').heap[b]? = w.heap[b]? := by
  obtain ⟨h1, h2, h3⟩ := h
  have hne := h3 v hc
  have hs := hg.size
  rw [World.size_alloc] at hs
  refine ⟨⟨by simp; omega, h2, ?_⟩, ?_⟩
  · intro u hu
    obtain ⟨v0, hv0⟩ := Option.isSome_iff_exists.1 hc1
    rw [World.cell?_setCell_same _ _ _ hv0] at hu
    obtain rfl := Option.some.inj hu
    rcases hat with e | ⟨k, e, hk⟩
    · rw [e]; exact hne
    · rw [e]
      intro e
      have := Option.some.inj e
      omega
  · rw [Below.heap_setCell _ _ _ _ (by show b ≠ a; omega), hg.block b (by rw [World.size_alloc]; omega) (fun e => hne e.symm)]
    exact heap_alloc_old w o h1

theorem set_spare {w : World} {a b c : Nat} (h : spare w a b) (hc : c ≠ a) (hb : c ≠ b) (u : Value) : spare (w.setCell ⟨c, 0, none⟩ u) a b ∧ (w.setCell ⟨c, 0, none⟩ u).heap[b]? = w.heap[b]? := by
  obtain ⟨h1, h2, h3⟩ := h
  refine ⟨⟨by simpa using h1, h2, fun v hv => h3 v ?_⟩, Below.heap_setCell _ _ _ _ (by show b ≠ c; omega)⟩
  rwa [cell_set_ne (by omega)] at hv

end Go.Proofs.YtldhbjmillfjgaaGreatDoor

namespace Go.Proofs.YtldhbjmillfjgaaGreatDoor
open Go.RowKit
set_option linter.unusedVariables false

/-- What 'put[:0]' is. -/
theorem cut_none (p : Option Addr) (n c : Nat) (w : World) : (Instr.sliceAt 87 (.slice p n c) none (some (.int .i64 0)) none).run Tryz.prog w = .ok (.slice p 0 c) w := by
  have h : (if c = 0 then p else Option.map (fun x => x.add 0) p) = p := by
    cases p <;> simp [Addr.add]
  have := run_sliceAt_slice (P := Tryz.prog) w 87 (.slice p n c) none (some (.int .i64 0)) none (by kernel_rfl)
  rw [this]
  have h2 := run_slice_h (P := Tryz.prog) w 87 p n c (by kernel_rfl) .i64 0 (by omega) (by omega)
  rw [h2]
  have h3 : (sizeOf (Tryz.prog.elem 87)).run Tryz.prog w = .ok 1 w := by kernel_rfl
  rw [h3]
  simp only [Result.andThen, sliced, Int.toNat_zero, Nat.zero_mul, Nat.sub_zero]
  rw [h]

end Go.Proofs.YtldhbjmillfjgaaGreatDoor

namespace Go.Proofs.YtldhbjmillfjgaaGreatDoor
open Go.RowKit
set_option linter.unusedVariables false

def partV (p : Pt) : Value := .agg #[.int .i64 p.keep, .int .i64 p.drop, .string ⟨p.put.toArray⟩]

end Go.Proofs.YtldhbjmillfjgaaGreatDoor

namespace Go.Proofs.YtldhbjmillfjgaaGreatDoor
open Go.RowKit
set_option linter.unusedVariables false

/-- The slice v reads as the parts ps. -/
def opAt (w : World) (v : Value) (ps : List Pt) : Prop :=
  ∃ p c, v = .slice p ps.length c ∧ ps.length ≤ c ∧ c ≤ maxLen ∧ (ps ≠ [] → ∃ b o, p = some ⟨b, o, none⟩ ∧ b < w.heap.size ∧ ∀ i q, ps[i]? = some q →
    w.cell? ⟨b, o + i * 3, none⟩ = some (.int .i64 q.keep) ∧ w.cell? ⟨b, o + i * 3 + 1, none⟩ = some (.int .i64 q.drop) ∧ w.cell? ⟨b, o + i * 3 + 2, none⟩ = some (.string ⟨q.put.toArray⟩))
theorem opAt_below {w w' : World} {v : Value} {ps : List Pt} (h : opAt w v ps) {B : Nat} (hb : Below B w w') (hB : w.heap.size ≤ B) : opAt w' v ps := by
  obtain ⟨p, c, rfl, h1, h2, h3⟩ := h
  refine ⟨p, c, rfl, h1, h2, fun hne => ?_⟩
  obtain ⟨b, o, e1, e2, e3⟩ := h3 hne
  refine ⟨b, o, e1, Nat.lt_of_lt_of_le e2 hb.size, fun i q hi => ?_⟩
  obtain ⟨f1, f2, f3⟩ := e3 i q hi
  exact ⟨(hb.cell (p := ⟨b, o + i * 3, none⟩) (Nat.lt_of_lt_of_le e2 hB)).trans f1, (hb.cell (p := ⟨b, o + i * 3 + 1, none⟩) (Nat.lt_of_lt_of_le e2 hB)).trans f2, (hb.cell (p := ⟨b, o + i * 3 + 2, none⟩) (Nat.lt_of_lt_of_le e2 hB)).trans f3⟩

theorem cellsP_get (ps : List Pt) (i : Nat) (q : Pt) (hi : ps[i]? = some q) : ∀ j, j < 3 → (cellsP ps)[i * 3 + j]? = (partCells q)[j]? := by
  induction ps generalizing i with
  | nil => simp at hi
  | cons p ps ih =>
    intro j hj
    have e : cellsP (p :: ps) = partCells p ++ cellsP ps := rfl
    have hl : (partCells p).length = 3 := rfl
    rw [e]
    cases i with
    | zero =>
      simp only [List.getElem?_cons_zero, Option.some.injEq] at hi
      subst hi
      rw [Nat.zero_mul, Nat.zero_add, List.getElem?_append_left (by rw [hl]; exact hj)]
    | succ i =>
      rw [List.getElem?_append_right (by rw [hl]; omega), hl, ← ih i (by simpa using hi) j hj]
      congr 1
      omega

def soundP (p : Pt) : Prop := 0 ≤ p.keep ∧ 0 ≤ p.drop
def wtP (p : Pt) : Int := p.keep + p.drop + p.put.length
def wts (ps : List Pt) : Int := (ps.map wtP).sum
theorem wts_snoc (ps : List Pt) (p : Pt) : wts (ps ++ [p]) = wts ps + wtP p := by simp [wts]
theorem wts_nonneg {ps : List Pt} (h : ∀ p ∈ ps, soundP p) : 0 ≤ wts ps := by
  induction ps with
  | nil => simp [wts]
  | cons p ps ih =>
    have h1 := h p (List.mem_cons_self ..)
    have h2 := ih fun q hq => h q (List.mem_cons_of_mem _ hq)
    unfold wts at h2 ⊢
    rw [List.map_cons, List.sum_cons]
    unfold soundP at h1
    have : 0 ≤ wtP p := by unfold wtP; omega
    omega
theorem wts_take {ps : List Pt} (h : ∀ p ∈ ps, soundP p) (k : Nat) : wts (ps.take k) ≤ wts ps := by
  have h1 : wts ps = wts (ps.take k) + wts (ps.drop k) := by
    unfold wts
    rw [← List.sum_append, ← List.map_append, List.take_append_drop]
  have h2 := wts_nonneg (ps := ps.drop k) fun q hq => h q (List.mem_of_mem_drop hq)
  omega

/-- What a gathering's numbers are at most. -/
structure Bd (s : NSt) (T : Int) (n : Nat) : Prop where
  put : (s.put.length : Int) ≤ T
  d0 : 0 ≤ s.drop
  dT : s.drop ≤ T
  keep : ∀ q ∈ s.out, 0 ≤ q.keep ∧ q.keep ≤ T
  len : s.out.length ≤ 3 * n
theorem bd0 : Bd nst0 0 0 := ⟨by simp [nst0], by simp [nst0], by simp [nst0], by simp [nst0], by simp [nst0]⟩
theorem Bd.add {s : NSt} {T : Int} {n : Nat} (h : Bd s T n) (p : Pt) (hp : soundP p) : Bd (addP s p) (T + wtP p) (n + 1) := by
  obtain ⟨k, d, q⟩ := p
  obtain ⟨p1, p2⟩ := hp
  obtain ⟨h1, h2, h3, h4, h5⟩ := h
  have hw : wtP ⟨k, d, q⟩ = k + d + q.length := rfl
  have e1 : (0 : Int) ≤ k := p1
  have e2 : (0 : Int) ≤ d := p2
  have hT : 0 ≤ T := Int.le_trans h2 h3
  rw [hw]
  unfold addP
  by_cases hk : k = 0
  · rw [if_pos hk]
    refine ⟨?_, ?_, ?_, ?_, ?_⟩
    · show ((s.put ++ q).length : Int) ≤ _
      rw [List.length_append]
      omega
    · show 0 ≤ s.drop + d; omega
    · show s.drop + d ≤ _; omega
    · intro x hx
      have := h4 x hx
      omega
    · show s.out.length ≤ _; omega
  · rw [if_neg hk]
    obtain ⟨L, hL⟩ : ∃ L, tellP ⟨s.out, s.put ++ q, s.drop + d⟩ = L := ⟨_, rfl⟩
    have hm : ∀ x ∈ L, 0 ≤ x.keep ∧ x.keep ≤ T := by
      intro x hx
      rw [← hL, tellP] at hx
      simp only [List.mem_append] at hx
      rcases hx with hx | hx | hx
      · exact h4 x hx
      · split at hx
        · simp at hx
        · rw [List.mem_singleton.1 hx]; exact ⟨by simp, hT⟩
      · split at hx
        · simp at hx
        · rw [List.mem_singleton.1 hx]; exact ⟨by simp, hT⟩
    have hl : L.length ≤ s.out.length + 2 := by
      rw [← hL, tellP]
      simp only [List.length_append]
      split <;> split <;> simp
    have key : (∀ x ∈ pushKeep L k, 0 ≤ x.keep ∧ x.keep ≤ T + k) ∧ (pushKeep L k).length ≤ L.length + 1 := by
      have hsnoc : (∀ x ∈ L ++ [⟨k, 0, []⟩], 0 ≤ x.keep ∧ x.keep ≤ T + k) ∧ (L ++ [(⟨k, 0, []⟩ : Pt)]).length ≤ L.length + 1 := by
        refine ⟨fun x hx => ?_, by simp⟩
        rcases List.mem_append.1 hx with hx | hx
        · have := hm x hx; omega
        · rw [List.mem_singleton.1 hx]; exact ⟨e1, by show k ≤ _; omega⟩
      unfold pushKeep
      split
      · rename_i q0 hq0
        split
        · rename_i hq1
          have hin : q0 ∈ L := List.mem_of_getLast? hq0
          have := hm q0 hin
          refine ⟨fun x hx => ?_, by simp⟩
          rcases List.mem_append.1 hx with hx | hx
          · have := hm x (List.dropLast_subset _ hx); omega
          · rw [List.mem_singleton.1 hx]; exact ⟨by show 0 ≤ q0.keep + k; omega, by show q0.keep + k ≤ _; omega⟩
        · exact hsnoc
      · exact hsnoc
    rw [hL]
    refine ⟨?_, by simp, ?_, ?_, ?_⟩
    · show ((0 : Nat) : Int) ≤ _; omega
    · show (0 : Int) ≤ _; omega
    · intro x hx
      have := key.1 x hx
      show 0 ≤ x.keep ∧ x.keep ≤ T + (k + d + q.length)
      omega
    · have := key.2
      show (pushKeep L k).length ≤ _
      omega
theorem bds (ps : List Pt) (h : ∀ p ∈ ps, soundP p) : Bd (ps.foldl addP nst0) (wts ps) ps.length := by
  have key : ∀ n, n ≤ ps.length → Bd ((ps.take n).foldl addP nst0) (wts (ps.take n)) n := by
    intro n
    induction n with
    | zero => intro _; exact bd0
    | succ n ih =>
      intro hn
      have := ih (by omega)
      rw [List.take_succ_eq_append_getElem (by omega), List.foldl_append, wts_snoc]
      exact this.add _ (h _ (List.getElem_mem _))
  have := key ps.length (Nat.le_refl _)
  rwa [List.take_length] at this

end Go.Proofs.YtldhbjmillfjgaaGreatDoor

namespace Go.Proofs.YtldhbjmillfjgaaGreatDoor
open Go.RowKit
set_option linter.unusedVariables false
attribute [local go_sem] Oper.semAt_some

/-- The parts of an operation, each with its piece of the text. -/
def pcs : List Pt → List UInt8 → List (Pt × List UInt8)
  | [], _ => []
  | p :: ps, s => (p, s.take (lenP p).toNat) :: pcs ps (s.drop (lenP p).toNat)
/-- What is left of the text behind so many parts. -/
def leftP : List Pt → List UInt8 → List UInt8
  | [], s => s
  | p :: ps, s => leftP ps (s.drop (lenP p).toNat)

theorem leftP_snoc (ps : List Pt) (p : Pt) (s : List UInt8) : leftP (ps ++ [p]) s = (leftP ps s).drop (lenP p).toNat := by
  induction ps generalizing s with
  | nil => rfl
  | cons q ps ih => exact ih _
theorem pcs_append (a b : List Pt) (s : List UInt8) : pcs (a ++ b) s = pcs a s ++ pcs b (leftP a s) := by
  induction a generalizing s with
  | nil => rfl
  | cons q a ih => simp [pcs, leftP, ih]
/-- Each part keeps, or drops, no more than is left. -/
def fitsP : List Pt → List UInt8 → Prop
  | [], _ => True
  | p :: ps, s => 0 ≤ p.keep ∧ 0 ≤ p.drop ∧ lenP p ≤ s.length ∧ fitsP ps (s.drop (lenP p).toNat)
theorem fitsP_at (ps : List Pt) (s : List UInt8) (h : fitsP ps s) (k : Nat) (hk : k < ps.length) : 0 ≤ ps[k].keep ∧ 0 ≤ ps[k].drop ∧ lenP ps[k] ≤ (leftP (ps.take k) s).length := by
  induction ps generalizing s k with
  | nil => simp at hk
  | cons p ps ih =>
    obtain ⟨h1, h2, h3, h4⟩ := h
    cases k with
    | zero => exact ⟨h1, h2, h3⟩
    | succ k => exact ih _ h4 k (by simpa using hk)
theorem leftP_le (ps : List Pt) (s : List UInt8) : (leftP ps s).length ≤ s.length := by
  induction ps generalizing s with
  | nil => exact Nat.le_refl _
  | cons p ps ih =>
    have := ih (s.drop (lenP p).toNat)
    rw [List.length_drop] at this
    show (leftP ps _).length ≤ _
    omega

theorem cut_head (l : List UInt8) (n : Nat) : (ByteArray.mk l.toArray).extract 0 n = ⟨(l.take n).toArray⟩ := by
  apply ByteArray.ext
  simp
theorem cut_tail (l : List UInt8) (n : Nat) : (ByteArray.mk l.toArray).extract n l.length = ⟨(l.drop n).toArray⟩ := by
  apply ByteArray.ext
  have : List.take (l.length - n) (l.drop n) = l.drop n := List.take_of_length_le (by rw [List.length_drop]; exact Nat.le_refl _)
  simp [this]

end Go.Proofs.YtldhbjmillfjgaaGreatDoor

namespace Go.Proofs
open Go.Shelf
end Go.Proofs
namespace Go.Proofs.YtldhbjmillfjgaaGreatDoor
open Go.RowKit

/-- The library's own word for a sound text is ours. -/
theorem valid_scan (n : Nat) : ∀ (l : List UInt8), l.length ≤ n → Lib.validGoD n l = (scan l).2 := by
  induction n with
  | zero =>
    intro l hl
    have : l = [] := List.eq_nil_of_length_eq_zero (by omega)
    subst this
    rfl
  | succ n ih =>
    intro l hl
    unfold Lib.validGoD
    by_cases hne : l = []
    · subst hne; rfl
    · rw [if_neg hne]
      have hd : Lib.decodeL l = dec l := by
        have := decode_dec ⟨l.toArray⟩ 0
        rw [List.drop_zero] at this
        rw [← this]
        unfold Lib.decodeL
        congr 1
        apply ByteArray.ext
        simp
      rw [hd]
      by_cases hb : badB (dec l) = true
      · rw [scan_bad hne hb, if_pos (badB_true hb)]
      · have hb' : badB (dec l) = false := Bool.eq_false_iff.2 hb
        rw [scan_good hne hb', if_neg (by intro h; exact hb (by unfold badB; simp [h])), ih]
        have h1 := dec_ge1 l
        rw [List.length_drop]
        omega

end Go.Proofs.YtldhbjmillfjgaaGreatDoor

namespace Go.Proofs.YtldhbjmillfjgaaGreatDoor
open Go.RowKit
set_option linter.unusedVariables false

def oneB (p : Pt) : Bool := if p.drop = 0 ∧ p.put = [] then decide (0 < p.keep) else if p.keep = 0 ∧ p.put = [] then decide (0 < p.drop) else decide (p.keep = 0 ∧ p.drop = 0)
def chk1 : List Pt → Int
  | [] => 0
  | p :: ps => if oneB p then (if (scan p.put).2 then chk1 ps else 3) else 1
def chk2 : List Pt → Int → Int
  | [], n => if n = 0 then 0 else 2
  | p :: ps, n => if n < p.keep + p.drop then 2 else chk2 ps (n - (p.keep + p.drop))
def chkE (ps : List Pt) (n : Int) : Int := if chk1 ps = 0 then chk2 ps n else chk1 ps

def wfP (p : Pt) : Prop := -9223372036854775808 ≤ p.keep ∧ p.keep < 9223372036854775808 ∧ -9223372036854775808 ≤ p.drop ∧ p.drop < 9223372036854775808 ∧ p.put.length < 1000000000000

theorem one_sound {p : Pt} (h : oneB p = true) : soundP p ∧ (p.keep = 0 ∨ p.drop = 0) := by
  unfold oneB at h
  unfold soundP
  split at h
  · rename_i h1
    have := of_decide_eq_true h
    exact ⟨⟨by omega, by omega⟩, .inr h1.1⟩
  · split at h
    · rename_i h1
      have := of_decide_eq_true h
      exact ⟨⟨by omega, by omega⟩, .inl h1.1⟩
    · have := of_decide_eq_true h
      exact ⟨⟨by omega, by omega⟩, .inl this.1⟩

theorem chk1_ones {ps : List Pt} (h : chk1 ps = 0) : ∀ p ∈ ps, oneB p = true ∧ (scan p.put).2 = true := by
  induction ps with
  | nil => simp
  | cons p ps ih =>
    unfold chk1 at h
    split at h
    · rename_i h1
      split at h
      · rename_i h2
        intro q hq
        rcases List.mem_cons.1 hq with rfl | hq
        · exact ⟨h1, h2⟩
        · exact ih h q hq
      · cases h
    · cases h

end Go.Proofs.YtldhbjmillfjgaaGreatDoor

namespace Go.Proofs.YtldhbjmillfjgaaGreatDoor
open Go.RowKit
set_option linter.unusedVariables false
attribute [local go_sem] Oper.semAt_some

/-- A byte that begins a rune. -/
def startO (b : UInt8) : Bool := Lib.runeStart (b.toNat : Int)
/-- A piece that begins within a rune. -/
def badPiece (l : List UInt8) : Bool := match l with
  | [] => false
  | b :: _ => !startO b
def badO : List Pt → List UInt8 → Bool
  | [], _ => false
  | p :: ps, s => badPiece (s.take (lenP p).toNat) || badO ps (s.drop (lenP p).toNat)
theorem badO_pcs (ps : List Pt) (s : List UInt8) : badO ps s = (pcs ps s).any fun x => badPiece x.2 := by
  induction ps generalizing s with
  | nil => rfl
  | cons p ps ih => simp [badO, pcs, ih]

theorem chkE_ok {ps : List Pt} {n : Int} (h : chkE ps n = 0) : ∀ p ∈ ps, soundP p := by
  unfold chkE at h
  split at h
  · rename_i h1
    exact fun p hp => (one_sound (chk1_ones h1 p hp).1).1
  · rename_i h1
    exact absurd h h1
theorem chk2_fits {ps : List Pt} {s : List UInt8} (hs : ∀ p ∈ ps, soundP p) (h : chk2 ps (s.length : Int) = 0) : fitsP ps s ∧ leftP ps s = [] := by
  induction ps generalizing s with
  | nil =>
    unfold chk2 at h
    refine ⟨trivial, ?_⟩
    split at h
    · exact List.eq_nil_of_length_eq_zero (by show s.length = 0; omega)
    · cases h
  | cons p ps ih =>
    unfold chk2 at h
    have hp := hs p (List.mem_cons_self ..)
    obtain ⟨h1, h2⟩ := hp
    split at h
    · cases h
    · rename_i h3
      have hl : lenP p = p.keep + p.drop := rfl
      have e : ((s.drop (lenP p).toNat).length : Int) = (s.length : Int) - (p.keep + p.drop) := by rw [List.length_drop]; omega
      rw [← e] at h
      obtain ⟨i1, i2⟩ := ih (fun q hq => hs q (List.mem_cons_of_mem _ hq)) h
      exact ⟨⟨h1, h2, by omega, i1⟩, i2⟩
theorem chkE_fits {ps : List Pt} {s : List UInt8} (h : chkE ps (s.length : Int) = 0) : fitsP ps s ∧ leftP ps s = [] := by
  have hs := chkE_ok h
  unfold chkE at h
  split at h
  · exact chk2_fits hs h
  · rename_i h1; exact absurd h h1

/-- What checkOver says. -/
def ordE (ps : List Pt) (s : List UInt8) : Int := if chkE ps (s.length : Int) = 0 then (if badO ps s then 10 else 0) else chkE ps (s.length : Int)

theorem str_size (s : List UInt8) : (ByteArray.mk s.toArray).size = s.length := by simp [ByteArray.size]

end Go.Proofs.YtldhbjmillfjgaaGreatDoor

namespace Go.Proofs.YtldhbjmillfjgaaGreatDoor
open Go.RowKit
set_option linter.unusedVariables false
attribute [local go_sem] Oper.semAt_some

/-- What the document asks of the places where parts meet. -/
def refBad : List Pt → List UInt8 → Bool
  | [], _ => false
  | p :: ps, s => badPiece s || badPiece (s.drop (lenP p).toNat) || refBad ps (s.drop (lenP p).toNat)
theorem badO_head (ps : List Pt) (s : List UInt8) (hl : leftP ps s = []) (h : badPiece s = true) : badO ps s = true := by
  induction ps generalizing s with
  | nil =>
    have : s = [] := hl
    rw [this] at h
    cases h
  | cons p ps ih =>
    rw [badO, Bool.or_eq_true]
    cases hn : (lenP p).toNat with
    | zero =>
      refine .inr ?_
      have hl' : leftP ps (s.drop (lenP p).toNat) = [] := hl
      rw [hn] at hl'
      exact ih _ hl' h
    | succ m =>
      refine .inl ?_
      cases s with
      | nil => cases h
      | cons b l => exact h
theorem refBad_eq (ps : List Pt) (s : List UInt8) (hl : leftP ps s = []) : refBad ps s = badO ps s := by
  induction ps generalizing s with
  | nil => rfl
  | cons p ps ih =>
    have hl' : leftP ps (s.drop (lenP p).toNat) = [] := hl
    have e := ih _ hl'
    rw [Bool.eq_iff_iff]
    constructor
    · intro h
      rw [refBad, Bool.or_eq_true, Bool.or_eq_true] at h
      rcases h with (h | h) | h
      · exact badO_head (p :: ps) s hl h
      · rw [badO, Bool.or_eq_true]; exact .inr (badO_head ps _ hl' h)
      · rw [badO, Bool.or_eq_true]; rw [e] at h; exact .inr h
    · intro h
      rw [badO, Bool.or_eq_true] at h
      rw [refBad, Bool.or_eq_true, Bool.or_eq_true]
      rcases h with h | h
      · refine .inl (.inl ?_)
        cases s with
        | nil => simp [badPiece] at h
        | cons b l =>
          cases hn : (lenP p).toNat with
          | zero => rw [hn] at h; cases h
          | succ m => rw [hn] at h; exact h
      · rw [← e] at h; exact .inr h

theorem startO_eq (b : UInt8) : startO b = (decide ((b.toNat : Int) < 128) || decide (192 ≤ (b.toNat : Int))) := by
  have hb := b.toNat_lt
  unfold startO Lib.runeStart
  rw [Bool.eq_iff_iff]
  simp only [bne_iff_ne, ne_eq, Bool.or_eq_true, decide_eq_true_eq]
  omega
theorem byte_at (s : List UInt8) (k : Nat) (h1 : k < (ByteArray.mk s.toArray).size) (h2 : k < s.length) : (ByteArray.mk s.toArray)[k] = s[k] := rfl

set_option maxRecDepth 100000 in
set_option maxHeartbeats 1000000 in
theorem edge_end (s : List UInt8) (w : World) (hs : s.length < 1000000000) :
    Calls Tryz.prog 34 #[.string ⟨s.toArray⟩, .int .i64 s.length] w fun e w' => e = .returned (.bool true) ∧ w' = w := by
  have hz := str_size s
  go_enter Tryz.func34, Tryz.ntmps34
  go_wp2
  go_ret
  exact ⟨rfl, rfl⟩
set_option maxRecDepth 100000 in
set_option maxHeartbeats 1000000 in
theorem edge_mid (s : List UInt8) (k : Nat) (w : World) (hs : s.length < 1000000000) (hk : k < s.length) :
    Calls Tryz.prog 34 #[.string ⟨s.toArray⟩, .int .i64 k] w fun e w' => e = .returned (.bool (!badPiece (s.drop k))) ∧ w' = w := by
  have hz := str_size s
  have hd : s.drop k = s[k] :: s.drop (k + 1) := List.drop_eq_getElem_cons hk
  have hb : badPiece (s.drop k) = !startO s[k] := by rw [hd]; rfl
  rw [startO_eq] at hb
  obtain ⟨R, hR⟩ : ∃ R, (!badPiece (s.drop k)) = R := ⟨_, rfl⟩
  have HB : Hid (R = (decide ((s[k].toNat : Int) < 128) || decide (192 ≤ (s[k].toNat : Int)))) := by
    show R = _
    rw [← hR, hb, Bool.not_not]
  rw [hR]
  clear hd hb hR
  go_enter Tryz.func34, Tryz.ntmps34
  go_wp2
  all_goals go_ret
  all_goals refine ⟨?_, rfl⟩
  all_goals rw [HB.out]
  all_goals have hne : ((k : Int) == (s.length : Int)) = false := beq_eq_false_iff_ne.2 (by omega)
  all_goals first
    | (rw [hne, Bool.false_or]; rfl)
    | (rename_i h; have h' : (s[k].toNat : Int) < 128 := h; rw [decide_eq_true h']; rfl)
theorem edge_any (s : List UInt8) (k : Nat) (w : World) (hs : s.length < 1000000000) (hk : k ≤ s.length) :
    Calls Tryz.prog 34 #[.string ⟨s.toArray⟩, .int .i64 k] w fun e w' => e = .returned (.bool (!badPiece (s.drop k))) ∧ w' = w := by
  rcases Nat.lt_or_ge k s.length with h | h
  · exact edge_mid s k w hs h
  · obtain rfl : k = s.length := Nat.le_antisymm hk h
    rw [List.drop_length]
    exact edge_end s w hs
end Go.Proofs.YtldhbjmillfjgaaGreatDoor

namespace Go.Proofs.YtldhbjmillfjgaaGreatDoor
open Go.RowKit
set_option linter.unusedVariables false

theorem ba_of {x : ByteArray} {r : List Nat} (h : x.data.toList = encs r) : x = bytesOf r := by
  apply ByteArray.ext
  apply Array.ext'
  rw [h]; rfl
theorem spl_first (s : ByteArray) (a b : List UInt8) (he : s.data.toList = a ++ b) : (s.extract 0 a.length).data.toList = a := by
  rw [Lib.extract_data, he]; simp
theorem spl_rest (s : ByteArray) (a b : List UInt8) (he : s.data.toList = a ++ b) : (s.extract a.length s.size).data.toList = b := by
  have h : s.size = (a ++ b).length := by rw [Lib.size_eq, he]
  rw [h, Lib.extract_data, he]; simp
theorem edge_on (rs : List Nat) (hr : ∀ r ∈ rs, isRune r) (k : Nat) (hk : k ≤ (encs rs).length) : (!badPiece ((encs rs).drop k)) = onEdge rs 1 (k : Int) := by
  have hC : ((encs rs).length : Int) = C1 rs := (C1_len rs).symm
  have hu : unitOk 1 := .inl rfl
  obtain ⟨e1, e2⟩ := edge_first hu (rs := rs) (a := (k : Int)) (by rw [by1]; omega)
  have key : onEdge rs 1 (k : Int) = true ↔ edgeAt rs k := by
    constructor
    · intro h
      obtain ⟨i, hi, _, ci, _⟩ := e1 h
      rw [by1, C1_len] at ci
      exact ⟨i, hi, by omega⟩
    · rintro ⟨i, hi, ci⟩
      cases h : onEdge rs 1 (k : Int) with
      | true => rfl
      | false =>
        have := e2 h i hi
        rw [by1, C1_len] at this
        exact absurd (by omega) this
  by_cases hlt : k < (encs rs).length
  · rw [List.drop_eq_getElem_cons hlt]
    have hb : (encs rs)[k]? = some (encs rs)[k] := List.getElem?_eq_getElem hlt
    show (!(!startO (encs rs)[k])) = _
    rw [Bool.not_not]
    show startB (encs rs)[k] = _
    cases h : startB (encs rs)[k] with
    | true => exact (key.2 (edgeAt_of_start hr hb h)).symm
    | false =>
      cases h2 : onEdge rs 1 (k : Int) with
      | false => rfl
      | true =>
        have := start_of_edgeAt hr (key.1 h2) hb
        rw [h] at this; cases this
  · obtain rfl : k = (encs rs).length := by omega
    rw [List.drop_length]
    exact (key.2 (edgeAt_end rs)).symm

theorem refSplice_all (rs ps : List Nat) (at_ drop : Int) (hr : ∀ r ∈ rs, isRune r) (hps : ∀ r ∈ ps, isRune r) (hz : C1 rs ≤ 10000000) (hpz : C1 ps ≤ 10000000) (w : World) :
    Calls Tryz.prog 8 #[.string (bytesOf rs), .int .i64 at_, .int .i64 drop, .string (bytesOf ps)] w fun e w' => e = .returned (.tuple #[.string (bytesOf (spliceR rs ps at_ drop)), .agg #[.int .i64 (spliceE rs at_ drop (C1 ps)), .int .i64 (-1)]]) ∧ Below w.heap.size w w' := by
  have hs : ((bytesOf rs).size : Int) = C1 rs := by rw [bytesOf_size, C1_len]
  have hp : ((bytesOf ps).size : Int) = C1 ps := by rw [bytesOf_size, C1_len]
  have hl : ((encs rs).length : Int) = C1 rs := (C1_len rs).symm
  have p0 := C1_pos rs
  have p1 := C1_pos ps
  have zs : (bytesOf rs).size < 100000000 := by omega
  have zp : (bytesOf ps).size < 100000000 := by omega
  have cC := fun wx => refCount_of (bytesOf ps) ps hps rfl (by omega) wx
  unfold cntV at cC
  have cI1 := fun (wx : World) => in_any at_ 0 (C1 rs) wx
  have cI2 := fun (wx : World) => in_any drop 0 (C1 rs - at_) wx
  rw [← hs] at cI1 cI2
  have cE := fun (k : Nat) (hk : k ≤ (encs rs).length) (wx : World) => edge_any (encs rs) k wx (by omega) hk
  have cE2 : ∀ (k : Nat), k ≤ (encs rs).length → ∀ (wx : World), Calls Tryz.prog 34 #[.string (bytesOf rs), .int .i64 (k : Int)] wx fun e w' => e = .returned (.bool (onEdge rs 1 (k : Int))) ∧ w' = wx := fun k hk wx => by
    have := cE k hk wx
    rw [edge_on rs hr k hk] at this
    exact this
  unfold spliceR
  by_cases c1 : at_ < 0 ∨ C1 rs < at_
  · have hE : spliceE rs at_ drop (C1 ps) = 2 := by unfold spliceE; rw [if_pos (by omega)]
    have hb : inB at_ 0 ((bytesOf rs).size : Int) = false := decide_eq_false (by omega)
    rw [hb] at cI1
    rw [hE]
    exact refSplice_rng1 (bytesOf rs) (bytesOf ps) 0 0 0 0 at_ drop _ _ _ _ 0 zs zp w cC cI1
  have hb1 : inB at_ 0 ((bytesOf rs).size : Int) = true := decide_eq_true (by omega)
  rw [hb1] at cI1
  by_cases c2 : drop < 0 ∨ C1 rs - at_ < drop
  · have hE : spliceE rs at_ drop (C1 ps) = 2 := by unfold spliceE; rw [if_pos (by omega)]
    have hb : inB drop 0 ((bytesOf rs).size - at_ : Int) = false := decide_eq_false (by omega)
    rw [hb] at cI2
    rw [hE]
    exact refSplice_rng2 (bytesOf rs) (bytesOf ps) 0 0 0 0 at_ drop _ _ _ _ 0 zs zp (by omega) w cC cI1 cI2
  have hb2 : inB drop 0 ((bytesOf rs).size - at_ : Int) = true := decide_eq_true (by omega)
  rw [hb2] at cI2
  have hin : ¬ (at_ < 0 ∨ C1 rs < at_ ∨ drop < 0 ∨ C1 rs - at_ < drop) := by omega
  obtain ⟨k, hk⟩ : ∃ k : Nat, at_ = (k : Int) := ⟨at_.toNat, by omega⟩
  obtain ⟨d, hd⟩ : ∃ d : Nat, drop = (d : Int) := ⟨drop.toNat, by omega⟩
  have hj : ((k + d : Nat) : Int) = at_ + drop := by omega
  have hjl : k + d ≤ (encs rs).length := by omega
  have hjs : k + d ≤ (bytesOf rs).size := by omega
  have eA := cE2 k (by omega)
  have eB := cE2 (k + d) hjl
  rw [hj] at eB
  rw [← hk] at eA
  cases h1 : onEdge rs 1 at_ with
  | false =>
    rw [h1] at eA
    have hE : spliceE rs at_ drop (C1 ps) = 1 := by unfold spliceE; rw [if_neg hin, if_pos (.inl h1)]
    rw [hE]
    exact refSplice_arg1 (bytesOf rs) (bytesOf ps) k d (k + d) 0 at_ drop _ _ _ _ 0 zs zp hk hd rfl hjs w cC cI1 cI2 eA
  | true =>
  rw [h1] at eA
  rw [← hj] at eB
  cases h2 : onEdge rs 1 (at_ + drop) with
  | false =>
    rw [hj, h2, ← hj] at eB
    have hE : spliceE rs at_ drop (C1 ps) = 1 := by unfold spliceE; rw [if_neg hin, if_pos (.inr h2)]
    rw [hE]
    exact refSplice_arg2 (bytesOf rs) (bytesOf ps) k d (k + d) 0 at_ drop _ _ _ _ 0 zs zp hk hd rfl hjs w cC cI1 cI2 eA eB
  | true =>
  rw [hj, h2, ← hj] at eB
  have hed : ¬ (onEdge rs 1 at_ = false ∨ onEdge rs 1 (at_ + drop) = false) := by rw [h1, h2]; simp
  by_cases c5 : 8000 - (C1 rs - drop) < C1 ps
  · have hE : spliceE rs at_ drop (C1 ps) = 12 := by unfold spliceE; rw [if_neg hin, if_neg hed, if_pos c5]
    rw [hE]
    exact refSplice_full (bytesOf rs) (bytesOf ps) k d (k + d) 0 at_ drop _ _ _ _ 0 zs zp hk hd rfl hjs (by omega) w cC cI1 cI2 eA eB
  obtain ⟨ra, rd, rb, er, ca, cd, eu, ev⟩ := cut_three (rs := rs) (at_ := at_) (drop := drop) (by omega) (by omega) (by omega) (by omega) h1 h2
  have hE : spliceE rs at_ drop (C1 ps) = 0 := by unfold spliceE; rw [if_neg hin, if_neg hed, if_neg c5]
  have g := refSplice_good (bytesOf rs) (bytesOf ps) k d (k + d) 0 at_ drop _ _ _ _ 0 zs zp hk hd rfl hjs (by omega) w cC cI1 cI2 eA eB
  rw [C1_len] at ca cd
  have hka : k = (encs ra).length := by omega
  have hjd : k + d = (encs ra ++ encs rd).length := by rw [List.length_append]; omega
  have hdat : (bytesOf rs).data.toList = encs ra ++ encs rd ++ encs rb := by
    show encs rs = _
    rw [er, encs_append, encs_append, List.append_assoc]
  have x1 : (bytesOf rs).extract 0 k = bytesOf ra := by
    rw [hka]; exact ba_of (spl_first _ _ (encs rd ++ encs rb) (by rw [hdat, List.append_assoc]))
  have x2 : (bytesOf rs).extract (k + d) (bytesOf rs).size = bytesOf rb := by
    rw [hjd]; exact ba_of (spl_rest _ _ _ hdat)
  rw [x1, x2, bytesOf_append, bytesOf_append] at g
  rw [hE, if_pos rfl, eu, ev]
  exact g
end Go.Proofs.YtldhbjmillfjgaaGreatDoor
