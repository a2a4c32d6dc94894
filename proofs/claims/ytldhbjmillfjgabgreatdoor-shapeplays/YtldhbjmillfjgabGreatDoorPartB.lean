/-
  The document's own Halves: what it returns of any runes.
  The library's contracts that these texts use, laid at this program by the shelf's own command, its plain mode.
  The document's own Count: what it returns of any text.
  Plain mathematics: what a text counts, told by its runes, and by its bytes.
  The rope's tree, as memory holds it; what its nodes' counts, height and size tell.
  Plain mathematics: the rope's trees: chunks in order, heights, balance.
  The same, where one block of the call's own is written meanwhile: operations that yield one value in every world that has grown but for that block are taken first.
  Plain mathematics: where runes begin among bytes; a text cut into pieces.
  A range over an iterator that keeps state in cells of its own: the statement's law, over what the iterator may turn between two rounds and what a round keeps, both the user's choice.
  rope.between, of no trees: a text in chunks.
  rope's New, tree, Counts: of a sound text.
  utf.Walk: what its iterator does with the rounds of a loop.
  The document's own Edges: what it returns of a sound text.
  Plain mathematics, and memory: the rows of the document's Edges against what Walk hands over.
  rope.within: as few of a chunk's runes as are enough.
  rope.split: a tree in two.
  rope.until: as few runes of a tree as are enough.
  utf.In, rope's isUnit, and the closures of Ahead and Line.
  pos.Convert at a place that there is.
  Operations as lists: what a gathering keeps, and gap by gap: both come to the same least form.
  The closures of ops.gather: parts are added, told, and in the end there.
  ops.gather's add and done, and ops.isKeep, isDrop, isPut, walked.
  ops.Norm of any operation that is not too great: its least form.
  Lens, the program's and the document's; whether an operation is small; whether two are the same.
  bridge.steps, and what it tells, by runes.
  The library's contract of utf8.ValidString, laid at this program.
  errors.As at a target of the project's own number type: an error number; an error at a place, which unwraps to its number; no error. Then api.Tell, plain.Place and the law's own 'is'.
  errors.As at the project's number type, walked.
  errors.As, api.Tell, plain.Place and the law's 'is': at no error, and at an error at a place.
  errors.As, api.Tell, plain.Place and the law's 'is' and 'bare' at an error that is a number.
  ops.isOne, and what ops.Check says of any operation.
  Two operations side by side: the model of what Compose and Transform go through (pure).
  Side by side is gap by gap (pure), where puts stand alone in both.
  What a least form is made of (pure).
  rosettakeep's pick and fit: what comes is few parts that are not great.
-/
import Derived.Test.YtldhbjmillfjgabGreatDoorPartA
import Derived.Shelf.Strings.Builder1
import Derived.Shelf.Small.Utf8
import Derived.Shelf.Strings.BuilderF
import Derived.Shelf.Strings.BuilderK
import Derived.Shelf.Utf8.AppendRune
import Derived.Shelf.Utf8.AppendRunePlain
import Derived.Shelf.Utf8.RuneCount
import Derived.Shelf.LaysM
import Derived.Shelf.Strconv.Clone
import Derived.Shelf.Strings.Search1
import Derived.Shelf.Strings.Search2
import Derived.Shelf.Strings.Search3
import Derived.Shelf.Strings.Count
import Derived.Shelf.Strings.Shaped
import Derived.Shelf.Strings.Split
import Derived.Shelf.Unicode.Decode
import Derived.Shelf.Strings.RuneCount
import Derived.Shelf.Unicode.DecodeSlow
import Derived.Shelf.Unicode.DecodeAny
import Derived.Shelf.Strings.BuilderCap
import Derived.Test.YtldhbjmillfjgabGreatDoorProg
import Derived.Shelf.Pu.Clone
import Derived.RangeFuncNested
import Derived.RangeFuncBound
import Derived.RangeFuncCalls
import Derived.RangeFuncLeaves
import Derived.WalkKit
import Derived.OwnWalkIn
import Derived.TacticsInMore
import Derived.LoopNIn
import Derived.LoopIn
import Derived.RangeFuncRecord
import Derived.Lib.AppendStr
import Derived.Laws.OwnMore
import Derived.Maps.AppendAt
import Derived.Laws.EntriesVeiled
import Derived.Shelf.Unicode.ValidAny
import Derived.WalkSpells
import Derived.WalkLawsBesides
import Derived.LaidEql
import Derived.Stop.Asserts
import Derived.RowKitTokens
import Derived.Deep.QuietTactic
import Derived.BigQuiet
namespace Go.Proofs.YtldhbjmillfjgabGreatDoor
open Go.RowKit
set_option linter.unusedVariables false

/-- The halves of runes, as cells. -/
def halRow (rs : List Nat) : List Value := rs.flatMap halCells
theorem halRow_snoc (rs : List Nat) (r : Nat) : halRow (rs ++ [r]) = halRow rs ++ halCells r := by simp [halRow]
theorem halRow_len (rs : List Nat) : (halRow rs).length ≤ 2 * rs.length := by
  induction rs with
  | nil => simp [halRow]
  | cons r rs ih =>
    have h : (halCells r).length ≤ 2 := by unfold halCells hal; split <;> simp
    have e : halRow (r :: rs) = halCells r ++ halRow rs := by simp [halRow]
    rw [e, List.length_append, List.length_cons]
    omega
set_option maxRecDepth 100000 in
set_option maxHeartbeats 4000000 in
theorem refHalves_any (v : Value) (rs : List Nat) (w : World) (hz : ∀ r ∈ rs, isRune r) (hr : reads w .i32 v (toI rs)) (hl : rs.length < 100000000) :
    Calls Tryz.prog 57 #[v] w fun e w' => ∃ v, e = .returned v ∧ isRow w w' 139 v (halRow rs) ∧ Below w.heap.size w w' := by
  obtain ⟨p, c, rfl, r1, r2, r3⟩ := hr
  obtain ⟨n, hn⟩ : ∃ n, n = (toI rs).length := ⟨_, rfl⟩
  rw [← hn] at r1 r3 ⊢
  have HN : Hid (n = rs.length) := by show _ = _; rw [hn]; simp [toI]
  have HT : Hid (toI rs ≠ [] ↔ rs ≠ []) := by show _ ↔ _; simp [toI]
  have hln : n < 100000000 := by rw [HN.out]; exact hl
  clear hn hl
  have R3 : Hid (toI rs ≠ [] → ∃ b o, p = some ⟨b, o, none⟩ ∧ b < w.heap.size ∧ ∀ i, i < n → w.cell? ⟨b, o + i, none⟩ = some (.int .i32 ((toI rs).getD i 0))) := r3
  have HZ : Hid (∀ r ∈ rs, isRune r) := hz
  clear r3 hz
  obtain ⟨i0, hi, hz0, hz1, hz2⟩ := info_parts info59
  go_enter Tryz.func57, Tryz.ntmps57
  go_wp2
  go_loopw [3, 9] (fun b i wr => ∃ (k : Nat), k ≤ n ∧ i = .int .i64 k ∧ wr.ownsRow w.heap.size 139 1 b (halRow (rs.take k)).length (halRow (rs.take k)) ∧ Below w.heap.size w wr) (fun _ i _ => n - (intOf i).toNat)
  case atStart => exact ⟨0, Nat.zero_le _, rfl, World.ownsRow_nil _ _ _ _, Below.refl _ _⟩
  case round =>
    obtain ⟨k, hk, rfl, hown, hwr⟩ := hrel
    have hlen := halRow_len (rs.take k)
    rw [List.length_take] at hlen
    by_cases hlt : k < n
    · have hkr : k < rs.length := by rw [← HN.out]; exact hlt
      have hne : rs ≠ [] := by intro e; rw [e] at hkr; exact absurd hkr (Nat.not_lt_zero _)
      obtain ⟨b, o, rfl, hbw, hcell⟩ := R3.out (HT.out.2 hne)
      have hc := (hwr.cell (p := ⟨b, o + k, none⟩) hbw).trans (hcell k hlt)
      have hze : (toI rs).getD k 0 = (rs[k] : Int) := by
        rw [List.getD_eq_getElem?_getD, toI, List.getElem?_map, List.getElem?_eq_getElem hkr]; rfl
      rw [hze] at hc
      have hru := HZ.out rs[k] (List.getElem_mem _)
      have hts : rs.take (k + 1) = rs.take k ++ [rs[k]] := List.take_succ_eq_append_getElem hkr
      have hsn := halRow_snoc (rs.take k) rs[k]
      rw [← hts] at hsn
      generalize rs[k] = r at hc hru hsn
      unfold isRune at hru
      have hm : (halRow (rs.take k)).length < 300000000 := by omega
      by_cases hbig : r < 65536
      · have hh : halCells r = [.int .u16 r] := by simp [halCells, hal, hbig]
        rw [hh] at hsn
        have NX : Hid (∀ w1 v' o, w1.ownsRow w.heap.size 139 1 v' ((halRow (rs.take k)).length + 1) (halRow (rs.take k) ++ [.int .u16 r]) → (wr.alloc o).grownBy w1 (u3).ownBlock →
            w1.ownsRow w.heap.size 139 1 v' (halRow (rs.take (k + 1))).length (halRow (rs.take (k + 1))) ∧ Below w.heap.size w w1) := by
          intro w1 v' o h1 hg
          have hB : Below w.heap.size wr w1 := ((Below.refl _ wr).alloc hwr.size o).grown hg (by rw [World.size_alloc]; have := hwr.size; omega) fun k hk => (hown.lt k hk).1
          refine ⟨?_, hwr.trans hB⟩
          rw [hsn, List.length_append]
          exact h1
        obtain ⟨pb, cb, rfl⟩ := own_slice hown
        have q0 : (0 : Int) ≤ (r : Int) := by omega
        have q1 : (r : Int) < 65536 := by omega
        have hws := hwr.size
        clear hsn hts hze hh hcell hlen hru hbig
        generalize (r : Int) = z at hc q0 q1 NX
        generalize halRow (rs.take k) = xs at hown hm NX
        go_wp2_with (first | (at_builtin; refine wpList_append_own _ rfl (.tmp 30) (.tmp 33) 114 rfl w.heap.size 139 i0 (.int .u16 0) 1 2 Tryz.underlying114 hi hz0 hz1 hz2 rfl (by decide) _ _ _ rfl (hown.alloc _) ⟨wr.heap.size, 0, none⟩ 1 1 [.int .u16 z] rfl rfl (cell_one_new _ _ _) (ints_oneCell .u16 [z]) (by unfold maxLen; omega) (by omega) (by first | omega | (simp; omega)) ?_; intro v' w1 hown1 hg _) | fail)
        have hnx := NX.out w1 v' _ hown1 hg
        obtain ⟨n0, n1⟩ := hnx
        clear hown1 hg hown
        go_wp2
        go_roundw
        case rel => exact ⟨k + 1, by omega, by go_num, n0, n1⟩
        case measure => simp [intOf]; omega
      · have hh : halCells r = [.int .u16 (55296 + ((r : Int) - 65536) / 1024), .int .u16 (56320 + ((r : Int) - 65536) % 1024)] := by
          simp only [halCells, hal, hbig, if_false, List.map_cons, List.map_nil]
          rw [show ((55296 + (r - 65536) / 1024 : Nat) : Int) = 55296 + ((r : Int) - 65536) / 1024 by omega, show ((56320 + (r - 65536) % 1024 : Nat) : Int) = 56320 + ((r : Int) - 65536) % 1024 by omega]
        rw [hh] at hsn
        have NX : Hid (∀ w1 v' o, w1.ownsRow w.heap.size 139 1 v' ((halRow (rs.take k)).length + 2) (halRow (rs.take k) ++ [.int .u16 (55296 + ((r : Int) - 65536) / 1024), .int .u16 (56320 + ((r : Int) - 65536) % 1024)]) → (wr.alloc o).grownBy w1 (u3).ownBlock →
            w1.ownsRow w.heap.size 139 1 v' (halRow (rs.take (k + 1))).length (halRow (rs.take (k + 1))) ∧ Below w.heap.size w w1) := by
          intro w1 v' o h1 hg
          have hB : Below w.heap.size wr w1 := ((Below.refl _ wr).alloc hwr.size o).grown hg (by rw [World.size_alloc]; have := hwr.size; omega) fun k hk => (hown.lt k hk).1
          refine ⟨?_, hwr.trans hB⟩
          rw [hsn, List.length_append]
          exact h1
        obtain ⟨pb, cb, rfl⟩ := own_slice hown
        have q0 : ¬ (r : Int) < 65536 := by omega
        have q1 : (r : Int) ≤ 1114111 := by omega
        have q2 : (65536 : Int) ≤ (r : Int) := by omega
        have hws := hwr.size
        clear hsn hts hze hh hcell hlen hru hbig
        generalize (r : Int) = z at hc q0 q1 q2 NX
        generalize halRow (rs.take k) = xs at hown hm NX
        go_wp2_with (first | (at_builtin; refine wpList_append_own _ rfl (.tmp 17) (.tmp 28) 114 rfl w.heap.size 139 i0 (.int .u16 0) 1 2 Tryz.underlying114 hi hz0 hz1 hz2 rfl (by decide) _ _ _ rfl (hown.alloc _) ⟨wr.heap.size, 0, none⟩ 2 2 [.int .u16 (55296 + (z - 65536) / 1024), .int .u16 (56320 + (z - 65536) % 1024)] rfl rfl (cell_two_new _ _ _ _) (ints_oneCell .u16 [55296 + (z - 65536) / 1024, 56320 + (z - 65536) % 1024]) (by unfold maxLen; omega) (by omega) (by first | omega | (simp; omega)) ?_; intro v' w1 hown1 hg _) | fail)
        have hnx := NX.out w1 v' _ hown1 hg
        obtain ⟨n0, n1⟩ := hnx
        clear hown1 hg hown
        go_wp2
        go_roundw
        case rel => exact ⟨k + 1, by omega, by go_num, n0, n1⟩
        case measure => simp [intOf]; omega
    · have e : rs.take k = rs := List.take_of_length_le (by rw [← HN.out]; omega)
      rw [e] at hown
      obtain ⟨pb, cb, rfl⟩ := own_slice hown
      have HO : Hid (isRow w wr 139 (.slice pb (halRow rs).length cb) (halRow rs)) := ⟨pb, cb, rfl, hown⟩
      clear e hown R3 HZ hlen
      go_wp2
      go_ret
      exact ⟨_, rfl, HO.out, hwr⟩
end Go.Proofs.YtldhbjmillfjgabGreatDoor

namespace Go.Proofs
open Go.Shelf
def Tryz.lays138_ren : Go.Shelf.Ren := ⟨fun | 138 => 58 | 195 => 105 | 218 => 106 | 143 => 107 | 219 => 157 | 217 => 184 | 225 => 185 | 224 => 186 | 267 => 187 | 266 => 202 | 314 => 203 | n => n, fun | 9 => 9 | 3 => 3 | 4 => 4 | 5 => 5 | 0 => 0 | 46 => 86 | 146 => 299 | 51 => 268 | n => n, fun | 1 => 1 | n => n⟩
theorem Tryz.lays138 : Go.Proofs.Lays.n138 Tryz.prog Tryz.lays138_ren := {
  mixed := by kernel_rfl
  f138 := Tryz.func58.trans (congrArg some (by kernel_rfl))
  f143 := Tryz.func107.trans (congrArg some (by kernel_rfl))
  f195 := Tryz.func105.trans (congrArg some (by kernel_rfl))
  f217 := Tryz.func184.trans (congrArg some (by kernel_rfl))
  f218 := Tryz.func106.trans (congrArg some (by kernel_rfl))
  f219 := Tryz.func157.trans (congrArg some (by kernel_rfl))
  f224 := Tryz.func186.trans (congrArg some (by kernel_rfl))
  f225 := Tryz.func185.trans (congrArg some (by kernel_rfl))
  f266 := Tryz.func202.trans (congrArg some (by kernel_rfl))
  f267 := Tryz.func187.trans (congrArg some (by kernel_rfl))
  f314 := Tryz.func203.trans (congrArg some (by kernel_rfl))
  t0 := Tryz.underlying0
  a0 := Tryz.isAgg0
  z0 := Tryz.sizeOf0
  v0 := Tryz.zeroValue0
  t3 := Tryz.underlying3
  a3 := Tryz.isAgg3
  z3 := Tryz.sizeOf3
  v3 := Tryz.zeroValue3
  t4 := Tryz.underlying4
  a4 := Tryz.isAgg4
  z4 := Tryz.sizeOf4
  v4 := Tryz.zeroValue4
  t5 := Tryz.underlying5
  a5 := Tryz.isAgg5
  z5 := Tryz.sizeOf5
  v5 := Tryz.zeroValue5
  t9 := Tryz.underlying9
  a9 := Tryz.isAgg9
  z9 := Tryz.sizeOf9
  v9 := Tryz.zeroValue9
  t46 := Tryz.underlying86
  a46 := Tryz.isAgg86
  z46 := Tryz.sizeOf86
  v46 := Tryz.zeroValue86
  t51 := Tryz.underlying268
  a51 := Tryz.isAgg268
  z51 := Tryz.sizeOf268
  v51 := Tryz.zeroValue268
  t146 := Tryz.underlying299
  a146 := Tryz.isAgg299
  z146 := Tryz.sizeOf299
  v146 := Tryz.zeroValue299
  g1 := by kernel_rfl }
open Go.RowKit Go.Lib in
theorem Tryz.strings_Count_one (s : ByteArray) (c : UInt8) (w : World) :
    Calls Tryz.prog 58 #[.string s, .string ⟨#[c]⟩] w fun e w' => e = .returned (.int .i64 (Lib.countByte s.data.toList c)) ∧ w' = w := Any.strings_Count_one Tryz.lays138 s c w
end Go.Proofs

namespace Go.Proofs.YtldhbjmillfjgabGreatDoor
open Go.RowKit
set_option linter.unusedVariables false

/-- The two results' blocks hold noughts, and may be written. -/
def zeros (W : World) (B : Nat) : Prop :=
  (W.cell? ⟨B, 0, none⟩ = some (.int .i64 0) ∧ W.cell? ⟨B, 1, none⟩ = some (.int .i64 0) ∧ W.cell? ⟨B, 2, none⟩ = some (.int .i64 0) ∧ W.cell? ⟨B, 3, none⟩ = some (.int .i64 0)) ∧
  (W.frozen? ⟨B, 0, none⟩ = false ∧ W.frozen? ⟨B, 1, none⟩ = false ∧ W.frozen? ⟨B, 2, none⟩ = false ∧ W.frozen? ⟨B, 3, none⟩ = false) ∧
  (W.cell? ⟨B + 1, 0, none⟩ = some (.int .i64 0) ∧ W.cell? ⟨B + 1, 1, none⟩ = some (.int .i64 0)) ∧
  (W.frozen? ⟨B + 1, 0, none⟩ = false ∧ W.frozen? ⟨B + 1, 1, none⟩ = false)
theorem zeros_below {W W' : World} {B : Nat} (h : zeros W B) (hb : Below W.heap.size W W') : zeros W' B := by
  obtain ⟨⟨c0, c1, c2, c3⟩, ⟨d0, d1, d2, d3⟩, ⟨f0, f1⟩, ⟨g0, g1⟩⟩ := h
  have l0 : B < W.heap.size := World.block_lt_of_cell? W _ c0
  have l1 : B + 1 < W.heap.size := World.block_lt_of_cell? W _ f0
  have kc : ∀ i v, W.cell? ⟨B, i, none⟩ = some v → W'.cell? ⟨B, i, none⟩ = some v := fun i v h => (hb.cell (p := ⟨B, i, none⟩) l0).trans h
  have kd : ∀ i, W.frozen? ⟨B, i, none⟩ = false → W'.frozen? ⟨B, i, none⟩ = false := fun i h => (hb.frozen (p := ⟨B, i, none⟩) l0).trans h
  have kf : ∀ i v, W.cell? ⟨B + 1, i, none⟩ = some v → W'.cell? ⟨B + 1, i, none⟩ = some v := fun i v h => (hb.cell (p := ⟨B + 1, i, none⟩) l1).trans h
  have kg : ∀ i, W.frozen? ⟨B + 1, i, none⟩ = false → W'.frozen? ⟨B + 1, i, none⟩ = false := fun i h => (hb.frozen (p := ⟨B + 1, i, none⟩) l1).trans h
  exact ⟨⟨kc _ _ c0, kc _ _ c1, kc _ _ c2, kc _ _ c3⟩, ⟨kd _ d0, kd _ d1, kd _ d2, kd _ d3⟩, ⟨kf _ _ f0, kf _ _ f1⟩, ⟨kg _ g0, kg _ g1⟩⟩
theorem zeros_new (w : World) : zeros ((w.alloc (.cells #[.int .i64 0, .int .i64 0, .int .i64 0, .int .i64 0] 25)).alloc (.cells #[.int .i64 0, .int .i64 0] 28)) w.heap.size := by
  refine ⟨⟨?_, ?_, ?_, ?_⟩, ⟨?_, ?_, ?_, ?_⟩, ⟨?_, ?_⟩, ⟨?_, ?_⟩⟩ <;> simp [go_sem]
theorem below_two {w w1 : World} {o1 o2 : Obj} (hb : Below ((w.alloc o1).alloc o2).heap.size ((w.alloc o1).alloc o2) w1) : Below w.heap.size w w1 :=
  (((Below.refl _ w).alloc (Nat.le_refl _) _).alloc (by rw [World.size_alloc]; exact Nat.le_succ _) _).trans (hb.mono (by rw [World.size_alloc, World.size_alloc]; omega))
theorem size_two {w w1 : World} {o1 o2 : Obj} (hb : Below ((w.alloc o1).alloc o2).heap.size ((w.alloc o1).alloc o2) w1) : w.heap.size + 1 < w1.heap.size := by
  have := hb.size
  rw [World.size_alloc, World.size_alloc] at this
  omega
theorem below_six {w W : World} {v0 v1 v2 v3 v4 v5 : Value} (h : Below w.heap.size w W) :
    Below w.heap.size w ((((((W.setCell ⟨w.heap.size, 0, none⟩ v0).setCell ⟨w.heap.size, 1, none⟩ v1).setCell ⟨w.heap.size, 2, none⟩ v2).setCell ⟨w.heap.size, 3, none⟩ v3).setCell ⟨w.heap.size + 1, 0, none⟩ v4).setCell ⟨w.heap.size + 1, 1, none⟩ v5) :=
  (((((h.setCell (p := ⟨w.heap.size, 0, none⟩) (Nat.le_refl _) _).setCell (p := ⟨w.heap.size, 1, none⟩) (Nat.le_refl _) _).setCell (p := ⟨w.heap.size, 2, none⟩) (Nat.le_refl _) _).setCell (p := ⟨w.heap.size, 3, none⟩) (Nat.le_refl _) _).setCell (p := ⟨w.heap.size + 1, 0, none⟩) (Nat.le_succ _) _).setCell (p := ⟨w.heap.size + 1, 1, none⟩) (Nat.le_succ _) _

set_option maxRecDepth 100000 in
set_option maxHeartbeats 4000000 in
theorem refCount_bad (s : ByteArray) (hs : s.size < 100000000) (w : World) (hok : (scan s.data.toList).2 = false) :
    Calls Tryz.prog 8 #[.string s] w fun e w' => Below w.heap.size w w' ∧ e = .returned (.tuple #[cnt 0 0 0 0, fault 3 (place s.data.toList)]) := by
  have cR : ∀ w, Calls Tryz.prog 56 #[.string s] w fun e w' => e = .returned (.tuple #[.slice none 0 0, .agg #[.int .i64 3, .int .i64 (place s.data.toList)]]) ∧ Below w.heap.size w w' := fun w => by
    refine (refRunes_any s hs w).mono ?_
    rintro e w' ⟨hb, ⟨h, _⟩ | ⟨_, rfl⟩⟩
    · rw [hok] at h; cases h
    · exact ⟨rfl, hb⟩
  clear hok hs
  generalize ((place s.data.toList : Nat) : Int) = P at cR ⊢
  unfold cnt fault
  go_enter Tryz.func8, Tryz.ntmps8
  go_wp2_with (first | (go_at_call 56; refine (cR _).mono ?_; rintro e w1 ⟨rfl, hb1⟩; have k0 := zeros_below (zeros_below (zeros_new w) hb1) ((Below.refl _ w1).alloc (Nat.le_refl _) (.cells #[.int .i64 3, .int .i64 P] 28)); obtain ⟨⟨c0, c1, c2, c3⟩, ⟨d0, d1, d2, d3⟩, ⟨f0, f1⟩, ⟨g0, g1⟩⟩ := k0; have hlt := size_two hb1; have hn1 : ¬ w1.heap.size = w.heap.size := (by omega); have hn2 : ¬ w.heap.size = w1.heap.size := (by omega); have hn3 : ¬ w1.heap.size = w.heap.size + 1 := (by omega); have hn4 : ¬ w.heap.size + 1 = w1.heap.size := (by omega)) | fail)
  go_region
  all_goals go_wp2
  all_goals
    refine bodyPost_ret (v := .tuple #[.agg #[.int .i64 0, .int .i64 0, .int .i64 0, .int .i64 0], .agg #[.int .i64 3, .int .i64 P]]) (by simp [results, Tryz.results8, go_sem, c0, c1, c2, c3, f0, f1]) rfl ?_
    exact ⟨(below_six ((below_two hb1).alloc (Nat.le_of_lt (Nat.lt_trans (Nat.lt_succ_self _) hlt)) _)).drew, rfl⟩

theorem cells21_toI (rs : List Nat) : cellsOf21 (wide rs) = (toI rs).map (Value.int .i32) := by
  simp [cellsOf21, wide, toI, List.map_map, Function.comp_def]

set_option maxRecDepth 100000 in
set_option maxHeartbeats 4000000 in
theorem refCount_good (s : ByteArray) (hs : s.size < 100000000) (w : World) (hok : (scan s.data.toList).2 = true) :
    Calls Tryz.prog 8 #[.string s] w fun e w' => Below w.heap.size w w' ∧
      e = .returned (.tuple #[cnt s.size (halRow (runesOf s.data.toList)).length (runesOf s.data.toList).length (Lib.countByte s.data.toList 10), fault 0 (-1)]) := by
  have hru : ∀ r ∈ runesOf s.data.toList, isRune r := fun r h => runesOf_rune h
  have hrl : (runesOf s.data.toList).length < 100000000 := by
    have := scan_len s.data.toList
    rw [← Lib.size_eq] at this
    unfold runesOf
    rw [List.length_map]
    omega
  have cR : ∀ w, Calls Tryz.prog 56 #[.string s] w fun e w' => Below w.heap.size w w' ∧ ∃ p c, e = .returned (.tuple #[.slice p (runesOf s.data.toList).length c, .agg #[.int .i64 0, .int .i64 (-1)]]) ∧ reads w' .i32 (.slice p (runesOf s.data.toList).length c) (toI (runesOf s.data.toList)) := fun w => by
    refine (refRunes_any s hs w).mono ?_
    rintro e w' ⟨hb, ⟨_, v, rfl, p, c, rfl, hown⟩ | ⟨h, _⟩⟩
    · have e1 : cellsOf21 (scan s.data.toList).1 = (toI (runesOf s.data.toList)).map (Value.int .i32) := by rw [scan_wide, cells21_toI]
      have e2 : (cellsOf21 (scan s.data.toList).1).length = (toI (runesOf s.data.toList)).length := by rw [e1, List.length_map]
      have e3 : (toI (runesOf s.data.toList)).length = (runesOf s.data.toList).length := by simp [toI]
      rw [e2] at hown
      rw [e2, ← e3]
      exact ⟨hb, p, c, rfl, reads_own e1 hown⟩
    · rw [hok] at h; cases h
  have cC := fun w => Tryz.strings_Count_one s 10 w
  have hcb : Lib.countByte s.data.toList 10 < 100000000 := by
    have : Lib.countByte s.data.toList 10 ≤ s.data.toList.length := List.count_le_length
    rw [← Lib.size_eq] at this
    omega
  clear hok hs
  generalize Lib.countByte s.data.toList 10 = CB at cC hcb ⊢
  generalize runesOf s.data.toList = rs at *
  have HRU : Hid (∀ r ∈ rs, isRune r) := hru
  obtain ⟨n, hn⟩ : ∃ n, n = rs.length := ⟨_, rfl⟩
  have HRL : Hid (rs.length < 100000000) := hrl
  rw [← hn] at cR hrl ⊢
  have HN : Hid (n = rs.length) := hn
  clear hru hn
  unfold cnt fault
  go_enter Tryz.func8, Tryz.ntmps8
  go_wp2_with (first | (go_at_call 56; refine (cR _).mono ?_; rintro e w1 ⟨hb1, p, c, rfl, hrd⟩; have HRD : Hid (reads w1 .i32 (.slice p n c) (toI rs)) := hrd; clear hrd; have hBF : Below w1.heap.size w1 (w1.alloc (.cells #[.int .i64 0, .int .i64 (-1)] 28)) := (Below.refl _ w1).alloc (Nat.le_refl _) _; have k0 := zeros_below (zeros_below (zeros_new w) hb1) hBF; have KZ : Hid (zeros (w1.alloc (.cells #[.int .i64 0, .int .i64 (-1)] 28)) w.heap.size) := k0; obtain ⟨⟨c0, c1, c2, c3⟩, ⟨d0, d1, d2, d3⟩, ⟨f0, f1⟩, ⟨g0, g1⟩⟩ := k0; have hlt := size_two hb1; have hn1 : ¬ w1.heap.size = w.heap.size := (by omega); have hn2 : ¬ w.heap.size = w1.heap.size := (by omega); have hn3 : ¬ w1.heap.size = w.heap.size + 1 := (by omega); have hn4 : ¬ w.heap.size + 1 = w1.heap.size := (by omega)) | fail)
  go_region_with (first | (go_at_call 57; refine (refHalves_any _ rs _ HRU.out (reads_below HRD.out hBF.drew (Nat.le_refl _)) HRL.out).mono ?_; rintro e w2 ⟨v2, rfl, ⟨p2, c2', rfl, hig⟩, hb2⟩; clear hig; have k2 := zeros_below (W := (w1.alloc (.cells #[.int .i64 0, .int .i64 (-1)] 28)).drew) (zeros_below KZ.out (Below.refl _ _).drew) hb2; obtain ⟨⟨C0, C1, C2, C3⟩, ⟨D0, D1, D2, D3⟩, ⟨F0, F1⟩, ⟨G0, G1⟩⟩ := k2; have e0 : w2.cell? ⟨w1.heap.size, 0, none⟩ = some (.int .i64 0) := (hb2.cell (p := ⟨w1.heap.size, 0, none⟩) (by simp)).trans (by simp [go_sem]); have e1 : w2.cell? ⟨w1.heap.size, 1, none⟩ = some (.int .i64 (-1)) := (hb2.cell (p := ⟨w1.heap.size, 1, none⟩) (by simp)).trans (by simp [go_sem])) | (go_at_call 58; refine (cC _).mono ?_; rintro e wx ⟨rfl, hwx⟩; obtain rfl := hwx.symm))
  all_goals
    go_wp2
    refine bodyPost_ret (v := .tuple #[.agg #[.int .i64 s.size, .int .i64 (halRow rs).length, .int .i64 n, .int .i64 CB], .agg #[.int .i64 0, .int .i64 (-1)]]) (by simp [results, Tryz.results8, go_sem, C0, C1, C2, C3, F0, F1]) rfl ?_
    have hle : w.heap.size ≤ w1.heap.size := by omega
    have hBw : Below w.heap.size w w2 := ((below_two hb1).alloc hle _).drew.trans (hb2.mono (by simp; omega))
    exact ⟨below_six hBw, rfl⟩
end Go.Proofs.YtldhbjmillfjgabGreatDoor

namespace Go.Proofs.YtldhbjmillfjgabGreatDoor

theorem sum1_wide (rs : List Nat) : sum1 (wide rs) = ((encs rs).length : Int) := by
  induction rs with
  | nil => rfl
  | cons r rs ih =>
    have e : sum1 (wide (r :: rs)) = ((enc r).length : Int) + sum1 (wide rs) := by simp [sum1, wide]
    rw [e, ih, encs_cons, List.length_append]
    push_cast
    rfl
theorem sum2_wide (rs : List Nat) : sum2 (wide rs) = ((halRow rs).length : Int) := by
  induction rs with
  | nil => rfl
  | cons r rs ih =>
    have e : sum2 (wide (r :: rs)) = cH r + sum2 (wide rs) := by simp [sum2, wide]
    have e2 : halRow (r :: rs) = halCells r ++ halRow rs := by simp [halRow]
    have e3 : ((halCells r).length : Int) = cH r := by
      unfold halCells hal cH
      split <;> simp
    rw [e, ih, e2, List.length_append, ← e3]
    push_cast
    rfl
theorem enc_count {r : Nat} (hr : isRune r) : ((enc r).count 10 : Int) = cL r := by
  unfold isRune at hr
  have ne : ∀ n : Nat, n < 256 → n ≠ 10 → (n.toUInt8 == (10 : UInt8)) = false := by
    intro n h1 h2
    rw [beq_eq_false_iff_ne]
    intro e
    have := congrArg UInt8.toNat e
    rw [toU8 h1] at this
    exact h2 this
  unfold cL
  by_cases h1 : r ≤ 127
  · rw [enc1 h1]
    by_cases h : r = 10
    · subst h; rfl
    · rw [if_neg h, List.count_cons, ne r (by omega) h]; rfl
  rw [if_neg (by omega)]
  by_cases h2 : r ≤ 2047
  · rw [enc2 (by omega) h2, List.count_cons, List.count_cons, ne _ (by omega) (by omega), ne _ (by omega) (by omega)]; rfl
  by_cases h3 : r ≤ 65535
  · rw [enc3 (by omega), List.count_cons, List.count_cons, List.count_cons, ne _ (by omega) (by omega), ne _ (by omega) (by omega), ne _ (by omega) (by omega)]; rfl
  · rw [enc4 (by omega) (by omega), List.count_cons, List.count_cons, List.count_cons, List.count_cons, ne _ (by omega) (by omega), ne _ (by omega) (by omega), ne _ (by omega) (by omega), ne _ (by omega) (by omega)]; rfl
theorem sum4_wide {rs : List Nat} (h : ∀ r ∈ rs, isRune r) : sum4 (wide rs) = (Lib.countByte (encs rs) 10 : Int) := by
  unfold Lib.countByte
  induction rs with
  | nil => rfl
  | cons r rs ih =>
    have e : sum4 (wide (r :: rs)) = cL r + sum4 (wide rs) := by simp [sum4, wide]
    rw [e, ih fun x hx => h x (by simp [hx]), encs_cons, List.count_append, ← enc_count (h r (by simp))]
    push_cast
    rfl
end Go.Proofs.YtldhbjmillfjgabGreatDoor

namespace Go.Proofs.YtldhbjmillfjgabGreatDoor
open Go.RowKit
set_option linter.unusedVariables false

/-! ### What runes count -/
def C1 (rs : List Nat) : Int := sum1 (wide rs)
def C2 (rs : List Nat) : Int := sum2 (wide rs)
def C3 (rs : List Nat) : Int := rs.length
def C4 (rs : List Nat) : Int := sum4 (wide rs)
theorem wide_append (a b : List Nat) : wide (a ++ b) = wide a ++ wide b := by simp [wide]
theorem C1_append (a b : List Nat) : C1 (a ++ b) = C1 a + C1 b := by unfold C1 sum1; rw [wide_append, List.map_append, List.sum_append]
theorem C2_append (a b : List Nat) : C2 (a ++ b) = C2 a + C2 b := by unfold C2 sum2; rw [wide_append, List.map_append, List.sum_append]
theorem C3_append (a b : List Nat) : C3 (a ++ b) = C3 a + C3 b := by unfold C3; rw [List.length_append]; push_cast; rfl
theorem C1_len (rs : List Nat) : C1 rs = (encs rs).length := sum1_wide rs
theorem C3_le (rs : List Nat) : 0 ≤ C3 rs ∧ C3 rs ≤ C1 rs := by
  have := encs_len rs
  rw [C1_len]; unfold C3; omega
theorem C2_le (rs : List Nat) : 0 ≤ C2 rs ∧ C2 rs ≤ 2 * C1 rs := by
  have h := sum2_le (wide rs)
  have h3 := C3_le rs
  have e : (wide rs).length = rs.length := by simp [wide]
  rw [e] at h
  unfold C2
  unfold C3 at h3
  omega

/-- Runes' bytes. -/
def bytesOf (rs : List Nat) : ByteArray := ⟨(encs rs).toArray⟩
/-- The chunks' tree. -/
inductive T where
  | nil
  | node (l : T) (rs : List Nat) (r : T)
def T.size : T → Nat
  | .nil => 0
  | .node l _ r => 1 + l.size + r.size

theorem cell_on {W W' : World} (hb : Below W.heap.size W W') {b o : Nat} {v : Value} (h : W.cell? ⟨b, o, none⟩ = some v) : W'.cell? ⟨b, o, none⟩ = some v :=
  (hb.cell (p := ⟨b, o, none⟩) (World.block_lt_of_cell? W _ h)).trans h
end Go.Proofs.YtldhbjmillfjgabGreatDoor

namespace Go.Proofs.YtldhbjmillfjgabGreatDoor

theorem C1_pos (rs : List Nat) : 0 ≤ C1 rs := by rw [C1_len]; omega
end Go.Proofs.YtldhbjmillfjgabGreatDoor

namespace Go.Proofs.YtldhbjmillfjgabGreatDoor
open Go.RowKit
set_option linter.unusedVariables false

/-- All blocks but B lie as they lay; new ones may have come. -/
structure But (B : Nat) (A A' : World) : Prop where
  os : A'.os = A.os
  tape : A'.tape = A.tape
  output : A'.output = A.output
  size : A.heap.size ≤ A'.heap.size
  block : ∀ k, k < A.heap.size → k ≠ B → A'.heap[k]? = A.heap[k]?
theorem But.refl (B : Nat) (A : World) : But B A A := ⟨rfl, rfl, rfl, Nat.le_refl _, fun _ _ _ => rfl⟩
theorem But.trans {B : Nat} {a b c : World} (h : But B a b) (k : But B b c) : But B a c :=
  ⟨k.os.trans h.os, k.tape.trans h.tape, k.output.trans h.output, Nat.le_trans h.size k.size, fun i h1 h2 => (k.block i (Nat.lt_of_lt_of_le h1 h.size) h2).trans (h.block i h1 h2)⟩
theorem But.setCell {B : Nat} {A W : World} (h : But B A W) {p : Addr} (hp : p.block = B) (v : Value) : But B A (W.setCell p v) :=
  h.trans ⟨rfl, rfl, rfl, by simp [World.setCell], fun k _ h2 => Below.heap_setCell W p v k (by rw [hp]; exact h2)⟩
theorem But.below {B : Nat} {A A' : World} (h : But B A A') (hB : B ≤ A.heap.size) : Below B A A' := ⟨h.os, h.tape, h.output, h.size, fun k hk => h.block k (by omega) (by omega)⟩
theorem But.cell {B : Nat} {A A' : World} (h : But B A A') {b o : Nat} {v : Value} (hb : b ≠ B) (hc : A.cell? ⟨b, o, none⟩ = some v) : A'.cell? ⟨b, o, none⟩ = some v :=
  (World.cell?_of_block (w := A) (a := ⟨b, o, none⟩) (h.block b (World.block_lt_of_cell? A _ hc) hb)).trans hc
/-- G gives just the worlds that are W but for B, and what is new. -/
structure GrowB (B : Nat) (W : World) (G : World → World) : Prop where
  but : ∀ x, But B W (G x)
  onto : ∀ w, But B W w → G w = w
theorem GrowB.cell {B : Nat} {W : World} {G : World → World} (hG : GrowB B W G) {b o : Nat} {v : Value} (hb : b ≠ B) (h : W.cell? ⟨b, o, none⟩ = some v) : ∀ x, (G x).cell? ⟨b, o, none⟩ = some v :=
  fun x => (hG.but x).cell hb h

section
variable {P : Program} {ops : Array Oper} {md : Region.Mode} {m B : Nat} {W0 : World} {Q : Exit → Act → World → Prop}

end
end Go.Proofs.YtldhbjmillfjgabGreatDoor

namespace Go.Proofs.YtldhbjmillfjgabGreatDoor

/-- A byte with which a rune may begin. -/
def startB (b : UInt8) : Bool := Lib.runeStart (b.toNat : Int)
theorem startB_lead {n : Nat} (h : n < 256) (h2 : n / 64 ≠ 2) : startB n.toUInt8 = true := by
  unfold startB Lib.runeStart
  rw [toU8 h, bne_iff_ne]
  omega
theorem startB_tail {n : Nat} (h : n < 64) : startB (128 + n).toUInt8 = false := by
  unfold startB Lib.runeStart
  rw [toU8 (by omega), bne_eq_false_iff_eq]
  omega
theorem enc_starts {r : Nat} (hr : isRune r) : ∃ b t, enc r = b :: t ∧ startB b = true ∧ (∀ x ∈ t, startB x = false) ∧ t.length ≤ 3 := by
  unfold isRune at hr
  by_cases h1 : r ≤ 127
  · rw [enc1 h1]; exact ⟨_, [], rfl, startB_lead (by omega) (by omega), by simp, by simp⟩
  by_cases h2 : r ≤ 2047
  · rw [enc2 (by omega) h2]
    exact ⟨_, _, rfl, startB_lead (by omega) (by omega), fun x hx => by simp only [List.mem_cons, List.not_mem_nil, or_false] at hx; subst hx; exact startB_tail (by omega), by simp⟩
  by_cases h3 : r ≤ 65535
  · rw [enc3 (by omega)]
    exact ⟨_, _, rfl, startB_lead (by omega) (by omega), fun x hx => by simp only [List.mem_cons, List.not_mem_nil, or_false] at hx; rcases hx with rfl | rfl <;> exact startB_tail (by omega), by simp⟩
  · rw [enc4 (by omega) (by omega)]
    exact ⟨_, _, rfl, startB_lead (by omega) (by omega), fun x hx => by simp only [List.mem_cons, List.not_mem_nil, or_false] at hx; rcases hx with rfl | rfl | rfl <;> exact startB_tail (by omega), by simp⟩

end Go.Proofs.YtldhbjmillfjgabGreatDoor

namespace Go.Proofs.YtldhbjmillfjgabGreatDoor
open Go.RowKit

/-- The loop's two blocks of book-keeping lie as they lay. -/
structure Same2 (n : Nat) (W W' : World) : Prop where
  a : W'.heap[n]? = W.heap[n]?
  b : W'.heap[n + 1]? = W.heap[n + 1]?
theorem Same2.refl (n : Nat) (W : World) : Same2 n W W := ⟨rfl, rfl⟩
theorem Same2.trans {n : Nat} {A B C : World} (h : Same2 n A B) (k : Same2 n B C) : Same2 n A C := ⟨k.a.trans h.a, k.b.trans h.b⟩
theorem Same2.setCell {n : Nat} {A W : World} (h : Same2 n A W) {p : Addr} (h1 : p.block ≠ n) (h2 : p.block ≠ n + 1) (v : Value) : Same2 n A (W.setCell p v) :=
  ⟨(Below.heap_setCell W p v n (fun e => h1 e.symm)).trans h.a, (Below.heap_setCell W p v (n + 1) (fun e => h2 e.symm)).trans h.b⟩
theorem Same2.alloc {n : Nat} {A W : World} (h : Same2 n A W) (hn : n + 2 ≤ W.heap.size) (o : Obj) : Same2 n A (W.alloc o) :=
  ⟨(Below.heap_alloc W o n (by omega)).trans h.a, (Below.heap_alloc W o (n + 1) (by omega)).trans h.b⟩
theorem Same2.drew {n : Nat} {A W : World} (h : Same2 n A W) : Same2 n A W.drew := ⟨h.a, h.b⟩

/-- All blocks but one lie as they lay. -/
structure Put1 (n : Nat) (A B : World) : Prop where
  os : B.os = A.os
  tape : B.tape = A.tape
  output : B.output = A.output
  size : B.heap.size = A.heap.size
  block : ∀ k, k ≠ n → B.heap[k]? = A.heap[k]?
theorem Put1.below {n B : Nat} {A A' : World} (h : Put1 n A A') (hB : B ≤ n) : Below B A A' := ⟨h.os, h.tape, h.output, Nat.le_of_eq h.size.symm, fun k hk => h.block k (by omega)⟩
theorem Put1.cell {n : Nat} {A A' : World} (h : Put1 n A A') {b o : Nat} (hb : b ≠ n) : A'.cell? ⟨b, o, none⟩ = A.cell? ⟨b, o, none⟩ := World.cell?_of_block (w := A) (a := ⟨b, o, none⟩) (h.block b hb)
theorem Put1.frozen {n : Nat} {A A' : World} (h : Put1 n A A') {b o : Nat} (hb : b ≠ n) : A'.frozen? ⟨b, o, none⟩ = A.frozen? ⟨b, o, none⟩ := World.frozen?_of_block (w := A) (a := ⟨b, o, none⟩) (h.block b hb)

end Go.Proofs.YtldhbjmillfjgabGreatDoor

namespace Go.Proofs.YtldhbjmillfjgabGreatDoor
open Go.RowKit
set_option linter.unusedVariables false
attribute [local go_sem] Oper.semAt_some yieldsUpon okUpon

theorem But.frozen {B : Nat} {A A' : World} (h : But B A A') {b o : Nat} (hl : b < A.heap.size) (hb : b ≠ B) : A'.frozen? ⟨b, o, none⟩ = A.frozen? ⟨b, o, none⟩ :=
  World.frozen?_of_block (w := A) (a := ⟨b, o, none⟩) (h.block b hl hb)
end Go.Proofs.YtldhbjmillfjgabGreatDoor

namespace Go.Proofs.YtldhbjmillfjgabGreatDoor
open Go.RowKit
set_option linter.unusedVariables false
attribute [local go_sem] Oper.semAt_some

theorem counted_new (w : World) (n1 n2 n3 n4 : Int) (t : TypeId) : counted (w.alloc (.cells #[.int .i64 n1, .int .i64 n2, .int .i64 n3, .int .i64 n4] t)) w.heap.size n1 n2 n3 n4 := by
  refine ⟨⟨?_, ?_, ?_, ?_⟩, ?_, ?_, ?_, ?_⟩ <;> simp [go_sem]
theorem below_set4 {lo : Nat} {w W : World} {B : Nat} (hb : Below lo w W) (hlo : lo ≤ B) (u0 u1 u2 u3 : Value) :
    Below lo w ((((W.setCell ⟨B, 0, none⟩ u0).setCell ⟨B, 1, none⟩ u1).setCell ⟨B, 2, none⟩ u2).setCell ⟨B, 3, none⟩ u3) :=
  (((hb.setCell (p := ⟨B, 0, none⟩) hlo _).setCell (p := ⟨B, 1, none⟩) hlo _).setCell (p := ⟨B, 2, none⟩) hlo _).setCell (p := ⟨B, 3, none⟩) hlo _

end Go.Proofs.YtldhbjmillfjgabGreatDoor

namespace Go.Proofs.YtldhbjmillfjgabGreatDoor
open Go.RowKit

/-- A round keeps all blocks from lo on that there were. -/
structure KeepUp (lo : Nat) (A B : World) : Prop where
  size : A.heap.size ≤ B.heap.size
  same : ∀ k, lo ≤ k → k < A.heap.size → B.heap[k]? = A.heap[k]?
theorem KeepUp.refl (lo : Nat) (A : World) : KeepUp lo A A := ⟨Nat.le_refl _, fun _ _ _ => rfl⟩
theorem KeepUp.trans {lo : Nat} {A B C : World} (h : KeepUp lo A B) (k : KeepUp lo B C) : KeepUp lo A C :=
  ⟨Nat.le_trans h.size k.size, fun i h1 h2 => (k.same i h1 (Nat.lt_of_lt_of_le h2 h.size)).trans (h.same i h1 h2)⟩
theorem KeepUp.setCell {lo : Nat} {A W : World} (h : KeepUp lo A W) {p : Addr} (hp : p.block < lo) (v : Value) : KeepUp lo A (W.setCell p v) :=
  h.trans ⟨by simp [World.setCell], fun k h1 _ => Below.heap_setCell W p v k (by omega)⟩
theorem KeepUp.alloc {lo : Nat} {A W : World} (h : KeepUp lo A W) (o : Obj) : KeepUp lo A (W.alloc o) :=
  h.trans ⟨by simp, fun k _ h2 => Below.heap_alloc W o k h2⟩
theorem KeepUp.drew {lo : Nat} {A W : World} (h : KeepUp lo A W) : KeepUp lo A W.drew := h.trans ⟨Nat.le_refl _, fun _ _ _ => rfl⟩
theorem KeepUp.counted {lo : Nat} {A B : World} (h : KeepUp lo A B) {a : Nat} {n1 n2 n3 n4 : Int} (ha : lo ≤ a) (hc : counted A a n1 n2 n3 n4) : counted B a n1 n2 n3 n4 := by
  have hb := h.same a ha (counted_lt hc)
  have e1 : ∀ i, B.cell? ⟨a, i, none⟩ = A.cell? ⟨a, i, none⟩ := fun i => World.cell?_of_block (w := A) (a := ⟨a, i, none⟩) hb
  have e2 : ∀ i, B.frozen? ⟨a, i, none⟩ = A.frozen? ⟨a, i, none⟩ := fun i => World.frozen?_of_block (w := A) (a := ⟨a, i, none⟩) hb
  unfold Go.Proofs.YtldhbjmillfjgabGreatDoor.counted
  rw [e1, e1, e1, e1, e2, e2, e2, e2]
  exact hc
theorem KeepUp.cell {lo : Nat} {A B : World} (h : KeepUp lo A B) {a i : Nat} {v : Value} (ha : lo ≤ a) (hc : A.cell? ⟨a, i, none⟩ = some v) : B.cell? ⟨a, i, none⟩ = some v := by
  have hb := h.same a ha (World.block_lt_of_cell? A _ hc)
  exact (World.cell?_of_block (w := A) (a := ⟨a, i, none⟩) hb).trans hc

attribute [local go_sem] Oper.semAt_some

end Go.Proofs.YtldhbjmillfjgabGreatDoor

namespace Go.Proofs.YtldhbjmillfjgabGreatDoor
open Go.RowKit
set_option linter.unusedVariables false

/-- What the first i runes count. -/
def edge1 (rs : List Nat) (i : Nat) : Int := (encs (rs.take i)).length
def edge2 (rs : List Nat) (i : Nat) : Int := (halRow (rs.take i)).length
def edge4 (rs : List Nat) (i : Nat) : Int := Lib.countByte (encs (rs.take i)) 10
def edge (rs : List Nat) (i : Nat) : List Value := [.int .i64 (edge1 rs i), .int .i64 (edge2 rs i), .int .i64 i, .int .i64 (edge4 rs i)]
def edges (rs : List Nat) (m : Nat) : List Value := (List.range m).flatMap (edge rs)
theorem edges_succ (rs : List Nat) (m : Nat) : edges rs (m + 1) = edges rs m ++ edge rs m := by simp [edges, List.range_succ]

theorem info36 : (Tryz.prog.info? 25).map (fun i => (i.zero, i.size, i.bytes)) = some (some (.agg #[.int .i64 0, .int .i64 0, .int .i64 0, .int .i64 0]), 4, 32) := by kernel_rfl
theorem take_extract (s : ByteArray) (k : Nat) : (s.extract 0 k).data.toList = s.data.toList.take k := by
  rw [Lib.extract_data, List.drop_zero, Nat.sub_zero]

/-- What Count tells of the first runes. -/
theorem count_take (s : ByteArray) (hs : s.size < 100000000) (rs : List Nat) (he : encs rs = s.data.toList) (hr : ∀ r ∈ rs, isRune r) (i : Nat) (hi : i ≤ rs.length) (w : World) :
    Calls Tryz.prog 8 #[.string (s.extract 0 (encs (rs.take i)).length)] w fun e w' => e = .returned (.tuple #[.agg #[.int .i64 (edge1 rs i), .int .i64 (edge2 rs i), .int .i64 i, .int .i64 (edge4 rs i)], .agg #[.int .i64 0, .int .i64 (-1)]]) ∧ Below w.heap.size w w' := by
  have hl : (s.extract 0 (encs (rs.take i)).length).data.toList = encs (rs.take i) := by
    rw [take_extract, ← he]
    have e : encs rs = encs (rs.take i) ++ encs (rs.drop i) := by rw [← encs_append, List.take_append_drop]
    rw [e, List.take_left]
  have hri : ∀ r ∈ rs.take i, isRune r := fun r h => hr r (List.mem_of_mem_take h)
  have hsc := scan_encs (rs.take i) hri
  have hro : runesOf (encs (rs.take i)) = rs.take i := by
    unfold runesOf
    rw [hsc]
    simp [wide, List.map_map, Function.comp_def]
  have hsz : (s.extract 0 (encs (rs.take i)).length).size = (encs (rs.take i)).length := by rw [Lib.size_eq, hl]
  have hlt : (s.extract 0 (encs (rs.take i)).length).size < 100000000 := by rw [ByteArray.size_extract]; omega
  refine (refCount_good _ hlt w (by rw [hl, hsc])).mono ?_
  rintro e w' ⟨hb, rfl⟩
  refine ⟨?_, hb⟩
  rw [hsz, hl, hro, List.length_take, Nat.min_eq_left hi]
  rfl

set_option maxRecDepth 100000 in
set_option maxHeartbeats 4000000 in
theorem refEdges_any (s : ByteArray) (hs : s.size < 100000000) (w : World) (hok : (scan s.data.toList).2 = true) :
    Calls Tryz.prog 118 #[.string s] w fun e w' => ∃ v, e = .returned v ∧ w'.ownsRow w.heap.size 25 4 v ((runesOf s.data.toList).length + 1) (edges (runesOf s.data.toList) ((runesOf s.data.toList).length + 1)) ∧ Below w.heap.size w w' := by
  have hru : ∀ r ∈ runesOf s.data.toList, isRune r := fun r h => runesOf_rune h
  have he := encs_runesOf hok
  have hrl : (runesOf s.data.toList).length < 100000000 := by
    have := scan_len s.data.toList
    rw [← Lib.size_eq] at this
    unfold runesOf
    rw [List.length_map]
    omega
  have cR : ∀ w, Calls Tryz.prog 56 #[.string s] w fun e w' => Below w.heap.size w w' ∧ ∃ p c, e = .returned (.tuple #[.slice p (runesOf s.data.toList).length c, .agg #[.int .i64 0, .int .i64 (-1)]]) ∧ reads w' .i32 (.slice p (runesOf s.data.toList).length c) (toI (runesOf s.data.toList)) := fun w => by
    refine (refRunes_any s hs w).mono ?_
    rintro e w' ⟨hb, ⟨_, v, rfl, p, c, rfl, hown⟩ | ⟨h, _⟩⟩
    · have e1 : cellsOf21 (scan s.data.toList).1 = (toI (runesOf s.data.toList)).map (Value.int .i32) := by rw [scan_wide, cells21_toI]
      have e2 : (cellsOf21 (scan s.data.toList).1).length = (toI (runesOf s.data.toList)).length := by rw [e1, List.length_map]
      have e3 : (toI (runesOf s.data.toList)).length = (runesOf s.data.toList).length := by simp [toI]
      rw [e2] at hown
      rw [e2, ← e3]
      exact ⟨hb, p, c, rfl, reads_own e1 hown⟩
    · rw [hok] at h; cases h
  clear hok
  generalize runesOf s.data.toList = rs at *
  have hel : ∀ i, (encs (rs.take i)).length ≤ s.size := fun i => by
    have e : encs rs = encs (rs.take i) ++ encs (rs.drop i) := by rw [← encs_append, List.take_append_drop]
    have := congrArg List.length (he.symm.trans e)
    rw [List.length_append, ← Lib.size_eq] at this
    omega
  have HC : Hid (∀ i, i ≤ rs.length → ∀ w, _) := fun i hi w => count_take s hs rs he hru i hi w
  have HEL : Hid _ := hel
  have HRU : Hid (∀ r ∈ rs, isRune r) := hru
  obtain ⟨n, hn⟩ : ∃ n, n = rs.length := ⟨_, rfl⟩
  rw [← hn] at cR hrl ⊢
  have HN : Hid (n = rs.length) := hn
  clear hru hn he hel
  obtain ⟨i0, hi, hz0, hz1, hz2⟩ := info_parts info36
  go_enter Tryz.func118, Tryz.ntmps118
  go_wp2_with (first | (go_at_call 56; refine (cR _).mono ?_; rintro e w1 ⟨hb1, p, c, rfl, hrd⟩; have HRD : Hid (reads w1 .i32 (.slice p n c) (toI rs)) := hrd; clear hrd) | fail)
  go_loopw [5, 6, 20] (fun b t i wr => ∃ (k : Nat), k ≤ n ∧ i = .int .i64 k ∧ t = .int .i64 (edge1 rs k) ∧ wr.ownsRow w1.heap.size 25 4 b (k + 1) (edges rs (k + 1)) ∧ Below w1.heap.size w1 wr) (fun _ _ i _ => n - (intOf i).toNat)
  case atStart =>
    refine ⟨0, Nat.zero_le _, rfl, rfl, ⟨by simp [edges, edge], .inr ⟨w1.heap.size + 1, 1, #[.int .i64 0, .int .i64 0, .int .i64 0, .int .i64 0], rfl, Nat.le_succ _, by rw [← World.size_alloc w1 _]; exact World.alloc_heap_new (w1.alloc _) _, Nat.le_refl _, by unfold maxLen; omega, rfl, rfl⟩⟩, ((Below.refl _ w1).alloc (Nat.le_refl _) _).alloc (by rw [World.size_alloc]; exact Nat.le_succ _) _⟩
  case round =>
    obtain ⟨k, hk, rfl, rfl, hown, hwr⟩ := hrel
    by_cases hlt : k < n
    · have hkr : k < rs.length := by rw [← HN.out]; exact hlt
      have hrd := reads_below HRD.out hwr (Nat.le_refl _)
      obtain ⟨p', c', hpc, a1, a2, a3⟩ := hrd
      have hne : toI rs ≠ [] := by
        intro e
        have := congrArg List.length e
        simp [toI] at this
        rw [this] at hkr
        exact absurd hkr (Nat.not_lt_zero _)
      obtain ⟨b, o, hp, hbw, hcell⟩ := a3 hne
      have hlen : (toI rs).length = rs.length := by simp [toI]
      have hc := hcell k (by rw [hlen]; exact hkr)
      have hze : (toI rs).getD k 0 = (rs[k] : Int) := by
        rw [List.getD_eq_getElem?_getD, toI, List.getElem?_map, List.getElem?_eq_getElem hkr]; rfl
      rw [hze] at hc
      obtain ⟨hp1, hp2, hp3⟩ := Value.slice.inj hpc
      clear hp2
      subst hp3
      subst hp1
      subst hp
      have hr := HRU.out rs[k] (List.getElem_mem _)
      have hts : rs.take (k + 1) = rs.take k ++ [rs[k]] := List.take_succ_eq_append_getElem hkr
      have h1 : (encs (rs.take (k + 1))).length = (encs (rs.take k)).length + (⟨(enc rs[k]).toArray⟩ : ByteArray).size := by
        rw [hts, encs_append, List.length_append, Lib.size_eq]
        simp [encs]
      have hE : (encs (rs.take (k + 1))).length ≤ s.size := HEL.out (k + 1)
      have cB := Bytes_any rs[k] hr
      have cC := HC.out (k + 1) hkr
      have hes : edges rs (k + 1 + 1) = edges rs (k + 1) ++ edge rs (k + 1) := edges_succ rs (k + 1)
      unfold edge at hes
      have hE1 : Hid (edge1 rs (k + 1) = ((encs (rs.take (k + 1))).length : Int)) := rfl
      have hE0 : edge1 rs k = ((encs (rs.take k)).length : Int) := rfl
      rw [hE1.out] at cC hes
      rw [hE0]
      clear hE0 a1 a2 a3 hcell hne hze hts hr hlen hpc
      generalize (⟨(enc rs[k]).toArray⟩ : ByteArray) = u at cB h1
      generalize (rs[k] : Int) = z at cB hc
      clear hkr
      generalize (encs (rs.take (k + 1))).length = N1 at *
      generalize (encs (rs.take k)).length = N0 at *
      generalize edge2 rs (k + 1) = A2 at *
      generalize edge4 rs (k + 1) = A4 at *
      have hE2 : N0 + u.size ≤ s.size := by omega
      have cC2 : ∀ w, Calls Tryz.prog 8 #[.string (s.extract 0 (N0 + u.size))] w fun e w' => e = .returned (.tuple #[.agg #[.int .i64 (N1 : Int), .int .i64 A2, .int .i64 ((k + 1 : Nat) : Int), .int .i64 A4], .agg #[.int .i64 0, .int .i64 (-1)]]) ∧ Below w.heap.size w w' := by
        rw [← h1]; exact cC
      have H1 : Hid (N1 = N0 + u.size) := h1
      clear cC h1 hE
      have hw1 := hwr.size
      have NX : Hid (∀ w0 w2 v' o, Below wr.heap.size wr w0 → w2.ownsRow w1.heap.size 25 4 v' (k + 1 + 1) (edges rs (k + 1) ++ [.int .i64 N1, .int .i64 A2, .int .i64 ((k + 1 : Nat) : Int), .int .i64 A4]) → (w0.alloc o).grownBy w2 (u5).ownBlock →
          w2.ownsRow w1.heap.size 25 4 v' (k + 1 + 1) (edges rs (k + 1 + 1)) ∧ Below w1.heap.size w1 w2) := by
        intro w0 w2 v' o hb0 h3 hg
        have hB : Below w1.heap.size wr w2 := ((hb0.mono hw1).alloc (Nat.le_trans hw1 hb0.size) o).grown hg (by rw [World.size_alloc]; have := hb0.size; omega) fun k hk => (hown.lt k hk).1
        exact ⟨by rw [hes]; exact h3, hwr.trans hB⟩
      obtain ⟨pb, cb, rfl⟩ := own_slice hown
      clear hes
      generalize edges rs (k + 1) = xs at hown NX
      go_wp2_with (first | (go_at_call 156; refine (cB _).mono ?_; rintro e w2 ⟨rfl, hb2⟩) | (go_at_call 8; refine (cC2 _).mono ?_; rintro e w3 ⟨rfl, hb3⟩; have HBB : Below wr.heap.size wr w3 := hb2.trans (hb3.mono hb2.size)) | (at_builtin; refine wpList_append_own _ rfl _ _ 202 rfl w1.heap.size 25 i0 (.agg #[.int .i64 0, .int .i64 0, .int .i64 0, .int .i64 0]) 4 32 Tryz.underlying202 hi hz0 hz1 hz2 rfl (by decide) _ (k + 1) xs rfl ((((own_below hown HBB).alloc _).alloc _).alloc _) _ 1 1 [.int .i64 N1, .int .i64 A2, .int .i64 ((k : Int) + 1), .int .i64 A4] rfl rfl ?c1 ?c2 ?c3 ?c4 ?c5 ?_) | fail)
      case c1 =>
        intro j u hj
        match j, hj with
        | 0, hj => simp at hj; subst hj; simp [Addr.add, go_sem]
        | 1, hj => simp at hj; subst hj; simp [Addr.add, go_sem]
        | 2, hj => simp at hj; subst hj; simp [Addr.add, go_sem]
        | 3, hj => simp at hj; subst hj; simp [Addr.add, go_sem]
      case c2 => simp [Value.oneCell']
      case c3 => unfold maxLen; omega
      case c4 => omega
      case c5 =>
        have := HBB.size
        simp
        omega
      intro v' w4 hown4 hg _
      have hR := NX.out ((w3.alloc _).alloc _) w4 v' _ (HBB.alloc HBB.size _ |>.alloc (by rw [World.size_alloc]; have := HBB.size; omega) _) hown4 hg
      obtain ⟨R1, R2⟩ := hR
      obtain ⟨p9, c9, hv⟩ := own_slice hown4
      clear hown4 hg hown hi hz0 hz1 hz2 hc cB cC2 HBB hb2 hb3
      rw [hv] at R1 ⊢
      go_wp2
      go_roundw
      case rel => exact ⟨k + 1, by omega, by go_num, by rw [hE1.out, H1.out]; go_num, R1, R2⟩
      case measure => simp [intOf]; omega
    · have hkn : k = n := by omega
      subst hkn
      obtain ⟨pb, cb, rfl⟩ := own_slice hown
      have HO : Hid _ := hown
      clear hown
      go_wp2
      go_ret
      exact ⟨_, rfl, own_mono HO.out hb1.size, hb1.trans (hwr.mono hb1.size)⟩
end Go.Proofs.YtldhbjmillfjgabGreatDoor

namespace Go.Proofs.YtldhbjmillfjgabGreatDoor
open Go.RowKit

theorem edges_len (rs : List Nat) (m : Nat) : (edges rs m).length = m * 4 := by
  induction m with
  | zero => rfl
  | succ m ih => rw [edges_succ, List.length_append, ih]; simp [edge]; omega
theorem edges_get (rs : List Nat) (m i j : Nat) (hi : i < m) (hj : j < 4) : (edges rs m)[i * 4 + j]? = (edge rs i)[j]? := by
  induction m with
  | zero => omega
  | succ m ih =>
    rw [edges_succ]
    by_cases h : i < m
    · rw [List.getElem?_append_left (by rw [edges_len]; omega)]
      exact ih h
    · have : i = m := by omega
      subst this
      rw [List.getElem?_append_right (by rw [edges_len]; omega), edges_len]
      congr 1
      omega

/-- The cells of an edge in memory. -/
theorem edge_cell {w : World} {B m g c : Nat} {rs : List Nat} (h : w.ownsRow B 25 4 (.slice (some ⟨g, 0, none⟩) m c) m (edges rs m)) (i j : Nat) (hi : i < m) (hj : j < 4) {v : Value} (hv : (edge rs i)[j]? = some v) :
    w.cell? ⟨g, i * 4 + j, none⟩ = some v := by
  obtain ⟨h0, hrow⟩ := h
  rcases hrow with ⟨h1, h2⟩ | ⟨g', cap, cur, h1, h2, h3, h4, h5, h6, h7⟩
  · omega
  · cases h1
    have hlt : i * 4 + j < m * 4 := by omega
    have hc : cur[i * 4 + j]? = some v := by
      rw [← Array.getElem?_toList]
      have := congrArg (·[i * 4 + j]?) h7
      simp only [List.getElem?_take, hlt, if_true] at this
      rw [this, edges_get rs m i j hi hj, hv]
    unfold World.cell?
    simp [h3, hc]

theorem own_pos {w : World} {B e size n : Nat} {v : Value} {xs : List Value} (h : w.ownsRow B e size v n xs) (hn : 0 < n) : ∃ g c, v = .slice (some ⟨g, 0, none⟩) n c ∧ B ≤ g ∧ g < w.heap.size := by
  rcases h.2 with ⟨_, h2⟩ | ⟨g, cap, cur, h1, h2, h3, _⟩
  · omega
  · exact ⟨g, cap, h1, h2, (Array.getElem?_eq_some_iff.1 h3).1⟩

end Go.Proofs.YtldhbjmillfjgabGreatDoor

namespace Go.Proofs.YtldhbjmillfjgabGreatDoor
open Go.RowKit
set_option linter.unusedVariables false
attribute [local go_sem] Oper.semAt_some yieldsUpon okUpon

/-- What some runes count, as a value. -/
def cntV (rs : List Nat) : Value := .agg #[.int .i64 (C1 rs), .int .i64 (C2 rs), .int .i64 (C3 rs), .int .i64 (C4 rs)]

/-- The least beginning, with one rune at least behind pre, that is enough. -/
def seek (f : List Nat → Bool) : List Nat → List Nat → Option (List Nat)
  | _, [] => none
  | pre, r :: rs => if f (pre ++ [r]) then some (pre ++ [r]) else seek f (pre ++ [r]) rs
end Go.Proofs.YtldhbjmillfjgabGreatDoor

namespace Go.Proofs.YtldhbjmillfjgabGreatDoor
open Go.RowKit
set_option linter.unusedVariables false
attribute [local go_sem] Oper.semAt_some yieldsUpon okUpon

theorem field0 (a b c d : Int) (w : World) : (Instr.field 25 (.agg #[.int .i64 a, .int .i64 b, .int .i64 c, .int .i64 d]) 0).run Tryz.prog w = .ok (.int .i64 a) w := by kernel_rfl
theorem field3 (a b c d : Int) (w : World) : (Instr.field 25 (.agg #[.int .i64 a, .int .i64 b, .int .i64 c, .int .i64 d]) 3).run Tryz.prog w = .ok (.int .i64 d) w := by kernel_rfl
attribute [local go_sem] field0 field3

end Go.Proofs.YtldhbjmillfjgabGreatDoor

namespace Go.Proofs.YtldhbjmillfjgabGreatDoor
open Go.RowKit
set_option linter.unusedVariables false
attribute [local go_sem] Oper.semAt_some yieldsUpon okUpon

/-- The least beginning, of pre or more, that is enough; all, if none is. -/
def find (f : List Nat → Bool) (pre rs : List Nat) : List Nat := if f pre then pre else (seek f pre rs).getD (pre ++ rs)
end Go.Proofs.YtldhbjmillfjgabGreatDoor

namespace Go.Proofs.YtldhbjmillfjgabGreatDoor
open Go.RowKit
set_option linter.unusedVariables false
attribute [local go_sem] Oper.semAt_some yieldsUpon okUpon field0 field3

/-- How many of a unit. -/
def by_ (u : Int) (rs : List Nat) : Int := if u = 1 then C1 rs else if u = 2 then C2 rs else if u = 3 then C3 rs else 0
theorem by_append (u : Int) (a b : List Nat) : by_ u (a ++ b) = by_ u a + by_ u b := by
  unfold by_
  split
  · exact C1_append a b
  · split
    · exact C2_append a b
    · split
      · exact C3_append a b
      · rfl
theorem by_pos (u : Int) (a : List Nat) : 0 ≤ by_ u a := by
  unfold by_
  split
  · exact C1_pos a
  · split
    · exact (C2_le a).1
    · split
      · exact (C3_le a).1
      · omega

def reachesBy (u at_ : Int) (rs : List Nat) : Bool := decide (at_ ≤ by_ u rs)
end Go.Proofs.YtldhbjmillfjgabGreatDoor

namespace Go.Proofs.YtldhbjmillfjgabGreatDoor
open Go.RowKit
set_option linter.unusedVariables false
attribute [local go_sem] Oper.semAt_some

theorem find_zero (u : Int) (rs : List Nat) : find (reachesBy u 0) [] rs = [] := by
  unfold find
  have : reachesBy u 0 [] = true := decide_eq_true (by_pos u [])
  rw [if_pos this]
theorem by_nil (u : Int) : by_ u [] = 0 := by
  unfold by_
  split
  · rfl
  · split
    · rfl
    · split <;> rfl
end Go.Proofs.YtldhbjmillfjgabGreatDoor

namespace Go.Proofs.YtldhbjmillfjgabGreatDoor

/-- A part of an operation. -/
structure Pt where
  keep : Int
  drop : Int
  put : List UInt8
deriving DecidableEq

/-- What a gathering keeps: what it told, what is put and dropped since. -/
structure NSt where
  out : List Pt
  put : List UInt8
  drop : Int
deriving DecidableEq

def tellP (s : NSt) : List Pt := s.out ++ ((if s.put = [] then [] else [⟨0, 0, s.put⟩]) ++ (if s.drop = 0 then [] else [⟨0, s.drop, []⟩]))
def pushKeep (l : List Pt) (k : Int) : List Pt := match l.getLast? with
  | some p => if 0 < p.keep then l.dropLast ++ [⟨p.keep + k, p.drop, p.put⟩] else l ++ [⟨k, 0, []⟩]
  | none => l ++ [⟨k, 0, []⟩]
def addP (s : NSt) (p : Pt) : NSt := if p.keep = 0 then ⟨s.out, s.put ++ p.put, s.drop + p.drop⟩ else ⟨pushKeep (tellP ⟨s.out, s.put ++ p.put, s.drop + p.drop⟩) p.keep, [], 0⟩
theorem tellP_done (l : List Pt) : tellP ⟨l, [], 0⟩ = l := by simp [tellP]
def lenP (p : Pt) : Int := p.keep + p.drop
/-- What the document's own gathering keeps. -/
structure KSt where
  out : List Pt
  put : List UInt8
  drop : Int
  keep : Int
deriving DecidableEq
/-- What is put at a gap, or that a byte behind it is dropped: what was kept is told. -/
def flushK (s : KSt) (q : List UInt8) (d : Bool) : KSt := if q ≠ [] ∨ d = true then ⟨if 0 < s.keep then s.out ++ [⟨s.keep, 0, []⟩] else s.out, s.put ++ q, s.drop, if 0 < s.keep then 0 else s.keep⟩ else s
def byteK (s : KSt) (d : Bool) : KSt := if d then ⟨s.out, s.put, s.drop + 1, s.keep⟩ else ⟨tellP ⟨s.out, s.put, s.drop⟩, [], 0, s.keep + 1⟩
def stepK (s : KSt) (x : List UInt8 × Bool) : KSt := byteK (flushK s x.1 x.2) x.2
end Go.Proofs.YtldhbjmillfjgabGreatDoor

namespace Go.Proofs.YtldhbjmillfjgabGreatDoor
open Go.RowKit
set_option linter.unusedVariables false

/-- A part's cells, an operation's cells. -/
def partCells (p : Pt) : List Value := [.int .i64 p.keep, .int .i64 p.drop, .string ⟨p.put.toArray⟩]
def cellsP (l : List Pt) : List Value := l.flatMap partCells
theorem cellsP_snoc (l : List Pt) (p : Pt) : cellsP (l ++ [p]) = cellsP l ++ partCells p := by simp [cellsP]
theorem partCells_one (p : Pt) : ∀ u ∈ partCells p, u.oneCell' = true := by
  intro u hu
  simp only [partCells, List.mem_cons, List.not_mem_nil, or_false] at hu
  rcases hu with rfl | rfl | rfl <;> rfl
theorem cells_new (w : World) (l : List Value) (t : TypeId) : ∀ j u, l[j]? = some u → (w.alloc (.cells l.toArray t)).cell? ((⟨w.heap.size, 0, none⟩ : Addr).add j) = some u := by
  intro j u hj
  obtain ⟨hl, rfl⟩ := List.getElem?_eq_some_iff.1 hj
  rw [Addr.add_lit, Nat.zero_add]
  simp

theorem info_part : (Tryz.prog.info? 50).map (fun i => (i.zero, i.size, i.bytes)) = some (some (.agg #[.int .i64 0, .int .i64 0, .string ⟨#[]⟩]), 3, 32) := by kernel_rfl
theorem info_u8 : (Tryz.prog.info? 5).map (fun i => (i.zero, i.size, i.bytes)) = some (some (.int .u8 0), 1, 1) := by kernel_rfl

/-- Two rows of cells of different types are different rows. -/
theorem own_ne {w : World} {B B' e e' size size' n n' : Nat} {v v' : Value} {xs xs' : List Value} (h : w.ownsRow B e size v n xs) (h' : w.ownsRow B' e' size' v' n' xs') (hne : e ≠ e') : v.ownBlock = none ∨ v.ownBlock ≠ v'.ownBlock := by
  rcases h.2 with ⟨rfl, _⟩ | ⟨g, cap, cur, rfl, _, hg, _⟩
  · exact .inl rfl
  · rcases h'.2 with ⟨rfl, _⟩ | ⟨g', cap', cur', rfl, _, hg', _⟩
    · exact .inr (by simp [Value.ownBlock])
    · refine .inr fun e => ?_
      simp only [Value.ownBlock, Option.some.injEq] at e
      subst e
      rw [hg] at hg'
      simp only [Option.some.injEq, Obj.cells.injEq] at hg'
      exact hne hg'.2.1

/-- The variables of a gathering: op in block a, put, drop and tell behind it; what op and put hold lies at M or behind it. -/
structure gath (M : Nat) (w : World) (a : Nat) (s : NSt) : Prop where
  out : ∃ p c, w.cell? ⟨a, 0, none⟩ = some (.slice p s.out.length c) ∧ w.ownsRow M 50 3 (.slice p s.out.length c) s.out.length (cellsP s.out)
  outF : w.frozen? ⟨a, 0, none⟩ = false
  put : ∃ p c, w.cell? ⟨a + 1, 0, none⟩ = some (.slice p s.put.length c) ∧ w.ownsRow M 5 1 (.slice p s.put.length c) s.put.length (Lib.byteCells s.put)
  putF : w.frozen? ⟨a + 1, 0, none⟩ = false
  drop : w.cell? ⟨a + 2, 0, none⟩ = some (.int .i64 s.drop)
  dropF : w.frozen? ⟨a + 2, 0, none⟩ = false
  tell : w.cell? ⟨a + 3, 0, none⟩ = some (.func (.func 197) #[] #[.pointer (some ⟨a + 1, 0, none⟩), .pointer (some ⟨a, 0, none⟩), .pointer (some ⟨a + 2, 0, none⟩)])
  le : a + 4 ≤ M
  top : M ≤ w.heap.size

/-- Every block but a, a + 1, a + 2 that is no row of bytes or of parts, at M or behind it, stands. -/
def KeptG (M a : Nat) (w w' : World) : Prop := ∀ k o, w.heap[k]? = some o → k ≠ a → k ≠ a + 1 → k ≠ a + 2 → (∀ c fz, M ≤ k → o ≠ .cells c 5 fz) → (∀ c fz, M ≤ k → o ≠ .cells c 50 fz) → w'.heap[k]? = some o
structure BelowG (M a : Nat) (w w' : World) : Prop where
  below : Below a w w'
  kept : KeptG M a w w'
theorem heap_lt {w : World} {k : Nat} {o : Obj} (h : w.heap[k]? = some o) : k < w.heap.size := by
  rcases Nat.lt_or_ge k w.heap.size with h' | h'
  · exact h'
  · rw [Array.getElem?_eq_none h'] at h; cases h
theorem KeptG.refl (M a : Nat) (w : World) : KeptG M a w w := fun _ _ h _ _ _ _ _ => h
theorem KeptG.trans {M : Nat} {a : Nat} {x y z : World} (h : KeptG M a x y) (k : KeptG M a y z) : KeptG M a x z := fun i o hi h1 h2 h3 h4 h5 => k i o (h i o hi h1 h2 h3 h4 h5) h1 h2 h3 h4 h5
theorem KeptG.of {M : Nat} {a : Nat} {w w' : World} (h : Below w.heap.size w w') : KeptG M a w w' := fun k o hk _ _ _ _ _ => (h.block k (heap_lt hk)).trans hk
theorem KeptG.alloc {M : Nat} {a : Nat} {w w' : World} (h : KeptG M a w w') (o : Obj) : KeptG M a w (w'.alloc o) := h.trans fun k o' hk _ _ _ _ _ => (heap_alloc_old w' o (heap_lt hk)).trans hk
theorem KeptG.set {M : Nat} {a : Nat} {w w' : World} (h : KeptG M a w w') {b : Nat} (hb : b = a ∨ b = a + 1 ∨ b = a + 2) (v : Value) : KeptG M a w (w'.setCell ⟨b, 0, none⟩ v) :=
  h.trans fun k o' hk h1 h2 h3 _ _ => (Below.heap_setCell _ _ _ _ (by show k ≠ b; omega)).trans hk
theorem KeptG.grown {M : Nat} {a e size n : Nat} {v : Value} {xs : List Value} {w w1 w2 : World} (h : KeptG M a w w1) (hr : w1.ownsRow M e size v n xs) (he : e = 5 ∨ e = 50) (hg : w1.grownBy w2 v.ownBlock) : KeptG M a w w2 := by
  refine h.trans fun k o hk _ _ _ h4 h5 => ?_
  refine (hg.block k (heap_lt hk) ?_).trans hk
  intro e'
  obtain ⟨_, hrow⟩ := hr
  rcases hrow with ⟨hx, _⟩ | ⟨g, cap, cur, rfl, hge, hgg, _⟩
  · rw [hx] at e'; cases e'
  · have e2 : some k = some g := e'
    obtain rfl := Option.some.inj e2
    rw [hk] at hgg
    rcases he with rfl | rfl
    · exact h4 _ _ hge (Option.some.inj hgg)
    · exact h5 _ _ hge (Option.some.inj hgg)
theorem BelowG.size {M : Nat} {a : Nat} {w w' : World} (h : BelowG M a w w') : w.heap.size ≤ w'.heap.size := h.below.size
theorem BelowG.refl {M : Nat} (a : Nat) (w : World) : BelowG M a w w := ⟨.refl a w, .refl M a w⟩
theorem BelowG.trans {M : Nat} {a : Nat} {x y z : World} (h : BelowG M a x y) (k : BelowG M a y z) : BelowG M a x z := ⟨h.below.trans k.below, h.kept.trans k.kept⟩
theorem BelowG.of {M : Nat} {a : Nat} {w w' : World} (h : Below w.heap.size w w') (ha : a ≤ w.heap.size) : BelowG M a w w' := ⟨h.mono ha, .of h⟩
theorem BelowG.drew {M : Nat} {a : Nat} {w w' : World} (h : BelowG M a w w') : BelowG M a w w'.drew := ⟨h.below.drew, h.kept⟩

theorem gath_lt {M : Nat} {w : World} {a : Nat} {s : NSt} (h : gath M w a s) : a + 3 < w.heap.size := World.block_lt_of_cell? w _ h.tell

theorem gath_below {M : Nat} {w w' : World} {a : Nat} {s : NSt} (h : gath M w a s) (hb : Below w.heap.size w w') : gath M w' a s := by
  have hM := h.le
  have hT := h.top
  have hlt := gath_lt h
  obtain ⟨⟨p, c, h1, h2⟩, h3, ⟨p', c', h4, h5⟩, h6, h7, h8, h9⟩ := h
  exact ⟨⟨p, c, (hb.cell (p := ⟨a, 0, none⟩) (by show a < _; omega)).trans h1, own_below h2 hb⟩, (hb.frozen (p := ⟨a, 0, none⟩) (by show a < _; omega)).trans h3,
    ⟨p', c', (hb.cell (p := ⟨a + 1, 0, none⟩) (by show a + 1 < _; omega)).trans h4, own_below h5 hb⟩, (hb.frozen (p := ⟨a + 1, 0, none⟩) (by show a + 1 < _; omega)).trans h6,
    (hb.cell (p := ⟨a + 2, 0, none⟩) (by show a + 2 < _; omega)).trans h7, (hb.frozen (p := ⟨a + 2, 0, none⟩) (by show a + 2 < _; omega)).trans h8, (hb.cell (p := ⟨a + 3, 0, none⟩) (by show a + 3 < _; omega)).trans h9, hM, Nat.le_trans hT hb.size⟩

/-- A row beside a box that is written. -/
theorem own_set {w : World} {B e size n b : Nat} {v : Value} {xs : List Value} (h : w.ownsRow B e size v n xs) (hb : b < B) (u : Value) : (w.setCell ⟨b, 0, none⟩ u).ownsRow B e size v n xs := by
  obtain ⟨h0, hrow⟩ := h
  refine ⟨h0, ?_⟩
  rcases hrow with hn | ⟨g, cap, cur, rfl, hg, hgg, rest⟩
  · exact .inl hn
  · exact .inr ⟨g, cap, cur, rfl, hg, (Below.heap_setCell _ _ _ _ (by show g ≠ b; omega)).trans hgg, rest⟩

theorem cell_set_ne {w : World} {b b' o : Nat} (h : b' ≠ b) (u : Value) : (w.setCell ⟨b, 0, none⟩ u).cell? ⟨b', o, none⟩ = w.cell? ⟨b', o, none⟩ := by
  unfold World.cell?
  rw [Below.heap_setCell _ _ _ _ (by show b' ≠ b; exact h)]

/-- A block behind the variables that is not the row of op's. -/
def spare (w : World) (a b : Nat) : Prop := b < w.heap.size ∧ a + 3 < b ∧ ∀ v, w.cell? ⟨a, 0, none⟩ = some v → v.ownBlock ≠ some b

/-- Behind an append to put, and its store. -/
theorem gath_puts {M : Nat} {w w1 : World} {a : Nat} {s : NSt} {p : Option Addr} {c : Nat} {v' : Value} {q : List UInt8} (h : gath M w a s) (hc : w.cell? ⟨a + 1, 0, none⟩ = some (.slice p s.put.length c))
    (hown1 : w1.ownsRow M 5 1 v' (s.put.length + q.length) (Lib.byteCells s.put ++ Lib.byteCells q)) (hg : w.grownBy w1 (Value.slice p s.put.length c).ownBlock) :
    gath M (w1.setCell ⟨a + 1, 0, none⟩ v') a ⟨s.out, s.put ++ q, s.drop⟩ ∧ BelowG M a w (w1.setCell ⟨a + 1, 0, none⟩ v') ∧ w1.cell? ⟨a + 1, 0, none⟩ = some (.slice p s.put.length c) ∧ w1.frozen? ⟨a + 1, 0, none⟩ = false := by
  have hM := h.le
  have hT := h.top
  have hlt := gath_lt h
  obtain ⟨⟨p', c', h4, h5⟩, h6, ⟨p1, c1, h1, h2⟩, h3, h7, h8, h9⟩ := h
  rw [hc] at h1
  simp only [Option.some.injEq, Value.slice.injEq, true_and] at h1
  obtain ⟨rfl, rfl⟩ := h1
  have hrow : ∀ k, (Value.slice p s.put.length c).ownBlock = some k → a + 4 ≤ k := fun k hk => Nat.le_trans hM (h2.lt k hk).1
  have hb1 : Below (a + 4) w w1 := (Below.refl (a + 4) w).grown hg (by omega) hrow
  have hc1 : w1.cell? ⟨a + 1, 0, none⟩ = some (.slice p s.put.length c) := by rw [hb1.cell (p := ⟨a + 1, 0, none⟩) (by show a + 1 < _; omega)]; exact hc
  have hf1 : w1.frozen? ⟨a + 1, 0, none⟩ = false := by rw [hb1.frozen (p := ⟨a + 1, 0, none⟩) (by show a + 1 < _; omega)]; exact h3
  have h5' := h5.kept hg (own_ne h5 h2 (by decide))
  obtain ⟨pv, cv, rfl⟩ := own_slice hown1
  refine ⟨⟨⟨p', c', ?_, ?_⟩, ?_, ⟨pv, cv, ?_, ?_⟩, ?_, ?_, ?_, ?_, hM, (by have := hb1.size; simp; omega)⟩, ⟨(hb1.mono (show a ≤ a + 4 by omega)).setCell (by show a ≤ a + 1; omega) _, ((KeptG.refl M a w).grown h2 (.inl rfl) hg).set (.inr (.inl rfl)) _⟩, hc1, hf1⟩
  · rw [cell_set_ne (by omega)]; exact (hb1.cell (p := ⟨a, 0, none⟩) (by show a < _; omega)).trans h4
  · exact own_set h5' (by omega) _
  · rw [World.frozen?_setCell]; exact (hb1.frozen (p := ⟨a, 0, none⟩) (by show a < _; omega)).trans h6
  · show _ = some (Value.slice pv (s.put ++ q).length cv)
    rw [List.length_append]; exact World.cell?_setCell_same _ _ _ hc1
  · show World.ownsRow _ _ _ _ (.slice pv (s.put ++ q).length cv) (s.put ++ q).length (Lib.byteCells (s.put ++ q))
    rw [List.length_append, Lib.byteCells_append]; exact own_set hown1 (by omega) _
  · rw [World.frozen?_setCell]; exact hf1
  · rw [cell_set_ne (by omega)]; exact (hb1.cell (p := ⟨a + 2, 0, none⟩) (by show a + 2 < _; omega)).trans h7
  · rw [World.frozen?_setCell]; exact (hb1.frozen (p := ⟨a + 2, 0, none⟩) (by show a + 2 < _; omega)).trans h8
  · rw [cell_set_ne (by omega)]; exact (hb1.cell (p := ⟨a + 3, 0, none⟩) (by show a + 3 < _; omega)).trans h9

/-- Behind a store of drop. -/
theorem gath_drop {M : Nat} {w : World} {a : Nat} {s : NSt} (h : gath M w a s) (d : Int) : gath M (w.setCell ⟨a + 2, 0, none⟩ (.int .i64 d)) a ⟨s.out, s.put, d⟩ ∧ BelowG M a w (w.setCell ⟨a + 2, 0, none⟩ (.int .i64 d)) := by
  have hM := h.le
  have hT := h.top
  have hlt := gath_lt h
  obtain ⟨⟨p, c, h1, h2⟩, h3, ⟨p', c', h4, h5⟩, h6, h7, h8, h9⟩ := h
  refine ⟨⟨⟨p, c, ?_, own_set h2 (by omega) _⟩, ?_, ⟨p', c', ?_, own_set h5 (by omega) _⟩, ?_, World.cell?_setCell_same _ _ _ h7, ?_, ?_, hM, (by simp; omega)⟩, ⟨(Below.refl a w).setCell (by show a ≤ a + 2; omega) _, (KeptG.refl M a w).set (.inr (.inr rfl)) _⟩⟩
  · rw [cell_set_ne (by omega)]; exact h1
  · rw [World.frozen?_setCell]; exact h3
  · rw [cell_set_ne (by omega)]; exact h4
  · rw [World.frozen?_setCell]; exact h6
  · rw [World.frozen?_setCell]; exact h8
  · rw [cell_set_ne (by omega)]; exact h9

end Go.Proofs.YtldhbjmillfjgabGreatDoor

namespace Go.Proofs.YtldhbjmillfjgabGreatDoor
open Go.RowKit
set_option linter.unusedVariables false

def partV (p : Pt) : Value := .agg #[.int .i64 p.keep, .int .i64 p.drop, .string ⟨p.put.toArray⟩]

theorem isKeep_any (p : Pt) (w : World) : Calls Tryz.prog 83 #[partV p] w fun e w' => e = .returned (.bool (decide (0 < p.keep))) ∧ Below w.heap.size w w' := by
  unfold partV
  go_enter Tryz.func83, Tryz.ntmps83
  go_wp2
  go_ret
  exact ⟨rfl, (Below.refl _ _).alloc (Nat.le_refl _) _⟩
theorem isDrop_any (p : Pt) (w : World) : Calls Tryz.prog 165 #[partV p] w fun e w' => e = .returned (.bool (decide (0 < p.drop))) ∧ Below w.heap.size w w' := by
  unfold partV
  go_enter Tryz.func165, Tryz.ntmps165
  go_wp2
  go_ret
  exact ⟨rfl, (Below.refl _ _).alloc (Nat.le_refl _) _⟩

set_option maxRecDepth 100000 in
set_option maxHeartbeats 2000000 in
theorem add_zero {M : Nat} (a : Nat) (s : NSt) (p : Pt) (w : World) (h : gath M w a s) (hput : s.put.length + p.put.length < 1000000000) (hd : -9223372036854775808 ≤ s.drop + p.drop) (hd' : s.drop + p.drop < 9223372036854775808) (hout : s.out.length < 100000000)
     :
    Calls Tryz.prog 198 #[(.agg #[.int .i64 0, .int .i64 p.drop, .string ⟨p.put.toArray⟩]), .pointer (some ⟨a + 1, 0, none⟩), .pointer (some ⟨a + 2, 0, none⟩), .pointer (some ⟨a + 3, 0, none⟩), .pointer (some ⟨a, 0, none⟩)] w fun e w' => (∃ v, e = .returned v) ∧ gath M w' a ⟨s.out, s.put ++ p.put, s.drop + p.drop⟩ ∧ BelowG M a w w' := by
  have hM := h.le
  have hT := h.top
  obtain ⟨i0, hi, hz0, hz1, hz2⟩ := info_parts info_part
  obtain ⟨i1, hj, hy0, hy1, hy2⟩ := info_parts info_u8
  have hlt := gath_lt h
  have hb0' : Below w.heap.size w (w.alloc (.cells #[.int .i64 0, .int .i64 p.drop, .string ⟨p.put.toArray⟩] 50)) := (Below.refl _ _).alloc (Nat.le_refl _) _
  have HG0 : Hid (gath M (w.alloc (.cells #[.int .i64 0, .int .i64 p.drop, .string ⟨p.put.toArray⟩] 50)) a s) := gath_below h hb0'
  have HB0 : Hid (BelowG M a w (w.alloc (.cells #[.int .i64 0, .int .i64 p.drop, .string ⟨p.put.toArray⟩] 50))) := .of hb0' (by omega)
  have x0 : (w.alloc (.cells #[.int .i64 0, .int .i64 p.drop, .string ⟨p.put.toArray⟩] 50)).cell? ⟨w.heap.size, 0, none⟩ = some (.int .i64 0) := by simp [go_sem]
  have x1 : (w.alloc (.cells #[.int .i64 0, .int .i64 p.drop, .string ⟨p.put.toArray⟩] 50)).cell? ⟨w.heap.size, 1, none⟩ = some (.int .i64 p.drop) := by simp [go_sem]
  obtain ⟨⟨pp, c, h1, h2⟩, h3, ⟨p', c', h4, h5⟩, h6, h7, h8, h9⟩ := h
  have HL1 : Hid (∀ k, (Value.slice pp s.out.length c).ownBlock = some k → k < w.heap.size) := fun k hk' => (h2.lt k hk').2
  have HL2 : Hid (∀ k, (Value.slice p' s.put.length c').ownBlock = some k → k < w.heap.size) := fun k hk' => (h5.lt k hk').2
  have hP : (w.alloc (.cells #[.int .i64 0, .int .i64 p.drop, .string ⟨p.put.toArray⟩] 50)).ownsRow M 5 1 (.slice p' s.put.length c') s.put.length (Lib.byteCells s.put) := h5.alloc _
  have hC : (w.alloc (.cells #[.int .i64 0, .int .i64 p.drop, .string ⟨p.put.toArray⟩] 50)).cell? ⟨a + 1, 0, none⟩ = some (.slice p' s.put.length c') := (hb0'.cell (p := ⟨a + 1, 0, none⟩) (by show a + 1 < _; omega)).trans h4
  have hC0 : (w.alloc (.cells #[.int .i64 0, .int .i64 p.drop, .string ⟨p.put.toArray⟩] 50)).cell? ⟨a, 0, none⟩ = some (.slice pp s.out.length c) := (hb0'.cell (p := ⟨a, 0, none⟩) (by show a < _; omega)).trans h1
  have hD2 : (w.alloc (.cells #[.int .i64 0, .int .i64 p.drop, .string ⟨p.put.toArray⟩] 50)).cell? ⟨a + 2, 0, none⟩ = some (.int .i64 s.drop) := (hb0'.cell (p := ⟨a + 2, 0, none⟩) (by show a + 2 < _; omega)).trans h7
  have hF2 : (w.alloc (.cells #[.int .i64 0, .int .i64 p.drop, .string ⟨p.put.toArray⟩] 50)).frozen? ⟨a + 2, 0, none⟩ = false := (hb0'.frozen (p := ⟨a + 2, 0, none⟩) (by show a + 2 < _; omega)).trans h8
  have hD3 : (w.alloc (.cells #[.int .i64 0, .int .i64 p.drop, .string ⟨p.put.toArray⟩] 50)).cell? ⟨a + 3, 0, none⟩ = some (.func (.func 197) #[] #[.pointer (some ⟨a + 1, 0, none⟩), .pointer (some ⟨a, 0, none⟩), .pointer (some ⟨a + 2, 0, none⟩)]) := (hb0'.cell (p := ⟨a + 3, 0, none⟩) (by show a + 3 < _; omega)).trans h9
  have HP : Hid ((w.alloc (.cells #[.int .i64 0, .int .i64 p.drop, .string ⟨p.put.toArray⟩] 50)).ownsRow M 5 1 (.slice p' s.put.length c') s.put.length (Lib.byteCells s.put)) := hP
  have HX : Hid (∀ w1 v1, w1.ownsRow M 5 1 v1 (s.put.length + (ByteArray.mk p.put.toArray).size) (Lib.byteCells s.put ++ Lib.strCells ⟨p.put.toArray⟩) → (w.alloc (.cells #[.int .i64 0, .int .i64 p.drop, .string ⟨p.put.toArray⟩] 50)).grownBy w1 (Value.slice p' s.put.length c').ownBlock →
      gath M ((w1.setCell ⟨a + 1, 0, none⟩ v1).setCell ⟨a + 2, 0, none⟩ (.int .i64 (s.drop + p.drop))) a ⟨s.out, s.put ++ p.put, s.drop + p.drop⟩ ∧ BelowG M a w ((w1.setCell ⟨a + 1, 0, none⟩ v1).setCell ⟨a + 2, 0, none⟩ (.int .i64 (s.drop + p.drop))) ∧
      spare ((w1.setCell ⟨a + 1, 0, none⟩ v1).setCell ⟨a + 2, 0, none⟩ (.int .i64 (s.drop + p.drop))) a w.heap.size ∧
      w1.cell? ⟨a + 1, 0, none⟩ = some (.slice p' s.put.length c') ∧ w1.frozen? ⟨a + 1, 0, none⟩ = false ∧ w1.cell? ⟨a + 2, 0, none⟩ = some (.int .i64 s.drop) ∧ w1.frozen? ⟨a + 2, 0, none⟩ = false ∧
      w1.cell? ⟨a + 3, 0, none⟩ = some (.func (.func 197) #[] #[.pointer (some ⟨a + 1, 0, none⟩), .pointer (some ⟨a, 0, none⟩), .pointer (some ⟨a + 2, 0, none⟩)]) ∧
      (∀ o, w1.cell? ⟨w.heap.size, o, none⟩ = (w.alloc (.cells #[.int .i64 0, .int .i64 p.drop, .string ⟨p.put.toArray⟩] 50)).cell? ⟨w.heap.size, o, none⟩) ∧ w.heap.size < w1.heap.size) := by
    intro w1 v1 q1 q2
    have hz : (ByteArray.mk p.put.toArray).size = p.put.length := by simp [ByteArray.size]
    rw [hz] at q1
    obtain ⟨g1, g2, g3, g4⟩ := gath_puts (q := p.put) HG0.out hC q1 q2
    obtain ⟨g5, g6⟩ := gath_drop g1 (s.drop + p.drop)
    have hlow : ∀ k, (Value.slice p' s.put.length c').ownBlock = some k → a + 4 ≤ k := fun k hk => Nat.le_trans hM (hP.lt k hk).1
    have hbb : Below (a + 4) (w.alloc (.cells #[.int .i64 0, .int .i64 p.drop, .string ⟨p.put.toArray⟩] 50)) w1 := (Below.refl _ _).grown q2 (by rw [World.size_alloc]; omega) hlow
    have hsz := q2.size
    rw [World.size_alloc] at hsz
    refine ⟨g5, HB0.out.trans (g2.trans g6), ⟨by simp; omega, hlt, ?_⟩, g3, g4, (hbb.cell (p := ⟨a + 2, 0, none⟩) (by show a + 2 < _; omega)).trans hD2, (hbb.frozen (p := ⟨a + 2, 0, none⟩) (by show a + 2 < _; omega)).trans hF2, (hbb.cell (p := ⟨a + 3, 0, none⟩) (by show a + 3 < _; omega)).trans hD3, ?_, by omega⟩
    · intro v hv
      rw [cell_set_ne (by omega), cell_set_ne (by omega), (hbb.cell (p := ⟨a, 0, none⟩) (by show a < _; omega)), hC0] at hv
      obtain rfl := Option.some.inj hv
      intro e
      have := HL1.out _ e
      omega
    · intro o
      exact World.cell?_of_block (a := ⟨w.heap.size, o, none⟩) (q2.block w.heap.size (by rw [World.size_alloc]; omega) (by intro e; have := HL2.out _ e.symm; omega))
  clear h2 h5 hP hC hC0 hD2 hF2 hD3 hb0' h1 h3 h6 h7 h8 h9
  have n0 : a + 1 < w.heap.size := by omega
  have HZ : Hid ((ByteArray.mk p.put.toArray).size = p.put.length) := by show _ = _; simp [ByteArray.size]
  have n1 : ¬ (a + 1 = w.heap.size) := by omega
  have n2 : ¬ (w.heap.size = a + 1) := by omega
  have n3 : ¬ (a + 2 = w.heap.size) := by omega
  have n4 : ¬ (w.heap.size = a + 2) := by omega
  have hwrap : IntKind.i64.wrap (s.drop + p.drop) = s.drop + p.drop := by rw [IntKind.wrap_i64]; omega

  go_enter Tryz.func198, Tryz.ntmps198
  go_wp2_with (first | (at_builtin; refine Lib.wpList_append_own_string _ rfl _ _ 130 9 rfl M 5 i1 Tryz.underlying130 Tryz.underlying9 hj hy0 hy1 hy2 _ _ _ rfl HP.out _ rfl (by rw [HZ.out]; unfold maxLen; omega) (by rw [HZ.out]; omega) (by simp; omega) ?_) | fail)
  intro v1 w1 hown1 hg1 _
  have R := HX.out w1 v1 hown1 hg1
  obtain ⟨pv, cv, rfl⟩ := own_slice hown1
  obtain ⟨G2, B2, S2, r1, r2, r3, r4, r5, r6, r7⟩ := R
  have y0 := (r6 0).trans x0
  have y1 := (r6 1).trans x1
  have HG2 : Hid _ := G2
  have HB2 : Hid _ := B2
  have HS2 : Hid _ := S2
  clear hown1 hg1 x0 x1 r6 G2 B2 S2 HX HL1 HL2 HP HG0 HB0 h4
  go_wp2
  refine bodyPost_ret (results_none rfl _ _ _) rfl ?_
  exact ⟨⟨_, rfl⟩, HG2.out, HB2.out⟩

end Go.Proofs.YtldhbjmillfjgabGreatDoor

namespace Go.Proofs.YtldhbjmillfjgabGreatDoor
open Go.RowKit
set_option linter.unusedVariables false

/-- The slice v reads as the parts ps. -/
def opAt (w : World) (v : Value) (ps : List Pt) : Prop :=
  ∃ p c, v = .slice p ps.length c ∧ ps.length ≤ c ∧ c ≤ maxLen ∧ (ps ≠ [] → ∃ b o, p = some ⟨b, o, none⟩ ∧ b < w.heap.size ∧ ∀ i q, ps[i]? = some q →
    w.cell? ⟨b, o + i * 3, none⟩ = some (.int .i64 q.keep) ∧ w.cell? ⟨b, o + i * 3 + 1, none⟩ = some (.int .i64 q.drop) ∧ w.cell? ⟨b, o + i * 3 + 2, none⟩ = some (.string ⟨q.put.toArray⟩))
theorem opAt_below {w w' : World} {v : Value} {ps : List Pt} (h : opAt w v ps) {B : Nat} (hb : Below B w w') (hB : w.heap.size ≤ B) : opAt w' v ps := by
  obtain ⟨p, c, rfl, h1, h2, h3⟩ := h
  refine ⟨p, c, rfl, h1, h2, fun hne => ?_⟩
  obtain ⟨b, o, e1, e2, e3⟩ := h3 hne
  refine ⟨b, o, e1, Nat.lt_of_lt_of_le e2 hb.size, fun i q hi => ?_⟩
  obtain ⟨f1, f2, f3⟩ := e3 i q hi
  exact ⟨(hb.cell (p := ⟨b, o + i * 3, none⟩) (Nat.lt_of_lt_of_le e2 hB)).trans f1, (hb.cell (p := ⟨b, o + i * 3 + 1, none⟩) (Nat.lt_of_lt_of_le e2 hB)).trans f2, (hb.cell (p := ⟨b, o + i * 3 + 2, none⟩) (Nat.lt_of_lt_of_le e2 hB)).trans f3⟩

theorem cellsP_get (ps : List Pt) (i : Nat) (q : Pt) (hi : ps[i]? = some q) : ∀ j, j < 3 → (cellsP ps)[i * 3 + j]? = (partCells q)[j]? := by
  induction ps generalizing i with
  | nil => simp at hi
  | cons p ps ih =>
    intro j hj
    have e : cellsP (p :: ps) = partCells p ++ cellsP ps := rfl
    have hl : (partCells p).length = 3 := rfl
    rw [e]
    cases i with
    | zero =>
      simp only [List.getElem?_cons_zero, Option.some.injEq] at hi
      subst hi
      rw [Nat.zero_mul, Nat.zero_add, List.getElem?_append_left (by rw [hl]; exact hj)]
    | succ i =>
      rw [List.getElem?_append_right (by rw [hl]; omega), hl, ← ih i (by simpa using hi) j hj]
      congr 1
      omega

/-- A row of parts reads as them. -/
theorem opAt_own {w : World} {B : Nat} {v : Value} {ps : List Pt} (h : w.ownsRow B 50 3 v ps.length (cellsP ps)) : opAt w v ps := by
  have h' := h
  rcases h.2 with ⟨rfl, h2⟩ | ⟨g, cap, cur, rfl, h2, h3, h4, h5, h6, h7⟩
  · obtain rfl : ps = [] := List.eq_nil_of_length_eq_zero h2
    exact ⟨none, 0, rfl, Nat.le_refl _, Nat.zero_le _, fun h => absurd rfl h⟩
  · refine ⟨_, cap, rfl, h4, h5, fun _ => ⟨g, 0, rfl, (Array.getElem?_eq_some_iff.1 h3).1, fun i q hi => ?_⟩⟩
    have hlt := (List.getElem?_eq_some_iff.1 hi).1
    have hc := cellsP_get ps i q hi
    refine ⟨?_, ?_, ?_⟩
    · rw [Nat.zero_add, h'.cellAt _ (by omega)]; exact hc 0 (by omega)
    · rw [Nat.zero_add, h'.cellAt _ (by omega)]; exact hc 1 (by omega)
    · rw [Nat.zero_add, h'.cellAt _ (by omega)]; exact hc 2 (by omega)

/-- .. in new memory. -/
def opN (B : Nat) (w : World) (v : Value) (ps : List Pt) : Prop := opAt w v ps ∧ ∀ k, v.ownBlock = some k → B ≤ k
theorem opN.mono {B C : Nat} {w : World} {v : Value} {ps : List Pt} (h : opN B w v ps) (hB : C ≤ B) : opN C w v ps := ⟨h.1, fun k hk => Nat.le_trans hB (h.2 k hk)⟩
def soundP (p : Pt) : Prop := 0 ≤ p.keep ∧ 0 ≤ p.drop
def wtP (p : Pt) : Int := p.keep + p.drop + p.put.length
def wts (ps : List Pt) : Int := (ps.map wtP).sum
theorem wts_nonneg {ps : List Pt} (h : ∀ p ∈ ps, soundP p) : 0 ≤ wts ps := by
  induction ps with
  | nil => simp [wts]
  | cons p ps ih =>
    have h1 := h p (List.mem_cons_self ..)
    have h2 := ih fun q hq => h q (List.mem_cons_of_mem _ hq)
    unfold wts at h2 ⊢
    rw [List.map_cons, List.sum_cons]
    unfold soundP at h1
    have : 0 ≤ wtP p := by unfold wtP; omega
    omega
/-- What a gathering's numbers are at most. -/
structure Bd (s : NSt) (T : Int) (n : Nat) : Prop where
  put : (s.put.length : Int) ≤ T
  d0 : 0 ≤ s.drop
  dT : s.drop ≤ T
  keep : ∀ q ∈ s.out, 0 ≤ q.keep ∧ q.keep ≤ T
  len : s.out.length ≤ 3 * n
theorem Bd.add {s : NSt} {T : Int} {n : Nat} (h : Bd s T n) (p : Pt) (hp : soundP p) : Bd (addP s p) (T + wtP p) (n + 1) := by
  obtain ⟨k, d, q⟩ := p
  obtain ⟨p1, p2⟩ := hp
  obtain ⟨h1, h2, h3, h4, h5⟩ := h
  have hw : wtP ⟨k, d, q⟩ = k + d + q.length := rfl
  have e1 : (0 : Int) ≤ k := p1
  have e2 : (0 : Int) ≤ d := p2
  have hT : 0 ≤ T := Int.le_trans h2 h3
  rw [hw]
  unfold addP
  by_cases hk : k = 0
  · rw [if_pos hk]
    refine ⟨?_, ?_, ?_, ?_, ?_⟩
    · show ((s.put ++ q).length : Int) ≤ _
      rw [List.length_append]
      omega
    · show 0 ≤ s.drop + d; omega
    · show s.drop + d ≤ _; omega
    · intro x hx
      have := h4 x hx
      omega
    · show s.out.length ≤ _; omega
  · rw [if_neg hk]
    obtain ⟨L, hL⟩ : ∃ L, tellP ⟨s.out, s.put ++ q, s.drop + d⟩ = L := ⟨_, rfl⟩
    have hm : ∀ x ∈ L, 0 ≤ x.keep ∧ x.keep ≤ T := by
      intro x hx
      rw [← hL, tellP] at hx
      simp only [List.mem_append] at hx
      rcases hx with hx | hx | hx
      · exact h4 x hx
      · split at hx
        · simp at hx
        · rw [List.mem_singleton.1 hx]; exact ⟨by simp, hT⟩
      · split at hx
        · simp at hx
        · rw [List.mem_singleton.1 hx]; exact ⟨by simp, hT⟩
    have hl : L.length ≤ s.out.length + 2 := by
      rw [← hL, tellP]
      simp only [List.length_append]
      split <;> split <;> simp
    have key : (∀ x ∈ pushKeep L k, 0 ≤ x.keep ∧ x.keep ≤ T + k) ∧ (pushKeep L k).length ≤ L.length + 1 := by
      have hsnoc : (∀ x ∈ L ++ [⟨k, 0, []⟩], 0 ≤ x.keep ∧ x.keep ≤ T + k) ∧ (L ++ [(⟨k, 0, []⟩ : Pt)]).length ≤ L.length + 1 := by
        refine ⟨fun x hx => ?_, by simp⟩
        rcases List.mem_append.1 hx with hx | hx
        · have := hm x hx; omega
        · rw [List.mem_singleton.1 hx]; exact ⟨e1, by show k ≤ _; omega⟩
      unfold pushKeep
      split
      · rename_i q0 hq0
        split
        · rename_i hq1
          have hin : q0 ∈ L := List.mem_of_getLast? hq0
          have := hm q0 hin
          refine ⟨fun x hx => ?_, by simp⟩
          rcases List.mem_append.1 hx with hx | hx
          · have := hm x (List.dropLast_subset _ hx); omega
          · rw [List.mem_singleton.1 hx]; exact ⟨by show 0 ≤ q0.keep + k; omega, by show q0.keep + k ≤ _; omega⟩
        · exact hsnoc
      · exact hsnoc
    rw [hL]
    refine ⟨?_, by simp, ?_, ?_, ?_⟩
    · show ((0 : Nat) : Int) ≤ _; omega
    · show (0 : Int) ≤ _; omega
    · intro x hx
      have := key.1 x hx
      show 0 ≤ x.keep ∧ x.keep ≤ T + (k + d + q.length)
      omega
    · have := key.2
      show (pushKeep L k).length ≤ _
      omega
end Go.Proofs.YtldhbjmillfjgabGreatDoor

namespace Go.Proofs.YtldhbjmillfjgabGreatDoor
open Go.RowKit
set_option linter.unusedVariables false

def fewP (p : Pt) : Bool := !(decide (300 < (p.put.length : Int)) || decide (5000 < p.keep) || decide (5000 < p.drop))
def fewB (ps : List Pt) : Bool := decide (ps.length ≤ 100) && ps.all fewP

set_option maxRecDepth 100000 in
set_option maxHeartbeats 2000000 in
theorem few_any (v : Value) (ps : List Pt) (w : World) (hr : opAt w v ps) (hl : ps.length < 10000000) :
    Calls Tryz.prog 27 #[v] w fun e w' => e = .returned (.bool (fewB ps)) ∧ Below w.heap.size w w' := by
  obtain ⟨p, c, rfl, r1, r2, r3⟩ := hr
  by_cases hm : 100 < ps.length
  · have hb : fewB ps = false := by unfold fewB; rw [decide_eq_false (by omega)]; rfl
    rw [hb]
    have hm' : (100 : Int) < (ps.length : Int) := by omega
    clear r3
    go_enter Tryz.func27, Tryz.ntmps27
    go_wp2
    go_ret
    exact ⟨rfl, Below.refl _ _⟩
  have hb : fewB ps = ps.all fewP := by unfold fewB; rw [decide_eq_true (by omega)]; rfl
  rw [hb]
  obtain ⟨n, hn⟩ : ∃ n, n = ps.length := ⟨_, rfl⟩
  rw [← hn] at r1 hl hm ⊢
  have HN : Hid (n = ps.length) := hn
  have hm' : ¬ (100 : Int) < (n : Int) := by omega
  clear hn hb hm
  have R3 : Hid (ps ≠ [] → ∃ b o, p = some ⟨b, o, none⟩ ∧ b < w.heap.size ∧ ∀ i q, ps[i]? = some q →
    w.cell? ⟨b, o + i * 3, none⟩ = some (.int .i64 q.keep) ∧ w.cell? ⟨b, o + i * 3 + 1, none⟩ = some (.int .i64 q.drop) ∧ w.cell? ⟨b, o + i * 3 + 2, none⟩ = some (.string ⟨q.put.toArray⟩)) := r3
  clear r3
  obtain ⟨R, hR⟩ : ∃ R, ps.all fewP = R := ⟨_, rfl⟩
  have HR : Hid (ps.all fewP = R) := hR
  rw [hR]
  clear hR
  go_enter Tryz.func27, Tryz.ntmps27
  go_wp2
  go_loopw [3] (fun i wr => ∃ (k : Nat), k ≤ n ∧ i = .int .i64 k ∧ (ps.drop k).all fewP = R ∧ Below w.heap.size w wr) (fun i _ => n - (intOf i).toNat)
  case atStart => exact ⟨0, Nat.zero_le _, rfl, HR.out, Below.refl _ _⟩
  case round =>
    obtain ⟨k, hk, rfl, hch, hwr⟩ := hrel
    by_cases hlt : k < n
    · have hkr : k < ps.length := by rw [← HN.out]; exact hlt
      have hne : ps ≠ [] := by intro e; rw [e] at hkr; exact absurd hkr (Nat.not_lt_zero _)
      obtain ⟨b, o, rfl, hbw, hcell⟩ := R3.out hne
      obtain ⟨c0, c1, c2⟩ := hcell k ps[k] (List.getElem?_eq_getElem hkr)
      have g0 := (hwr.cell (p := ⟨b, o + k * 3, none⟩) hbw).trans c0
      have g1 := (hwr.cell (p := ⟨b, o + k * 3 + 1, none⟩) hbw).trans c1
      have g2 := (hwr.cell (p := ⟨b, o + k * 3 + 2, none⟩) hbw).trans c2
      rw [List.drop_eq_getElem_cons hkr, List.all_cons] at hch
      generalize ps[k] = q at *
      obtain ⟨K, D, U⟩ := q
      unfold fewP at hch
      simp only at hch g0 g1 g2
      by_cases h1 : (300 : Int) < (U.length : Int)
      · have hRf : R = false := by rw [← hch, decide_eq_true h1]; rfl
        subst hRf
        clear hcell c0 c1 c2 hch HR
        go_wp2
        go_ret
        exact ⟨rfl, hwr⟩
      · by_cases h2 : (5000 : Int) < K
        · have hRf : R = false := by rw [← hch, decide_eq_true h2, decide_eq_false h1]; rfl
          subst hRf
          clear hcell c0 c1 c2 hch HR
          go_wp2
          go_ret
          exact ⟨rfl, hwr⟩
        · by_cases h3 : (5000 : Int) < D
          · have hRf : R = false := by rw [← hch, decide_eq_true h3, decide_eq_false h1, decide_eq_false h2]; rfl
            subst hRf
            clear hcell c0 c1 c2 hch HR
            go_wp2
            go_ret
            exact ⟨rfl, hwr⟩
          · have HCH : Hid ((ps.drop (k + 1)).all fewP = R) := by
              show _ = _
              rw [decide_eq_false h1, decide_eq_false h2, decide_eq_false h3] at hch
              exact hch
            clear hcell c0 c1 c2 hch HR
            go_wp2
            go_roundw
            case rel => exact ⟨k + 1, by omega, by go_num, HCH.out, hwr⟩
            case measure => simp [intOf]; omega
    · have e : ps.drop k = [] := List.drop_of_length_le (by rw [← HN.out]; omega)
      rw [e] at hch
      have hRf : R = true := by rw [← hch]; rfl
      subst hRf
      clear e R3 hch HR
      go_wp2
      go_ret
      exact ⟨rfl, hwr⟩

end Go.Proofs.YtldhbjmillfjgabGreatDoor

namespace Go.Proofs.YtldhbjmillfjgabGreatDoor
open Go.RowKit
set_option linter.unusedVariables false
attribute [local go_sem] Oper.semAt_some

/-- The boxes of steps: where it is, and how much is ahead. -/
structure stp (W : World) (s b : Nat) (u v a h : Int) : Prop where
  r : W.cell? ⟨s, 0, none⟩ = some (.pointer (some ⟨b, 0, none⟩))
  u : W.cell? ⟨s + 1, 0, none⟩ = some (.int .i64 u)
  v : W.cell? ⟨s + 2, 0, none⟩ = some (.int .i64 v)
  a : W.cell? ⟨s + 3, 0, none⟩ = some (.int .i64 a)
  af : W.frozen? ⟨s + 3, 0, none⟩ = false
  h : W.cell? ⟨s + 4, 0, none⟩ = some (.int .i64 h)
  hf : W.frozen? ⟨s + 4, 0, none⟩ = false
theorem stp.below {W W' : World} {s b : Nat} {u v a h : Int} (k : stp W s b u v a h) (hb : Below W.heap.size W W') : stp W' s b u v a h := by
  have l0 := World.block_lt_of_cell? W _ k.r
  have l1 := World.block_lt_of_cell? W _ k.u
  have l2 := World.block_lt_of_cell? W _ k.v
  have l3 := World.block_lt_of_cell? W _ k.a
  have l4 := World.block_lt_of_cell? W _ k.h
  exact ⟨(hb.cell l0).trans k.r, (hb.cell l1).trans k.u, (hb.cell l2).trans k.v, (hb.cell l3).trans k.a, (hb.frozen l3).trans k.af, (hb.cell l4).trans k.h, (hb.frozen l4).trans k.hf⟩
end Go.Proofs.YtldhbjmillfjgabGreatDoor

namespace Go.Proofs
open Go.Shelf
def Tryz.lays196_ren : Go.Shelf.Ren := ⟨fun | 196 => 122 | 259 => 166 | n => n, fun | 0 => 0 | 3 => 3 | 4 => 4 | 5 => 5 | 9 => 9 | 12 => 12 | 46 => 86 | 53 => 294 | 119 => 263 | 138 => 265 | 139 => 266 | n => n, fun | 3 => 2 | 4 => 3 | n => n⟩
theorem Tryz.lays196 : Go.Proofs.Lays.n196 Tryz.prog Tryz.lays196_ren := {
  mixed := by kernel_rfl
  f196 := Tryz.func122.trans (congrArg some (by kernel_rfl))
  f259 := Tryz.func166.trans (congrArg some (by kernel_rfl))
  t0 := Tryz.underlying0
  a0 := Tryz.isAgg0
  z0 := Tryz.sizeOf0
  v0 := Tryz.zeroValue0
  t3 := Tryz.underlying3
  a3 := Tryz.isAgg3
  z3 := Tryz.sizeOf3
  v3 := Tryz.zeroValue3
  t4 := Tryz.underlying4
  a4 := Tryz.isAgg4
  z4 := Tryz.sizeOf4
  v4 := Tryz.zeroValue4
  t5 := Tryz.underlying5
  a5 := Tryz.isAgg5
  z5 := Tryz.sizeOf5
  v5 := Tryz.zeroValue5
  t9 := Tryz.underlying9
  a9 := Tryz.isAgg9
  z9 := Tryz.sizeOf9
  v9 := Tryz.zeroValue9
  t12 := Tryz.underlying12
  a12 := Tryz.isAgg12
  z12 := Tryz.sizeOf12
  v12 := Tryz.zeroValue12
  t46 := Tryz.underlying86
  a46 := Tryz.isAgg86
  z46 := Tryz.sizeOf86
  v46 := Tryz.zeroValue86
  t53 := Tryz.underlying294
  a53 := Tryz.isAgg294
  z53 := Tryz.sizeOf294
  v53 := Tryz.zeroValue294
  t119 := Tryz.underlying263
  a119 := Tryz.isAgg263
  z119 := Tryz.sizeOf263
  t138 := Tryz.underlying265
  a138 := Tryz.isAgg265
  z138 := Tryz.sizeOf265
  v138 := Tryz.zeroValue265
  t139 := Tryz.underlying266
  a139 := Tryz.isAgg266
  z139 := Tryz.sizeOf266
  v139 := Tryz.zeroValue266
  g3 := by kernel_rfl
  g4 := by kernel_rfl }
end Go.Proofs
namespace Go.Proofs.YtldhbjmillfjgabGreatDoor
open Go.RowKit

/-- The library's own word for a sound text is ours. -/
theorem valid_scan (n : Nat) : ∀ (l : List UInt8), l.length ≤ n → Lib.validGoD n l = (scan l).2 := by
  induction n with
  | zero =>
    intro l hl
    have : l = [] := List.eq_nil_of_length_eq_zero (by omega)
    subst this
    rfl
  | succ n ih =>
    intro l hl
    unfold Lib.validGoD
    by_cases hne : l = []
    · subst hne; rfl
    · rw [if_neg hne]
      have hd : Lib.decodeL l = dec l := by
        have := decode_dec ⟨l.toArray⟩ 0
        rw [List.drop_zero] at this
        rw [← this]
        unfold Lib.decodeL
        congr 1
        apply ByteArray.ext
        simp
      rw [hd]
      by_cases hb : badB (dec l) = true
      · rw [scan_bad hne hb, if_pos (badB_true hb)]
      · have hb' : badB (dec l) = false := Bool.eq_false_iff.2 hb
        rw [scan_good hne hb', if_neg (by intro h; exact hb (by unfold badB; simp [h])), ih]
        have h1 := dec_ge1 l
        rw [List.length_drop]
        omega

theorem ValidString_any (s : ByteArray) (w : World) (hs : s.size ≤ 9223372036854775807) (hT : Lib.Utf8Tabs 2 3 w) :
    Calls Tryz.prog 122 #[.string s] w fun e w' => e = .returned (.bool (scan s.data.toList).2) ∧ Below w.heap.size w w' := by
  have := Any.utf8_ValidString Tryz.lays196 s w hs hT
  rwa [show Lib.validD s.data.toList = (scan s.data.toList).2 from valid_scan _ _ (Nat.le_refl _)] at this
end Go.Proofs.YtldhbjmillfjgabGreatDoor

namespace Go.Proofs.YtldhbjmillfjgabGreatDoor
open Go.RowKit Go.Extern.Stop Go.Stop Go.Extern

theorem as_valueOf (t : Addr) (w : World) : (ReflectliteValue.unpack (.iface 152 (.pointer (some t)))).run Tryz.prog w
    = .ok (.agg #[.pointer (some ⟨4, 152, none⟩), .pointer (some ⟨w.heap.size, 0, none⟩), .int .u64 150]) (w.alloc (.cells #[.pointer (some t)] 152)) := by kernel_rfl
theorem as_type (a : Addr) (w : World) : (ReflectliteValue.methodAny (ReflectliteValue.valueError "reflectlite.Value.Type" 0) (fun t _ _ _ => ReflectliteType.toType t) #[.agg #[.pointer (some ⟨4, 152, none⟩), .pointer (some a), .int .u64 150]]).run Tryz.prog w
    = .ok (.iface 270 (.agg #[.pointer (some ⟨4, 152, none⟩)])) w := by kernel_rfl
theorem as_methodKind (h : Value) (w : World) : (Go.method 427 270 (.agg #[h]) "Kind").run Tryz.prog w = .ok (219, h) w := by kernel_rfl
theorem as_kindP (w : World) : ((ReflectliteType.abiMethod fun t => (fun a : Nat => Value.int IntKind.u8 (a : Int)) <$> Rtype.kind t) #[.pointer (some ⟨4, 152, none⟩)]).run Tryz.prog w = .ok (.int .u8 22) w := by kernel_rfl
theorem as_kindE (w : World) : ((ReflectliteType.abiMethod fun t => (fun a : Nat => Value.int IntKind.u8 (a : Int)) <$> Rtype.kind t) #[.pointer (some ⟨4, 26, none⟩)]).run Tryz.prog w = .ok (.int .u8 2) w := by kernel_rfl

theorem as_rlm (z : Sem Value) (f : TypeId → Addr → Nat → Nat → Sem Value) (v : Value) :
    ReflectliteValue.method z f #[v] = (do match ← ReflectliteValue.parts v with | none => z | some (t, a, fl) => f t a fl (fl % 32)) := rfl
theorem as_partsP (a : Addr) (w : World) : (ReflectliteValue.parts (.agg #[.pointer (some ⟨4, 152, none⟩), .pointer (some a), .int .u64 150])).run Tryz.prog w = .ok (some (152, a, 150)) w := by kernel_rfl
theorem as_isNil (a p : Addr) (W : World) (ha : W.cell? a = some (.pointer (some p))) :
    (ReflectliteValue.method (ReflectliteValue.valueError "reflectlite.Value.IsNil" 0) ReflectliteValue.isNil #[.agg #[.pointer (some ⟨4, 152, none⟩), .pointer (some a), .int .u64 150]]).run Tryz.prog W = .ok (.bool false) W := by
  rw [as_rlm]
  simp only [Sem.run_bind, as_partsP, Result.andThen]
  simp [ReflectliteValue.isNil, loadVar, isAgg, underlying, Tryz.underlying152, ha, Result.andThen]
theorem as_methodElem (h : Value) (w : World) : (Go.method 427 270 (.agg #[h]) "Elem").run Tryz.prog w = .ok (233, .agg #[h]) w := by kernel_rfl
theorem as_methodImplements (h : Value) (w : World) : (Go.method 427 270 (.agg #[h]) "Implements").run Tryz.prog w = .ok (234, .agg #[h]) w := by kernel_rfl
theorem as_methodAssignableTo (h : Value) (w : World) : (Go.method 427 270 (.agg #[h]) "AssignableTo").run Tryz.prog w = .ok (231, .agg #[h]) w := by kernel_rfl
theorem as_elem (w : World) : (ReflectliteType.method ReflectliteType.elem #[.agg #[.pointer (some ⟨4, 152, none⟩)]]).run Tryz.prog w = .ok (.iface 270 (.agg #[.pointer (some ⟨4, 26, none⟩)])) w := by kernel_rfl
theorem as_implements (w : World) : (ReflectliteType.relation "Implements" ReflectliteType.implements_ #[.agg #[.pointer (some ⟨4, 26, none⟩)], .iface 270 (.agg #[.pointer (some ⟨4, 33, none⟩)])]).run Tryz.prog w = .ok (.bool true) w := by kernel_rfl
theorem as_typeOfE (v : Value) (w : World) : (ReflectliteType.typeOf #[.iface 26 v]).run Tryz.prog w = .ok (.iface 270 (.agg #[.pointer (some ⟨4, 26, none⟩)])) w := by kernel_rfl
theorem as_typeOfA (v : Value) (w : World) : (ReflectliteType.typeOf #[.iface 233 v]).run Tryz.prog w = .ok (.iface 270 (.agg #[.pointer (some ⟨4, 233, none⟩)])) w := by kernel_rfl
theorem as_assignE (w : World) : (ReflectliteType.relation "AssignableTo" ReflectliteType.assignableTo #[.agg #[.pointer (some ⟨4, 26, none⟩)], .iface 270 (.agg #[.pointer (some ⟨4, 26, none⟩)])]).run Tryz.prog w = .ok (.bool true) w := by kernel_rfl
theorem as_assignA (w : World) : (ReflectliteType.relation "AssignableTo" ReflectliteType.assignableTo #[.agg #[.pointer (some ⟨4, 233, none⟩)], .iface 270 (.agg #[.pointer (some ⟨4, 26, none⟩)])]).run Tryz.prog w = .ok (.bool false) w := by kernel_rfl
theorem as_valueOfE (n : Int) (w : World) : (ReflectliteValue.unpack (.iface 26 (.int .i64 n))).run Tryz.prog w
    = .ok (.agg #[.pointer (some ⟨4, 26, none⟩), .pointer (some ⟨w.heap.size, 0, none⟩), .int .u64 130]) (w.alloc (.cells #[.int .i64 n] 26)) := by kernel_rfl
theorem as_elemOf (w : World) : (Rtype.elem? 152).run Tryz.prog w = .ok (some 26) w := by kernel_rfl
theorem as_mk (p : Addr) (w : World) : (ReflectliteValue.mk 26 p ReflectliteValue.flagAddr).run Tryz.prog w = .ok (.agg #[.pointer (some ⟨4, 26, none⟩), .pointer (some p), .int .u64 386]) w := by kernel_rfl
theorem as_elemV (a p : Addr) (W : World) (ha : W.cell? a = some (.pointer (some p))) :
    (ReflectliteValue.method (ReflectliteValue.valueError "reflectlite.Value.Elem" 0) ReflectliteValue.elem #[.agg #[.pointer (some ⟨4, 152, none⟩), .pointer (some a), .int .u64 150]]).run Tryz.prog W
      = .ok (.agg #[.pointer (some ⟨4, 26, none⟩), .pointer (some p), .int .u64 386]) W := by
  rw [as_rlm]
  simp only [Sem.run_bind, as_partsP, Result.andThen]
  simp [ReflectliteValue.elem, loadVar, isAgg, underlying, Tryz.underlying152, ha, Result.andThen, as_elemOf, as_mk]
theorem as_rls (v x : Value) : ReflectliteValue.set #[v, x] = (do
    let (some (dst, a, fl), some (src, b, _)) := (← ReflectliteValue.parts v, ← ReflectliteValue.parts x)
      | unsupported (.noEntry "extern/(internal/reflectlite.Value).Set.zeroValue")
    if fl / ReflectliteValue.flagAddr % 2 == 0 then unsupported (.noEntry "extern/(internal/reflectlite.Value).Set.unaddressable")
    let val ← loadVar src b
    if ← Rtype.directlyAssignable dst src then storeVar dst a val
    else if ← Rtype.implements dst src then
      if (← Rtype.kind src) == 20 then
        match val with
        | .nilIface => unsupported (.noEntry "extern/reflectlite: a nil value of one interface type handed on as a value of another")
        | _ => storeVar dst a val
      else storeVar dst a (.iface src val)
    else panicString ("reflectlite.Set: value of type " ++ (← Rtype.spelt src) ++ " is not assignable to type " ++ (← Rtype.spelt dst))
    pure (.tuple #[])) := rfl
theorem as_partsD (a : Addr) (w : World) : (ReflectliteValue.parts (.agg #[.pointer (some ⟨4, 26, none⟩), .pointer (some a), .int .u64 386])).run Tryz.prog w = .ok (some (26, a, 386)) w := by kernel_rfl
theorem as_partsE (a : Addr) (w : World) : (ReflectliteValue.parts (.agg #[.pointer (some ⟨4, 26, none⟩), .pointer (some a), .int .u64 130])).run Tryz.prog w = .ok (some (26, a, 130)) w := by kernel_rfl
theorem as_direct (w : World) : (Rtype.directlyAssignable 26 26).run Tryz.prog w = .ok true w := by kernel_rfl
theorem as_set (ta b : Addr) (n : Int) (old : Value) (W : World) (hb : W.cell? b = some (.int .i64 n)) (ht : W.cell? ta = some old) (hf : W.frozen? ta = false) :
    (ReflectliteValue.set #[.agg #[.pointer (some ⟨4, 26, none⟩), .pointer (some ta), .int .u64 386], .agg #[.pointer (some ⟨4, 26, none⟩), .pointer (some b), .int .u64 130]]).run Tryz.prog W
      = .ok (.tuple #[]) (W.setCell ta (.int .i64 n)) := by
  rw [as_rls]
  simp only [Sem.run_bind, as_partsD, as_partsE, Result.andThen]
  simp [ReflectliteValue.flagAddr, loadVar, isAgg, underlying, Tryz.underlying26, hb, Result.andThen, as_direct, storeVar, Value.cells, storeCells, Addr.add]
  rw [run_store Tryz.prog W ta _ _ (by rfl)]
  simp [ht, hf]
theorem as_noAs (v : Value) (xT : TypeId) (w : World) : (Instr.typeAssert (.iface 233 v) xT 275 true).run Tryz.prog w = .ok (.tuple #[.nilIface, .bool false]) w := run_typeAssert_lacksB Tryz.underlying275 (by kernel_rfl) (by kernel_rfl) v xT w
theorem as_hasUnwrap (v : Value) (xT : TypeId) (w : World) : (Instr.typeAssert (.iface 233 v) xT 236 true).run Tryz.prog w = .ok (.tuple #[.iface 233 v, .bool true]) w := run_typeAssert_hasB Tryz.underlying236 (by kernel_rfl) v xT w
theorem as_unwrapAhead (a : Addr) (w : World) : (nilAhead 427 233 (.pointer (some a)) "Unwrap").run Tryz.prog w = .ok (some false) w := by kernel_rfl
theorem as_methodUnwrap (a : Addr) (w : World) : (Go.method 427 233 (.pointer (some a)) "Unwrap").run Tryz.prog w = .ok (229, .pointer (some a)) w := by kernel_rfl

set_option maxHeartbeats 400000 in
theorem unwrap_any (a : Nat) (n : Int) (w : World) (h : w.cell? ⟨a, 0, none⟩ = some (.int .i64 n)) :
    Calls Tryz.prog 229 #[.pointer (some ⟨a, 0, none⟩)] w fun e w' => e = .returned (.iface 26 (.int .i64 n)) ∧ w' = w := by
  go_enter Tryz.func229, Tryz.ntmps229
  go_wp2
  go_ret
  exact ⟨rfl, rfl⟩

/-- What the walks of errors.As want of the library's variable. -/
def asLaid (w : World) : Prop := w.cell? ⟨0, 0, none⟩ = some (.iface 270 (.agg #[.pointer (some ⟨4, 33, none⟩)]))

/-- errors.as at the number itself: the target's variable is set. -/
def target (q : Nat) : Value := .agg #[.pointer (some ⟨4, 152, none⟩), .pointer (some ⟨q, 0, none⟩), .int .u64 150]

end Go.Proofs.YtldhbjmillfjgabGreatDoor

namespace Go.Proofs.YtldhbjmillfjgabGreatDoor
open Go.RowKit Go.Extern.Stop Go.Stop Go.Extern

theorem set_below {w : World} {t : Nat} {n : Int} {old : Value} (ht : w.cell? ⟨t, 0, none⟩ = some old) (o1 o2 : Obj) :
    (((w.setCell ⟨t, 0, none⟩ (.int .i64 n)).alloc o1).alloc o2).cell? ⟨t, 0, none⟩ = some (.int .i64 n) ∧ Below t w (((w.setCell ⟨t, 0, none⟩ (.int .i64 n)).alloc o1).alloc o2) := by
  have htl := World.block_lt_of_cell? w _ ht
  have hz : (w.setCell ⟨t, 0, none⟩ (.int .i64 n)).heap.size = w.heap.size := by simp
  have h1 : t < (w.setCell ⟨t, 0, none⟩ (.int .i64 n)).heap.size := by rw [hz]; exact htl
  refine ⟨?_, ?_⟩
  · rw [World.cell?_alloc_lt _ _ ⟨t, 0, none⟩ (by rw [World.size_alloc]; exact Nat.lt_succ_of_lt h1), World.cell?_alloc_lt _ _ ⟨t, 0, none⟩ h1]
    exact World.cell?_setCell_same _ _ _ ht
  · exact ((((Below.refl t w).setCell (p := ⟨t, 0, none⟩) (Nat.le_refl _) _)).alloc (Nat.le_of_lt h1) _).alloc (by rw [World.size_alloc]; exact Nat.le_succ_of_le (Nat.le_of_lt h1)) _

set_option maxRecDepth 100000 in
set_option maxHeartbeats 4000000 in
theorem as_number (n : Int) (t q : Nat) (old : Value) (w : World) (hq : w.cell? ⟨q, 0, none⟩ = some (.pointer (some ⟨t, 0, none⟩))) (ht : w.cell? ⟨t, 0, none⟩ = some old) (hf : w.frozen? ⟨t, 0, none⟩ = false) :
    Calls Tryz.prog 136 #[.iface 26 (.int .i64 n), .iface 152 (.pointer (some ⟨t, 0, none⟩)), target q, .iface 270 (.agg #[.pointer (some ⟨4, 26, none⟩)])] w
      fun e w' => e = .returned (.bool true) ∧ w'.cell? ⟨t, 0, none⟩ = some (.int .i64 n) ∧ Below t w w' := by
  have hTO := @run_callFunc_extern Tryz.prog 170 _ ReflectliteType.typeOf Tryz.func170 (by kernel_rfl) (by kernel_rfl) (by kernel_rfl) (by kernel_rfl)
  have hAT := @run_callFunc_extern Tryz.prog 231 _ (ReflectliteType.relation "AssignableTo" ReflectliteType.assignableTo) Tryz.func231 (by kernel_rfl) (by kernel_rfl) (by kernel_rfl) (by kernel_rfl)
  have hVE := @run_callFunc_extern Tryz.prog 171 _ (ReflectliteValue.method (ReflectliteValue.valueError "reflectlite.Value.Elem" 0) ReflectliteValue.elem) Tryz.func171 (by kernel_rfl) (by kernel_rfl) (by kernel_rfl) (by kernel_rfl)
  have hVS := @run_callFunc_extern Tryz.prog 172 _ ReflectliteValue.set Tryz.func172 (by kernel_rfl) (by kernel_rfl) (by kernel_rfl) (by kernel_rfl)
  have hVO := @run_callFunc_extern Tryz.prog 133 _ (fun args => ReflectliteValue.unpack (args.getD 0 (.tuple #[]))) Tryz.func133 (by kernel_rfl) (by kernel_rfl) (by kernel_rfl) (by kernel_rfl)
  have tE := as_typeOfE
  have tA := as_typeOfA
  have mA := as_methodAssignableTo
  have aE := as_assignE
  have aA := as_assignA
  have vE := as_valueOfE
  have nA := as_noAs
  have hU := as_hasUnwrap
  have uA := as_unwrapAhead
  have mU := as_methodUnwrap
  have htl := World.block_lt_of_cell? w _ ht
  have hql := World.block_lt_of_cell? w _ hq
  have hq2 : (w.alloc (.cells #[.pointer (some ⟨4, 152, none⟩), .pointer (some ⟨q, 0, none⟩), .int .u64 150] 221)).cell? ⟨q, 0, none⟩ = some (.pointer (some ⟨t, 0, none⟩)) := by
    rw [World.cell?_alloc_lt _ _ ⟨q, 0, none⟩ hql]; exact hq
  have el := as_elemV ⟨q, 0, none⟩ ⟨t, 0, none⟩ (w.alloc (.cells #[.pointer (some ⟨4, 152, none⟩), .pointer (some ⟨q, 0, none⟩), .int .u64 150] 221)) hq2
  have st := as_set ⟨t, 0, none⟩ ⟨w.heap.size + 1, 0, none⟩ n old ((w.alloc (.cells #[.pointer (some ⟨4, 152, none⟩), .pointer (some ⟨q, 0, none⟩), .int .u64 150] 221)).alloc (.cells #[.int .i64 n] 26))
    (by rw [World.cell?_alloc_at _ _ _ _ (by simp)]; rfl)
    (by rw [World.cell?_alloc_lt _ _ ⟨t, 0, none⟩ (by rw [World.size_alloc]; exact Nat.lt_succ_of_lt htl), World.cell?_alloc_lt _ _ ⟨t, 0, none⟩ htl]; exact ht)
    (by rw [World.frozen?_alloc_old _ _ ⟨t, 0, none⟩ (by rw [World.size_alloc]; exact Nat.ne_of_lt (Nat.lt_succ_of_lt htl)), World.frozen?_alloc_old _ _ ⟨t, 0, none⟩ (Nat.ne_of_lt htl)]; exact hf)
  have fin := fun o1 o2 => @set_below w t n old ht o1 o2
  have HF : Hid (∀ o1 o2, _ ∧ _) := fin
  clear fin
  clear hq ht hf hq2
  unfold target
  go_enter Tryz.func136, Tryz.ntmps136
  go_wp2
  refine wp_loop_rounds 1 ?_
  rw [rounds_succ]
  go_wp2
  go_ret
  exact ⟨rfl, HF.out _ _⟩

set_option maxRecDepth 100000 in
set_option maxHeartbeats 4000000 in
theorem as_place (a : Nat) (n : Int) (t q : Nat) (old : Value) (w : World) (ha : w.cell? ⟨a, 0, none⟩ = some (.int .i64 n)) (hq : w.cell? ⟨q, 0, none⟩ = some (.pointer (some ⟨t, 0, none⟩))) (ht : w.cell? ⟨t, 0, none⟩ = some old) (hf : w.frozen? ⟨t, 0, none⟩ = false) :
    Calls Tryz.prog 136 #[.iface 233 (.pointer (some ⟨a, 0, none⟩)), .iface 152 (.pointer (some ⟨t, 0, none⟩)), target q, .iface 270 (.agg #[.pointer (some ⟨4, 26, none⟩)])] w
      fun e w' => e = .returned (.bool true) ∧ w'.cell? ⟨t, 0, none⟩ = some (.int .i64 n) ∧ Below t w w' := by
  have hTO := @run_callFunc_extern Tryz.prog 170 _ ReflectliteType.typeOf Tryz.func170 (by kernel_rfl) (by kernel_rfl) (by kernel_rfl) (by kernel_rfl)
  have hAT := @run_callFunc_extern Tryz.prog 231 _ (ReflectliteType.relation "AssignableTo" ReflectliteType.assignableTo) Tryz.func231 (by kernel_rfl) (by kernel_rfl) (by kernel_rfl) (by kernel_rfl)
  have hVE := @run_callFunc_extern Tryz.prog 171 _ (ReflectliteValue.method (ReflectliteValue.valueError "reflectlite.Value.Elem" 0) ReflectliteValue.elem) Tryz.func171 (by kernel_rfl) (by kernel_rfl) (by kernel_rfl) (by kernel_rfl)
  have hVS := @run_callFunc_extern Tryz.prog 172 _ ReflectliteValue.set Tryz.func172 (by kernel_rfl) (by kernel_rfl) (by kernel_rfl) (by kernel_rfl)
  have hVO := @run_callFunc_extern Tryz.prog 133 _ (fun args => ReflectliteValue.unpack (args.getD 0 (.tuple #[]))) Tryz.func133 (by kernel_rfl) (by kernel_rfl) (by kernel_rfl) (by kernel_rfl)
  have tE := as_typeOfE
  have tA := as_typeOfA
  have mA := as_methodAssignableTo
  have aE := as_assignE
  have aA := as_assignA
  have vE := as_valueOfE
  have nA := as_noAs
  have hU := as_hasUnwrap
  have uA := as_unwrapAhead
  have mU := as_methodUnwrap
  have htl := World.block_lt_of_cell? w _ ht
  have hql := World.block_lt_of_cell? w _ hq
  have hq2 : (w.alloc (.cells #[.pointer (some ⟨4, 152, none⟩), .pointer (some ⟨q, 0, none⟩), .int .u64 150] 221)).cell? ⟨q, 0, none⟩ = some (.pointer (some ⟨t, 0, none⟩)) := by
    rw [World.cell?_alloc_lt _ _ ⟨q, 0, none⟩ hql]; exact hq
  have el := as_elemV ⟨q, 0, none⟩ ⟨t, 0, none⟩ (w.alloc (.cells #[.pointer (some ⟨4, 152, none⟩), .pointer (some ⟨q, 0, none⟩), .int .u64 150] 221)) hq2
  have st := as_set ⟨t, 0, none⟩ ⟨w.heap.size + 1, 0, none⟩ n old ((w.alloc (.cells #[.pointer (some ⟨4, 152, none⟩), .pointer (some ⟨q, 0, none⟩), .int .u64 150] 221)).alloc (.cells #[.int .i64 n] 26))
    (by rw [World.cell?_alloc_at _ _ _ _ (by simp)]; rfl)
    (by rw [World.cell?_alloc_lt _ _ ⟨t, 0, none⟩ (by rw [World.size_alloc]; exact Nat.lt_succ_of_lt htl), World.cell?_alloc_lt _ _ ⟨t, 0, none⟩ htl]; exact ht)
    (by rw [World.frozen?_alloc_old _ _ ⟨t, 0, none⟩ (by rw [World.size_alloc]; exact Nat.ne_of_lt (Nat.lt_succ_of_lt htl)), World.frozen?_alloc_old _ _ ⟨t, 0, none⟩ (Nat.ne_of_lt htl)]; exact hf)
  have fin := fun o1 o2 => @set_below w t n old ht o1 o2
  have HF : Hid (∀ o1 o2, _ ∧ _) := fin
  clear fin
  have hal := World.block_lt_of_cell? w _ ha
  have ha2 : (w.alloc (.cells #[.pointer (some ⟨4, 152, none⟩), .pointer (some ⟨q, 0, none⟩), .int .u64 150] 221)).cell? ⟨a, 0, none⟩ = some (.int .i64 n) := by
    rw [World.cell?_alloc_lt _ _ ⟨a, 0, none⟩ hal]; exact ha
  have cU := unwrap_any a n _ ha2
  clear hq ht hf hq2 ha ha2
  unfold target
  go_enter Tryz.func136, Tryz.ntmps136
  go_wp2
  refine wp_loop_rounds 2 ?_
  rw [rounds_succ]
  go_wp2_with (first | (go_at_call 229; refine cU.mono ?_; rintro e wx ⟨rfl, rfl⟩) | fail)
  rw [rounds_succ]
  go_wp2
  go_ret
  exact ⟨rfl, HF.out _ _⟩
end Go.Proofs.YtldhbjmillfjgabGreatDoor

namespace Go.Proofs.YtldhbjmillfjgabGreatDoor
open Go.RowKit Go.Extern.Stop Go.Stop Go.Extern

set_option maxRecDepth 100000 in
set_option maxHeartbeats 4000000 in
theorem As_place (a : Nat) (n : Int) (t : Nat) (old : Value) (w : World) (hg : asLaid w) (ha : w.cell? ⟨a, 0, none⟩ = some (.int .i64 n)) (ht : w.cell? ⟨t, 0, none⟩ = some old) (hf : w.frozen? ⟨t, 0, none⟩ = false) :
    Calls Tryz.prog 80 #[.iface 233 (.pointer (some ⟨a, 0, none⟩)), .iface 152 (.pointer (some ⟨t, 0, none⟩))] w
      fun e w' => e = .returned (.bool true) ∧ w'.cell? ⟨t, 0, none⟩ = some (.int .i64 n) ∧ Below t w w' := by
  have hVO := @run_callFunc_extern Tryz.prog 133 _ (fun args => ReflectliteValue.unpack (args.getD 0 (.tuple #[]))) Tryz.func133 (by kernel_rfl) (by kernel_rfl) (by kernel_rfl) (by kernel_rfl)
  have hTy := @run_callFunc_extern Tryz.prog 134 _ (ReflectliteValue.methodAny (ReflectliteValue.valueError "reflectlite.Value.Type" 0) (fun t _ _ _ => ReflectliteType.toType t)) Tryz.func134 (by kernel_rfl) (by kernel_rfl) (by kernel_rfl) (by kernel_rfl)
  have hIN := @run_callFunc_extern Tryz.prog 135 _ (ReflectliteValue.method (ReflectliteValue.valueError "reflectlite.Value.IsNil" 0) ReflectliteValue.isNil) Tryz.func135 (by kernel_rfl) (by kernel_rfl) (by kernel_rfl) (by kernel_rfl)
  have hKd := @run_callFunc_extern Tryz.prog 219 _ (ReflectliteType.abiMethod fun t => do pure (.int .u8 (← Rtype.kind t))) Tryz.func219 (by kernel_rfl) (by kernel_rfl) (by kernel_rfl) (by kernel_rfl)
  have hEl := @run_callFunc_extern Tryz.prog 233 _ (ReflectliteType.method ReflectliteType.elem) Tryz.func233 (by kernel_rfl) (by kernel_rfl) (by kernel_rfl) (by kernel_rfl)
  have hIm := @run_callFunc_extern Tryz.prog 234 _ (ReflectliteType.relation "Implements" ReflectliteType.implements_) Tryz.func234 (by kernel_rfl) (by kernel_rfl) (by kernel_rfl) (by kernel_rfl)
  have f6 := as_valueOf
  have f7 := as_type
  have mK := as_methodKind
  have mE := as_methodElem
  have mI := as_methodImplements
  have k92 := as_kindP
  have k23 := as_kindE
  have e92 := as_elem
  have i23 := as_implements
  have htl := World.block_lt_of_cell? w _ ht
  have hal := World.block_lt_of_cell? w _ ha
  have hgl := World.block_lt_of_cell? w _ hg
  obtain ⟨o1, ho1⟩ : ∃ o, o = Obj.cells #[.pointer (some ⟨t, 0, none⟩)] 152 := ⟨_, rfl⟩
  obtain ⟨o2, ho2⟩ : ∃ o, o = Obj.cells #[.pointer (some ⟨4, 152, none⟩), .pointer (some ⟨w.heap.size, 0, none⟩), .int .u64 150] 221 := ⟨_, rfl⟩
  have hn8 := as_isNil ⟨w.heap.size, 0, none⟩ ⟨t, 0, none⟩ ((w.alloc o1).alloc o2) (by rw [World.cell?_alloc_lt _ _ ⟨w.heap.size, 0, none⟩ (by rw [World.size_alloc]; exact Nat.lt_succ_self _), ho1]; simp [go_sem])
  have hg2 : ((w.alloc o1).alloc o2).cell? ⟨0, 0, none⟩ = some (.iface 270 (.agg #[.pointer (some ⟨4, 33, none⟩)])) := by
    rw [World.cell?_alloc_lt _ _ ⟨0, 0, none⟩ (by rw [World.size_alloc]; exact Nat.lt_succ_of_lt hgl), World.cell?_alloc_lt _ _ ⟨0, 0, none⟩ hgl]; exact hg
  have hb2 : Below w.heap.size w ((w.alloc o1).alloc o2) := ((Below.refl _ _).alloc (Nat.le_refl _) _).alloc (by rw [World.size_alloc]; exact Nat.le_succ _) _
  have cA := as_place a n t w.heap.size old ((w.alloc o1).alloc o2)
    (by rw [hb2.cell (p := ⟨a, 0, none⟩) hal]; exact ha)
    (by rw [World.cell?_alloc_lt _ _ ⟨w.heap.size, 0, none⟩ (by rw [World.size_alloc]; exact Nat.lt_succ_self _), ho1]; simp [go_sem])
    (by rw [hb2.cell (p := ⟨t, 0, none⟩) htl]; exact ht)
    (by rw [hb2.frozen (p := ⟨t, 0, none⟩) htl]; exact hf)
  unfold target at cA
  subst ho1 ho2
  have HB : Hid (Below t w _) := hb2.mono (Nat.le_of_lt htl)
  clear ha ht hf hg hb2
  go_enter Tryz.func80, Tryz.ntmps80
  go_wp2_with (first | (go_at_call 136; refine cA.mono ?_; rintro e wx ⟨rfl, hc, hbx⟩) | fail)
  go_ret
  exact ⟨rfl, hc, HB.out.trans hbx⟩

set_option maxHeartbeats 400000 in
theorem Tell_nil (w : World) : Calls Tryz.prog 23 #[.nilIface] w fun e w' => e = .returned (.int .i64 0) ∧ w' = w := by
  go_enter Tryz.func23, Tryz.ntmps23
  go_wp2
  go_ret
  exact ⟨rfl, rfl⟩

set_option maxRecDepth 100000 in
set_option maxHeartbeats 1000000 in
theorem Tell_place (a : Nat) (n : Int) (w : World) (hg : asLaid w) (ha : w.cell? ⟨a, 0, none⟩ = some (.int .i64 n)) :
    Calls Tryz.prog 23 #[.iface 233 (.pointer (some ⟨a, 0, none⟩))] w fun e w' => e = .returned (.int .i64 n) ∧ Below w.heap.size w w' := by
  have hal := World.block_lt_of_cell? w _ ha
  have hgl := World.block_lt_of_cell? w _ hg
  have hb1 : Below w.heap.size w (w.alloc (.cells #[.int .i64 0] 26)) := (Below.refl _ _).alloc (Nat.le_refl _) _
  have cA := As_place a n w.heap.size (.int .i64 0) (w.alloc (.cells #[.int .i64 0] 26)) (by unfold asLaid; rw [hb1.cell (p := ⟨0, 0, none⟩) hgl]; exact hg)
    (by rw [hb1.cell (p := ⟨a, 0, none⟩) hal]; exact ha) (by simp [go_sem]) (by simp [go_sem])
  clear hg ha
  go_enter Tryz.func23, Tryz.ntmps23
  go_wp2_with (first | (go_at_call 80; refine cA.mono ?_; rintro e wx ⟨rfl, hc, hbx⟩) | fail)
  go_ret
  exact ⟨rfl, hb1.trans hbx⟩

set_option maxRecDepth 100000 in
set_option maxHeartbeats 1000000 in
theorem Place_nil (w : World) : Calls Tryz.prog 86 #[.nilIface] w fun e w' => e = .returned (.tuple #[.int .i64 0, .int .i64 (-1)]) ∧ w' = w := by
  go_enter Tryz.func86, Tryz.ntmps86
  go_wp2_with (first | (go_at_call 23; refine (Tell_nil _).mono ?_; rintro e wx ⟨rfl, rfl⟩) | fail)
  refine wp_loop_rounds 1 ?_
  rw [rounds_succ]
  go_wp2
  go_ret2
  exact ⟨rfl, rfl⟩

theorem as_isPlace (a : Addr) (w : World) : (Instr.typeAssert (.iface 233 (.pointer (some a))) 33 233 true).run Tryz.prog w = .ok (.tuple #[.pointer (some a), .bool true]) w := by kernel_rfl

set_option maxRecDepth 100000 in
set_option maxHeartbeats 1000000 in
theorem Place_place (a : Nat) (n p : Int) (w : World) (hg : asLaid w) (ha : w.cell? ⟨a, 0, none⟩ = some (.int .i64 n)) (hp : w.cell? ⟨a, 1, none⟩ = some (.int .i64 p)) :
    Calls Tryz.prog 86 #[.iface 233 (.pointer (some ⟨a, 0, none⟩))] w fun e w' => e = .returned (.tuple #[.int .i64 n, .int .i64 p]) ∧ Below w.heap.size w w' := by
  have hal := World.block_lt_of_cell? w _ ha
  have cT := Tell_place a n w hg ha
  have iP := as_isPlace
  clear hg
  go_enter Tryz.func86, Tryz.ntmps86
  go_wp2_with (first | (go_at_call 23; refine cT.mono ?_; rintro e w1 ⟨rfl, hb1⟩; have hp1 := (hb1.cell (p := ⟨a, 1, none⟩) hal).trans hp) | fail)
  refine wp_loop_rounds 1 ?_
  rw [rounds_succ]
  go_wp2
  go_quiet (fail)
  go_wp2
  go_ret2
  exact ⟨rfl, below_drewN hb1 nq⟩

/-- What the law's 'is' is asked where it says yes. -/
theorem is_any_nil (w : World) : Calls Tryz.prog 26 #[.nilIface, .agg #[.int .i64 0, .int .i64 (-1)]] w fun e w' => e = .returned (.bool true) ∧ Below w.heap.size w w' := by
  go_enter Tryz.func26, Tryz.ntmps26
  go_wp2_with (first | (go_at_call 86; refine (Place_nil _).mono ?_; rintro e wx ⟨rfl, rfl⟩) | fail)
  go_ret
  exact ⟨rfl, (Below.refl _ _).alloc (Nat.le_refl _) _⟩

theorem is_any_place (a : Nat) (n p : Int) (w : World) (hg : asLaid w) (ha : w.cell? ⟨a, 0, none⟩ = some (.int .i64 n)) (hp : w.cell? ⟨a, 1, none⟩ = some (.int .i64 p)) :
    Calls Tryz.prog 26 #[.iface 233 (.pointer (some ⟨a, 0, none⟩)), .agg #[.int .i64 n, .int .i64 p]] w fun e w' => e = .returned (.bool true) ∧ Below w.heap.size w w' := by
  have hal := World.block_lt_of_cell? w _ ha
  have hgl := World.block_lt_of_cell? w _ hg
  have hb1 : Below w.heap.size w (w.alloc (.cells #[.int .i64 n, .int .i64 p] 28)) := (Below.refl _ _).alloc (Nat.le_refl _) _
  have cP := Place_place a n p (w.alloc (.cells #[.int .i64 n, .int .i64 p] 28)) (by unfold asLaid; rw [hb1.cell (p := ⟨0, 0, none⟩) hgl]; exact hg)
    (by rw [hb1.cell (p := ⟨a, 0, none⟩) hal]; exact ha) (by rw [hb1.cell (p := ⟨a, 1, none⟩) hal]; exact hp)
  clear hg ha hp
  go_enter Tryz.func26, Tryz.ntmps26
  go_wp2_with (first | (go_at_call 86; refine cP.mono ?_; rintro e w1 ⟨rfl, hb2⟩; have c0 : w1.cell? ⟨w.heap.size, 0, none⟩ = some (.int .i64 n) := (hb2.cell (p := ⟨w.heap.size, 0, none⟩) (by simp)).trans (by simp [go_sem]); have c1 : w1.cell? ⟨w.heap.size, 1, none⟩ = some (.int .i64 p) := (hb2.cell (p := ⟨w.heap.size, 1, none⟩) (by simp)).trans (by simp [go_sem])) | fail)
  go_ret
  exact ⟨rfl, hb1.trans (hb2.mono (by simp))⟩

/-- .. at the errors that utf returns. -/
theorem is_at {w0 w w2 : World} {v : Value} {p : Int} (hg : asLaid w) (h : isAt w0 w2 v p) (hb : Below w2.heap.size w2 w) :
    Calls Tryz.prog 26 #[v, .agg #[.int .i64 3, .int .i64 p]] w fun e w' => e = .returned (.bool true) ∧ Below w.heap.size w w' := by
  obtain ⟨b, rfl, _, h2, h3, h4⟩ := isAt_below h hb
  exact is_any_place b 3 p w hg h3 h4
theorem asLaid_below {w w' : World} (h : asLaid w) (hb : Below w.heap.size w w') : asLaid w' := by
  unfold asLaid
  rw [hb.cell (p := ⟨0, 0, none⟩) (World.block_lt_of_cell? w _ h)]
  exact h
end Go.Proofs.YtldhbjmillfjgabGreatDoor

namespace Go.Proofs.YtldhbjmillfjgabGreatDoor
open Go.RowKit Go.Extern.Stop Go.Stop Go.Extern

set_option maxRecDepth 100000 in
set_option maxHeartbeats 4000000 in
theorem As_number (n : Int) (t : Nat) (old : Value) (w : World) (hg : asLaid w) (ht : w.cell? ⟨t, 0, none⟩ = some old) (hf : w.frozen? ⟨t, 0, none⟩ = false) :
    Calls Tryz.prog 80 #[.iface 26 (.int .i64 n), .iface 152 (.pointer (some ⟨t, 0, none⟩))] w
      fun e w' => e = .returned (.bool true) ∧ w'.cell? ⟨t, 0, none⟩ = some (.int .i64 n) ∧ Below t w w' := by
  have hVO := @run_callFunc_extern Tryz.prog 133 _ (fun args => ReflectliteValue.unpack (args.getD 0 (.tuple #[]))) Tryz.func133 (by kernel_rfl) (by kernel_rfl) (by kernel_rfl) (by kernel_rfl)
  have hTy := @run_callFunc_extern Tryz.prog 134 _ (ReflectliteValue.methodAny (ReflectliteValue.valueError "reflectlite.Value.Type" 0) (fun t _ _ _ => ReflectliteType.toType t)) Tryz.func134 (by kernel_rfl) (by kernel_rfl) (by kernel_rfl) (by kernel_rfl)
  have hIN := @run_callFunc_extern Tryz.prog 135 _ (ReflectliteValue.method (ReflectliteValue.valueError "reflectlite.Value.IsNil" 0) ReflectliteValue.isNil) Tryz.func135 (by kernel_rfl) (by kernel_rfl) (by kernel_rfl) (by kernel_rfl)
  have hKd := @run_callFunc_extern Tryz.prog 219 _ (ReflectliteType.abiMethod fun t => do pure (.int .u8 (← Rtype.kind t))) Tryz.func219 (by kernel_rfl) (by kernel_rfl) (by kernel_rfl) (by kernel_rfl)
  have hEl := @run_callFunc_extern Tryz.prog 233 _ (ReflectliteType.method ReflectliteType.elem) Tryz.func233 (by kernel_rfl) (by kernel_rfl) (by kernel_rfl) (by kernel_rfl)
  have hIm := @run_callFunc_extern Tryz.prog 234 _ (ReflectliteType.relation "Implements" ReflectliteType.implements_) Tryz.func234 (by kernel_rfl) (by kernel_rfl) (by kernel_rfl) (by kernel_rfl)
  have f6 := as_valueOf
  have f7 := as_type
  have mK := as_methodKind
  have mE := as_methodElem
  have mI := as_methodImplements
  have k92 := as_kindP
  have k23 := as_kindE
  have e92 := as_elem
  have i23 := as_implements
  have htl := World.block_lt_of_cell? w _ ht
  have hgl := World.block_lt_of_cell? w _ hg
  obtain ⟨o1, ho1⟩ : ∃ o, o = Obj.cells #[.pointer (some ⟨t, 0, none⟩)] 152 := ⟨_, rfl⟩
  obtain ⟨o2, ho2⟩ : ∃ o, o = Obj.cells #[.pointer (some ⟨4, 152, none⟩), .pointer (some ⟨w.heap.size, 0, none⟩), .int .u64 150] 221 := ⟨_, rfl⟩
  have hn8 := as_isNil ⟨w.heap.size, 0, none⟩ ⟨t, 0, none⟩ ((w.alloc o1).alloc o2) (by rw [World.cell?_alloc_lt _ _ ⟨w.heap.size, 0, none⟩ (by rw [World.size_alloc]; exact Nat.lt_succ_self _), ho1]; simp [go_sem])
  have hg2 : ((w.alloc o1).alloc o2).cell? ⟨0, 0, none⟩ = some (.iface 270 (.agg #[.pointer (some ⟨4, 33, none⟩)])) := by
    rw [World.cell?_alloc_lt _ _ ⟨0, 0, none⟩ (by rw [World.size_alloc]; exact Nat.lt_succ_of_lt hgl), World.cell?_alloc_lt _ _ ⟨0, 0, none⟩ hgl]; exact hg
  have hb2 : Below w.heap.size w ((w.alloc o1).alloc o2) := ((Below.refl _ _).alloc (Nat.le_refl _) _).alloc (by rw [World.size_alloc]; exact Nat.le_succ _) _
  have cA := as_number n t w.heap.size old ((w.alloc o1).alloc o2)
    (by rw [World.cell?_alloc_lt _ _ ⟨w.heap.size, 0, none⟩ (by rw [World.size_alloc]; exact Nat.lt_succ_self _), ho1]; simp [go_sem])
    (by rw [hb2.cell (p := ⟨t, 0, none⟩) htl]; exact ht)
    (by rw [hb2.frozen (p := ⟨t, 0, none⟩) htl]; exact hf)
  unfold target at cA
  subst ho1 ho2
  have HB : Hid (Below t w _) := hb2.mono (Nat.le_of_lt htl)
  clear ht hf hg hb2
  go_enter Tryz.func80, Tryz.ntmps80
  go_wp2_with (first | (go_at_call 136; refine cA.mono ?_; rintro e wx ⟨rfl, hc, hbx⟩) | fail)
  go_ret
  exact ⟨rfl, hc, HB.out.trans hbx⟩

set_option maxRecDepth 100000 in
set_option maxHeartbeats 1000000 in
theorem Tell_number (n : Int) (w : World) (hg : asLaid w) :
    Calls Tryz.prog 23 #[.iface 26 (.int .i64 n)] w fun e w' => e = .returned (.int .i64 n) ∧ Below w.heap.size w w' := by
  have hgl := World.block_lt_of_cell? w _ hg
  have hb1 : Below w.heap.size w (w.alloc (.cells #[.int .i64 0] 26)) := (Below.refl _ _).alloc (Nat.le_refl _) _
  have cA := As_number n w.heap.size (.int .i64 0) (w.alloc (.cells #[.int .i64 0] 26)) (by unfold asLaid; rw [hb1.cell (p := ⟨0, 0, none⟩) hgl]; exact hg)
    (by simp [go_sem]) (by simp [go_sem])
  clear hg
  go_enter Tryz.func23, Tryz.ntmps23
  go_wp2_with (first | (go_at_call 80; refine cA.mono ?_; rintro e wx ⟨rfl, hc, hbx⟩) | fail)
  go_ret
  exact ⟨rfl, hb1.trans hbx⟩

theorem num_isPlace (n : Int) (w : World) : (Instr.typeAssert (.iface 26 (.int .i64 n)) 33 233 true).run Tryz.prog w = .ok (.tuple #[.pointer none, .bool false]) w := by kernel_rfl
theorem num_noUnwrap (v : Value) (xT : TypeId) (w : World) : (Instr.typeAssert (.iface 26 v) xT 236 true).run Tryz.prog w = .ok (.tuple #[.nilIface, .bool false]) w := run_typeAssert_lacksB Tryz.underlying236 (by kernel_rfl) (by kernel_rfl) v xT w

set_option maxRecDepth 100000 in
set_option maxHeartbeats 1000000 in
theorem Place_number (n : Int) (w : World) (hg : asLaid w) :
    Calls Tryz.prog 86 #[.iface 26 (.int .i64 n)] w fun e w' => e = .returned (.tuple #[.int .i64 n, .int .i64 (-1)]) ∧ Below w.heap.size w w' := by
  have cT := Tell_number n w hg
  have iP := num_isPlace
  have nU := num_noUnwrap
  clear hg
  go_enter Tryz.func86, Tryz.ntmps86
  go_wp2_with (first | (go_at_call 23; refine cT.mono ?_; rintro e w1 ⟨rfl, hb1⟩) | fail)
  refine wp_loop_rounds 1 ?_
  rw [rounds_succ]
  go_wp2
  go_ret2
  exact ⟨rfl, hb1⟩

theorem is_any_number (n : Int) (w : World) (hg : asLaid w) : Calls Tryz.prog 26 #[.iface 26 (.int .i64 n), .agg #[.int .i64 n, .int .i64 (-1)]] w fun e w' => e = .returned (.bool true) ∧ Below w.heap.size w w' := by
  have hb1 : Below w.heap.size w (w.alloc (.cells #[.int .i64 n, .int .i64 (-1)] 28)) := (Below.refl _ _).alloc (Nat.le_refl _) _
  have cP := Place_number n (w.alloc (.cells #[.int .i64 n, .int .i64 (-1)] 28)) (asLaid_below hg hb1)
  clear hg
  go_enter Tryz.func26, Tryz.ntmps26
  go_wp2_with (first | (go_at_call 86; refine cP.mono ?_; rintro e w1 ⟨rfl, hb2⟩; have c0 : w1.cell? ⟨w.heap.size, 0, none⟩ = some (.int .i64 n) := (hb2.cell (p := ⟨w.heap.size, 0, none⟩) (by simp)).trans (by simp [go_sem]); have c1 : w1.cell? ⟨w.heap.size, 1, none⟩ = some (.int .i64 (-1)) := (hb2.cell (p := ⟨w.heap.size, 1, none⟩) (by simp)).trans (by simp [go_sem])) | fail)
  go_ret
  exact ⟨rfl, hb1.trans (hb2.mono (by simp))⟩

/-- An error number, or none. -/
def errV (n : Int) : Value := if n = 0 then .nilIface else .iface 26 (.int .i64 n)

/-- The law's 'bare', where both tell the same. -/
theorem bare_any (n : Int) (w : World) (hg : asLaid w) : Calls Tryz.prog 13 #[errV n, .int .i64 n] w fun e w' => e = .returned (.bool true) ∧ Below w.heap.size w w' := by
  have cB := Bare_any n w
  unfold errV
  by_cases h : n = 0
  · subst h
    simp only [if_true]
    clear hg
    go_enter Tryz.func13, Tryz.ntmps13
    go_wp2_with (first | (go_at_call 65; refine cB.mono ?_; rintro e w1 ⟨rfl, hb1⟩) | (go_at_call 26; refine (is_any_nil _).mono ?_; rintro e w2 ⟨rfl, hb2⟩) | fail)
    go_ret
    exact ⟨rfl, hb1.trans (hb2.mono hb1.size)⟩
  · simp only [h, if_false]
    have HG : Hid (∀ wx, Below w.heap.size w wx → asLaid wx) := fun wx hb => asLaid_below hg hb
    clear hg
    go_enter Tryz.func13, Tryz.ntmps13
    go_wp2_with (first | (go_at_call 65; refine cB.mono ?_; rintro e w1 ⟨rfl, hb1⟩) | (go_at_call 26; refine (is_any_number n _ (HG.out _ hb1)).mono ?_; rintro e w2 ⟨rfl, hb2⟩) | fail)
    go_ret
    exact ⟨rfl, hb1.trans (hb2.mono hb1.size)⟩
end Go.Proofs.YtldhbjmillfjgabGreatDoor

namespace Go.Proofs.YtldhbjmillfjgabGreatDoor
open Go.RowKit
set_option linter.unusedVariables false

def oneB (p : Pt) : Bool := if p.drop = 0 ∧ p.put = [] then decide (0 < p.keep) else if p.keep = 0 ∧ p.put = [] then decide (0 < p.drop) else decide (p.keep = 0 ∧ p.drop = 0)
def chk1 : List Pt → Int
  | [] => 0
  | p :: ps => if oneB p then (if (scan p.put).2 then chk1 ps else 3) else 1
def chk2 : List Pt → Int → Int
  | [], n => if n = 0 then 0 else 2
  | p :: ps, n => if n < p.keep + p.drop then 2 else chk2 ps (n - (p.keep + p.drop))
def chkE (ps : List Pt) (n : Int) : Int := if chk1 ps = 0 then chk2 ps n else chk1 ps

set_option maxHeartbeats 1000000 in
theorem isOne_any (p : Pt) (w : World) : Calls Tryz.prog 121 #[partV p] w fun e w' => e = .returned (.bool (oneB p)) ∧ Below w.heap.size w w' := by
  obtain ⟨k, d, q⟩ := p
  have cK := isKeep_any ⟨k, d, q⟩
  have cD := isDrop_any ⟨k, d, q⟩
  unfold oneB
  unfold partV at *
  simp only at cK cD ⊢
  by_cases hq : q = []
  · subst hq
    by_cases hd : d = 0
    · subst hd
      go_enter Tryz.func121, Tryz.ntmps121
      go_wp2_with (first | (go_at_call 83; refine (cK _).mono ?_; rintro e w1 ⟨rfl, hb1⟩) | fail)
      go_ret
      exact ⟨by simp, ((Below.refl _ _).alloc (Nat.le_refl _) _).trans (hb1.mono (by simp))⟩
    · have hdb : (d == 0) = false := beq_eq_false_iff_ne.2 hd
      by_cases hk : k = 0
      · subst hk
        go_enter Tryz.func121, Tryz.ntmps121
        go_wp2_with (first | (go_at_call 165; refine (cD _).mono ?_; rintro e w1 ⟨rfl, hb1⟩) | fail)
        go_ret
        exact ⟨by simp, ((Below.refl _ _).alloc (Nat.le_refl _) _).trans (hb1.mono (by simp))⟩
      · have hkb : (k == 0) = false := beq_eq_false_iff_ne.2 hk
        go_enter Tryz.func121, Tryz.ntmps121
        go_wp2
        go_ret
        exact ⟨by simp, (Below.refl _ _).alloc (Nat.le_refl _) _⟩
  · have ho : (if d = 0 ∧ q = [] then decide (0 < k) else if k = 0 ∧ q = [] then decide (0 < d) else decide (k = 0 ∧ d = 0)) = decide (k = 0 ∧ d = 0) := by simp [hq]
    rw [ho]
    clear ho
    have HD : Hid (decide (k = 0 ∧ d = 0) = (k == 0 && d == 0)) := by show _ = _; by_cases h1 : k = 0 <;> by_cases h2 : d = 0 <;> simp [h1, h2]
    rw [HD.out]
    by_cases hd : d = 0
    · subst hd
      by_cases hk : k = 0
      · subst hk
        go_enter Tryz.func121, Tryz.ntmps121
        go_wp2
        go_ret
        exact ⟨rfl, (Below.refl _ _).alloc (Nat.le_refl _) _⟩
      · have hkb : (k == 0) = false := beq_eq_false_iff_ne.2 hk
        go_enter Tryz.func121, Tryz.ntmps121
        go_wp2
        go_ret
        exact ⟨rfl, (Below.refl _ _).alloc (Nat.le_refl _) _⟩
    · have hdb : (d == 0) = false := beq_eq_false_iff_ne.2 hd
      by_cases hk : k = 0
      · subst hk
        go_enter Tryz.func121, Tryz.ntmps121
        go_wp2
        go_ret
        exact ⟨rfl, (Below.refl _ _).alloc (Nat.le_refl _) _⟩
      · have hkb : (k == 0) = false := beq_eq_false_iff_ne.2 hk
        go_enter Tryz.func121, Tryz.ntmps121
        go_wp2
        go_ret
        exact ⟨by rw [hkb]; rfl, (Below.refl _ _).alloc (Nat.le_refl _) _⟩

def wfP (p : Pt) : Prop := -9223372036854775808 ≤ p.keep ∧ p.keep < 9223372036854775808 ∧ -9223372036854775808 ≤ p.drop ∧ p.drop < 9223372036854775808 ∧ p.put.length < 1000000000000

theorem one_sound {p : Pt} (h : oneB p = true) : soundP p ∧ (p.keep = 0 ∨ p.drop = 0) := by
  unfold oneB at h
  unfold soundP
  split at h
  · rename_i h1
    have := of_decide_eq_true h
    exact ⟨⟨by omega, by omega⟩, .inr h1.1⟩
  · split at h
    · rename_i h1
      have := of_decide_eq_true h
      exact ⟨⟨by omega, by omega⟩, .inl h1.1⟩
    · have := of_decide_eq_true h
      exact ⟨⟨by omega, by omega⟩, .inl this.1⟩

theorem chk1_ones {ps : List Pt} (h : chk1 ps = 0) : ∀ p ∈ ps, oneB p = true ∧ (scan p.put).2 = true := by
  induction ps with
  | nil => simp
  | cons p ps ih =>
    unfold chk1 at h
    split at h
    · rename_i h1
      split at h
      · rename_i h2
        intro q hq
        rcases List.mem_cons.1 hq with rfl | hq
        · exact ⟨h1, h2⟩
        · exact ih h q hq
      · cases h
    · cases h

set_option maxRecDepth 100000 in
set_option maxHeartbeats 4000000 in
theorem Check_any (v : Value) (ps : List Pt) (N : Int) (w : World) (hT : Lib.Utf8Tabs 2 3 w) (hr : opAt w v ps) (hwf : ∀ p ∈ ps, wfP p) (hN : -9223372036854775808 ≤ N ∧ N < 9223372036854775808) (hl : ps.length < 10000000) :
    Calls Tryz.prog 68 #[v, .int .i64 N] w fun e w' => e = .returned (errV (chkE ps N)) ∧ Below w.heap.size w w' := by
  obtain ⟨p, c, rfl, r1, r2, r3⟩ := hr
  obtain ⟨n, hn⟩ : ∃ n, n = ps.length := ⟨_, rfl⟩
  rw [← hn] at r1 hl ⊢
  have HN : Hid (n = ps.length) := hn
  clear hn
  have R3 : Hid (ps ≠ [] → ∃ b o, p = some ⟨b, o, none⟩ ∧ b < w.heap.size ∧ ∀ i q, ps[i]? = some q →
    w.cell? ⟨b, o + i * 3, none⟩ = some (.int .i64 q.keep) ∧ w.cell? ⟨b, o + i * 3 + 1, none⟩ = some (.int .i64 q.drop) ∧ w.cell? ⟨b, o + i * 3 + 2, none⟩ = some (.string ⟨q.put.toArray⟩)) := r3
  have HWF : Hid (∀ p ∈ ps, wfP p) := hwf
  have HT : Hid (Lib.Utf8Tabs 2 3 w) := hT
  obtain ⟨hN0, hN1⟩ := hN
  clear r3 hwf hT
  go_enter Tryz.func68, Tryz.ntmps68
  go_wp2
  go_loopw [11] (fun i wr => ∃ (k : Nat), k ≤ n ∧ i = .int .i64 k ∧ chk1 ps = chk1 (ps.drop k) ∧ Below w.heap.size w wr) (fun i _ => n - (intOf i).toNat)
  case atStart => exact ⟨0, Nat.zero_le _, rfl, rfl, Below.refl _ _⟩
  case round =>
    obtain ⟨k, hk, rfl, hch, hwr⟩ := hrel
    by_cases hlt : k < n
    · have hkr : k < ps.length := by rw [← HN.out]; exact hlt
      have hne : ps ≠ [] := by intro e; rw [e] at hkr; exact absurd hkr (Nat.not_lt_zero _)
      obtain ⟨b, o, rfl, hbw, hcell⟩ := R3.out hne
      obtain ⟨c0, c1, c2⟩ := hcell k ps[k] (List.getElem?_eq_getElem hkr)
      have g0 := (hwr.cell (p := ⟨b, o + k * 3, none⟩) hbw).trans c0
      have g1 := (hwr.cell (p := ⟨b, o + k * 3 + 1, none⟩) hbw).trans c1
      have g2 := (hwr.cell (p := ⟨b, o + k * 3 + 2, none⟩) hbw).trans c2
      rw [List.drop_eq_getElem_cons hkr, chk1] at hch
      have hwq := HWF.out ps[k] (List.getElem_mem _)
      generalize ps[k] = q at *
      have hsize := hwr.size
      have HWR : Hid (Below w.heap.size w wr) := hwr
      have hb0 : Below wr.heap.size wr (wr.alloc (.cells #[.int .i64 q.keep, .int .i64 q.drop, .string ⟨q.put.toArray⟩] 50)) := (Below.refl _ _).alloc (Nat.le_refl _) _
      have HB0 : Hid (Below w.heap.size w (wr.alloc (.cells #[.int .i64 q.keep, .int .i64 q.drop, .string ⟨q.put.toArray⟩] 50))) := hwr.trans (hb0.mono hsize)
      have x2 : (wr.alloc (.cells #[.int .i64 q.keep, .int .i64 q.drop, .string ⟨q.put.toArray⟩] 50)).cell? ⟨wr.heap.size, 2, none⟩ = some (.string ⟨q.put.toArray⟩) := by simp [go_sem]
      have X2 : Hid _ := x2
      have cO := isOne_any q
      unfold partV at cO
      have cV : Hid (∀ wx, Below w.heap.size w wx → Calls Tryz.prog 122 #[.string ⟨q.put.toArray⟩] wx fun e w' => e = .returned (.bool (scan q.put).2) ∧ Below wx.heap.size wx w') := fun wx hb =>
        ValidString_any ⟨q.put.toArray⟩ wx (by have := hwq.2.2.2.2; simp [ByteArray.size]; omega) (Go.Proofs.Utf8Tabs_below HT.out hb)
      by_cases h1 : oneB q = true
      · rw [if_pos h1] at hch
        rw [h1] at cO
        by_cases h2 : (scan q.put).2 = true
        · rw [if_pos h2] at hch
          rw [h2] at cV
          have HCH : Hid (chk1 ps = chk1 (ps.drop (k + 1))) := hch
          clear hcell c0 c1 c2 hch hwq hwr hb0 x2 HWF h1 h2
          go_wp2_with (first | (go_at_call 121; refine (cO _).mono ?_; rintro e w1 ⟨rfl, hb1⟩; have HB1 : Hid (Below w.heap.size w w1) := HB0.out.trans (hb1.mono HB0.out.size); have hc2 := (hb1.cell (p := ⟨wr.heap.size, 2, none⟩) (by simp)).trans X2.out; clear hb1) | (go_at_call 122; refine (cV.out _ HB1.out).mono ?_; rintro e w2 ⟨rfl, hb2⟩; have HB2 : Hid (Below w.heap.size w w2) := HB1.out.trans (hb2.mono HB1.out.size); clear hb2) | fail)
          go_roundw
          case rel => exact ⟨k + 1, by omega, by go_num, HCH.out, HB2.out⟩
          case measure => simp [intOf]; omega
        · have h2 : (scan q.put).2 = false := Bool.eq_false_iff.2 h2
          rw [h2] at hch cV
          have HCH : Hid (chk1 ps = 3) := by show chk1 ps = 3; simpa using hch
          clear hcell c0 c1 c2 hch hwq hwr hb0 x2 HWF h1 h2
          go_wp2_with (first | (go_at_call 121; refine (cO _).mono ?_; rintro e w1 ⟨rfl, hb1⟩; have HB1 : Hid (Below w.heap.size w w1) := HB0.out.trans (hb1.mono HB0.out.size); have hc2 := (hb1.cell (p := ⟨wr.heap.size, 2, none⟩) (by simp)).trans X2.out; clear hb1) | (go_at_call 122; refine (cV.out _ HB1.out).mono ?_; rintro e w2 ⟨rfl, hb2⟩; have HB2 : Hid (Below w.heap.size w w2) := HB1.out.trans (hb2.mono HB1.out.size); clear hb2) | fail)
          go_ret
          refine ⟨?_, HB2.out⟩
          unfold chkE
          rw [HCH.out]
          rfl
      · have h1 : oneB q = false := Bool.eq_false_iff.2 h1
        rw [h1] at hch cO
        have HCH : Hid (chk1 ps = 1) := by show chk1 ps = 1; simpa using hch
        clear hcell c0 c1 c2 hch hwq hwr hb0 x2 HWF h1
        go_wp2_with (first | (go_at_call 121; refine (cO _).mono ?_; rintro e w1 ⟨rfl, hb1⟩; have HB1 : Hid (Below w.heap.size w w1) := HB0.out.trans (hb1.mono HB0.out.size); clear hb1) | fail)
        go_ret
        refine ⟨?_, HB1.out⟩
        unfold chkE
        rw [HCH.out]
        rfl
    · have e : ps.drop k = [] := List.drop_of_length_le (by rw [← HN.out]; omega)
      rw [e] at hch
      have H0 : Hid (chk1 ps = 0) := hch
      have HWR : Hid (Below w.heap.size w wr) := hwr
      have HON : Hid (∀ p ∈ ps, soundP p ∧ (p.keep = 0 ∨ p.drop = 0)) := fun p hp => one_sound (chk1_ones hch p hp).1
      clear e hch hwr
      go_wp2
      go_loopw [1, 27] (fun m i wr => ∃ (k : Nat) (M : Int), k ≤ n ∧ i = .int .i64 k ∧ m = .int .i64 M ∧ -9223372036854775808 ≤ M ∧ M < 9223372036854775808 ∧ chk2 ps N = chk2 (ps.drop k) M ∧ Below w.heap.size w wr) (fun _ i _ => n - (intOf i).toNat)
      case atStart => exact ⟨0, N, Nat.zero_le _, rfl, rfl, hN0, hN1, rfl, HWR.out⟩
      case round =>
        obtain ⟨k, M, hk, rfl, rfl, hM0, hM1, hch, hwr⟩ := hrel
        by_cases hlt : k < n
        · have hkr : k < ps.length := by rw [← HN.out]; exact hlt
          have hne : ps ≠ [] := by intro e; rw [e] at hkr; exact absurd hkr (Nat.not_lt_zero _)
          obtain ⟨b, o, rfl, hbw, hcell⟩ := R3.out hne
          obtain ⟨c0, c1, c2⟩ := hcell k ps[k] (List.getElem?_eq_getElem hkr)
          have g0 := (hwr.cell (p := ⟨b, o + k * 3, none⟩) hbw).trans c0
          have g1 := (hwr.cell (p := ⟨b, o + k * 3 + 1, none⟩) hbw).trans c1
          have g2 := (hwr.cell (p := ⟨b, o + k * 3 + 2, none⟩) hbw).trans c2
          rw [List.drop_eq_getElem_cons hkr, chk2] at hch
          have hwq := HWF.out ps[k] (List.getElem_mem _)
          have hon := HON.out ps[k] (List.getElem_mem _)
          generalize ps[k] = q at *
          obtain ⟨⟨s0, s1⟩, s2⟩ := hon
          have hsum0 : 0 ≤ q.keep + q.drop := by omega
          have hsum1 : q.keep + q.drop < 9223372036854775808 := by have := hwq.2.1; have := hwq.2.2.2.1; omega
          have hw1 : IntKind.i64.wrap (q.keep + q.drop) = q.keep + q.drop := by rw [IntKind.wrap_i64]; omega
          have HB0 : Hid (Below w.heap.size w (wr.alloc (.cells #[.int .i64 q.keep, .int .i64 q.drop, .string ⟨q.put.toArray⟩] 50))) := hwr.alloc hwr.size _
          by_cases h1 : M < q.keep + q.drop
          · rw [if_pos h1] at hch
            have HCH : Hid (chk2 ps N = 2) := hch
            clear hcell c0 c1 c2 hch hwq hwr HWF s2
            go_wp2
            go_ret
            refine ⟨?_, HB0.out⟩
            unfold chkE
            rw [if_pos H0.out, HCH.out]
            rfl
          · rw [if_neg h1] at hch
            have HCH : Hid (chk2 ps N = chk2 (ps.drop (k + 1)) (M - (q.keep + q.drop))) := hch
            have hw2 : IntKind.i64.wrap (M - (q.keep + q.drop)) = M - (q.keep + q.drop) := by rw [IntKind.wrap_i64]; omega
            clear hcell c0 c1 c2 hch hwq hwr HWF s2
            go_wp2
            go_roundw
            case rel => exact ⟨k + 1, M - (q.keep + q.drop), by omega, by go_num, by first | rfl | go_num, by omega, by omega, HCH.out, HB0.out⟩
            case measure => simp [intOf]; omega
        · have e : ps.drop k = [] := List.drop_of_length_le (by rw [← HN.out]; omega)
          rw [e, chk2] at hch
          have HX : Hid (Below w.heap.size w wr) := hwr
          by_cases h0 : M = 0
          · rw [if_pos h0] at hch
            subst h0
            have HCH : Hid (chk2 ps N = 0) := hch
            clear e hch hwr
            go_wp2
            go_ret
            refine ⟨?_, HX.out⟩
            unfold chkE
            rw [if_pos H0.out, HCH.out]
            rfl
          · rw [if_neg h0] at hch
            have hmb : (M == 0) = false := beq_eq_false_iff_ne.2 h0
            have HCH : Hid (chk2 ps N = 2) := hch
            clear e hch hwr
            go_wp2
            go_ret
            refine ⟨?_, HX.out⟩
            unfold chkE
            rw [if_pos H0.out, HCH.out]
            rfl
end Go.Proofs.YtldhbjmillfjgabGreatDoor

namespace Go.Proofs.YtldhbjmillfjgabGreatDoor
set_option linter.unusedVariables false

def lengthP (p : Pt) : Int := p.keep + p.drop + p.put.length
/-- A part that is one thing, and not nothing. -/
def oneP (p : Pt) : Prop := (0 < p.keep ∧ p.drop = 0 ∧ p.put = []) ∨ (p.keep = 0 ∧ 0 < p.drop ∧ p.put = []) ∨ (p.keep = 0 ∧ p.drop = 0 ∧ p.put ≠ [])
theorem length_pos {p : Pt} (h : oneP p) : 0 < lengthP p := by
  unfold lengthP
  rcases h with ⟨h1, h2, h3⟩ | ⟨h1, h2, h3⟩ | ⟨h1, h2, h3⟩
  · rw [h2, h3]; simp; omega
  · rw [h1, h3]; simp; omega
  · have := List.length_pos_iff.2 h3; omega
end Go.Proofs.YtldhbjmillfjgabGreatDoor

namespace Go.Proofs.YtldhbjmillfjgabGreatDoor
set_option linter.unusedVariables false

def unitK (d : Bool) (k : Nat) : Pt := if d then ⟨0, k, []⟩ else ⟨k, 0, []⟩
theorem one_cases {p : Pt} (h : oneP p) : (∃ u, u ≠ [] ∧ p = ⟨0, 0, u⟩) ∨ ∃ d n, p = unitK d (n + 1) := by
  obtain ⟨K, D, U⟩ := p
  rcases h with ⟨h1, h2, h3⟩ | ⟨h1, h2, h3⟩ | ⟨h1, h2, h3⟩
  · obtain rfl : D = 0 := h2
    obtain rfl : U = [] := h3
    replace h1 : 0 < K := h1
    refine .inr ⟨false, K.toNat - 1, ?_⟩
    have : K = ((K.toNat - 1 + 1 : Nat) : Int) := by omega
    show (⟨K, 0, []⟩ : Pt) = ⟨((K.toNat - 1 + 1 : Nat) : Int), 0, []⟩
    rw [← this]
  · obtain rfl : K = 0 := h1
    obtain rfl : U = [] := h3
    replace h2 : 0 < D := h2
    refine .inr ⟨true, D.toNat - 1, ?_⟩
    have : D = ((D.toNat - 1 + 1 : Nat) : Int) := by omega
    show (⟨0, D, []⟩ : Pt) = ⟨0, ((D.toNat - 1 + 1 : Nat) : Int), []⟩
    rw [← this]
  · obtain rfl : K = 0 := h1
    obtain rfl : D = 0 := h2
    exact .inl ⟨U, h3, rfl⟩
end Go.Proofs.YtldhbjmillfjgabGreatDoor

namespace Go.Proofs.YtldhbjmillfjgabGreatDoor
set_option linter.unusedVariables false

structure OneS (s : NSt) : Prop where
  out : ∀ p ∈ s.out, oneP p
  drop : 0 ≤ s.drop
theorem tell_one {s : NSt} (h : OneS s) : ∀ p ∈ tellP s, oneP p := by
  intro p hp
  unfold tellP at hp
  rcases List.mem_append.1 hp with hp | hp
  · exact h.out p hp
  · rcases List.mem_append.1 hp with hp | hp
    · split at hp
      · simp at hp
      · rename_i hne
        rw [List.mem_singleton.1 hp]
        exact .inr (.inr ⟨rfl, rfl, hne⟩)
    · split at hp
      · simp at hp
      · rename_i hne
        rw [List.mem_singleton.1 hp]
        have := h.drop
        exact .inr (.inl ⟨rfl, by show 0 < s.drop; omega, rfl⟩)
theorem push_one {l : List Pt} (h : ∀ p ∈ l, oneP p) {k : Int} (hk : 0 < k) : ∀ p ∈ pushKeep l k, oneP p := by
  intro p hp
  unfold pushKeep at hp
  have hnew : oneP (⟨k, 0, []⟩ : Pt) := .inl ⟨hk, rfl, rfl⟩
  cases hq : l.getLast? with
  | none =>
    rw [hq] at hp
    simp only [List.mem_append, List.mem_singleton] at hp
    rcases hp with hp | rfl
    · exact h p hp
    · exact hnew
  | some q =>
    rw [hq] at hp
    have hql : q ∈ l := List.mem_of_getLast? hq
    simp only at hp
    split at hp
    · rename_i h0
      simp only [List.mem_append, List.mem_singleton] at hp
      rcases hp with hp | rfl
      · exact h p (List.dropLast_subset l hp)
      · rcases h q hql with ⟨h1, h2, h3⟩ | ⟨h1, _, _⟩ | ⟨h1, _, _⟩
        · exact .inl ⟨by show 0 < q.keep + k; omega, h2, h3⟩
        · omega
        · omega
    · simp only [List.mem_append, List.mem_singleton] at hp
      rcases hp with hp | rfl
      · exact h p hp
      · exact hnew
theorem add_one {s : NSt} (h : OneS s) (p : Pt) (hk : 0 ≤ p.keep) (hd : 0 ≤ p.drop) : OneS (addP s p) := by
  unfold addP
  have h' : OneS ⟨s.out, s.put ++ p.put, s.drop + p.drop⟩ := ⟨h.out, by have := h.drop; show 0 ≤ s.drop + p.drop; omega⟩
  split
  · exact h'
  · rename_i hk0
    exact ⟨push_one (tell_one h') (by omega), by show (0 : Int) ≤ 0; omega⟩
/-- How long it is, is kept. -/
def longP (ps : List Pt) : Int := (ps.map lenP).sum
def longS (s : NSt) : Int := longP s.out + s.drop
theorem long_append (a b : List Pt) : longP (a ++ b) = longP a + longP b := by simp [longP]
theorem tell_long (s : NSt) : longP (tellP s) = longS s := by
  unfold tellP longS
  rw [long_append, long_append]
  by_cases hp : s.put = [] <;> by_cases hd : s.drop = 0 <;> simp [longP, lenP, hp, hd]
theorem push_long (l : List Pt) (k : Int) : longP (pushKeep l k) = longP l + k := by
  unfold pushKeep
  cases hq : l.getLast? with
  | none => simp [longP, lenP]
  | some q =>
    simp only
    split
    · have e : l = l.dropLast ++ [q] := by
        have hne : l ≠ [] := by rintro rfl; simp at hq
        have := List.dropLast_concat_getLast hne
        rw [List.getLast?_eq_some_getLast hne] at hq
        rw [Option.some.inj hq] at this
        exact this.symm
      conv => rhs; rw [e]
      rw [long_append, long_append]
      simp [longP, lenP]
      omega
    · rw [long_append]; simp [longP, lenP]
theorem add_long (s : NSt) (p : Pt) : longS (addP s p) = longS s + lenP p := by
  unfold addP
  split
  · rename_i h
    simp [longS, lenP, h]
    omega
  · show longP (pushKeep _ _) + 0 = _
    rw [push_long, tell_long]
    simp [longS, lenP]
    omega
end Go.Proofs.YtldhbjmillfjgabGreatDoor

namespace Go.Proofs.YtldhbjmillfjgabGreatDoor
open Go.RowKit
set_option linter.unusedVariables false
attribute [local go_sem] Oper.semAt_some

theorem cells_newN (w : World) (n : Nat) (hn : w.heap.size = n) (l : List Value) (t : TypeId) : ∀ j u, l[j]? = some u → (w.alloc (.cells l.toArray t)).cell? ((⟨n, 0, none⟩ : Addr).add j) = some u := by
  subst hn
  exact cells_new w l t
end Go.Proofs.YtldhbjmillfjgabGreatDoor
