/-
  bridge.To by runes: what Check tells; else each part in bytes.
  pos.Convert by units that are none, and within a rune.
  Operations in other units: what comes of them (pure).
  bridge.turn by any units: what comes, or a part that ends within a rune.
  The document's own Check: what it says of any operation.
  The document's Gather: gaps in least form.
  ops.over: what its iterator does with the rounds of a loop.
  ops.checkOver: what it says of an operation over a text.
  ops.Apply: what an operation makes of a text.
  ops.Invert: what takes back what an operation made of a text.
  ops.cut: so much off an operation's first part; the operation's own row is written.
  Side by side: what the walk keeps.
  Compose, pure: what comes of two operations as cells, and what the pairs that are side by side add up to.
  Compose, pure: the cells' gaps, as the document builds them; and that a least form makes the same cells.
  Operations that never cut a rune (pure): what they make, and that a least form cuts none.
  Transform and Compose of operations that never cut a rune (pure): neither do what they tell; and what these make.
  A document in its own form (pure): its rows, their pieces, and what an operation makes of it.
  A slice of integers that is read: nil, or a row's part; its head and tail; appended to a row of one's own; bytes as a string.
  What a piece of a document is in bytes, and what a text is in a document's form: package shape's functions for the three forms.
  How many bytes come of an operation over a document in its own form: what sizeOf's loop keeps (pure, but for the rest's row).
  shape.sizeOf, form 1: how many bytes come, or that a part ends within a rune.
  What play's loop keeps.
  shape.play, form 1: what comes of an operation, or its error.
-/
import Derived.Test.YtldhbjmillfjgabGreatDoorPartB
import Derived.Shelf.Strings.Builder1
import Derived.Shelf.Small.Utf8
import Derived.Shelf.Strings.BuilderF
import Derived.Shelf.Strings.BuilderK
import Derived.Shelf.Utf8.AppendRune
import Derived.Shelf.Utf8.AppendRunePlain
import Derived.Shelf.Utf8.RuneCount
import Derived.Shelf.LaysM
import Derived.Shelf.Strconv.Clone
import Derived.Shelf.Strings.Search1
import Derived.Shelf.Strings.Search2
import Derived.Shelf.Strings.Search3
import Derived.Shelf.Strings.Count
import Derived.Shelf.Strings.Shaped
import Derived.Shelf.Strings.Split
import Derived.Shelf.Unicode.Decode
import Derived.Shelf.Strings.RuneCount
import Derived.Shelf.Unicode.DecodeSlow
import Derived.Shelf.Unicode.DecodeAny
import Derived.Shelf.Strings.BuilderCap
import Derived.Test.YtldhbjmillfjgabGreatDoorProg
import Derived.Test.YtldhbjmillfjgabGreatDoorPartA
import Derived.Laws.EntriesVeiled
import Derived.OwnWalkIn
import Derived.TacticsInMore
import Derived.LoopNIn
import Derived.LoopIn
import Derived.Stop.RegionWithIn
import Derived.Lib.Builder
import Derived.Lib.OthersKept
import Derived.Lib.FrozenHead
import Derived.Deep.LoopGhost
import Derived.Laws.AppendOwnNone
import Derived.Lib.ConvBytes
namespace Go.Proofs.YtldhbjmillfjgabGreatDoor
open Go.RowKit
set_option linter.unusedVariables false
attribute [local go_sem] Oper.semAt_some

theorem sum_pos {l : List Pt} (hl : ∀ q ∈ l, 0 ≤ lenP q) : 0 ≤ longP l := by
  induction l with
  | nil => simp [longP]
  | cons p l ih =>
    have := hl p (by simp)
    have := ih fun x hx => hl x (by simp [hx])
    simp only [longP, List.map_cons, List.sum_cons] at this ⊢
    omega
theorem chk2_long : ∀ {ps : List Pt} {N : Int}, (∀ q ∈ ps, 0 ≤ lenP q) → chk2 ps N = 0 → longP ps = N
  | [], N, _, h => by
    unfold chk2 at h
    split at h
    · rename_i e; simp [longP, e]
    · cases h
  | p :: ps, N, hl, h => by
    unfold chk2 at h
    split at h
    · cases h
    · have := chk2_long (fun q hq => hl q (by simp [hq])) h
      have e : longP (p :: ps) = lenP p + longP ps := by simp [longP]
      rw [e, this]; unfold lenP; omega
theorem chkE_parts {ps : List Pt} {N : Int} (h : chkE ps N = 0) : (∀ p ∈ ps, oneB p = true ∧ (scan p.put).2 = true) ∧ longP ps = N ∧ ∀ q ∈ ps, 0 ≤ lenP q := by
  unfold chkE at h
  split at h
  · rename_i h1
    have h2 := chk1_ones h1
    have h3 : ∀ q ∈ ps, 0 ≤ lenP q := fun q hq => by
      have := (one_sound (h2 q hq).1).1
      unfold soundP at this; unfold lenP; omega
    exact ⟨h2, chk2_long h3 h, h3⟩
  · rename_i h1; exact absurd h h1
theorem oneB_shapes {q : Pt} (h : oneB q = true) : (0 < q.keep ∧ q.drop = 0 ∧ q.put = []) ∨ (q.keep = 0 ∧ 0 < q.drop ∧ q.put = []) ∨ (q.keep = 0 ∧ q.drop = 0 ∧ q.put ≠ []) := by
  unfold oneB at h
  split at h
  · rename_i h1; exact .inl ⟨of_decide_eq_true h, h1.1, h1.2⟩
  · split at h
    · rename_i h1 h2; exact .inr (.inl ⟨h2.1, of_decide_eq_true h, h2.2⟩)
    · rename_i h1 h2
      have h3 := of_decide_eq_true h
      exact .inr (.inr ⟨h3.1, h3.2, fun e => h1 ⟨h3.2, e⟩⟩)
end Go.Proofs.YtldhbjmillfjgabGreatDoor

namespace Go.Proofs.YtldhbjmillfjgabGreatDoor
open Go.RowKit
set_option linter.unusedVariables false
attribute [local go_sem] Oper.semAt_some

def unitOk (u : Int) : Prop := u = 1 ∨ u = 2 ∨ u = 3
end Go.Proofs.YtldhbjmillfjgabGreatDoor

namespace Go.Proofs.YtldhbjmillfjgabGreatDoor
set_option linter.unusedVariables false

/-- A part in another unit. -/
def unit1 (n : Int) (q : Pt) : Pt := if 0 < q.keep then ⟨n, 0, []⟩ else if 0 < q.drop then ⟨0, n, []⟩ else ⟨0, 0, q.put⟩
/-- How much is ahead of a place, as runes. -/
def upTo (rs : List Nat) (u a : Int) : List Nat := find (reachesBy u a) [] rs
def onEdge (rs : List Nat) (u a : Int) : Bool := decide (by_ u (upTo rs u a) = a)
/-- The parts in another unit, and whether all end between two runes. -/
def turnZ (rs : List Nat) (u v : Int) : Int → List Pt → List Pt × Bool
  | _, [] => ([], true)
  | a, q :: qs => if onEdge rs u (a + lenP q) then
      (unit1 (by_ v (upTo rs u (a + lenP q)) - by_ v (upTo rs u a)) q :: (turnZ rs u v (a + lenP q) qs).1, (turnZ rs u v (a + lenP q) qs).2)
    else ([], false)
theorem C2_one (r : Nat) : 1 ≤ C2 [r] := by
  unfold C2 sum2 wide
  simp only [List.map_cons, List.map_nil, List.sum_cons, List.sum_nil, Int.add_zero]
  unfold cH
  split <;> omega
theorem by_one {u : Int} (hu : unitOk u) (r : Nat) : 1 ≤ by_ u [r] := by
  unfold by_
  rcases hu with rfl | rfl | rfl
  · rw [if_pos rfl, C1_len]
    have := List.length_pos_iff.2 (enc_ne r)
    have e : encs [r] = enc r := by simp [encs]
    rw [e]; omega
  · rw [if_neg (by decide), if_pos rfl]
    exact C2_one r
  · rw [if_neg (by decide), if_neg (by decide), if_pos rfl]
    show (1 : Int) ≤ ((1 : Nat) : Int); omega
/-- More runes, more of each unit. -/
theorem by_mono {u : Int} (hu : unitOk u) : ∀ (rs : List Nat) (i j : Nat), i < j → j ≤ rs.length → by_ u (rs.take i) < by_ u (rs.take j)
  | rs, i, j, h, hj => by
    have e : rs.take j = rs.take i ++ (rs.drop i).take (j - i) := by rw [← List.take_add]; congr 1; omega
    rw [e, by_append]
    have hne : (rs.drop i).take (j - i) ≠ [] := fun e => by
      have := congrArg List.length e
      rw [List.length_take, List.length_drop, List.length_nil] at this
      omega
    cases hx : (rs.drop i).take (j - i) with
    | nil => exact absurd hx hne
    | cons r x =>
      have e2 : r :: x = [r] ++ x := rfl
      rw [e2, by_append]
      have := by_one hu r
      have := by_pos u x
      omega
/-- What is ahead of a place: as few runes as reach it. -/
theorem find_least (u a : Int) : ∀ (rs pre : List Nat), a ≤ by_ u (pre ++ rs) → ∃ k, k ≤ rs.length ∧ find (reachesBy u a) pre rs = pre ++ rs.take k ∧ a ≤ by_ u (pre ++ rs.take k) ∧ ∀ i, i < k → by_ u (pre ++ rs.take i) < a
  | [], pre, h => by
    refine ⟨0, Nat.le_refl _, ?_, by simpa using h, fun i hi => absurd hi (Nat.not_lt_zero _)⟩
    have : reachesBy u a pre = true := decide_eq_true (by simpa using h)
    unfold find
    rw [if_pos this]; simp
  | r :: rs, pre, h => by
    by_cases h0 : a ≤ by_ u pre
    · refine ⟨0, Nat.zero_le _, ?_, by simpa using h0, fun i hi => absurd hi (Nat.not_lt_zero _)⟩
      have : reachesBy u a pre = true := decide_eq_true h0
      unfold find
      rw [if_pos this]; simp
    · obtain ⟨k, k1, k2, k3, k4⟩ := find_least u a rs (pre ++ [r]) (by simpa using h)
      have e : ∀ i, pre ++ (r :: rs).take (i + 1) = (pre ++ [r]) ++ rs.take i := fun i => by simp
      refine ⟨k + 1, by simp; omega, ?_, by rw [e]; exact k3, fun i hi => ?_⟩
      · rw [e, ← k2]
        have hf : reachesBy u a pre = false := decide_eq_false h0
        conv => lhs; unfold find
        rw [hf, if_neg (by decide), seek]
        conv => rhs; unfold find
        split
        · rfl
        · simp
      · cases i with
        | zero => rw [List.take_zero, List.append_nil]; omega
        | succ i => rw [e]; exact k4 i (by omega)
/-- What is ahead, as the first runes. -/
theorem upTo_least (rs : List Nat) (u a : Int) (h : a ≤ by_ u rs) : ∃ k, k ≤ rs.length ∧ upTo rs u a = rs.take k ∧ a ≤ by_ u (rs.take k) ∧ ∀ i, i < k → by_ u (rs.take i) < a := by
  obtain ⟨k, h1, h2, h3, h4⟩ := find_least u a rs [] (by simpa using h)
  exact ⟨k, h1, by unfold upTo; simpa using h2, by simpa using h3, fun i hi => by simpa using h4 i hi⟩
/-- The first of the places at which it is just so much; there is one where what is ahead is so much. -/
theorem edge_first {u : Int} (hu : unitOk u) {rs : List Nat} {a : Int} (h : a ≤ by_ u rs) :
    (onEdge rs u a = true → ∃ k, k ≤ rs.length ∧ upTo rs u a = rs.take k ∧ by_ u (rs.take k) = a ∧ ∀ i, i < k → by_ u (rs.take i) ≠ a) ∧
    (onEdge rs u a = false → ∀ i, i ≤ rs.length → by_ u (rs.take i) ≠ a) := by
  obtain ⟨k, h1, h2, h3, h4⟩ := upTo_least rs u a h
  unfold onEdge
  rw [h2]
  refine ⟨fun e => ⟨k, h1, h2 ▸ rfl, of_decide_eq_true e, fun i hi => by have := h4 i hi; omega⟩, fun e i hi e2 => ?_⟩
  have hne : by_ u (rs.take k) ≠ a := of_decide_eq_false e
  by_cases hik : i < k
  · have := h4 i hik; omega
  · by_cases hke : k = i
    · subst hke; exact hne e2
    · have := by_mono hu rs k i (by omega) hi
      omega
theorem upTo_le {u v : Int} (rs : List Nat) {a : Int} (h : a ≤ by_ u rs) : by_ v (upTo rs u a) ≤ by_ v rs := by
  obtain ⟨k, h1, h2, _, _⟩ := upTo_least rs u a h
  rw [h2]
  have e : rs = rs.take k ++ rs.drop k := (List.take_append_drop k rs).symm
  have : by_ v rs = by_ v (rs.take k) + by_ v (rs.drop k) := by rw [← by_append, List.take_append_drop]
  have := by_pos v (rs.drop k)
  omega
theorem upTo_mono {u v : Int} (rs : List Nat) {a b : Int} (hab : a ≤ b) (h : b ≤ by_ u rs) : by_ v (upTo rs u a) ≤ by_ v (upTo rs u b) := by
  obtain ⟨k, k1, k2, k3, k4⟩ := upTo_least rs u a (by omega)
  obtain ⟨j, j1, j2, j3, j4⟩ := upTo_least rs u b h
  rw [k2, j2]
  have hkj : k ≤ j := by
    by_cases hh : k ≤ j
    · exact hh
    · have := k4 j (by omega); omega
  have e : rs.take j = rs.take k ++ (rs.drop k).take (j - k) := by rw [← List.take_add]; congr 1; omega
  rw [e, by_append]
  have := by_pos v ((rs.drop k).take (j - k))
  omega
theorem upTo_zero (rs : List Nat) (u : Int) : upTo rs u 0 = [] := find_zero u rs
end Go.Proofs.YtldhbjmillfjgabGreatDoor

namespace Go.Proofs.YtldhbjmillfjgabGreatDoor
open Go.RowKit
set_option linter.unusedVariables false
attribute [local go_sem] Oper.semAt_some

/-- What comes of parts in another unit; none, where one ends within a rune. -/
def turnO (rs : List Nat) (u v : Int) (qs : List Pt) : List Pt := if (turnZ rs u v 0 qs).2 then (turnZ rs u v 0 qs).1 else []
def turnX (rs : List Nat) (u v : Int) (qs : List Pt) : Int := if (turnZ rs u v 0 qs).2 then 0 else 10
end Go.Proofs.YtldhbjmillfjgabGreatDoor

namespace Go.Proofs.YtldhbjmillfjgabGreatDoor
open Go.RowKit
set_option linter.unusedVariables false

theorem refRunes_told (s : ByteArray) (hs : s.size < 100000000) (w : World) : Calls Tryz.prog 56 #[.string s] w fun e w' => ∃ p n c d, e = .returned (.tuple #[.slice p n c, .agg #[.int .i64 (if (scan s.data.toList).2 then 0 else 3), .int .i64 d]]) ∧ Below w.heap.size w w' := by
  refine (refRunes_any s hs w).mono ?_
  rintro e w' ⟨hb, ⟨h, v, rfl, hv⟩ | ⟨h, rfl⟩⟩
  · rw [if_pos h]
    obtain ⟨p, c, rfl, _⟩ := hv
    exact ⟨_, _, _, _, rfl, hb⟩
  · rw [if_neg (by rw [h]; simp)]
    exact ⟨_, _, _, _, rfl, hb⟩

theorem one_shapes {K D : Int} {U : List UInt8} (h : oneB ⟨K, D, U⟩ = true) : (D = 0 ∧ U = [] ∧ 0 < K) ∨ (K = 0 ∧ U = [] ∧ 0 < D) ∨ (K = 0 ∧ D = 0 ∧ U ≠ []) := by
  unfold oneB at h
  split at h
  · rename_i h1
    exact .inl ⟨h1.1, h1.2, of_decide_eq_true h⟩
  · rename_i h0
    split at h
    · rename_i h1
      exact .inr (.inl ⟨h1.1, h1.2, of_decide_eq_true h⟩)
    · have := of_decide_eq_true h
      exact .inr (.inr ⟨this.1, this.2, fun e => h0 ⟨this.2, e⟩⟩)
theorem none_shapes {K D : Int} {U : List UInt8} (h : oneB ⟨K, D, U⟩ = false) : (K ≠ 0 ∧ D ≠ 0 ∧ U ≠ []) ∨ (K ≠ 0 ∧ D ≠ 0 ∧ U = []) ∨ (K ≠ 0 ∧ D = 0 ∧ U ≠ []) ∨ (K = 0 ∧ D ≠ 0 ∧ U ≠ []) ∨ (K = 0 ∧ D = 0 ∧ U = []) ∨ (K < 0 ∧ D = 0 ∧ U = []) ∨ (K = 0 ∧ D < 0 ∧ U = []) := by
  unfold oneB at h
  by_cases h1 : K = 0 <;> by_cases h2 : D = 0 <;> by_cases h3 : U = [] <;> simp [h1, h2, h3] at h ⊢ <;> omega

set_option maxRecDepth 100000 in
set_option maxHeartbeats 4000000 in
theorem refCheck_any (v : Value) (ps : List Pt) (N : Int) (w : World) (hr : opAt w v ps) (hwf : ∀ p ∈ ps, wfP p) (hsm : ∀ p ∈ ps, p.put.length < 100000000) (hN : -9223372036854775808 ≤ N ∧ N < 9223372036854775808) (hl : ps.length < 10000000) :
    Calls Tryz.prog 62 #[v, .int .i64 N] w fun e w' => e = .returned (.int .i64 (chkE ps N)) ∧ Below w.heap.size w w' := by
  obtain ⟨p, c, rfl, r1, r2, r3⟩ := hr
  obtain ⟨n, hn⟩ : ∃ n, n = ps.length := ⟨_, rfl⟩
  rw [← hn] at r1 hl ⊢
  have HN : Hid (n = ps.length) := hn
  clear hn
  have R3 : Hid (ps ≠ [] → ∃ b o, p = some ⟨b, o, none⟩ ∧ b < w.heap.size ∧ ∀ i q, ps[i]? = some q →
    w.cell? ⟨b, o + i * 3, none⟩ = some (.int .i64 q.keep) ∧ w.cell? ⟨b, o + i * 3 + 1, none⟩ = some (.int .i64 q.drop) ∧ w.cell? ⟨b, o + i * 3 + 2, none⟩ = some (.string ⟨q.put.toArray⟩)) := r3
  have HWF : Hid (∀ p ∈ ps, wfP p) := hwf
  have HSM : Hid (∀ p ∈ ps, p.put.length < 100000000) := hsm
  obtain ⟨hN0, hN1⟩ := hN
  clear r3 hwf hsm
  go_enter Tryz.func62, Tryz.ntmps62
  go_wp2
  go_loopw [14] (fun i wr => ∃ (k : Nat), k ≤ n ∧ i = .int .i64 k ∧ chk1 ps = chk1 (ps.drop k) ∧ Below w.heap.size w wr) (fun i _ => n - (intOf i).toNat)
  case atStart => exact ⟨0, Nat.zero_le _, rfl, rfl, Below.refl _ _⟩
  case round =>
    obtain ⟨k, hk, rfl, hch, hwr⟩ := hrel
    by_cases hlt : k < n
    · have hkr : k < ps.length := by rw [← HN.out]; exact hlt
      have hne : ps ≠ [] := by intro e; rw [e] at hkr; exact absurd hkr (Nat.not_lt_zero _)
      obtain ⟨b, o, rfl, hbw, hcell⟩ := R3.out hne
      obtain ⟨c0, c1, c2⟩ := hcell k ps[k] (List.getElem?_eq_getElem hkr)
      have g0 := (hwr.cell (p := ⟨b, o + k * 3, none⟩) hbw).trans c0
      have g1 := (hwr.cell (p := ⟨b, o + k * 3 + 1, none⟩) hbw).trans c1
      have g2 := (hwr.cell (p := ⟨b, o + k * 3 + 2, none⟩) hbw).trans c2
      rw [List.drop_eq_getElem_cons hkr, chk1] at hch
      have hwq := HWF.out ps[k] (List.getElem_mem _)
      have hsm := HSM.out ps[k] (List.getElem_mem _)
      generalize ps[k] = q at *
      obtain ⟨K, D, U⟩ := q
      have hsize := hwr.size
      have HWR : Hid (Below w.heap.size w wr) := hwr
      have HBA : Hid (∀ o w2, Below (wr.alloc o).heap.size (wr.alloc o) w2 → Below w.heap.size w w2) := fun o w2 h => (hwr.alloc hsize o).trans (h.mono (hwr.alloc hsize o).size)
      have HBO : Hid (∀ o, Below w.heap.size w (wr.alloc o)) := fun o => hwr.alloc hsize o
      have cR' := fun wx => refRunes_told ⟨U.toArray⟩ (by simpa [ByteArray.size] using hsm) wx
      simp only at hch cR' g0 g1 g2
      by_cases h1 : oneB ⟨K, D, U⟩ = true
      · rw [if_pos h1] at hch
        by_cases h2 : (scan U).2 = true
        · rw [if_pos h2] at hch
          simp only [h2, if_true] at cR'
          have HCH : Hid (chk1 ps = chk1 (ps.drop (k + 1))) := hch
          have hsh := one_shapes h1
          clear hcell c0 c1 c2 hch hwq hwr HWF HSM h1 h2 hsm
          rcases hsh with ⟨rfl, rfl, s⟩ | ⟨rfl, rfl, s⟩ | ⟨rfl, rfl, s⟩
          · have sb : (K == 0) = false := beq_eq_false_iff_ne.2 (by omega)
            have sn : ¬ K < 0 := by omega
            have cR : ∀ wx, Calls Tryz.prog 56 #[.string ⟨#[]⟩] wx fun e w' => ∃ p n c d, e = .returned (.tuple #[.slice p n c, .agg #[.int .i64 0, .int .i64 d]]) ∧ Below wx.heap.size wx w' := cR'
            clear cR'
            go_wp2_with (first | (go_at_call 56; refine (cR _).mono ?_; rintro e w2 ⟨pp, nn, cc, dd, rfl, hb2⟩; have HB2 : Hid (Below w.heap.size w w2) := HBA.out _ _ hb2; clear hb2) | fail)
            go_roundw
            case rel => exact ⟨k + 1, by omega, by go_num, HCH.out, HB2.out.alloc HB2.out.size _⟩
            case measure => simp [intOf]; omega
          · have sb : (D == 0) = false := beq_eq_false_iff_ne.2 (by omega)
            have sn : ¬ D < 0 := by omega
            have cR : ∀ wx, Calls Tryz.prog 56 #[.string ⟨#[]⟩] wx fun e w' => ∃ p n c d, e = .returned (.tuple #[.slice p n c, .agg #[.int .i64 0, .int .i64 d]]) ∧ Below wx.heap.size wx w' := cR'
            clear cR'
            go_wp2_with (first | (go_at_call 56; refine (cR _).mono ?_; rintro e w2 ⟨pp, nn, cc, dd, rfl, hb2⟩; have HB2 : Hid (Below w.heap.size w w2) := HBA.out _ _ hb2; clear hb2) | fail)
            go_roundw
            case rel => exact ⟨k + 1, by omega, by go_num, HCH.out, HB2.out.alloc HB2.out.size _⟩
            case measure => simp [intOf]; omega
          · have cR := cR'
            have sU : U.isEmpty = false := by simpa using s
            clear cR'
            go_wp2_with (first | (go_at_call 56; refine (cR _).mono ?_; rintro e w2 ⟨pp, nn, cc, dd, rfl, hb2⟩; have HB2 : Hid (Below w.heap.size w w2) := HBA.out _ _ hb2; clear hb2) | fail)
            go_roundw
            case rel => exact ⟨k + 1, by omega, by go_num, HCH.out, HB2.out.alloc HB2.out.size _⟩
            case measure => simp [intOf]; omega
        · have h2 : (scan U).2 = false := Bool.eq_false_iff.2 h2
          have hU : U ≠ [] := by intro e; rw [e] at h2; cases h2
          rw [h2] at hch
          simp only [h2, Bool.false_eq_true, if_false] at cR'
          have HCH : Hid (chk1 ps = 3) := by show chk1 ps = 3; simpa using hch
          have hsh := one_shapes h1
          clear hcell c0 c1 c2 hch hwq hwr HWF HSM h1 h2 hsm
          rcases hsh with ⟨rfl, rfl, s⟩ | ⟨rfl, rfl, s⟩ | ⟨rfl, rfl, s⟩
          · exact absurd rfl hU
          · exact absurd rfl hU
          · have cR := cR'
            have sU : U.isEmpty = false := by simpa using s
            clear cR'
            go_wp2_with (first | (go_at_call 56; refine (cR _).mono ?_; rintro e w2 ⟨pp, nn, cc, dd, rfl, hb2⟩; have HB2 : Hid (Below w.heap.size w w2) := HBA.out _ _ hb2; clear hb2) | fail)
            go_ret
            refine ⟨?_, HB2.out.alloc HB2.out.size _⟩
            unfold chkE
            rw [HCH.out]
            rfl
      · have h1 : oneB ⟨K, D, U⟩ = false := Bool.eq_false_iff.2 h1
        rw [h1] at hch
        have HCH : Hid (chk1 ps = 1) := by show chk1 ps = 1; simpa using hch
        have hsh := none_shapes h1
        clear hcell c0 c1 c2 hch hwq hwr HWF HSM h1 hsm cR'
        rcases hsh with ⟨s1, s2, s3⟩ | ⟨s1, s2, rfl⟩ | ⟨s1, rfl, s3⟩ | ⟨rfl, s2, s3⟩ | ⟨rfl, rfl, rfl⟩ | ⟨s1, rfl, rfl⟩ | ⟨rfl, s2, rfl⟩
        · have kb : (K == 0) = false := beq_eq_false_iff_ne.2 (by omega)
          have db : (D == 0) = false := beq_eq_false_iff_ne.2 (by omega)
          have sU : U.isEmpty = false := by simpa using s3
          go_wp2
          go_ret
          refine ⟨?_, HBO.out _⟩
          unfold chkE
          rw [HCH.out]
          rfl
        · have kb : (K == 0) = false := beq_eq_false_iff_ne.2 (by omega)
          have db : (D == 0) = false := beq_eq_false_iff_ne.2 (by omega)
          go_wp2
          go_ret
          refine ⟨?_, HBO.out _⟩
          unfold chkE
          rw [HCH.out]
          rfl
        · have kb : (K == 0) = false := beq_eq_false_iff_ne.2 (by omega)
          have sU : U.isEmpty = false := by simpa using s3
          go_wp2
          go_ret
          refine ⟨?_, HBO.out _⟩
          unfold chkE
          rw [HCH.out]
          rfl
        · have db : (D == 0) = false := beq_eq_false_iff_ne.2 (by omega)
          have sU : U.isEmpty = false := by simpa using s3
          go_wp2
          go_ret
          refine ⟨?_, HBO.out _⟩
          unfold chkE
          rw [HCH.out]
          rfl
        · have t0 := HBO.out
          clear t0
          go_wp2
          go_ret
          refine ⟨?_, HBO.out _⟩
          unfold chkE
          rw [HCH.out]
          rfl
        · have kb : (K == 0) = false := beq_eq_false_iff_ne.2 (by omega)
          go_wp2
          go_ret
          refine ⟨?_, HBO.out _⟩
          unfold chkE
          rw [HCH.out]
          rfl
        · have db : (D == 0) = false := beq_eq_false_iff_ne.2 (by omega)
          go_wp2
          go_ret
          refine ⟨?_, HBO.out _⟩
          unfold chkE
          rw [HCH.out]
          rfl
    · have e : ps.drop k = [] := List.drop_of_length_le (by rw [← HN.out]; omega)
      rw [e] at hch
      have H0 : Hid (chk1 ps = 0) := hch
      have HWR : Hid (Below w.heap.size w wr) := hwr
      have HON : Hid (∀ p ∈ ps, soundP p ∧ (p.keep = 0 ∨ p.drop = 0)) := fun p hp => one_sound (chk1_ones hch p hp).1
      clear e hch hwr
      go_wp2
      go_loopw [1, 57] (fun m i wr => ∃ (k : Nat) (M : Int), k ≤ n ∧ i = .int .i64 k ∧ m = .int .i64 M ∧ -9223372036854775808 ≤ M ∧ M < 9223372036854775808 ∧ chk2 ps N = chk2 (ps.drop k) M ∧ Below w.heap.size w wr) (fun _ i _ => n - (intOf i).toNat)
      case atStart => exact ⟨0, N, Nat.zero_le _, rfl, rfl, hN0, hN1, rfl, HWR.out⟩
      case round =>
        obtain ⟨k, M, hk, rfl, rfl, hM0, hM1, hch, hwr⟩ := hrel
        by_cases hlt : k < n
        · have hkr : k < ps.length := by rw [← HN.out]; exact hlt
          have hne : ps ≠ [] := by intro e; rw [e] at hkr; exact absurd hkr (Nat.not_lt_zero _)
          obtain ⟨b, o, rfl, hbw, hcell⟩ := R3.out hne
          obtain ⟨c0, c1, c2⟩ := hcell k ps[k] (List.getElem?_eq_getElem hkr)
          have g0 := (hwr.cell (p := ⟨b, o + k * 3, none⟩) hbw).trans c0
          have g1 := (hwr.cell (p := ⟨b, o + k * 3 + 1, none⟩) hbw).trans c1
          have g2 := (hwr.cell (p := ⟨b, o + k * 3 + 2, none⟩) hbw).trans c2
          rw [List.drop_eq_getElem_cons hkr, chk2] at hch
          have hwq := HWF.out ps[k] (List.getElem_mem _)
          have hon := HON.out ps[k] (List.getElem_mem _)
          generalize ps[k] = q at *
          obtain ⟨⟨s0, s1⟩, s2⟩ := hon
          have hsum0 : 0 ≤ q.keep + q.drop := by omega
          have hsum1 : q.keep + q.drop < 9223372036854775808 := by have := hwq.2.1; have := hwq.2.2.2.1; omega
          have hw1 : IntKind.i64.wrap (q.keep + q.drop) = q.keep + q.drop := by rw [IntKind.wrap_i64]; omega
          have HB0 : Hid (Below w.heap.size w (wr.alloc (.cells #[.int .i64 q.keep, .int .i64 q.drop, .string ⟨q.put.toArray⟩] 50))) := hwr.alloc hwr.size _
          by_cases h1 : M < q.keep + q.drop
          · rw [if_pos h1] at hch
            have HCH : Hid (chk2 ps N = 2) := hch
            by_cases hK : M < q.keep
            · clear hcell c0 c1 c2 hch hwq hwr HWF HSM s2 hw1
              go_wp2
              go_ret
              refine ⟨?_, HB0.out⟩
              unfold chkE
              rw [if_pos H0.out, HCH.out]
              rfl
            · have hD : M < q.drop := by omega
              clear hcell c0 c1 c2 hch hwq hwr HWF HSM s2 hw1
              go_wp2
              go_ret
              refine ⟨?_, HB0.out⟩
              unfold chkE
              rw [if_pos H0.out, HCH.out]
              rfl
          · rw [if_neg h1, ← Int.sub_sub] at hch
            have HCH : Hid (chk2 ps N = chk2 (ps.drop (k + 1)) (M - q.keep - q.drop)) := hch
            have hK : ¬ M < q.keep := by omega
            have hD : ¬ M < q.drop := by omega
            have hw2 : IntKind.i64.wrap (M - q.keep) = M - q.keep := by rw [IntKind.wrap_i64]; omega
            have hw3 : IntKind.i64.wrap (M - q.keep - q.drop) = M - q.keep - q.drop := by rw [IntKind.wrap_i64]; omega
            clear hcell c0 c1 c2 hch hwq hwr HWF HSM s2 hw1
            go_wp2
            go_roundw
            case rel => exact ⟨k + 1, M - q.keep - q.drop, by omega, by go_num, by first | rfl | go_num, by omega, by omega, HCH.out, HB0.out⟩
            case measure => simp [intOf]; omega
        · have e : ps.drop k = [] := List.drop_of_length_le (by rw [← HN.out]; omega)
          rw [e, chk2] at hch
          have HX : Hid (Below w.heap.size w wr) := hwr
          by_cases h0 : M = 0
          · rw [if_pos h0] at hch
            subst h0
            have HCH : Hid (chk2 ps N = 0) := hch
            clear e hch hwr
            go_wp2
            go_ret
            refine ⟨?_, HX.out⟩
            unfold chkE
            rw [if_pos H0.out, HCH.out]
            rfl
          · rw [if_neg h0] at hch
            have hmb : (M == 0) = false := beq_eq_false_iff_ne.2 h0
            have HCH : Hid (chk2 ps N = 2) := hch
            clear e hch hwr
            go_wp2
            go_ret
            refine ⟨?_, HX.out⟩
            unfold chkE
            rw [if_pos H0.out, HCH.out]
            rfl
end Go.Proofs.YtldhbjmillfjgabGreatDoor

namespace Go.Proofs.YtldhbjmillfjgabGreatDoor
open Go.RowKit
set_option linter.unusedVariables false

/-- What the document's gathering keeps is at most so much. -/
structure BdK (s : KSt) (T k : Nat) : Prop where
  put : s.put.length ≤ T
  d0 : 0 ≤ s.drop
  dk : s.drop ≤ k
  k0 : 0 ≤ s.keep
  kk : s.keep ≤ k
  len : s.out.length ≤ 3 * k
theorem tellP_len (s : NSt) : (tellP s).length ≤ s.out.length + 2 := by
  unfold tellP
  simp only [List.length_append]
  split <;> split <;> simp
theorem BdK.step {s : KSt} {T k : Nat} (h : BdK s T k) (x : List UInt8 × Bool) : BdK (stepK s x) (T + x.1.length) (k + 1) := by
  obtain ⟨q, d⟩ := x
  obtain ⟨h1, h2, h3, h4, h5, h6⟩ := h
  have hf : (flushK s q d).put.length ≤ T + q.length ∧ (flushK s q d).drop = s.drop ∧ 0 ≤ (flushK s q d).keep ∧ (flushK s q d).keep ≤ k ∧ (flushK s q d).out.length ≤ 3 * k + 1 := by
    unfold flushK
    split
    · refine ⟨by show (s.put ++ q).length ≤ _; rw [List.length_append]; omega, rfl, ?_, ?_, ?_⟩
      · show 0 ≤ if 0 < s.keep then 0 else s.keep; split <;> omega
      · show (if 0 < s.keep then 0 else s.keep) ≤ _; split <;> omega
      · show (if 0 < s.keep then s.out ++ [⟨s.keep, 0, []⟩] else s.out).length ≤ _
        split
        · rw [List.length_append, List.length_singleton]; omega
        · omega
    · exact ⟨by omega, rfl, h4, h5, by omega⟩
  obtain ⟨f1, f2, f3, f4, f5⟩ := hf
  show BdK (byteK (flushK s q d) d) (T + q.length) (k + 1)
  generalize flushK s q d = t at *
  unfold byteK
  cases d with
  | true => exact ⟨f1, by show 0 ≤ t.drop + 1; omega, by show t.drop + 1 ≤ _; omega, f3, by show t.keep ≤ _; omega, by show t.out.length ≤ _; omega⟩
  | false =>
    have : (tellP ⟨t.out, t.put, t.drop⟩).length ≤ t.out.length + 2 := tellP_len _
    exact ⟨Nat.zero_le _, Int.le_refl _, by show (0 : Int) ≤ _; omega, by show 0 ≤ t.keep + 1; omega, by show t.keep + 1 ≤ _; omega, by show (tellP ⟨t.out, t.put, t.drop⟩).length ≤ _; omega⟩
end Go.Proofs.YtldhbjmillfjgabGreatDoor

namespace Go.Proofs.YtldhbjmillfjgabGreatDoor
open Go.RowKit
set_option linter.unusedVariables false
attribute [local go_sem] Oper.semAt_some

/-- The parts of an operation, each with its piece of the text. -/
def pcs : List Pt → List UInt8 → List (Pt × List UInt8)
  | [], _ => []
  | p :: ps, s => (p, s.take (lenP p).toNat) :: pcs ps (s.drop (lenP p).toNat)
/-- What is left of the text behind so many parts. -/
def leftP : List Pt → List UInt8 → List UInt8
  | [], s => s
  | p :: ps, s => leftP ps (s.drop (lenP p).toNat)

theorem pcs_append (a b : List Pt) (s : List UInt8) : pcs (a ++ b) s = pcs a s ++ pcs b (leftP a s) := by
  induction a generalizing s with
  | nil => rfl
  | cons q a ih => simp [pcs, leftP, ih]
/-- Each part keeps, or drops, no more than is left. -/
def fitsP : List Pt → List UInt8 → Prop
  | [], _ => True
  | p :: ps, s => 0 ≤ p.keep ∧ 0 ≤ p.drop ∧ lenP p ≤ s.length ∧ fitsP ps (s.drop (lenP p).toNat)
end Go.Proofs.YtldhbjmillfjgabGreatDoor

namespace Go.Proofs.YtldhbjmillfjgabGreatDoor
open Go.RowKit
set_option linter.unusedVariables false
attribute [local go_sem] Oper.semAt_some

/-- A byte that begins a rune. -/
def startO (b : UInt8) : Bool := Lib.runeStart (b.toNat : Int)
/-- A piece that begins within a rune. -/
def badPiece (l : List UInt8) : Bool := match l with
  | [] => false
  | b :: _ => !startO b
def badO : List Pt → List UInt8 → Bool
  | [], _ => false
  | p :: ps, s => badPiece (s.take (lenP p).toNat) || badO ps (s.drop (lenP p).toNat)
theorem chkE_ok {ps : List Pt} {n : Int} (h : chkE ps n = 0) : ∀ p ∈ ps, soundP p := by
  unfold chkE at h
  split at h
  · rename_i h1
    exact fun p hp => (one_sound (chk1_ones h1 p hp).1).1
  · rename_i h1
    exact absurd h h1
theorem chk2_fits {ps : List Pt} {s : List UInt8} (hs : ∀ p ∈ ps, soundP p) (h : chk2 ps (s.length : Int) = 0) : fitsP ps s ∧ leftP ps s = [] := by
  induction ps generalizing s with
  | nil =>
    unfold chk2 at h
    refine ⟨trivial, ?_⟩
    split at h
    · exact List.eq_nil_of_length_eq_zero (by show s.length = 0; omega)
    · cases h
  | cons p ps ih =>
    unfold chk2 at h
    have hp := hs p (List.mem_cons_self ..)
    obtain ⟨h1, h2⟩ := hp
    split at h
    · cases h
    · rename_i h3
      have hl : lenP p = p.keep + p.drop := rfl
      have e : ((s.drop (lenP p).toNat).length : Int) = (s.length : Int) - (p.keep + p.drop) := by rw [List.length_drop]; omega
      rw [← e] at h
      obtain ⟨i1, i2⟩ := ih (fun q hq => hs q (List.mem_cons_of_mem _ hq)) h
      exact ⟨⟨h1, h2, by omega, i1⟩, i2⟩
theorem chkE_fits {ps : List Pt} {s : List UInt8} (h : chkE ps (s.length : Int) = 0) : fitsP ps s ∧ leftP ps s = [] := by
  have hs := chkE_ok h
  unfold chkE at h
  split at h
  · exact chk2_fits hs h
  · rename_i h1; exact absurd h h1

/-- What checkOver says. -/
def ordE (ps : List Pt) (s : List UInt8) : Int := if chkE ps (s.length : Int) = 0 then (if badO ps s then 10 else 0) else chkE ps (s.length : Int)

theorem str_size (s : List UInt8) : (ByteArray.mk s.toArray).size = s.length := by simp [ByteArray.size]

end Go.Proofs.YtldhbjmillfjgabGreatDoor

namespace Go.Proofs.YtldhbjmillfjgabGreatDoor
open Go.RowKit
set_option linter.unusedVariables false
attribute [local go_sem] Oper.semAt_some

/-- What a part makes of its piece. -/
def madeP (x : Pt × List UInt8) : List UInt8 := (if 0 < x.1.keep then x.2 else []) ++ x.1.put
def applyP (ps : List Pt) (s : List UInt8) : List UInt8 := (pcs ps s).flatMap madeP

theorem pcs_len (ps : List Pt) (s : List UInt8) (h : fitsP ps s) : (((pcs ps s).map fun x => x.2.length).sum : Nat) ≤ s.length := by
  induction ps generalizing s with
  | nil => simp [pcs]
  | cons p ps ih =>
    obtain ⟨h1, h2, h3, h4⟩ := h
    have := ih _ h4
    simp only [pcs, List.map_cons, List.sum_cons]
    rw [List.length_take]
    rw [List.length_drop] at this
    omega
theorem pcs_puts (ps : List Pt) (s : List UInt8) : (pcs ps s).map (fun x => x.1.put.length) = ps.map fun p => p.put.length := by
  induction ps generalizing s with
  | nil => rfl
  | cons p ps ih => simp [pcs, ih]
def putsP (ps : List Pt) : Nat := (ps.map fun p => p.put.length).sum
theorem made_len (l : List (Pt × List UInt8)) : (l.flatMap madeP).length ≤ (l.map fun x => x.2.length).sum + (l.map fun x => x.1.put.length).sum := by
  induction l with
  | nil => simp
  | cons x l ih =>
    simp only [List.flatMap_cons, List.length_append, List.map_cons, List.sum_cons]
    have : (madeP x).length ≤ x.2.length + x.1.put.length := by
      unfold madeP
      rw [List.length_append]
      split <;> simp
    omega
theorem made_pre {ps : List Pt} {s : List UInt8} (h : fitsP ps s) {pre rest : List (Pt × List UInt8)} (e : pcs ps s = pre ++ rest) : (pre.flatMap madeP).length ≤ s.length + putsP ps := by
  have h1 := made_len pre
  have h2 := pcs_len ps s h
  have h3 := congrArg List.sum (pcs_puts ps s)
  rw [e] at h2 h3
  rw [List.map_append, List.sum_append] at h2 h3
  unfold putsP
  omega

theorem own_put {A B : World} {n N e size k : Nat} {v : Value} {xs : List Value} {r : Loop} (h : A.ownsRow N e size v k xs) (hn : A.heap[n]? = some (.loop r)) (hp : Put1 n A B) : B.ownsRow N e size v k xs := by
  obtain ⟨h0, hrow⟩ := h
  refine ⟨h0, ?_⟩
  rcases hrow with hx | ⟨g, cap, cur, rfl, hg, hgg, rest⟩
  · exact .inl hx
  · refine .inr ⟨g, cap, cur, rfl, hg, (hp.block g ?_).trans hgg, rest⟩
    rintro rfl
    rw [hn] at hgg
    cases hgg
theorem bld_at {T e B b : Nat} {p : Value} {bs : List Value} {w w' : World} (h : Lib.BuilderAt T e B b p bs w) (hb : w'.heap[b]? = w.heap[b]?) (ho : ∀ v, w.ownsRow B e 1 v bs.length bs → w'.ownsRow B e 1 v bs.length bs) : Lib.BuilderAt T e B b p bs w' := by
  obtain ⟨h1, v, h2, h3, h4⟩ := h
  exact ⟨h1, v, hb.trans h2, ho v h3, h4⟩
theorem bld_is {T e B b : Nat} {bs : List Value} {w w' : World} (h : Lib.IsBuilder T e B b bs w) (hb : w'.heap[b]? = w.heap[b]?) (ho : ∀ v, w.ownsRow B e 1 v bs.length bs → w'.ownsRow B e 1 v bs.length bs) : Lib.IsBuilder T e B b bs w' :=
  h.elim (fun h => .inl (bld_at h hb ho)) (fun h => .inr (bld_at h hb ho))
/-- What a round of Apply's loop keeps. -/
structure apI (w : World) (β : Nat) (v1 v2 : Value) (r : Loop) (bs : List UInt8) (A : World) : Prop where
  below : Below w.heap.size w A
  size : β + 5 ≤ A.heap.size
  bld : Lib.IsBuilder 156 5 β β (Lib.byteCells bs) A
  h1 : A.heap[β + 1]? = some (.cells #[v1] 23 (0, 0))
  h2 : A.heap[β + 2]? = some (.cells #[v2] 9 (0, 0))
  h3 : A.heap[β + 3]? = some (.deferred (some []))
  h4 : A.heap[β + 4]? = some (.loop r)
theorem apI.put {w : World} {β : Nat} {v1 v2 : Value} {r r' : Loop} {bs : List UInt8} {A B : World} (h : apI w β v1 v2 r bs A) (hw : w.heap.size ≤ β) (hp : Put1 (β + 4) A B) (hl : B.heap[β + 4]? = some (.loop r')) : apI w β v1 v2 r' bs B :=
  ⟨h.below.trans (hp.below (by omega)), by rw [hp.size]; exact h.size, bld_is h.bld (hp.block β (by omega)) (fun v hv => own_put hv h.h4 hp), (hp.block (β + 1) (by omega)).trans h.h1, (hp.block (β + 2) (by omega)).trans h.h2, (hp.block (β + 3) (by omega)).trans h.h3, hl⟩
theorem apI.kept {w : World} {β : Nat} {v1 v2 : Value} {r : Loop} {bs bs' : List UInt8} {A B : World} (h : apI w β v1 v2 r bs A) (h' : apI w β v1 v2 r bs' B) (hs : A.heap.size ≤ B.heap.size) :
    Same2 (β + 3) A B ∧ A.heap.size ≤ B.heap.size ∧ ∀ (x : Nat), x = β + 1 ∨ x = β + 1 + 1 ∨ x < w.heap.size → B.heap[x]? = A.heap[x]? := by
  refine ⟨⟨h'.h3.trans h.h3.symm, h'.h4.trans h.h4.symm⟩, hs, ?_⟩
  rintro x (rfl | rfl | hx)
  · exact h'.h1.trans h.h1.symm
  · exact h'.h2.trans h.h2.symm
  · exact (h'.below.block x hx).trans (h.below.block x hx).symm

end Go.Proofs.YtldhbjmillfjgabGreatDoor

namespace Go.Proofs.YtldhbjmillfjgabGreatDoor
open Go.RowKit
set_option linter.unusedVariables false
attribute [local go_sem] Oper.semAt_some

theorem gath_put {A B : World} {a n : Nat} {s : NSt} {r : Loop} (h : gath (a + 4) A a s) (hn : A.heap[n]? = some (.loop r)) (ha : a + 3 < n) (hp : Put1 n A B) : gath (a + 4) B a s := by
  have hM := h.le
  have hT := h.top
  obtain ⟨⟨p, c, h1, h2⟩, h3, ⟨p', c', h4, h5⟩, h6, h7, h8, h9⟩ := h
  exact ⟨⟨p, c, (hp.cell (by omega)).trans h1, own_put h2 hn hp⟩, (hp.frozen (by omega)).trans h3, ⟨p', c', (hp.cell (by omega)).trans h4, own_put h5 hn hp⟩, (hp.frozen (by omega)).trans h6, (hp.cell (by omega)).trans h7, (hp.frozen (by omega)).trans h8, (hp.cell (by omega)).trans h9, hM, by rw [hp.size]; exact hT⟩

/-- What a round of Invert's loop keeps. -/
structure ivI (w : World) (a β : Nat) (fv v1 v2 : Value) (r : Loop) (st : NSt) (A : World) : Prop where
  below : Below w.heap.size w A
  size : β + 5 ≤ A.heap.size
  g : gath (a + 4) A a st
  h0 : A.heap[β]? = some (.cells #[fv] 285 (0, 0))
  h1 : A.heap[β + 1]? = some (.cells #[v1] 23 (0, 0))
  h2 : A.heap[β + 2]? = some (.cells #[v2] 9 (0, 0))
  h3 : A.heap[β + 3]? = some (.deferred (some []))
  h4 : A.heap[β + 4]? = some (.loop r)
theorem ivI.put {w : World} {a β : Nat} {fv v1 v2 : Value} {r r' : Loop} {st : NSt} {A B : World} (h : ivI w a β fv v1 v2 r st A) (hw : w.heap.size ≤ β) (ha : a + 4 ≤ β) (hp : Put1 (β + 4) A B) (hl : B.heap[β + 4]? = some (.loop r')) : ivI w a β fv v1 v2 r' st B :=
  ⟨h.below.trans (hp.below (by omega)), by rw [hp.size]; exact h.size, gath_put h.g h.h4 (by omega) hp, (hp.block β (by omega)).trans h.h0, (hp.block (β + 1) (by omega)).trans h.h1, (hp.block (β + 2) (by omega)).trans h.h2, (hp.block (β + 3) (by omega)).trans h.h3, hl⟩
theorem ivI.kept {w : World} {a β : Nat} {fv v1 v2 : Value} {r : Loop} {st st' : NSt} {A B : World} (h : ivI w a β fv v1 v2 r st A) (h' : ivI w a β fv v1 v2 r st' B) (hs : A.heap.size ≤ B.heap.size) :
    Same2 (β + 3) A B ∧ A.heap.size ≤ B.heap.size ∧ ∀ (x : Nat), x = β + 1 ∨ x = β + 1 + 1 ∨ x < w.heap.size → B.heap[x]? = A.heap[x]? := by
  refine ⟨⟨h'.h3.trans h.h3.symm, h'.h4.trans h.h4.symm⟩, hs, ?_⟩
  rintro x (rfl | rfl | hx)
  · exact h'.h1.trans h.h1.symm
  · exact h'.h2.trans h.h2.symm
  · exact (h'.below.block x hx).trans (h.below.block x hx).symm

end Go.Proofs.YtldhbjmillfjgabGreatDoor

namespace Go.Proofs.YtldhbjmillfjgabGreatDoor
open Go.RowKit
set_option linter.unusedVariables false
attribute [local go_sem] Oper.semAt_some

/-- Every block but g that was there stands. -/
structure ButO (g : Nat) (w w' : World) : Prop where
  os : w'.os = w.os
  tape : w'.tape = w.tape
  output : w'.output = w.output
  size : w.heap.size ≤ w'.heap.size
  block : ∀ k, k < w.heap.size → k ≠ g → w'.heap[k]? = w.heap[k]?
theorem ButO.of {g : Nat} {w w' : World} (h : Below w.heap.size w w') : ButO g w w' := ⟨h.os, h.tape, h.output, h.size, fun k hk _ => h.block k hk⟩
theorem ButO.refl (g : Nat) (w : World) : ButO g w w := .of (.refl _ _)
theorem ButO.trans {g : Nat} {a b c : World} (h : ButO g a b) (k : ButO g b c) : ButO g a c :=
  ⟨k.os.trans h.os, k.tape.trans h.tape, k.output.trans h.output, Nat.le_trans h.size k.size, fun i hi hg => (k.block i (Nat.lt_of_lt_of_le hi h.size) hg).trans (h.block i hi hg)⟩
theorem ButO.below {g B : Nat} {w w' : World} (h : ButO g w w') (hg : B ≤ g) (hB : B ≤ w.heap.size) : Below B w w' := ⟨h.os, h.tape, h.output, h.size, fun k hk => h.block k (by omega) (by omega)⟩
theorem ButO.set {g : Nat} {a w : World} (h : ButO g a w) (o : Nat) (u : Value) : ButO g a (w.setCell ⟨g, o, none⟩ u) :=
  h.trans ⟨rfl, rfl, rfl, by simp [World.setCell], fun k _ hk => Below.heap_setCell _ _ _ _ (by show k ≠ g; exact hk)⟩
theorem ButO.drew {g : Nat} {a w : World} (h : ButO g a w) : ButO g a w.drew := h.trans ⟨rfl, rfl, rfl, Nat.le_refl _, fun _ _ _ => rfl⟩

end Go.Proofs.YtldhbjmillfjgabGreatDoor

namespace Go.Proofs.YtldhbjmillfjgabGreatDoor
open Go.RowKit
set_option linter.unusedVariables false
attribute [local go_sem] Oper.semAt_some

/-- The bounds of what is yet to come. -/
structure BdS (t : Pt × Pt → List Pt) (l : List (Pt × Pt)) (s : NSt) (T : Int) (n : Nat) : Prop where
  bd : Bd s T n
  w : T + wts (l.flatMap t) < 1000000000
  n : n + l.length < 10000000
  sound : ∀ x ∈ l, ∀ p ∈ t x, soundP p
  one : ∀ x ∈ l, (t x).length ≤ 1
theorem Bd.more {s : NSt} {T : Int} {n : Nat} (h : Bd s T n) : Bd s T (n + 1) := ⟨h.put, h.d0, h.dT, h.keep, by have := h.len; omega⟩
theorem BdS.head {t : Pt × Pt → List Pt} {x : Pt × Pt} {l : List (Pt × Pt)} {s : NSt} {T : Int} {n : Nat} (h : BdS t (x :: l) s T n) : (∀ p ∈ t x, soundP p) ∧ T + wts (t x) < 1000000000 ∧ n < 10000000 := by
  refine ⟨h.sound x (by simp), ?_, by have := h.n; simp at this; omega⟩
  have h1 := h.w
  have h2 : 0 ≤ wts (l.flatMap t) := wts_nonneg fun p hp => by
    obtain ⟨y, hy, hp⟩ := List.mem_flatMap.1 hp
    exact h.sound y (by simp [hy]) p hp
  rw [List.flatMap_cons] at h1
  unfold wts at h1 h2 ⊢
  rw [List.map_append, List.sum_append] at h1
  omega
theorem BdS.tail {t : Pt × Pt → List Pt} {x : Pt × Pt} {l : List (Pt × Pt)} {s : NSt} {T : Int} {n : Nat} (h : BdS t (x :: l) s T n) : BdS t l ((t x).foldl addP s) (T + wts (t x)) (n + 1) := by
  refine ⟨?_, ?_, by have := h.n; simp at this; omega, fun y hy => h.sound y (by simp [hy]), fun y hy => h.one y (by simp [hy])⟩
  · have h1 := h.one x (by simp)
    have h2 := h.sound x (by simp)
    generalize t x = L at *
    match L, h1 with
    | [], _ => simpa [wts] using h.bd.more
    | [p], _ =>
      have := h.bd.add p (h2 p (by simp))
      simpa [wts] using this
  · have h1 := h.w
    rw [List.flatMap_cons] at h1
    unfold wts at h1 ⊢
    rw [List.map_append, List.sum_append] at h1
    omega
end Go.Proofs.YtldhbjmillfjgabGreatDoor

namespace Go.Proofs.YtldhbjmillfjgabGreatDoor
set_option linter.unusedVariables false

/-- A first part, told apart. -/
theorem one_three {p : Pt} (h : oneP p) : (∃ u, u ≠ [] ∧ p = ⟨0, 0, u⟩) ∨ (∃ n : Nat, p = ⟨(n : Int) + 1, 0, []⟩) ∨ ∃ n : Nat, p = ⟨0, (n : Int) + 1, []⟩ := by
  rcases one_cases h with h | ⟨d, n, rfl⟩
  · exact .inl h
  · cases d with
    | true => exact .inr (.inr ⟨n, rfl⟩)
    | false => exact .inr (.inl ⟨n, rfl⟩)
end Go.Proofs.YtldhbjmillfjgabGreatDoor

namespace Go.Proofs.YtldhbjmillfjgabGreatDoor
set_option linter.unusedVariables false

/-- What a reading of parts must keep, that a least form is read alike. -/
structure ActP {X : Type} (act : X → Pt → X) : Prop where
  none : ∀ x, act x ⟨0, 0, []⟩ = x
  puts : ∀ x u v, act (act x ⟨0, 0, u⟩) ⟨0, 0, v⟩ = act x ⟨0, 0, u ++ v⟩
  drops : ∀ x (a b : Int), 0 ≤ a → 0 ≤ b → act (act x ⟨0, a, []⟩) ⟨0, b, []⟩ = act x ⟨0, a + b, []⟩
  keeps : ∀ x (a b : Int), 0 < a → 0 < b → act (act x ⟨a, 0, []⟩) ⟨b, 0, []⟩ = act x ⟨a + b, 0, []⟩
  split : ∀ x k d u, act x ⟨k, d, u⟩ = act (act (act x ⟨0, 0, u⟩) ⟨0, d, []⟩) ⟨k, 0, []⟩
  swap : ∀ x d u, act (act x ⟨0, d, []⟩) ⟨0, 0, u⟩ = act (act x ⟨0, 0, u⟩) ⟨0, d, []⟩
theorem act_tell {X : Type} {act : X → Pt → X} (h : ActP act) (s : NSt) (x : X) : (tellP s).foldl act x = act (act (s.out.foldl act x) ⟨0, 0, s.put⟩) ⟨0, s.drop, []⟩ := by
  unfold tellP
  rw [List.foldl_append, List.foldl_append]
  by_cases hp : s.put = [] <;> by_cases hd : s.drop = 0 <;> simp [hp, hd, h.none]
theorem act_push {X : Type} {act : X → Pt → X} (h : ActP act) (l : List Pt) (k : Int) (hk : 0 < k) (x : X) : (pushKeep l k).foldl act x = act (l.foldl act x) ⟨k, 0, []⟩ := by
  unfold pushKeep
  cases hq : l.getLast? with
  | none => simp
  | some q =>
    simp only
    split
    · rename_i hq0
      obtain ⟨init, rfl⟩ : ∃ init, l = init ++ [q] := List.getLast?_eq_some_iff.1 hq
      rw [List.dropLast_concat, List.foldl_append, List.foldl_append]
      simp only [List.foldl_cons, List.foldl_nil]
      rw [h.split _ (q.keep + k), h.split _ q.keep q.drop q.put, h.keeps _ _ _ hq0 hk]
    · simp
theorem act_add {X : Type} {act : X → Pt → X} (h : ActP act) (s : NSt) (p : Pt) (hs : 0 ≤ s.drop) (hk : 0 ≤ p.keep) (hd : 0 ≤ p.drop) (x : X) : (tellP (addP s p)).foldl act x = act ((tellP s).foldl act x) p := by
  have e1 : act ((tellP s).foldl act x) p = act (act (act (s.out.foldl act x) ⟨0, 0, s.put ++ p.put⟩) ⟨0, s.drop + p.drop, []⟩) ⟨p.keep, 0, []⟩ := by
    rw [act_tell h, h.split _ p.keep p.drop p.put, h.swap, h.puts, h.drops _ _ _ hs hd]
  rw [e1]
  unfold addP
  split
  · rename_i h0
    rw [act_tell h, h0, h.none]
  · rw [tellP_done, act_push h _ _ (by omega), act_tell h]
end Go.Proofs.YtldhbjmillfjgabGreatDoor

namespace Go.Proofs.YtldhbjmillfjgabGreatDoor
set_option linter.unusedVariables false

/-- Bytes of whole runes. -/
def V (l : List UInt8) : Prop := ∃ rs : List Nat, (∀ r ∈ rs, isRune r) ∧ l = encs rs
theorem V_nil : V [] := ⟨[], by simp, rfl⟩
theorem V_append {a b : List UInt8} (ha : V a) (hb : V b) : V (a ++ b) := by
  obtain ⟨x, hx, rfl⟩ := ha
  obtain ⟨y, hy, rfl⟩ := hb
  exact ⟨x ++ y, fun r hr => (List.mem_append.1 hr).elim (hx r) (hy r), (encs_append x y).symm⟩
theorem V_scan {l : List UInt8} (h : V l) : (scan l).2 = true := by
  obtain ⟨x, hx, rfl⟩ := h
  rw [scan_encs x hx]
theorem V_of_scan {l : List UInt8} (h : (scan l).2 = true) : V l := ⟨runesOf l, fun r hr => runesOf_rune hr, (encs_runesOf h).symm⟩
theorem V_rest {a b : List UInt8} (ha : V a) (hab : V (a ++ b)) : V b := by
  obtain ⟨rs, hr, rfl⟩ := ha
  induction rs generalizing b with
  | nil => exact hab
  | cons r rs ih =>
    obtain ⟨qs, hq, e⟩ := hab
    rw [encs_cons, List.append_assoc] at e
    have h1 := dec_enc (hr r (by simp)) (encs rs ++ b)
    cases qs with
    | nil =>
      have := congrArg List.length e
      have h2 := List.length_pos_iff.2 (enc_ne r)
      have h3 : (encs []).length = 0 := rfl
      rw [List.length_append] at this
      omega
    | cons q qs =>
      rw [encs_cons] at e
      have h2 := dec_enc (hq q (by simp)) (encs qs)
      rw [← e, h1.1] at h2
      obtain ⟨h2, _⟩ := h2
      obtain rfl : r = q := congrArg Prod.fst h2
      exact ih (fun x hx => hr x (by simp [hx])) ⟨qs, fun x hx => hq x (by simp [hx]), List.append_cancel_left e⟩
theorem V_start {b : UInt8} {l : List UInt8} (h : V (b :: l)) : startO b = true := by
  obtain ⟨rs, hr, e⟩ := h
  cases rs with
  | nil => simp [encs] at e
  | cons r rs =>
    obtain ⟨b0, t, e2, h1, _⟩ := enc_starts (hr r (by simp))
    rw [encs_cons, e2, List.cons_append] at e
    have : b = b0 := (List.cons.inj e).1
    rw [this]; exact h1
/-- Puts whole runes, and ends nowhere within one. -/
def al : List Pt → List UInt8 → Prop
  | [], _ => True
  | p :: ps, t => V p.put ∧ V (t.take (lenP p).toNat) ∧ al ps (t.drop (lenP p).toNat)
structure good (ps : List Pt) (t : List UInt8) : Prop where
  one : ∀ p ∈ ps, oneP p
  long : longP ps = t.length
  al : al ps t

theorem long_cons (p : Pt) (ps : List Pt) : longP (p :: ps) = lenP p + longP ps := by simp [longP]
theorem one_len {p : Pt} (h : oneP p) : 0 ≤ lenP p := by
  rcases h with ⟨h1, h2, h3⟩ | ⟨h1, h2, h3⟩ | ⟨h1, h2, h3⟩ <;> simp only [lenP] <;> omega
theorem long_pos {ps : List Pt} (h : ∀ p ∈ ps, oneP p) : 0 ≤ longP ps := by
  induction ps with
  | nil => simp [longP]
  | cons p ps ih =>
    have h1 := ih fun q hq => h q (by simp [hq])
    have h2 := one_len (h p (by simp))
    rw [long_cons]; omega
theorem oneB_of {p : Pt} (h : oneP p) : oneB p = true := by
  unfold oneB
  obtain ⟨K, D, U⟩ := p
  rcases h with ⟨h1, h2, h3⟩ | ⟨h1, h2, h3⟩ | ⟨h1, h2, h3⟩
  · obtain rfl : D = 0 := h2
    obtain rfl : U = [] := h3
    simp; exact h1
  · obtain rfl : K = 0 := h1
    obtain rfl : U = [] := h3
    have h2 : 0 < D := h2
    have : D ≠ 0 := by omega
    simp [this]; exact h2
  · obtain rfl : K = 0 := h1
    obtain rfl : D = 0 := h2
    have h3 : U ≠ [] := h3
    simp [h3]
theorem chk_of {ps : List Pt} {n : Int} (h1 : ∀ p ∈ ps, oneP p) (h2 : ∀ p ∈ ps, V p.put) (h3 : longP ps = n) : chkE ps n = 0 := by
  have e1 : chk1 ps = 0 := by
    clear h3
    induction ps with
    | nil => rfl
    | cons p ps ih =>
      rw [chk1, if_pos (oneB_of (h1 p (by simp))), if_pos (V_scan (h2 p (by simp)))]
      exact ih (fun q hq => h1 q (by simp [hq])) fun q hq => h2 q (by simp [hq])
  unfold chkE
  rw [if_pos e1]
  clear e1 h2
  induction ps generalizing n with
  | nil => simp [longP] at h3; simp [chk2, ← h3]
  | cons p ps ih =>
    rw [long_cons] at h3
    have h4 := long_pos fun q hq => h1 q (List.mem_cons_of_mem _ hq)
    have h5 : p.keep + p.drop = lenP p := rfl
    rw [chk2, if_neg (by omega)]
    exact ih (fun q hq => h1 q (by simp [hq])) (by omega)
theorem al_puts : ∀ {ps : List Pt} {t : List UInt8}, al ps t → ∀ p ∈ ps, V p.put
  | [], _, _, p, hp => by cases hp
  | q :: ps, t, h, p, hp => by
    rcases List.mem_cons.1 hp with rfl | hp
    · exact h.1
    · exact al_puts h.2.2 p hp
theorem bad_of : ∀ {ps : List Pt} {t : List UInt8}, al ps t → badO ps t = false
  | [], _, _ => rfl
  | p :: ps, t, h => by
    rw [badO, bad_of h.2.2, Bool.or_false]
    have := h.2.1
    generalize t.take (lenP p).toNat = l at this
    cases l with
    | nil => rfl
    | cons b l => simp [badPiece, V_start this]
theorem good.chk {ps : List Pt} {t : List UInt8} (h : good ps t) : chkE ps (t.length : Int) = 0 := chk_of h.one (al_puts h.al) h.long
theorem good.ord {ps : List Pt} {t : List UInt8} (h : good ps t) : ordE ps t = 0 := by
  unfold ordE
  rw [if_pos h.chk, bad_of h.al]; rfl

theorem apply_cons (p : Pt) (ps : List Pt) (t : List UInt8) : applyP (p :: ps) t = madeP (p, t.take (lenP p).toNat) ++ applyP ps (t.drop (lenP p).toNat) := rfl
theorem apply_put (u : List UInt8) (ps : List Pt) (t : List UInt8) : applyP (⟨0, 0, u⟩ :: ps) t = u ++ applyP ps t := by
  simp [apply_cons, madeP, lenP]
theorem apply_keep (n : Int) (hn : 0 < n) (ps : List Pt) (t : List UInt8) : applyP (⟨n, 0, []⟩ :: ps) t = t.take n.toNat ++ applyP ps (t.drop n.toNat) := by
  simp [apply_cons, madeP, lenP, hn]
theorem apply_drop (n : Int) (ps : List Pt) (t : List UInt8) : applyP (⟨0, n, []⟩ :: ps) t = applyP ps (t.drop n.toNat) := by
  simp [apply_cons, madeP, lenP]

/-- What is made, and what is left. -/
def actA (x : List UInt8 × List UInt8) (p : Pt) : List UInt8 × List UInt8 := (x.1 ++ (p.put ++ (x.2.drop p.drop.toNat).take p.keep.toNat), (x.2.drop p.drop.toNat).drop p.keep.toNat)
theorem actA_ok : ActP actA := by
  constructor
  · intro x; simp [actA]
  · intro x u v; simp [actA]
  · intro x a b ha hb
    simp only [actA, Int.toNat_zero, List.take_zero, List.append_nil, List.drop_drop, Nat.add_zero]
    rw [show a.toNat + b.toNat = (a + b).toNat by omega]
  · intro x a b ha hb
    simp only [actA, List.nil_append, Int.toNat_zero, List.drop_zero, List.drop_drop, List.append_assoc]
    rw [show (a + b).toNat = a.toNat + b.toNat by omega, List.take_add]
    simp only [Nat.add_zero]
  · intro x k d u; simp [actA]
  · intro x d u; simp [actA]
theorem actA_apply : ∀ (ps : List Pt), (∀ p ∈ ps, oneP p) → ∀ (o t : List UInt8), ps.foldl actA (o, t) = (o ++ applyP ps t, t.drop (longP ps).toNat)
  | [], _, o, t => by simp [applyP, pcs, longP]
  | p :: ps, h, o, t => by
    have h0 := long_pos fun q hq => h q (List.mem_cons_of_mem _ hq)
    rw [List.foldl_cons, actA, actA_apply ps fun q hq => h q (by simp [hq])]
    rw [long_cons]
    rcases one_three (h p (by simp)) with ⟨u, hu, rfl⟩ | ⟨m, rfl⟩ | ⟨m, rfl⟩
    · rw [apply_put]; simp [lenP]
    · rw [apply_keep _ (by omega)]
      simp only [lenP, Int.toNat_zero, List.drop_zero, List.nil_append, List.append_assoc, List.drop_drop]
      rw [show ((m : Int) + 1 + 0 + longP ps).toNat = ((m : Int) + 1).toNat + (longP ps).toNat by omega]
    · rw [apply_drop]
      simp only [lenP, Int.toNat_zero, List.append_nil, List.take_zero, List.drop_drop, Nat.add_zero]
      rw [show (0 + ((m : Int) + 1) + longP ps).toNat = ((m : Int) + 1).toNat + (longP ps).toNat by omega]

/-- Each part begins, and ends, where one may. -/
def Cut (E : Int → Prop) : Int → List Pt → Prop
  | i, [] => E i
  | i, p :: ps => E i ∧ Cut E (i + lenP p) ps
theorem Cut_head {E : Int → Prop} {i : Int} {ps : List Pt} (h : Cut E i ps) : E i := by
  cases ps with
  | nil => exact h
  | cons p ps => exact h.1
theorem Cut_append (E : Int → Prop) : ∀ (a b : List Pt) (i : Int), Cut E i (a ++ b) ↔ Cut E i a ∧ Cut E (i + longP a) b
  | [], b, i => by
    simp only [List.nil_append, longP, List.map_nil, List.sum_nil, Int.add_zero]
    exact ⟨fun h => ⟨Cut_head h, h⟩, fun h => h.2⟩
  | p :: a, b, i => by
    rw [List.cons_append, long_cons, ← Int.add_assoc]
    show (E i ∧ Cut E (i + lenP p) (a ++ b)) ↔ (E i ∧ Cut E (i + lenP p) a) ∧ _
    rw [Cut_append E a b, and_assoc]
theorem Cut_end {E : Int → Prop} {i : Int} {ps : List Pt} (h : Cut E i ps) : E (i + longP ps) := by
  have := (Cut_append E ps [] i).1 (by rw [List.append_nil]; exact h)
  exact this.2
structure CutS (E : Int → Prop) (s : NSt) : Prop where
  out : Cut E 0 s.out
  here : E (longS s)
  puts : ∀ p ∈ s.out, V p.put
  put : V s.put
  one : OneS s
theorem cut_tell {E : Int → Prop} {s : NSt} (h : CutS E s) : Cut E 0 (tellP s) ∧ ∀ p ∈ tellP s, V p.put := by
  have h1 := Cut_end h.out
  rw [Int.zero_add] at h1
  have h2 := h.here
  unfold longS at h2
  unfold tellP
  refine ⟨(Cut_append ..).2 ⟨h.out, ?_⟩, ?_⟩
  · rw [Int.zero_add]
    have key : Cut E (longP s.out) (if s.drop = 0 then [] else [⟨0, s.drop, []⟩]) := by
      split
      · exact h1
      · refine ⟨h1, ?_⟩
        show E (longP s.out + (0 + s.drop))
        rw [Int.zero_add]; exact h2
    split
    · exact key
    · refine ⟨h1, ?_⟩
      show Cut E (longP s.out + (0 + 0)) _
      rw [Int.zero_add, Int.add_zero]; exact key
  · intro p hp
    rcases List.mem_append.1 hp with hp | hp
    · exact h.puts p hp
    · rcases List.mem_append.1 hp with hp | hp
      · split at hp
        · cases hp
        · rw [List.mem_singleton.1 hp]; exact h.put
      · split at hp
        · cases hp
        · rw [List.mem_singleton.1 hp]; exact V_nil
theorem cut_push {E : Int → Prop} {l : List Pt} {k : Int} (h : Cut E 0 l) (hk : E (longP l + k)) : Cut E 0 (pushKeep l k) := by
  have hnew : Cut E 0 (l ++ [⟨k, 0, []⟩]) := by
    refine (Cut_append ..).2 ⟨h, Cut_end h, ?_⟩
    show E (0 + longP l + (k + 0))
    rw [Int.zero_add, Int.add_zero]; exact hk
  unfold pushKeep
  cases hq : l.getLast? with
  | none => exact hnew
  | some q =>
    simp only
    split
    · obtain ⟨m, rfl⟩ := List.getLast?_eq_some_iff.1 hq
      obtain ⟨h1, h2⟩ := (Cut_append ..).1 h
      rw [List.dropLast_concat]
      refine (Cut_append ..).2 ⟨h1, h2.1, ?_⟩
      have e : longP (m ++ [q]) = longP m + lenP q := by simp [longP]
      rw [e] at hk
      show E (0 + longP m + (q.keep + k + q.drop))
      have : 0 + longP m + (q.keep + k + q.drop) = longP m + lenP q + k := by unfold lenP; omega
      rw [this]; exact hk
    · exact hnew
theorem push_puts {l : List Pt} {k : Int} (h : ∀ p ∈ l, V p.put) : ∀ p ∈ pushKeep l k, V p.put := by
  intro p hp
  unfold pushKeep at hp
  cases hq : l.getLast? with
  | none =>
    rw [hq] at hp
    simp only [List.mem_append, List.mem_singleton] at hp
    rcases hp with hp | rfl
    · exact h p hp
    · exact V_nil
  | some q =>
    rw [hq] at hp
    simp only at hp
    split at hp
    · simp only [List.mem_append, List.mem_singleton] at hp
      rcases hp with hp | rfl
      · exact h p (List.dropLast_subset l hp)
      · exact h q (List.mem_of_getLast? hq)
    · simp only [List.mem_append, List.mem_singleton] at hp
      rcases hp with hp | rfl
      · exact h p hp
      · exact V_nil
theorem cut_add {E : Int → Prop} {s : NSt} (h : CutS E s) (p : Pt) (hk : 0 ≤ p.keep) (hd : 0 ≤ p.drop) (h1 : p.keep = 0 ∨ (p.drop = 0 ∧ p.put = [])) (hv : V p.put) (he : E (longS s + lenP p)) : CutS E (addP s p) := by
  have hone := add_one h.one p hk hd
  have hlong := add_long s p
  refine ⟨?_, by rw [hlong]; exact he, ?_, ?_, hone⟩
  · unfold addP
    split
    · exact h.out
    · rename_i h0
      obtain ⟨e1, e2⟩ := h1.resolve_left h0
      rw [e1, e2, List.append_nil, Int.add_zero]
      have hk : E (longP (tellP s) + p.keep) := by
        rw [tell_long]
        unfold lenP at he
        rw [e1, Int.add_zero] at he
        exact he
      exact cut_push (cut_tell h).1 hk
  · unfold addP
    split
    · exact h.puts
    · rename_i h0
      obtain ⟨e1, e2⟩ := h1.resolve_left h0
      rw [e1, e2, List.append_nil, Int.add_zero]
      exact push_puts (cut_tell h).2
  · unfold addP
    split
    · exact V_append h.put hv
    · exact V_nil
theorem one_kind {p : Pt} (h : oneP p) : 0 ≤ p.keep ∧ 0 ≤ p.drop ∧ (p.keep = 0 ∨ (p.drop = 0 ∧ p.put = [])) := by
  rcases h with ⟨h1, h2, h3⟩ | ⟨h1, h2, h3⟩ | ⟨h1, h2, h3⟩
  · exact ⟨by omega, by omega, .inr ⟨h2, h3⟩⟩
  · exact ⟨by omega, by omega, .inl h1⟩
  · exact ⟨by omega, by omega, .inl h1⟩
/-- A place of a text between two runes. -/
def edgeV (T : List UInt8) (j : Int) : Prop := V (T.take j.toNat)
theorem cut_al {T : List UInt8} : ∀ {ps : List Pt} {i : Int}, 0 ≤ i → (∀ p ∈ ps, oneP p) → (∀ p ∈ ps, V p.put) → Cut (edgeV T) i ps → al ps (T.drop i.toNat)
  | [], i, _, _, _, _ => trivial
  | p :: ps, i, h0, h1, h2, hc => by
    have hl := one_len (h1 p (by simp))
    have e : (i + lenP p).toNat = i.toNat + (lenP p).toNat := by omega
    have h3 : V (T.take i.toNat) := hc.1
    have h4 : V (T.take (i + lenP p).toNat) := Cut_head hc.2
    rw [e, List.take_add] at h4
    refine ⟨h2 p (by simp), V_rest h3 h4, ?_⟩
    have := cut_al (by omega) (fun q hq => h1 q (by simp [hq])) (fun q hq => h2 q (by simp [hq])) hc.2
    rw [e, ← List.drop_drop] at this
    exact this
theorem good_of_cut {T : List UInt8} {s : NSt} (h : CutS (edgeV T) s) (hl : longS s = T.length) : good (tellP s) T := by
  refine ⟨tell_one h.one, by rw [tell_long]; exact hl, ?_⟩
  have := cut_al (i := 0) (by omega) (tell_one h.one) (cut_tell h).2 (cut_tell h).1
  exact this
end Go.Proofs.YtldhbjmillfjgabGreatDoor

namespace Go.Proofs.YtldhbjmillfjgabGreatDoor
set_option linter.unusedVariables false

/-- What was added so far: D of the text T is behind, R is ahead, o was made. -/
structure St (T D R o : List UInt8) (s : NSt) : Prop where
  cut : CutS (edgeV T) s
  eq : T = D ++ R
  here : V D
  long : longS s = D.length
  act : (tellP s).foldl actA ([], T) = (o, R)
theorem St.none {T D R o : List UInt8} {s : NSt} (h : St T D R o s) : St T D R (o ++ []) s := by rw [List.append_nil]; exact h
theorem St.put {T D R o : List UInt8} {s : NSt} (h : St T D R o s) {u : List UInt8} (hu : V u) : St T D R (o ++ u) (addP s ⟨0, 0, u⟩) := by
  have hl := add_long s ⟨0, 0, u⟩
  have e0 : lenP ⟨0, 0, u⟩ = 0 := rfl
  rw [e0, Int.add_zero] at hl
  refine ⟨cut_add h.cut _ (Int.le_refl _) (Int.le_refl _) (.inl rfl) hu ?_, h.eq, h.here, by rw [hl]; exact h.long, ?_⟩
  · rw [e0, Int.add_zero]; exact h.cut.here
  · rw [act_add actA_ok s _ h.cut.one.drop (Int.le_refl _) (Int.le_refl _), h.act]
    simp [actA]
theorem St.keep {T D R o x : List UInt8} {s : NSt} (h : St T D (x ++ R) o s) (hx : V x) : St T (D ++ x) R (o ++ x) (addP s ⟨x.length, 0, []⟩) := by
  have hl := add_long s ⟨x.length, 0, []⟩
  have e0 : lenP ⟨x.length, 0, []⟩ = x.length := by simp [lenP]
  rw [e0] at hl
  have h0 : (0 : Int) ≤ x.length := by omega
  refine ⟨cut_add h.cut _ h0 (Int.le_refl _) (.inr ⟨rfl, rfl⟩) V_nil ?_, by rw [List.append_assoc]; exact h.eq, V_append h.here hx, by rw [hl, h.long, List.length_append]; push_cast; rfl, ?_⟩
  · rw [e0, h.long]
    unfold edgeV
    rw [show ((D.length : Int) + x.length).toNat = (D ++ x).length by rw [List.length_append]; omega, h.eq, ← List.append_assoc, List.take_left']
    · exact V_append h.here hx
    · rfl
  · rw [act_add actA_ok s _ h.cut.one.drop h0 (Int.le_refl _), h.act]
    simp [actA]
theorem St.drop {T D R o x : List UInt8} {s : NSt} (h : St T D (x ++ R) o s) (hx : V x) : St T (D ++ x) R o (addP s ⟨0, x.length, []⟩) := by
  have hl := add_long s ⟨0, x.length, []⟩
  have e0 : lenP ⟨0, x.length, []⟩ = x.length := by simp [lenP]
  rw [e0] at hl
  have h0 : (0 : Int) ≤ x.length := by omega
  refine ⟨cut_add h.cut _ (Int.le_refl _) h0 (.inl rfl) V_nil ?_, by rw [List.append_assoc]; exact h.eq, V_append h.here hx, by rw [hl, h.long, List.length_append]; push_cast; rfl, ?_⟩
  · rw [e0, h.long]
    unfold edgeV
    rw [show ((D.length : Int) + x.length).toNat = (D ++ x).length by rw [List.length_append]; omega, h.eq, ← List.append_assoc, List.take_left']
    · exact V_append h.here hx
    · rfl
  · rw [act_add actA_ok s _ h.cut.one.drop (Int.le_refl _) h0, h.act]
    simp [actA]
theorem St.good {T o : List UInt8} {s : NSt} (h : St T T [] o s) : good (tellP s) T ∧ applyP (tellP s) T = o := by
  have hg := good_of_cut h.cut h.long
  refine ⟨hg, ?_⟩
  have e := h.act
  rw [actA_apply _ hg.one] at e
  simpa using congrArg Prod.fst e

/-- What is left behind a cut. -/
structure Left (X : List Pt) (r : List UInt8) : Prop where
  one : ∀ p ∈ X, oneP p
  long : longP X = r.length
  al : al X r
theorem Left.good {X : List Pt} {r : List UInt8} (h : Left X r) : good X r := ⟨h.one, h.long, h.al⟩
end Go.Proofs.YtldhbjmillfjgabGreatDoor

namespace Go.Proofs.YtldhbjmillfjgabGreatDoor
set_option linter.unusedVariables false

def byZ (l : List UInt8) : List Int := l.map fun b => (b.toNat : Int)
/-- A text's runes in a unit. -/
def rowZ (u : Int) (rs : List Nat) : List Int := if u = 1 then byZ (encs rs) else if u = 2 then toI (hals rs) else toI rs
theorem rowZ_nil (u : Int) : rowZ u [] = [] := by
  unfold rowZ; split
  · rfl
  · split <;> rfl
theorem hals_app (a b : List Nat) : hals (a ++ b) = hals a ++ hals b := by simp [hals]
theorem rowZ_append (u : Int) (a b : List Nat) : rowZ u (a ++ b) = rowZ u a ++ rowZ u b := by
  unfold rowZ; split
  · rw [encs_append]; simp [byZ]
  · split
    · rw [hals_app, toI_append]
    · rw [toI_append]
theorem hals_C2 : ∀ (rs : List Nat), ((hals rs).length : Int) = C2 rs
  | [] => rfl
  | r :: rs => by
    have ih := hals_C2 rs
    rw [hals_cons, List.length_append]
    have e : C2 (r :: rs) = cH r + C2 rs := by simp [C2, sum2, wide]
    rw [e]
    have : ((hal r).length : Int) = cH r := by unfold hal cH; split <;> rfl
    omega
theorem rowZ_len {u : Int} (hu : unitOk u) (rs : List Nat) : ((rowZ u rs).length : Int) = by_ u rs := by
  unfold rowZ by_
  rcases hu with rfl | rfl | rfl
  · rw [if_pos rfl, if_pos rfl, C1_len]; simp [byZ]
  · rw [if_neg (by decide), if_pos rfl, if_neg (by decide), if_pos rfl, ← hals_C2]; simp [toI]
  · rw [if_neg (by decide), if_neg (by decide), if_neg (by decide), if_neg (by decide), if_pos rfl]; simp [toI, C3]
theorem byZ_inj : ∀ {a b : List UInt8}, byZ a = byZ b → a = b
  | [], [], _ => rfl
  | [], _ :: _, h => by simp [byZ] at h
  | _ :: _, [], h => by simp [byZ] at h
  | x :: a, y :: b, h => by
    simp only [byZ, List.map_cons, List.cons.injEq] at h
    have hx : x = y := by
      apply UInt8.toNat_inj.1
      omega
    rw [hx, byZ_inj (a := a) (b := b) h.2]
/-- The first rune of a row is told by the row. -/
theorem row_head {u : Int} (hu : unitOk u) {x y : Nat} (hx : isRune x) (hy : isRune y) {a b : List Int} (ha : u = 1 → ∃ l, a = byZ l) (hb : u = 1 → ∃ l, b = byZ l) (h : rowZ u [x] ++ a = rowZ u [y] ++ b) : x = y ∧ a = b := by
  have hxy : x = y := by
    rcases hu with rfl | rfl | rfl
    · obtain ⟨la, rfl⟩ := ha rfl
      obtain ⟨lb, rfl⟩ := hb rfl
      have e : ∀ (r : Nat) (l : List UInt8), rowZ 1 [r] ++ byZ l = byZ (enc r ++ l) := fun r l => by simp [rowZ, byZ, encs]
      rw [e, e] at h
      have h := byZ_inj h
      have h1 := (dec_enc hx la).1
      rw [h, (dec_enc hy lb).1] at h1
      exact (Prod.mk.inj h1).1.symm
    · have e : ∀ r : Nat, rowZ 2 [r] = toI (hal r) := fun r => by simp [rowZ, hals]
      rw [e, e] at h
      have h1 := lead_hal hx a
      rw [h, lead_hal hy b] at h1
      have := (Prod.mk.inj h1).1
      omega
    · have e : ∀ r : Nat, rowZ 3 [r] = [(r : Int)] := fun r => by simp [rowZ, toI]
      rw [e, e] at h
      simp only [List.cons_append, List.nil_append, List.cons.injEq] at h
      omega
  subst hxy
  exact ⟨rfl, List.append_cancel_left h⟩
theorem row_ne {u : Int} (hu : unitOk u) (r : Nat) : rowZ u [r] ≠ [] := fun e => by
  have h1 := rowZ_len hu [r]
  have h2 := by_one hu r
  rw [e] at h1
  simp at h1; omega
theorem row_bytes {u : Int} (hu : u = 1) (rs : List Nat) : ∃ l, rowZ u rs = byZ l := ⟨encs rs, by subst hu; rfl⟩
theorem row_cons (u : Int) (r : Nat) (rs : List Nat) : rowZ u (r :: rs) = rowZ u [r] ++ rowZ u rs := by
  rw [← rowZ_append]; rfl
/-- Runes whose row begins another row begin its runes. -/
theorem row_pre {u : Int} (hu : unitOk u) : ∀ (xs ys : List Nat) (t : List Int), (∀ r ∈ xs, isRune r) → (∀ r ∈ ys, isRune r) → (u = 1 → ∃ l, t = byZ l) → rowZ u xs ++ t = rowZ u ys → ∃ zs, ys = xs ++ zs ∧ t = rowZ u zs
  | [], ys, t, _, _, _, h => ⟨ys, rfl, by rw [rowZ_nil] at h; exact h⟩
  | x :: xs, [], t, _, _, _, h => by
    rw [row_cons, rowZ_nil, List.append_assoc] at h
    exact absurd (List.append_eq_nil_iff.1 h).1 (row_ne hu x)
  | x :: xs, y :: ys, t, hx, hy, ht, h => by
    rw [row_cons, row_cons u y, List.append_assoc] at h
    obtain ⟨rfl, h2⟩ := row_head hu (hx x (by simp)) (hy y (by simp)) (fun e => by
      obtain ⟨l, hl⟩ := ht e; obtain ⟨m, hm⟩ := row_bytes e xs
      exact ⟨m ++ l, by rw [hl, hm]; simp [byZ]⟩) (fun e => row_bytes e ys) h
    obtain ⟨zs, e1, e2⟩ := row_pre hu xs ys t (fun r hr => hx r (by simp [hr])) (fun r hr => hy r (by simp [hr])) ht h2
    exact ⟨zs, by rw [e1]; rfl, e2⟩

/-- What is behind a place. -/
def restZ (u : Int) (R : List Nat) (n : Int) : List Nat := R.drop (upTo R u n).length
theorem edge_at {u : Int} (hu : unitOk u) {R : List Nat} {n : Int} (h1 : n ≤ by_ u R) (he : onEdge R u n = true) : R = upTo R u n ++ restZ u R n ∧ by_ u (upTo R u n) = n := by
  obtain ⟨k, k1, k2, k3, _⟩ := (edge_first hu h1).1 he
  unfold restZ
  rw [k2, List.length_take, Nat.min_eq_left k1]
  exact ⟨(List.take_append_drop k R).symm, k3⟩
theorem edge_of {u : Int} (hu : unitOk u) {R X Y : List Nat} (h : R = X ++ Y) : onEdge R u (by_ u X) = true ∧ upTo R u (by_ u X) = X ∧ restZ u R (by_ u X) = Y := by
  have hle : by_ u X ≤ by_ u R := by rw [h, by_append]; have := by_pos u Y; omega
  have hx : R.take X.length = X := by rw [h, List.take_left' rfl]
  have he : onEdge R u (by_ u X) = true := by
    cases e : onEdge R u (by_ u X) with
    | true => rfl
    | false => exact absurd (by rw [hx]) ((edge_first hu hle).2 e X.length (by rw [h]; simp))
  obtain ⟨k, k1, k2, k3, _⟩ := (edge_first hu hle).1 he
  have hk : k = X.length := by
    have hXl : X.length ≤ R.length := by rw [h]; simp
    rcases Nat.lt_trichotomy k X.length with hlt | rfl | hlt
    · have := by_mono hu R k X.length hlt hXl
      rw [hx, k3] at this; omega
    · rfl
    · have := by_mono hu R X.length k hlt k1
      rw [hx, k3] at this; omega
  subst hk
  refine ⟨he, by rw [k2, hx], ?_⟩
  unfold restZ
  rw [k2, hx, h, List.drop_left' rfl]
theorem piece_row {u : Int} (hu : unitOk u) {R : List Nat} {n : Int} (h0 : 0 ≤ n) (h1 : n ≤ by_ u R) (he : onEdge R u n = true) :
    (rowZ u R).take n.toNat = rowZ u (upTo R u n) ∧ (rowZ u R).drop n.toNat = rowZ u (restZ u R n) := by
  obtain ⟨e1, e2⟩ := edge_at hu h1 he
  have hl : n.toNat = (rowZ u (upTo R u n)).length := by have := rowZ_len hu (upTo R u n); omega
  have e3 : rowZ u R = rowZ u (upTo R u n) ++ rowZ u (restZ u R n) := by
    rw [← rowZ_append]; exact congrArg _ e1
  rw [e3, hl]
  exact ⟨List.take_left' rfl, List.drop_left' rfl⟩
theorem piece_bad {u : Int} (hu : unitOk u) {R : List Nat} (hR : ∀ r ∈ R, isRune r) {n : Int} (h0 : 0 ≤ n) (h1 : n ≤ by_ u R) (he : onEdge R u n = false) (xs : List Nat) (hx : ∀ r ∈ xs, isRune r) : (rowZ u R).take n.toNat ≠ rowZ u xs := by
  intro e
  have hlen := rowZ_len hu R
  have h2 : rowZ u xs ++ (rowZ u R).drop n.toNat = rowZ u R := by rw [← e, List.take_append_drop]
  obtain ⟨zs, e1, _⟩ := row_pre hu xs R _ hx hR (fun e => by subst e; exact ⟨(encs R).drop n.toNat, by simp [rowZ, byZ]⟩) h2
  have hl : by_ u xs = n := by
    rw [← rowZ_len hu, ← e, List.length_take]; omega
  have := (edge_of hu e1).1
  rw [hl, he] at this
  cases this

/-- Whether all parts end between two runes; the parts in another unit; what comes. -/
def okZ (u : Int) : List Nat → List Pt → Bool
  | _, [] => true
  | R, q :: qs => onEdge R u (lenP q) && okZ u (restZ u R (lenP q)) qs
def inZ (u v : Int) : List Nat → List Pt → List Pt
  | _, [] => []
  | R, q :: qs => unit1 (by_ v (upTo R u (lenP q))) q :: inZ u v (restZ u R (lenP q)) qs
def comesZ (u : Int) : List Nat → List Pt → List Nat
  | _, [] => []
  | R, q :: qs => ((if 0 < q.keep then upTo R u (lenP q) else []) ++ runesOf q.put) ++ comesZ u (restZ u R (lenP q)) qs

theorem shift_edge {u : Int} (hu : unitOk u) (pre R : List Nat) (n : Int) (h0 : 0 ≤ n) (h1 : n ≤ by_ u R) :
    onEdge (pre ++ R) u (by_ u pre + n) = onEdge R u n ∧ (onEdge R u n = true → upTo (pre ++ R) u (by_ u pre + n) = pre ++ upTo R u n) := by
  have key : onEdge R u n = true → onEdge (pre ++ R) u (by_ u pre + n) = true ∧ upTo (pre ++ R) u (by_ u pre + n) = pre ++ upTo R u n := fun he => by
    obtain ⟨e1, e2⟩ := edge_at hu h1 he
    have e3 : pre ++ R = (pre ++ upTo R u n) ++ restZ u R n := by rw [List.append_assoc, ← e1]
    have := edge_of hu e3
    rw [by_append, e2] at this
    exact ⟨this.1, this.2.1⟩
  refine ⟨?_, fun he => (key he).2⟩
  cases he : onEdge R u n with
  | true => exact (key he).1
  | false =>
    cases e : onEdge (pre ++ R) u (by_ u pre + n) with
    | false => rfl
    | true =>
      exfalso
      have hle : by_ u pre + n ≤ by_ u (pre ++ R) := by rw [by_append]; omega
      obtain ⟨k, k1, k2, k3, _⟩ := (edge_first hu hle).1 e
      have hk : pre.length ≤ k := by
        by_cases h : pre.length ≤ k
        · exact h
        · have := by_mono hu (pre ++ R) k pre.length (by omega) (by simp)
          rw [k3, List.take_left' rfl] at this; omega
      have e4 : (pre ++ R).take k = pre ++ R.take (k - pre.length) := by
        rw [List.take_append, List.take_of_length_le hk]
      rw [e4, by_append] at k3
      exact (edge_first hu h1).2 he (k - pre.length) (by rw [List.length_append] at k1; omega) (by omega)

theorem turn_inZ {u : Int} (hu : unitOk u) (v : Int) : ∀ (qs : List Pt) (pre R : List Nat), (∀ q ∈ qs, 0 ≤ lenP q) → longP qs ≤ by_ u R →
    (turnZ (pre ++ R) u v (by_ u pre) qs).2 = okZ u R qs ∧ (okZ u R qs = true → (turnZ (pre ++ R) u v (by_ u pre) qs).1 = inZ u v R qs)
  | [], _, _, _, _ => ⟨rfl, fun _ => rfl⟩
  | q :: qs, pre, R, h, hl => by
    have h0 := h q (by simp)
    have h3 : ∀ x ∈ qs, 0 ≤ lenP x := fun x hx => h x (by simp [hx])
    have hp := sum_pos h3
    have hl2 : longP (q :: qs) = lenP q + longP qs := by simp [longP]
    rw [hl2] at hl
    obtain ⟨s1, s2⟩ := shift_edge hu pre R (lenP q) h0 (by omega)
    obtain ⟨t1, t2⟩ := shift_edge hu pre R 0 (Int.le_refl _) (by_pos u R)
    have hz : upTo R u 0 = [] := upTo_zero R u
    have hz2 : onEdge R u 0 = true := by unfold onEdge; rw [hz, by_nil]; rfl
    have t2 := t2 hz2
    rw [Int.add_zero, hz, List.append_nil] at t2
    have hunf : turnZ (pre ++ R) u v (by_ u pre) (q :: qs) = if onEdge (pre ++ R) u (by_ u pre + lenP q) then
      (unit1 (by_ v (upTo (pre ++ R) u (by_ u pre + lenP q)) - by_ v (upTo (pre ++ R) u (by_ u pre))) q :: (turnZ (pre ++ R) u v (by_ u pre + lenP q) qs).1, (turnZ (pre ++ R) u v (by_ u pre + lenP q) qs).2)
      else ([], false) := rfl
    have hoz : okZ u R (q :: qs) = (onEdge R u (lenP q) && okZ u (restZ u R (lenP q)) qs) := rfl
    rw [hunf, hoz, s1]
    cases he : onEdge R u (lenP q) with
    | false => exact ⟨rfl, fun h => by cases h⟩
    | true =>
      obtain ⟨e1, e2⟩ := edge_at hu (by omega) he
      have hR : pre ++ R = (pre ++ upTo R u (lenP q)) ++ restZ u R (lenP q) := by rw [List.append_assoc, ← e1]
      have hby : by_ u pre + lenP q = by_ u (pre ++ upTo R u (lenP q)) := by rw [by_append, e2]
      have hle : longP qs ≤ by_ u (restZ u R (lenP q)) := by
        have : by_ u R = by_ u (upTo R u (lenP q)) + by_ u (restZ u R (lenP q)) := by rw [← by_append]; exact congrArg _ e1
        omega
      obtain ⟨i1, i2⟩ := turn_inZ hu v qs (pre ++ upTo R u (lenP q)) (restZ u R (lenP q)) h3 hle
      rw [if_pos rfl, s2 he, t2, hby, Bool.true_and]
      rw [← hR] at i1 i2
      refine ⟨i1, fun ho => ?_⟩
      have ev : by_ v (pre ++ upTo R u (lenP q)) - by_ v pre = by_ v (upTo R u (lenP q)) := by rw [by_append]; omega
      rw [i2 ho, ev]
      rfl
/-- The parts in another unit, and whether there are such. -/
theorem turn_in {u : Int} (hu : unitOk u) (v : Int) (qs : List Pt) (R : List Nat) (h : ∀ q ∈ qs, 0 ≤ lenP q) (hl : longP qs ≤ by_ u R) :
    turnX R u v qs = (if okZ u R qs then 0 else 10) ∧ turnO R u v qs = if okZ u R qs then inZ u v R qs else [] := by
  obtain ⟨h1, h2⟩ := turn_inZ hu v qs [] R h hl
  rw [List.nil_append, by_nil] at h1 h2
  unfold turnX turnO
  rw [h1]
  refine ⟨rfl, ?_⟩
  split
  · rename_i ho; exact h2 ho
  · rfl
theorem rest_rune {u : Int} {R : List Nat} {n : Int} (h : ∀ r ∈ R, isRune r) : ∀ r ∈ restZ u R n, isRune r := fun r hr => h r (List.mem_of_mem_drop hr)
theorem upTo_rune {u : Int} (hu : unitOk u) {R : List Nat} {n : Int} (hn : n ≤ by_ u R) (h : ∀ r ∈ R, isRune r) : ∀ r ∈ upTo R u n, isRune r := fun r hr => by
  obtain ⟨k, _, h2, _⟩ := upTo_least R u n hn
  rw [h2] at hr
  exact h r (List.mem_of_mem_take hr)
theorem comes_rune {u : Int} (hu : unitOk u) : ∀ (qs : List Pt) (R : List Nat), (∀ q ∈ qs, 0 ≤ lenP q) → longP qs ≤ by_ u R → okZ u R qs = true → (∀ r ∈ R, isRune r) → ∀ r ∈ comesZ u R qs, isRune r
  | [], R, _, _, _, _, r, hr => by cases hr
  | q :: qs, R, h, hl, ho, hR, r, hr => by
    have h3 : ∀ x ∈ qs, 0 ≤ lenP x := fun x hx => h x (by simp [hx])
    have hp := sum_pos h3
    have h0 := h q (by simp)
    have hl2 : longP (q :: qs) = lenP q + longP qs := by simp [longP]
    rw [hl2] at hl
    have ho : (onEdge R u (lenP q) && okZ u (restZ u R (lenP q)) qs) = true := ho
    rw [Bool.and_eq_true] at ho
    obtain ⟨e1, e2⟩ := edge_at hu (by omega) ho.1
    have hle : longP qs ≤ by_ u (restZ u R (lenP q)) := by
      have : by_ u R = by_ u (upTo R u (lenP q)) + by_ u (restZ u R (lenP q)) := by rw [← by_append]; exact congrArg _ e1
      omega
    have hr : r ∈ ((if 0 < q.keep then upTo R u (lenP q) else []) ++ runesOf q.put) ++ comesZ u (restZ u R (lenP q)) qs := hr
    rcases List.mem_append.1 hr with hr | hr
    · rcases List.mem_append.1 hr with hr | hr
      · split at hr
        · exact upTo_rune hu (by omega) hR r hr
        · cases hr
      · exact runesOf_rune hr
    · exact comes_rune hu qs _ h3 hle ho.2 (rest_rune hR) r hr

theorem unit_len {q : Pt} (h : oneB q = true) (n : Int) (hn : lenP q = 0 → n = 0) : lenP (unit1 n q) = n := by
  unfold unit1
  rcases oneB_shapes h with ⟨h1, h2, h3⟩ | ⟨h1, h2, h3⟩ | ⟨h1, h2, h3⟩
  · rw [if_pos h1]; simp [lenP]
  · rw [if_neg (by omega), if_pos h2]; simp [lenP]
  · rw [if_neg (by omega), if_neg (by omega)]
    rw [hn (by unfold lenP; omega)]; simp [lenP]
theorem unit_one {q : Pt} (h : oneB q = true) {n : Int} (hn : 0 < lenP q → 0 < n) : oneP (unit1 n q) := by
  unfold unit1
  rcases oneB_shapes h with ⟨h1, h2, h3⟩ | ⟨h1, h2, h3⟩ | ⟨h1, h2, h3⟩
  · rw [if_pos h1]; exact .inl ⟨hn (by unfold lenP; omega), rfl, rfl⟩
  · rw [if_neg (by omega), if_pos h2]; exact .inr (.inl ⟨rfl, hn (by unfold lenP; omega), rfl⟩)
  · rw [if_neg (by omega), if_neg (by omega)]; exact .inr (.inr ⟨rfl, rfl, h3⟩)
theorem unit_put {q : Pt} (h : oneB q = true) (n : Int) : (unit1 n q).put = q.put := by
  unfold unit1
  rcases oneB_shapes h with ⟨h1, h2, h3⟩ | ⟨h1, h2, h3⟩ | ⟨h1, h2, h3⟩
  · rw [if_pos h1, h3]
  · rw [if_neg (by omega), if_pos h2, h3]
  · rw [if_neg (by omega), if_neg (by omega)]
theorem unit_keep {q : Pt} (h : oneB q = true) {n : Int} (hn : 0 < lenP q → 0 < n) : (0 < (unit1 n q).keep) ↔ 0 < q.keep := by
  unfold unit1
  rcases oneB_shapes h with ⟨h1, h2, h3⟩ | ⟨h1, h2, h3⟩ | ⟨h1, h2, h3⟩
  · rw [if_pos h1]; exact ⟨fun _ => h1, fun _ => hn (by unfold lenP; omega)⟩
  · rw [if_neg (by omega), if_pos h2]; exact ⟨fun h => absurd h (Int.lt_irrefl 0), fun h => by omega⟩
  · rw [if_neg (by omega), if_neg (by omega)]; exact ⟨fun h => absurd h (Int.lt_irrefl 0), fun h => by omega⟩
/-- So many of one unit are some of any. -/
theorem by_pos_of {u v : Int} (hu : unitOk u) (hv : unitOk v) {X : List Nat} (h : 0 < by_ u X) : 0 < by_ v X := by
  cases X with
  | nil => rw [by_nil] at h; omega
  | cons r X =>
    have e : r :: X = [r] ++ X := rfl
    rw [e, by_append]
    have := by_one hv r; have := by_pos v X; omega
theorem by_zero_of {u : Int} (hu : unitOk u) {X : List Nat} (h : by_ u X = 0) : X = [] := by
  cases X with
  | nil => rfl
  | cons r X =>
    have e : r :: X = [r] ++ X := rfl
    rw [e, by_append] at h
    have := by_one hu r; have := by_pos u X; omega
/-- What comes in bytes is what the operation in bytes makes; and it fits. -/
theorem in_left {u : Int} (hu : unitOk u) : ∀ (qs : List Pt) (R : List Nat), (∀ q ∈ qs, oneB q = true ∧ (scan q.put).2 = true) → longP qs = by_ u R → (∀ r ∈ R, isRune r) → okZ u R qs = true →
    Left (inZ u 1 R qs) (encs R) ∧ applyP (inZ u 1 R qs) (encs R) = encs (comesZ u R qs)
  | [], R, _, hl, _, _ => by
    have : R = [] := by_zero_of hu (by rw [← hl]; simp [longP])
    subst this
    exact ⟨⟨by simp [inZ], by simp [inZ, longP, encs], trivial⟩, rfl⟩
  | q :: qs, R, h, hl, hr, ho => by
    have hq := h q (by simp)
    have hs := (one_sound hq.1).1
    have hl2 : longP (q :: qs) = lenP q + longP qs := by simp [longP]
    have hp3 : ∀ x ∈ qs, 0 ≤ lenP x := fun x hx => by
      have := (one_sound (h x (by simp [hx])).1).1
      unfold soundP at this; unfold lenP; omega
    have hp := sum_pos hp3
    have hq0 : 0 ≤ lenP q := by unfold soundP at hs; unfold lenP; omega
    rw [hl2] at hl
    have ho : (onEdge R u (lenP q) && okZ u (restZ u R (lenP q)) qs) = true := ho
    rw [Bool.and_eq_true] at ho
    obtain ⟨e1, e2⟩ := edge_at hu (by omega) ho.1
    have hby : by_ u R = by_ u (upTo R u (lenP q)) + by_ u (restZ u R (lenP q)) := by rw [← by_append]; exact congrArg _ e1
    obtain ⟨il, ia⟩ := in_left hu qs (restZ u R (lenP q)) (fun x hx => h x (by simp [hx])) (by omega) (rest_rune hr) ho.2
    have hur := upTo_rune (n := lenP q) hu (by omega) hr
    have hX : encs R = encs (upTo R u (lenP q)) ++ encs (restZ u R (lenP q)) := by rw [← encs_append]; exact congrArg _ e1
    have hunf : inZ u 1 R (q :: qs) = unit1 (by_ 1 (upTo R u (lenP q))) q :: inZ u 1 (restZ u R (lenP q)) qs := rfl
    have hc : comesZ u R (q :: qs) = ((if 0 < q.keep then upTo R u (lenP q) else []) ++ runesOf q.put) ++ comesZ u (restZ u R (lenP q)) qs := rfl
    have h1 : by_ 1 (upTo R u (lenP q)) = (encs (upTo R u (lenP q))).length := by unfold by_; rw [if_pos rfl, C1_len]
    have hz0 : lenP q = 0 → by_ 1 (upTo R u (lenP q)) = 0 := fun e => by rw [by_zero_of hu (e2.trans e), by_nil]
    have hzp : 0 < lenP q → 0 < by_ 1 (upTo R u (lenP q)) := fun e => by_pos_of hu (.inl rfl) (by omega)
    have hul := unit_len hq.1 _ hz0
    rw [hunf, hc, hX]
    have hto : (lenP (unit1 (by_ 1 (upTo R u (lenP q))) q)).toNat = (encs (upTo R u (lenP q))).length := by rw [hul, h1]; simp
    have htake : (encs (upTo R u (lenP q)) ++ encs (restZ u R (lenP q))).take (lenP (unit1 (by_ 1 (upTo R u (lenP q))) q)).toNat = encs (upTo R u (lenP q)) := by rw [hto, List.take_left' rfl]
    have hdrop : (encs (upTo R u (lenP q)) ++ encs (restZ u R (lenP q))).drop (lenP (unit1 (by_ 1 (upTo R u (lenP q))) q)).toNat = encs (restZ u R (lenP q)) := by rw [hto, List.drop_left' rfl]
    refine ⟨⟨?_, ?_, ?_⟩, ?_⟩
    · intro p hp
      rcases List.mem_cons.1 hp with rfl | hp
      · exact unit_one hq.1 hzp
      · exact il.one p hp
    · rw [long_cons, il.long, hul, h1, List.length_append]; omega
    · refine ⟨?_, ?_, ?_⟩
      · rw [unit_put hq.1]; exact V_of_scan hq.2
      · rw [htake]; exact ⟨_, hur, rfl⟩
      · rw [hdrop]; exact il.al
    · rw [apply_cons, htake, hdrop, ia, encs_append, encs_append]
      congr 1
      unfold madeP
      have hk := unit_keep hq.1 hzp
      rw [unit_put hq.1, encs_runesOf hq.2]
      congr 1
      by_cases hkk : 0 < q.keep
      · rw [if_pos hkk, if_pos (hk.2 hkk)]
      · rw [if_neg hkk, if_neg (fun e => hkk (hk.1 e))]; rfl
end Go.Proofs.YtldhbjmillfjgabGreatDoor

namespace Go.Proofs.YtldhbjmillfjgabGreatDoor
open Go.RowKit
set_option linter.unusedVariables false

def sl (w : World) (k : IntKind) (p : Option Addr) (n c : Nat) (zs : List Int) : Prop :=
  n = zs.length ∧ ((p = none ∧ c = 0 ∧ zs = []) ∨ ∃ b o, p = some ⟨b, o, none⟩ ∧ zs.length ≤ c ∧ c ≤ maxLen ∧ b < w.heap.size ∧ ∀ i z, zs[i]? = some z → w.cell? ⟨b, o + i, none⟩ = some (.int k z))
theorem sl_below {w w' : World} {k : IntKind} {p : Option Addr} {n c : Nat} {zs : List Int} (h : sl w k p n c zs) {B : Nat} (hb : Below B w w') (hB : w.heap.size ≤ B) : sl w' k p n c zs := by
  obtain ⟨h0, h⟩ := h
  refine ⟨h0, ?_⟩
  rcases h with h | ⟨b, o, h1, h2, h3, h4, h5⟩
  · exact .inl h
  · exact .inr ⟨b, o, h1, h2, h3, Nat.lt_of_lt_of_le h4 hb.size, fun i z hi => (hb.cell (p := ⟨b, o + i, none⟩) (Nat.lt_of_lt_of_le h4 hB)).trans (h5 i z hi)⟩
theorem sl_grown {w w' : World} {k : IntKind} {p : Option Addr} {n c : Nat} {zs : List Int} (h : sl w k p n c zs) (hb : Below w.heap.size w w') : sl w' k p n c zs := sl_below h hb (Nat.le_refl _)
theorem sl_reads {w : World} {k : IntKind} {p : Option Addr} {n c : Nat} {zs : List Int} (h : sl w k p n c zs) : reads w k (.slice p n c) zs := by
  obtain ⟨rfl, h⟩ := h
  rcases h with ⟨rfl, rfl, rfl⟩ | ⟨b, o, h1, h2, h3, h4, h5⟩
  · exact ⟨none, 0, rfl, Nat.le_refl _, Nat.zero_le _, fun h => absurd rfl h⟩
  · exact ⟨p, c, rfl, h2, h3, fun _ => ⟨b, o, h1, h4, fun i hi => h5 i _ (by rw [List.getD_eq_getElem?_getD, List.getElem?_eq_getElem hi]; rfl)⟩⟩
theorem sl_own {w : World} {B e : Nat} {k : IntKind} {v : Value} {zs : List Int} {xs : List Value} (hx : xs = zs.map (Value.int k)) (h : w.ownsRow B e 1 v zs.length xs) : ∃ p c, v = .slice p zs.length c ∧ sl w k p zs.length c zs := by
  subst hx
  obtain ⟨h0, hrow⟩ := h
  rcases hrow with ⟨rfl, h2⟩ | ⟨g, cap, cur, rfl, h2, h3, h4, h5, h6, h7⟩
  · obtain rfl : zs = [] := List.eq_nil_of_length_eq_zero h2
    exact ⟨none, 0, rfl, rfl, .inl ⟨rfl, rfl, rfl⟩⟩
  · refine ⟨_, cap, rfl, rfl, .inr ⟨g, 0, rfl, h4, h5, (Array.getElem?_eq_some_iff.1 h3).1, fun i z hi => ?_⟩⟩
    have hil : i < zs.length := (List.getElem?_eq_some_iff.1 hi).1
    rw [Nat.mul_one] at h7
    have hc : cur[i]? = some (.int k z) := by
      rw [← Array.getElem?_toList]
      have := congrArg (·[i]?) h7
      simp only [List.getElem?_take, hil, if_true, List.getElem?_map] at this
      rw [this, hi]
      rfl
    rw [Nat.zero_add]
    show w.cell? ⟨g, i, none⟩ = _
    unfold World.cell?
    simp [h3, hc]
theorem sl_head {w : World} {k : IntKind} {p : Option Addr} {n c m : Nat} {zs : List Int} (h : sl w k p n c zs) (hm : m ≤ n) : sl w k p m c (zs.take m) := by
  obtain ⟨rfl, h⟩ := h
  refine ⟨by rw [List.length_take]; omega, ?_⟩
  rcases h with ⟨h1, h2, rfl⟩ | ⟨b, o, h1, h2, h3, h4, h5⟩
  · exact .inl ⟨h1, h2, by simp⟩
  · refine .inr ⟨b, o, h1, by rw [List.length_take]; omega, h3, h4, fun i z hi => h5 i z ?_⟩
    rw [List.getElem?_take] at hi
    split at hi
    · exact hi
    · cases hi
theorem sl_tail {w : World} {k : IntKind} {b o n c m : Nat} {zs : List Int} (h : sl w k (some ⟨b, o, none⟩) n c zs) (hm : m ≤ n) : sl w k (some ⟨b, o + m, none⟩) (n - m) (c - m) (zs.drop m) := by
  obtain ⟨rfl, h⟩ := h
  refine ⟨by rw [List.length_drop], ?_⟩
  rcases h with ⟨h1, _⟩ | ⟨b', o', h1, h2, h3, h4, h5⟩
  · cases h1
  · obtain ⟨rfl, rfl, _⟩ : b = b' ∧ o = o' ∧ True := by injection h1 with h1; injection h1 with h1 h2; exact ⟨h1, h2, trivial⟩
    refine .inr ⟨b, o + m, rfl, by rw [List.length_drop]; omega, by omega, h4, fun i z hi => ?_⟩
    rw [List.getElem?_drop] at hi
    have := h5 (m + i) z hi
    rw [Nat.add_assoc]; exact this
/-- The tail from the end of what there is room for: the address stays. -/
theorem sl_last {w : World} {k : IntKind} {b o n c m : Nat} {zs : List Int} (h : sl w k (some ⟨b, o, none⟩) n c zs) (hm : m ≤ n) (hc : c = m) : sl w k (some ⟨b, o, none⟩) 0 0 (zs.drop m) := by
  obtain ⟨rfl, h⟩ := h
  rcases h with ⟨h1, _⟩ | ⟨b', o', h1, h2, h3, h4, h5⟩
  · cases h1
  · obtain ⟨rfl, rfl, _⟩ : b = b' ∧ o = o' ∧ True := by injection h1 with h1; injection h1 with h1 h2; exact ⟨h1, h2, trivial⟩
    have e : zs.drop m = [] := List.drop_eq_nil_of_le (by omega)
    rw [e]
    exact ⟨rfl, .inr ⟨b, o, rfl, Nat.le_refl _, Nat.zero_le _, h4, fun i z hi => by cases hi⟩⟩
/-- The tail as the walk writes it. -/
theorem sl_cut {w : World} {k : IntKind} {p : Option Addr} {n c m : Nat} {zs : List Int} (h : sl w k p n c zs) (hm : m ≤ n) : sl w k (if c = m then p else Option.map (fun x => x.add m) p) (n - m) (c - m) (zs.drop m) := by
  cases p with
  | none =>
    obtain ⟨rfl, h⟩ := h
    rcases h with ⟨_, rfl, rfl⟩ | ⟨_, _, h1, _⟩
    · have : m = 0 := by simpa using hm
      subst this
      exact ⟨rfl, .inl ⟨by simp, rfl, rfl⟩⟩
    · cases h1
  | some a =>
    have h0 := h
    obtain ⟨rfl, h⟩ := h
    rcases h with ⟨h1, _⟩ | ⟨b, o, h1, h2, _⟩
    · cases h1
    · obtain rfl : a = ⟨b, o, none⟩ := Option.some.inj h1
      by_cases hc : c = m
      · rw [if_pos hc]
        have e1 : zs.length - m = 0 := by omega
        have e2 : c - m = 0 := by omega
        rw [e1, e2]
        exact sl_last h0 hm hc
      · rw [if_neg hc]
        have := sl_tail h0 hm
        simpa [Addr.add_lit] using this
theorem sl_cap {w : World} {k : IntKind} {p : Option Addr} {n c : Nat} {zs : List Int} (h : sl w k p n c zs) : n ≤ c ∧ c ≤ maxLen ∧ n = zs.length := by
  obtain ⟨rfl, h⟩ := h
  rcases h with ⟨h1, rfl, rfl⟩ | ⟨b, o, h1, h2, h3, _⟩
  · exact ⟨Nat.le_refl _, Nat.zero_le _, rfl⟩
  · exact ⟨h2, h3, rfl⟩
theorem grown_refl (w : World) (row : Option Nat) : w.grownBy w row := ⟨rfl, rfl, rfl, Nat.le_refl _, fun _ _ _ => rfl⟩

theorem wpList_append_sl {P : Program} (w : World) {ops : Array Oper} {rest : List Oper} {o : Oper} {a : Act} {Q : Exit → Act → World → Prop} (hgd : o.guard = none) (s x : Operand) (t : TypeId)
    (ho : o.op = .call { callee := .builtin .append, args := #[s, x], argTypes := #[t, t] })
    (base : Nat) (e : TypeId) (i : TypeInfo) (z : Value) (bytes : Nat) (ht : P.underlying t = some (.slice e)) (hi : P.info? e = some i) (hz : i.zero = some z)
    (hsize : i.size = 1) (hby : i.bytes = bytes) (hzs : z.cells.size = 1)
    (v : Value) (n : Nat) (xs : List Value) (hs : a.eval s = v) (hown : w.ownsRow base e 1 v n xs)
    (k : IntKind) (p : Option Addr) (m c : Nat) (zs : List Int) (hx : a.eval x = .slice p m c) (hsl : sl w k p m c zs)
    (h63 : n + m ≤ maxLen) (hbytes : (n + m) * bytes ≤ 140737488355328) (hbase : base ≤ w.heap.size)
    (h : ∀ v' w', w'.ownsRow base e 1 v' (n + m) (xs ++ zs.map (Value.int k)) → w.grownBy w' v.ownBlock → wpList P ops Q rest (a.put o.dst v') w') : wpList P ops Q (o :: rest) a w := by
  obtain ⟨rfl, hsl⟩ := hsl
  rcases hsl with ⟨rfl, rfl, rfl⟩ | ⟨b, o', rfl, h2, h3, h4, h5⟩
  · exact wpList_append_own_none hgd s x t ho base e i 1 ht hi v n xs hs hown hx (h v w (by simpa using hown) (grown_refl _ _))
  · exact wpList_append_own w hgd s x t ho base e i z 1 bytes ht hi hz hsize hby hzs (by decide) v n xs hs hown ⟨b, o', none⟩ zs.length c (zs.map (Value.int k)) hx (by simp) (fun j u hj => by
      rw [List.getElem?_map] at hj
      cases hz' : zs[j]? with
      | none => rw [hz'] at hj; cases hj
      | some z' =>
        rw [hz'] at hj
        obtain rfl : Value.int k z' = u := Option.some.inj hj
        rw [Addr.add_lit]; exact h5 j z' hz') (fun u hu => by
      obtain ⟨y, _, rfl⟩ := List.mem_map.1 hu
      rfl) h63 hbytes hbase fun v' w' g1 g2 _ => h v' w' g1 g2

/-- 'string(b)' of bytes that are read. -/
theorem string_sl {w : World} {p : Option Addr} {n c : Nat} {l : List UInt8} (h : sl w .u8 p n c (l.map fun b => (b.toNat : Int))) : (convert 130 9 (.slice p n c)).run Tryz.prog w = .ok (.string ⟨l.toArray⟩) w := by
  obtain ⟨rfl, h⟩ := h
  rw [List.length_map]
  rcases h with ⟨rfl, rfl, e⟩ | ⟨b, o, rfl, h2, h3, h4, h5⟩
  · obtain rfl : l = [] := List.map_eq_nil_iff.1 e
    kernel_rfl
  · refine run_convert_bytes_back w 130 9 5 ⟨b, o, none⟩ c l Tryz.underlying130 Tryz.underlying5 Tryz.underlying9 fun j hj => ?_
    rw [Addr.add_lit]
    exact h5 j _ (by rw [List.getElem?_map, List.getElem?_eq_getElem hj]; rfl)
end Go.Proofs.YtldhbjmillfjgabGreatDoor

namespace Go.Proofs.YtldhbjmillfjgabGreatDoor
open Go.RowKit
set_option linter.unusedVariables false
attribute [local go_sem] Oper.semAt_some

def atV (b : Nat) : Value := .iface 233 (.pointer (some ⟨b, 0, none⟩))
theorem row1 (X : List Nat) : rowZ 1 X = (encs X).map fun b => (b.toNat : Int) := rfl
theorem row2 (X : List Nat) : rowZ 2 X = toI (hals X) := rfl
theorem row3 (X : List Nat) : rowZ 3 X = toI X := rfl
theorem encs_small {X : List Nat} (h : C1 X ≤ 1000000) : (encs X).length ≤ 1000000 ∧ X.length ≤ 1000000 ∧ (hals X).length ≤ 2000000 := by
  have h1 := C1_len X
  have h2 := encs_len X
  have h3 := (hals_len X).1
  omega
theorem text1_good (X : List Nat) (hX : ∀ r ∈ X, isRune r) (hz : C1 X ≤ 1000000) (p : Option Addr) (n c : Nat) (w : World) (hT : Lib.Utf8Tabs 2 3 w) (h : sl w .u8 p n c (rowZ 1 X)) :
    Calls Tryz.prog 70 #[.slice p n c] w fun e w' => e = .returned (.tuple #[.string (bytesOf X), .nilIface]) ∧ Below w.heap.size w w' := by
  have hconv := string_sl (l := encs X) h
  obtain ⟨e1, _, _⟩ := encs_small hz
  have hsc : (scan (encs X)).2 = true := by rw [scan_encs X hX]
  have cC : Hid (Calls Tryz.prog 59 #[.string ⟨(encs X).toArray⟩] w fun e w' => ∃ n1 n2 n3 n4, e = .returned (.tuple #[.agg #[.int .i64 n1, .int .i64 n2, .int .i64 n3, .int .i64 n4], .nilIface]) ∧ Below w.heap.size w w') :=
    (Count_any ⟨(encs X).toArray⟩ (by simp [ByteArray.size]; omega) w hT).mono fun e w' ⟨v, x, h1, h2, h3⟩ => by
      rcases h3 with ⟨_, rfl, rfl⟩ | ⟨h4, _⟩
      · exact ⟨_, _, _, _, h1, h2⟩
      · rw [show (ByteArray.mk (encs X).toArray).data.toList = encs X from rfl, hsc] at h4; cases h4
  have eb : bytesOf X = ⟨(encs X).toArray⟩ := rfl
  rw [eb]
  generalize ByteArray.mk (encs X).toArray = S at *
  clear hT h hX hz hsc e1 eb
  go_enter Tryz.func70, Tryz.ntmps70
  go_wp2_with (first
    | (go_at_call 59; refine Calls.mono cC.out ?_; rintro e w1 ⟨n1, n2, n3, n4, rfl, hb1⟩)
    | fail)
  go_ret2
  exact ⟨rfl, hb1.alloc hb1.size _⟩
theorem take_bytes (R : List Nat) (m : Nat) : (rowZ 1 R).take m = ((encs R).take m).map fun b => (b.toNat : Int) := by rw [row1, List.map_take]
theorem text1_bad (R : List Nat) (m : Nat) (hbad : ∀ X, (∀ r ∈ X, isRune r) → (rowZ 1 R).take m ≠ rowZ 1 X) (hz : C1 R ≤ 1000000) (p : Option Addr) (n c : Nat) (w : World) (hT : Lib.Utf8Tabs 2 3 w) (h : sl w .u8 p n c ((rowZ 1 R).take m)) :
    Calls Tryz.prog 70 #[.slice p n c] w fun e w' => ∃ s bx, e = .returned (.tuple #[.string s, atV bx]) ∧ Below w.heap.size w w' := by
  obtain ⟨L, hL⟩ : ∃ L, (encs R).take m = L := ⟨_, rfl⟩
  have e0 := take_bytes R m
  rw [hL] at e0
  rw [e0] at h hbad
  have hconv := string_sl (l := L) h
  obtain ⟨e1, _, _⟩ := encs_small hz
  have hLl : L.length ≤ 1000000 := by rw [← hL, List.length_take]; omega
  have hsc : (scan L).2 = false := by
    cases e : (scan L).2 with
    | false => rfl
    | true => exact absurd (by rw [row1, encs_runesOf e]) (hbad (runesOf L) fun r hr => runesOf_rune hr)
  have cC : Hid (Calls Tryz.prog 59 #[.string ⟨L.toArray⟩] w fun e w' => ∃ bx, e = .returned (.tuple #[.agg #[.int .i64 0, .int .i64 0, .int .i64 0, .int .i64 0], .iface 233 (.pointer (some ⟨bx, 0, none⟩))]) ∧ Below w.heap.size w w') :=
    (Count_any ⟨L.toArray⟩ (by simp [ByteArray.size]; omega) w hT).mono fun e w' ⟨v, x, h1, h2, h3⟩ => by
      rcases h3 with ⟨h4, _⟩ | ⟨_, rfl, bx, rfl, _⟩
      · rw [show (ByteArray.mk L.toArray).data.toList = L from rfl, hsc] at h4; cases h4
      · exact ⟨bx, h1, h2⟩
  generalize ByteArray.mk L.toArray = S at *
  unfold atV
  clear hT h hbad hz hsc e1 e0 hL hLl
  go_enter Tryz.func70, Tryz.ntmps70
  go_wp2_with (first
    | (go_at_call 59; refine Calls.mono cC.out ?_; rintro e w1 ⟨bx, rfl, hb1⟩)
    | fail)
  go_ret2
  exact ⟨_, _, rfl, hb1.alloc hb1.size _⟩
theorem text2_good (X : List Nat) (hX : ∀ r ∈ X, isRune r) (hz : C1 X ≤ 1000000) (p : Option Addr) (n c : Nat) (w : World) (hT : Lib.Utf8Tabs 2 3 w) (h : sl w .u16 p n c (rowZ 2 X)) :
    Calls Tryz.prog 73 #[.slice p n c] w fun e w' => e = .returned (.tuple #[.string (bytesOf X), .nilIface]) ∧ Below w.heap.size w w' := by
  obtain ⟨_, _, e3⟩ := encs_small hz
  refine (FromHalves_any (.slice p n c) (toI (hals X)) w (hals_bd hX) (sl_reads h) (by simp [toI]; omega)).mono fun e w' ⟨s, x, h1, h2, h3⟩ => ?_
  have hsc := scanH_hals X hX
  rcases h3 with ⟨_, rfl, rfl⟩ | ⟨h4, _⟩
  · rw [hsc] at h1
    have e5 : ((X.map fun r : Nat => ((r : Int), (hal r).length)).map (·.1)) = toI X := by simp [toI, Function.comp_def]
    rw [e5, encZ_toI] at h1
    exact ⟨h1, h2⟩
  · rw [hsc] at h4; cases h4
theorem text2_bad (R : List Nat) (m : Nat) (hR : ∀ r ∈ R, isRune r) (hbad : ∀ X, (∀ r ∈ X, isRune r) → (rowZ 2 R).take m ≠ rowZ 2 X) (hz : C1 R ≤ 1000000) (p : Option Addr) (n c : Nat) (w : World) (hT : Lib.Utf8Tabs 2 3 w) (h : sl w .u16 p n c ((rowZ 2 R).take m)) :
    Calls Tryz.prog 73 #[.slice p n c] w fun e w' => ∃ s bx, e = .returned (.tuple #[.string s, atV bx]) ∧ Below w.heap.size w w' := by
  obtain ⟨_, _, e3⟩ := encs_small hz
  have hb : ∀ z ∈ (rowZ 2 R).take m, 0 ≤ z ∧ z < 65536 := fun z hz => hals_bd hR z (List.mem_of_mem_take hz)
  have hl : ((rowZ 2 R).take m).length ≤ 2000000 := by
    rw [List.length_take, row2]
    have : (toI (hals R)).length = (hals R).length := by simp [toI]
    omega
  refine (FromHalves_any (.slice p n c) ((rowZ 2 R).take m) w hb (sl_reads h) (by omega)).mono fun e w' ⟨s, x, h1, h2, h3⟩ => ?_
  rcases h3 with ⟨h4, _, _⟩ | ⟨_, _, bx, rfl, _⟩
  · obtain ⟨rs, _, r2, r3⟩ := hals_scanH _ _ (Nat.le_refl _) hb h4
    exact absurd r3 (hbad rs r2)
  · exact ⟨s, bx, h1, h2⟩
theorem text3_good (X : List Nat) (hX : ∀ r ∈ X, isRune r) (hz : C1 X ≤ 1000000) (p : Option Addr) (n c : Nat) (w : World) (hT : Lib.Utf8Tabs 2 3 w) (h : sl w .i32 p n c (rowZ 3 X)) :
    Calls Tryz.prog 77 #[.slice p n c] w fun e w' => e = .returned (.tuple #[.string (bytesOf X), .nilIface]) ∧ Below w.heap.size w w' := by
  obtain ⟨_, e2, _⟩ := encs_small hz
  refine (Text_any (.slice p n c) (toI X) w (toI_bd hX) (sl_reads h) (by simp [toI]; omega)).mono fun e w' ⟨s, x, h1, h2, h3⟩ => ?_
  rcases h3 with ⟨_, rfl, rfl⟩ | ⟨k, k1, _, k3, _⟩
  · rw [encZ_toI] at h1
    exact ⟨h1, h2⟩
  · have := valid_toI hX ((toI X).getD k 0) (by rw [List.getD_eq_getElem?_getD, List.getElem?_eq_getElem k1]; exact List.getElem_mem _)
    rw [this] at k3; cases k3
theorem text3_bad (R : List Nat) (m : Nat) (hR : ∀ r ∈ R, isRune r) (hbad : ∀ X, (∀ r ∈ X, isRune r) → (rowZ 3 R).take m ≠ rowZ 3 X) : False :=
  hbad (R.take m) (fun r hr => hR r (List.mem_of_mem_take hr)) (by rw [row3, row3]; simp [toI, List.map_take])

theorem bytes_below (w : World) (e : TypeId) (s : ByteArray) : Below w.heap.size w (Lib.bytesWorld w e s) :=
  ⟨rfl, rfl, rfl, by rw [Lib.bytesWorld_size]; omega, fun k hk => Lib.bytesWorld_at_old w e s k hk⟩
theorem put1_any (U : List UInt8) (hU : (scan U).2 = true) (hl : U.length ≤ 1000000) (w : World) :
    Calls Tryz.prog 71 #[.string ⟨U.toArray⟩] w fun e w' => ∃ p n c, e = .returned (.slice p n c) ∧ sl w' .u8 p n c (rowZ 1 (runesOf U)) ∧ Below w.heap.size w w' := by
  have hconv := Lib.run_convert_string_bytes (P := Tryz.prog) w 9 130 5 ⟨U.toArray⟩ (u := .string) Tryz.underlying9 Tryz.underlying130 Tryz.underlying5
  have hz : (ByteArray.mk U.toArray).size = U.length := by simp [ByteArray.size]
  have hsl : sl (Lib.bytesWorld w 5 ⟨U.toArray⟩) .u8 (some ⟨w.heap.size, 0, none⟩) (ByteArray.mk U.toArray).size (grownCap w (ByteArray.mk U.toArray).size 0 5) (rowZ 1 (runesOf U)) := by
    rw [row1, encs_runesOf hU]
    refine ⟨by rw [hz, List.length_map], .inr ⟨w.heap.size, 0, rfl, ?_, ?_, ?_, fun i z hi => ?_⟩⟩
    · rw [List.length_map, ← hz]; exact grownCap_ge _ _ _ _
    · exact grownCap_le_maxLen _ _ _ _ (by rw [hz]; unfold maxLen; omega)
    · rw [Lib.bytesWorld_size]; omega
    · have hil : i < U.length := by have := (List.getElem?_eq_some_iff.1 hi).1; rwa [List.length_map] at this
      rw [Nat.zero_add, Lib.bytesWorld_cell _ _ _ _ (by rw [hz]; exact hil)]
      rw [List.getElem?_map, List.getElem?_eq_getElem hil] at hi
      have := Option.some.inj hi
      rw [← this, List.getD_eq_getElem?_getD]
      simp [hil]
  have hbl := bytes_below w 5 ⟨U.toArray⟩
  have HSL : Hid _ := hsl
  have HBL : Hid _ := hbl
  generalize Lib.bytesWorld w 5 ⟨U.toArray⟩ = W at *
  clear hsl hbl
  go_enter Tryz.func71, Tryz.ntmps71
  go_wp2
  go_ret
  exact ⟨_, _, _, rfl, HSL.out, HBL.out⟩
theorem put2_any (U : List UInt8) (hU : (scan U).2 = true) (hl : U.length ≤ 1000000) (w : World) (hT : Lib.Utf8Tabs 2 3 w) :
    Calls Tryz.prog 74 #[.string ⟨U.toArray⟩] w fun e w' => ∃ p n c, e = .returned (.slice p n c) ∧ sl w' .u16 p n c (rowZ 2 (runesOf U)) ∧ Below w.heap.size w w' := by
  have cC : Hid (Calls Tryz.prog 75 #[.string ⟨U.toArray⟩] w fun e w' => ∃ p n c, e = .returned (.tuple #[.slice p n c, .nilIface]) ∧ sl w' .u16 p n c (rowZ 2 (runesOf U)) ∧ Below w.heap.size w w') :=
    (Halves_any ⟨U.toArray⟩ (by simp [ByteArray.size]; omega) w hT).mono fun e w' ⟨v, x, h1, h2, h3⟩ => by
      rcases h3 with ⟨_, rfl, p, c, h4, h5⟩ | ⟨h4, _⟩
      · have e0 : (ByteArray.mk U.toArray).data.toList = U := rfl
        have e1 := cells59_eq U
        rw [e0] at h4 h5
        have hlen : (cellsOf59 (scan U).1).length = (rowZ 2 (runesOf U)).length := by rw [e1, row2, List.length_map]
        rw [hlen] at h4 h5
        obtain ⟨p', c', q1, q2⟩ := sl_own e1 h5
        exact ⟨p', _, c', by rw [h1, q1], q2, h2⟩
      · rw [show (ByteArray.mk U.toArray).data.toList = U from rfl, hU] at h4; cases h4
  clear hT hU hl
  go_enter Tryz.func74, Tryz.ntmps74
  go_wp2_with (first
    | (go_at_call 75; refine Calls.mono cC.out ?_; rintro e w1 ⟨p, n, c, rfl, hs1, hb1⟩; have HS1 : Hid _ := hs1; clear hs1)
    | fail)
  go_ret
  exact ⟨_, _, _, rfl, HS1.out, hb1⟩
theorem put3_any (U : List UInt8) (hU : (scan U).2 = true) (hl : U.length ≤ 1000000) (w : World) (hT : Lib.Utf8Tabs 2 3 w) :
    Calls Tryz.prog 78 #[.string ⟨U.toArray⟩] w fun e w' => ∃ p n c, e = .returned (.slice p n c) ∧ sl w' .i32 p n c (rowZ 3 (runesOf U)) ∧ Below w.heap.size w w' := by
  have cC : Hid (Calls Tryz.prog 79 #[.string ⟨U.toArray⟩] w fun e w' => ∃ p n c, e = .returned (.tuple #[.slice p n c, .nilIface]) ∧ sl w' .i32 p n c (rowZ 3 (runesOf U)) ∧ Below w.heap.size w w') :=
    (Runes_any ⟨U.toArray⟩ (by simp [ByteArray.size]; omega) w hT).mono fun e w' ⟨v, x, h1, h2, h3⟩ => by
      rcases h3 with ⟨_, rfl, p, c, h4, h5⟩ | ⟨h4, _⟩
      · have e0 : (ByteArray.mk U.toArray).data.toList = U := rfl
        have e1 := cells21_eq U
        rw [e0] at h4 h5
        have hlen : (cellsOf21 (scan U).1).length = (rowZ 3 (runesOf U)).length := by rw [e1, row3, List.length_map]
        rw [hlen] at h4 h5
        obtain ⟨p', c', q1, q2⟩ := sl_own e1 h5
        exact ⟨p', _, c', by rw [h1, q1], q2, h2⟩
      · rw [show (ByteArray.mk U.toArray).data.toList = U from rfl, hU] at h4; cases h4
  clear hT hU hl
  go_enter Tryz.func78, Tryz.ntmps78
  go_wp2_with (first
    | (go_at_call 79; refine Calls.mono cC.out ?_; rintro e w1 ⟨p, n, c, rfl, hs1, hb1⟩; have HS1 : Hid _ := hs1; clear hs1)
    | fail)
  go_ret
  exact ⟨_, _, _, rfl, HS1.out, hb1⟩
end Go.Proofs.YtldhbjmillfjgabGreatDoor

namespace Go.Proofs.YtldhbjmillfjgabGreatDoor
open Go.RowKit
set_option linter.unusedVariables false

def szV (u : Int) (R : List Nat) (qs : List Pt) : Int := if okZ u R qs then C1 (comesZ u R qs) else 0
def szE (u : Int) (R : List Nat) (qs : List Pt) : Int := if okZ u R qs then 0 else 10
def szI (w : World) (u : Int) (k : IntKind) (R : List Nat) (qs : List Pt) (x : Nat) (v8 v9 : Value) (wr : World) : Prop :=
  ∃ (S : Int) (p : Option Addr) (n c : Nat) (R' : List Nat), v8 = .int .i64 S ∧ v9 = .slice p n c ∧ sl wr k p n c (rowZ u R') ∧ (∀ r ∈ R', isRune r) ∧ longP (qs.drop x) = by_ u R' ∧
    okZ u R qs = okZ u R' (qs.drop x) ∧ (okZ u R qs = true → S + C1 (comesZ u R' (qs.drop x)) = C1 (comesZ u R qs)) ∧ 0 ≤ S ∧ S ≤ 2000000 * (x : Int) ∧ C1 R' ≤ 1000000 ∧ x ≤ qs.length ∧ Below w.heap.size w wr
theorem szI_start {w : World} {u : Int} {k : IntKind} {R : List Nat} {qs : List Pt} {p : Option Addr} {n c : Nat} (hz : C1 R ≤ 1000000) (hsl : sl w k p n c (rowZ u R)) (hR : ∀ r ∈ R, isRune r) (hl : longP qs = by_ u R) : szI w u k R qs 0 (.int .i64 0) (.slice p n c) w :=
  ⟨0, p, n, c, R, rfl, rfl, hsl, hR, hl, rfl, fun _ => Int.zero_add _, Int.le_refl _, Int.le_refl _, hz, Nat.zero_le _, Below.refl _ _⟩
/-- What is known of a part at its place. -/
structure szStep (u : Int) (R' : List Nat) (q : Pt) (qs' : List Pt) (n : Nat) : Prop where
  k0 : 0 ≤ q.keep
  d0 : 0 ≤ q.drop
  le : q.keep + q.drop ≤ (n : Int)
  len : (n : Int) = by_ u R'
  one : oneB q = true ∧ (scan q.put).2 = true
  long : lenP q + longP qs' = by_ u R'
  rest : 0 ≤ longP qs'
theorem sz_step {w : World} {u : Int} {k : IntKind} {R' : List Nat} {qs : List Pt} {q : Pt} {x : Nat} {p : Option Addr} {n c : Nat} (hu : unitOk u) (hd : qs.drop x = q :: qs.drop (x + 1)) (hq : oneB q = true ∧ (scan q.put).2 = true) (hrest : ∀ y ∈ qs.drop (x + 1), oneB y = true ∧ (scan y.put).2 = true)
    (hsl : sl w k p n c (rowZ u R')) (hR : ∀ r ∈ R', isRune r) (hl : longP (qs.drop x) = by_ u R') (hz : C1 R' ≤ 1000000) : szStep u R' q (qs.drop (x + 1)) n := by
  have hs := (one_sound hq.1).1
  have hp := sum_pos (l := qs.drop (x + 1)) fun y hy => by
    have := (one_sound (hrest y hy).1).1
    unfold soundP at this; unfold lenP; omega
  have hlen : (n : Int) = by_ u R' := by rw [hsl.1, rowZ_len hu]
  have hl2 : longP (q :: qs.drop (x + 1)) = lenP q + longP (qs.drop (x + 1)) := by simp [longP]
  rw [hd, hl2] at hl
  refine ⟨hs.1, hs.2, ?_, hlen, hq, hl, hp⟩
  have : lenP q = q.keep + q.drop := rfl
  omega
theorem C1_part {A B : List Nat} {R : List Nat} (h : R = A ++ B) : C1 A ≤ C1 R ∧ C1 B ≤ C1 R := by
  rw [h, C1_append]
  have := C1_pos A; have := C1_pos B
  omega
theorem szStep_good {u : Int} {R' : List Nat} {K D : Int} {U : List UInt8} {qs' : List Pt} {n : Nat} (hu : unitOk u) (h : szStep u R' ⟨K, D, U⟩ qs' n) (hR : ∀ r ∈ R', isRune r) (hz : C1 R' ≤ 1000000) (he : onEdge R' u (K + D) = true) :
    (rowZ u R').take (K + D).toNat = rowZ u (upTo R' u (K + D)) ∧ C1 (upTo R' u (K + D)) ≤ 1000000 ∧ (∀ r ∈ upTo R' u (K + D), isRune r) ∧
    ((rowZ u R').drop (K + D).toNat = rowZ u (restZ u R' (K + D)) ∧ (∀ r ∈ restZ u R' (K + D), isRune r) ∧ longP qs' = by_ u (restZ u R' (K + D)) ∧ C1 (restZ u R' (K + D)) ≤ 1000000 ∧
      okZ u R' (⟨K, D, U⟩ :: qs') = okZ u (restZ u R' (K + D)) qs' ∧ C1 (comesZ u R' (⟨K, D, U⟩ :: qs')) = ((if 0 < K then C1 (upTo R' u (K + D)) else 0) + (U.length : Int)) + C1 (comesZ u (restZ u R' (K + D)) qs')) := by
  have hl : lenP ⟨K, D, U⟩ = K + D := rfl
  have h0 : 0 ≤ K + D := by have := h.k0; have := h.d0; simp only at *; omega
  have hle : K + D ≤ by_ u R' := by have := h.le; have := h.len; simp only at *; omega
  obtain ⟨e1, e2⟩ := edge_at hu hle he
  obtain ⟨e3, e4⟩ := piece_row hu h0 hle he
  have hc := C1_part e1
  have hby : by_ u R' = by_ u (upTo R' u (K + D)) + by_ u (restZ u R' (K + D)) := by rw [← by_append]; exact congrArg _ e1
  have hlong := h.long
  rw [hl] at hlong
  refine ⟨e3, by omega, upTo_rune hu hle hR, e4, rest_rune hR, by omega, by omega, ?_, ?_⟩
  · show (onEdge R' u (lenP ⟨K, D, U⟩) && okZ u (restZ u R' (lenP ⟨K, D, U⟩)) qs') = _
    rw [hl, he]; rfl
  · show C1 (((if 0 < K then upTo R' u (lenP ⟨K, D, U⟩) else []) ++ runesOf U) ++ comesZ u (restZ u R' (lenP ⟨K, D, U⟩)) qs') = _
    rw [hl, C1_append, C1_append]
    have e5 : C1 (runesOf U) = (U.length : Int) := by rw [C1_len, encs_runesOf h.one.2]
    rw [e5]
    split
    · rfl
    · rfl
theorem szStep_bad {u : Int} {R' : List Nat} {K D : Int} {U : List UInt8} {qs' : List Pt} {n : Nat} (hu : unitOk u) (h : szStep u R' ⟨K, D, U⟩ qs' n) (hR : ∀ r ∈ R', isRune r) (he : onEdge R' u (K + D) = false) :
    ∀ X, (∀ r ∈ X, isRune r) → (rowZ u R').take (K + D).toNat ≠ rowZ u X :=
  piece_bad hu hR (by have := h.k0; have := h.d0; simp only at *; omega) (by have := h.le; have := h.len; simp only at *; omega) he
theorem sz_bad {u : Int} {R : List Nat} {qs : List Pt} (h : okZ u R qs = false) : szV u R qs = 0 ∧ szE u R qs = 10 := by
  unfold szV szE
  rw [h]
  exact ⟨rfl, rfl⟩
theorem sz_good {u : Int} {R R' : List Nat} {qs : List Pt} {S : Int} (h : okZ u R qs = okZ u R' []) (hc : okZ u R qs = true → S + C1 (comesZ u R' []) = C1 (comesZ u R qs)) : szV u R qs = S ∧ szE u R qs = 0 := by
  have h1 : okZ u R qs = true := h
  have h2 := hc h1
  unfold szV szE
  rw [h1, if_pos rfl, if_pos rfl]
  have e : C1 (comesZ u R' []) = 0 := rfl
  exact ⟨by omega, rfl⟩
/-- A part is done. -/
theorem szI_next {w wn : World} {u : Int} {k : IntKind} {R R' R2 : List Nat} {qs : List Pt} {x : Nat} {K D S A : Int} {U : List UInt8} {p : Option Addr} {n c : Nat}
    (hx : x < qs.length) (hok : okZ u R qs = okZ u R' (⟨K, D, U⟩ :: qs.drop (x + 1))) (hcome : okZ u R qs = true → S + C1 (comesZ u R' (⟨K, D, U⟩ :: qs.drop (x + 1))) = C1 (comesZ u R qs))
    (hs : (∀ r ∈ R2, isRune r) ∧ longP (qs.drop (x + 1)) = by_ u R2 ∧ C1 R2 ≤ 1000000 ∧ okZ u R' (⟨K, D, U⟩ :: qs.drop (x + 1)) = okZ u R2 (qs.drop (x + 1)) ∧ C1 (comesZ u R' (⟨K, D, U⟩ :: qs.drop (x + 1))) = (A + (U.length : Int)) + C1 (comesZ u R2 (qs.drop (x + 1))))
    (hsl : sl wn k p n c (rowZ u R2)) (h0 : 0 ≤ S) (h1 : S ≤ 2000000 * (x : Int)) (hA0 : 0 ≤ A) (hA : A ≤ 1000000) (hU : U.length ≤ 1000000) (hb : Below w.heap.size w wn) : szI w u k R qs (x + 1) (.int .i64 (S + A + U.length)) (.slice p n c) wn := by
  obtain ⟨s1, s2, s3, s4, s5⟩ := hs
  refine ⟨_, p, n, c, R2, rfl, rfl, hsl, s1, s2, hok.trans s4, fun h => ?_, by omega, by rw [Int.natCast_add]; omega, s3, hx, hb⟩
  have := hcome h
  omega
end Go.Proofs.YtldhbjmillfjgabGreatDoor

namespace Go.Proofs.YtldhbjmillfjgabGreatDoor
open Go.RowKit
set_option linter.unusedVariables false
attribute [local go_sem] Oper.semAt_some

set_option maxRecDepth 100000 in
set_option maxHeartbeats 800000 in
theorem size1_any (p : Option Addr) (n c : Nat) (R : List Nat) (qs : List Pt) (v : Value) (w : World) (hT : Lib.Utf8Tabs 2 3 w) (hR : ∀ r ∈ R, isRune r) (hsl : sl w .u8 p n c (rowZ 1 R)) (hr : opAt w v qs) (hc : chkE qs (by_ 1 R) = 0) (hl : qs.length ≤ 1000) (hz : C1 R ≤ 1000000) (hpl : ∀ q ∈ qs, q.put.length ≤ 1000000) :
    Calls Tryz.prog 123 #[.slice p n c, v, .func (.func 70) #[] #[]] w fun e w' => e = .returned (.tuple #[.int .i64 (szV 1 R qs), errV (szE 1 R qs)]) ∧ Below w.heap.size w w' := by
  have hu : unitOk 1 := by unfold unitOk; omega
  obtain ⟨hp1, hp2, hp3⟩ := chkE_parts hc
  have HU : Hid (unitOk 1) := hu
  have HT : Hid (Lib.Utf8Tabs 2 3 w) := hT
  have HOP : Hid (opAt w v qs) := hr
  have HP1 : Hid (∀ p ∈ qs, oneB p = true ∧ (scan p.put).2 = true) := hp1
  have HPL : Hid (∀ q ∈ qs, q.put.length ≤ 1000000) := hpl
  have HST : Hid (szI w 1 .u8 R qs 0 (.int .i64 0) (.slice p n c) w) := szI_start hz hsl hR hp2
  obtain ⟨pq, cq, rfl, r1, r2, r3⟩ := hr
  unfold maxLen at r2
  obtain ⟨N, hN⟩ : ∃ N, qs.length = N := ⟨_, rfl⟩
  rw [hN] at r1 hl ⊢
  have HN : Hid (qs.length = N) := hN
  have hN0 : (N : Int) ≤ 1000 := by omega
  clear hT hR hsl hc hp1 hp2 hp3 r3 hz hpl hu hN
  go_enter Tryz.func123, Tryz.ntmps123
  go_wp2
  go_loopw [8, 9, 18] (fun v8 v9 i wr => ∃ x : Nat, i = .int .i64 x ∧ szI w 1 .u8 R qs x v8 v9 wr) (fun _ _ i _ => N - (intOf i).toNat)
  case atStart => exact ⟨0, rfl, HST.out⟩
  case round =>
    obtain ⟨x, rfl, hst⟩ := hrel
    obtain ⟨S, p', n', c', R', rfl, rfl, hsl, hR', hlong, hok, hcome, hS0, hS1, hCR, hx, hbw⟩ := hst
    clear HST
    by_cases hlt : x < N
    · have hxr : x < qs.length := by rw [HN.out]; exact hlt
      have hne : qs ≠ [] := by intro e; rw [e] at hxr; exact absurd hxr (Nat.not_lt_zero _)
      obtain ⟨p0, c0, hvv, _, _, hcell⟩ := HOP.out
      obtain ⟨b0, o, rfl, hb0, hcell⟩ := hcell hne
      obtain ⟨f0, f1, f2⟩ := hcell x qs[x] (List.getElem?_eq_getElem hxr)
      have g0 := (hbw.cell (p := ⟨b0, o + x * 3, none⟩) hb0).trans f0
      have g1 := (hbw.cell (p := ⟨b0, o + x * 3 + 1, none⟩) hb0).trans f1
      have g2 := (hbw.cell (p := ⟨b0, o + x * 3 + 2, none⟩) hb0).trans f2
      obtain rfl : pq = some ⟨b0, o, none⟩ := by injection hvv
      clear hvv hcell f0 f1 f2 hne
      have hq := HP1.out _ (List.getElem_mem hxr)
      have hputl := HPL.out _ (List.getElem_mem hxr)
      have hdk : qs.drop x = qs[x] :: qs.drop (x + 1) := List.drop_eq_getElem_cons hxr
      have hstep := sz_step HU.out hdk hq (fun y hy => HP1.out y (List.mem_of_mem_drop hy)) hsl hR' hlong hCR
      rw [hdk] at hok hcome
      have HOK : Hid (okZ 1 R qs = okZ 1 R' (qs[x] :: qs.drop (x + 1))) := hok
      have HCOME : Hid (okZ 1 R qs = true → S + C1 (comesZ 1 R' (qs[x] :: qs.drop (x + 1))) = C1 (comesZ 1 R qs)) := hcome
      have HBW : Hid (Below w.heap.size w wr) := hbw
      have HX : Hid (x < qs.length) := hxr
      have HSL : Hid (sl wr .u8 p' n' c' (rowZ 1 R')) := hsl
      have HR' : Hid (∀ r ∈ R', isRune r) := hR'
      have HCR : Hid (C1 R' ≤ 1000000) := hCR
      clear hok hcome hbw hsl hR' hlong hdk
      generalize qs[x] = q at *
      obtain ⟨K, D, U⟩ := q
      simp only at g0 g1 g2 hputl
      have hK0 : 0 ≤ K := hstep.k0
      have hD0 : 0 ≤ D := hstep.d0
      have hKD : K + D ≤ (n' : Int) := hstep.le
      obtain ⟨hcc, hcm, hnn⟩ := sl_cap HSL.out
      unfold maxLen at hcm
      have HSTEP : Hid (szStep 1 R' ⟨K, D, U⟩ (qs.drop (x + 1)) n') := hstep
      have hUz : (ByteArray.mk U.toArray).size = U.length := by simp [ByteArray.size]
      obtain ⟨M, hM⟩ : ∃ M : Nat, K + D = (M : Int) := ⟨(K + D).toNat, by omega⟩
      have hMn : M ≤ n' := by omega
      have HM : Hid (K + D = (M : Int)) := hM
      have HPC : Hid (sl wr .u8 p' M c' ((rowZ 1 R').take M)) := sl_head HSL.out hMn
      have hxlN : (x : Int) < (N : Int) := by omega
      clear hstep hnn hxr
      by_cases he : onEdge R' 1 (K + D) = true
      · obtain ⟨hpX, hX1, hX2, hX3⟩ := szStep_good HU.out HSTEP.out HR'.out HCR.out he
        have hMt : (K + D).toNat = M := by omega
        rw [hMt] at hpX
        obtain ⟨X, hXe⟩ : ∃ X, upTo R' 1 (K + D) = X := ⟨_, rfl⟩
        rw [hXe] at hpX hX1 hX2 hX3
        have HXE : Hid (upTo R' 1 (K + D) = X) := hXe
        have HHE : Hid (onEdge R' 1 (K + D) = true) := he
        have hbz : (bytesOf X).size = (encs X).length := by simp [bytesOf, ByteArray.size]
        have hXl : ((encs X).length : Int) ≤ 1000000 := by have := C1_len X; omega
        have cT : Hid (∀ wx, Below w.heap.size w wx → sl wx .u8 p' M c' ((rowZ 1 R').take M) → Calls Tryz.prog 70 #[.slice p' M c'] wx fun e w' => e = .returned (.tuple #[.string (bytesOf X), .nilIface]) ∧ Below wx.heap.size wx w') := fun wx hb hs => text1_good X hX2 hX1 p' M c' wx (Go.Proofs.Utf8Tabs_below HT.out hb) (by rw [← hpX]; exact hs)
        have HX3 : Hid _ := hX3
        have hS3 : S ≤ 2000000 * (x : Int) := hS1
        have hxx : (x : Int) < 1000 := by omega
        generalize bytesOf X = bX at *
        clear hX1 hX2 hX3 hpX hXe he hM hS1
        by_cases hK : 0 < K
        · go_wp2_with (first
            | (go_at_call 70; refine (cT.out _ (by exact HBW.out.alloc HBW.out.size _) (by exact sl_below HPC.out ((Below.refl wr.heap.size wr).alloc (Nat.le_refl _) _) (Nat.le_refl _))).mono ?_; rintro e w2 ⟨rfl, hb2⟩; have HB2 : Hid (Below wr.heap.size wr w2) := ((Below.refl wr.heap.size wr).alloc (Nat.le_refl _) _).trans (hb2.mono (by simp)); have hz2 : wr.heap.size + 1 ≤ w2.heap.size := by have := hb2.size; simpa using this
               have x0 : w2.cell? ⟨wr.heap.size, 0, none⟩ = some (.int .i64 K) := (hb2.cell (p := ⟨wr.heap.size, 0, none⟩) (by simp)).trans (by simp)
               have x1 : w2.cell? ⟨wr.heap.size, 1, none⟩ = some (.int .i64 D) := (hb2.cell (p := ⟨wr.heap.size, 1, none⟩) (by simp)).trans (by simp)
               have x2 : w2.cell? ⟨wr.heap.size, 2, none⟩ = some (.string ⟨U.toArray⟩) := (hb2.cell (p := ⟨wr.heap.size, 2, none⟩) (by simp)).trans (by simp); clear hb2)
            | fail)
          refine ⟨⟨x + 1, by go_num, ?_⟩, by simp [intOf]; omega⟩
          obtain ⟨y1, y2, y3, y4, y5, y6⟩ := HX3.out
          have hs2 := sl_below (sl_cut HSL.out hMn) HB2.out (Nat.le_refl _)
          have hy1 : (rowZ 1 R').drop M = rowZ 1 (restZ 1 R' (K + D)) := by rw [← hMt]; exact y1
          rw [hy1] at hs2
          exact szI_next (A := ((encs X).length : Int)) HX.out HOK.out HCOME.out ⟨y2, y3, y4, y5, by rw [y6, if_pos hK, C1_len]⟩ hs2 hS0 hS3 (by omega) (by omega) hputl (HBW.out.trans (HB2.out.mono HBW.out.size))
        · go_wp2_with (first
            | (go_at_call 70; refine (cT.out _ (by exact HBW.out.alloc HBW.out.size _) (by exact sl_below HPC.out ((Below.refl wr.heap.size wr).alloc (Nat.le_refl _) _) (Nat.le_refl _))).mono ?_; rintro e w2 ⟨rfl, hb2⟩; have HB2 : Hid (Below wr.heap.size wr w2) := ((Below.refl wr.heap.size wr).alloc (Nat.le_refl _) _).trans (hb2.mono (by simp)); have hz2 : wr.heap.size + 1 ≤ w2.heap.size := by have := hb2.size; simpa using this
               have x0 : w2.cell? ⟨wr.heap.size, 0, none⟩ = some (.int .i64 K) := (hb2.cell (p := ⟨wr.heap.size, 0, none⟩) (by simp)).trans (by simp)
               have x1 : w2.cell? ⟨wr.heap.size, 1, none⟩ = some (.int .i64 D) := (hb2.cell (p := ⟨wr.heap.size, 1, none⟩) (by simp)).trans (by simp)
               have x2 : w2.cell? ⟨wr.heap.size, 2, none⟩ = some (.string ⟨U.toArray⟩) := (hb2.cell (p := ⟨wr.heap.size, 2, none⟩) (by simp)).trans (by simp); clear hb2)
            | fail)
          refine ⟨⟨x + 1, by go_num, ?_⟩, by simp [intOf]; omega⟩
          obtain ⟨y1, y2, y3, y4, y5, y6⟩ := HX3.out
          have hs2 := sl_below (sl_cut HSL.out hMn) HB2.out (Nat.le_refl _)
          have hy1 : (rowZ 1 R').drop M = rowZ 1 (restZ 1 R' (K + D)) := by rw [← hMt]; exact y1
          rw [hy1] at hs2
          have hfin := szI_next (A := 0) HX.out HOK.out HCOME.out ⟨y2, y3, y4, y5, by rw [y6, if_neg (by omega)]⟩ hs2 hS0 hS3 (by omega) (by omega) hputl (HBW.out.trans (HB2.out.mono HBW.out.size))
          rw [Int.add_zero] at hfin
          exact hfin
      · have he : onEdge R' 1 (K + D) = false := by simpa using he
        have hbad := szStep_bad HU.out HSTEP.out HR'.out he
        have hMt : (K + D).toNat = M := by omega
        rw [hMt] at hbad
        have HV : Hid (szV 1 R qs = 0 ∧ szE 1 R qs = 10) := sz_bad (by rw [HOK.out]; unfold okZ; rw [show lenP ⟨K, D, U⟩ = K + D from rfl, he]; rfl)
        have cT : Hid (∀ wx, Below w.heap.size w wx → sl wx .u8 p' M c' ((rowZ 1 R').take M) → Calls Tryz.prog 70 #[.slice p' M c'] wx fun e w' => ∃ s bx, e = .returned (.tuple #[.string s, atV bx]) ∧ Below wx.heap.size wx w') := fun wx hb hs => text1_bad R' M hbad HCR.out p' M c' wx (Go.Proofs.Utf8Tabs_below HT.out hb) hs
        unfold atV at cT
        clear hbad he hM
        go_wp2_with (first
          | (go_at_call 70; refine (cT.out _ (by exact HBW.out.alloc HBW.out.size _) (by exact sl_below HPC.out ((Below.refl wr.heap.size wr).alloc (Nat.le_refl _) _) (Nat.le_refl _))).mono ?_; rintro e w2 ⟨s2, bx, rfl, hb2⟩; have HB2 : Hid (Below wr.heap.size wr w2) := ((Below.refl wr.heap.size wr).alloc (Nat.le_refl _) _).trans (hb2.mono (by simp)); clear hb2)
          | fail)
        go_ret2
        refine ⟨?_, HBW.out.trans (HB2.out.mono HBW.out.size)⟩
        rw [HV.out.1, HV.out.2]; rfl
    · obtain rfl : x = N := by have := HN.out; omega
      have hxlN : ¬ ((x : Int) < (x : Int)) := by omega
      have HV : Hid (szV 1 R qs = S ∧ szE 1 R qs = 0) := by
        rw [← HN.out, List.drop_length] at hok hcome
        exact sz_good hok hcome
      have HBW : Hid (Below w.heap.size w wr) := hbw
      clear hok hcome hsl hR' hlong hbw
      go_wp2
      go_ret2
      refine ⟨?_, HBW.out⟩
      rw [HV.out.1, HV.out.2]; rfl
end Go.Proofs.YtldhbjmillfjgabGreatDoor

namespace Go.Proofs.YtldhbjmillfjgabGreatDoor
open Go.RowKit
set_option linter.unusedVariables false

def plE (u : Int) (R : List Nat) (qs : List Pt) : Int := if okZ u R qs then (if C1 (comesZ u R qs) ≤ 8000 then 0 else 12) else 10
theorem errV_0 : errV 0 = .nilIface := rfl
theorem errV_10 : errV 10 = .iface 26 (.int .i64 10) := rfl
theorem pl_no {u : Int} {R : List Nat} {qs : List Pt} (h : plE u R qs ≠ 0) : (szV u R qs = 0 ∧ szE u R qs = 10 ∧ plE u R qs = 10) ∨ (szV u R qs = C1 (comesZ u R qs) ∧ szE u R qs = 0 ∧ plE u R qs = 12 ∧ 8000 < C1 (comesZ u R qs)) := by
  unfold plE at h
  unfold szV szE plE
  split at h
  · split at h
    · exact absurd rfl h
    · rename_i h1 h2
      right
      rw [h1, if_pos rfl, if_pos rfl, if_pos rfl, if_neg h2]
      exact ⟨rfl, rfl, rfl, by omega⟩
  · rename_i h1
    left
    rw [if_neg h1, if_neg h1, if_neg h1]
    exact ⟨rfl, rfl, rfl⟩
theorem grown_boxT {w w' : World} {b : Nat} {o : Obj} {v : Value} {N n e : Nat} {xs : List Value} (h : w.heap[b]? = some o) (hr : w.ownsRow N e 1 v n xs) (hg : w.grownBy w' v.ownBlock) (ho : ∀ c fz, o ≠ .cells c e fz) : w'.heap[b]? = some o := by
  refine (hg.block b (Array.getElem?_eq_some_iff.1 h).1 ?_).trans h
  intro e
  rcases hr.2 with ⟨hx, _⟩ | ⟨g, cap, cur, rfl, _, hgg, _⟩
  · rw [hx] at e; cases e
  · have e2 : some b = some g := e
    obtain rfl := Option.some.inj e2
    rw [h] at hgg
    exact ho _ _ (Option.some.inj hgg)
def plI (w : World) (e : TypeId) (u : Int) (k : IntKind) (R : List Nat) (qs : List Pt) (x : Nat) (v11 v12 : Value) (wr : World) : Prop :=
  ∃ (L : List Nat) (p : Option Addr) (n c : Nat) (R' : List Nat), wr.ownsRow w.heap.size e 1 v11 (rowZ u L).length ((rowZ u L).map (Value.int k)) ∧ v12 = .slice p n c ∧ sl w k p n c (rowZ u R') ∧ (∀ r ∈ R', isRune r) ∧ longP (qs.drop x) = by_ u R' ∧
    okZ u R' (qs.drop x) = true ∧ comesZ u R qs = L ++ comesZ u R' (qs.drop x) ∧ C1 R' ≤ 1000000 ∧ x ≤ qs.length ∧ Below w.heap.size w wr ∧ w.heap.size ≤ wr.heap.size
theorem plI_start {w w1 : World} {e : TypeId} {u : Int} {k : IntKind} {R : List Nat} {qs : List Pt} {p : Option Addr} {n c : Nat} (hz : C1 R ≤ 1000000) (hsl : sl w k p n c (rowZ u R)) (hR : ∀ r ∈ R, isRune r) (hl : longP qs = by_ u R) (hok : okZ u R qs = true) (hb : Below w.heap.size w w1) : plI w e u k R qs 0 (.slice none 0 0) (.slice p n c) w1 :=
  ⟨[], p, n, c, R, by rw [rowZ_nil]; exact World.ownsRow_nil _ _ _ _, rfl, hsl, hR, hl, hok, rfl, hz, Nat.zero_le _, hb, hb.size⟩
theorem pl_kept {u : Int} {R' : List Nat} {Kn M : Nat} {D : Int} {U : List UInt8} {Y : List Nat} (h : oneB ⟨(Kn : Int), D, U⟩ = true) (hM : (Kn : Int) + D = (M : Int)) (hY : (if 0 < (Kn : Int) then upTo R' u ((Kn : Int) + D) else []) = Y) (hp : (rowZ u R').take M = rowZ u (upTo R' u ((Kn : Int) + D))) : (rowZ u R').take Kn = rowZ u Y := by
  rcases oneB_shapes h with ⟨h1, h2, h3⟩ | ⟨h1, h2, h3⟩ | ⟨h1, h2, h3⟩
  · have h1 : 0 < (Kn : Int) := h1
    have h2 : D = 0 := h2
    rw [if_pos h1] at hY
    have : Kn = M := by omega
    rw [this, hp, hY]
  · have h1 : (Kn : Int) = 0 := h1
    rw [if_neg (by omega)] at hY
    have : Kn = 0 := by omega
    rw [this, ← hY, rowZ_nil]; rfl
  · have h1 : (Kn : Int) = 0 := h1
    rw [if_neg (by omega)] at hY
    have : Kn = 0 := by omega
    rw [this, ← hY, rowZ_nil]; rfl
theorem by_le3 {u : Int} (hu : unitOk u) (rs : List Nat) : by_ u rs ≤ 2 * C1 rs := by
  have h1 := C1_pos rs
  have h2 := C2_le rs
  have h3 : C3 rs ≤ C1 rs := by
    have := encs_len rs
    rw [C1_len]; unfold C3; omega
  unfold by_
  rcases hu with rfl | rfl | rfl
  · rw [if_pos rfl]; omega
  · rw [if_neg (by decide), if_pos rfl]; omega
  · rw [if_neg (by decide), if_neg (by decide), if_pos rfl]; omega
theorem pl_lens {u : Int} (hu : unitOk u) {R L Y V T : List Nat} {qs : List Pt} (h : C1 (comesZ u R qs) ≤ 8000) (e : comesZ u R qs = (L ++ Y ++ V) ++ T) : (rowZ u L).length ≤ 16000 ∧ (rowZ u Y).length ≤ 16000 ∧ (rowZ u V).length ≤ 16000 := by
  rw [e, C1_append, C1_append, C1_append] at h
  have h1 := C1_pos L; have h2 := C1_pos Y; have h3 := C1_pos V; have h4 := C1_pos T
  have k1 := by_le3 hu L; have k2 := by_le3 hu Y; have k3 := by_le3 hu V
  have l1 := rowZ_len hu L; have l2 := rowZ_len hu Y; have l3 := rowZ_len hu V
  omega
end Go.Proofs.YtldhbjmillfjgabGreatDoor

namespace Go.Proofs.YtldhbjmillfjgabGreatDoor
open Go.RowKit
set_option linter.unusedVariables false
attribute [local go_sem] Oper.semAt_some

theorem infoE1 : (Tryz.prog.info? 5).map (fun i => (i.zero, i.size, i.bytes)) = some (some (.int .u8 0), 1, 1) := by kernel_rfl
set_option maxRecDepth 100000 in
set_option maxHeartbeats 800000 in
theorem play1_err (b : Nat) (p : Option Addr) (n c : Nat) (R : List Nat) (qs : List Pt) (v : Value) (w : World) (hT : Lib.Utf8Tabs 2 3 w) (hR : ∀ r ∈ R, isRune r) (hcell : w.cell? ⟨b, 1, none⟩ = some (.slice p n c)) (hsl : sl w .u8 p n c (rowZ 1 R)) (hr : opAt w v qs) (hc : chkE qs (by_ 1 R) = 0) (hl : qs.length ≤ 1000) (hz : C1 R ≤ 1000000) (hpl : ∀ q ∈ qs, q.put.length ≤ 1000000) (hno : plE 1 R qs ≠ 0) :
    Calls Tryz.prog 69 #[.pointer (some ⟨b, 1, none⟩), v, .func (.func 70) #[] #[], .func (.func 71) #[] #[]] w fun e w' => e = .returned (errV (plE 1 R qs)) ∧ Below w.heap.size w w' := by
  have cS : Hid _ := size1_any p n c R qs v w hT hR hsl hr hc hl hz hpl
  obtain ⟨hop, cop, rfl, _⟩ := hr
  rcases pl_no hno with ⟨e1, e2, e3⟩ | ⟨e1, e2, e3, e4⟩
  · rw [e1, e2] at cS
    rw [e3]
    clear hT hR hsl hc hl hz hpl hno e1 e2 e3
    go_enter Tryz.func69, Tryz.ntmps69
    go_wp2_with (first
      | (go_at_call 123; refine Calls.mono cS.out ?_; rw [errV_10]; rintro e w1 ⟨rfl, hb1⟩)
      | fail)
    go_ret
    exact ⟨rfl, hb1⟩
  · rw [e1, e2] at cS
    rw [e3]
    generalize C1 (comesZ 1 R qs) = Z at cS e4
    clear hT hR hsl hc hl hz hpl hno e1 e2 e3
    go_enter Tryz.func69, Tryz.ntmps69
    go_wp2_with (first
      | (go_at_call 123; refine Calls.mono cS.out ?_; rw [errV_0]; rintro e w1 ⟨rfl, hb1⟩)
      | fail)
    go_ret
    exact ⟨rfl, hb1⟩

set_option maxRecDepth 100000 in
set_option maxHeartbeats 800000 in
theorem play1_good (b : Nat) (p : Option Addr) (n c : Nat) (R : List Nat) (qs : List Pt) (v : Value) (w : World) (hT : Lib.Utf8Tabs 2 3 w) (hR : ∀ r ∈ R, isRune r) (hcell : w.cell? ⟨b, 1, none⟩ = some (.slice p n c)) (hfz : w.frozen? ⟨b, 1, none⟩ = false) (hsl : sl w .u8 p n c (rowZ 1 R)) (hr : opAt w v qs) (hc : chkE qs (by_ 1 R) = 0) (hl : qs.length ≤ 1000) (hz : C1 R ≤ 1000000) (hpl : ∀ q ∈ qs, q.put.length ≤ 1000000) (hok : okZ 1 R qs = true) (hsm : C1 (comesZ 1 R qs) ≤ 8000) :
    Calls Tryz.prog 69 #[.pointer (some ⟨b, 1, none⟩), v, .func (.func 70) #[] #[], .func (.func 71) #[] #[]] w fun e w' => e = .returned .nilIface ∧ ∃ W p' n' c', Below w.heap.size w W ∧ w' = W.setCell ⟨b, 1, none⟩ (.slice p' n' c') ∧ sl W .u8 p' n' c' (rowZ 1 (comesZ 1 R qs)) ∧ ∀ a, p' = some a → w.heap.size ≤ a.block := by
  have hu : unitOk 1 := by unfold unitOk; omega
  obtain ⟨hp1, hp2, hp3⟩ := chkE_parts hc
  have cS : Hid (Calls Tryz.prog 123 #[.slice p n c, v, .func (.func 70) #[] #[]] w fun e w' => e = .returned (.tuple #[.int .i64 (C1 (comesZ 1 R qs)), .nilIface]) ∧ Below w.heap.size w w') := by
    have := size1_any p n c R qs v w hT hR hsl hr hc hl hz hpl
    unfold szV szE at this
    rw [hok, if_pos rfl, if_pos rfl, errV_0] at this
    exact this
  have hbw0 := World.block_lt_of_cell? w _ hcell
  have hbw0 : b < w.heap.size := hbw0
  have HU : Hid (unitOk 1) := hu
  have HT : Hid (Lib.Utf8Tabs 2 3 w) := hT
  have HOP : Hid (opAt w v qs) := hr
  have HP1 : Hid (∀ p ∈ qs, oneB p = true ∧ (scan p.put).2 = true) := hp1
  have HPL : Hid (∀ q ∈ qs, q.put.length ≤ 1000000) := hpl
  have HCE : Hid (w.cell? ⟨b, 1, none⟩ = some (.slice p n c)) := hcell
  have HFZ : Hid (w.frozen? ⟨b, 1, none⟩ = false) := hfz
  have HST : Hid (∀ w1, Below w.heap.size w w1 → plI w 5 1 .u8 R qs 0 (.slice none 0 0) (.slice p n c) w1) := fun w1 hb => plI_start hz hsl hR hp2 hok hb
  have hC0 := C1_pos (comesZ 1 R qs)
  have HSM : Hid (C1 (comesZ 1 R qs) ≤ 8000) := hsm
  obtain ⟨Z, hZ⟩ : ∃ Z, C1 (comesZ 1 R qs) = Z := ⟨_, rfl⟩
  rw [hZ] at cS hsm hC0
  obtain ⟨pq, cq, rfl, r1, r2, r3⟩ := hr
  unfold maxLen at r2
  obtain ⟨N, hN⟩ : ∃ N, qs.length = N := ⟨_, rfl⟩
  rw [hN] at r1 hl cS ⊢
  have HN : Hid (qs.length = N) := hN
  have hN0 : (N : Int) ≤ 1000 := by omega
  obtain ⟨i0, hi, hz0, hz1, hz2⟩ := info_parts infoE1
  clear hT hR hsl hc hp1 hp2 hp3 r3 hz hpl hu hN hok hZ hfz
  go_enter Tryz.func69, Tryz.ntmps69
  go_wp2_with (first
    | (go_at_call 123; refine Calls.mono cS.out ?_; rintro e w1 ⟨rfl, hb1⟩; have HB1 : Hid (Below w.heap.size w w1) := hb1; have hc1 : w1.cell? ⟨b, 1, none⟩ = some (.slice p n c) := (hb1.cell (p := ⟨b, 1, none⟩) hbw0).trans HCE.out; clear hb1 hcell)
    | fail)
  have HI : Hid (plI w 5 1 .u8 R qs 0 (.slice none 0 0) (.slice p n c) w1) := HST.out w1 HB1.out
  clear hc1 HST cS HB1 hsm hC0
  go_loopw [11, 12, 35] (fun v11 v12 i wr => ∃ x : Nat, i = .int .i64 x ∧ plI w 5 1 .u8 R qs x v11 v12 wr) (fun _ _ i _ => N - (intOf i).toNat)
  case atStart => exact ⟨0, rfl, HI.out⟩
  case round =>
    obtain ⟨x, rfl, hst⟩ := hrel
    obtain ⟨L, p', n', c', R', hown, rfl, hsl, hR', hlong, hok, hcome, hCR, hx, hbw, hsz⟩ := hst
    obtain ⟨p11, c11, rfl⟩ := own_slice hown
    clear HI
    by_cases hlt : x < N
    · have hxr : x < qs.length := by rw [HN.out]; exact hlt
      have hne : qs ≠ [] := by intro e; rw [e] at hxr; exact absurd hxr (Nat.not_lt_zero _)
      obtain ⟨p0, c0, hvv, _, _, hcell⟩ := HOP.out
      obtain ⟨b0, o, rfl, hb0, hcell⟩ := hcell hne
      obtain ⟨f0, f1, f2⟩ := hcell x qs[x] (List.getElem?_eq_getElem hxr)
      have g0 := (hbw.cell (p := ⟨b0, o + x * 3, none⟩) hb0).trans f0
      have g1 := (hbw.cell (p := ⟨b0, o + x * 3 + 1, none⟩) hb0).trans f1
      have g2 := (hbw.cell (p := ⟨b0, o + x * 3 + 2, none⟩) hb0).trans f2
      obtain rfl : pq = some ⟨b0, o, none⟩ := by injection hvv
      clear hvv hcell f0 f1 f2 hne
      have hq := HP1.out _ (List.getElem_mem hxr)
      have hputl := HPL.out _ (List.getElem_mem hxr)
      have hdk : qs.drop x = qs[x] :: qs.drop (x + 1) := List.drop_eq_getElem_cons hxr
      have hstep := sz_step HU.out hdk hq (fun y hy => HP1.out y (List.mem_of_mem_drop hy)) hsl hR' hlong hCR
      rw [hdk] at hok hcome
      have HOK : Hid (okZ 1 R' (qs[x] :: qs.drop (x + 1)) = true) := hok
      have HCOME : Hid (comesZ 1 R qs = L ++ comesZ 1 R' (qs[x] :: qs.drop (x + 1))) := hcome
      have HBW : Hid (Below w.heap.size w wr) := hbw
      have HSZ : Hid (w.heap.size ≤ wr.heap.size) := hsz
      have HX : Hid (x < qs.length) := hxr
      have HSL : Hid (sl w .u8 p' n' c' (rowZ 1 R')) := hsl
      have HR' : Hid (∀ r ∈ R', isRune r) := hR'
      have HCR : Hid (C1 R' ≤ 1000000) := hCR
      have HOWN : Hid (wr.ownsRow w.heap.size 5 1 (.slice p11 (rowZ 1 L).length c11) (rowZ 1 L).length ((rowZ 1 L).map (Value.int .u8))) := hown
      clear hok hcome hbw hsl hR' hlong hdk hown hsz
      generalize qs[x] = q at *
      obtain ⟨K, D, U⟩ := q
      simp only at g0 g1 g2 hputl
      have hK0 : 0 ≤ K := hstep.k0
      have hD0 : 0 ≤ D := hstep.d0
      have hKD : K + D ≤ (n' : Int) := hstep.le
      obtain ⟨hcc, hcm, hnn⟩ := sl_cap HSL.out
      unfold maxLen at hcm
      have hUz : (ByteArray.mk U.toArray).size = U.length := by simp [ByteArray.size]
      obtain ⟨M, hM⟩ : ∃ M : Nat, K + D = (M : Int) := ⟨(K + D).toNat, by omega⟩
      obtain ⟨Kn, rfl⟩ : ∃ Kn : Nat, K = (Kn : Int) := ⟨K.toNat, by omega⟩
      have hMn : M ≤ n' := by omega
      have hKn : Kn ≤ n' := by omega
      have HM : Hid ((Kn : Int) + D = (M : Int)) := hM
      have he : onEdge R' 1 ((Kn : Int) + D) = true := by
        have := HOK.out
        unfold okZ at this
        rw [Bool.and_eq_true] at this
        exact this.1
      have hsg := szStep_good HU.out hstep HR'.out HCR.out he
      obtain ⟨hpX, hX1, hX2, hX3, hX4, hX5, hX6, hX7, _⟩ := hsg
      have hMt : ((Kn : Int) + D).toNat = M := by omega
      rw [hMt] at hpX hX3
      obtain ⟨Y, hY⟩ : ∃ Y, (if 0 < (Kn : Int) then upTo R' 1 ((Kn : Int) + D) else []) = Y := ⟨_, rfl⟩
      have hrowY : (rowZ 1 R').take Kn = rowZ 1 Y := pl_kept hq.1 hM hY hpX
      have hcomes : comesZ 1 R qs = (L ++ Y ++ runesOf U) ++ comesZ 1 (restZ 1 R' ((Kn : Int) + D)) (qs.drop (x + 1)) := by
        rw [HCOME.out]
        show L ++ (((if 0 < (Kn : Int) then upTo R' 1 ((Kn : Int) + D) else []) ++ runesOf U) ++ _) = _
        rw [hY]
        simp only [List.append_assoc]
        rfl
      have hlens := pl_lens HU.out HSM.out hcomes
      have HROW : Hid ((rowZ 1 L).map (Value.int .u8) ++ (rowZ 1 Y).map (Value.int .u8) ++ (rowZ 1 (runesOf U)).map (Value.int .u8) = (rowZ 1 (L ++ Y ++ runesOf U)).map (Value.int .u8)) := by
        show _ = _
        rw [rowZ_append, rowZ_append, List.map_append, List.map_append]
      have HLN : Hid ((rowZ 1 (L ++ Y ++ runesOf U)).length = (rowZ 1 L).length + Kn + (rowZ 1 (runesOf U)).length) := by
        show _ = _
        have : (rowZ 1 Y).length = Kn := by rw [← hrowY, List.length_take]; omega
        rw [rowZ_append, rowZ_append, List.length_append, List.length_append, this]
      have HPC : Hid (sl w .u8 p' Kn c' (rowZ 1 Y)) := by
        show sl w .u8 p' Kn c' (rowZ 1 Y)
        rw [← hrowY]; exact sl_head HSL.out hKn
      have HNEXT : Hid (∀ (v : Value) (pp : Option Addr) (nn cc : Nat) wn, wn.ownsRow w.heap.size 5 1 v ((rowZ 1 (L ++ Y ++ runesOf U)).length) ((rowZ 1 (L ++ Y ++ runesOf U)).map (Value.int .u8)) → sl w .u8 pp nn cc (rowZ 1 (restZ 1 R' ((Kn : Int) + D))) → Below w.heap.size w wn → plI w 5 1 .u8 R qs (x + 1) v (.slice pp nn cc) wn) :=
        fun v pp nn cc wn h1 h2 h3 => ⟨_, pp, nn, cc, _, h1, rfl, h2, hX4, hX5, hX7.symm.trans HOK.out, hcomes, hX6, HX.out, h3, h3.size⟩
      have HX3 : Hid ((rowZ 1 R').drop M = rowZ 1 (restZ 1 R' ((Kn : Int) + D))) := hX3
      have cP : Hid (∀ wx, Below w.heap.size w wx → Calls Tryz.prog 71 #[.string ⟨U.toArray⟩] wx fun e w' => ∃ p n c, e = .returned (.slice p n c) ∧ sl w' .u8 p n c (rowZ 1 (runesOf U)) ∧ Below wx.heap.size wx w') := fun wx hb => put1_any U hq.2 hputl wx
      obtain ⟨hl1, hl2, hl3⟩ := hlens
      have hxlN : (x : Int) < (N : Int) := by omega
      have hYl : (rowZ 1 Y).length = Kn := by rw [← hrowY, List.length_take]; omega
      obtain ⟨LL, hLL⟩ : ∃ LL, (rowZ 1 L).length = LL := ⟨_, rfl⟩
      obtain ⟨UL, hUL⟩ : ∃ UL, (rowZ 1 (runesOf U)).length = UL := ⟨_, rfl⟩
      rw [hLL] at hl1 HOWN HLN ⊢
      rw [hYl] at hl2
      rw [hUL] at hl3 HLN
      have HUL : Hid ((rowZ 1 (runesOf U)).length = UL) := hUL
      clear hstep hnn hxr hpX hX1 hX2 hX3 hX4 hX5 hX6 hX7 he hrowY hcomes hY hq hM hLL hUL hYl HOK
      go_wp2_with (first
        | (at_builtin; refine wpList_append_sl _ rfl _ _ 130 rfl w.heap.size 5 i0 (.int .u8 0) 1 Tryz.underlying130 hi hz0 hz1 hz2 rfl _ _ _ rfl (HOWN.out.alloc _) .u8 p' Kn c' (rowZ 1 Y) rfl (sl_below HPC.out (HBW.out.alloc HSZ.out _) (Nat.le_refl _)) (by unfold maxLen; omega) (by omega) (by have := HSZ.out; simp; omega) ?_)
        | fail)
      intro v' w2 hown' hg'
      obtain ⟨p12, c12, rfl⟩ := own_slice hown'
      have hbox : w2.heap[wr.heap.size]? = some (.cells #[.int .i64 (Kn : Int), .int .i64 D, .string ⟨U.toArray⟩] 50 (0, 0)) := grown_boxT (heap_alloc_new _ _) (HOWN.out.alloc _) hg' (by intro c fz e; cases e)
      have x0 : w2.cell? ⟨wr.heap.size, 0, none⟩ = some (.int .i64 (Kn : Int)) := Lib.cell_of_heap hbox 0
      have x1 : w2.cell? ⟨wr.heap.size, 1, none⟩ = some (.int .i64 D) := Lib.cell_of_heap hbox 1
      have x2 : w2.cell? ⟨wr.heap.size, 2, none⟩ = some (.string ⟨U.toArray⟩) := Lib.cell_of_heap hbox 2
      have HBOX : Hid (w2.heap[wr.heap.size]? = some (.cells #[.int .i64 (Kn : Int), .int .i64 D, .string ⟨U.toArray⟩] 50 (0, 0))) := hbox
      have HO2 : Hid (w2.ownsRow w.heap.size 5 1 (.slice p12 (LL + Kn) c12) (LL + Kn) ((rowZ 1 L).map (Value.int .u8) ++ (rowZ 1 Y).map (Value.int .u8))) := hown'
      have HBW2 : Hid (Below w.heap.size w w2) := (HBW.out.alloc HSZ.out _).grown hg' (by rw [World.size_alloc]; have := HSZ.out; omega) fun k hk => (HOWN.out.lt k hk).1
      have hsz2 : wr.heap.size + 1 ≤ w2.heap.size := by have := hg'.size; rwa [World.size_alloc] at this
      have HSZ2 : Hid (wr.heap.size + 1 ≤ w2.heap.size) := hsz2
      clear hbox hown' hg' HOWN HPC HBW g0 g1 g2
      go_wp2_with (first
        | (go_at_call 71; refine (cP.out _ HBW2.out).mono ?_; rintro e w3 ⟨pz, nz, cz, rfl, hs3, hb3⟩; have HS3 : Hid (sl w3 .u8 pz nz cz (rowZ 1 (runesOf U))) := hs3; have hnz : nz = UL := by rw [hs3.1]; exact HUL.out
           have HO3 : Hid (w3.ownsRow w.heap.size 5 1 (.slice p12 (LL + Kn) c12) (LL + Kn) ((rowZ 1 L).map (Value.int .u8) ++ (rowZ 1 Y).map (Value.int .u8))) := own_below HO2.out hb3
           have HBW3 : Hid (Below w.heap.size w w3) := HBW2.out.trans (hb3.mono HBW2.out.size)
           have hbox : w3.heap[wr.heap.size]? = some (.cells #[.int .i64 (Kn : Int), .int .i64 D, .string ⟨U.toArray⟩] 50 (0, 0)) := (hb3.block wr.heap.size (by have := HSZ2.out; omega)).trans HBOX.out
           have HBOX3 : Hid (w3.heap[wr.heap.size]? = some (.cells #[.int .i64 (Kn : Int), .int .i64 D, .string ⟨U.toArray⟩] 50 (0, 0))) := hbox
           subst hnz
           clear hs3 hb3 hbox x0 x1 x2)
        | (at_builtin; refine wpList_append_sl _ rfl _ _ 130 rfl w.heap.size 5 i0 (.int .u8 0) 1 Tryz.underlying130 hi hz0 hz1 hz2 rfl _ _ _ rfl HO3.out .u8 pz nz cz (rowZ 1 (runesOf U)) rfl HS3.out (by unfold maxLen; omega) (by omega) HBW3.out.size ?_)
        | fail)
      intro v' w4 hown' hg'
      obtain ⟨p14, c14, rfl⟩ := own_slice hown'
      have hbox : w4.heap[wr.heap.size]? = some (.cells #[.int .i64 (Kn : Int), .int .i64 D, .string ⟨U.toArray⟩] 50 (0, 0)) := grown_boxT HBOX3.out HO3.out hg' (by intro c fz e; cases e)
      have x0 : w4.cell? ⟨wr.heap.size, 0, none⟩ = some (.int .i64 (Kn : Int)) := Lib.cell_of_heap hbox 0
      have x1 : w4.cell? ⟨wr.heap.size, 1, none⟩ = some (.int .i64 D) := Lib.cell_of_heap hbox 1
      rw [← List.append_assoc] at hown'
      have HO4 : Hid (w4.ownsRow w.heap.size 5 1 (.slice p14 (LL + Kn + nz) c14) (LL + Kn + nz) ((rowZ 1 L).map (Value.int .u8) ++ (rowZ 1 Y).map (Value.int .u8) ++ (rowZ 1 (runesOf U)).map (Value.int .u8))) := hown'
      have HBW4 : Hid (Below w.heap.size w w4) := HBW3.out.grown hg' HBW3.out.size fun k hk => (HO3.out.lt k hk).1
      clear hbox hown' hg' HO3 HS3 HBW3 HBOX3 HBOX
      go_wp2
      refine ⟨⟨x + 1, by go_num, ?_⟩, by simp [intOf]; omega⟩
      have hs5 := sl_cut HSL.out hMn
      rw [HX3.out] at hs5
      refine HNEXT.out _ _ _ _ _ ?_ hs5 HBW4.out
      have ho4 := HO4.out
      rw [HROW.out, ← HLN.out] at ho4
      rw [← HLN.out]
      exact ho4
    · obtain rfl : x = N := by have := HN.out; omega
      have hxlN : ¬ ((x : Int) < (x : Int)) := by omega
      rw [← HN.out, List.drop_length] at hcome
      have HE : Hid (comesZ 1 R qs = L) := by show _ = _; rw [hcome]; exact List.append_nil _
      have HBW : Hid (Below w.heap.size w wr) := hbw
      have HOWN : Hid (wr.ownsRow w.heap.size 5 1 (.slice p11 (rowZ 1 L).length c11) (rowZ 1 L).length ((rowZ 1 L).map (Value.int .u8))) := hown
      have hc2 : wr.cell? ⟨b, 1, none⟩ = some (.slice p n c) := (hbw.cell (p := ⟨b, 1, none⟩) hbw0).trans HCE.out
      have hf2 : wr.frozen? ⟨b, 1, none⟩ = false := (hbw.frozen (p := ⟨b, 1, none⟩) hbw0).trans HFZ.out
      clear hok hcome hsl hR' hlong hbw hown hsz hlt
      go_wp2
      go_ret
      obtain ⟨p2, c2, e2, s2⟩ := sl_own rfl HOWN.out
      injection e2 with e2 e3 e4
      subst e2 e4
      refine ⟨rfl, ?_⟩
      exact ⟨wr, HBW.out, p11, _, c11, rfl, by rw [HE.out]; exact s2, fun a ha => (HOWN.out.lt a.block (by rw [ha]; rfl)).1⟩
end Go.Proofs.YtldhbjmillfjgabGreatDoor
