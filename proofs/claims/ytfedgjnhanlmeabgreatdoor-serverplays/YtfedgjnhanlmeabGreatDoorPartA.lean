/-
  Operations as lists: what a gathering keeps, and gap by gap: both come to the same least form.
  The library's contracts that these texts use, laid at this program by the shelf's own command, its plain mode.
  Plain mathematics of UTF-8: bytes as runes and back. No Go in sight.
  utf.wrong and utf.each: a text is walked rune by rune by a closure.
  A captured variable that gathers elements, and the closures of utf that append to one or count.
  The closures of utf.Halves and utf.Count; utf.Plus, utf.countsOf; then utf.Runes, utf.Halves, utf.Count: what they return of any text.
  utf.Runes, utf.Halves, utf.Count: what they return of any text.
  utf.Text and utf.FromHalves: what they return of any slice.
  The closures of ops.gather: parts are added, told, and in the end there.
  ops.gather, and its closures tell, add and done, walked.
-/
import Derived.Test.YtfedgjnhanlmeabGreatDoorProg
import Derived.Shelf.Strings.Builder1
import Derived.Shelf.Small.Utf8
import Derived.Shelf.Strings.BuilderF
import Derived.Shelf.Strings.BuilderK
import Derived.Shelf.Utf8.AppendRune
import Derived.Shelf.Utf8.AppendRunePlain
import Derived.Shelf.Utf8.RuneCount
import Derived.Shelf.LaysM
import Derived.Shelf.Strconv.Clone
import Derived.Shelf.Strings.Search1
import Derived.Shelf.Strings.Search2
import Derived.Shelf.Strings.Search3
import Derived.Shelf.Strings.Count
import Derived.Shelf.Strings.Shaped
import Derived.Shelf.Strings.Split
import Derived.Shelf.Unicode.Decode
import Derived.Shelf.Strings.RuneCount
import Derived.Shelf.Unicode.DecodeSlow
import Derived.Shelf.Unicode.DecodeAny
import Derived.Shelf.Strings.BuilderCap
import Derived.Lib.DecodeN
import Derived.Lib.RuneBytes
import Derived.Lib.Strings
import Derived.WalkKit
import Derived.WalkSpells
import Derived.WalkLawsBesides
import Derived.OwnWalk
import Derived.Lib.QuoteBits
import Derived.Laws.IdiomStrings
import Derived.Lib.UnsafeStr
import Derived.Lib.AppendStr
import Derived.Laws.OwnMore
import Derived.Maps.AppendAt
import Derived.Laws.EntriesVeiled
namespace Go.Proofs.YtfedgjnhanlmeabGreatDoor

/-- A part of an operation. -/
structure Pt where
  keep : Int
  drop : Int
  put : List UInt8
deriving DecidableEq

/-- What a gathering keeps: what it told, what is put and dropped since. -/
structure NSt where
  out : List Pt
  put : List UInt8
  drop : Int
deriving DecidableEq

def tellP (s : NSt) : List Pt := s.out ++ ((if s.put = [] then [] else [⟨0, 0, s.put⟩]) ++ (if s.drop = 0 then [] else [⟨0, s.drop, []⟩]))
def lastKeeps (l : List Pt) : Bool := match l.getLast? with
  | some p => decide (0 < p.keep)
  | none => false
def pushKeep (l : List Pt) (k : Int) : List Pt := match l.getLast? with
  | some p => if 0 < p.keep then l.dropLast ++ [⟨p.keep + k, p.drop, p.put⟩] else l ++ [⟨k, 0, []⟩]
  | none => l ++ [⟨k, 0, []⟩]
def addP (s : NSt) (p : Pt) : NSt := if p.keep = 0 then ⟨s.out, s.put ++ p.put, s.drop + p.drop⟩ else ⟨pushKeep (tellP ⟨s.out, s.put ++ p.put, s.drop + p.drop⟩) p.keep, [], 0⟩
def nst0 : NSt := ⟨[], [], 0⟩
def normP (op : List Pt) : List Pt := tellP (op.foldl addP nst0)

theorem pushKeep_more (l : List Pt) (a b : Int) (ha : 0 < a) : pushKeep (pushKeep l a) b = pushKeep l (a + b) := by
  unfold pushKeep
  cases h : l.getLast? with
  | none => simp [ha]
  | some p =>
    by_cases hp : 0 < p.keep
    · have h2 : 0 < p.keep + a := by omega
      simp [hp, h2, Int.add_assoc]
    · simp [hp, ha]

theorem tellP_done (l : List Pt) : tellP ⟨l, [], 0⟩ = l := by simp [tellP]
theorem addP_none (s : NSt) : addP s ⟨0, 0, []⟩ = s := by simp [addP]
theorem addP_split (s : NSt) (k d : Int) (q : List UInt8) : addP s ⟨k, d, q⟩ = addP (addP (addP s ⟨0, 0, q⟩) ⟨0, d, []⟩) ⟨k, 0, []⟩ := by
  by_cases h : k = 0
  · subst h; simp [addP]
  · simp [addP, h]
theorem addP_drops (s : NSt) (a b : Int) : addP (addP s ⟨0, a, []⟩) ⟨0, b, []⟩ = addP s ⟨0, a + b, []⟩ := by simp [addP, Int.add_assoc]
theorem addP_puts (s : NSt) (a b : List UInt8) : addP (addP s ⟨0, 0, a⟩) ⟨0, 0, b⟩ = addP s ⟨0, 0, a ++ b⟩ := by simp [addP]
theorem addP_keeps (s : NSt) (a b : Int) (ha : 0 < a) (hb : 0 ≤ b) : addP (addP s ⟨a, 0, []⟩) ⟨b, 0, []⟩ = addP s ⟨a + b, 0, []⟩ := by
  have h1 : a ≠ 0 := by omega
  have h2 : a + b ≠ 0 := by omega
  by_cases h : b = 0
  · subst h; simp [addP, h1]
  · simp [addP, h, h1, h2, tellP_done, pushKeep_more _ a b ha]

/-- One byte of the text: dropped, or kept. -/
def unitP (d : Bool) : Pt := if d then ⟨0, 1, []⟩ else ⟨1, 0, []⟩

/-- Gaps so far: what is put ahead of each byte, and whether it is dropped; and what is put behind them. -/
abbrev GSt := List (List UInt8 × Bool) × List UInt8
def tick (d : Bool) (g : GSt) : GSt := (g.1 ++ [(g.2, d)], [])
def ticks (d : Bool) : Nat → GSt → GSt
  | 0, g => g
  | n + 1, g => ticks d n (tick d g)
def spreadP (g : GSt) (p : Pt) : GSt := ticks false p.keep.toNat (ticks true p.drop.toNat (g.1, g.2 ++ p.put))
def spreads (op : List Pt) : GSt := op.foldl spreadP ([], [])

theorem ticks_len (d : Bool) : ∀ (n : Nat) (g : GSt), (ticks d n g).1.length = g.1.length + n
  | 0, _ => rfl
  | n + 1, g => by rw [ticks, ticks_len d n, tick, List.length_append, List.length_singleton]; omega
theorem ticks_more (d : Bool) : ∀ (n : Nat) (g : GSt), ticks d (n + 1) g = tick d (ticks d n g)
  | 0, _ => rfl
  | n + 1, g => by rw [ticks, ticks_more d n, ticks]
def lenP (p : Pt) : Int := p.keep + p.drop
theorem spreadP_len (g : GSt) (p : Pt) (hk : 0 ≤ p.keep) (hd : 0 ≤ p.drop) : ((spreadP g p).1.length : Int) = g.1.length + lenP p := by
  unfold spreadP lenP
  rw [ticks_len, ticks_len]
  show ((g.1.length + _ + _ : Nat) : Int) = _
  omega

def gapAdd (s : NSt) (x : List UInt8 × Bool) : NSt := addP (addP s ⟨0, 0, x.1⟩) (unitP x.2)
def runG (g : GSt) : NSt := addP (g.1.foldl gapAdd nst0) ⟨0, 0, g.2⟩
theorem runG_tick (d : Bool) (g : GSt) : runG (tick d g) = addP (runG g) (unitP d) := by
  unfold runG tick
  rw [List.foldl_append]
  show addP (gapAdd _ _) ⟨0, 0, []⟩ = _
  rw [addP_none]
  rfl
theorem runG_drops : ∀ (n : Nat) (g : GSt), runG (ticks true n g) = addP (runG g) ⟨0, n, []⟩
  | 0, g => (addP_none _).symm
  | n + 1, g => by
    rw [ticks, runG_drops n, runG_tick]
    show addP (addP _ ⟨0, 1, []⟩) _ = _
    rw [addP_drops]
    congr 2
    omega
theorem runG_keeps : ∀ (n : Nat) (g : GSt), runG (ticks false n g) = addP (runG g) ⟨n, 0, []⟩
  | 0, g => (addP_none _).symm
  | n + 1, g => by
    rw [ticks, runG_keeps n, runG_tick]
    show addP (addP _ ⟨1, 0, []⟩) _ = _
    rw [addP_keeps _ _ _ (by omega) (by omega)]
    congr 2
    omega
theorem runG_spread (g : GSt) (p : Pt) (hk : 0 ≤ p.keep) (hd : 0 ≤ p.drop) : runG (spreadP g p) = addP (runG g) p := by
  obtain ⟨k, d, q⟩ := p
  unfold spreadP
  rw [runG_keeps, runG_drops]
  have : runG (g.1, g.2 ++ q) = addP (runG g) ⟨0, 0, q⟩ := by unfold runG; rw [addP_puts]
  rw [this, addP_split _ k d q]
  show addP (addP _ ⟨0, (d.toNat : Int), []⟩) ⟨(k.toNat : Int), 0, []⟩ = _
  rw [Int.toNat_of_nonneg hk, Int.toNat_of_nonneg hd]
theorem runG_spreads (op : List Pt) (h : ∀ p ∈ op, 0 ≤ p.keep ∧ 0 ≤ p.drop) : runG (spreads op) = op.foldl addP nst0 := by
  have key : ∀ (l : List Pt) (g : GSt), (∀ p ∈ l, 0 ≤ p.keep ∧ 0 ≤ p.drop) → runG (l.foldl spreadP g) = l.foldl addP (runG g) := by
    intro l
    induction l with
    | nil => intros; rfl
    | cons p l ih =>
      intro g h
      rw [List.foldl_cons, List.foldl_cons, ih _ fun x hx => h x (List.mem_cons_of_mem _ hx), runG_spread g p (h p (List.mem_cons_self ..)).1 (h p (List.mem_cons_self ..)).2]
  exact key op _ h

/-- What the document's own gathering keeps. -/
structure KSt where
  out : List Pt
  put : List UInt8
  drop : Int
  keep : Int
deriving DecidableEq
def kst0 : KSt := ⟨[], [], 0, 0⟩
/-- What is put at a gap, or that a byte behind it is dropped: what was kept is told. -/
def flushK (s : KSt) (q : List UInt8) (d : Bool) : KSt := if q ≠ [] ∨ d = true then ⟨if 0 < s.keep then s.out ++ [⟨s.keep, 0, []⟩] else s.out, s.put ++ q, s.drop, if 0 < s.keep then 0 else s.keep⟩ else s
def byteK (s : KSt) (d : Bool) : KSt := if d then ⟨s.out, s.put, s.drop + 1, s.keep⟩ else ⟨tellP ⟨s.out, s.put, s.drop⟩, [], 0, s.keep + 1⟩
def stepK (s : KSt) (x : List UInt8 × Bool) : KSt := byteK (flushK s x.1 x.2) x.2
def endK (s : KSt) : List Pt := tellP ⟨if 0 < s.keep then s.out ++ [⟨s.keep, 0, []⟩] else s.out, s.put, s.drop⟩
def gatherP (g : GSt) : List Pt := endK (flushK (g.1.foldl stepK kst0) g.2 false)

def nfK (s : KSt) : NSt := if 0 < s.keep then ⟨s.out ++ [⟨s.keep, 0, []⟩], [], 0⟩ else ⟨s.out, s.put, s.drop⟩
structure InvK (s : KSt) : Prop where
  k0 : 0 ≤ s.keep
  d0 : 0 ≤ s.drop
  quiet : 0 < s.keep → s.put = [] ∧ s.drop = 0 ∧ lastKeeps s.out = false
  last : s.keep = 0 → lastKeeps (tellP ⟨s.out, s.put, s.drop⟩) = false

theorem pushKeep_new (l : List Pt) (k : Int) (h : lastKeeps l = false) : pushKeep l k = l ++ [⟨k, 0, []⟩] := by
  unfold lastKeeps at h
  unfold pushKeep
  cases hl : l.getLast? with
  | none => rfl
  | some p => simp only [hl, decide_eq_false_iff_not] at h; simp [h]
theorem pushKeep_snoc (l : List Pt) (a k : Int) (h : 0 < a) : pushKeep (l ++ [⟨a, 0, []⟩]) k = l ++ [⟨a + k, 0, []⟩] := by simp [pushKeep, h]
theorem lastKeeps_tell (l : List Pt) (q : List UInt8) (d : Int) (h : q ≠ [] ∨ d ≠ 0) : lastKeeps (tellP ⟨l, q, d⟩) = false := by
  unfold tellP
  by_cases hd : d = 0
  · have hq : q ≠ [] := by rcases h with h | h; exact h; exact absurd hd h
    simp [hd, hq, lastKeeps]
  · by_cases hq : q = []
    · simp [hd, hq, lastKeeps]
    · simp [hd, hq, lastKeeps]

theorem step_flush (s : KSt) (h : InvK s) (q : List UInt8) (d : Bool) : nfK (flushK s q d) = addP (nfK s) ⟨0, 0, q⟩ ∧ (q ≠ [] ∨ d = true → (flushK s q d).keep = 0) ∧ (¬ (q ≠ [] ∨ d = true) → flushK s q d = s) ∧ 0 ≤ (flushK s q d).drop := by
  unfold flushK
  have h0 := h.k0
  have hd0 := h.d0
  by_cases hc : q ≠ [] ∨ d = true
  · rw [if_pos hc]
    refine ⟨?_, ?_, fun h => absurd hc h, ?_⟩
    · by_cases hk : 0 < s.keep
      · obtain ⟨q1, q2, _⟩ := h.quiet hk
        simp [hk, nfK, addP, q1, q2]
      · have : s.keep = 0 := by omega
        simp [this, nfK, addP]
    · intro _
      by_cases hk : 0 < s.keep
      · simp [hk]
      · have : s.keep = 0 := by omega
        simp [this]
    · exact hd0
  · rw [if_neg hc]
    have hq : q = [] := by
      by_cases hq : q = []
      · exact hq
      · exact absurd (.inl hq) hc
    subst hq
    exact ⟨by simp [addP], fun h => absurd h hc, fun _ => rfl, hd0⟩

theorem step_any (s : KSt) (h : InvK s) (x : List UInt8 × Bool) : nfK (stepK s x) = gapAdd (nfK s) x ∧ InvK (stepK s x) := by
  obtain ⟨q, d⟩ := x
  obtain ⟨f1, f2, f3, f4⟩ := step_flush s h q d
  unfold gapAdd stepK
  show nfK (byteK (flushK s q d) d) = addP (addP (nfK s) ⟨0, 0, q⟩) (unitP d) ∧ InvK (byteK (flushK s q d) d)
  rw [← f1]
  generalize hs' : flushK s q d = t at *
  cases d with
  | true =>
    have hk := f2 (.inr rfl)
    have hne : t.drop + 1 ≠ 0 := by omega
    refine ⟨?_, ?_, ?_, ?_, ?_⟩
    · simp [byteK, nfK, hk, unitP, addP]
    · simp [byteK, hk]
    · simp [byteK]; omega
    · simp [byteK, hk]
    · intro _
      exact lastKeeps_tell _ _ _ (.inr hne)
  | false =>
    by_cases hq : q ≠ []
    · have hk := f2 (.inl hq)
      have hl : lastKeeps (tellP ⟨t.out, t.put, t.drop⟩) = false := by
        refine lastKeeps_tell _ _ _ (.inl ?_)
        rw [← hs']
        simp [flushK, hq]
      refine ⟨?_, ?_, ?_, ?_, ?_⟩
      · simp [byteK, nfK, hk, unitP, addP, pushKeep_new _ _ hl]
      · simp [byteK, hk]
      · simp [byteK]
      · intro _; exact ⟨rfl, rfl, hl⟩
      · simp [byteK, hk]
    · obtain rfl := f3 (by simpa using hq)
      have h0 := h.k0
      by_cases hk : 0 < t.keep
      · obtain ⟨q1, q2, q3⟩ := h.quiet hk
        refine ⟨?_, ?_, ?_, ?_, ?_⟩
        · simp [byteK, nfK, hk, unitP, addP, q1, q2, tellP_done, pushKeep_snoc _ _ _ hk]
          omega
        · simp [byteK]; omega
        · simp [byteK]
        · intro _
          refine ⟨rfl, rfl, ?_⟩
          show lastKeeps (tellP ⟨t.out, t.put, t.drop⟩) = false
          rw [q1, q2, tellP_done]; exact q3
        · simp [byteK]; omega
      · have hk0 : t.keep = 0 := by omega
        have hl := h.last hk0
        refine ⟨?_, ?_, ?_, ?_, ?_⟩
        · simp [byteK, nfK, hk0, unitP, addP, pushKeep_new _ _ hl]
        · simp [byteK, hk0]
        · simp [byteK]
        · intro _; exact ⟨rfl, rfl, hl⟩
        · simp [byteK, hk0]

theorem inv0 : InvK kst0 := ⟨by simp [kst0], by simp [kst0], by simp [kst0], by simp [kst0, tellP, lastKeeps]⟩
theorem steps_any (l : List (List UInt8 × Bool)) : ∀ (s : KSt), InvK s → nfK (l.foldl stepK s) = l.foldl gapAdd (nfK s) ∧ InvK (l.foldl stepK s) := by
  induction l with
  | nil => exact fun s h => ⟨rfl, h⟩
  | cons x l ih =>
    intro s h
    obtain ⟨h1, h2⟩ := step_any s h x
    rw [List.foldl_cons, List.foldl_cons, ← h1]
    exact ih _ h2
theorem endK_nf (s : KSt) (h : 0 < s.keep → s.put = [] ∧ s.drop = 0) : endK s = tellP (nfK s) := by
  unfold endK nfK
  by_cases hk : 0 < s.keep
  · obtain ⟨h1, h2⟩ := h hk
    simp [hk, h1, h2]
  · simp [hk]

/-- Gap by gap, or part by part: the same least form. -/
theorem gather_norm (op : List Pt) (h : ∀ p ∈ op, 0 ≤ p.keep ∧ 0 ≤ p.drop) : gatherP (spreads op) = normP op := by
  unfold gatherP normP
  obtain ⟨h1, h2⟩ := steps_any (spreads op).1 kst0 inv0
  obtain ⟨f1, f2, f3, f4⟩ := step_flush _ h2 (spreads op).2 false
  rw [endK_nf, f1, h1, ← runG_spreads op h]
  · rfl
  · intro hk
    by_cases hq : (spreads op).2 ≠ [] ∨ false = true
    · rw [f2 hq] at hk; omega
    · rw [f3 hq] at hk ⊢
      exact ⟨(h2.quiet hk).1, (h2.quiet hk).2.1⟩
end Go.Proofs.YtfedgjnhanlmeabGreatDoor

namespace Go.Proofs
open Go.Shelf
def Tryz.lays197_ren : Go.Shelf.Ren := ⟨fun | 197 => 186 | 260 => 215 | n => n, fun | 9 => 9 | 21 => 21 | 3 => 3 | 4 => 4 | 5 => 5 | 105 => 225 | 119 => 300 | 0 => 0 | 46 => 86 | 139 => 303 | 138 => 302 | n => n, fun | 3 => 2 | 4 => 3 | n => n⟩
theorem Tryz.lays197 : Go.Proofs.Lays.n197 Tryz.prog Tryz.lays197_ren := {
  mixed := by kernel_rfl
  f197 := Tryz.func186.trans (congrArg some (by kernel_rfl))
  f260 := Tryz.func215.trans (congrArg some (by kernel_rfl))
  t0 := Tryz.underlying0
  a0 := Tryz.isAgg0
  z0 := Tryz.sizeOf0
  v0 := Tryz.zeroValue0
  t3 := Tryz.underlying3
  a3 := Tryz.isAgg3
  z3 := Tryz.sizeOf3
  v3 := Tryz.zeroValue3
  t4 := Tryz.underlying4
  a4 := Tryz.isAgg4
  z4 := Tryz.sizeOf4
  v4 := Tryz.zeroValue4
  t5 := Tryz.underlying5
  a5 := Tryz.isAgg5
  z5 := Tryz.sizeOf5
  v5 := Tryz.zeroValue5
  t9 := Tryz.underlying9
  a9 := Tryz.isAgg9
  z9 := Tryz.sizeOf9
  v9 := Tryz.zeroValue9
  t21 := Tryz.underlying21
  a21 := Tryz.isAgg21
  z21 := Tryz.sizeOf21
  v21 := Tryz.zeroValue21
  t46 := Tryz.underlying86
  a46 := Tryz.isAgg86
  z46 := Tryz.sizeOf86
  v46 := Tryz.zeroValue86
  t105 := Tryz.underlying225
  a105 := Tryz.isAgg225
  z105 := Tryz.sizeOf225
  v105 := Tryz.zeroValue225
  t119 := Tryz.underlying300
  a119 := Tryz.isAgg300
  z119 := Tryz.sizeOf300
  t138 := Tryz.underlying302
  a138 := Tryz.isAgg302
  z138 := Tryz.sizeOf302
  v138 := Tryz.zeroValue302
  t139 := Tryz.underlying303
  a139 := Tryz.isAgg303
  z139 := Tryz.sizeOf303
  v139 := Tryz.zeroValue303
  g3 := by kernel_rfl
  g4 := by kernel_rfl }
def Tryz.lays260_ren : Go.Shelf.Ren := ⟨fun | 260 => 215 | n => n, fun | 9 => 9 | 21 => 21 | 3 => 3 | 4 => 4 | 5 => 5 | 119 => 300 | 0 => 0 | 46 => 86 | 139 => 303 | 138 => 302 | n => n, fun | 3 => 2 | 4 => 3 | n => n⟩
theorem Tryz.lays260 : Go.Proofs.Lays.n260 Tryz.prog Tryz.lays260_ren := {
  mixed := by kernel_rfl
  f260 := Tryz.func215.trans (congrArg some (by kernel_rfl))
  t0 := Tryz.underlying0
  a0 := Tryz.isAgg0
  z0 := Tryz.sizeOf0
  v0 := Tryz.zeroValue0
  t3 := Tryz.underlying3
  a3 := Tryz.isAgg3
  z3 := Tryz.sizeOf3
  v3 := Tryz.zeroValue3
  t4 := Tryz.underlying4
  a4 := Tryz.isAgg4
  z4 := Tryz.sizeOf4
  v4 := Tryz.zeroValue4
  t5 := Tryz.underlying5
  a5 := Tryz.isAgg5
  z5 := Tryz.sizeOf5
  v5 := Tryz.zeroValue5
  t9 := Tryz.underlying9
  a9 := Tryz.isAgg9
  z9 := Tryz.sizeOf9
  v9 := Tryz.zeroValue9
  t21 := Tryz.underlying21
  a21 := Tryz.isAgg21
  z21 := Tryz.sizeOf21
  v21 := Tryz.zeroValue21
  t46 := Tryz.underlying86
  a46 := Tryz.isAgg86
  z46 := Tryz.sizeOf86
  v46 := Tryz.zeroValue86
  t119 := Tryz.underlying300
  a119 := Tryz.isAgg300
  z119 := Tryz.sizeOf300
  t138 := Tryz.underlying302
  a138 := Tryz.isAgg302
  z138 := Tryz.sizeOf302
  v138 := Tryz.zeroValue302
  t139 := Tryz.underlying303
  a139 := Tryz.isAgg303
  z139 := Tryz.sizeOf303
  v139 := Tryz.zeroValue303
  g3 := by kernel_rfl
  g4 := by kernel_rfl }
open Go.RowKit Go.Lib in
theorem Tryz.utf8_DecodeRuneInString (s : ByteArray) (w : World) (hT : Lib.Utf8Tabs 2 3 w) :
    Calls Tryz.prog 186 #[.string s] w fun e w' => e = .returned (.tuple #[.int .i32 (Lib.decodeGo s).1, .int .i64 (Lib.decodeGo s).2]) ∧ Below w.heap.size w w' := Any.utf8_DecodeRuneInString Tryz.lays197 s w hT
end Go.Proofs

namespace Go.Proofs.YtfedgjnhanlmeabGreatDoor
open Go.Lib

/-- The rune at the beginning of bytes, and how many it takes; (65533, 1): none begins there. -/
def dec (l : List UInt8) : Nat × Nat := decodeN l.length (l.getD 0 0).toNat (l.getD 1 0).toNat (l.getD 2 0).toNat (l.getD 3 0).toNat

theorem decN_ge1 (n b0 b1 b2 b3 : Nat) : 1 ≤ (decodeN n b0 b1 b2 b3).2 := by
  unfold decodeN
  repeat' split
  all_goals simp
theorem decN_le4 (n b0 b1 b2 b3 : Nat) : (decodeN n b0 b1 b2 b3).2 ≤ 4 := by
  unfold decodeN
  repeat' split
  all_goals simp
theorem decN_le (n b0 b1 b2 b3 : Nat) (h : 1 ≤ n) : (decodeN n b0 b1 b2 b3).2 ≤ n := by
  unfold decodeN
  repeat' split
  all_goals simp
  all_goals omega
theorem dec_ge1 (l : List UInt8) : 1 ≤ (dec l).2 := decN_ge1 _ _ _ _ _
theorem dec_le4 (l : List UInt8) : (dec l).2 ≤ 4 := decN_le4 _ _ _ _ _
theorem dec_le {l : List UInt8} (h : l ≠ []) : (dec l).2 ≤ l.length := decN_le _ _ _ _ _ (by cases l <;> simp_all)

/-- No rune begins here. -/
def badB (p : Nat × Nat) : Bool := p.1 == 65533 && p.2 == 1

/-- The runes of bytes, each with its width, up to the first byte at which none begins; and whether that is the end: n: as many at most. -/
def scanF : Nat → List UInt8 → List (Nat × Nat) × Bool
  | 0, _ => ([], true)
  | n + 1, l => if l = [] then ([], true) else if badB (dec l) then ([], false) else (dec l :: (scanF n (l.drop (dec l).2)).1, (scanF n (l.drop (dec l).2)).2)
theorem scanF_any : ∀ (n m : Nat) (l : List UInt8), l.length ≤ n → l.length ≤ m → scanF n l = scanF m l
  | 0, m, l, hn, _ => by
    obtain rfl : l = [] := List.eq_nil_of_length_eq_zero (by omega)
    cases m <;> simp [scanF]
  | n + 1, 0, l, _, hm => by
    obtain rfl : l = [] := List.eq_nil_of_length_eq_zero (by omega)
    simp [scanF]
  | n + 1, m + 1, l, hn, hm => by
    unfold scanF
    by_cases h : l = []
    · simp [h]
    · have h1 := dec_ge1 l
      have h2 : l.length ≠ 0 := by simpa using h
      rw [scanF_any n m (l.drop (dec l).2) (by rw [List.length_drop]; omega) (by rw [List.length_drop]; omega)]
/-- All of them. -/
def scan (l : List UInt8) : List (Nat × Nat) × Bool := scanF l.length l
theorem scan_step (l : List UInt8) (h : l ≠ []) : scan l = if badB (dec l) then ([], false) else (dec l :: (scan (l.drop (dec l).2)).1, (scan (l.drop (dec l).2)).2) := by
  have h1 := dec_ge1 l
  have h2 : l.length ≠ 0 := by simpa using h
  unfold scan
  rw [scanF_any l.length ((l.length - 1) + 1) l (Nat.le_refl _) (by omega), scanF, if_neg h, scanF_any (l.length - 1) (l.drop (dec l).2).length _ (by rw [List.length_drop]; omega) (Nat.le_refl _)]

theorem scan_nil : scan [] = ([], true) := rfl
theorem scan_bad {l : List UInt8} (h : l ≠ []) (hb : badB (dec l) = true) : scan l = ([], false) := by rw [scan_step l h, hb]; rfl
theorem scan_good {l : List UInt8} (h : l ≠ []) (hb : badB (dec l) = false) : scan l = (dec l :: (scan (l.drop (dec l).2)).1, (scan (l.drop (dec l).2)).2) := by
  rw [scan_step l h, hb]; rfl

/-- What a rune is. -/
def isRune (r : Nat) : Prop := r < 55296 ∨ (57344 ≤ r ∧ r ≤ 1114111)

/-- A rune's bytes. -/
def enc (r : Nat) : List UInt8 := encodeRune r
theorem enc1 {r : Nat} (h : r ≤ 127) : enc r = [r.toUInt8] := by
  unfold enc encodeRune; rw [encodeRuneZ_one (by omega) (by omega)]; simp
theorem enc2 {r : Nat} (h0 : 128 ≤ r) (h1 : r ≤ 2047) : enc r = [(192 + r / 64).toUInt8, (128 + r % 64).toUInt8] := by
  unfold enc encodeRune; rw [encodeRuneZ_two (by omega) (by omega)]
  simp only [List.map_cons, List.map_nil]
  rw [show (192 + (r : Int) / 64).toNat = 192 + r / 64 by omega, show (128 + (r : Int) % 64).toNat = 128 + r % 64 by omega]
theorem enc3 {r : Nat} (h : (2048 ≤ r ∧ r < 55296) ∨ (57343 < r ∧ r ≤ 65535)) : enc r = [(224 + r / 4096).toUInt8, (128 + r / 64 % 64).toUInt8, (128 + r % 64).toUInt8] := by
  unfold enc encodeRune; rw [encodeRuneZ_three (by omega)]
  simp only [List.map_cons, List.map_nil]
  rw [show (224 + (r : Int) / 4096).toNat = 224 + r / 4096 by omega, show (128 + (r : Int) / 64 % 64).toNat = 128 + r / 64 % 64 by omega, show (128 + (r : Int) % 64).toNat = 128 + r % 64 by omega]
theorem enc4 {r : Nat} (h0 : 65536 ≤ r) (h1 : r ≤ 1114111) : enc r = [(240 + r / 262144).toUInt8, (128 + r / 4096 % 64).toUInt8, (128 + r / 64 % 64).toUInt8, (128 + r % 64).toUInt8] := by
  unfold enc encodeRune; rw [encodeRuneZ_four (by omega) (by omega)]
  simp only [List.map_cons, List.map_nil]
  rw [show (240 + (r : Int) / 262144).toNat = 240 + r / 262144 by omega, show (128 + (r : Int) / 4096 % 64).toNat = 128 + r / 4096 % 64 by omega, show (128 + (r : Int) / 64 % 64).toNat = 128 + r / 64 % 64 by omega, show (128 + (r : Int) % 64).toNat = 128 + r % 64 by omega]

theorem toU8 {n : Nat} (h : n < 256) : n.toUInt8.toNat = n := by simp [Nat.toUInt8]; omega
theorem u8_eq {n : Nat} {a : UInt8} (h : n = a.toNat) : n.toUInt8 = a := by
  subst h; simp [Nat.toUInt8]

/-- Where a rune begins as it should be, its bytes are just its own. -/
theorem dec_good {l : List UInt8} (h : l ≠ []) (hb : badB (dec l) = false) : isRune (dec l).1 ∧ l.take (dec l).2 = enc (dec l).1 := by
  revert hb
  unfold badB dec isRune
  have z0 : (l.getD 0 0).toNat < 256 := (l.getD 0 0).toNat_lt
  have z1 : (l.getD 1 0).toNat < 256 := (l.getD 1 0).toNat_lt
  have z2 : (l.getD 2 0).toNat < 256 := (l.getD 2 0).toNat_lt
  have z3 : (l.getD 3 0).toNat < 256 := (l.getD 3 0).toNat_lt
  obtain ⟨a, t, rfl⟩ := List.exists_cons_of_ne_nil h
  unfold decodeN
  split
  · intro _
    refine ⟨by simp only [List.getD_cons_zero] at *; omega, ?_⟩
    rw [enc1 (by omega)]
    simp
  split
  · rename_i c
    split
    · intro _
      obtain ⟨c1, c2, c3⟩ := c
      obtain ⟨b, t, rfl⟩ : ∃ b t', t = b :: t' := by cases t with | nil => simp at c2 | cons b t => exact ⟨b, t, rfl⟩
      simp only [List.getD_cons_zero, List.getD_cons_succ] at *
      refine ⟨by omega, ?_⟩
      rw [enc2 (by omega) (by omega)]
      simp only [List.take_succ_cons, List.take_zero]
      rw [u8_eq (a := a) (by omega), u8_eq (a := b) (by omega)]
    · intro hb; simp at hb
  split
  · rename_i c
    split
    · intro _
      obtain ⟨c1, ⟨c2, c3⟩, c4, c5⟩ := c
      obtain ⟨b, t, rfl⟩ : ∃ b t', t = b :: t' := by cases t with | nil => simp at c2 | cons b t => exact ⟨b, t, rfl⟩
      obtain ⟨d, t, rfl⟩ : ∃ b t', t = b :: t' := by cases t with | nil => simp at c4 | cons b t => exact ⟨b, t, rfl⟩
      simp only [List.getD_cons_zero, List.getD_cons_succ] at *
      refine ⟨by omega, ?_⟩
      rw [enc3 (by omega)]
      simp only [List.take_succ_cons, List.take_zero]
      rw [u8_eq (a := a) (by omega), u8_eq (a := b) (by omega), u8_eq (a := d) (by omega)]
    · intro hb; simp at hb
  split
  · rename_i c
    split
    · intro _
      obtain ⟨c1, ⟨c2, c3⟩, ⟨c4, c5⟩, c6, c7⟩ := c
      obtain ⟨b, t, rfl⟩ : ∃ b t', t = b :: t' := by cases t with | nil => simp at c2 | cons b t => exact ⟨b, t, rfl⟩
      obtain ⟨d, t, rfl⟩ : ∃ b t', t = b :: t' := by cases t with | nil => simp at c4 | cons b t => exact ⟨b, t, rfl⟩
      obtain ⟨e, t, rfl⟩ : ∃ b t', t = b :: t' := by cases t with | nil => simp at c6 | cons b t => exact ⟨b, t, rfl⟩
      simp only [List.getD_cons_zero, List.getD_cons_succ] at *
      refine ⟨by omega, ?_⟩
      rw [enc4 (by omega) (by omega)]
      simp only [List.take_succ_cons, List.take_zero]
      rw [u8_eq (a := a) (by omega), u8_eq (a := b) (by omega), u8_eq (a := d) (by omega), u8_eq (a := e) (by omega)]
    · intro hb; simp at hb
  · intro hb; simp at hb

/-- A rune's bytes, whatever stands behind them, are that rune. -/
theorem dec_enc {r : Nat} (hr : isRune r) (t : List UInt8) : dec (enc r ++ t) = (r, (enc r).length) ∧ badB (dec (enc r ++ t)) = false := by
  have key : dec (enc r ++ t) = (r, (enc r).length) ∧ ((enc r).length = 1 → r ≤ 127) := by
    unfold isRune at hr
    by_cases h1 : r ≤ 127
    · rw [enc1 h1]
      simp only [dec, List.cons_append, List.nil_append, List.getD_cons_zero, toU8 (show r < 256 by omega), List.length_cons, List.length_nil]
      exact ⟨by simp [decodeN, show r < 128 by omega], fun _ => h1⟩
    by_cases h2 : r ≤ 2047
    · rw [enc2 (by omega) h2]
      simp only [dec, List.cons_append, List.nil_append, List.getD_cons_zero, List.getD_cons_succ, toU8 (show 192 + r / 64 < 256 by omega), toU8 (show 128 + r % 64 < 256 by omega), List.length_cons, List.length_nil]
      refine ⟨?_, by simp⟩
      unfold decodeN
      rw [if_neg (by omega), if_pos ⟨by omega, by omega, by omega⟩, if_pos (by omega)]
      simp; omega
    by_cases h3 : r ≤ 65535
    · rw [enc3 (by omega)]
      simp only [dec, List.cons_append, List.nil_append, List.getD_cons_zero, List.getD_cons_succ, toU8 (show 224 + r / 4096 < 256 by omega), toU8 (show 128 + r / 64 % 64 < 256 by omega), toU8 (show 128 + r % 64 < 256 by omega), List.length_cons, List.length_nil]
      refine ⟨?_, by simp⟩
      unfold decodeN
      rw [if_neg (by omega), if_neg (by omega), if_pos ⟨by omega, ⟨by omega, by omega⟩, by omega, by omega⟩, if_pos (by omega)]
      simp; omega
    · rw [enc4 (by omega) (by omega)]
      simp only [dec, List.cons_append, List.nil_append, List.getD_cons_zero, List.getD_cons_succ, toU8 (show 240 + r / 262144 < 256 by omega), toU8 (show 128 + r / 4096 % 64 < 256 by omega), toU8 (show 128 + r / 64 % 64 < 256 by omega), toU8 (show 128 + r % 64 < 256 by omega), List.length_cons, List.length_nil]
      refine ⟨?_, by simp⟩
      unfold decodeN
      rw [if_neg (by omega), if_neg (by omega), if_neg (by omega), if_pos ⟨by omega, ⟨by omega, by omega⟩, ⟨by omega, by omega⟩, by omega, by omega⟩, if_pos (by omega)]
      simp; omega
  refine ⟨key.1, ?_⟩
  rw [key.1]
  unfold badB
  by_cases hl : (enc r).length = 1
  · have := key.2 hl; simp; omega
  · simp [hl]

theorem enc_ne (r : Nat) : enc r ≠ [] := by
  have := (encodeRuneZ_length r).1
  intro h
  have h2 := congrArg List.length h
  simp [enc, encodeRune] at h2
  rw [h2] at this; simp at this

/-- Runes, each with its width. -/
def wide (rs : List Nat) : List (Nat × Nat) := rs.map fun r => (r, (enc r).length)

/-- The bytes of runes. -/
def encs (rs : List Nat) : List UInt8 := rs.flatMap enc
theorem encs_cons (r : Nat) (rs : List Nat) : encs (r :: rs) = enc r ++ encs rs := rfl
theorem encs_append (a b : List Nat) : encs (a ++ b) = encs a ++ encs b := by simp [encs]

/-- What runes' bytes are: these runes. -/
theorem scan_encs : ∀ (rs : List Nat), (∀ r ∈ rs, isRune r) → scan (encs rs) = (wide rs, true)
  | [], _ => scan_nil
  | r :: rs, h => by
    have hr := h r (by simp)
    obtain ⟨h1, h2⟩ := dec_enc hr (encs rs)
    have hne : encs (r :: rs) ≠ [] := by rw [encs_cons]; simp [enc_ne]
    rw [encs_cons] at hne ⊢
    rw [scan_good hne h2, h1]
    simp only [List.drop_left]
    rw [scan_encs rs (fun x hx => h x (by simp [hx]))]
    rfl

theorem scan_spec (n : Nat) : ∀ (l : List UInt8), l.length ≤ n → (∀ p ∈ (scan l).1, isRune p.1 ∧ p.2 = (enc p.1).length) ∧ (∃ t, l = encs ((scan l).1.map (·.1)) ++ t ∧ ((scan l).2 = true → t = []) ∧ ((scan l).2 = false → t ≠ [] ∧ badB (dec t) = true)) := by
  induction n with
  | zero =>
    intro l hl
    obtain rfl : l = [] := by cases l <;> simp_all
    rw [scan_nil]; exact ⟨by simp, [], by simp [encs]⟩
  | succ n ih =>
    intro l hl
    by_cases h : l = []
    · subst h; rw [scan_nil]; exact ⟨by simp, [], by simp [encs]⟩
    by_cases hb : badB (dec l) = true
    · rw [scan_bad h hb]; exact ⟨by simp, l, by simp [encs], by simp, fun _ => ⟨h, hb⟩⟩
    have hb : badB (dec l) = false := by simpa using hb
    obtain ⟨g1, g2⟩ := dec_good h hb
    have w1 := dec_ge1 l
    have w2 := dec_le h
    obtain ⟨i1, t, i2, i3, i4⟩ := ih (l.drop (dec l).2) (by simp; omega)
    rw [scan_good h hb]
    have hw : (dec l).2 = (enc (dec l).1).length := by rw [← g2]; simp; omega
    refine ⟨?_, t, ?_, i3, i4⟩
    · intro p hp
      rcases List.mem_cons.1 hp with rfl | hp
      · exact ⟨g1, hw⟩
      · exact i1 p hp
    · simp only [List.map_cons, encs_cons]
      rw [← g2, List.append_assoc, ← i2]
      exact (List.take_append_drop _ _).symm

/-- The runes of bytes. -/
def runesOf (l : List UInt8) : List Nat := (scan l).1.map (·.1)
theorem runesOf_rune {l : List UInt8} {r : Nat} (h : r ∈ runesOf l) : isRune r := by
  obtain ⟨p, hp, rfl⟩ := List.mem_map.1 h
  exact ((scan_spec l.length l (Nat.le_refl _)).1 p hp).1
theorem scan_wide (l : List UInt8) : (scan l).1 = wide (runesOf l) := by
  unfold wide runesOf
  rw [List.map_map]
  have h := (scan_spec l.length l (Nat.le_refl _)).1
  conv => lhs; rw [← List.map_id (scan l).1]
  refine List.map_congr_left fun p hp => ?_
  have := (h p hp).2
  simp [← this]
/-- Bytes that are a text are their runes' bytes. -/
theorem encs_runesOf {l : List UInt8} (h : (scan l).2 = true) : encs (runesOf l) = l := by
  obtain ⟨_, t, h1, h2, _⟩ := scan_spec l.length l (Nat.le_refl _)
  rw [h2 h] at h1
  exact (h1.trans (List.append_nil _)).symm

theorem encs_len (rs : List Nat) : rs.length ≤ (encs rs).length := by
  induction rs with
  | nil => simp [encs]
  | cons r rs ih =>
    have h : (enc r).length ≠ 0 := by simpa using enc_ne r
    rw [encs_cons, List.length_append, List.length_cons]
    omega
theorem scan_len (l : List UInt8) : (scan l).1.length ≤ l.length := by
  obtain ⟨_, t, h1, _⟩ := scan_spec l.length l (Nat.le_refl _)
  have h := encs_len ((scan l).1.map (·.1))
  rw [List.length_map] at h
  have h2 := congrArg List.length h1
  rw [List.length_append] at h2
  omega
theorem scan_w4 (l : List UInt8) : ∀ p ∈ (scan l).1, p.2 ≤ 4 := by
  intro p hp
  rw [((scan_spec l.length l (Nat.le_refl _)).1 p hp).2]
  have := (encodeRuneZ_length p.1).2
  simpa [enc, encodeRune] using this

/-! ### Halves -/
def hal (r : Nat) : List Nat := if r < 65536 then [r] else [55296 + (r - 65536) / 1024, 56320 + (r - 65536) % 1024]
theorem get!_getD (s : ByteArray) (i : Nat) : s.get! i = s.data.toList.getD i 0 := by
  simp only [ByteArray.get!, List.getD_eq_getElem?_getD, Array.getElem?_toList]
  cases h : s.data[i]? with
  | none => rw [getElem!_def]; simp [h]; rfl
  | some x => rw [getElem!_def]; simp [h]

/-- What is decoded behind a place is what begins there. -/
theorem decode_dec (s : ByteArray) (k : Nat) : Utf8.decode (s.extract k s.size) 0 = dec (s.data.toList.drop k) := by
  have e1 : (s.extract k s.size).data.toList = s.data.toList.drop k := by
    rw [extract_data, List.take_of_length_le (by rw [List.length_drop, Array.length_toList]; exact Nat.le_refl _)]
  have e : (s.extract k s.size).size = (s.data.toList.drop k).length := by rw [← e1, Array.length_toList]; rfl
  rw [decode_at, e, get!_getD, get!_getD, get!_getD, get!_getD, e1]
  rfl

/-- Where a text breaks off, or its end. -/
def place (l : List UInt8) : Nat := ((scan l).1.map (·.2)).sum

theorem badB_true {p : Nat × Nat} (h : badB p = true) : p.1 = 65533 ∧ p.2 = 1 := by simpa [badB] using h
theorem badB_false {p : Nat × Nat} (h : badB p = false) : p.1 ≠ 65533 ∨ (p.1 = 65533 ∧ p.2 ≠ 1) := by
  simp [badB] at h
  by_cases h1 : p.1 = 65533
  · exact .inr ⟨h1, h h1⟩
  · exact .inl h1

end Go.Proofs.YtfedgjnhanlmeabGreatDoor

namespace Go.Proofs.YtfedgjnhanlmeabGreatDoor
open Go.RowKit

/-- An error at a place, in memory that is new since w. -/
def isAt (w w' : World) (v : Value) (at_ : Int) : Prop :=
  ∃ b, v = .iface 268 (.pointer (some ⟨b, 0, none⟩)) ∧ w.heap.size ≤ b ∧ b < w'.heap.size ∧ w'.cell? ⟨b, 0, none⟩ = some (.int .i64 3) ∧ w'.cell? ⟨b, 1, none⟩ = some (.int .i64 at_)

set_option maxHeartbeats 400000 in
theorem wrong_any (n : Int) (w : World) :
    Calls Tryz.prog 156 #[.int .i64 n] w fun e w' => (∃ v, e = .returned v ∧ isAt w w' v n) ∧ Below w.heap.size w w' := by
  go_enter Tryz.func156, Tryz.ntmps156
  go_wp2
  go_ret
  refine ⟨⟨_, rfl, w.heap.size, rfl, Nat.le_refl _, by simp, by simp [go_sem], by simp [go_sem]⟩, (Below.refl _ _).alloc (Nat.le_refl _) _⟩

theorem isAt_below {w w' w'' : World} {v : Value} {n : Int} (h : isAt w w' v n) (hb : Below w'.heap.size w' w'') : isAt w w'' v n := by
  obtain ⟨b, rfl, h1, h2, h3, h4⟩ := h
  exact ⟨b, rfl, h1, Nat.lt_of_lt_of_le h2 hb.size, by rw [hb.cell (p := ⟨b, 0, none⟩) h2]; exact h3, by rw [hb.cell (p := ⟨b, 1, none⟩) h2]; exact h4⟩
theorem isAt_from {w0 w w' : World} {v : Value} {n : Int} (h : isAt w w' v n) (hb : w0.heap.size ≤ w.heap.size) : isAt w0 w' v n := by
  obtain ⟨b, rfl, h1, h2⟩ := h
  exact ⟨b, rfl, Nat.le_trans hb h1, h2⟩

/-- What each rune's closure keeps. -/
structure Takes (W : World) (F : Nat) (cap : Array Value) (l : List (Nat × Nat)) (I : List (Nat × Nat) → World → Prop) : Prop where
  enters : ∀ args w, (callFunc F args).run Tryz.prog w = .ok (.enter F args) w
  stays : ∀ done w w', I done w → Below w.heap.size w w' → I done w'
  step : ∀ done p rest, l = done ++ p :: rest → ∀ w, I done w → Below W.heap.size W w →
    Calls Tryz.prog F (#[.int .i32 p.1, .int .i64 p.2] ++ cap) w fun e w' => e = .returned (.bool true) ∧ I (done ++ [p]) w' ∧ Below W.heap.size W w'

set_option maxHeartbeats 1000000 in
theorem each_all (s : ByteArray) (hs : s.size ≤ maxLen) (F : Nat) (cap : Array Value) (W : World) (hT : Lib.Utf8Tabs 2 3 W) (I : List (Nat × Nat) → World → Prop)
    (H : Takes W F cap (scan s.data.toList).1 I) (w : World) (hw : Below W.heap.size W w) (h0 : I [] w) :
    Calls Tryz.prog 133 #[.string s, .func (.func F) #[] cap] w fun e w' => Below W.heap.size W w' ∧ I (scan s.data.toList).1 w' ∧
      (((scan s.data.toList).2 = true ∧ e = .returned .nilIface) ∨ ((scan s.data.toList).2 = false ∧ ∃ v, e = .returned v ∧ isAt W w' v (place s.data.toList))) := by
  unfold maxLen at hs
  have hent := H.enters
  have key : ∀ done k, (scan s.data.toList).1 = done ++ (scan (s.data.toList.drop k)).1 → (done.map (·.2)).sum = k → (scan s.data.toList).2 = (scan (s.data.toList.drop k)).2 →
      (scan (s.data.toList.drop k)).1 = [] → place s.data.toList = k := by
    intro done k h1 h2 _ h4
    unfold place
    rw [h1, h4, List.append_nil, h2]
  go_enter Tryz.func133, Tryz.ntmps133
  go_wp2
  go_loopw [5, 6, 7, 12] (fun at_ _ _ _ wr => ∃ (k : Nat) (done : List (Nat × Nat)), k ≤ s.size ∧ at_ = .int .i64 k ∧ (scan s.data.toList).1 = done ++ (scan (s.data.toList.drop k)).1 ∧ (done.map (·.2)).sum = k ∧
      (scan s.data.toList).2 = (scan (s.data.toList.drop k)).2 ∧ I done wr ∧ Below W.heap.size W wr) (fun at_ _ _ _ _ => s.size - (intOf at_).toNat)
  case atStart => exact ⟨0, [], Nat.zero_le _, rfl, by rw [List.drop_zero]; rfl, rfl, by rw [List.drop_zero], h0, hw⟩
  case round =>
    obtain ⟨k, done, hk, rfl, hd1, hd2, hd3, hI, hwr⟩ := hrel
    have hTr := Go.Proofs.Utf8Tabs_below hT hwr
    by_cases hlt : k < s.size
    · have hne : s.data.toList.drop k ≠ [] := by
        intro e
        have := congrArg List.length e
        rw [List.length_drop, List.length_nil, ← Lib.size_eq] at this
        omega
      have hdec : Lib.decodeGo (s.extract k s.size) = dec (s.data.toList.drop k) := by
        unfold Lib.decodeGo
        rw [if_neg (by rw [ByteArray.size_extract]; omega), decode_dec]
      have hge := dec_ge1 (s.data.toList.drop k)
      have hle := dec_le hne
      have hle4 := dec_le4 (s.data.toList.drop k)
      have cD := Tryz.utf8_DecodeRuneInString (s.extract k s.size) wr hTr
      rw [hdec] at cD
      by_cases hb : badB (dec (s.data.toList.drop k)) = true
      · have hs2 := scan_bad hne hb
        have hpl : Hid (place s.data.toList = k) := key done k hd1 hd2 hd3 (by rw [hs2])
        have hf : (scan s.data.toList).2 = false := by rw [hd3, hs2]
        have hfin : Hid (I (scan s.data.toList).1 wr) := by show I _ wr; rw [hd1, hs2, List.append_nil]; exact hI
        have hb' : (dec (s.data.toList.drop k)).1 = 65533 ∧ (dec (s.data.toList.drop k)).2 = 1 := badB_true hb
        rw [hb'.1, hb'.2] at cD
        clear hdec hge hle hle4 hb hb' hd1 hd2 hd3 hs2 hne key hI
        go_wp2_with (first | (go_at_call 186; refine cD.mono ?_; rintro e w1 ⟨rfl, hb1⟩) | (go_at_call 156; refine (wrong_any _ _).mono ?_; rintro e w2 ⟨⟨v, rfl, hv⟩, hb2⟩) | fail)
        go_ret
        have hb12 : Below wr.heap.size wr w2 := hb1.trans (hb2.mono hb1.size)
        refine ⟨hwr.trans (hb12.mono hwr.size), H.stays _ _ _ hfin hb12, .inr ⟨hf, v, rfl, ?_⟩⟩
        rw [hpl]
        exact isAt_from hv (Nat.le_trans hwr.size hb1.size)
      · have hb : badB (dec (s.data.toList.drop k)) = false := Bool.eq_false_iff.2 hb
        have hs2 := scan_good hne hb
        have hl : (scan s.data.toList).1 = done ++ dec (s.data.toList.drop k) :: (scan ((s.data.toList.drop k).drop (dec (s.data.toList.drop k)).2)).1 := by rw [hd1, hs2]
        have hl' : (scan s.data.toList).2 = (scan ((s.data.toList.drop k).drop (dec (s.data.toList.drop k)).2)).2 := by rw [hd3, hs2]
        rw [List.drop_drop] at hl hl'
        rw [List.length_drop, ← Lib.size_eq] at hle
        have hstep := H.step done _ _ hl
        obtain ⟨R, hR⟩ : ∃ R, R = (dec (s.data.toList.drop k)).1 := ⟨_, rfl⟩
        obtain ⟨K, hK⟩ : ∃ K, K = (dec (s.data.toList.drop k)).2 := ⟨_, rfl⟩
        have hp : dec (s.data.toList.drop k) = (R, K) := by rw [hR, hK]
        rw [hp] at cD hb hge hle hle4 hl hl' hstep
        have hnext : Hid ((scan s.data.toList).1 = done ++ [(R, K)] ++ (scan (s.data.toList.drop (k + K))).1) := by
          show _ = _
          rw [hl, List.append_assoc]; rfl
        have hnext2 : Hid (((done ++ [(R, K)]).map (·.2)).sum = k + K) := by
          show _ = _
          rw [List.map_append, List.sum_append, hd2]; rfl
        have hnext3 : Hid ((scan s.data.toList).2 = (scan (s.data.toList.drop (k + K))).2) := hl'
        simp only [] at hge hle
        clear hdec hd1 hd2 hd3 hs2 hne key hle4 hl hl' hR hK hp
        have hbF := badB_false hb
        clear hb
        rcases hbF with hr | ⟨hr, hr2⟩
        · have hr0 : ((R : Int) == 65533) = false := by
            rw [beq_eq_false_iff_ne]
            intro e
            exact hr (by omega)
          clear hr
          go_wp2_with (first | (go_at_call 186; refine cD.mono ?_; rintro e w1 ⟨rfl, hb1⟩) | (go_at_fn F; refine (hstep w1 (H.stays _ _ _ hI hb1) (hwr.trans (hb1.mono hwr.size))).mono ?_; rintro e w2 ⟨rfl, hI2, hb2⟩) | fail)
          go_roundw
          case rel => exact ⟨k + K, done ++ [(R, K)], by omega, by go_num, hnext, hnext2, hnext3, hI2, hb2⟩
          case measure => simp [intOf]; omega
        · have hr0 : ((K : Int) == 1) = false := by
            rw [beq_eq_false_iff_ne]
            intro e
            exact hr2 (by omega)
          subst hr
          clear hr2
          go_wp2_with (first | (go_at_call 186; refine cD.mono ?_; rintro e w1 ⟨rfl, hb1⟩) | (go_at_fn F; refine (hstep w1 (H.stays _ _ _ hI hb1) (hwr.trans (hb1.mono hwr.size))).mono ?_; rintro e w2 ⟨rfl, hI2, hb2⟩) | fail)
          go_roundw
          case rel => exact ⟨k + K, done ++ [(65533, K)], by omega, by go_num, hnext, hnext2, hnext3, hI2, hb2⟩
          case measure => simp [intOf]; omega
    · have hend : s.data.toList.drop k = [] := List.drop_eq_nil_of_le (by rw [← Lib.size_eq]; omega)
      rw [hend, scan_nil] at hd1 hd3
      rw [List.append_nil] at hd1
      have hfin : Hid (I (scan s.data.toList).1 wr) := by show I _ wr; rw [hd1]; exact hI
      clear hd1 hend key hTr
      go_wp2
      go_ret
      refine ⟨hwr, hfin, ?_⟩
      first | exact rfl | exact .inl ⟨hd3, rfl⟩
end Go.Proofs.YtfedgjnhanlmeabGreatDoor

namespace Go.Proofs.YtfedgjnhanlmeabGreatDoor
open Go.RowKit

theorem own_below {w w' : World} {B e size n : Nat} {v : Value} {xs : List Value} (h : w.ownsRow B e size v n xs) (hb : Below w.heap.size w w') : w'.ownsRow B e size v n xs := by
  refine ⟨h.1, ?_⟩
  rcases h.2 with hn | ⟨g, cap, cur, rfl, hg, hgg, rest⟩
  · exact .inl hn
  · exact .inr ⟨g, cap, cur, rfl, hg, by rw [hb.block g (Array.getElem?_eq_some_iff.1 hgg).1]; exact hgg, rest⟩
theorem own_slice {w : World} {B e size n : Nat} {v : Value} {xs : List Value} (h : w.ownsRow B e size v n xs) : ∃ p c, v = .slice p n c := by
  rcases h.2 with ⟨rfl, rfl⟩ | ⟨g, cap, cur, rfl, _⟩
  · exact ⟨_, _, rfl⟩
  · exact ⟨_, _, rfl⟩

theorem info21 : (Tryz.prog.info? 21).map (fun i => (i.zero, i.size, i.bytes)) = some (some (.int .i32 0), 1, 4) := by kernel_rfl
theorem info59 : (Tryz.prog.info? 165).map (fun i => (i.zero, i.size, i.bytes)) = some (some (.int .u16 0), 1, 2) := by kernel_rfl

/-- A rune's halves, as cells. -/
def halCells (r : Nat) : List Value := (hal r).map fun h : Nat => Value.int .u16 (h : Int)

end Go.Proofs.YtfedgjnhanlmeabGreatDoor

namespace Go.Proofs.YtfedgjnhanlmeabGreatDoor
open Go.RowKit

set_option maxHeartbeats 400000 in
theorem plus_any (a1 a2 a3 a4 b1 b2 b3 b4 : Int) (w : World) :
    Calls Tryz.prog 135 #[.agg #[.int .i64 a1, .int .i64 a2, .int .i64 a3, .int .i64 a4], .agg #[.int .i64 b1, .int .i64 b2, .int .i64 b3, .int .i64 b4]] w
      fun e w' => e = .returned (.agg #[.int .i64 (wrap64 (a1 + b1)), .int .i64 (wrap64 (a2 + b2)), .int .i64 (wrap64 (a3 + b3)), .int .i64 (wrap64 (a4 + b4))]) ∧ Below w.heap.size w w' := by
  go_enter Tryz.func135, Tryz.ntmps135
  go_wp2
  refine bodyPost_ret (v := .agg #[.int .i64 (wrap64 (a1 + b1)), .int .i64 (wrap64 (a2 + b2)), .int .i64 (wrap64 (a3 + b3)), .int .i64 (wrap64 (a4 + b4))]) (by simp [results, Tryz.results135, go_sem]) rfl ⟨rfl, ?_⟩
  exact (((Below.refl _ _).alloc (Nat.le_refl _) _).alloc (by simp) _).alloc (by simp [Nat.le_add_right, Nat.add_assoc]) _

/-- What one rune counts in halves, and in lines. -/
def cH (r : Nat) : Int := if r < 65536 then 1 else 2
def cL (r : Nat) : Int := if r = 10 then 1 else 0

set_option maxHeartbeats 400000 in
theorem countsOf_any (r : Nat) (n : Int) (w : World) :
    Calls Tryz.prog 136 #[.int .i32 r, .int .i64 n] w
      fun e w' => e = .returned (.agg #[.int .i64 n, .int .i64 (cH r), .int .i64 1, .int .i64 (cL r)]) ∧ Below w.heap.size w w' := by
  by_cases h1 : r < 65536
  · have e1 : cH r = 1 := if_pos h1
    by_cases h2 : r = 10
    · have e2 : cL r = 1 := if_pos h2
      rw [e1, e2]
      subst h2
      clear h1 e1 e2
      go_enter Tryz.func136, Tryz.ntmps136
      go_wp2
      refine bodyPost_ret (v := .agg #[.int .i64 n, .int .i64 1, .int .i64 1, .int .i64 1]) (by simp [results, Tryz.results136, go_sem]) rfl ⟨rfl, ?_⟩
      exact ((Below.refl _ _).alloc (Nat.le_refl _) _).alloc (by simp) _
    · have e2 : cL r = 0 := if_neg h2
      rw [e1, e2]
      have k1 : (r : Int) < 65536 := by omega
      have k2 : ((r : Int) == 10) = false := by rw [beq_eq_false_iff_ne]; omega
      clear e1 e2 h1 h2
      generalize (r : Int) = R at k1 k2 ⊢
      go_enter Tryz.func136, Tryz.ntmps136
      go_wp2
      refine bodyPost_ret (v := .agg #[.int .i64 n, .int .i64 1, .int .i64 1, .int .i64 0]) (by simp [results, Tryz.results136, go_sem]) rfl ⟨rfl, ?_⟩
      exact ((Below.refl _ _).alloc (Nat.le_refl _) _).alloc (by simp) _
  · have e1 : cH r = 2 := if_neg h1
    have e2 : cL r = 0 := if_neg (by omega)
    rw [e1, e2]
    · have k1 : ¬ (r : Int) < 65536 := by omega
      have k2 : ((r : Int) == 10) = false := by rw [beq_eq_false_iff_ne]; omega
      clear e1 e2 h1
      generalize (r : Int) = R at k1 k2 ⊢
      go_enter Tryz.func136, Tryz.ntmps136
      go_wp2
      refine bodyPost_ret (v := .agg #[.int .i64 n, .int .i64 2, .int .i64 1, .int .i64 0]) (by simp [results, Tryz.results136, go_sem]) rfl ⟨rfl, ?_⟩
      exact ((Below.refl _ _).alloc (Nat.le_refl _) _).alloc (by simp) _

/-- The variable in block a holds these counts. -/
def counted (w : World) (a : Nat) (n1 n2 n3 n4 : Int) : Prop :=
  (w.cell? ⟨a, 0, none⟩ = some (.int .i64 n1) ∧ w.cell? ⟨a, 1, none⟩ = some (.int .i64 n2) ∧ w.cell? ⟨a, 2, none⟩ = some (.int .i64 n3) ∧ w.cell? ⟨a, 3, none⟩ = some (.int .i64 n4)) ∧
  (w.frozen? ⟨a, 0, none⟩ = false ∧ w.frozen? ⟨a, 1, none⟩ = false ∧ w.frozen? ⟨a, 2, none⟩ = false ∧ w.frozen? ⟨a, 3, none⟩ = false)

theorem counted_lt {w : World} {a : Nat} {n1 n2 n3 n4 : Int} (h : counted w a n1 n2 n3 n4) : a < w.heap.size := World.block_lt_of_cell? w _ h.1.1
theorem counted_old {B : Nat} {w w' : World} {a : Nat} {n1 n2 n3 n4 : Int} (h : counted w a n1 n2 n3 n4) (hb : Below B w w') (hlt : a < B) : counted w' a n1 n2 n3 n4 := by
  obtain ⟨⟨a0, a1, a2, a3⟩, b0, b1, b2, b3⟩ := h
  refine ⟨⟨?_, ?_, ?_, ?_⟩, ?_, ?_, ?_, ?_⟩
  · rw [hb.cell (p := ⟨a, 0, none⟩) hlt]; exact a0
  · rw [hb.cell (p := ⟨a, 1, none⟩) hlt]; exact a1
  · rw [hb.cell (p := ⟨a, 2, none⟩) hlt]; exact a2
  · rw [hb.cell (p := ⟨a, 3, none⟩) hlt]; exact a3
  · rw [hb.frozen (p := ⟨a, 0, none⟩) hlt]; exact b0
  · rw [hb.frozen (p := ⟨a, 1, none⟩) hlt]; exact b1
  · rw [hb.frozen (p := ⟨a, 2, none⟩) hlt]; exact b2
  · rw [hb.frozen (p := ⟨a, 3, none⟩) hlt]; exact b3
theorem counted_below {w w' : World} {a : Nat} {n1 n2 n3 n4 : Int} (h : counted w a n1 n2 n3 n4) (hb : Below w.heap.size w w') : counted w' a n1 n2 n3 n4 := counted_old h hb (counted_lt h)

theorem counted_set {w : World} {a : Nat} {n1 n2 n3 n4 m1 m2 m3 m4 : Int} (h : counted w a n1 n2 n3 n4) :
    counted ((((w.setCell ⟨a, 0, none⟩ (.int .i64 m1)).setCell ⟨a, 1, none⟩ (.int .i64 m2)).setCell ⟨a, 2, none⟩ (.int .i64 m3)).setCell ⟨a, 3, none⟩ (.int .i64 m4)) a m1 m2 m3 m4 := by
  obtain ⟨⟨a0, a1, a2, a3⟩, b0, b1, b2, b3⟩ := h
  refine ⟨⟨?_, ?_, ?_, ?_⟩, ?_, ?_, ?_, ?_⟩
  all_goals simp [go_sem, a0, a1, a2, a3, b0, b1, b2, b3]
theorem below_set {B : Nat} {w w' : World} {a : Nat} (hb : Below B w w') (hB : B ≤ a) (v1 v2 v3 v4 : Value) :
    Below B w ((((w'.setCell ⟨a, 0, none⟩ v1).setCell ⟨a, 1, none⟩ v2).setCell ⟨a, 2, none⟩ v3).setCell ⟨a, 3, none⟩ v4) :=
  (((hb.setCell (p := ⟨a, 0, none⟩) hB _).setCell (p := ⟨a, 1, none⟩) hB _).setCell (p := ⟨a, 2, none⟩) hB _).setCell (p := ⟨a, 3, none⟩) hB _

set_option maxHeartbeats 1000000 in
theorem count1_any (r : Nat) (n : Int) (a : Nat) (w : World) (n1 n2 n3 n4 : Int) (h : counted w a n1 n2 n3 n4) :
    Calls Tryz.prog 134 #[.int .i32 r, .int .i64 n, .pointer (some ⟨a, 0, none⟩)] w fun e w' => e = .returned (.bool true) ∧
      counted w' a (wrap64 (n1 + n)) (wrap64 (n2 + cH r)) (wrap64 (n3 + 1)) (wrap64 (n4 + cL r)) ∧ Below a w w' := by
  have hlt := counted_lt h
  have HC : Hid (counted w a n1 n2 n3 n4) := h
  obtain ⟨⟨a0, a1, a2, a3⟩, b0, b1, b2, b3⟩ := h
  have cO := fun (w : World) => countsOf_any r n w
  generalize cH r = x2 at cO ⊢
  generalize cL r = x4 at cO ⊢
  generalize (r : Int) = R at cO ⊢
  go_enter Tryz.func134, Tryz.ntmps134
  go_wp2
  go_region_with (first | (go_at_call 136; refine (cO _).mono ?_; rintro e w1 ⟨rfl, hb1⟩; have HC1 : counted w1 a n1 n2 n3 n4 := counted_old (w := w.drew) HC.out hb1 hlt; have HD1 : Hid (counted w1 a n1 n2 n3 n4) := HC1; obtain ⟨⟨c0, c1, c2, c3⟩, d0, d1, d2, d3⟩ := HC1) | (go_at_call 135; refine (plus_any _ _ _ _ _ _ _ _ _).mono ?_; rintro e w2 ⟨rfl, hb2⟩; have HC2 : counted w2 a n1 n2 n3 n4 := counted_old (w := w1) HD1.out hb2 (Nat.lt_of_lt_of_le hlt hb1.size); have HD2 : Hid (counted w2 a n1 n2 n3 n4) := HC2; obtain ⟨⟨c0, c1, c2, c3⟩, d0, d1, d2, d3⟩ := HC2))
  all_goals
    have hbb : Below a w w2 := (Below.drew (Below.refl a w)).trans ((hb1.trans (hb2.mono hb1.size)).mono (Nat.le_of_lt hlt))
    clear a0 a1 a2 a3 b0 b1 b2 b3 HC HD1 hb1 hb2 c0 c1 c2 c3 d0 d1 d2 d3
    go_wp2
    go_ret
    exact ⟨rfl, counted_set HD2.out, below_set hbb (Nat.le_refl _) _ _ _ _⟩

/-! ### What is gathered over runes -/
def cellsOf21 (l : List (Nat × Nat)) : List Value := l.map fun p => Value.int .i32 (p.1 : Int)
def sum1 (l : List (Nat × Nat)) : Int := (l.map fun p => (p.2 : Int)).sum
def sum2 (l : List (Nat × Nat)) : Int := (l.map fun p => cH p.1).sum
def sum4 (l : List (Nat × Nat)) : Int := (l.map fun p => cL p.1).sum

theorem cH_le (r : Nat) : 0 ≤ cH r ∧ cH r ≤ 2 := by unfold cH; split <;> omega
theorem cL_le (r : Nat) : 0 ≤ cL r ∧ cL r ≤ 1 := by unfold cL; split <;> omega
theorem sum2_le (l : List (Nat × Nat)) : 0 ≤ sum2 l ∧ sum2 l ≤ 2 * l.length := by
  induction l with
  | nil => simp [sum2]
  | cons p l ih => have := cH_le p.1; unfold sum2 at ih ⊢; rw [List.map_cons, List.sum_cons, List.length_cons]; omega
theorem sum4_le (l : List (Nat × Nat)) : 0 ≤ sum4 l ∧ sum4 l ≤ l.length := by
  induction l with
  | nil => simp [sum4]
  | cons p l ih => have := cL_le p.1; unfold sum4 at ih ⊢; rw [List.map_cons, List.sum_cons, List.length_cons]; omega
theorem sum1_le (l : List (Nat × Nat)) (h : ∀ p ∈ l, p.2 ≤ 4) : 0 ≤ sum1 l ∧ sum1 l ≤ 4 * l.length := by
  induction l with
  | nil => simp [sum1]
  | cons p l ih =>
    have h1 := h p (by simp)
    have := ih fun q hq => h q (by simp [hq])
    unfold sum1 at this ⊢; rw [List.map_cons, List.sum_cons, List.length_cons]; omega
theorem wrap64_small {n : Int} (h0 : 0 ≤ n) (h1 : n < 9223372036854775808) : wrap64 n = n := by unfold wrap64; omega

theorem count_takes (W : World) (a : Nat) (l : List (Nat × Nat)) (ha : W.heap.size ≤ a) (hl : l.length < 1000000000) (hr : ∀ p ∈ l, p.2 ≤ 4) :
    Takes W 134 #[.pointer (some ⟨a, 0, none⟩)] l fun done w => counted w a (sum1 done) (sum2 done) (done.length : Int) (sum4 done) where
  enters := enters_of Tryz.func134 (by kernel_rfl) rfl
  stays := fun _ _ _ h hb => counted_below h hb
  step := fun done p rest e w hI hw => by
    have hlen := congrArg List.length e
    rw [List.length_append] at hlen
    have h1 := sum1_le done fun q hq => hr q (by rw [e]; simp [hq])
    have h2 := sum2_le done
    have h4 := sum4_le done
    have hp := hr p (by rw [e]; simp)
    have hp2 := cH_le p.1
    have hp4 := cL_le p.1
    refine (count1_any p.1 p.2 a w _ _ _ _ hI).mono ?_
    rintro e w' ⟨rfl, k1, k2⟩
    refine ⟨rfl, ?_, hw.trans (k2.mono ha)⟩
    rw [wrap64_small (by omega) (by omega), wrap64_small (by omega) (by omega), wrap64_small (by omega) (by omega), wrap64_small (by omega) (by omega)] at k1
    have e1 : sum1 (done ++ [p]) = sum1 done + p.2 := by simp [sum1]
    have e2 : sum2 (done ++ [p]) = sum2 done + cH p.1 := by simp [sum2]
    have e3 : (((done ++ [p]).length : Nat) : Int) = done.length + 1 := by simp
    have e4 : sum4 (done ++ [p]) = sum4 done + cL p.1 := by simp [sum4]
    rw [e1, e2, e3, e4]
    exact k1
end Go.Proofs.YtfedgjnhanlmeabGreatDoor

namespace Go.Proofs.YtfedgjnhanlmeabGreatDoor
open Go.RowKit

/-- A slice of new memory that owns the cells xs; or nil, if there are none. -/
def isRow (w w' : World) (e : Nat) (v : Value) (xs : List Value) : Prop := ∃ p c, v = .slice p xs.length c ∧ w'.ownsRow w.heap.size e 1 v xs.length xs

theorem own_mono {w : World} {B B' e size n : Nat} {v : Value} {xs : List Value} (h : w.ownsRow B e size v n xs) (hB : B' ≤ B) : w.ownsRow B' e size v n xs := by
  refine ⟨h.1, ?_⟩
  rcases h.2 with hn | ⟨g, cap, cur, rfl, hg, rest⟩
  · exact .inl hn
  · exact .inr ⟨g, cap, cur, rfl, Nat.le_trans hB hg, rest⟩

theorem counted_new1 (w : World) : counted ((w.alloc (.cells #[.int .i64 0, .int .i64 0, .int .i64 0, .int .i64 0] 25)).alloc (.cells #[.int .i64 0, .int .i64 0, .int .i64 0, .int .i64 0] 25)) w.heap.size 0 0 0 0 := by
  refine ⟨⟨?_, ?_, ?_, ?_⟩, ?_, ?_, ?_, ?_⟩ <;> simp [go_sem]
theorem counted_new2 (w : World) : counted ((w.alloc (.cells #[.int .i64 0, .int .i64 0, .int .i64 0, .int .i64 0] 25)).alloc (.cells #[.int .i64 0, .int .i64 0, .int .i64 0, .int .i64 0] 25)) (w.heap.size + 1) (sum1 []) (sum2 []) (([] : List (Nat × Nat)).length : Int) (sum4 []) := by
  refine ⟨⟨?_, ?_, ?_, ?_⟩, ?_, ?_, ?_, ?_⟩ <;> simp [go_sem, sum1, sum2, sum4]

theorem count_takes2 (w : World) (l : List (Nat × Nat)) (hl : l.length < 1000000000) (hr : ∀ p ∈ l, p.2 ≤ 4) :
    Takes w 134 #[.pointer (some ⟨w.heap.size + 1, 0, none⟩)] l fun done w' => counted w' (w.heap.size + 1) (sum1 done) (sum2 done) (done.length : Int) (sum4 done) ∧ counted w' w.heap.size 0 0 0 0 := by
  have T := count_takes w (w.heap.size + 1) l (Nat.le_succ _) hl hr
  refine ⟨T.enters, fun done w1 w2 h hb => ⟨T.stays done w1 w2 h.1 hb, counted_below h.2 hb⟩, fun done p rest e w1 hI hw => ?_⟩
  have h1 := sum1_le done fun q hq => hr q (by rw [e]; simp [hq])
  have hlen := congrArg List.length e
  rw [List.length_append] at hlen
  have h2 := sum2_le done
  have h4 := sum4_le done
  have hp := hr p (by rw [e]; simp)
  have hp2 := cH_le p.1
  have hp4 := cL_le p.1
  refine (count1_any p.1 p.2 (w.heap.size + 1) w1 _ _ _ _ hI.1).mono ?_
  rintro e w2 ⟨rfl, k1, k2⟩
  refine ⟨rfl, ⟨?_, counted_old hI.2 k2 (Nat.lt_succ_self _)⟩, hw.trans (k2.mono (Nat.le_succ _))⟩
  rw [wrap64_small (by omega) (by omega), wrap64_small (by omega) (by omega), wrap64_small (by omega) (by omega), wrap64_small (by omega) (by omega)] at k1
  have e1 : sum1 (done ++ [p]) = sum1 done + p.2 := by simp [sum1]
  have e2 : sum2 (done ++ [p]) = sum2 done + cH p.1 := by simp [sum2]
  have e3 : (((done ++ [p]).length : Nat) : Int) = done.length + 1 := by simp
  have e4 : sum4 (done ++ [p]) = sum4 done + cL p.1 := by simp [sum4]
  rw [e1, e2, e3, e4]
  exact k1

/-- Four counts, as a value. -/
def cnt (n1 n2 n3 n4 : Int) : Value := .agg #[.int .i64 n1, .int .i64 n2, .int .i64 n3, .int .i64 n4]

set_option maxHeartbeats 1000000 in
theorem Count_any (s : ByteArray) (hs : s.size < 400000000) (w : World) (hT : Lib.Utf8Tabs 2 3 w) :
    Calls Tryz.prog 77 #[.string s] w fun e w' => ∃ v x, e = .returned (.tuple #[v, x]) ∧ Below w.heap.size w w' ∧
      (((scan s.data.toList).2 = true ∧ x = .nilIface ∧ v = cnt (sum1 (scan s.data.toList).1) (sum2 (scan s.data.toList).1) (scan s.data.toList).1.length (sum4 (scan s.data.toList).1)) ∨
       ((scan s.data.toList).2 = false ∧ v = cnt 0 0 0 0 ∧ isAt w w' x (place s.data.toList))) := by
  have hlen := scan_len s.data.toList
  rw [← Lib.size_eq] at hlen
  have hb0 : Below w.heap.size w ((w.alloc (.cells #[.int .i64 0, .int .i64 0, .int .i64 0, .int .i64 0] 25)).alloc (.cells #[.int .i64 0, .int .i64 0, .int .i64 0, .int .i64 0] 25)) := ((Below.refl _ _).alloc (Nat.le_refl _) _).alloc (by rw [World.size_alloc]; omega) _
  have cE := each_all s (by unfold maxLen; omega) 134 #[.pointer (some ⟨w.heap.size + 1, 0, none⟩)] w hT
    (fun done w' => counted w' (w.heap.size + 1) (sum1 done) (sum2 done) (done.length : Int) (sum4 done) ∧ counted w' w.heap.size 0 0 0 0)
    (count_takes2 w (scan s.data.toList).1 (by omega) (scan_w4 _)) _ hb0 ⟨counted_new2 w, counted_new1 w⟩
  clear hlen hs hb0
  generalize place s.data.toList = pl at cE ⊢
  generalize scan s.data.toList = sc at cE ⊢
  obtain ⟨rs, ok⟩ := sc
  simp only [] at cE ⊢
  generalize sum1 rs = n1 at cE ⊢
  generalize sum2 rs = n2 at cE ⊢
  generalize sum4 rs = n4 at cE ⊢
  generalize (rs.length : Int) = n3 at cE ⊢
  go_enter Tryz.func77, Tryz.ntmps77
  go_wp2_with (first | (go_at_call 133; refine cE.mono ?_; rintro e w1 ⟨hb1, ⟨⟨⟨a0, a1, a2, a3⟩, b0, b1, b2, b3⟩, ⟨c0, c1, c2, c3⟩, d0, d1, d2, d3⟩, ⟨rfl, rfl⟩ | ⟨rfl, v, rfl, ⟨b, rfl, v1, v2, v3, v4⟩⟩⟩) | fail)
  · refine bodyPost_ret (v := .tuple #[cnt n1 n2 n3 n4, .nilIface]) (by simp [results, Tryz.results77, go_sem, cnt, c0, c1, c2, c3]) rfl ?_
    refine ⟨_, _, rfl, ?_, ?_⟩
    · exact below_set hb1 (Nat.le_refl _) _ _ _ _
    · first | exact ⟨rfl, rfl⟩ | exact .inl ⟨rfl, rfl, rfl⟩
  · have hne : b ≠ w.heap.size := by
      intro e
      subst e
      rw [c0] at v3
      cases v3
    refine bodyPost_ret (v := .tuple #[cnt 0 0 0 0, .iface 268 (.pointer (some ⟨b, 0, none⟩))]) (by simp [results, Tryz.results77, go_sem, cnt, c0, c1, c2, c3]) rfl ?_
    refine ⟨_, _, rfl, ?_, ?_⟩
    · exact below_set hb1 (Nat.le_refl _) _ _ _ _
    · have hv : isAt w ((((w1.setCell ⟨w.heap.size, 0, none⟩ (.int .i64 0)).setCell ⟨w.heap.size, 1, none⟩ (.int .i64 0)).setCell ⟨w.heap.size, 2, none⟩ (.int .i64 0)).setCell ⟨w.heap.size, 3, none⟩ (.int .i64 0)) (.iface 268 (.pointer (some ⟨b, 0, none⟩))) pl :=
        ⟨b, rfl, v1, by simpa using v2, by simp [go_sem, v3], by simp [go_sem, v4]⟩
      first | exact ⟨rfl, hv⟩ | exact .inr ⟨rfl, rfl, hv⟩
end Go.Proofs.YtfedgjnhanlmeabGreatDoor

namespace Go.Proofs.YtfedgjnhanlmeabGreatDoor
open Go.RowKit

/-- The slice v reads as the numbers zs. -/
def reads (w : World) (k : IntKind) (v : Value) (zs : List Int) : Prop :=
  ∃ p c, v = .slice p zs.length c ∧ zs.length ≤ c ∧ c ≤ maxLen ∧ (zs ≠ [] → ∃ b o, p = some ⟨b, o, none⟩ ∧ b < w.heap.size ∧ ∀ i, i < zs.length → w.cell? ⟨b, o + i, none⟩ = some (.int k (zs.getD i 0)))
theorem reads_below {w w' : World} {k : IntKind} {v : Value} {zs : List Int} (h : reads w k v zs) {B : Nat} (hb : Below B w w') (hB : w.heap.size ≤ B) : reads w' k v zs := by
  obtain ⟨p, c, rfl, h1, h2, h3⟩ := h
  refine ⟨p, c, rfl, h1, h2, fun hne => ?_⟩
  obtain ⟨b, o, e1, e2, e3⟩ := h3 hne
  exact ⟨b, o, e1, Nat.lt_of_lt_of_le e2 hb.size, fun i hi => by rw [hb.cell (p := ⟨b, o + i, none⟩) (Nat.lt_of_lt_of_le e2 hB)]; exact e3 i hi⟩

/-- A row of numbers of one kind reads as them. -/
theorem reads_own {w : World} {B e : Nat} {k : IntKind} {v : Value} {zs : List Int} {xs : List Value} (hx : xs = zs.map (Value.int k)) (h : w.ownsRow B e 1 v zs.length xs) : reads w k v zs := by
  subst hx
  obtain ⟨h0, hrow⟩ := h
  rcases hrow with ⟨rfl, h2⟩ | ⟨g, cap, cur, rfl, h2, h3, h4, h5, h6, h7⟩
  · obtain rfl : zs = [] := List.eq_nil_of_length_eq_zero h2
    exact ⟨none, 0, rfl, Nat.le_refl _, Nat.zero_le _, fun h => absurd rfl h⟩
  · refine ⟨_, cap, rfl, h4, h5, fun _ => ⟨g, 0, rfl, (Array.getElem?_eq_some_iff.1 h3).1, fun i hi => ?_⟩⟩
    rw [Nat.mul_one] at h7
    have hc : cur[i]? = some (.int k (zs.getD i 0)) := by
      rw [← Array.getElem?_toList]
      have := congrArg (·[i]?) h7
      simp only [List.getElem?_take, hi, if_true, List.getElem?_map] at this
      rw [this, List.getElem?_eq_getElem hi, List.getD_eq_getElem?_getD, List.getElem?_eq_getElem hi]
      rfl
    rw [Nat.zero_add]
    show w.cell? ⟨g, i, none⟩ = _
    unfold World.cell?
    simp [h3, hc]

/-- 'string(b)' of bytes that the call owns. -/
theorem string_own {w : World} {B n : Nat} {v : Value} {l : List UInt8} (hn : n = l.length) (h : w.ownsRow B 5 1 v n (Lib.byteCells l)) : (convert 156 9 v).run Tryz.prog w = .ok (.string ⟨l.toArray⟩) w := by
  subst hn
  obtain ⟨h0, hrow⟩ := h
  rcases hrow with ⟨rfl, h2⟩ | ⟨g, cap, cur, rfl, h2, h3, h4, h5, h6, h7⟩
  · obtain rfl : l = [] := List.eq_nil_of_length_eq_zero h2
    kernel_rfl
  · refine run_convert_bytes_back w 156 9 5 ⟨g, 0, none⟩ cap l Tryz.underlying156 Tryz.underlying5 Tryz.underlying9 fun j hj => ?_
    rw [Nat.mul_one] at h7
    have hc : cur[j]? = some (.int .u8 (l[j].toNat : Int)) := by
      rw [← Array.getElem?_toList]
      have := congrArg (·[j]?) h7
      simp only [List.getElem?_take, hj, if_true, Lib.byteCells, List.getElem?_map] at this
      rw [this, List.getElem?_eq_getElem hj]
      rfl
    have ea : (⟨g, 0, none⟩ : Addr).add j = ⟨g, j, none⟩ := by simp [Addr.add] <;> omega
    rw [ea]
    unfold World.cell?
    simp [h3, hc]

end Go.Proofs.YtfedgjnhanlmeabGreatDoor

namespace Go.Proofs.YtfedgjnhanlmeabGreatDoor
open Go.RowKit
set_option linter.unusedVariables false

/-- A part's cells, an operation's cells. -/
def partCells (p : Pt) : List Value := [.int .i64 p.keep, .int .i64 p.drop, .string ⟨p.put.toArray⟩]
def cellsP (l : List Pt) : List Value := l.flatMap partCells
theorem cellsP_snoc (l : List Pt) (p : Pt) : cellsP (l ++ [p]) = cellsP l ++ partCells p := by simp [cellsP]
theorem cellsP_len (l : List Pt) : (cellsP l).length = l.length * 3 := by
  induction l with
  | nil => rfl
  | cons p l ih =>
    have : cellsP (p :: l) = partCells p ++ cellsP l := rfl
    rw [this, List.length_append, ih, List.length_cons]
    show 3 + _ = _
    omega
theorem partCells_one (p : Pt) : ∀ u ∈ partCells p, u.oneCell' = true := by
  intro u hu
  simp only [partCells, List.mem_cons, List.not_mem_nil, or_false] at hu
  rcases hu with rfl | rfl | rfl <;> rfl
theorem cells_new (w : World) (l : List Value) (t : TypeId) : ∀ j u, l[j]? = some u → (w.alloc (.cells l.toArray t)).cell? ((⟨w.heap.size, 0, none⟩ : Addr).add j) = some u := by
  intro j u hj
  obtain ⟨hl, rfl⟩ := List.getElem?_eq_some_iff.1 hj
  rw [Addr.add_lit, Nat.zero_add]
  simp

theorem cells_new_set (w : World) (a : Addr) (x : Value) (l : List Value) (t : TypeId) : ∀ j u, l[j]? = some u → ((w.setCell a x).alloc (.cells l.toArray t)).cell? ((⟨w.heap.size, 0, none⟩ : Addr).add j) = some u := by
  have h := cells_new (w.setCell a x) l t
  rwa [show (w.setCell a x).heap.size = w.heap.size by simp] at h

theorem info_part : (Tryz.prog.info? 50).map (fun i => (i.zero, i.size, i.bytes)) = some (some (.agg #[.int .i64 0, .int .i64 0, .string ⟨#[]⟩]), 3, 32) := by kernel_rfl
theorem info_u8 : (Tryz.prog.info? 5).map (fun i => (i.zero, i.size, i.bytes)) = some (some (.int .u8 0), 1, 1) := by kernel_rfl

/-- Two rows of cells of different types are different rows. -/
theorem own_ne {w : World} {B B' e e' size size' n n' : Nat} {v v' : Value} {xs xs' : List Value} (h : w.ownsRow B e size v n xs) (h' : w.ownsRow B' e' size' v' n' xs') (hne : e ≠ e') : v.ownBlock = none ∨ v.ownBlock ≠ v'.ownBlock := by
  rcases h.2 with ⟨rfl, _⟩ | ⟨g, cap, cur, rfl, _, hg, _⟩
  · exact .inl rfl
  · rcases h'.2 with ⟨rfl, _⟩ | ⟨g', cap', cur', rfl, _, hg', _⟩
    · exact .inr (by simp [Value.ownBlock])
    · refine .inr fun e => ?_
      simp only [Value.ownBlock, Option.some.injEq] at e
      subst e
      rw [hg] at hg'
      simp only [Option.some.injEq, Obj.cells.injEq] at hg'
      exact hne hg'.2.1

/-- The variables of a gathering: op in block a, put, drop and tell behind it; what op and put hold lies at M or behind it. -/
structure gath (M : Nat) (w : World) (a : Nat) (s : NSt) : Prop where
  out : ∃ p c, w.cell? ⟨a, 0, none⟩ = some (.slice p s.out.length c) ∧ w.ownsRow M 50 3 (.slice p s.out.length c) s.out.length (cellsP s.out)
  outF : w.frozen? ⟨a, 0, none⟩ = false
  put : ∃ p c, w.cell? ⟨a + 1, 0, none⟩ = some (.slice p s.put.length c) ∧ w.ownsRow M 5 1 (.slice p s.put.length c) s.put.length (Lib.byteCells s.put)
  putF : w.frozen? ⟨a + 1, 0, none⟩ = false
  drop : w.cell? ⟨a + 2, 0, none⟩ = some (.int .i64 s.drop)
  dropF : w.frozen? ⟨a + 2, 0, none⟩ = false
  tell : w.cell? ⟨a + 3, 0, none⟩ = some (.func (.func 228) #[] #[.pointer (some ⟨a + 1, 0, none⟩), .pointer (some ⟨a, 0, none⟩), .pointer (some ⟨a + 2, 0, none⟩)])
  le : a + 4 ≤ M
  top : M ≤ w.heap.size

/-- Every block but a, a + 1, a + 2 that is no row of bytes or of parts, at M or behind it, stands. -/
def KeptG (M a : Nat) (w w' : World) : Prop := ∀ k o, w.heap[k]? = some o → k ≠ a → k ≠ a + 1 → k ≠ a + 2 → (∀ c fz, M ≤ k → o ≠ .cells c 5 fz) → (∀ c fz, M ≤ k → o ≠ .cells c 50 fz) → w'.heap[k]? = some o
structure BelowG (M a : Nat) (w w' : World) : Prop where
  below : Below a w w'
  kept : KeptG M a w w'
theorem heap_lt {w : World} {k : Nat} {o : Obj} (h : w.heap[k]? = some o) : k < w.heap.size := by
  rcases Nat.lt_or_ge k w.heap.size with h' | h'
  · exact h'
  · rw [Array.getElem?_eq_none h'] at h; cases h
theorem KeptG.refl (M a : Nat) (w : World) : KeptG M a w w := fun _ _ h _ _ _ _ _ => h
theorem KeptG.trans {M : Nat} {a : Nat} {x y z : World} (h : KeptG M a x y) (k : KeptG M a y z) : KeptG M a x z := fun i o hi h1 h2 h3 h4 h5 => k i o (h i o hi h1 h2 h3 h4 h5) h1 h2 h3 h4 h5
theorem KeptG.of {M : Nat} {a : Nat} {w w' : World} (h : Below w.heap.size w w') : KeptG M a w w' := fun k o hk _ _ _ _ _ => (h.block k (heap_lt hk)).trans hk
theorem KeptG.alloc {M : Nat} {a : Nat} {w w' : World} (h : KeptG M a w w') (o : Obj) : KeptG M a w (w'.alloc o) := h.trans fun k o' hk _ _ _ _ _ => (heap_alloc_old w' o (heap_lt hk)).trans hk
theorem KeptG.set {M : Nat} {a : Nat} {w w' : World} (h : KeptG M a w w') {b : Nat} (hb : b = a ∨ b = a + 1 ∨ b = a + 2) (v : Value) : KeptG M a w (w'.setCell ⟨b, 0, none⟩ v) :=
  h.trans fun k o' hk h1 h2 h3 _ _ => (Below.heap_setCell _ _ _ _ (by show k ≠ b; omega)).trans hk
theorem KeptG.grown {M : Nat} {a e size n : Nat} {v : Value} {xs : List Value} {w w1 w2 : World} (h : KeptG M a w w1) (hr : w1.ownsRow M e size v n xs) (he : e = 5 ∨ e = 50) (hg : w1.grownBy w2 v.ownBlock) : KeptG M a w w2 := by
  refine h.trans fun k o hk _ _ _ h4 h5 => ?_
  refine (hg.block k (heap_lt hk) ?_).trans hk
  intro e'
  obtain ⟨_, hrow⟩ := hr
  rcases hrow with ⟨hx, _⟩ | ⟨g, cap, cur, rfl, hge, hgg, _⟩
  · rw [hx] at e'; cases e'
  · have e2 : some k = some g := e'
    obtain rfl := Option.some.inj e2
    rw [hk] at hgg
    rcases he with rfl | rfl
    · exact h4 _ _ hge (Option.some.inj hgg)
    · exact h5 _ _ hge (Option.some.inj hgg)
theorem BelowG.size {M : Nat} {a : Nat} {w w' : World} (h : BelowG M a w w') : w.heap.size ≤ w'.heap.size := h.below.size
theorem BelowG.refl {M : Nat} (a : Nat) (w : World) : BelowG M a w w := ⟨.refl a w, .refl M a w⟩
theorem BelowG.trans {M : Nat} {a : Nat} {x y z : World} (h : BelowG M a x y) (k : BelowG M a y z) : BelowG M a x z := ⟨h.below.trans k.below, h.kept.trans k.kept⟩
theorem BelowG.of {M : Nat} {a : Nat} {w w' : World} (h : Below w.heap.size w w') (ha : a ≤ w.heap.size) : BelowG M a w w' := ⟨h.mono ha, .of h⟩
theorem BelowG.drew {M : Nat} {a : Nat} {w w' : World} (h : BelowG M a w w') : BelowG M a w w'.drew := ⟨h.below.drew, h.kept⟩

theorem gath_lt {M : Nat} {w : World} {a : Nat} {s : NSt} (h : gath M w a s) : a + 3 < w.heap.size := World.block_lt_of_cell? w _ h.tell

theorem gath_below {M : Nat} {w w' : World} {a : Nat} {s : NSt} (h : gath M w a s) (hb : Below w.heap.size w w') : gath M w' a s := by
  have hM := h.le
  have hT := h.top
  have hlt := gath_lt h
  obtain ⟨⟨p, c, h1, h2⟩, h3, ⟨p', c', h4, h5⟩, h6, h7, h8, h9⟩ := h
  exact ⟨⟨p, c, (hb.cell (p := ⟨a, 0, none⟩) (by show a < _; omega)).trans h1, own_below h2 hb⟩, (hb.frozen (p := ⟨a, 0, none⟩) (by show a < _; omega)).trans h3,
    ⟨p', c', (hb.cell (p := ⟨a + 1, 0, none⟩) (by show a + 1 < _; omega)).trans h4, own_below h5 hb⟩, (hb.frozen (p := ⟨a + 1, 0, none⟩) (by show a + 1 < _; omega)).trans h6,
    (hb.cell (p := ⟨a + 2, 0, none⟩) (by show a + 2 < _; omega)).trans h7, (hb.frozen (p := ⟨a + 2, 0, none⟩) (by show a + 2 < _; omega)).trans h8, (hb.cell (p := ⟨a + 3, 0, none⟩) (by show a + 3 < _; omega)).trans h9, hM, Nat.le_trans hT hb.size⟩

/-- A row beside a box that is written. -/
theorem own_set {w : World} {B e size n b : Nat} {v : Value} {xs : List Value} (h : w.ownsRow B e size v n xs) (hb : b < B) (u : Value) : (w.setCell ⟨b, 0, none⟩ u).ownsRow B e size v n xs := by
  obtain ⟨h0, hrow⟩ := h
  refine ⟨h0, ?_⟩
  rcases hrow with hn | ⟨g, cap, cur, rfl, hg, hgg, rest⟩
  · exact .inl hn
  · exact .inr ⟨g, cap, cur, rfl, hg, (Below.heap_setCell _ _ _ _ (by show g ≠ b; omega)).trans hgg, rest⟩

theorem cell_set_ne {w : World} {b b' o : Nat} (h : b' ≠ b) (u : Value) : (w.setCell ⟨b, 0, none⟩ u).cell? ⟨b', o, none⟩ = w.cell? ⟨b', o, none⟩ := by
  unfold World.cell?
  rw [Below.heap_setCell _ _ _ _ (by show b' ≠ b; exact h)]

/-- A block behind the variables that is not the row of op's. -/
def spare (w : World) (a b : Nat) : Prop := b < w.heap.size ∧ a + 3 < b ∧ ∀ v, w.cell? ⟨a, 0, none⟩ = some v → v.ownBlock ≠ some b

/-- Behind an append to op: the blocks beside it. -/
theorem push_spare {w w1 : World} {a b : Nat} {v v' : Value} {o : Obj} (hc : w.cell? ⟨a, 0, none⟩ = some v) (hc1 : (w1.cell? ⟨a, 0, none⟩).isSome = true) (hg : (w.alloc o).grownBy w1 v.ownBlock) (hat : v'.ownBlock = v.ownBlock ∨ ∃ k, v'.ownBlock = some k ∧ w.heap.size ≤ k) (h : spare w a b) :
    spare (w1.setCell ⟨a, 0, none⟩ v') a b ∧ (w1.setCell ⟨a, 0, none⟩ v').heap[b]? = w.heap[b]? := by
  obtain ⟨h1, h2, h3⟩ := h
  have hne := h3 v hc
  have hs := hg.size
  rw [World.size_alloc] at hs
  refine ⟨⟨by simp; omega, h2, ?_⟩, ?_⟩
  · intro u hu
    obtain ⟨v0, hv0⟩ := Option.isSome_iff_exists.1 hc1
    rw [World.cell?_setCell_same _ _ _ hv0] at hu
    obtain rfl := Option.some.inj hu
    rcases hat with e | ⟨k, e, hk⟩
    · rw [e]; exact hne
    · rw [e]
      intro e
      have := Option.some.inj e
      omega
  · rw [Below.heap_setCell _ _ _ _ (by show b ≠ a; omega), hg.block b (by rw [World.size_alloc]; omega) (fun e => hne e.symm)]
    exact heap_alloc_old w o h1

theorem set_spare {w : World} {a b c : Nat} (h : spare w a b) (hc : c ≠ a) (hb : c ≠ b) (u : Value) : spare (w.setCell ⟨c, 0, none⟩ u) a b ∧ (w.setCell ⟨c, 0, none⟩ u).heap[b]? = w.heap[b]? := by
  obtain ⟨h1, h2, h3⟩ := h
  refine ⟨⟨by simpa using h1, h2, fun v hv => h3 v ?_⟩, Below.heap_setCell _ _ _ _ (by show b ≠ c; omega)⟩
  rwa [cell_set_ne (by omega)] at hv

/-- Behind an append to op, and its store. -/
theorem gath_push {M : Nat} {w w1 : World} {a : Nat} {s : NSt} {p : Option Addr} {c : Nat} {o : Obj} {v' : Value} {q : Pt} (h : gath M w a s) (hc : w.cell? ⟨a, 0, none⟩ = some (.slice p s.out.length c))
    (hown1 : w1.ownsRow M 50 3 v' (s.out.length + 1) (cellsP s.out ++ partCells q)) (hg : (w.alloc o).grownBy w1 (Value.slice p s.out.length c).ownBlock) :
    gath M (w1.setCell ⟨a, 0, none⟩ v') a ⟨s.out ++ [q], s.put, s.drop⟩ ∧ BelowG M a w (w1.setCell ⟨a, 0, none⟩ v') ∧ w1.cell? ⟨a, 0, none⟩ = some (.slice p s.out.length c) ∧ w1.frozen? ⟨a, 0, none⟩ = false := by
  have hM := h.le
  have hT := h.top
  have hlt := gath_lt h
  obtain ⟨⟨p1, c1, h1, h2⟩, h3, ⟨p', c', h4, h5⟩, h6, h7, h8, h9⟩ := h
  rw [hc] at h1
  simp only [Option.some.injEq, Value.slice.injEq, true_and] at h1
  obtain ⟨rfl, rfl⟩ := h1
  have hrow : ∀ k, (Value.slice p s.out.length c).ownBlock = some k → a + 4 ≤ k := fun k hk => Nat.le_trans hM (h2.lt k hk).1
  have hb1 : Below (a + 4) w w1 := ((Below.refl (a + 4) w).alloc (by omega) o).grown hg (by rw [World.size_alloc]; omega) hrow
  have hc1 : w1.cell? ⟨a, 0, none⟩ = some (.slice p s.out.length c) := by rw [hb1.cell (p := ⟨a, 0, none⟩) (by show a < _; omega)]; exact hc
  have hf1 : w1.frozen? ⟨a, 0, none⟩ = false := by rw [hb1.frozen (p := ⟨a, 0, none⟩) (by show a < _; omega)]; exact h3
  have h5' := (h5.alloc o).kept hg (own_ne (h5.alloc o) (h2.alloc o) (by decide))
  obtain ⟨pv, cv, rfl⟩ := own_slice hown1
  refine ⟨⟨⟨pv, cv, ?_, ?_⟩, ?_, ⟨p', c', ?_, ?_⟩, ?_, ?_, ?_, ?_, hM, (by have := hb1.size; simp; omega)⟩, ⟨(hb1.mono (show a ≤ a + 4 by omega)).setCell (Nat.le_refl _) _, (((KeptG.refl M a w).alloc o).grown (h2.alloc o) (.inr rfl) hg).set (.inl rfl) _⟩, hc1, hf1⟩
  · show _ = some (Value.slice pv (s.out ++ [q]).length cv)
    rw [List.length_append]; exact World.cell?_setCell_same _ _ _ hc1
  · show World.ownsRow _ _ _ _ (.slice pv (s.out ++ [q]).length cv) (s.out ++ [q]).length (cellsP (s.out ++ [q]))
    rw [List.length_append, cellsP_snoc]; exact own_set hown1 (by omega) _
  · rw [World.frozen?_setCell]; exact hf1
  · rw [cell_set_ne (by omega)]; exact (hb1.cell (p := ⟨a + 1, 0, none⟩) (by show a + 1 < _; omega)).trans h4
  · exact own_set h5' (by omega) _
  · rw [World.frozen?_setCell]; exact (hb1.frozen (p := ⟨a + 1, 0, none⟩) (by show a + 1 < _; omega)).trans h6
  · rw [cell_set_ne (by omega)]; exact (hb1.cell (p := ⟨a + 2, 0, none⟩) (by show a + 2 < _; omega)).trans h7
  · rw [World.frozen?_setCell]; exact (hb1.frozen (p := ⟨a + 2, 0, none⟩) (by show a + 2 < _; omega)).trans h8
  · rw [cell_set_ne (by omega)]; exact (hb1.cell (p := ⟨a + 3, 0, none⟩) (by show a + 3 < _; omega)).trans h9

/-- Behind an append to put, and its store. -/
theorem gath_puts {M : Nat} {w w1 : World} {a : Nat} {s : NSt} {p : Option Addr} {c : Nat} {v' : Value} {q : List UInt8} (h : gath M w a s) (hc : w.cell? ⟨a + 1, 0, none⟩ = some (.slice p s.put.length c))
    (hown1 : w1.ownsRow M 5 1 v' (s.put.length + q.length) (Lib.byteCells s.put ++ Lib.byteCells q)) (hg : w.grownBy w1 (Value.slice p s.put.length c).ownBlock) :
    gath M (w1.setCell ⟨a + 1, 0, none⟩ v') a ⟨s.out, s.put ++ q, s.drop⟩ ∧ BelowG M a w (w1.setCell ⟨a + 1, 0, none⟩ v') ∧ w1.cell? ⟨a + 1, 0, none⟩ = some (.slice p s.put.length c) ∧ w1.frozen? ⟨a + 1, 0, none⟩ = false := by
  have hM := h.le
  have hT := h.top
  have hlt := gath_lt h
  obtain ⟨⟨p', c', h4, h5⟩, h6, ⟨p1, c1, h1, h2⟩, h3, h7, h8, h9⟩ := h
  rw [hc] at h1
  simp only [Option.some.injEq, Value.slice.injEq, true_and] at h1
  obtain ⟨rfl, rfl⟩ := h1
  have hrow : ∀ k, (Value.slice p s.put.length c).ownBlock = some k → a + 4 ≤ k := fun k hk => Nat.le_trans hM (h2.lt k hk).1
  have hb1 : Below (a + 4) w w1 := (Below.refl (a + 4) w).grown hg (by omega) hrow
  have hc1 : w1.cell? ⟨a + 1, 0, none⟩ = some (.slice p s.put.length c) := by rw [hb1.cell (p := ⟨a + 1, 0, none⟩) (by show a + 1 < _; omega)]; exact hc
  have hf1 : w1.frozen? ⟨a + 1, 0, none⟩ = false := by rw [hb1.frozen (p := ⟨a + 1, 0, none⟩) (by show a + 1 < _; omega)]; exact h3
  have h5' := h5.kept hg (own_ne h5 h2 (by decide))
  obtain ⟨pv, cv, rfl⟩ := own_slice hown1
  refine ⟨⟨⟨p', c', ?_, ?_⟩, ?_, ⟨pv, cv, ?_, ?_⟩, ?_, ?_, ?_, ?_, hM, (by have := hb1.size; simp; omega)⟩, ⟨(hb1.mono (show a ≤ a + 4 by omega)).setCell (by show a ≤ a + 1; omega) _, ((KeptG.refl M a w).grown h2 (.inl rfl) hg).set (.inr (.inl rfl)) _⟩, hc1, hf1⟩
  · rw [cell_set_ne (by omega)]; exact (hb1.cell (p := ⟨a, 0, none⟩) (by show a < _; omega)).trans h4
  · exact own_set h5' (by omega) _
  · rw [World.frozen?_setCell]; exact (hb1.frozen (p := ⟨a, 0, none⟩) (by show a < _; omega)).trans h6
  · show _ = some (Value.slice pv (s.put ++ q).length cv)
    rw [List.length_append]; exact World.cell?_setCell_same _ _ _ hc1
  · show World.ownsRow _ _ _ _ (.slice pv (s.put ++ q).length cv) (s.put ++ q).length (Lib.byteCells (s.put ++ q))
    rw [List.length_append, Lib.byteCells_append]; exact own_set hown1 (by omega) _
  · rw [World.frozen?_setCell]; exact hf1
  · rw [cell_set_ne (by omega)]; exact (hb1.cell (p := ⟨a + 2, 0, none⟩) (by show a + 2 < _; omega)).trans h7
  · rw [World.frozen?_setCell]; exact (hb1.frozen (p := ⟨a + 2, 0, none⟩) (by show a + 2 < _; omega)).trans h8
  · rw [cell_set_ne (by omega)]; exact (hb1.cell (p := ⟨a + 3, 0, none⟩) (by show a + 3 < _; omega)).trans h9

/-- Behind a store of drop. -/
theorem gath_drop {M : Nat} {w : World} {a : Nat} {s : NSt} (h : gath M w a s) (d : Int) : gath M (w.setCell ⟨a + 2, 0, none⟩ (.int .i64 d)) a ⟨s.out, s.put, d⟩ ∧ BelowG M a w (w.setCell ⟨a + 2, 0, none⟩ (.int .i64 d)) := by
  have hM := h.le
  have hT := h.top
  have hlt := gath_lt h
  obtain ⟨⟨p, c, h1, h2⟩, h3, ⟨p', c', h4, h5⟩, h6, h7, h8, h9⟩ := h
  refine ⟨⟨⟨p, c, ?_, own_set h2 (by omega) _⟩, ?_, ⟨p', c', ?_, own_set h5 (by omega) _⟩, ?_, World.cell?_setCell_same _ _ _ h7, ?_, ?_, hM, (by simp; omega)⟩, ⟨(Below.refl a w).setCell (by show a ≤ a + 2; omega) _, (KeptG.refl M a w).set (.inr (.inr rfl)) _⟩⟩
  · rw [cell_set_ne (by omega)]; exact h1
  · rw [World.frozen?_setCell]; exact h3
  · rw [cell_set_ne (by omega)]; exact h4
  · rw [World.frozen?_setCell]; exact h6
  · rw [World.frozen?_setCell]; exact h8
  · rw [cell_set_ne (by omega)]; exact h9

/-- Behind 'put = put[:0]'. -/
theorem gath_none {M : Nat} {w : World} {a : Nat} {s : NSt} {p : Option Addr} {c : Nat} (h : gath M w a s) (hc : w.cell? ⟨a + 1, 0, none⟩ = some (.slice p s.put.length c)) :
    gath M (w.setCell ⟨a + 1, 0, none⟩ (.slice p 0 c)) a ⟨s.out, [], s.drop⟩ ∧ BelowG M a w (w.setCell ⟨a + 1, 0, none⟩ (.slice p 0 c)) := by
  have hM := h.le
  have hT := h.top
  have hlt := gath_lt h
  obtain ⟨⟨p', c', h4, h5⟩, h6, ⟨p1, c1, h1, h2⟩, h3, h7, h8, h9⟩ := h
  have hc' := hc
  rw [hc] at h1
  simp only [Option.some.injEq, Value.slice.injEq, true_and] at h1
  obtain ⟨rfl, rfl⟩ := h1
  have h2' : w.ownsRow M 5 1 (.slice p 0 c) 0 [] := by
    obtain ⟨_, hrow⟩ := h2
    refine ⟨rfl, ?_⟩
    rcases hrow with ⟨hn, h0⟩ | ⟨g, cap, cur, hv, hg, hgg, hnc, rest⟩
    · simp only [Value.slice.injEq] at hn
      obtain ⟨rfl, _, rfl⟩ := hn
      exact .inl ⟨rfl, rfl⟩
    · simp only [Value.slice.injEq, true_and] at hv
      obtain ⟨rfl, rfl⟩ := hv
      exact .inr ⟨g, c, cur, rfl, hg, hgg, Nat.zero_le _, rest.1, rest.2.1, by simp⟩
  refine ⟨⟨⟨p', c', ?_, own_set h5 (by omega) _⟩, ?_, ⟨p, c, World.cell?_setCell_same _ _ _ hc', own_set h2' (by omega) _⟩, ?_, ?_, ?_, ?_, hM, (by simp; omega)⟩, ⟨(Below.refl a w).setCell (by show a ≤ a + 1; omega) _, (KeptG.refl M a w).set (.inr (.inl rfl)) _⟩⟩
  · rw [cell_set_ne (by omega)]; exact h4
  · rw [World.frozen?_setCell]; exact h6
  · rw [World.frozen?_setCell]; exact h3
  · rw [cell_set_ne (by omega)]; exact h7
  · rw [World.frozen?_setCell]; exact h8
  · rw [cell_set_ne (by omega)]; exact h9
end Go.Proofs.YtfedgjnhanlmeabGreatDoor

namespace Go.Proofs.YtfedgjnhanlmeabGreatDoor
open Go.RowKit
set_option linter.unusedVariables false

theorem gather_any (w : World) : Calls Tryz.prog 207 #[] w fun e w' => e = .returned (.tuple #[.func (.func 229) #[] #[.pointer (some ⟨w.heap.size + 1, 0, none⟩), .pointer (some ⟨w.heap.size + 2, 0, none⟩), .pointer (some ⟨w.heap.size + 3, 0, none⟩), .pointer (some ⟨w.heap.size, 0, none⟩)],
      .func (.func 230) #[] #[.pointer (some ⟨w.heap.size + 3, 0, none⟩), .pointer (some ⟨w.heap.size, 0, none⟩)]]) ∧ (∀ M w2, Below w'.heap.size w' w2 → w.heap.size + 4 ≤ M → M ≤ w2.heap.size → gath M w2 w.heap.size nst0) ∧ w'.heap.size = w.heap.size + 4 ∧ Below w.heap.size w w' := by
  go_enter Tryz.func207, Tryz.ntmps207
  go_wp2
  go_ret2
  refine ⟨rfl, fun M w2 hb hM hT => ?_, by simp [World.size_alloc], ?_⟩
  · have hs := hb.size
    simp only [World.size_alloc] at hs
    have hlt : ∀ k, k < 4 → w.heap.size + k < w.heap.size + 1 + 1 + 1 + 1 := fun k hk => by omega
    refine ⟨⟨none, 0, (hb.cell (by simp only [World.size_alloc]; omega)).trans (by simp [go_sem, nst0]), World.ownsRow_nil _ _ _ _⟩, (hb.frozen (by simp only [World.size_alloc]; omega)).trans (by simp [go_sem]), ⟨none, 0, (hb.cell (by simp only [World.size_alloc]; omega)).trans (by simp [go_sem, nst0]), World.ownsRow_nil _ _ _ _⟩, (hb.frozen (by simp only [World.size_alloc]; omega)).trans (by simp [go_sem]), (hb.cell (by simp only [World.size_alloc]; omega)).trans (by simp [go_sem, nst0]), (hb.frozen (by simp only [World.size_alloc]; omega)).trans (by simp [go_sem]), (hb.cell (by simp only [World.size_alloc]; omega)).trans (by simp [go_sem]), hM, hT⟩
  have b1 := (Below.refl w.heap.size w).alloc (Nat.le_refl _) (.cells #[.slice none 0 0] 23)
  have b2 := b1.alloc b1.size (.cells #[.slice none 0 0] 156)
  have b3 := b2.alloc b2.size (.cells #[.int .i64 0] 3)
  exact b3.alloc b3.size _

/-- What 'put[:0]' is. -/
theorem cut_none (p : Option Addr) (n c : Nat) (w : World) : (Instr.sliceAt 156 (.slice p n c) none (some (.int .i64 0)) none).run Tryz.prog w = .ok (.slice p 0 c) w := by
  have h : (if c = 0 then p else Option.map (fun x => x.add 0) p) = p := by
    cases p <;> simp [Addr.add]
  have := run_sliceAt_slice (P := Tryz.prog) w 156 (.slice p n c) none (some (.int .i64 0)) none (by kernel_rfl)
  rw [this]
  have h2 := run_slice_h (P := Tryz.prog) w 156 p n c (by kernel_rfl) .i64 0 (by omega) (by omega)
  rw [h2]
  have h3 : (sizeOf (Tryz.prog.elem 156)).run Tryz.prog w = .ok 1 w := by kernel_rfl
  rw [h3]
  simp only [Result.andThen, sliced, Int.toNat_zero, Nat.zero_mul, Nat.sub_zero]
  rw [h]

set_option maxRecDepth 100000 in
set_option maxHeartbeats 1000000 in
theorem tell_oo {M : Nat} (a : Nat) (s : NSt) (w : World) (h : gath M w a s) (hlen : s.out.length < 1000000000) (hput : s.put.length < 1000000000) (hp : s.put = []) (hd : s.drop = 0) :
    Calls Tryz.prog 228 #[.pointer (some ⟨a + 1, 0, none⟩), .pointer (some ⟨a, 0, none⟩), .pointer (some ⟨a + 2, 0, none⟩)] w fun e w' => (∃ v, e = .returned v) ∧ gath M w' a ⟨s.out, [], 0⟩ ∧ BelowG M a w w' ∧ ∀ b, spare w a b → w'.heap[b]? = w.heap[b]? := by
  have hM := h.le
  have hT := h.top
  obtain ⟨i0, hi, hz0, hz1, hz2⟩ := info_parts info_part
  have hcut := cut_none
  have hlt := gath_lt h
  have H0 : Hid (gath M w a s) := h
  obtain ⟨⟨p, c, h1, h2⟩, h3, ⟨p', c', h4, h5⟩, h6, h7, h8, h9⟩ := h
  have HO : Hid (w.ownsRow M 50 3 (.slice p s.out.length c) s.out.length (cellsP s.out)) := h2
  have HC : Hid (w.cell? ⟨a, 0, none⟩ = some (.slice p s.out.length c)) := h1
  have hpl : ¬ (0 : Int) < (s.put.length : Int) := by rw [hp]; simp
  have hdb : (s.drop == 0) = true := beq_iff_eq.2 hd
  clear h2 h5 h9 hp
  go_enter Tryz.func228, Tryz.ntmps228
  have HK0 : Hid (w.cell? ⟨a + 1, 0, none⟩ = some (.slice p' s.put.length c')) := h4
  go_wp2
  go_end0
  have F1 := gath_none H0.out HK0.out
  have F2 := gath_drop F1.1 0
  refine ⟨⟨_, rfl⟩, F2.1, F1.2.trans F2.2, fun b hb => ?_⟩
  have hb0 := hb.2.1
  have e0 : w.heap[b]? = w.heap[b]? := rfl
  have s0 := hb
  have e1 := e0
  have s1 := s0
  have e2 := e1
  have s2 := s1
  have s3 := set_spare s2 (c := a + 1) (by omega) (by omega) (.slice p' 0 c')
  exact ((set_spare s3.1 (c := a + 2) (by omega) (by omega) (.int .i64 0)).2.trans s3.2).trans e2

set_option maxRecDepth 100000 in
set_option maxHeartbeats 1000000 in
theorem tell_od {M : Nat} (a : Nat) (s : NSt) (w : World) (h : gath M w a s) (hlen : s.out.length < 1000000000) (hput : s.put.length < 1000000000) (hp : s.put = []) (hd : s.drop ≠ 0) :
    Calls Tryz.prog 228 #[.pointer (some ⟨a + 1, 0, none⟩), .pointer (some ⟨a, 0, none⟩), .pointer (some ⟨a + 2, 0, none⟩)] w fun e w' => (∃ v, e = .returned v) ∧ gath M w' a ⟨s.out ++ [⟨0, s.drop, []⟩], [], 0⟩ ∧ BelowG M a w w' ∧ ∀ b, spare w a b → w'.heap[b]? = w.heap[b]? := by
  have hM := h.le
  have hT := h.top
  obtain ⟨i0, hi, hz0, hz1, hz2⟩ := info_parts info_part
  have hcut := cut_none
  have hlt := gath_lt h
  have H0 : Hid (gath M w a s) := h
  obtain ⟨⟨p, c, h1, h2⟩, h3, ⟨p', c', h4, h5⟩, h6, h7, h8, h9⟩ := h
  have HO : Hid (w.ownsRow M 50 3 (.slice p s.out.length c) s.out.length (cellsP s.out)) := h2
  have HC : Hid (w.cell? ⟨a, 0, none⟩ = some (.slice p s.out.length c)) := h1
  have hpl : ¬ (0 : Int) < (s.put.length : Int) := by rw [hp]; simp
  have hdb : (s.drop == 0) = false := beq_eq_false_iff_ne.2 hd
  clear h2 h5 h9 hp
  go_enter Tryz.func228, Tryz.ntmps228
  go_wp2_with (first | (at_builtin; refine wpList_append_own_at _ rfl _ _ 23 rfl M 50 i0 (.agg #[.int .i64 0, .int .i64 0, .string ⟨#[]⟩]) 3 32 Tryz.underlying23 hi hz0 hz1 hz2 rfl (by decide) _ _ _ rfl (HO.out.alloc _) ⟨w.heap.size, 0, none⟩ 1 1 (partCells ⟨0, s.drop, []⟩) rfl rfl (cells_new _ _ _) (partCells_one _) (by unfold maxLen; omega) (by omega) (by first | omega | (simp; omega)) ?_) | fail)
  intro v2 w2 hown2 hg2 _ hat2
  have P2 := gath_push (q := ⟨0, s.drop, []⟩) H0.out HC.out hown2 hg2
  have hb2 : Below (a + 4) w w2 := ((Below.refl (a + 4) w).alloc (by omega) _).grown hg2 (by rw [World.size_alloc]; omega) fun k hk => Nat.le_trans hM (HO.out.lt k hk).1
  have z4 := h4
  have z6 := h6
  have z7 := h7
  have z8 := h8
  obtain ⟨p2, q2, hv2⟩ := own_slice hown2
  rw [hv2] at P2 ⊢
  rw [hv2] at hat2
  obtain ⟨G2, B2, t1, t2⟩ := P2
  have HS2 : Hid (∀ b, spare (w) a b → spare (w2.setCell ⟨a, 0, none⟩ (.slice p2 (s.out.length + 1) q2)) a b ∧ (w2.setCell ⟨a, 0, none⟩ (.slice p2 (s.out.length + 1) q2)).heap[b]? = (w).heap[b]?) := fun b hb => push_spare HC.out (by rw [t1]; rfl) hg2 (hat2.imp id fun e => ⟨_, e, by simp⟩) hb
  clear hat2
  have HG2 : Hid (gath M _ a ⟨s.out ++ [⟨0, s.drop, []⟩], s.put, s.drop⟩) := G2
  have HB2 : Hid (BelowG M a _ _) := B2
  have y4 := (hb2.cell (p := ⟨a + 1, 0, none⟩) (by show a + 1 < _; omega)).trans z4
  have y6 := (hb2.frozen (p := ⟨a + 1, 0, none⟩) (by show a + 1 < _; omega)).trans z6
  have y7 := (hb2.cell (p := ⟨a + 2, 0, none⟩) (by show a + 2 < _; omega)).trans z7
  have y8 := (hb2.frozen (p := ⟨a + 2, 0, none⟩) (by show a + 2 < _; omega)).trans z8
  have hs2 := hb2.size
  have HK5 : Hid ((w2.setCell ⟨a, 0, none⟩ (.slice p2 (s.out.length + 1) q2)).cell? ⟨a + 1, 0, none⟩ = some (.slice p' s.put.length c')) := (cell_set_ne (by omega) _).trans y4
  clear z4 z6 z7 z8 G2 B2 hown2 hg2 hb2 hv2
  clear h1 h3 h4 h6 h7 h8
  go_wp2
  go_end0
  have F1 := gath_none HG2.out HK5.out
  have F2 := gath_drop F1.1 0
  refine ⟨⟨_, rfl⟩, F2.1, (HB2.out).trans (F1.2.trans F2.2), fun b hb => ?_⟩
  have hb0 := hb.2.1
  have e0 : w.heap[b]? = w.heap[b]? := rfl
  have s0 := hb
  have e1 := e0
  have s1 := s0
  have e2 := ((HS2.out b s1).2).trans e1
  have s2 := (HS2.out b s1).1
  have s3 := set_spare s2 (c := a + 1) (by omega) (by omega) (.slice p' 0 c')
  exact ((set_spare s3.1 (c := a + 2) (by omega) (by omega) (.int .i64 0)).2.trans s3.2).trans e2

set_option maxRecDepth 100000 in
set_option maxHeartbeats 1000000 in
theorem tell_po {M : Nat} (a : Nat) (s : NSt) (w : World) (h : gath M w a s) (hlen : s.out.length < 1000000000) (hput : s.put.length < 1000000000) (hp : s.put ≠ []) (hd : s.drop = 0) :
    Calls Tryz.prog 228 #[.pointer (some ⟨a + 1, 0, none⟩), .pointer (some ⟨a, 0, none⟩), .pointer (some ⟨a + 2, 0, none⟩)] w fun e w' => (∃ v, e = .returned v) ∧ gath M w' a ⟨s.out ++ [⟨0, 0, s.put⟩], [], 0⟩ ∧ BelowG M a w w' ∧ ∀ b, spare w a b → w'.heap[b]? = w.heap[b]? := by
  have hM := h.le
  have hT := h.top
  obtain ⟨i0, hi, hz0, hz1, hz2⟩ := info_parts info_part
  have hcut := cut_none
  have hlt := gath_lt h
  have H0 : Hid (gath M w a s) := h
  obtain ⟨⟨p, c, h1, h2⟩, h3, ⟨p', c', h4, h5⟩, h6, h7, h8, h9⟩ := h
  have HO : Hid (w.ownsRow M 50 3 (.slice p s.out.length c) s.out.length (cellsP s.out)) := h2
  have HC : Hid (w.cell? ⟨a, 0, none⟩ = some (.slice p s.out.length c)) := h1
  have hpl : (0 : Int) < (s.put.length : Int) := by have := List.length_pos_iff.2 hp; omega
  have hconv : (convert 156 9 (.slice p' s.put.length c')).run Tryz.prog w = .ok (.string ⟨s.put.toArray⟩) w := string_own rfl h5
  have hdb : (s.drop == 0) = true := beq_iff_eq.2 hd
  clear h2 h5 h9 hp
  go_enter Tryz.func228, Tryz.ntmps228
  go_wp2_with (first | (at_builtin; refine wpList_append_own_at _ rfl _ _ 23 rfl M 50 i0 (.agg #[.int .i64 0, .int .i64 0, .string ⟨#[]⟩]) 3 32 Tryz.underlying23 hi hz0 hz1 hz2 rfl (by decide) _ _ _ rfl (HO.out.alloc _) ⟨w.heap.size, 0, none⟩ 1 1 (partCells ⟨0, 0, s.put⟩) rfl rfl (cells_new _ _ _) (partCells_one _) (by unfold maxLen; omega) (by omega) (by first | omega | (simp; omega)) ?_) | fail)
  intro v1 w1 hown1 hg1 _ hat1
  have P1 := gath_push (q := ⟨0, 0, s.put⟩) H0.out HC.out hown1 hg1
  have hb1 : Below (a + 4) w w1 := ((Below.refl (a + 4) w).alloc (by omega) _).grown hg1 (by rw [World.size_alloc]; omega) fun k hk => Nat.le_trans hM (HO.out.lt k hk).1
  obtain ⟨p1, q1, hv1⟩ := own_slice hown1
  rw [hv1] at P1 hown1 ⊢
  rw [hv1] at hat1
  obtain ⟨G1, B1, r1, r2⟩ := P1
  have HS1 : Hid (∀ b, spare w a b → spare (w1.setCell ⟨a, 0, none⟩ (.slice p1 (s.out.length + 1) q1)) a b ∧ (w1.setCell ⟨a, 0, none⟩ (.slice p1 (s.out.length + 1) q1)).heap[b]? = w.heap[b]?) := fun b hb => push_spare HC.out (by rw [r1]; rfl) hg1 (hat1.imp id fun e => ⟨_, e, by simp⟩) hb
  clear hat1
  have HG1 : Hid (gath M _ a ⟨s.out ++ [⟨0, 0, s.put⟩], s.put, s.drop⟩) := G1
  have HB1 : Hid (BelowG M a w _) := B1
  have HO1 : Hid ((w1.setCell ⟨a, 0, none⟩ (.slice p1 (s.out.length + 1) q1)).ownsRow M 50 3 (.slice p1 (s.out.length + 1) q1) (s.out.length + 1) (cellsP s.out ++ partCells ⟨0, 0, s.put⟩)) := own_set hown1 (show a < M by omega) (.slice p1 (s.out.length + 1) q1)
  have k4 := (hb1.cell (p := ⟨a + 1, 0, none⟩) (by show a + 1 < _; omega)).trans h4
  have k6 := (hb1.frozen (p := ⟨a + 1, 0, none⟩) (by show a + 1 < _; omega)).trans h6
  have k7 := (hb1.cell (p := ⟨a + 2, 0, none⟩) (by show a + 2 < _; omega)).trans h7
  have k8 := (hb1.frozen (p := ⟨a + 2, 0, none⟩) (by show a + 2 < _; omega)).trans h8
  have hs1 := hb1.size
  have HK1 : Hid ((w1.setCell ⟨a, 0, none⟩ (.slice p1 (s.out.length + 1) q1)).cell? ⟨a, 0, none⟩ = some (.slice p1 (s.out.length + 1) q1)) := World.cell?_setCell_same _ _ _ r1
  have HK4 : Hid ((w1.setCell ⟨a, 0, none⟩ (.slice p1 (s.out.length + 1) q1)).cell? ⟨a + 1, 0, none⟩ = some (.slice p' s.put.length c')) := (cell_set_ne (by omega) _).trans k4
  clear h1 h3 h4 h6 h7 h8 G1 B1 hown1 hg1 hconv hb1 hv1
  go_wp2
  go_end0
  have F1 := gath_none HG1.out HK4.out
  have F2 := gath_drop F1.1 0
  refine ⟨⟨_, rfl⟩, F2.1, (HB1.out).trans (F1.2.trans F2.2), fun b hb => ?_⟩
  have hb0 := hb.2.1
  have e0 : w.heap[b]? = w.heap[b]? := rfl
  have s0 := hb
  have e1 := (HS1.out b s0).2
  have s1 := (HS1.out b s0).1
  have e2 := e1
  have s2 := s1
  have s3 := set_spare s2 (c := a + 1) (by omega) (by omega) (.slice p' 0 c')
  exact ((set_spare s3.1 (c := a + 2) (by omega) (by omega) (.int .i64 0)).2.trans s3.2).trans e2

set_option maxRecDepth 100000 in
set_option maxHeartbeats 1000000 in
theorem tell_pd {M : Nat} (a : Nat) (s : NSt) (w : World) (h : gath M w a s) (hlen : s.out.length < 1000000000) (hput : s.put.length < 1000000000) (hp : s.put ≠ []) (hd : s.drop ≠ 0) :
    Calls Tryz.prog 228 #[.pointer (some ⟨a + 1, 0, none⟩), .pointer (some ⟨a, 0, none⟩), .pointer (some ⟨a + 2, 0, none⟩)] w fun e w' => (∃ v, e = .returned v) ∧ gath M w' a ⟨s.out ++ [⟨0, 0, s.put⟩, ⟨0, s.drop, []⟩], [], 0⟩ ∧ BelowG M a w w' ∧ ∀ b, spare w a b → w'.heap[b]? = w.heap[b]? := by
  have hM := h.le
  have hT := h.top
  obtain ⟨i0, hi, hz0, hz1, hz2⟩ := info_parts info_part
  have hcut := cut_none
  have hlt := gath_lt h
  have H0 : Hid (gath M w a s) := h
  obtain ⟨⟨p, c, h1, h2⟩, h3, ⟨p', c', h4, h5⟩, h6, h7, h8, h9⟩ := h
  have HO : Hid (w.ownsRow M 50 3 (.slice p s.out.length c) s.out.length (cellsP s.out)) := h2
  have HC : Hid (w.cell? ⟨a, 0, none⟩ = some (.slice p s.out.length c)) := h1
  have hpl : (0 : Int) < (s.put.length : Int) := by have := List.length_pos_iff.2 hp; omega
  have hconv : (convert 156 9 (.slice p' s.put.length c')).run Tryz.prog w = .ok (.string ⟨s.put.toArray⟩) w := string_own rfl h5
  have hdb : (s.drop == 0) = false := beq_eq_false_iff_ne.2 hd
  clear h2 h5 h9 hp
  go_enter Tryz.func228, Tryz.ntmps228
  go_wp2_with (first | (at_builtin; refine wpList_append_own_at _ rfl _ _ 23 rfl M 50 i0 (.agg #[.int .i64 0, .int .i64 0, .string ⟨#[]⟩]) 3 32 Tryz.underlying23 hi hz0 hz1 hz2 rfl (by decide) _ _ _ rfl (HO.out.alloc _) ⟨w.heap.size, 0, none⟩ 1 1 (partCells ⟨0, 0, s.put⟩) rfl rfl (cells_new _ _ _) (partCells_one _) (by unfold maxLen; omega) (by omega) (by first | omega | (simp; omega)) ?_) | fail)
  intro v1 w1 hown1 hg1 _ hat1
  have P1 := gath_push (q := ⟨0, 0, s.put⟩) H0.out HC.out hown1 hg1
  have hb1 : Below (a + 4) w w1 := ((Below.refl (a + 4) w).alloc (by omega) _).grown hg1 (by rw [World.size_alloc]; omega) fun k hk => Nat.le_trans hM (HO.out.lt k hk).1
  obtain ⟨p1, q1, hv1⟩ := own_slice hown1
  rw [hv1] at P1 hown1 ⊢
  rw [hv1] at hat1
  obtain ⟨G1, B1, r1, r2⟩ := P1
  have HS1 : Hid (∀ b, spare w a b → spare (w1.setCell ⟨a, 0, none⟩ (.slice p1 (s.out.length + 1) q1)) a b ∧ (w1.setCell ⟨a, 0, none⟩ (.slice p1 (s.out.length + 1) q1)).heap[b]? = w.heap[b]?) := fun b hb => push_spare HC.out (by rw [r1]; rfl) hg1 (hat1.imp id fun e => ⟨_, e, by simp⟩) hb
  clear hat1
  have HG1 : Hid (gath M _ a ⟨s.out ++ [⟨0, 0, s.put⟩], s.put, s.drop⟩) := G1
  have HB1 : Hid (BelowG M a w _) := B1
  have HO1 : Hid ((w1.setCell ⟨a, 0, none⟩ (.slice p1 (s.out.length + 1) q1)).ownsRow M 50 3 (.slice p1 (s.out.length + 1) q1) (s.out.length + 1) (cellsP s.out ++ partCells ⟨0, 0, s.put⟩)) := own_set hown1 (show a < M by omega) (.slice p1 (s.out.length + 1) q1)
  have k4 := (hb1.cell (p := ⟨a + 1, 0, none⟩) (by show a + 1 < _; omega)).trans h4
  have k6 := (hb1.frozen (p := ⟨a + 1, 0, none⟩) (by show a + 1 < _; omega)).trans h6
  have k7 := (hb1.cell (p := ⟨a + 2, 0, none⟩) (by show a + 2 < _; omega)).trans h7
  have k8 := (hb1.frozen (p := ⟨a + 2, 0, none⟩) (by show a + 2 < _; omega)).trans h8
  have hs1 := hb1.size
  have HK1 : Hid ((w1.setCell ⟨a, 0, none⟩ (.slice p1 (s.out.length + 1) q1)).cell? ⟨a, 0, none⟩ = some (.slice p1 (s.out.length + 1) q1)) := World.cell?_setCell_same _ _ _ r1
  have HK4 : Hid ((w1.setCell ⟨a, 0, none⟩ (.slice p1 (s.out.length + 1) q1)).cell? ⟨a + 1, 0, none⟩ = some (.slice p' s.put.length c')) := (cell_set_ne (by omega) _).trans k4
  clear h1 h3 h4 h6 h7 h8 G1 B1 hown1 hg1 hconv hb1 hv1
  go_wp2_with (first | (at_builtin; refine wpList_append_own_at _ rfl _ _ 23 rfl M 50 i0 (.agg #[.int .i64 0, .int .i64 0, .string ⟨#[]⟩]) 3 32 Tryz.underlying23 hi hz0 hz1 hz2 rfl (by decide) _ _ _ rfl (HO1.out.alloc _) ⟨w1.heap.size, 0, none⟩ 1 1 (partCells ⟨0, s.drop, []⟩) rfl rfl (cells_new_set _ _ _ _ _) (partCells_one _) (by unfold maxLen; omega) (by omega) (by first | omega | (simp; omega)) ?_) | fail)
  intro v2 w2 hown2 hg2 _ hat2
  have hown2' : w2.ownsRow M 50 3 v2 ((s.out ++ [(⟨0, 0, s.put⟩ : Pt)]).length + 1) (cellsP (s.out ++ [(⟨0, 0, s.put⟩ : Pt)]) ++ partCells ⟨0, s.drop, []⟩) := by
    rw [cellsP_snoc, List.length_append, List.append_assoc]; exact hown2
  have hls : (s.out ++ [(⟨0, 0, s.put⟩ : Pt)]).length = s.out.length + 1 := by rw [List.length_append]; rfl
  have HK1' : (w1.setCell ⟨a, 0, none⟩ (.slice p1 (s.out.length + 1) q1)).cell? ⟨a, 0, none⟩ = some (.slice p1 (s.out ++ [(⟨0, 0, s.put⟩ : Pt)]).length q1) := by rw [hls]; exact HK1.out
  have P2 := gath_push (q := ⟨0, s.drop, []⟩) HG1.out HK1' hown2' (by rw [hls]; exact hg2)
  have hb2 : Below (a + 4) (w1.setCell ⟨a, 0, none⟩ (.slice p1 (s.out.length + 1) q1)) w2 := ((Below.refl (a + 4) _).alloc (by simp; omega) _).grown hg2 (by rw [World.size_alloc]; simp; omega) fun k hk => Nat.le_trans hM (HO1.out.lt k hk).1
  have z4 := HK4.out
  have z6 : (w1.setCell ⟨a, 0, none⟩ (.slice p1 (s.out.length + 1) q1)).frozen? ⟨a + 1, 0, none⟩ = false := by rw [World.frozen?_setCell]; exact k6
  have z7 : (w1.setCell ⟨a, 0, none⟩ (.slice p1 (s.out.length + 1) q1)).cell? ⟨a + 2, 0, none⟩ = some (.int .i64 s.drop) := (cell_set_ne (by omega) _).trans k7
  have z8 : (w1.setCell ⟨a, 0, none⟩ (.slice p1 (s.out.length + 1) q1)).frozen? ⟨a + 2, 0, none⟩ = false := by rw [World.frozen?_setCell]; exact k8
  clear HK1'
  obtain ⟨p2, q2, hv2⟩ := own_slice hown2
  rw [hv2] at P2 ⊢
  rw [hv2] at hat2
  obtain ⟨G2, B2, t1, t2⟩ := P2
  have HS2 : Hid (∀ b, spare (w1.setCell ⟨a, 0, none⟩ (.slice p1 (s.out.length + 1) q1)) a b → spare (w2.setCell ⟨a, 0, none⟩ (.slice p2 ((s.out.length + 1) + 1) q2)) a b ∧ (w2.setCell ⟨a, 0, none⟩ (.slice p2 ((s.out.length + 1) + 1) q2)).heap[b]? = (w1.setCell ⟨a, 0, none⟩ (.slice p1 (s.out.length + 1) q1)).heap[b]?) := fun b hb => push_spare HK1.out (by rw [t1]; rfl) hg2 (hat2.imp id fun e => ⟨_, e, by simp⟩) hb
  clear hat2
  have HG2 : Hid (gath M _ a ⟨(s.out ++ [⟨0, 0, s.put⟩]) ++ [⟨0, s.drop, []⟩], s.put, s.drop⟩) := G2
  have HB2 : Hid (BelowG M a _ _) := B2
  have y4 := (hb2.cell (p := ⟨a + 1, 0, none⟩) (by show a + 1 < _; omega)).trans z4
  have y6 := (hb2.frozen (p := ⟨a + 1, 0, none⟩) (by show a + 1 < _; omega)).trans z6
  have y7 := (hb2.cell (p := ⟨a + 2, 0, none⟩) (by show a + 2 < _; omega)).trans z7
  have y8 := (hb2.frozen (p := ⟨a + 2, 0, none⟩) (by show a + 2 < _; omega)).trans z8
  have hs2 := hb2.size
  have HK5 : Hid ((w2.setCell ⟨a, 0, none⟩ (.slice p2 ((s.out.length + 1) + 1) q2)).cell? ⟨a + 1, 0, none⟩ = some (.slice p' s.put.length c')) := (cell_set_ne (by omega) _).trans y4
  clear z4 z6 z7 z8 G2 B2 hown2 hg2 hb2 hv2
  clear k4 k6 k7 k8 r1 r2
  clear hown2'
  go_wp2
  go_end0
  have F1 := gath_none HG2.out HK5.out
  have F2 := gath_drop F1.1 0
  have F3 := F2.1
  rw [List.append_assoc] at F3
  refine ⟨⟨_, rfl⟩, F3, (HB1.out.trans HB2.out).trans (F1.2.trans F2.2), fun b hb => ?_⟩
  have hb0 := hb.2.1
  have e0 : w.heap[b]? = w.heap[b]? := rfl
  have s0 := hb
  have e1 := (HS1.out b s0).2
  have s1 := (HS1.out b s0).1
  have e2 := ((HS2.out b s1).2).trans e1
  have s2 := (HS2.out b s1).1
  have s3 := set_spare s2 (c := a + 1) (by omega) (by omega) (.slice p' 0 c')
  exact ((set_spare s3.1 (c := a + 2) (by omega) (by omega) (.int .i64 0)).2.trans s3.2).trans e2

theorem tell_any {M : Nat} (a : Nat) (s : NSt) (w : World) (h : gath M w a s) (hlen : s.out.length < 1000000000) (hput : s.put.length < 1000000000) :
    Calls Tryz.prog 228 #[.pointer (some ⟨a + 1, 0, none⟩), .pointer (some ⟨a, 0, none⟩), .pointer (some ⟨a + 2, 0, none⟩)] w fun e w' => (∃ v, e = .returned v) ∧ gath M w' a ⟨tellP s, [], 0⟩ ∧ BelowG M a w w' ∧ ∀ b, spare w a b → w'.heap[b]? = w.heap[b]? := by
  have hM := h.le
  have hT := h.top
  unfold tellP
  by_cases hp : s.put = []
  · by_cases hd : s.drop = 0
    · have := tell_oo a s w h hlen hput hp hd
      simpa [hp, hd] using this
    · have := tell_od a s w h hlen hput hp hd
      simpa [hp, hd] using this
  · by_cases hd : s.drop = 0
    · have := tell_po a s w h hlen hput hp hd
      simpa [hp, hd] using this
    · have := tell_pd a s w h hlen hput hp hd
      simpa [hp, hd] using this
end Go.Proofs.YtfedgjnhanlmeabGreatDoor
