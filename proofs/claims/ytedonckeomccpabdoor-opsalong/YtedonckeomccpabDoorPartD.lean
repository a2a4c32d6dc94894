/-
  Operations as lists: what a gathering keeps, and gap by gap: both come to the same least form.
  The closures of ops.gather: parts are added, told, and in the end there.
  ops.gather, and its closures tell, add and done, walked.
  ops.gather's add and done, and ops.isKeep, isDrop, isPut, walked.
  ops.Norm of any operation that is not too great: its least form.
  Lens, the program's and the document's; whether an operation is small; whether two are the same.
  The document's Spread: an operation as gaps.
  bridge.steps, and what it tells, by runes.
  The library's contract of utf8.ValidString, laid at this program.
  errors.As at a target of the project's own number type: an error number; an error at a place, which unwraps to its number; no error. Then api.Tell, plain.Place and the law's own 'is'.
  errors.As at the project's number type, walked.
  errors.As, api.Tell, plain.Place and the law's 'is': at no error, and at an error at a place.
  errors.As, api.Tell, plain.Place and the law's 'is' and 'bare' at an error that is a number.
-/
import Derived.Test.YtedonckeomccpabDoorProg
import Derived.Test.YtedonckeomccpabDoorPartA
import Derived.Lib.AppendStr
import Derived.Laws.OwnMore
import Derived.Maps.AppendAt
import Derived.Laws.EntriesVeiled
import Derived.Test.YtedonckeomccpabDoorPartC
import Derived.Shelf.Unicode.ValidAny
import Derived.WalkKit
import Derived.WalkSpells
import Derived.WalkLawsBesides
import Derived.LaidEql
import Derived.Stop.Asserts
import Derived.RowKitTokens
import Derived.Deep.QuietTactic
import Derived.BigQuiet
namespace Go.Proofs.YtedonckeomccpabDoor

/-- A part of an operation. -/
structure Pt where
  keep : Int
  drop : Int
  put : List UInt8
deriving DecidableEq

/-- What a gathering keeps: what it told, what is put and dropped since. -/
structure NSt where
  out : List Pt
  put : List UInt8
  drop : Int
deriving DecidableEq

def tellP (s : NSt) : List Pt := s.out ++ ((if s.put = [] then [] else [⟨0, 0, s.put⟩]) ++ (if s.drop = 0 then [] else [⟨0, s.drop, []⟩]))
def lastKeeps (l : List Pt) : Bool := match l.getLast? with
  | some p => decide (0 < p.keep)
  | none => false
def pushKeep (l : List Pt) (k : Int) : List Pt := match l.getLast? with
  | some p => if 0 < p.keep then l.dropLast ++ [⟨p.keep + k, p.drop, p.put⟩] else l ++ [⟨k, 0, []⟩]
  | none => l ++ [⟨k, 0, []⟩]
def addP (s : NSt) (p : Pt) : NSt := if p.keep = 0 then ⟨s.out, s.put ++ p.put, s.drop + p.drop⟩ else ⟨pushKeep (tellP ⟨s.out, s.put ++ p.put, s.drop + p.drop⟩) p.keep, [], 0⟩
def nst0 : NSt := ⟨[], [], 0⟩
def normP (op : List Pt) : List Pt := tellP (op.foldl addP nst0)

theorem pushKeep_more (l : List Pt) (a b : Int) (ha : 0 < a) : pushKeep (pushKeep l a) b = pushKeep l (a + b) := by
  unfold pushKeep
  cases h : l.getLast? with
  | none => simp [ha]
  | some p =>
    by_cases hp : 0 < p.keep
    · have h2 : 0 < p.keep + a := by omega
      simp [hp, h2, Int.add_assoc]
    · simp [hp, ha]

theorem tellP_done (l : List Pt) : tellP ⟨l, [], 0⟩ = l := by simp [tellP]
theorem addP_none (s : NSt) : addP s ⟨0, 0, []⟩ = s := by simp [addP]
theorem addP_split (s : NSt) (k d : Int) (q : List UInt8) : addP s ⟨k, d, q⟩ = addP (addP (addP s ⟨0, 0, q⟩) ⟨0, d, []⟩) ⟨k, 0, []⟩ := by
  by_cases h : k = 0
  · subst h; simp [addP]
  · simp [addP, h]
theorem addP_drops (s : NSt) (a b : Int) : addP (addP s ⟨0, a, []⟩) ⟨0, b, []⟩ = addP s ⟨0, a + b, []⟩ := by simp [addP, Int.add_assoc]
theorem addP_puts (s : NSt) (a b : List UInt8) : addP (addP s ⟨0, 0, a⟩) ⟨0, 0, b⟩ = addP s ⟨0, 0, a ++ b⟩ := by simp [addP]
theorem addP_keeps (s : NSt) (a b : Int) (ha : 0 < a) (hb : 0 ≤ b) : addP (addP s ⟨a, 0, []⟩) ⟨b, 0, []⟩ = addP s ⟨a + b, 0, []⟩ := by
  have h1 : a ≠ 0 := by omega
  have h2 : a + b ≠ 0 := by omega
  by_cases h : b = 0
  · subst h; simp [addP, h1]
  · simp [addP, h, h1, h2, tellP_done, pushKeep_more _ a b ha]

/-- One byte of the text: dropped, or kept. -/
def unitP (d : Bool) : Pt := if d then ⟨0, 1, []⟩ else ⟨1, 0, []⟩

/-- Gaps so far: what is put ahead of each byte, and whether it is dropped; and what is put behind them. -/
abbrev GSt := List (List UInt8 × Bool) × List UInt8
def tick (d : Bool) (g : GSt) : GSt := (g.1 ++ [(g.2, d)], [])
def ticks (d : Bool) : Nat → GSt → GSt
  | 0, g => g
  | n + 1, g => ticks d n (tick d g)
def spreadP (g : GSt) (p : Pt) : GSt := ticks false p.keep.toNat (ticks true p.drop.toNat (g.1, g.2 ++ p.put))
def spreads (op : List Pt) : GSt := op.foldl spreadP ([], [])

theorem ticks_len (d : Bool) : ∀ (n : Nat) (g : GSt), (ticks d n g).1.length = g.1.length + n
  | 0, _ => rfl
  | n + 1, g => by rw [ticks, ticks_len d n, tick, List.length_append, List.length_singleton]; omega
theorem ticks_more (d : Bool) : ∀ (n : Nat) (g : GSt), ticks d (n + 1) g = tick d (ticks d n g)
  | 0, _ => rfl
  | n + 1, g => by rw [ticks, ticks_more d n, ticks]
def lenP (p : Pt) : Int := p.keep + p.drop
theorem spreadP_len (g : GSt) (p : Pt) (hk : 0 ≤ p.keep) (hd : 0 ≤ p.drop) : ((spreadP g p).1.length : Int) = g.1.length + lenP p := by
  unfold spreadP lenP
  rw [ticks_len, ticks_len]
  show ((g.1.length + _ + _ : Nat) : Int) = _
  omega

def gapAdd (s : NSt) (x : List UInt8 × Bool) : NSt := addP (addP s ⟨0, 0, x.1⟩) (unitP x.2)
def runG (g : GSt) : NSt := addP (g.1.foldl gapAdd nst0) ⟨0, 0, g.2⟩
theorem runG_tick (d : Bool) (g : GSt) : runG (tick d g) = addP (runG g) (unitP d) := by
  unfold runG tick
  rw [List.foldl_append]
  show addP (gapAdd _ _) ⟨0, 0, []⟩ = _
  rw [addP_none]
  rfl
theorem runG_drops : ∀ (n : Nat) (g : GSt), runG (ticks true n g) = addP (runG g) ⟨0, n, []⟩
  | 0, g => (addP_none _).symm
  | n + 1, g => by
    rw [ticks, runG_drops n, runG_tick]
    show addP (addP _ ⟨0, 1, []⟩) _ = _
    rw [addP_drops]
    congr 2
    omega
theorem runG_keeps : ∀ (n : Nat) (g : GSt), runG (ticks false n g) = addP (runG g) ⟨n, 0, []⟩
  | 0, g => (addP_none _).symm
  | n + 1, g => by
    rw [ticks, runG_keeps n, runG_tick]
    show addP (addP _ ⟨1, 0, []⟩) _ = _
    rw [addP_keeps _ _ _ (by omega) (by omega)]
    congr 2
    omega
theorem runG_spread (g : GSt) (p : Pt) (hk : 0 ≤ p.keep) (hd : 0 ≤ p.drop) : runG (spreadP g p) = addP (runG g) p := by
  obtain ⟨k, d, q⟩ := p
  unfold spreadP
  rw [runG_keeps, runG_drops]
  have : runG (g.1, g.2 ++ q) = addP (runG g) ⟨0, 0, q⟩ := by unfold runG; rw [addP_puts]
  rw [this, addP_split _ k d q]
  show addP (addP _ ⟨0, (d.toNat : Int), []⟩) ⟨(k.toNat : Int), 0, []⟩ = _
  rw [Int.toNat_of_nonneg hk, Int.toNat_of_nonneg hd]
theorem runG_spreads (op : List Pt) (h : ∀ p ∈ op, 0 ≤ p.keep ∧ 0 ≤ p.drop) : runG (spreads op) = op.foldl addP nst0 := by
  have key : ∀ (l : List Pt) (g : GSt), (∀ p ∈ l, 0 ≤ p.keep ∧ 0 ≤ p.drop) → runG (l.foldl spreadP g) = l.foldl addP (runG g) := by
    intro l
    induction l with
    | nil => intros; rfl
    | cons p l ih =>
      intro g h
      rw [List.foldl_cons, List.foldl_cons, ih _ fun x hx => h x (List.mem_cons_of_mem _ hx), runG_spread g p (h p (List.mem_cons_self ..)).1 (h p (List.mem_cons_self ..)).2]
  exact key op _ h

/-- What the document's own gathering keeps. -/
structure KSt where
  out : List Pt
  put : List UInt8
  drop : Int
  keep : Int
deriving DecidableEq
def kst0 : KSt := ⟨[], [], 0, 0⟩
/-- What is put at a gap, or that a byte behind it is dropped: what was kept is told. -/
def flushK (s : KSt) (q : List UInt8) (d : Bool) : KSt := if q ≠ [] ∨ d = true then ⟨if 0 < s.keep then s.out ++ [⟨s.keep, 0, []⟩] else s.out, s.put ++ q, s.drop, if 0 < s.keep then 0 else s.keep⟩ else s
def byteK (s : KSt) (d : Bool) : KSt := if d then ⟨s.out, s.put, s.drop + 1, s.keep⟩ else ⟨tellP ⟨s.out, s.put, s.drop⟩, [], 0, s.keep + 1⟩
def stepK (s : KSt) (x : List UInt8 × Bool) : KSt := byteK (flushK s x.1 x.2) x.2
def endK (s : KSt) : List Pt := tellP ⟨if 0 < s.keep then s.out ++ [⟨s.keep, 0, []⟩] else s.out, s.put, s.drop⟩
def gatherP (g : GSt) : List Pt := endK (flushK (g.1.foldl stepK kst0) g.2 false)

def nfK (s : KSt) : NSt := if 0 < s.keep then ⟨s.out ++ [⟨s.keep, 0, []⟩], [], 0⟩ else ⟨s.out, s.put, s.drop⟩
structure InvK (s : KSt) : Prop where
  k0 : 0 ≤ s.keep
  d0 : 0 ≤ s.drop
  quiet : 0 < s.keep → s.put = [] ∧ s.drop = 0 ∧ lastKeeps s.out = false
  last : s.keep = 0 → lastKeeps (tellP ⟨s.out, s.put, s.drop⟩) = false

theorem lastKeeps_snoc (l : List Pt) (p : Pt) : lastKeeps (l ++ [p]) = decide (0 < p.keep) := by simp [lastKeeps]
theorem pushKeep_new (l : List Pt) (k : Int) (h : lastKeeps l = false) : pushKeep l k = l ++ [⟨k, 0, []⟩] := by
  unfold lastKeeps at h
  unfold pushKeep
  cases hl : l.getLast? with
  | none => rfl
  | some p => simp only [hl, decide_eq_false_iff_not] at h; simp [h]
theorem pushKeep_snoc (l : List Pt) (a k : Int) (h : 0 < a) : pushKeep (l ++ [⟨a, 0, []⟩]) k = l ++ [⟨a + k, 0, []⟩] := by simp [pushKeep, h]
theorem lastKeeps_tell (l : List Pt) (q : List UInt8) (d : Int) (h : q ≠ [] ∨ d ≠ 0) : lastKeeps (tellP ⟨l, q, d⟩) = false := by
  unfold tellP
  by_cases hd : d = 0
  · have hq : q ≠ [] := by rcases h with h | h; exact h; exact absurd hd h
    simp [hd, hq, lastKeeps]
  · by_cases hq : q = []
    · simp [hd, hq, lastKeeps]
    · simp [hd, hq, lastKeeps]

theorem step_flush (s : KSt) (h : InvK s) (q : List UInt8) (d : Bool) : nfK (flushK s q d) = addP (nfK s) ⟨0, 0, q⟩ ∧ (q ≠ [] ∨ d = true → (flushK s q d).keep = 0) ∧ (¬ (q ≠ [] ∨ d = true) → flushK s q d = s) ∧ 0 ≤ (flushK s q d).drop := by
  unfold flushK
  have h0 := h.k0
  have hd0 := h.d0
  by_cases hc : q ≠ [] ∨ d = true
  · rw [if_pos hc]
    refine ⟨?_, ?_, fun h => absurd hc h, ?_⟩
    · by_cases hk : 0 < s.keep
      · obtain ⟨q1, q2, _⟩ := h.quiet hk
        simp [hk, nfK, addP, q1, q2]
      · have : s.keep = 0 := by omega
        simp [this, nfK, addP]
    · intro _
      by_cases hk : 0 < s.keep
      · simp [hk]
      · have : s.keep = 0 := by omega
        simp [this]
    · exact hd0
  · rw [if_neg hc]
    have hq : q = [] := by
      by_cases hq : q = []
      · exact hq
      · exact absurd (.inl hq) hc
    subst hq
    exact ⟨by simp [addP], fun h => absurd h hc, fun _ => rfl, hd0⟩

theorem step_any (s : KSt) (h : InvK s) (x : List UInt8 × Bool) : nfK (stepK s x) = gapAdd (nfK s) x ∧ InvK (stepK s x) := by
  obtain ⟨q, d⟩ := x
  obtain ⟨f1, f2, f3, f4⟩ := step_flush s h q d
  unfold gapAdd stepK
  show nfK (byteK (flushK s q d) d) = addP (addP (nfK s) ⟨0, 0, q⟩) (unitP d) ∧ InvK (byteK (flushK s q d) d)
  rw [← f1]
  generalize hs' : flushK s q d = t at *
  cases d with
  | true =>
    have hk := f2 (.inr rfl)
    have hne : t.drop + 1 ≠ 0 := by omega
    refine ⟨?_, ?_, ?_, ?_, ?_⟩
    · simp [byteK, nfK, hk, unitP, addP]
    · simp [byteK, hk]
    · simp [byteK]; omega
    · simp [byteK, hk]
    · intro _
      exact lastKeeps_tell _ _ _ (.inr hne)
  | false =>
    by_cases hq : q ≠ []
    · have hk := f2 (.inl hq)
      have hl : lastKeeps (tellP ⟨t.out, t.put, t.drop⟩) = false := by
        refine lastKeeps_tell _ _ _ (.inl ?_)
        rw [← hs']
        simp [flushK, hq]
      refine ⟨?_, ?_, ?_, ?_, ?_⟩
      · simp [byteK, nfK, hk, unitP, addP, pushKeep_new _ _ hl]
      · simp [byteK, hk]
      · simp [byteK]
      · intro _; exact ⟨rfl, rfl, hl⟩
      · simp [byteK, hk]
    · obtain rfl := f3 (by simpa using hq)
      have h0 := h.k0
      by_cases hk : 0 < t.keep
      · obtain ⟨q1, q2, q3⟩ := h.quiet hk
        refine ⟨?_, ?_, ?_, ?_, ?_⟩
        · simp [byteK, nfK, hk, unitP, addP, q1, q2, tellP_done, pushKeep_snoc _ _ _ hk]
          omega
        · simp [byteK]; omega
        · simp [byteK]
        · intro _
          refine ⟨rfl, rfl, ?_⟩
          show lastKeeps (tellP ⟨t.out, t.put, t.drop⟩) = false
          rw [q1, q2, tellP_done]; exact q3
        · simp [byteK]; omega
      · have hk0 : t.keep = 0 := by omega
        have hl := h.last hk0
        refine ⟨?_, ?_, ?_, ?_, ?_⟩
        · simp [byteK, nfK, hk0, unitP, addP, pushKeep_new _ _ hl]
        · simp [byteK, hk0]
        · simp [byteK]
        · intro _; exact ⟨rfl, rfl, hl⟩
        · simp [byteK, hk0]

theorem inv0 : InvK kst0 := ⟨by simp [kst0], by simp [kst0], by simp [kst0], by simp [kst0, tellP, lastKeeps]⟩
theorem steps_any (l : List (List UInt8 × Bool)) : ∀ (s : KSt), InvK s → nfK (l.foldl stepK s) = l.foldl gapAdd (nfK s) ∧ InvK (l.foldl stepK s) := by
  induction l with
  | nil => exact fun s h => ⟨rfl, h⟩
  | cons x l ih =>
    intro s h
    obtain ⟨h1, h2⟩ := step_any s h x
    rw [List.foldl_cons, List.foldl_cons, ← h1]
    exact ih _ h2
theorem endK_nf (s : KSt) (h : 0 < s.keep → s.put = [] ∧ s.drop = 0) : endK s = tellP (nfK s) := by
  unfold endK nfK
  by_cases hk : 0 < s.keep
  · obtain ⟨h1, h2⟩ := h hk
    simp [hk, h1, h2]
  · simp [hk]

/-- Gap by gap, or part by part: the same least form. -/
theorem gather_norm (op : List Pt) (h : ∀ p ∈ op, 0 ≤ p.keep ∧ 0 ≤ p.drop) : gatherP (spreads op) = normP op := by
  unfold gatherP normP
  obtain ⟨h1, h2⟩ := steps_any (spreads op).1 kst0 inv0
  obtain ⟨f1, f2, f3, f4⟩ := step_flush _ h2 (spreads op).2 false
  rw [endK_nf, f1, h1, ← runG_spreads op h]
  · rfl
  · intro hk
    by_cases hq : (spreads op).2 ≠ [] ∨ false = true
    · rw [f2 hq] at hk; omega
    · rw [f3 hq] at hk ⊢
      exact ⟨(h2.quiet hk).1, (h2.quiet hk).2.1⟩
end Go.Proofs.YtedonckeomccpabDoor

namespace Go.Proofs.YtedonckeomccpabDoor
open Go.RowKit
set_option linter.unusedVariables false

/-- A part's cells, an operation's cells. -/
def partCells (p : Pt) : List Value := [.int .i64 p.keep, .int .i64 p.drop, .string ⟨p.put.toArray⟩]
def cellsP (l : List Pt) : List Value := l.flatMap partCells
theorem cellsP_snoc (l : List Pt) (p : Pt) : cellsP (l ++ [p]) = cellsP l ++ partCells p := by simp [cellsP]
theorem cellsP_len (l : List Pt) : (cellsP l).length = l.length * 3 := by
  induction l with
  | nil => rfl
  | cons p l ih =>
    have : cellsP (p :: l) = partCells p ++ cellsP l := rfl
    rw [this, List.length_append, ih, List.length_cons]
    show 3 + _ = _
    omega
theorem partCells_one (p : Pt) : ∀ u ∈ partCells p, u.oneCell' = true := by
  intro u hu
  simp only [partCells, List.mem_cons, List.not_mem_nil, or_false] at hu
  rcases hu with rfl | rfl | rfl <;> rfl
theorem cells_new (w : World) (l : List Value) (t : TypeId) : ∀ j u, l[j]? = some u → (w.alloc (.cells l.toArray t)).cell? ((⟨w.heap.size, 0, none⟩ : Addr).add j) = some u := by
  intro j u hj
  obtain ⟨hl, rfl⟩ := List.getElem?_eq_some_iff.1 hj
  rw [Addr.add_lit, Nat.zero_add]
  simp

theorem cells_new_set (w : World) (a : Addr) (x : Value) (l : List Value) (t : TypeId) : ∀ j u, l[j]? = some u → ((w.setCell a x).alloc (.cells l.toArray t)).cell? ((⟨w.heap.size, 0, none⟩ : Addr).add j) = some u := by
  have h := cells_new (w.setCell a x) l t
  rwa [show (w.setCell a x).heap.size = w.heap.size by simp] at h

theorem info_part : (Tryd.prog.info? 40).map (fun i => (i.zero, i.size, i.bytes)) = some (some (.agg #[.int .i64 0, .int .i64 0, .string ⟨#[]⟩]), 3, 32) := by kernel_rfl
theorem info_u8 : (Tryd.prog.info? 5).map (fun i => (i.zero, i.size, i.bytes)) = some (some (.int .u8 0), 1, 1) := by kernel_rfl

/-- Two rows of cells of different types are different rows. -/
theorem own_ne {w : World} {B B' e e' size size' n n' : Nat} {v v' : Value} {xs xs' : List Value} (h : w.ownsRow B e size v n xs) (h' : w.ownsRow B' e' size' v' n' xs') (hne : e ≠ e') : v.ownBlock = none ∨ v.ownBlock ≠ v'.ownBlock := by
  rcases h.2 with ⟨rfl, _⟩ | ⟨g, cap, cur, rfl, _, hg, _⟩
  · exact .inl rfl
  · rcases h'.2 with ⟨rfl, _⟩ | ⟨g', cap', cur', rfl, _, hg', _⟩
    · exact .inr (by simp [Value.ownBlock])
    · refine .inr fun e => ?_
      simp only [Value.ownBlock, Option.some.injEq] at e
      subst e
      rw [hg] at hg'
      simp only [Option.some.injEq, Obj.cells.injEq] at hg'
      exact hne hg'.2.1

/-- The variables of a gathering: op in block a, put, drop and tell behind it; what op and put hold lies at M or behind it. -/
structure gath (M : Nat) (w : World) (a : Nat) (s : NSt) : Prop where
  out : ∃ p c, w.cell? ⟨a, 0, none⟩ = some (.slice p s.out.length c) ∧ w.ownsRow M 40 3 (.slice p s.out.length c) s.out.length (cellsP s.out)
  outF : w.frozen? ⟨a, 0, none⟩ = false
  put : ∃ p c, w.cell? ⟨a + 1, 0, none⟩ = some (.slice p s.put.length c) ∧ w.ownsRow M 5 1 (.slice p s.put.length c) s.put.length (Lib.byteCells s.put)
  putF : w.frozen? ⟨a + 1, 0, none⟩ = false
  drop : w.cell? ⟨a + 2, 0, none⟩ = some (.int .i64 s.drop)
  dropF : w.frozen? ⟨a + 2, 0, none⟩ = false
  tell : w.cell? ⟨a + 3, 0, none⟩ = some (.func (.func 39) #[] #[.pointer (some ⟨a + 1, 0, none⟩), .pointer (some ⟨a, 0, none⟩), .pointer (some ⟨a + 2, 0, none⟩)])
  le : a + 4 ≤ M
  top : M ≤ w.heap.size

/-- Every block but a, a + 1, a + 2 that is no row of bytes or of parts, at M or behind it, stands. -/
def KeptG (M a : Nat) (w w' : World) : Prop := ∀ k o, w.heap[k]? = some o → k ≠ a → k ≠ a + 1 → k ≠ a + 2 → (∀ c fz, M ≤ k → o ≠ .cells c 5 fz) → (∀ c fz, M ≤ k → o ≠ .cells c 40 fz) → w'.heap[k]? = some o
structure BelowG (M a : Nat) (w w' : World) : Prop where
  below : Below a w w'
  kept : KeptG M a w w'
theorem heap_lt {w : World} {k : Nat} {o : Obj} (h : w.heap[k]? = some o) : k < w.heap.size := by
  rcases Nat.lt_or_ge k w.heap.size with h' | h'
  · exact h'
  · rw [Array.getElem?_eq_none h'] at h; cases h
theorem KeptG.refl (M a : Nat) (w : World) : KeptG M a w w := fun _ _ h _ _ _ _ _ => h
theorem KeptG.trans {M : Nat} {a : Nat} {x y z : World} (h : KeptG M a x y) (k : KeptG M a y z) : KeptG M a x z := fun i o hi h1 h2 h3 h4 h5 => k i o (h i o hi h1 h2 h3 h4 h5) h1 h2 h3 h4 h5
theorem KeptG.of {M : Nat} {a : Nat} {w w' : World} (h : Below w.heap.size w w') : KeptG M a w w' := fun k o hk _ _ _ _ _ => (h.block k (heap_lt hk)).trans hk
theorem KeptG.alloc {M : Nat} {a : Nat} {w w' : World} (h : KeptG M a w w') (o : Obj) : KeptG M a w (w'.alloc o) := h.trans fun k o' hk _ _ _ _ _ => (heap_alloc_old w' o (heap_lt hk)).trans hk
theorem KeptG.set {M : Nat} {a : Nat} {w w' : World} (h : KeptG M a w w') {b : Nat} (hb : b = a ∨ b = a + 1 ∨ b = a + 2) (v : Value) : KeptG M a w (w'.setCell ⟨b, 0, none⟩ v) :=
  h.trans fun k o' hk h1 h2 h3 _ _ => (Below.heap_setCell _ _ _ _ (by show k ≠ b; omega)).trans hk
theorem KeptG.grown {M : Nat} {a e size n : Nat} {v : Value} {xs : List Value} {w w1 w2 : World} (h : KeptG M a w w1) (hr : w1.ownsRow M e size v n xs) (he : e = 5 ∨ e = 40) (hg : w1.grownBy w2 v.ownBlock) : KeptG M a w w2 := by
  refine h.trans fun k o hk _ _ _ h4 h5 => ?_
  refine (hg.block k (heap_lt hk) ?_).trans hk
  intro e'
  obtain ⟨_, hrow⟩ := hr
  rcases hrow with ⟨hx, _⟩ | ⟨g, cap, cur, rfl, hge, hgg, _⟩
  · rw [hx] at e'; cases e'
  · have e2 : some k = some g := e'
    obtain rfl := Option.some.inj e2
    rw [hk] at hgg
    rcases he with rfl | rfl
    · exact h4 _ _ hge (Option.some.inj hgg)
    · exact h5 _ _ hge (Option.some.inj hgg)
theorem BelowG.size {M : Nat} {a : Nat} {w w' : World} (h : BelowG M a w w') : w.heap.size ≤ w'.heap.size := h.below.size
theorem BelowG.refl {M : Nat} (a : Nat) (w : World) : BelowG M a w w := ⟨.refl a w, .refl M a w⟩
theorem BelowG.trans {M : Nat} {a : Nat} {x y z : World} (h : BelowG M a x y) (k : BelowG M a y z) : BelowG M a x z := ⟨h.below.trans k.below, h.kept.trans k.kept⟩
theorem BelowG.of {M : Nat} {a : Nat} {w w' : World} (h : Below w.heap.size w w') (ha : a ≤ w.heap.size) : BelowG M a w w' := ⟨h.mono ha, .of h⟩
theorem BelowG.drew {M : Nat} {a : Nat} {w w' : World} (h : BelowG M a w w') : BelowG M a w w'.drew := ⟨h.below.drew, h.kept⟩

theorem gath_lt {M : Nat} {w : World} {a : Nat} {s : NSt} (h : gath M w a s) : a + 3 < w.heap.size := World.block_lt_of_cell? w _ h.tell

theorem gath_below {M : Nat} {w w' : World} {a : Nat} {s : NSt} (h : gath M w a s) (hb : Below w.heap.size w w') : gath M w' a s := by
  have hM := h.le
  have hT := h.top
  have hlt := gath_lt h
  obtain ⟨⟨p, c, h1, h2⟩, h3, ⟨p', c', h4, h5⟩, h6, h7, h8, h9⟩ := h
  exact ⟨⟨p, c, (hb.cell (p := ⟨a, 0, none⟩) (by show a < _; omega)).trans h1, own_below h2 hb⟩, (hb.frozen (p := ⟨a, 0, none⟩) (by show a < _; omega)).trans h3,
    ⟨p', c', (hb.cell (p := ⟨a + 1, 0, none⟩) (by show a + 1 < _; omega)).trans h4, own_below h5 hb⟩, (hb.frozen (p := ⟨a + 1, 0, none⟩) (by show a + 1 < _; omega)).trans h6,
    (hb.cell (p := ⟨a + 2, 0, none⟩) (by show a + 2 < _; omega)).trans h7, (hb.frozen (p := ⟨a + 2, 0, none⟩) (by show a + 2 < _; omega)).trans h8, (hb.cell (p := ⟨a + 3, 0, none⟩) (by show a + 3 < _; omega)).trans h9, hM, Nat.le_trans hT hb.size⟩

/-- A row beside a box that is written. -/
theorem own_set {w : World} {B e size n b : Nat} {v : Value} {xs : List Value} (h : w.ownsRow B e size v n xs) (hb : b < B) (u : Value) : (w.setCell ⟨b, 0, none⟩ u).ownsRow B e size v n xs := by
  obtain ⟨h0, hrow⟩ := h
  refine ⟨h0, ?_⟩
  rcases hrow with hn | ⟨g, cap, cur, rfl, hg, hgg, rest⟩
  · exact .inl hn
  · exact .inr ⟨g, cap, cur, rfl, hg, (Below.heap_setCell _ _ _ _ (by show g ≠ b; omega)).trans hgg, rest⟩

theorem cell_set_ne {w : World} {b b' o : Nat} (h : b' ≠ b) (u : Value) : (w.setCell ⟨b, 0, none⟩ u).cell? ⟨b', o, none⟩ = w.cell? ⟨b', o, none⟩ := by
  unfold World.cell?
  rw [Below.heap_setCell _ _ _ _ (by show b' ≠ b; exact h)]

/-- A block behind the variables that is not the row of op's. -/
def spare (w : World) (a b : Nat) : Prop := b < w.heap.size ∧ a + 3 < b ∧ ∀ v, w.cell? ⟨a, 0, none⟩ = some v → v.ownBlock ≠ some b

/-- Behind an append to op: the blocks beside it. -/
theorem push_spare {w w1 : World} {a b : Nat} {v v' : Value} {o : Obj} (hc : w.cell? ⟨a, 0, none⟩ = some v) (hc1 : (w1.cell? ⟨a, 0, none⟩).isSome = true) (hg : (w.alloc o).grownBy w1 v.ownBlock) (hat : v'.ownBlock = v.ownBlock ∨ ∃ k, v'.ownBlock = some k ∧ w.heap.size ≤ k) (h : spare w a b) :
    spare (w1.setCell ⟨a, 0, none⟩ v') a b ∧ (w1.setCell ⟨a, 0, none⟩ v').heap[b]? = w.heap[b]? := by
  obtain ⟨h1, h2, h3⟩ := h
  have hne := h3 v hc
  have hs := hg.size
  rw [World.size_alloc] at hs
  refine ⟨⟨by simp; omega, h2, ?_⟩, ?_⟩
  · intro u hu
    obtain ⟨v0, hv0⟩ := Option.isSome_iff_exists.1 hc1
    rw [World.cell?_setCell_same _ _ _ hv0] at hu
    obtain rfl := Option.some.inj hu
    rcases hat with e | ⟨k, e, hk⟩
    · rw [e]; exact hne
    · rw [e]
      intro e
      have := Option.some.inj e
      omega
  · rw [Below.heap_setCell _ _ _ _ (by show b ≠ a; omega), hg.block b (by rw [World.size_alloc]; omega) (fun e => hne e.symm)]
    exact heap_alloc_old w o h1

theorem set_spare {w : World} {a b c : Nat} (h : spare w a b) (hc : c ≠ a) (hb : c ≠ b) (u : Value) : spare (w.setCell ⟨c, 0, none⟩ u) a b ∧ (w.setCell ⟨c, 0, none⟩ u).heap[b]? = w.heap[b]? := by
  obtain ⟨h1, h2, h3⟩ := h
  refine ⟨⟨by simpa using h1, h2, fun v hv => h3 v ?_⟩, Below.heap_setCell _ _ _ _ (by show b ≠ c; omega)⟩
  rwa [cell_set_ne (by omega)] at hv

/-- Behind an append to op, and its store. -/
theorem gath_push {M : Nat} {w w1 : World} {a : Nat} {s : NSt} {p : Option Addr} {c : Nat} {o : Obj} {v' : Value} {q : Pt} (h : gath M w a s) (hc : w.cell? ⟨a, 0, none⟩ = some (.slice p s.out.length c))
    (hown1 : w1.ownsRow M 40 3 v' (s.out.length + 1) (cellsP s.out ++ partCells q)) (hg : (w.alloc o).grownBy w1 (Value.slice p s.out.length c).ownBlock) :
    gath M (w1.setCell ⟨a, 0, none⟩ v') a ⟨s.out ++ [q], s.put, s.drop⟩ ∧ BelowG M a w (w1.setCell ⟨a, 0, none⟩ v') ∧ w1.cell? ⟨a, 0, none⟩ = some (.slice p s.out.length c) ∧ w1.frozen? ⟨a, 0, none⟩ = false := by
  have hM := h.le
  have hT := h.top
  have hlt := gath_lt h
  obtain ⟨⟨p1, c1, h1, h2⟩, h3, ⟨p', c', h4, h5⟩, h6, h7, h8, h9⟩ := h
  rw [hc] at h1
  simp only [Option.some.injEq, Value.slice.injEq, true_and] at h1
  obtain ⟨rfl, rfl⟩ := h1
  have hrow : ∀ k, (Value.slice p s.out.length c).ownBlock = some k → a + 4 ≤ k := fun k hk => Nat.le_trans hM (h2.lt k hk).1
  have hb1 : Below (a + 4) w w1 := ((Below.refl (a + 4) w).alloc (by omega) o).grown hg (by rw [World.size_alloc]; omega) hrow
  have hc1 : w1.cell? ⟨a, 0, none⟩ = some (.slice p s.out.length c) := by rw [hb1.cell (p := ⟨a, 0, none⟩) (by show a < _; omega)]; exact hc
  have hf1 : w1.frozen? ⟨a, 0, none⟩ = false := by rw [hb1.frozen (p := ⟨a, 0, none⟩) (by show a < _; omega)]; exact h3
  have h5' := (h5.alloc o).kept hg (own_ne (h5.alloc o) (h2.alloc o) (by decide))
  obtain ⟨pv, cv, rfl⟩ := own_slice hown1
  refine ⟨⟨⟨pv, cv, ?_, ?_⟩, ?_, ⟨p', c', ?_, ?_⟩, ?_, ?_, ?_, ?_, hM, (by have := hb1.size; simp; omega)⟩, ⟨(hb1.mono (show a ≤ a + 4 by omega)).setCell (Nat.le_refl _) _, (((KeptG.refl M a w).alloc o).grown (h2.alloc o) (.inr rfl) hg).set (.inl rfl) _⟩, hc1, hf1⟩
  · show _ = some (Value.slice pv (s.out ++ [q]).length cv)
    rw [List.length_append]; exact World.cell?_setCell_same _ _ _ hc1
  · show World.ownsRow _ _ _ _ (.slice pv (s.out ++ [q]).length cv) (s.out ++ [q]).length (cellsP (s.out ++ [q]))
    rw [List.length_append, cellsP_snoc]; exact own_set hown1 (by omega) _
  · rw [World.frozen?_setCell]; exact hf1
  · rw [cell_set_ne (by omega)]; exact (hb1.cell (p := ⟨a + 1, 0, none⟩) (by show a + 1 < _; omega)).trans h4
  · exact own_set h5' (by omega) _
  · rw [World.frozen?_setCell]; exact (hb1.frozen (p := ⟨a + 1, 0, none⟩) (by show a + 1 < _; omega)).trans h6
  · rw [cell_set_ne (by omega)]; exact (hb1.cell (p := ⟨a + 2, 0, none⟩) (by show a + 2 < _; omega)).trans h7
  · rw [World.frozen?_setCell]; exact (hb1.frozen (p := ⟨a + 2, 0, none⟩) (by show a + 2 < _; omega)).trans h8
  · rw [cell_set_ne (by omega)]; exact (hb1.cell (p := ⟨a + 3, 0, none⟩) (by show a + 3 < _; omega)).trans h9

/-- Behind an append to put, and its store. -/
theorem gath_puts {M : Nat} {w w1 : World} {a : Nat} {s : NSt} {p : Option Addr} {c : Nat} {v' : Value} {q : List UInt8} (h : gath M w a s) (hc : w.cell? ⟨a + 1, 0, none⟩ = some (.slice p s.put.length c))
    (hown1 : w1.ownsRow M 5 1 v' (s.put.length + q.length) (Lib.byteCells s.put ++ Lib.byteCells q)) (hg : w.grownBy w1 (Value.slice p s.put.length c).ownBlock) :
    gath M (w1.setCell ⟨a + 1, 0, none⟩ v') a ⟨s.out, s.put ++ q, s.drop⟩ ∧ BelowG M a w (w1.setCell ⟨a + 1, 0, none⟩ v') ∧ w1.cell? ⟨a + 1, 0, none⟩ = some (.slice p s.put.length c) ∧ w1.frozen? ⟨a + 1, 0, none⟩ = false := by
  have hM := h.le
  have hT := h.top
  have hlt := gath_lt h
  obtain ⟨⟨p', c', h4, h5⟩, h6, ⟨p1, c1, h1, h2⟩, h3, h7, h8, h9⟩ := h
  rw [hc] at h1
  simp only [Option.some.injEq, Value.slice.injEq, true_and] at h1
  obtain ⟨rfl, rfl⟩ := h1
  have hrow : ∀ k, (Value.slice p s.put.length c).ownBlock = some k → a + 4 ≤ k := fun k hk => Nat.le_trans hM (h2.lt k hk).1
  have hb1 : Below (a + 4) w w1 := (Below.refl (a + 4) w).grown hg (by omega) hrow
  have hc1 : w1.cell? ⟨a + 1, 0, none⟩ = some (.slice p s.put.length c) := by rw [hb1.cell (p := ⟨a + 1, 0, none⟩) (by show a + 1 < _; omega)]; exact hc
  have hf1 : w1.frozen? ⟨a + 1, 0, none⟩ = false := by rw [hb1.frozen (p := ⟨a + 1, 0, none⟩) (by show a + 1 < _; omega)]; exact h3
  have h5' := h5.kept hg (own_ne h5 h2 (by decide))
  obtain ⟨pv, cv, rfl⟩ := own_slice hown1
  refine ⟨⟨⟨p', c', ?_, ?_⟩, ?_, ⟨pv, cv, ?_, ?_⟩, ?_, ?_, ?_, ?_, hM, (by have := hb1.size; simp; omega)⟩, ⟨(hb1.mono (show a ≤ a + 4 by omega)).setCell (by show a ≤ a + 1; omega) _, ((KeptG.refl M a w).grown h2 (.inl rfl) hg).set (.inr (.inl rfl)) _⟩, hc1, hf1⟩
  · rw [cell_set_ne (by omega)]; exact (hb1.cell (p := ⟨a, 0, none⟩) (by show a < _; omega)).trans h4
  · exact own_set h5' (by omega) _
  · rw [World.frozen?_setCell]; exact (hb1.frozen (p := ⟨a, 0, none⟩) (by show a < _; omega)).trans h6
  · show _ = some (Value.slice pv (s.put ++ q).length cv)
    rw [List.length_append]; exact World.cell?_setCell_same _ _ _ hc1
  · show World.ownsRow _ _ _ _ (.slice pv (s.put ++ q).length cv) (s.put ++ q).length (Lib.byteCells (s.put ++ q))
    rw [List.length_append, Lib.byteCells_append]; exact own_set hown1 (by omega) _
  · rw [World.frozen?_setCell]; exact hf1
  · rw [cell_set_ne (by omega)]; exact (hb1.cell (p := ⟨a + 2, 0, none⟩) (by show a + 2 < _; omega)).trans h7
  · rw [World.frozen?_setCell]; exact (hb1.frozen (p := ⟨a + 2, 0, none⟩) (by show a + 2 < _; omega)).trans h8
  · rw [cell_set_ne (by omega)]; exact (hb1.cell (p := ⟨a + 3, 0, none⟩) (by show a + 3 < _; omega)).trans h9

/-- Behind a store of drop. -/
theorem gath_drop {M : Nat} {w : World} {a : Nat} {s : NSt} (h : gath M w a s) (d : Int) : gath M (w.setCell ⟨a + 2, 0, none⟩ (.int .i64 d)) a ⟨s.out, s.put, d⟩ ∧ BelowG M a w (w.setCell ⟨a + 2, 0, none⟩ (.int .i64 d)) := by
  have hM := h.le
  have hT := h.top
  have hlt := gath_lt h
  obtain ⟨⟨p, c, h1, h2⟩, h3, ⟨p', c', h4, h5⟩, h6, h7, h8, h9⟩ := h
  refine ⟨⟨⟨p, c, ?_, own_set h2 (by omega) _⟩, ?_, ⟨p', c', ?_, own_set h5 (by omega) _⟩, ?_, World.cell?_setCell_same _ _ _ h7, ?_, ?_, hM, (by simp; omega)⟩, ⟨(Below.refl a w).setCell (by show a ≤ a + 2; omega) _, (KeptG.refl M a w).set (.inr (.inr rfl)) _⟩⟩
  · rw [cell_set_ne (by omega)]; exact h1
  · rw [World.frozen?_setCell]; exact h3
  · rw [cell_set_ne (by omega)]; exact h4
  · rw [World.frozen?_setCell]; exact h6
  · rw [World.frozen?_setCell]; exact h8
  · rw [cell_set_ne (by omega)]; exact h9

/-- Behind 'put = put[:0]'. -/
theorem gath_none {M : Nat} {w : World} {a : Nat} {s : NSt} {p : Option Addr} {c : Nat} (h : gath M w a s) (hc : w.cell? ⟨a + 1, 0, none⟩ = some (.slice p s.put.length c)) :
    gath M (w.setCell ⟨a + 1, 0, none⟩ (.slice p 0 c)) a ⟨s.out, [], s.drop⟩ ∧ BelowG M a w (w.setCell ⟨a + 1, 0, none⟩ (.slice p 0 c)) := by
  have hM := h.le
  have hT := h.top
  have hlt := gath_lt h
  obtain ⟨⟨p', c', h4, h5⟩, h6, ⟨p1, c1, h1, h2⟩, h3, h7, h8, h9⟩ := h
  have hc' := hc
  rw [hc] at h1
  simp only [Option.some.injEq, Value.slice.injEq, true_and] at h1
  obtain ⟨rfl, rfl⟩ := h1
  have h2' : w.ownsRow M 5 1 (.slice p 0 c) 0 [] := by
    obtain ⟨_, hrow⟩ := h2
    refine ⟨rfl, ?_⟩
    rcases hrow with ⟨hn, h0⟩ | ⟨g, cap, cur, hv, hg, hgg, hnc, rest⟩
    · simp only [Value.slice.injEq] at hn
      obtain ⟨rfl, _, rfl⟩ := hn
      exact .inl ⟨rfl, rfl⟩
    · simp only [Value.slice.injEq, true_and] at hv
      obtain ⟨rfl, rfl⟩ := hv
      exact .inr ⟨g, c, cur, rfl, hg, hgg, Nat.zero_le _, rest.1, rest.2.1, by simp⟩
  refine ⟨⟨⟨p', c', ?_, own_set h5 (by omega) _⟩, ?_, ⟨p, c, World.cell?_setCell_same _ _ _ hc', own_set h2' (by omega) _⟩, ?_, ?_, ?_, ?_, hM, (by simp; omega)⟩, ⟨(Below.refl a w).setCell (by show a ≤ a + 1; omega) _, (KeptG.refl M a w).set (.inr (.inl rfl)) _⟩⟩
  · rw [cell_set_ne (by omega)]; exact h4
  · rw [World.frozen?_setCell]; exact h6
  · rw [World.frozen?_setCell]; exact h3
  · rw [cell_set_ne (by omega)]; exact h7
  · rw [World.frozen?_setCell]; exact h8
  · rw [cell_set_ne (by omega)]; exact h9
end Go.Proofs.YtedonckeomccpabDoor

namespace Go.Proofs.YtedonckeomccpabDoor
open Go.RowKit
set_option linter.unusedVariables false

theorem gather_any (w : World) : Calls Tryd.prog 19 #[] w fun e w' => e = .returned (.tuple #[.func (.func 40) #[] #[.pointer (some ⟨w.heap.size + 1, 0, none⟩), .pointer (some ⟨w.heap.size + 2, 0, none⟩), .pointer (some ⟨w.heap.size + 3, 0, none⟩), .pointer (some ⟨w.heap.size, 0, none⟩)],
      .func (.func 41) #[] #[.pointer (some ⟨w.heap.size + 3, 0, none⟩), .pointer (some ⟨w.heap.size, 0, none⟩)]]) ∧ (∀ M w2, Below w'.heap.size w' w2 → w.heap.size + 4 ≤ M → M ≤ w2.heap.size → gath M w2 w.heap.size nst0) ∧ w'.heap.size = w.heap.size + 4 ∧ Below w.heap.size w w' := by
  go_enter Tryd.func19, Tryd.ntmps19
  go_wp2
  go_ret2
  refine ⟨rfl, fun M w2 hb hM hT => ?_, by simp [World.size_alloc], ?_⟩
  · have hs := hb.size
    simp only [World.size_alloc] at hs
    have hlt : ∀ k, k < 4 → w.heap.size + k < w.heap.size + 1 + 1 + 1 + 1 := fun k hk => by omega
    refine ⟨⟨none, 0, (hb.cell (by simp only [World.size_alloc]; omega)).trans (by simp [go_sem, nst0]), World.ownsRow_nil _ _ _ _⟩, (hb.frozen (by simp only [World.size_alloc]; omega)).trans (by simp [go_sem]), ⟨none, 0, (hb.cell (by simp only [World.size_alloc]; omega)).trans (by simp [go_sem, nst0]), World.ownsRow_nil _ _ _ _⟩, (hb.frozen (by simp only [World.size_alloc]; omega)).trans (by simp [go_sem]), (hb.cell (by simp only [World.size_alloc]; omega)).trans (by simp [go_sem, nst0]), (hb.frozen (by simp only [World.size_alloc]; omega)).trans (by simp [go_sem]), (hb.cell (by simp only [World.size_alloc]; omega)).trans (by simp [go_sem]), hM, hT⟩
  have b1 := (Below.refl w.heap.size w).alloc (Nat.le_refl _) (.cells #[.slice none 0 0] 23)
  have b2 := b1.alloc b1.size (.cells #[.slice none 0 0] 62)
  have b3 := b2.alloc b2.size (.cells #[.int .i64 0] 3)
  exact b3.alloc b3.size _

/-- What 'put[:0]' is. -/
theorem cut_none (p : Option Addr) (n c : Nat) (w : World) : (Instr.sliceAt 62 (.slice p n c) none (some (.int .i64 0)) none).run Tryd.prog w = .ok (.slice p 0 c) w := by
  have h : (if c = 0 then p else Option.map (fun x => x.add 0) p) = p := by
    cases p <;> simp [Addr.add]
  have := run_sliceAt_slice (P := Tryd.prog) w 62 (.slice p n c) none (some (.int .i64 0)) none (by kernel_rfl)
  rw [this]
  have h2 := run_slice_h (P := Tryd.prog) w 62 p n c (by kernel_rfl) .i64 0 (by omega) (by omega)
  rw [h2]
  have h3 : (sizeOf (Tryd.prog.elem 62)).run Tryd.prog w = .ok 1 w := by kernel_rfl
  rw [h3]
  simp only [Result.andThen, sliced, Int.toNat_zero, Nat.zero_mul, Nat.sub_zero]
  rw [h]

set_option maxRecDepth 100000 in
set_option maxHeartbeats 1000000 in
theorem tell_oo {M : Nat} (a : Nat) (s : NSt) (w : World) (h : gath M w a s) (hlen : s.out.length < 1000000000) (hput : s.put.length < 1000000000) (hp : s.put = []) (hd : s.drop = 0) :
    Calls Tryd.prog 39 #[.pointer (some ⟨a + 1, 0, none⟩), .pointer (some ⟨a, 0, none⟩), .pointer (some ⟨a + 2, 0, none⟩)] w fun e w' => (∃ v, e = .returned v) ∧ gath M w' a ⟨s.out, [], 0⟩ ∧ BelowG M a w w' ∧ ∀ b, spare w a b → w'.heap[b]? = w.heap[b]? := by
  have hM := h.le
  have hT := h.top
  obtain ⟨i0, hi, hz0, hz1, hz2⟩ := info_parts info_part
  have hcut := cut_none
  have hlt := gath_lt h
  have H0 : Hid (gath M w a s) := h
  obtain ⟨⟨p, c, h1, h2⟩, h3, ⟨p', c', h4, h5⟩, h6, h7, h8, h9⟩ := h
  have HO : Hid (w.ownsRow M 40 3 (.slice p s.out.length c) s.out.length (cellsP s.out)) := h2
  have HC : Hid (w.cell? ⟨a, 0, none⟩ = some (.slice p s.out.length c)) := h1
  have hpl : ¬ (0 : Int) < (s.put.length : Int) := by rw [hp]; simp
  have hdb : (s.drop == 0) = true := beq_iff_eq.2 hd
  clear h2 h5 h9 hp
  go_enter Tryd.func39, Tryd.ntmps39
  have HK0 : Hid (w.cell? ⟨a + 1, 0, none⟩ = some (.slice p' s.put.length c')) := h4
  go_wp2
  go_end0
  have F1 := gath_none H0.out HK0.out
  have F2 := gath_drop F1.1 0
  refine ⟨⟨_, rfl⟩, F2.1, F1.2.trans F2.2, fun b hb => ?_⟩
  have hb0 := hb.2.1
  have e0 : w.heap[b]? = w.heap[b]? := rfl
  have s0 := hb
  have e1 := e0
  have s1 := s0
  have e2 := e1
  have s2 := s1
  have s3 := set_spare s2 (c := a + 1) (by omega) (by omega) (.slice p' 0 c')
  exact ((set_spare s3.1 (c := a + 2) (by omega) (by omega) (.int .i64 0)).2.trans s3.2).trans e2

set_option maxRecDepth 100000 in
set_option maxHeartbeats 1000000 in
theorem tell_od {M : Nat} (a : Nat) (s : NSt) (w : World) (h : gath M w a s) (hlen : s.out.length < 1000000000) (hput : s.put.length < 1000000000) (hp : s.put = []) (hd : s.drop ≠ 0) :
    Calls Tryd.prog 39 #[.pointer (some ⟨a + 1, 0, none⟩), .pointer (some ⟨a, 0, none⟩), .pointer (some ⟨a + 2, 0, none⟩)] w fun e w' => (∃ v, e = .returned v) ∧ gath M w' a ⟨s.out ++ [⟨0, s.drop, []⟩], [], 0⟩ ∧ BelowG M a w w' ∧ ∀ b, spare w a b → w'.heap[b]? = w.heap[b]? := by
  have hM := h.le
  have hT := h.top
  obtain ⟨i0, hi, hz0, hz1, hz2⟩ := info_parts info_part
  have hcut := cut_none
  have hlt := gath_lt h
  have H0 : Hid (gath M w a s) := h
  obtain ⟨⟨p, c, h1, h2⟩, h3, ⟨p', c', h4, h5⟩, h6, h7, h8, h9⟩ := h
  have HO : Hid (w.ownsRow M 40 3 (.slice p s.out.length c) s.out.length (cellsP s.out)) := h2
  have HC : Hid (w.cell? ⟨a, 0, none⟩ = some (.slice p s.out.length c)) := h1
  have hpl : ¬ (0 : Int) < (s.put.length : Int) := by rw [hp]; simp
  have hdb : (s.drop == 0) = false := beq_eq_false_iff_ne.2 hd
  clear h2 h5 h9 hp
  go_enter Tryd.func39, Tryd.ntmps39
  go_wp2_with (first | (at_builtin; refine wpList_append_own_at _ rfl _ _ 23 rfl M 40 i0 (.agg #[.int .i64 0, .int .i64 0, .string ⟨#[]⟩]) 3 32 Tryd.underlying23 hi hz0 hz1 hz2 rfl (by decide) _ _ _ rfl (HO.out.alloc _) ⟨w.heap.size, 0, none⟩ 1 1 (partCells ⟨0, s.drop, []⟩) rfl rfl (cells_new _ _ _) (partCells_one _) (by unfold maxLen; omega) (by omega) (by first | omega | (simp; omega)) ?_) | fail)
  intro v2 w2 hown2 hg2 _ hat2
  have P2 := gath_push (q := ⟨0, s.drop, []⟩) H0.out HC.out hown2 hg2
  have hb2 : Below (a + 4) w w2 := ((Below.refl (a + 4) w).alloc (by omega) _).grown hg2 (by rw [World.size_alloc]; omega) fun k hk => Nat.le_trans hM (HO.out.lt k hk).1
  have z4 := h4
  have z6 := h6
  have z7 := h7
  have z8 := h8
  obtain ⟨p2, q2, hv2⟩ := own_slice hown2
  rw [hv2] at P2 ⊢
  rw [hv2] at hat2
  obtain ⟨G2, B2, t1, t2⟩ := P2
  have HS2 : Hid (∀ b, spare (w) a b → spare (w2.setCell ⟨a, 0, none⟩ (.slice p2 (s.out.length + 1) q2)) a b ∧ (w2.setCell ⟨a, 0, none⟩ (.slice p2 (s.out.length + 1) q2)).heap[b]? = (w).heap[b]?) := fun b hb => push_spare HC.out (by rw [t1]; rfl) hg2 (hat2.imp id fun e => ⟨_, e, by simp⟩) hb
  clear hat2
  have HG2 : Hid (gath M _ a ⟨s.out ++ [⟨0, s.drop, []⟩], s.put, s.drop⟩) := G2
  have HB2 : Hid (BelowG M a _ _) := B2
  have y4 := (hb2.cell (p := ⟨a + 1, 0, none⟩) (by show a + 1 < _; omega)).trans z4
  have y6 := (hb2.frozen (p := ⟨a + 1, 0, none⟩) (by show a + 1 < _; omega)).trans z6
  have y7 := (hb2.cell (p := ⟨a + 2, 0, none⟩) (by show a + 2 < _; omega)).trans z7
  have y8 := (hb2.frozen (p := ⟨a + 2, 0, none⟩) (by show a + 2 < _; omega)).trans z8
  have hs2 := hb2.size
  have HK5 : Hid ((w2.setCell ⟨a, 0, none⟩ (.slice p2 (s.out.length + 1) q2)).cell? ⟨a + 1, 0, none⟩ = some (.slice p' s.put.length c')) := (cell_set_ne (by omega) _).trans y4
  clear z4 z6 z7 z8 G2 B2 hown2 hg2 hb2 hv2
  clear h1 h3 h4 h6 h7 h8
  go_wp2
  go_end0
  have F1 := gath_none HG2.out HK5.out
  have F2 := gath_drop F1.1 0
  refine ⟨⟨_, rfl⟩, F2.1, (HB2.out).trans (F1.2.trans F2.2), fun b hb => ?_⟩
  have hb0 := hb.2.1
  have e0 : w.heap[b]? = w.heap[b]? := rfl
  have s0 := hb
  have e1 := e0
  have s1 := s0
  have e2 := ((HS2.out b s1).2).trans e1
  have s2 := (HS2.out b s1).1
  have s3 := set_spare s2 (c := a + 1) (by omega) (by omega) (.slice p' 0 c')
  exact ((set_spare s3.1 (c := a + 2) (by omega) (by omega) (.int .i64 0)).2.trans s3.2).trans e2

set_option maxRecDepth 100000 in
set_option maxHeartbeats 1000000 in
theorem tell_po {M : Nat} (a : Nat) (s : NSt) (w : World) (h : gath M w a s) (hlen : s.out.length < 1000000000) (hput : s.put.length < 1000000000) (hp : s.put ≠ []) (hd : s.drop = 0) :
    Calls Tryd.prog 39 #[.pointer (some ⟨a + 1, 0, none⟩), .pointer (some ⟨a, 0, none⟩), .pointer (some ⟨a + 2, 0, none⟩)] w fun e w' => (∃ v, e = .returned v) ∧ gath M w' a ⟨s.out ++ [⟨0, 0, s.put⟩], [], 0⟩ ∧ BelowG M a w w' ∧ ∀ b, spare w a b → w'.heap[b]? = w.heap[b]? := by
  have hM := h.le
  have hT := h.top
  obtain ⟨i0, hi, hz0, hz1, hz2⟩ := info_parts info_part
  have hcut := cut_none
  have hlt := gath_lt h
  have H0 : Hid (gath M w a s) := h
  obtain ⟨⟨p, c, h1, h2⟩, h3, ⟨p', c', h4, h5⟩, h6, h7, h8, h9⟩ := h
  have HO : Hid (w.ownsRow M 40 3 (.slice p s.out.length c) s.out.length (cellsP s.out)) := h2
  have HC : Hid (w.cell? ⟨a, 0, none⟩ = some (.slice p s.out.length c)) := h1
  have hpl : (0 : Int) < (s.put.length : Int) := by have := List.length_pos_iff.2 hp; omega
  have hconv : (convert 62 9 (.slice p' s.put.length c')).run Tryd.prog w = .ok (.string ⟨s.put.toArray⟩) w := string_own rfl h5
  have hdb : (s.drop == 0) = true := beq_iff_eq.2 hd
  clear h2 h5 h9 hp
  go_enter Tryd.func39, Tryd.ntmps39
  go_wp2_with (first | (at_builtin; refine wpList_append_own_at _ rfl _ _ 23 rfl M 40 i0 (.agg #[.int .i64 0, .int .i64 0, .string ⟨#[]⟩]) 3 32 Tryd.underlying23 hi hz0 hz1 hz2 rfl (by decide) _ _ _ rfl (HO.out.alloc _) ⟨w.heap.size, 0, none⟩ 1 1 (partCells ⟨0, 0, s.put⟩) rfl rfl (cells_new _ _ _) (partCells_one _) (by unfold maxLen; omega) (by omega) (by first | omega | (simp; omega)) ?_) | fail)
  intro v1 w1 hown1 hg1 _ hat1
  have P1 := gath_push (q := ⟨0, 0, s.put⟩) H0.out HC.out hown1 hg1
  have hb1 : Below (a + 4) w w1 := ((Below.refl (a + 4) w).alloc (by omega) _).grown hg1 (by rw [World.size_alloc]; omega) fun k hk => Nat.le_trans hM (HO.out.lt k hk).1
  obtain ⟨p1, q1, hv1⟩ := own_slice hown1
  rw [hv1] at P1 hown1 ⊢
  rw [hv1] at hat1
  obtain ⟨G1, B1, r1, r2⟩ := P1
  have HS1 : Hid (∀ b, spare w a b → spare (w1.setCell ⟨a, 0, none⟩ (.slice p1 (s.out.length + 1) q1)) a b ∧ (w1.setCell ⟨a, 0, none⟩ (.slice p1 (s.out.length + 1) q1)).heap[b]? = w.heap[b]?) := fun b hb => push_spare HC.out (by rw [r1]; rfl) hg1 (hat1.imp id fun e => ⟨_, e, by simp⟩) hb
  clear hat1
  have HG1 : Hid (gath M _ a ⟨s.out ++ [⟨0, 0, s.put⟩], s.put, s.drop⟩) := G1
  have HB1 : Hid (BelowG M a w _) := B1
  have HO1 : Hid ((w1.setCell ⟨a, 0, none⟩ (.slice p1 (s.out.length + 1) q1)).ownsRow M 40 3 (.slice p1 (s.out.length + 1) q1) (s.out.length + 1) (cellsP s.out ++ partCells ⟨0, 0, s.put⟩)) := own_set hown1 (show a < M by omega) (.slice p1 (s.out.length + 1) q1)
  have k4 := (hb1.cell (p := ⟨a + 1, 0, none⟩) (by show a + 1 < _; omega)).trans h4
  have k6 := (hb1.frozen (p := ⟨a + 1, 0, none⟩) (by show a + 1 < _; omega)).trans h6
  have k7 := (hb1.cell (p := ⟨a + 2, 0, none⟩) (by show a + 2 < _; omega)).trans h7
  have k8 := (hb1.frozen (p := ⟨a + 2, 0, none⟩) (by show a + 2 < _; omega)).trans h8
  have hs1 := hb1.size
  have HK1 : Hid ((w1.setCell ⟨a, 0, none⟩ (.slice p1 (s.out.length + 1) q1)).cell? ⟨a, 0, none⟩ = some (.slice p1 (s.out.length + 1) q1)) := World.cell?_setCell_same _ _ _ r1
  have HK4 : Hid ((w1.setCell ⟨a, 0, none⟩ (.slice p1 (s.out.length + 1) q1)).cell? ⟨a + 1, 0, none⟩ = some (.slice p' s.put.length c')) := (cell_set_ne (by omega) _).trans k4
  clear h1 h3 h4 h6 h7 h8 G1 B1 hown1 hg1 hconv hb1 hv1
  go_wp2
  go_end0
  have F1 := gath_none HG1.out HK4.out
  have F2 := gath_drop F1.1 0
  refine ⟨⟨_, rfl⟩, F2.1, (HB1.out).trans (F1.2.trans F2.2), fun b hb => ?_⟩
  have hb0 := hb.2.1
  have e0 : w.heap[b]? = w.heap[b]? := rfl
  have s0 := hb
  have e1 := (HS1.out b s0).2
  have s1 := (HS1.out b s0).1
  have e2 := e1
  have s2 := s1
  have s3 := set_spare s2 (c := a + 1) (by omega) (by omega) (.slice p' 0 c')
  exact ((set_spare s3.1 (c := a + 2) (by omega) (by omega) (.int .i64 0)).2.trans s3.2).trans e2

set_option maxRecDepth 100000 in
set_option maxHeartbeats 1000000 in
theorem tell_pd {M : Nat} (a : Nat) (s : NSt) (w : World) (h : gath M w a s) (hlen : s.out.length < 1000000000) (hput : s.put.length < 1000000000) (hp : s.put ≠ []) (hd : s.drop ≠ 0) :
    Calls Tryd.prog 39 #[.pointer (some ⟨a + 1, 0, none⟩), .pointer (some ⟨a, 0, none⟩), .pointer (some ⟨a + 2, 0, none⟩)] w fun e w' => (∃ v, e = .returned v) ∧ gath M w' a ⟨s.out ++ [⟨0, 0, s.put⟩, ⟨0, s.drop, []⟩], [], 0⟩ ∧ BelowG M a w w' ∧ ∀ b, spare w a b → w'.heap[b]? = w.heap[b]? := by
  have hM := h.le
  have hT := h.top
  obtain ⟨i0, hi, hz0, hz1, hz2⟩ := info_parts info_part
  have hcut := cut_none
  have hlt := gath_lt h
  have H0 : Hid (gath M w a s) := h
  obtain ⟨⟨p, c, h1, h2⟩, h3, ⟨p', c', h4, h5⟩, h6, h7, h8, h9⟩ := h
  have HO : Hid (w.ownsRow M 40 3 (.slice p s.out.length c) s.out.length (cellsP s.out)) := h2
  have HC : Hid (w.cell? ⟨a, 0, none⟩ = some (.slice p s.out.length c)) := h1
  have hpl : (0 : Int) < (s.put.length : Int) := by have := List.length_pos_iff.2 hp; omega
  have hconv : (convert 62 9 (.slice p' s.put.length c')).run Tryd.prog w = .ok (.string ⟨s.put.toArray⟩) w := string_own rfl h5
  have hdb : (s.drop == 0) = false := beq_eq_false_iff_ne.2 hd
  clear h2 h5 h9 hp
  go_enter Tryd.func39, Tryd.ntmps39
  go_wp2_with (first | (at_builtin; refine wpList_append_own_at _ rfl _ _ 23 rfl M 40 i0 (.agg #[.int .i64 0, .int .i64 0, .string ⟨#[]⟩]) 3 32 Tryd.underlying23 hi hz0 hz1 hz2 rfl (by decide) _ _ _ rfl (HO.out.alloc _) ⟨w.heap.size, 0, none⟩ 1 1 (partCells ⟨0, 0, s.put⟩) rfl rfl (cells_new _ _ _) (partCells_one _) (by unfold maxLen; omega) (by omega) (by first | omega | (simp; omega)) ?_) | fail)
  intro v1 w1 hown1 hg1 _ hat1
  have P1 := gath_push (q := ⟨0, 0, s.put⟩) H0.out HC.out hown1 hg1
  have hb1 : Below (a + 4) w w1 := ((Below.refl (a + 4) w).alloc (by omega) _).grown hg1 (by rw [World.size_alloc]; omega) fun k hk => Nat.le_trans hM (HO.out.lt k hk).1
  obtain ⟨p1, q1, hv1⟩ := own_slice hown1
  rw [hv1] at P1 hown1 ⊢
  rw [hv1] at hat1
  obtain ⟨G1, B1, r1, r2⟩ := P1
  have HS1 : Hid (∀ b, spare w a b → spare (w1.setCell ⟨a, 0, none⟩ (.slice p1 (s.out.length + 1) q1)) a b ∧ (w1.setCell ⟨a, 0, none⟩ (.slice p1 (s.out.length + 1) q1)).heap[b]? = w.heap[b]?) := fun b hb => push_spare HC.out (by rw [r1]; rfl) hg1 (hat1.imp id fun e => ⟨_, e, by simp⟩) hb
  clear hat1
  have HG1 : Hid (gath M _ a ⟨s.out ++ [⟨0, 0, s.put⟩], s.put, s.drop⟩) := G1
  have HB1 : Hid (BelowG M a w _) := B1
  have HO1 : Hid ((w1.setCell ⟨a, 0, none⟩ (.slice p1 (s.out.length + 1) q1)).ownsRow M 40 3 (.slice p1 (s.out.length + 1) q1) (s.out.length + 1) (cellsP s.out ++ partCells ⟨0, 0, s.put⟩)) := own_set hown1 (show a < M by omega) (.slice p1 (s.out.length + 1) q1)
  have k4 := (hb1.cell (p := ⟨a + 1, 0, none⟩) (by show a + 1 < _; omega)).trans h4
  have k6 := (hb1.frozen (p := ⟨a + 1, 0, none⟩) (by show a + 1 < _; omega)).trans h6
  have k7 := (hb1.cell (p := ⟨a + 2, 0, none⟩) (by show a + 2 < _; omega)).trans h7
  have k8 := (hb1.frozen (p := ⟨a + 2, 0, none⟩) (by show a + 2 < _; omega)).trans h8
  have hs1 := hb1.size
  have HK1 : Hid ((w1.setCell ⟨a, 0, none⟩ (.slice p1 (s.out.length + 1) q1)).cell? ⟨a, 0, none⟩ = some (.slice p1 (s.out.length + 1) q1)) := World.cell?_setCell_same _ _ _ r1
  have HK4 : Hid ((w1.setCell ⟨a, 0, none⟩ (.slice p1 (s.out.length + 1) q1)).cell? ⟨a + 1, 0, none⟩ = some (.slice p' s.put.length c')) := (cell_set_ne (by omega) _).trans k4
  clear h1 h3 h4 h6 h7 h8 G1 B1 hown1 hg1 hconv hb1 hv1
  go_wp2_with (first | (at_builtin; refine wpList_append_own_at _ rfl _ _ 23 rfl M 40 i0 (.agg #[.int .i64 0, .int .i64 0, .string ⟨#[]⟩]) 3 32 Tryd.underlying23 hi hz0 hz1 hz2 rfl (by decide) _ _ _ rfl (HO1.out.alloc _) ⟨w1.heap.size, 0, none⟩ 1 1 (partCells ⟨0, s.drop, []⟩) rfl rfl (cells_new_set _ _ _ _ _) (partCells_one _) (by unfold maxLen; omega) (by omega) (by first | omega | (simp; omega)) ?_) | fail)
  intro v2 w2 hown2 hg2 _ hat2
  have hown2' : w2.ownsRow M 40 3 v2 ((s.out ++ [(⟨0, 0, s.put⟩ : Pt)]).length + 1) (cellsP (s.out ++ [(⟨0, 0, s.put⟩ : Pt)]) ++ partCells ⟨0, s.drop, []⟩) := by
    rw [cellsP_snoc, List.length_append, List.append_assoc]; exact hown2
  have hls : (s.out ++ [(⟨0, 0, s.put⟩ : Pt)]).length = s.out.length + 1 := by rw [List.length_append]; rfl
  have HK1' : (w1.setCell ⟨a, 0, none⟩ (.slice p1 (s.out.length + 1) q1)).cell? ⟨a, 0, none⟩ = some (.slice p1 (s.out ++ [(⟨0, 0, s.put⟩ : Pt)]).length q1) := by rw [hls]; exact HK1.out
  have P2 := gath_push (q := ⟨0, s.drop, []⟩) HG1.out HK1' hown2' (by rw [hls]; exact hg2)
  have hb2 : Below (a + 4) (w1.setCell ⟨a, 0, none⟩ (.slice p1 (s.out.length + 1) q1)) w2 := ((Below.refl (a + 4) _).alloc (by simp; omega) _).grown hg2 (by rw [World.size_alloc]; simp; omega) fun k hk => Nat.le_trans hM (HO1.out.lt k hk).1
  have z4 := HK4.out
  have z6 : (w1.setCell ⟨a, 0, none⟩ (.slice p1 (s.out.length + 1) q1)).frozen? ⟨a + 1, 0, none⟩ = false := by rw [World.frozen?_setCell]; exact k6
  have z7 : (w1.setCell ⟨a, 0, none⟩ (.slice p1 (s.out.length + 1) q1)).cell? ⟨a + 2, 0, none⟩ = some (.int .i64 s.drop) := (cell_set_ne (by omega) _).trans k7
  have z8 : (w1.setCell ⟨a, 0, none⟩ (.slice p1 (s.out.length + 1) q1)).frozen? ⟨a + 2, 0, none⟩ = false := by rw [World.frozen?_setCell]; exact k8
  clear HK1'
  obtain ⟨p2, q2, hv2⟩ := own_slice hown2
  rw [hv2] at P2 ⊢
  rw [hv2] at hat2
  obtain ⟨G2, B2, t1, t2⟩ := P2
  have HS2 : Hid (∀ b, spare (w1.setCell ⟨a, 0, none⟩ (.slice p1 (s.out.length + 1) q1)) a b → spare (w2.setCell ⟨a, 0, none⟩ (.slice p2 ((s.out.length + 1) + 1) q2)) a b ∧ (w2.setCell ⟨a, 0, none⟩ (.slice p2 ((s.out.length + 1) + 1) q2)).heap[b]? = (w1.setCell ⟨a, 0, none⟩ (.slice p1 (s.out.length + 1) q1)).heap[b]?) := fun b hb => push_spare HK1.out (by rw [t1]; rfl) hg2 (hat2.imp id fun e => ⟨_, e, by simp⟩) hb
  clear hat2
  have HG2 : Hid (gath M _ a ⟨(s.out ++ [⟨0, 0, s.put⟩]) ++ [⟨0, s.drop, []⟩], s.put, s.drop⟩) := G2
  have HB2 : Hid (BelowG M a _ _) := B2
  have y4 := (hb2.cell (p := ⟨a + 1, 0, none⟩) (by show a + 1 < _; omega)).trans z4
  have y6 := (hb2.frozen (p := ⟨a + 1, 0, none⟩) (by show a + 1 < _; omega)).trans z6
  have y7 := (hb2.cell (p := ⟨a + 2, 0, none⟩) (by show a + 2 < _; omega)).trans z7
  have y8 := (hb2.frozen (p := ⟨a + 2, 0, none⟩) (by show a + 2 < _; omega)).trans z8
  have hs2 := hb2.size
  have HK5 : Hid ((w2.setCell ⟨a, 0, none⟩ (.slice p2 ((s.out.length + 1) + 1) q2)).cell? ⟨a + 1, 0, none⟩ = some (.slice p' s.put.length c')) := (cell_set_ne (by omega) _).trans y4
  clear z4 z6 z7 z8 G2 B2 hown2 hg2 hb2 hv2
  clear k4 k6 k7 k8 r1 r2
  clear hown2'
  go_wp2
  go_end0
  have F1 := gath_none HG2.out HK5.out
  have F2 := gath_drop F1.1 0
  have F3 := F2.1
  rw [List.append_assoc] at F3
  refine ⟨⟨_, rfl⟩, F3, (HB1.out.trans HB2.out).trans (F1.2.trans F2.2), fun b hb => ?_⟩
  have hb0 := hb.2.1
  have e0 : w.heap[b]? = w.heap[b]? := rfl
  have s0 := hb
  have e1 := (HS1.out b s0).2
  have s1 := (HS1.out b s0).1
  have e2 := ((HS2.out b s1).2).trans e1
  have s2 := (HS2.out b s1).1
  have s3 := set_spare s2 (c := a + 1) (by omega) (by omega) (.slice p' 0 c')
  exact ((set_spare s3.1 (c := a + 2) (by omega) (by omega) (.int .i64 0)).2.trans s3.2).trans e2

theorem tell_any {M : Nat} (a : Nat) (s : NSt) (w : World) (h : gath M w a s) (hlen : s.out.length < 1000000000) (hput : s.put.length < 1000000000) :
    Calls Tryd.prog 39 #[.pointer (some ⟨a + 1, 0, none⟩), .pointer (some ⟨a, 0, none⟩), .pointer (some ⟨a + 2, 0, none⟩)] w fun e w' => (∃ v, e = .returned v) ∧ gath M w' a ⟨tellP s, [], 0⟩ ∧ BelowG M a w w' ∧ ∀ b, spare w a b → w'.heap[b]? = w.heap[b]? := by
  have hM := h.le
  have hT := h.top
  unfold tellP
  by_cases hp : s.put = []
  · by_cases hd : s.drop = 0
    · have := tell_oo a s w h hlen hput hp hd
      simpa [hp, hd] using this
    · have := tell_od a s w h hlen hput hp hd
      simpa [hp, hd] using this
  · by_cases hd : s.drop = 0
    · have := tell_po a s w h hlen hput hp hd
      simpa [hp, hd] using this
    · have := tell_pd a s w h hlen hput hp hd
      simpa [hp, hd] using this
end Go.Proofs.YtedonckeomccpabDoor

namespace Go.Proofs.YtedonckeomccpabDoor
open Go.RowKit
set_option linter.unusedVariables false

def partV (p : Pt) : Value := .agg #[.int .i64 p.keep, .int .i64 p.drop, .string ⟨p.put.toArray⟩]

theorem isKeep_any (p : Pt) (w : World) : Calls Tryd.prog 22 #[partV p] w fun e w' => e = .returned (.bool (decide (0 < p.keep))) ∧ Below w.heap.size w w' := by
  unfold partV
  go_enter Tryd.func22, Tryd.ntmps22
  go_wp2
  go_ret
  exact ⟨rfl, (Below.refl _ _).alloc (Nat.le_refl _) _⟩
theorem isDrop_any (p : Pt) (w : World) : Calls Tryd.prog 30 #[partV p] w fun e w' => e = .returned (.bool (decide (0 < p.drop))) ∧ Below w.heap.size w w' := by
  unfold partV
  go_enter Tryd.func30, Tryd.ntmps30
  go_wp2
  go_ret
  exact ⟨rfl, (Below.refl _ _).alloc (Nat.le_refl _) _⟩

theorem done_anyG {M : Nat} (a : Nat) (s : NSt) (w : World) (h : gath M w a s) (hlen : s.out.length < 1000000000) (hput : s.put.length < 1000000000) :
    Calls Tryd.prog 41 #[.pointer (some ⟨a + 3, 0, none⟩), .pointer (some ⟨a, 0, none⟩)] w fun e w' => ∃ v, e = .returned v ∧ w'.ownsRow M 40 3 v (tellP s).length (cellsP (tellP s)) ∧ BelowG M a w w' := by
  have hM := h.le
  have hT := h.top
  have cT := tell_any a s w h hlen hput
  have h9 := h.tell
  clear h
  go_enter Tryd.func41, Tryd.ntmps41
  go_wp2_with (first | (go_at_call 39; refine cT.mono ?_; rintro e w1 ⟨⟨v, rfl⟩, ⟨⟨p, c, h1, h2⟩, _⟩, hb, _⟩) | fail)
  go_ret
  exact ⟨_, rfl, h2, hb⟩

/-- Behind 'op[end].Keep += ..': the last part's first cell is written. -/
theorem gath_more {M : Nat} {w : World} {a g n c : Nat} {init : List Pt} {q : Pt} (h : gath M w a ⟨init ++ [q], [], 0⟩) (hc : w.cell? ⟨a, 0, none⟩ = some (.slice (some ⟨g, 0, none⟩) n c)) (hn : n = (init ++ [q]).length) (k : Int) :
    gath M (w.setCell ⟨g, init.length * 3, none⟩ (.int .i64 k)) a ⟨init ++ [⟨k, q.drop, q.put⟩], [], 0⟩ ∧ BelowG M a w (w.setCell ⟨g, init.length * 3, none⟩ (.int .i64 k)) := by
  have hM := h.le
  have hT := h.top
  subst hn
  obtain ⟨⟨p1, c1, h1, h2⟩, h3, ⟨p', c', h4, h5⟩, h6, h7, h8, h9⟩ := h
  rw [hc] at h1
  simp only [Option.some.injEq, Value.slice.injEq, true_and] at h1
  obtain ⟨rfl, rfl⟩ := h1
  have hlt := h2.lt g rfl
  obtain ⟨r1, r2⟩ := h2.stored (init.length * 3) (.int .i64 k)
  have hx : (cellsP (init ++ [q])).set (init.length * 3) (.int .i64 k) = cellsP (init ++ [⟨k, q.drop, q.put⟩]) := by
    rw [cellsP_snoc, cellsP_snoc, List.set_append_right _ _ (by rw [cellsP_len]; exact Nat.le_refl _), cellsP_len, Nat.sub_self]
    rfl
  rw [hx] at r1
  have hl : (init ++ [(⟨k, q.drop, q.put⟩ : Pt)]).length = (init ++ [q]).length := by simp
  have r3 := h5.kept r2 (own_ne h5 h2 (by decide))
  refine ⟨⟨⟨some ⟨g, 0, none⟩, c, ?_, ?_⟩, ?_, ⟨p', c', ?_, r3⟩, ?_, ?_, ?_, ?_, hM, (by simp; omega)⟩, ⟨(Below.refl a w).setCell (by show a ≤ g; omega) _, (KeptG.refl M a w).grown h2 (.inr rfl) r2⟩⟩
  · show _ = some (Value.slice _ (init ++ [(⟨k, q.drop, q.put⟩ : Pt)]).length c)
    rw [hl]
    exact (World.cell?_of_block (a := ⟨a, 0, none⟩) (r2.block a (by omega) (by intro e; have := Option.some.inj e; omega))).trans hc
  · show World.ownsRow _ _ _ _ (.slice _ (init ++ [(⟨k, q.drop, q.put⟩ : Pt)]).length c) (init ++ [(⟨k, q.drop, q.put⟩ : Pt)]).length _
    rw [hl]
    exact r1
  · rw [World.frozen?_setCell]; exact h3
  · exact (World.cell?_of_block (a := ⟨a + 1, 0, none⟩) (r2.block (a + 1) (by omega) (by intro e; have := Option.some.inj e; omega))).trans h4
  · rw [World.frozen?_setCell]; exact h6
  · exact (World.cell?_of_block (a := ⟨a + 2, 0, none⟩) (r2.block (a + 2) (by omega) (by intro e; have := Option.some.inj e; omega))).trans h7
  · rw [World.frozen?_setCell]; exact h8
  · exact (World.cell?_of_block (a := ⟨a + 3, 0, none⟩) (r2.block (a + 3) (by omega) (by intro e; have := Option.some.inj e; omega))).trans h9

/-- The last part's cells, in its row. -/
theorem last_cells {w : World} {B g n c : Nat} {init : List Pt} {q : Pt} (h : w.ownsRow B 40 3 (.slice (some ⟨g, 0, none⟩) n c) n (cellsP (init ++ [q]))) (hn : n = (init ++ [q]).length) :
    w.cell? ⟨g, init.length * 3, none⟩ = some (.int .i64 q.keep) ∧ w.cell? ⟨g, init.length * 3 + 1, none⟩ = some (.int .i64 q.drop) ∧ w.cell? ⟨g, init.length * 3 + 2, none⟩ = some (.string ⟨q.put.toArray⟩) ∧ w.frozen? ⟨g, init.length * 3, none⟩ = false := by
  subst hn
  have hn : (init ++ [q]).length = init.length + 1 := by simp
  have e : ∀ j, j < 3 → (cellsP (init ++ [q]))[init.length * 3 + j]? = (partCells q)[j]? := by
    intro j hj
    rw [cellsP_snoc, List.getElem?_append_right (by rw [cellsP_len]; omega), cellsP_len]
    congr 1
    omega
  refine ⟨?_, ?_, ?_, h.frozenAt _⟩
  · rw [h.cellAt _ (by rw [hn]; omega)]; exact e 0 (by omega)
  · rw [h.cellAt _ (by rw [hn]; omega)]; exact e 1 (by omega)
  · rw [h.cellAt _ (by rw [hn]; omega)]; exact e 2 (by omega)

set_option maxRecDepth 100000 in
set_option maxHeartbeats 2000000 in
theorem add_zero {M : Nat} (a : Nat) (s : NSt) (p : Pt) (w : World) (h : gath M w a s) (hput : s.put.length + p.put.length < 1000000000) (hd : -9223372036854775808 ≤ s.drop + p.drop) (hd' : s.drop + p.drop < 9223372036854775808) (hout : s.out.length < 100000000)
     :
    Calls Tryd.prog 40 #[(.agg #[.int .i64 0, .int .i64 p.drop, .string ⟨p.put.toArray⟩]), .pointer (some ⟨a + 1, 0, none⟩), .pointer (some ⟨a + 2, 0, none⟩), .pointer (some ⟨a + 3, 0, none⟩), .pointer (some ⟨a, 0, none⟩)] w fun e w' => (∃ v, e = .returned v) ∧ gath M w' a ⟨s.out, s.put ++ p.put, s.drop + p.drop⟩ ∧ BelowG M a w w' := by
  have hM := h.le
  have hT := h.top
  obtain ⟨i0, hi, hz0, hz1, hz2⟩ := info_parts info_part
  obtain ⟨i1, hj, hy0, hy1, hy2⟩ := info_parts info_u8
  have hlt := gath_lt h
  have hb0' : Below w.heap.size w (w.alloc (.cells #[.int .i64 0, .int .i64 p.drop, .string ⟨p.put.toArray⟩] 40)) := (Below.refl _ _).alloc (Nat.le_refl _) _
  have HG0 : Hid (gath M (w.alloc (.cells #[.int .i64 0, .int .i64 p.drop, .string ⟨p.put.toArray⟩] 40)) a s) := gath_below h hb0'
  have HB0 : Hid (BelowG M a w (w.alloc (.cells #[.int .i64 0, .int .i64 p.drop, .string ⟨p.put.toArray⟩] 40))) := .of hb0' (by omega)
  have x0 : (w.alloc (.cells #[.int .i64 0, .int .i64 p.drop, .string ⟨p.put.toArray⟩] 40)).cell? ⟨w.heap.size, 0, none⟩ = some (.int .i64 0) := by simp [go_sem]
  have x1 : (w.alloc (.cells #[.int .i64 0, .int .i64 p.drop, .string ⟨p.put.toArray⟩] 40)).cell? ⟨w.heap.size, 1, none⟩ = some (.int .i64 p.drop) := by simp [go_sem]
  obtain ⟨⟨pp, c, h1, h2⟩, h3, ⟨p', c', h4, h5⟩, h6, h7, h8, h9⟩ := h
  have HL1 : Hid (∀ k, (Value.slice pp s.out.length c).ownBlock = some k → k < w.heap.size) := fun k hk' => (h2.lt k hk').2
  have HL2 : Hid (∀ k, (Value.slice p' s.put.length c').ownBlock = some k → k < w.heap.size) := fun k hk' => (h5.lt k hk').2
  have hP : (w.alloc (.cells #[.int .i64 0, .int .i64 p.drop, .string ⟨p.put.toArray⟩] 40)).ownsRow M 5 1 (.slice p' s.put.length c') s.put.length (Lib.byteCells s.put) := h5.alloc _
  have hC : (w.alloc (.cells #[.int .i64 0, .int .i64 p.drop, .string ⟨p.put.toArray⟩] 40)).cell? ⟨a + 1, 0, none⟩ = some (.slice p' s.put.length c') := (hb0'.cell (p := ⟨a + 1, 0, none⟩) (by show a + 1 < _; omega)).trans h4
  have hC0 : (w.alloc (.cells #[.int .i64 0, .int .i64 p.drop, .string ⟨p.put.toArray⟩] 40)).cell? ⟨a, 0, none⟩ = some (.slice pp s.out.length c) := (hb0'.cell (p := ⟨a, 0, none⟩) (by show a < _; omega)).trans h1
  have hD2 : (w.alloc (.cells #[.int .i64 0, .int .i64 p.drop, .string ⟨p.put.toArray⟩] 40)).cell? ⟨a + 2, 0, none⟩ = some (.int .i64 s.drop) := (hb0'.cell (p := ⟨a + 2, 0, none⟩) (by show a + 2 < _; omega)).trans h7
  have hF2 : (w.alloc (.cells #[.int .i64 0, .int .i64 p.drop, .string ⟨p.put.toArray⟩] 40)).frozen? ⟨a + 2, 0, none⟩ = false := (hb0'.frozen (p := ⟨a + 2, 0, none⟩) (by show a + 2 < _; omega)).trans h8
  have hD3 : (w.alloc (.cells #[.int .i64 0, .int .i64 p.drop, .string ⟨p.put.toArray⟩] 40)).cell? ⟨a + 3, 0, none⟩ = some (.func (.func 39) #[] #[.pointer (some ⟨a + 1, 0, none⟩), .pointer (some ⟨a, 0, none⟩), .pointer (some ⟨a + 2, 0, none⟩)]) := (hb0'.cell (p := ⟨a + 3, 0, none⟩) (by show a + 3 < _; omega)).trans h9
  have HP : Hid ((w.alloc (.cells #[.int .i64 0, .int .i64 p.drop, .string ⟨p.put.toArray⟩] 40)).ownsRow M 5 1 (.slice p' s.put.length c') s.put.length (Lib.byteCells s.put)) := hP
  have HX : Hid (∀ w1 v1, w1.ownsRow M 5 1 v1 (s.put.length + (ByteArray.mk p.put.toArray).size) (Lib.byteCells s.put ++ Lib.strCells ⟨p.put.toArray⟩) → (w.alloc (.cells #[.int .i64 0, .int .i64 p.drop, .string ⟨p.put.toArray⟩] 40)).grownBy w1 (Value.slice p' s.put.length c').ownBlock →
      gath M ((w1.setCell ⟨a + 1, 0, none⟩ v1).setCell ⟨a + 2, 0, none⟩ (.int .i64 (s.drop + p.drop))) a ⟨s.out, s.put ++ p.put, s.drop + p.drop⟩ ∧ BelowG M a w ((w1.setCell ⟨a + 1, 0, none⟩ v1).setCell ⟨a + 2, 0, none⟩ (.int .i64 (s.drop + p.drop))) ∧
      spare ((w1.setCell ⟨a + 1, 0, none⟩ v1).setCell ⟨a + 2, 0, none⟩ (.int .i64 (s.drop + p.drop))) a w.heap.size ∧
      w1.cell? ⟨a + 1, 0, none⟩ = some (.slice p' s.put.length c') ∧ w1.frozen? ⟨a + 1, 0, none⟩ = false ∧ w1.cell? ⟨a + 2, 0, none⟩ = some (.int .i64 s.drop) ∧ w1.frozen? ⟨a + 2, 0, none⟩ = false ∧
      w1.cell? ⟨a + 3, 0, none⟩ = some (.func (.func 39) #[] #[.pointer (some ⟨a + 1, 0, none⟩), .pointer (some ⟨a, 0, none⟩), .pointer (some ⟨a + 2, 0, none⟩)]) ∧
      (∀ o, w1.cell? ⟨w.heap.size, o, none⟩ = (w.alloc (.cells #[.int .i64 0, .int .i64 p.drop, .string ⟨p.put.toArray⟩] 40)).cell? ⟨w.heap.size, o, none⟩) ∧ w.heap.size < w1.heap.size) := by
    intro w1 v1 q1 q2
    have hz : (ByteArray.mk p.put.toArray).size = p.put.length := by simp [ByteArray.size]
    rw [hz] at q1
    obtain ⟨g1, g2, g3, g4⟩ := gath_puts (q := p.put) HG0.out hC q1 q2
    obtain ⟨g5, g6⟩ := gath_drop g1 (s.drop + p.drop)
    have hlow : ∀ k, (Value.slice p' s.put.length c').ownBlock = some k → a + 4 ≤ k := fun k hk => Nat.le_trans hM (hP.lt k hk).1
    have hbb : Below (a + 4) (w.alloc (.cells #[.int .i64 0, .int .i64 p.drop, .string ⟨p.put.toArray⟩] 40)) w1 := (Below.refl _ _).grown q2 (by rw [World.size_alloc]; omega) hlow
    have hsz := q2.size
    rw [World.size_alloc] at hsz
    refine ⟨g5, HB0.out.trans (g2.trans g6), ⟨by simp; omega, hlt, ?_⟩, g3, g4, (hbb.cell (p := ⟨a + 2, 0, none⟩) (by show a + 2 < _; omega)).trans hD2, (hbb.frozen (p := ⟨a + 2, 0, none⟩) (by show a + 2 < _; omega)).trans hF2, (hbb.cell (p := ⟨a + 3, 0, none⟩) (by show a + 3 < _; omega)).trans hD3, ?_, by omega⟩
    · intro v hv
      rw [cell_set_ne (by omega), cell_set_ne (by omega), (hbb.cell (p := ⟨a, 0, none⟩) (by show a < _; omega)), hC0] at hv
      obtain rfl := Option.some.inj hv
      intro e
      have := HL1.out _ e
      omega
    · intro o
      exact World.cell?_of_block (a := ⟨w.heap.size, o, none⟩) (q2.block w.heap.size (by rw [World.size_alloc]; omega) (by intro e; have := HL2.out _ e.symm; omega))
  clear h2 h5 hP hC hC0 hD2 hF2 hD3 hb0' h1 h3 h6 h7 h8 h9
  have n0 : a + 1 < w.heap.size := by omega
  have HZ : Hid ((ByteArray.mk p.put.toArray).size = p.put.length) := by show _ = _; simp [ByteArray.size]
  have n1 : ¬ (a + 1 = w.heap.size) := by omega
  have n2 : ¬ (w.heap.size = a + 1) := by omega
  have n3 : ¬ (a + 2 = w.heap.size) := by omega
  have n4 : ¬ (w.heap.size = a + 2) := by omega
  have hwrap : IntKind.i64.wrap (s.drop + p.drop) = s.drop + p.drop := by rw [IntKind.wrap_i64]; omega

  go_enter Tryd.func40, Tryd.ntmps40
  go_wp2_with (first | (at_builtin; refine Lib.wpList_append_own_string _ rfl _ _ 62 9 rfl M 5 i1 Tryd.underlying62 Tryd.underlying9 hj hy0 hy1 hy2 _ _ _ rfl HP.out _ rfl (by rw [HZ.out]; unfold maxLen; omega) (by rw [HZ.out]; omega) (by simp; omega) ?_) | fail)
  intro v1 w1 hown1 hg1 _
  have R := HX.out w1 v1 hown1 hg1
  obtain ⟨pv, cv, rfl⟩ := own_slice hown1
  obtain ⟨G2, B2, S2, r1, r2, r3, r4, r5, r6, r7⟩ := R
  have y0 := (r6 0).trans x0
  have y1 := (r6 1).trans x1
  have HG2 : Hid _ := G2
  have HB2 : Hid _ := B2
  have HS2 : Hid _ := S2
  clear hown1 hg1 x0 x1 r6 G2 B2 S2 HX HL1 HL2 HP HG0 HB0 h4
  go_wp2
  refine bodyPost_ret (results_none rfl _ _ _) rfl ?_
  exact ⟨⟨_, rfl⟩, HG2.out, HB2.out⟩

set_option maxRecDepth 100000 in
set_option maxHeartbeats 2000000 in
theorem add_only {M : Nat} (a : Nat) (s : NSt) (p : Pt) (w : World) (h : gath M w a s) (hput : s.put.length + p.put.length < 1000000000) (hd : -9223372036854775808 ≤ s.drop + p.drop) (hd' : s.drop + p.drop < 9223372036854775808) (hout : s.out.length < 100000000)
    (hk : p.keep ≠ 0) (L : List Pt) (hL : tellP ⟨s.out, s.put ++ p.put, s.drop + p.drop⟩ = L) (hLq : L = []) :
    Calls Tryd.prog 40 #[(partV p), .pointer (some ⟨a + 1, 0, none⟩), .pointer (some ⟨a + 2, 0, none⟩), .pointer (some ⟨a + 3, 0, none⟩), .pointer (some ⟨a, 0, none⟩)] w fun e w' => (∃ v, e = .returned v) ∧ gath M w' a ⟨L ++ [⟨p.keep, 0, []⟩], [], 0⟩ ∧ BelowG M a w w' := by
  have hM := h.le
  have hT := h.top
  obtain ⟨i0, hi, hz0, hz1, hz2⟩ := info_parts info_part
  obtain ⟨i1, hj, hy0, hy1, hy2⟩ := info_parts info_u8
  have hlt := gath_lt h
  have hb0' : Below w.heap.size w (w.alloc (.cells #[.int .i64 p.keep, .int .i64 p.drop, .string ⟨p.put.toArray⟩] 40)) := (Below.refl _ _).alloc (Nat.le_refl _) _
  have HG0 : Hid (gath M (w.alloc (.cells #[.int .i64 p.keep, .int .i64 p.drop, .string ⟨p.put.toArray⟩] 40)) a s) := gath_below h hb0'
  have HB0 : Hid (BelowG M a w (w.alloc (.cells #[.int .i64 p.keep, .int .i64 p.drop, .string ⟨p.put.toArray⟩] 40))) := .of hb0' (by omega)
  have x0 : (w.alloc (.cells #[.int .i64 p.keep, .int .i64 p.drop, .string ⟨p.put.toArray⟩] 40)).cell? ⟨w.heap.size, 0, none⟩ = some (.int .i64 p.keep) := by simp [go_sem]
  have x1 : (w.alloc (.cells #[.int .i64 p.keep, .int .i64 p.drop, .string ⟨p.put.toArray⟩] 40)).cell? ⟨w.heap.size, 1, none⟩ = some (.int .i64 p.drop) := by simp [go_sem]
  obtain ⟨⟨pp, c, h1, h2⟩, h3, ⟨p', c', h4, h5⟩, h6, h7, h8, h9⟩ := h
  have HL1 : Hid (∀ k, (Value.slice pp s.out.length c).ownBlock = some k → k < w.heap.size) := fun k hk' => (h2.lt k hk').2
  have HL2 : Hid (∀ k, (Value.slice p' s.put.length c').ownBlock = some k → k < w.heap.size) := fun k hk' => (h5.lt k hk').2
  have hP : (w.alloc (.cells #[.int .i64 p.keep, .int .i64 p.drop, .string ⟨p.put.toArray⟩] 40)).ownsRow M 5 1 (.slice p' s.put.length c') s.put.length (Lib.byteCells s.put) := h5.alloc _
  have hC : (w.alloc (.cells #[.int .i64 p.keep, .int .i64 p.drop, .string ⟨p.put.toArray⟩] 40)).cell? ⟨a + 1, 0, none⟩ = some (.slice p' s.put.length c') := (hb0'.cell (p := ⟨a + 1, 0, none⟩) (by show a + 1 < _; omega)).trans h4
  have hC0 : (w.alloc (.cells #[.int .i64 p.keep, .int .i64 p.drop, .string ⟨p.put.toArray⟩] 40)).cell? ⟨a, 0, none⟩ = some (.slice pp s.out.length c) := (hb0'.cell (p := ⟨a, 0, none⟩) (by show a < _; omega)).trans h1
  have hD2 : (w.alloc (.cells #[.int .i64 p.keep, .int .i64 p.drop, .string ⟨p.put.toArray⟩] 40)).cell? ⟨a + 2, 0, none⟩ = some (.int .i64 s.drop) := (hb0'.cell (p := ⟨a + 2, 0, none⟩) (by show a + 2 < _; omega)).trans h7
  have hF2 : (w.alloc (.cells #[.int .i64 p.keep, .int .i64 p.drop, .string ⟨p.put.toArray⟩] 40)).frozen? ⟨a + 2, 0, none⟩ = false := (hb0'.frozen (p := ⟨a + 2, 0, none⟩) (by show a + 2 < _; omega)).trans h8
  have hD3 : (w.alloc (.cells #[.int .i64 p.keep, .int .i64 p.drop, .string ⟨p.put.toArray⟩] 40)).cell? ⟨a + 3, 0, none⟩ = some (.func (.func 39) #[] #[.pointer (some ⟨a + 1, 0, none⟩), .pointer (some ⟨a, 0, none⟩), .pointer (some ⟨a + 2, 0, none⟩)]) := (hb0'.cell (p := ⟨a + 3, 0, none⟩) (by show a + 3 < _; omega)).trans h9
  have HP : Hid ((w.alloc (.cells #[.int .i64 p.keep, .int .i64 p.drop, .string ⟨p.put.toArray⟩] 40)).ownsRow M 5 1 (.slice p' s.put.length c') s.put.length (Lib.byteCells s.put)) := hP
  have HX : Hid (∀ w1 v1, w1.ownsRow M 5 1 v1 (s.put.length + (ByteArray.mk p.put.toArray).size) (Lib.byteCells s.put ++ Lib.strCells ⟨p.put.toArray⟩) → (w.alloc (.cells #[.int .i64 p.keep, .int .i64 p.drop, .string ⟨p.put.toArray⟩] 40)).grownBy w1 (Value.slice p' s.put.length c').ownBlock →
      gath M ((w1.setCell ⟨a + 1, 0, none⟩ v1).setCell ⟨a + 2, 0, none⟩ (.int .i64 (s.drop + p.drop))) a ⟨s.out, s.put ++ p.put, s.drop + p.drop⟩ ∧ BelowG M a w ((w1.setCell ⟨a + 1, 0, none⟩ v1).setCell ⟨a + 2, 0, none⟩ (.int .i64 (s.drop + p.drop))) ∧
      spare ((w1.setCell ⟨a + 1, 0, none⟩ v1).setCell ⟨a + 2, 0, none⟩ (.int .i64 (s.drop + p.drop))) a w.heap.size ∧
      w1.cell? ⟨a + 1, 0, none⟩ = some (.slice p' s.put.length c') ∧ w1.frozen? ⟨a + 1, 0, none⟩ = false ∧ w1.cell? ⟨a + 2, 0, none⟩ = some (.int .i64 s.drop) ∧ w1.frozen? ⟨a + 2, 0, none⟩ = false ∧
      w1.cell? ⟨a + 3, 0, none⟩ = some (.func (.func 39) #[] #[.pointer (some ⟨a + 1, 0, none⟩), .pointer (some ⟨a, 0, none⟩), .pointer (some ⟨a + 2, 0, none⟩)]) ∧
      (∀ o, w1.cell? ⟨w.heap.size, o, none⟩ = (w.alloc (.cells #[.int .i64 p.keep, .int .i64 p.drop, .string ⟨p.put.toArray⟩] 40)).cell? ⟨w.heap.size, o, none⟩) ∧ w.heap.size < w1.heap.size) := by
    intro w1 v1 q1 q2
    have hz : (ByteArray.mk p.put.toArray).size = p.put.length := by simp [ByteArray.size]
    rw [hz] at q1
    obtain ⟨g1, g2, g3, g4⟩ := gath_puts (q := p.put) HG0.out hC q1 q2
    obtain ⟨g5, g6⟩ := gath_drop g1 (s.drop + p.drop)
    have hlow : ∀ k, (Value.slice p' s.put.length c').ownBlock = some k → a + 4 ≤ k := fun k hk => Nat.le_trans hM (hP.lt k hk).1
    have hbb : Below (a + 4) (w.alloc (.cells #[.int .i64 p.keep, .int .i64 p.drop, .string ⟨p.put.toArray⟩] 40)) w1 := (Below.refl _ _).grown q2 (by rw [World.size_alloc]; omega) hlow
    have hsz := q2.size
    rw [World.size_alloc] at hsz
    refine ⟨g5, HB0.out.trans (g2.trans g6), ⟨by simp; omega, hlt, ?_⟩, g3, g4, (hbb.cell (p := ⟨a + 2, 0, none⟩) (by show a + 2 < _; omega)).trans hD2, (hbb.frozen (p := ⟨a + 2, 0, none⟩) (by show a + 2 < _; omega)).trans hF2, (hbb.cell (p := ⟨a + 3, 0, none⟩) (by show a + 3 < _; omega)).trans hD3, ?_, by omega⟩
    · intro v hv
      rw [cell_set_ne (by omega), cell_set_ne (by omega), (hbb.cell (p := ⟨a, 0, none⟩) (by show a < _; omega)), hC0] at hv
      obtain rfl := Option.some.inj hv
      intro e
      have := HL1.out _ e
      omega
    · intro o
      exact World.cell?_of_block (a := ⟨w.heap.size, o, none⟩) (q2.block w.heap.size (by rw [World.size_alloc]; omega) (by intro e; have := HL2.out _ e.symm; omega))
  clear h2 h5 hP hC hC0 hD2 hF2 hD3 hb0' h1 h3 h6 h7 h8 h9
  have n0 : a + 1 < w.heap.size := by omega
  have HZ : Hid ((ByteArray.mk p.put.toArray).size = p.put.length) := by show _ = _; simp [ByteArray.size]
  have n1 : ¬ (a + 1 = w.heap.size) := by omega
  have n2 : ¬ (w.heap.size = a + 1) := by omega
  have n3 : ¬ (a + 2 = w.heap.size) := by omega
  have n4 : ¬ (w.heap.size = a + 2) := by omega
  have hwrap : IntKind.i64.wrap (s.drop + p.drop) = s.drop + p.drop := by rw [IntKind.wrap_i64]; omega
  unfold partV
  go_enter Tryd.func40, Tryd.ntmps40
  go_wp2_with (first | (at_builtin; refine Lib.wpList_append_own_string _ rfl _ _ 62 9 rfl M 5 i1 Tryd.underlying62 Tryd.underlying9 hj hy0 hy1 hy2 _ _ _ rfl HP.out _ rfl (by rw [HZ.out]; unfold maxLen; omega) (by rw [HZ.out]; omega) (by simp; omega) ?_) | fail)
  intro v1 w1 hown1 hg1 _
  have R := HX.out w1 v1 hown1 hg1
  obtain ⟨pv, cv, rfl⟩ := own_slice hown1
  obtain ⟨G2, B2, S2, r1, r2, r3, r4, r5, r6, r7⟩ := R
  have y0 := (r6 0).trans x0
  have y1 := (r6 1).trans x1
  have HG2 : Hid _ := G2
  have HB2 : Hid _ := B2
  have HS2 : Hid _ := S2
  clear hown1 hg1 x0 x1 r6 G2 B2 S2 HX HL1 HL2 HP HG0 HB0 h4
  have hkb : (p.keep == 0) = false := beq_eq_false_iff_ne.2 hk
  go_wp2_with (first | (go_at_call 9999) | fail)
  refine (tell_any a _ _ HG2.out (by show s.out.length < _; omega) (by show (s.put ++ p.put).length < _; rw [List.length_append]; exact hput)).mono ?_
  rintro e w3 ⟨⟨v3, rfl⟩, G3, B3, S3⟩
  have hS3 := S3 _ HS2.out
  have z0 : w3.cell? ⟨w.heap.size, 0, none⟩ = some (.int .i64 p.keep) := (World.cell?_of_block (a := ⟨w.heap.size, 0, none⟩) hS3).trans (by rw [cell_set_ne (by omega), cell_set_ne (by omega)]; exact y0)
  rw [hL] at G3
  have HB3 : Hid (BelowG M a w w3) := HB2.out.trans B3
  have hs3 : w.heap.size ≤ w3.heap.size := HB3.out.size
  clear S3 hS3 B3 HB2 HS2 HG2 y0 y1 r1 r2 r3 r4 r5 r7
  subst hLq
  have HG3 : Hid (gath M w3 a ⟨[], [], 0⟩) := G3
  have hlt3 := gath_lt G3
  obtain ⟨⟨p3, c3, u1, u2⟩, u3, _, _, _, _, _⟩ := G3
  have HU1 : Hid (w3.cell? ⟨a, 0, none⟩ = some (.slice p3 0 c3)) := u1
  have HU2 : Hid (w3.ownsRow M 40 3 (.slice p3 0 c3) 0 (cellsP [])) := u2
  have u1' : w3.cell? ⟨a, 0, none⟩ = some (.slice p3 0 c3) := u1
  clear u1 u2
  go_wp2_with (first | (at_builtin; refine wpList_append_own_at _ rfl _ _ 23 rfl M 40 i0 (.agg #[.int .i64 0, .int .i64 0, .string ⟨#[]⟩]) 3 32 Tryd.underlying23 hi hz0 hz1 hz2 rfl (by decide) _ _ _ rfl (HU2.out.alloc _) ⟨w3.heap.size, 0, none⟩ 1 1 (partCells ⟨p.keep, 0, []⟩) rfl rfl (cells_new _ _ _) (partCells_one _) (by unfold maxLen; omega) (by omega) (by first | omega | (simp; omega)) ?_) | fail)
  intro v5 w5 hown5 hg5 _ _
  have P5 := gath_push (q := ⟨p.keep, 0, []⟩) HG3.out HU1.out hown5 hg5
  obtain ⟨p5, q5, rfl⟩ := own_slice hown5
  obtain ⟨G5, B5, t1, t2⟩ := P5
  have HG5 : Hid _ := G5
  have HB5 : Hid _ := B5
  clear hown5 hg5 G5 B5 u1' u3 z0
  go_wp2
  go_end0
  exact ⟨⟨_, rfl⟩, HG5.out, HB3.out.trans HB5.out⟩

set_option maxRecDepth 100000 in
set_option maxHeartbeats 2000000 in
theorem add_behind {M : Nat} (a : Nat) (s : NSt) (p : Pt) (w : World) (h : gath M w a s) (hput : s.put.length + p.put.length < 1000000000) (hd : -9223372036854775808 ≤ s.drop + p.drop) (hd' : s.drop + p.drop < 9223372036854775808) (hout : s.out.length < 100000000)
    (hk : p.keep ≠ 0) (L : List Pt) (hL : tellP ⟨s.out, s.put ++ p.put, s.drop + p.drop⟩ = L) (init : List Pt) (q : Pt) (hLq : L = init ++ [q]) (hq : ¬ 0 < q.keep) :
    Calls Tryd.prog 40 #[(partV p), .pointer (some ⟨a + 1, 0, none⟩), .pointer (some ⟨a + 2, 0, none⟩), .pointer (some ⟨a + 3, 0, none⟩), .pointer (some ⟨a, 0, none⟩)] w fun e w' => (∃ v, e = .returned v) ∧ gath M w' a ⟨L ++ [⟨p.keep, 0, []⟩], [], 0⟩ ∧ BelowG M a w w' := by
  have hM := h.le
  have hT := h.top
  obtain ⟨i0, hi, hz0, hz1, hz2⟩ := info_parts info_part
  obtain ⟨i1, hj, hy0, hy1, hy2⟩ := info_parts info_u8
  have hlt := gath_lt h
  have hb0' : Below w.heap.size w (w.alloc (.cells #[.int .i64 p.keep, .int .i64 p.drop, .string ⟨p.put.toArray⟩] 40)) := (Below.refl _ _).alloc (Nat.le_refl _) _
  have HG0 : Hid (gath M (w.alloc (.cells #[.int .i64 p.keep, .int .i64 p.drop, .string ⟨p.put.toArray⟩] 40)) a s) := gath_below h hb0'
  have HB0 : Hid (BelowG M a w (w.alloc (.cells #[.int .i64 p.keep, .int .i64 p.drop, .string ⟨p.put.toArray⟩] 40))) := .of hb0' (by omega)
  have x0 : (w.alloc (.cells #[.int .i64 p.keep, .int .i64 p.drop, .string ⟨p.put.toArray⟩] 40)).cell? ⟨w.heap.size, 0, none⟩ = some (.int .i64 p.keep) := by simp [go_sem]
  have x1 : (w.alloc (.cells #[.int .i64 p.keep, .int .i64 p.drop, .string ⟨p.put.toArray⟩] 40)).cell? ⟨w.heap.size, 1, none⟩ = some (.int .i64 p.drop) := by simp [go_sem]
  obtain ⟨⟨pp, c, h1, h2⟩, h3, ⟨p', c', h4, h5⟩, h6, h7, h8, h9⟩ := h
  have HL1 : Hid (∀ k, (Value.slice pp s.out.length c).ownBlock = some k → k < w.heap.size) := fun k hk' => (h2.lt k hk').2
  have HL2 : Hid (∀ k, (Value.slice p' s.put.length c').ownBlock = some k → k < w.heap.size) := fun k hk' => (h5.lt k hk').2
  have hP : (w.alloc (.cells #[.int .i64 p.keep, .int .i64 p.drop, .string ⟨p.put.toArray⟩] 40)).ownsRow M 5 1 (.slice p' s.put.length c') s.put.length (Lib.byteCells s.put) := h5.alloc _
  have hC : (w.alloc (.cells #[.int .i64 p.keep, .int .i64 p.drop, .string ⟨p.put.toArray⟩] 40)).cell? ⟨a + 1, 0, none⟩ = some (.slice p' s.put.length c') := (hb0'.cell (p := ⟨a + 1, 0, none⟩) (by show a + 1 < _; omega)).trans h4
  have hC0 : (w.alloc (.cells #[.int .i64 p.keep, .int .i64 p.drop, .string ⟨p.put.toArray⟩] 40)).cell? ⟨a, 0, none⟩ = some (.slice pp s.out.length c) := (hb0'.cell (p := ⟨a, 0, none⟩) (by show a < _; omega)).trans h1
  have hD2 : (w.alloc (.cells #[.int .i64 p.keep, .int .i64 p.drop, .string ⟨p.put.toArray⟩] 40)).cell? ⟨a + 2, 0, none⟩ = some (.int .i64 s.drop) := (hb0'.cell (p := ⟨a + 2, 0, none⟩) (by show a + 2 < _; omega)).trans h7
  have hF2 : (w.alloc (.cells #[.int .i64 p.keep, .int .i64 p.drop, .string ⟨p.put.toArray⟩] 40)).frozen? ⟨a + 2, 0, none⟩ = false := (hb0'.frozen (p := ⟨a + 2, 0, none⟩) (by show a + 2 < _; omega)).trans h8
  have hD3 : (w.alloc (.cells #[.int .i64 p.keep, .int .i64 p.drop, .string ⟨p.put.toArray⟩] 40)).cell? ⟨a + 3, 0, none⟩ = some (.func (.func 39) #[] #[.pointer (some ⟨a + 1, 0, none⟩), .pointer (some ⟨a, 0, none⟩), .pointer (some ⟨a + 2, 0, none⟩)]) := (hb0'.cell (p := ⟨a + 3, 0, none⟩) (by show a + 3 < _; omega)).trans h9
  have HP : Hid ((w.alloc (.cells #[.int .i64 p.keep, .int .i64 p.drop, .string ⟨p.put.toArray⟩] 40)).ownsRow M 5 1 (.slice p' s.put.length c') s.put.length (Lib.byteCells s.put)) := hP
  have HX : Hid (∀ w1 v1, w1.ownsRow M 5 1 v1 (s.put.length + (ByteArray.mk p.put.toArray).size) (Lib.byteCells s.put ++ Lib.strCells ⟨p.put.toArray⟩) → (w.alloc (.cells #[.int .i64 p.keep, .int .i64 p.drop, .string ⟨p.put.toArray⟩] 40)).grownBy w1 (Value.slice p' s.put.length c').ownBlock →
      gath M ((w1.setCell ⟨a + 1, 0, none⟩ v1).setCell ⟨a + 2, 0, none⟩ (.int .i64 (s.drop + p.drop))) a ⟨s.out, s.put ++ p.put, s.drop + p.drop⟩ ∧ BelowG M a w ((w1.setCell ⟨a + 1, 0, none⟩ v1).setCell ⟨a + 2, 0, none⟩ (.int .i64 (s.drop + p.drop))) ∧
      spare ((w1.setCell ⟨a + 1, 0, none⟩ v1).setCell ⟨a + 2, 0, none⟩ (.int .i64 (s.drop + p.drop))) a w.heap.size ∧
      w1.cell? ⟨a + 1, 0, none⟩ = some (.slice p' s.put.length c') ∧ w1.frozen? ⟨a + 1, 0, none⟩ = false ∧ w1.cell? ⟨a + 2, 0, none⟩ = some (.int .i64 s.drop) ∧ w1.frozen? ⟨a + 2, 0, none⟩ = false ∧
      w1.cell? ⟨a + 3, 0, none⟩ = some (.func (.func 39) #[] #[.pointer (some ⟨a + 1, 0, none⟩), .pointer (some ⟨a, 0, none⟩), .pointer (some ⟨a + 2, 0, none⟩)]) ∧
      (∀ o, w1.cell? ⟨w.heap.size, o, none⟩ = (w.alloc (.cells #[.int .i64 p.keep, .int .i64 p.drop, .string ⟨p.put.toArray⟩] 40)).cell? ⟨w.heap.size, o, none⟩) ∧ w.heap.size < w1.heap.size) := by
    intro w1 v1 q1 q2
    have hz : (ByteArray.mk p.put.toArray).size = p.put.length := by simp [ByteArray.size]
    rw [hz] at q1
    obtain ⟨g1, g2, g3, g4⟩ := gath_puts (q := p.put) HG0.out hC q1 q2
    obtain ⟨g5, g6⟩ := gath_drop g1 (s.drop + p.drop)
    have hlow : ∀ k, (Value.slice p' s.put.length c').ownBlock = some k → a + 4 ≤ k := fun k hk => Nat.le_trans hM (hP.lt k hk).1
    have hbb : Below (a + 4) (w.alloc (.cells #[.int .i64 p.keep, .int .i64 p.drop, .string ⟨p.put.toArray⟩] 40)) w1 := (Below.refl _ _).grown q2 (by rw [World.size_alloc]; omega) hlow
    have hsz := q2.size
    rw [World.size_alloc] at hsz
    refine ⟨g5, HB0.out.trans (g2.trans g6), ⟨by simp; omega, hlt, ?_⟩, g3, g4, (hbb.cell (p := ⟨a + 2, 0, none⟩) (by show a + 2 < _; omega)).trans hD2, (hbb.frozen (p := ⟨a + 2, 0, none⟩) (by show a + 2 < _; omega)).trans hF2, (hbb.cell (p := ⟨a + 3, 0, none⟩) (by show a + 3 < _; omega)).trans hD3, ?_, by omega⟩
    · intro v hv
      rw [cell_set_ne (by omega), cell_set_ne (by omega), (hbb.cell (p := ⟨a, 0, none⟩) (by show a < _; omega)), hC0] at hv
      obtain rfl := Option.some.inj hv
      intro e
      have := HL1.out _ e
      omega
    · intro o
      exact World.cell?_of_block (a := ⟨w.heap.size, o, none⟩) (q2.block w.heap.size (by rw [World.size_alloc]; omega) (by intro e; have := HL2.out _ e.symm; omega))
  clear h2 h5 hP hC hC0 hD2 hF2 hD3 hb0' h1 h3 h6 h7 h8 h9
  have n0 : a + 1 < w.heap.size := by omega
  have HZ : Hid ((ByteArray.mk p.put.toArray).size = p.put.length) := by show _ = _; simp [ByteArray.size]
  have n1 : ¬ (a + 1 = w.heap.size) := by omega
  have n2 : ¬ (w.heap.size = a + 1) := by omega
  have n3 : ¬ (a + 2 = w.heap.size) := by omega
  have n4 : ¬ (w.heap.size = a + 2) := by omega
  have hwrap : IntKind.i64.wrap (s.drop + p.drop) = s.drop + p.drop := by rw [IntKind.wrap_i64]; omega
  unfold partV
  go_enter Tryd.func40, Tryd.ntmps40
  go_wp2_with (first | (at_builtin; refine Lib.wpList_append_own_string _ rfl _ _ 62 9 rfl M 5 i1 Tryd.underlying62 Tryd.underlying9 hj hy0 hy1 hy2 _ _ _ rfl HP.out _ rfl (by rw [HZ.out]; unfold maxLen; omega) (by rw [HZ.out]; omega) (by simp; omega) ?_) | fail)
  intro v1 w1 hown1 hg1 _
  have R := HX.out w1 v1 hown1 hg1
  obtain ⟨pv, cv, rfl⟩ := own_slice hown1
  obtain ⟨G2, B2, S2, r1, r2, r3, r4, r5, r6, r7⟩ := R
  have y0 := (r6 0).trans x0
  have y1 := (r6 1).trans x1
  have HG2 : Hid _ := G2
  have HB2 : Hid _ := B2
  have HS2 : Hid _ := S2
  clear hown1 hg1 x0 x1 r6 G2 B2 S2 HX HL1 HL2 HP HG0 HB0 h4
  have hkb : (p.keep == 0) = false := beq_eq_false_iff_ne.2 hk
  go_wp2_with (first | (go_at_call 9999) | fail)
  refine (tell_any a _ _ HG2.out (by show s.out.length < _; omega) (by show (s.put ++ p.put).length < _; rw [List.length_append]; exact hput)).mono ?_
  rintro e w3 ⟨⟨v3, rfl⟩, G3, B3, S3⟩
  have hS3 := S3 _ HS2.out
  have z0 : w3.cell? ⟨w.heap.size, 0, none⟩ = some (.int .i64 p.keep) := (World.cell?_of_block (a := ⟨w.heap.size, 0, none⟩) hS3).trans (by rw [cell_set_ne (by omega), cell_set_ne (by omega)]; exact y0)
  rw [hL] at G3
  have HB3 : Hid (BelowG M a w w3) := HB2.out.trans B3
  have hs3 : w.heap.size ≤ w3.heap.size := HB3.out.size
  clear S3 hS3 B3 HB2 HS2 HG2 y0 y1 r1 r2 r3 r4 r5 r7
  obtain ⟨m, hm⟩ : ∃ m, m = init.length := ⟨_, rfl⟩
  have hLn : L.length = m + 1 := by rw [hLq, hm]; simp
  have HLN : Hid (L.length = m + 1) := hLn
  have hbig : m + 1 < 1000000000 := by
    have h1 : L.length ≤ s.out.length + 2 := by
      rw [← hL, tellP]
      simp only [List.length_append]
      split <;> split <;> simp
    omega
  have HG3 : Hid (gath M w3 a ⟨L, [], 0⟩) := G3
  have hlt3 := gath_lt G3
  obtain ⟨⟨p3, c3, u1, u2⟩, u3, _, _, _, _, _⟩ := G3
  have u1' : w3.cell? ⟨a, 0, none⟩ = some (.slice p3 (m + 1) c3) := by rw [← hLn]; exact u1
  have u2' : w3.ownsRow M 40 3 (.slice p3 (m + 1) c3) (m + 1) (cellsP L) := by rw [← hLn]; exact u2
  obtain ⟨g, rfl⟩ : ∃ g, p3 = some ⟨g, 0, none⟩ := by
    rcases u2'.2 with ⟨_, h0⟩ | ⟨g, cap, cur, hv, _⟩
    · exact absurd h0 (by omega)
    · simp only [Value.slice.injEq] at hv
      exact ⟨g, hv.1⟩
  have hgl := (u2'.lt g rfl)
  have hlc := last_cells (by rw [hLq] at u2'; exact u2') (show m + 1 = _ by rw [← hLq]; exact hLn.symm)
  rw [← hm] at hlc
  obtain ⟨l0, l1, l2, l3⟩ := hlc
  have HU2 : Hid (w3.ownsRow M 40 3 (.slice (some ⟨g, 0, none⟩) (m + 1) c3) (m + 1) (cellsP L)) := u2'
  have HL0 : Hid (w3.cell? ⟨g, m * 3, none⟩ = some (.int .i64 q.keep)) := l0
  have hwm : IntKind.i64.wrap (((m + 1 : Nat) : Int) - 1) = (m : Int) := by rw [IntKind.wrap_i64]; omega
  have hge : (0 : Int) ≤ (m : Int) := by omega
  have hlm : (m : Int) < ((m + 1 : Nat) : Int) := by omega
  have HM : Hid (m = init.length) := hm
  have HLQ : Hid (L = init ++ [q]) := hLq
  clear u1 u2 u2' hLn hm hLq
  go_wp2_with (first | (go_at_call 9999) | fail)
  refine (isKeep_any q _).mono ?_
  rintro e w4 ⟨rfl, hb4⟩
  have G4 := gath_below HG3.out hb4
  have HG4 : Hid (gath M w4 a ⟨L, [], 0⟩) := G4
  have HB4 : Hid (BelowG M a w w4) := HB3.out.trans (.of hb4 (by omega))
  have s0 := (hb4.cell (p := ⟨w.heap.size, 0, none⟩) (World.block_lt_of_cell? w3 _ z0)).trans z0
  have s1 := (hb4.cell (p := ⟨a, 0, none⟩) (World.block_lt_of_cell? w3 _ u1')).trans u1'
  have sF := (hb4.frozen (p := ⟨a, 0, none⟩) (World.block_lt_of_cell? w3 _ u1')).trans u3
  have s2 := (hb4.cell (p := ⟨g, m * 3, none⟩) (World.block_lt_of_cell? w3 _ l0)).trans l0
  have s3 := (hb4.frozen (p := ⟨g, m * 3, none⟩) (World.block_lt_of_cell? w3 _ l0)).trans l3
  have s4 := own_below HU2.out hb4
  have HS4 : Hid (w4.ownsRow M 40 3 (.slice (some ⟨g, 0, none⟩) (m + 1) c3) (m + 1) (cellsP L)) := s4
  have HS1 : Hid (w4.cell? ⟨a, 0, none⟩ = some (.slice (some ⟨g, 0, none⟩) (m + 1) c3)) := s1
  have hs4 := hb4.size
  clear hb4 s4 G4 u1' u3 l0 l1 l2 l3 z0
  have hqd : decide (0 < q.keep) = false := decide_eq_false (by omega)
  rw [hqd]
  go_wp2_with (first | (at_builtin; refine wpList_append_own_at _ rfl _ _ 23 rfl M 40 i0 (.agg #[.int .i64 0, .int .i64 0, .string ⟨#[]⟩]) 3 32 Tryd.underlying23 hi hz0 hz1 hz2 rfl (by decide) _ _ _ rfl (HS4.out.alloc _) ⟨w4.heap.size, 0, none⟩ 1 1 (partCells ⟨p.keep, 0, []⟩) rfl rfl (cells_new _ _ _) (partCells_one _) (by unfold maxLen; omega) (by omega) (by first | omega | (simp; omega)) ?_) | fail)
  intro v5 w5 hown5 hg5 _ _
  have P5 := gath_push (q := ⟨p.keep, 0, []⟩) HG4.out (show w4.cell? ⟨a, 0, none⟩ = some (.slice (some ⟨g, 0, none⟩) L.length c3) by rw [HLN.out]; exact HS1.out) (by show World.ownsRow _ _ _ _ _ (L.length + 1) _; rw [HLN.out]; exact hown5) (by show World.grownBy _ _ (Value.slice _ L.length _).ownBlock; rw [HLN.out]; exact hg5)
  obtain ⟨p5, q5, rfl⟩ := own_slice hown5
  obtain ⟨G5, B5, t1, t2⟩ := P5
  have HG5 : Hid _ := G5
  have HB5 : Hid _ := B5
  have t1' : w5.cell? ⟨a, 0, none⟩ = some (.slice (some ⟨g, 0, none⟩) (m + 1) c3) := by rw [t1]; show some (Value.slice _ L.length _) = _; rw [HLN.out]
  clear hown5 hg5 G5 B5 s0 s1 s2 s3 sF t1
  go_wp2
  go_end0
  exact ⟨⟨_, rfl⟩, HG5.out, HB4.out.trans HB5.out⟩

set_option maxRecDepth 100000 in
set_option maxHeartbeats 2000000 in
theorem addO_more {M : Nat} (a : Nat) (s : NSt) (p : Pt) (w : World) (h : gath M w a s) (hput : s.put.length + p.put.length < 1000000000) (hd : -9223372036854775808 ≤ s.drop + p.drop) (hd' : s.drop + p.drop < 9223372036854775808) (hout : s.out.length < 100000000)
    (hk : p.keep ≠ 0) (L : List Pt) (hL : tellP ⟨s.out, s.put ++ p.put, s.drop + p.drop⟩ = L) (init : List Pt) (q : Pt) (hLq : L = init ++ [q]) (hq : 0 < q.keep) (hb0 : -9223372036854775808 ≤ q.keep + p.keep) (hb1 : q.keep + p.keep < 9223372036854775808) :
    Calls Tryd.prog 40 #[(partV p), .pointer (some ⟨a + 1, 0, none⟩), .pointer (some ⟨a + 2, 0, none⟩), .pointer (some ⟨a + 3, 0, none⟩), .pointer (some ⟨a, 0, none⟩)] w fun e w' => (∃ v, e = .returned v) ∧ gath M w' a ⟨init ++ [⟨q.keep + p.keep, q.drop, q.put⟩], [], 0⟩ ∧ BelowG M a w w' := by
  have hM := h.le
  have hT := h.top
  obtain ⟨i0, hi, hz0, hz1, hz2⟩ := info_parts info_part
  obtain ⟨i1, hj, hy0, hy1, hy2⟩ := info_parts info_u8
  have hlt := gath_lt h
  have hb0' : Below w.heap.size w (w.alloc (.cells #[.int .i64 p.keep, .int .i64 p.drop, .string ⟨p.put.toArray⟩] 40)) := (Below.refl _ _).alloc (Nat.le_refl _) _
  have HG0 : Hid (gath M (w.alloc (.cells #[.int .i64 p.keep, .int .i64 p.drop, .string ⟨p.put.toArray⟩] 40)) a s) := gath_below h hb0'
  have HB0 : Hid (BelowG M a w (w.alloc (.cells #[.int .i64 p.keep, .int .i64 p.drop, .string ⟨p.put.toArray⟩] 40))) := .of hb0' (by omega)
  have x0 : (w.alloc (.cells #[.int .i64 p.keep, .int .i64 p.drop, .string ⟨p.put.toArray⟩] 40)).cell? ⟨w.heap.size, 0, none⟩ = some (.int .i64 p.keep) := by simp [go_sem]
  have x1 : (w.alloc (.cells #[.int .i64 p.keep, .int .i64 p.drop, .string ⟨p.put.toArray⟩] 40)).cell? ⟨w.heap.size, 1, none⟩ = some (.int .i64 p.drop) := by simp [go_sem]
  obtain ⟨⟨pp, c, h1, h2⟩, h3, ⟨p', c', h4, h5⟩, h6, h7, h8, h9⟩ := h
  have HL1 : Hid (∀ k, (Value.slice pp s.out.length c).ownBlock = some k → k < w.heap.size) := fun k hk' => (h2.lt k hk').2
  have HL2 : Hid (∀ k, (Value.slice p' s.put.length c').ownBlock = some k → k < w.heap.size) := fun k hk' => (h5.lt k hk').2
  have hP : (w.alloc (.cells #[.int .i64 p.keep, .int .i64 p.drop, .string ⟨p.put.toArray⟩] 40)).ownsRow M 5 1 (.slice p' s.put.length c') s.put.length (Lib.byteCells s.put) := h5.alloc _
  have hC : (w.alloc (.cells #[.int .i64 p.keep, .int .i64 p.drop, .string ⟨p.put.toArray⟩] 40)).cell? ⟨a + 1, 0, none⟩ = some (.slice p' s.put.length c') := (hb0'.cell (p := ⟨a + 1, 0, none⟩) (by show a + 1 < _; omega)).trans h4
  have hC0 : (w.alloc (.cells #[.int .i64 p.keep, .int .i64 p.drop, .string ⟨p.put.toArray⟩] 40)).cell? ⟨a, 0, none⟩ = some (.slice pp s.out.length c) := (hb0'.cell (p := ⟨a, 0, none⟩) (by show a < _; omega)).trans h1
  have hD2 : (w.alloc (.cells #[.int .i64 p.keep, .int .i64 p.drop, .string ⟨p.put.toArray⟩] 40)).cell? ⟨a + 2, 0, none⟩ = some (.int .i64 s.drop) := (hb0'.cell (p := ⟨a + 2, 0, none⟩) (by show a + 2 < _; omega)).trans h7
  have hF2 : (w.alloc (.cells #[.int .i64 p.keep, .int .i64 p.drop, .string ⟨p.put.toArray⟩] 40)).frozen? ⟨a + 2, 0, none⟩ = false := (hb0'.frozen (p := ⟨a + 2, 0, none⟩) (by show a + 2 < _; omega)).trans h8
  have hD3 : (w.alloc (.cells #[.int .i64 p.keep, .int .i64 p.drop, .string ⟨p.put.toArray⟩] 40)).cell? ⟨a + 3, 0, none⟩ = some (.func (.func 39) #[] #[.pointer (some ⟨a + 1, 0, none⟩), .pointer (some ⟨a, 0, none⟩), .pointer (some ⟨a + 2, 0, none⟩)]) := (hb0'.cell (p := ⟨a + 3, 0, none⟩) (by show a + 3 < _; omega)).trans h9
  have HP : Hid ((w.alloc (.cells #[.int .i64 p.keep, .int .i64 p.drop, .string ⟨p.put.toArray⟩] 40)).ownsRow M 5 1 (.slice p' s.put.length c') s.put.length (Lib.byteCells s.put)) := hP
  have HX : Hid (∀ w1 v1, w1.ownsRow M 5 1 v1 (s.put.length + (ByteArray.mk p.put.toArray).size) (Lib.byteCells s.put ++ Lib.strCells ⟨p.put.toArray⟩) → (w.alloc (.cells #[.int .i64 p.keep, .int .i64 p.drop, .string ⟨p.put.toArray⟩] 40)).grownBy w1 (Value.slice p' s.put.length c').ownBlock →
      gath M ((w1.setCell ⟨a + 1, 0, none⟩ v1).setCell ⟨a + 2, 0, none⟩ (.int .i64 (s.drop + p.drop))) a ⟨s.out, s.put ++ p.put, s.drop + p.drop⟩ ∧ BelowG M a w ((w1.setCell ⟨a + 1, 0, none⟩ v1).setCell ⟨a + 2, 0, none⟩ (.int .i64 (s.drop + p.drop))) ∧
      spare ((w1.setCell ⟨a + 1, 0, none⟩ v1).setCell ⟨a + 2, 0, none⟩ (.int .i64 (s.drop + p.drop))) a w.heap.size ∧
      w1.cell? ⟨a + 1, 0, none⟩ = some (.slice p' s.put.length c') ∧ w1.frozen? ⟨a + 1, 0, none⟩ = false ∧ w1.cell? ⟨a + 2, 0, none⟩ = some (.int .i64 s.drop) ∧ w1.frozen? ⟨a + 2, 0, none⟩ = false ∧
      w1.cell? ⟨a + 3, 0, none⟩ = some (.func (.func 39) #[] #[.pointer (some ⟨a + 1, 0, none⟩), .pointer (some ⟨a, 0, none⟩), .pointer (some ⟨a + 2, 0, none⟩)]) ∧
      (∀ o, w1.cell? ⟨w.heap.size, o, none⟩ = (w.alloc (.cells #[.int .i64 p.keep, .int .i64 p.drop, .string ⟨p.put.toArray⟩] 40)).cell? ⟨w.heap.size, o, none⟩) ∧ w.heap.size < w1.heap.size) := by
    intro w1 v1 q1 q2
    have hz : (ByteArray.mk p.put.toArray).size = p.put.length := by simp [ByteArray.size]
    rw [hz] at q1
    obtain ⟨g1, g2, g3, g4⟩ := gath_puts (q := p.put) HG0.out hC q1 q2
    obtain ⟨g5, g6⟩ := gath_drop g1 (s.drop + p.drop)
    have hlow : ∀ k, (Value.slice p' s.put.length c').ownBlock = some k → a + 4 ≤ k := fun k hk => Nat.le_trans hM (hP.lt k hk).1
    have hbb : Below (a + 4) (w.alloc (.cells #[.int .i64 p.keep, .int .i64 p.drop, .string ⟨p.put.toArray⟩] 40)) w1 := (Below.refl _ _).grown q2 (by rw [World.size_alloc]; omega) hlow
    have hsz := q2.size
    rw [World.size_alloc] at hsz
    refine ⟨g5, HB0.out.trans (g2.trans g6), ⟨by simp; omega, hlt, ?_⟩, g3, g4, (hbb.cell (p := ⟨a + 2, 0, none⟩) (by show a + 2 < _; omega)).trans hD2, (hbb.frozen (p := ⟨a + 2, 0, none⟩) (by show a + 2 < _; omega)).trans hF2, (hbb.cell (p := ⟨a + 3, 0, none⟩) (by show a + 3 < _; omega)).trans hD3, ?_, by omega⟩
    · intro v hv
      rw [cell_set_ne (by omega), cell_set_ne (by omega), (hbb.cell (p := ⟨a, 0, none⟩) (by show a < _; omega)), hC0] at hv
      obtain rfl := Option.some.inj hv
      intro e
      have := HL1.out _ e
      omega
    · intro o
      exact World.cell?_of_block (a := ⟨w.heap.size, o, none⟩) (q2.block w.heap.size (by rw [World.size_alloc]; omega) (by intro e; have := HL2.out _ e.symm; omega))
  clear h2 h5 hP hC hC0 hD2 hF2 hD3 hb0' h1 h3 h6 h7 h8 h9
  have n0 : a + 1 < w.heap.size := by omega
  have HZ : Hid ((ByteArray.mk p.put.toArray).size = p.put.length) := by show _ = _; simp [ByteArray.size]
  have n1 : ¬ (a + 1 = w.heap.size) := by omega
  have n2 : ¬ (w.heap.size = a + 1) := by omega
  have n3 : ¬ (a + 2 = w.heap.size) := by omega
  have n4 : ¬ (w.heap.size = a + 2) := by omega
  have hwrap : IntKind.i64.wrap (s.drop + p.drop) = s.drop + p.drop := by rw [IntKind.wrap_i64]; omega
  unfold partV
  go_enter Tryd.func40, Tryd.ntmps40
  go_wp2_with (first | (at_builtin; refine Lib.wpList_append_own_string _ rfl _ _ 62 9 rfl M 5 i1 Tryd.underlying62 Tryd.underlying9 hj hy0 hy1 hy2 _ _ _ rfl HP.out _ rfl (by rw [HZ.out]; unfold maxLen; omega) (by rw [HZ.out]; omega) (by simp; omega) ?_) | fail)
  intro v1 w1 hown1 hg1 _
  have R := HX.out w1 v1 hown1 hg1
  obtain ⟨pv, cv, rfl⟩ := own_slice hown1
  obtain ⟨G2, B2, S2, r1, r2, r3, r4, r5, r6, r7⟩ := R
  have y0 := (r6 0).trans x0
  have y1 := (r6 1).trans x1
  have HG2 : Hid _ := G2
  have HB2 : Hid _ := B2
  have HS2 : Hid _ := S2
  clear hown1 hg1 x0 x1 r6 G2 B2 S2 HX HL1 HL2 HP HG0 HB0 h4
  have hkb : (p.keep == 0) = false := beq_eq_false_iff_ne.2 hk
  go_wp2_with (first | (go_at_call 9999) | fail)
  refine (tell_any a _ _ HG2.out (by show s.out.length < _; omega) (by show (s.put ++ p.put).length < _; rw [List.length_append]; exact hput)).mono ?_
  rintro e w3 ⟨⟨v3, rfl⟩, G3, B3, S3⟩
  have hS3 := S3 _ HS2.out
  have z0 : w3.cell? ⟨w.heap.size, 0, none⟩ = some (.int .i64 p.keep) := (World.cell?_of_block (a := ⟨w.heap.size, 0, none⟩) hS3).trans (by rw [cell_set_ne (by omega), cell_set_ne (by omega)]; exact y0)
  rw [hL] at G3
  have HB3 : Hid (BelowG M a w w3) := HB2.out.trans B3
  have hs3 : w.heap.size ≤ w3.heap.size := HB3.out.size
  clear S3 hS3 B3 HB2 HS2 HG2 y0 y1 r1 r2 r3 r4 r5 r7
  obtain ⟨m, hm⟩ : ∃ m, m = init.length := ⟨_, rfl⟩
  have hLn : L.length = m + 1 := by rw [hLq, hm]; simp
  have HLN : Hid (L.length = m + 1) := hLn
  have hbig : m + 1 < 1000000000 := by
    have h1 : L.length ≤ s.out.length + 2 := by
      rw [← hL, tellP]
      simp only [List.length_append]
      split <;> split <;> simp
    omega
  have HG3 : Hid (gath M w3 a ⟨L, [], 0⟩) := G3
  have hlt3 := gath_lt G3
  obtain ⟨⟨p3, c3, u1, u2⟩, u3, _, _, _, _, _⟩ := G3
  have u1' : w3.cell? ⟨a, 0, none⟩ = some (.slice p3 (m + 1) c3) := by rw [← hLn]; exact u1
  have u2' : w3.ownsRow M 40 3 (.slice p3 (m + 1) c3) (m + 1) (cellsP L) := by rw [← hLn]; exact u2
  obtain ⟨g, rfl⟩ : ∃ g, p3 = some ⟨g, 0, none⟩ := by
    rcases u2'.2 with ⟨_, h0⟩ | ⟨g, cap, cur, hv, _⟩
    · exact absurd h0 (by omega)
    · simp only [Value.slice.injEq] at hv
      exact ⟨g, hv.1⟩
  have hgl := (u2'.lt g rfl)
  have hlc := last_cells (by rw [hLq] at u2'; exact u2') (show m + 1 = _ by rw [← hLq]; exact hLn.symm)
  rw [← hm] at hlc
  obtain ⟨l0, l1, l2, l3⟩ := hlc
  have HU2 : Hid (w3.ownsRow M 40 3 (.slice (some ⟨g, 0, none⟩) (m + 1) c3) (m + 1) (cellsP L)) := u2'
  have HL0 : Hid (w3.cell? ⟨g, m * 3, none⟩ = some (.int .i64 q.keep)) := l0
  have hwm : IntKind.i64.wrap (((m + 1 : Nat) : Int) - 1) = (m : Int) := by rw [IntKind.wrap_i64]; omega
  have hge : (0 : Int) ≤ (m : Int) := by omega
  have hlm : (m : Int) < ((m + 1 : Nat) : Int) := by omega
  have HM : Hid (m = init.length) := hm
  have HLQ : Hid (L = init ++ [q]) := hLq
  clear u1 u2 u2' hLn hm hLq
  go_wp2_with (first | (go_at_call 9999) | fail)
  refine (isKeep_any q _).mono ?_
  rintro e w4 ⟨rfl, hb4⟩
  have G4 := gath_below HG3.out hb4
  have HG4 : Hid (gath M w4 a ⟨L, [], 0⟩) := G4
  have HB4 : Hid (BelowG M a w w4) := HB3.out.trans (.of hb4 (by omega))
  have s0 := (hb4.cell (p := ⟨w.heap.size, 0, none⟩) (World.block_lt_of_cell? w3 _ z0)).trans z0
  have s1 := (hb4.cell (p := ⟨a, 0, none⟩) (World.block_lt_of_cell? w3 _ u1')).trans u1'
  have sF := (hb4.frozen (p := ⟨a, 0, none⟩) (World.block_lt_of_cell? w3 _ u1')).trans u3
  have s2 := (hb4.cell (p := ⟨g, m * 3, none⟩) (World.block_lt_of_cell? w3 _ l0)).trans l0
  have s3 := (hb4.frozen (p := ⟨g, m * 3, none⟩) (World.block_lt_of_cell? w3 _ l0)).trans l3
  have s4 := own_below HU2.out hb4
  have HS4 : Hid (w4.ownsRow M 40 3 (.slice (some ⟨g, 0, none⟩) (m + 1) c3) (m + 1) (cellsP L)) := s4
  have HS1 : Hid (w4.cell? ⟨a, 0, none⟩ = some (.slice (some ⟨g, 0, none⟩) (m + 1) c3)) := s1
  have hs4 := hb4.size
  clear hb4 s4 G4 u1' u3 l0 l1 l2 l3 z0
  have hqd : decide (0 < q.keep) = true := decide_eq_true (by omega)
  rw [hqd]
  have hwk : IntKind.i64.wrap (q.keep + p.keep) = q.keep + p.keep := by rw [IntKind.wrap_i64]; omega
  have HG5 : Hid (gath M w4.drew a ⟨init ++ [q], [], 0⟩) := by
    have := gath_below HG4.out (Below.refl _ w4).drew
    rw [HLQ.out] at this
    exact this
  have P5 := gath_more (k := q.keep + p.keep) HG5.out (show w4.drew.cell? ⟨a, 0, none⟩ = some (.slice (some ⟨g, 0, none⟩) (m + 1) c3) from HS1.out) (by rw [← HLQ.out]; exact HLN.out.symm)
  rw [← HM.out] at P5
  have HP5 : Hid _ := P5
  have HBD : Hid (BelowG M a w w4.drew) := HB4.out.drew
  clear P5
  go_wp2
  go_region
  all_goals
    go_wp2
    refine bodyPost_ret (results_none rfl _ _ _) rfl ?_
    exact ⟨⟨_, rfl⟩, HP5.out.1, HBD.out.trans HP5.out.2⟩

theorem add_anyG {M : Nat} (a : Nat) (s : NSt) (p : Pt) (w : World) (h : gath M w a s) (hput : s.put.length + p.put.length < 1000000000) (hd : 0 ≤ s.drop) (hd' : s.drop + p.drop < 4611686018427387904) (hp : 0 ≤ p.drop) (hk : 0 ≤ p.keep) (hout : s.out.length < 100000000)
    (hkb : ∀ q ∈ s.out, 0 ≤ q.keep ∧ q.keep + p.keep < 4611686018427387904) (hkk : p.keep < 4611686018427387904) :
    Calls Tryd.prog 40 #[partV p, .pointer (some ⟨a + 1, 0, none⟩), .pointer (some ⟨a + 2, 0, none⟩), .pointer (some ⟨a + 3, 0, none⟩), .pointer (some ⟨a, 0, none⟩)] w fun e w' => (∃ v, e = .returned v) ∧ gath M w' a (addP s p) ∧ BelowG M a w w' := by
  have hM := h.le
  have hT := h.top
  by_cases hk0 : p.keep = 0
  · have := add_zero a s p w h hput (by omega) (by omega) hout
    unfold addP partV
    rw [if_pos hk0, hk0]
    exact this
  · obtain ⟨L, hL⟩ : ∃ L, tellP ⟨s.out, s.put ++ p.put, s.drop + p.drop⟩ = L := ⟨_, rfl⟩
    unfold addP
    rw [if_neg hk0, hL]
    have hmem : ∀ q ∈ L, 0 ≤ q.keep ∧ q.keep + p.keep < 4611686018427387904 := by
      intro q hq
      rw [← hL, tellP] at hq
      simp only [List.mem_append] at hq
      rcases hq with hq | hq | hq
      · exact hkb q hq
      · split at hq
        · simp at hq
        · rw [List.mem_singleton.1 hq]; exact ⟨by simp, by simpa using hkk⟩
      · split at hq
        · simp at hq
        · rw [List.mem_singleton.1 hq]; exact ⟨by simp, by simpa using hkk⟩
    rcases List.eq_nil_or_concat L with hn | ⟨init, q, hLq⟩
    · have := add_only a s p w h hput (by omega) (by omega) hout hk0 L hL hn
      subst hn
      exact this
    · have hq := hmem q (by rw [hLq]; simp)
      have hgl : L.getLast? = some q := by rw [hLq]; simp
      by_cases hqk : 0 < q.keep
      · have := addO_more a s p w h hput (by omega) (by omega) hout hk0 L hL init q (by simpa using hLq) hqk (by omega) (by omega)
        have e : pushKeep L p.keep = init ++ [⟨q.keep + p.keep, q.drop, q.put⟩] := by simp [pushKeep, hqk, hLq]
        rw [e]
        exact this
      · have := add_behind a s p w h hput (by omega) (by omega) hout hk0 L hL init q (by simpa using hLq) hqk
        have e : pushKeep L p.keep = L ++ [⟨p.keep, 0, []⟩] := by simp [pushKeep, hgl, hqk]
        rw [e]
        exact this
theorem addO_any {M : Nat} (a : Nat) (s : NSt) (p : Pt) (w : World) (h : gath M w a s) (hput : s.put.length + p.put.length < 1000000000) (hd : 0 ≤ s.drop) (hd' : s.drop + p.drop < 4611686018427387904) (hp : 0 ≤ p.drop) (hk : 0 ≤ p.keep) (hout : s.out.length < 100000000)
    (hkb : ∀ q ∈ s.out, 0 ≤ q.keep ∧ q.keep + p.keep < 4611686018427387904) (hkk : p.keep < 4611686018427387904) :
    Calls Tryd.prog 40 #[partV p, .pointer (some ⟨a + 1, 0, none⟩), .pointer (some ⟨a + 2, 0, none⟩), .pointer (some ⟨a + 3, 0, none⟩), .pointer (some ⟨a, 0, none⟩)] w fun e w' => (∃ v, e = .returned v) ∧ gath M w' a (addP s p) ∧ Below a w w' :=
  (add_anyG a s p w h hput hd hd' hp hk hout hkb hkk).mono fun e w' h => ⟨h.1, h.2.1, h.2.2.below⟩
theorem done_any {M : Nat} (a : Nat) (s : NSt) (w : World) (h : gath M w a s) (hlen : s.out.length < 1000000000) (hput : s.put.length < 1000000000) :
    Calls Tryd.prog 41 #[.pointer (some ⟨a + 3, 0, none⟩), .pointer (some ⟨a, 0, none⟩)] w fun e w' => ∃ v, e = .returned v ∧ w'.ownsRow M 40 3 v (tellP s).length (cellsP (tellP s)) ∧ Below a w w' :=
  (done_anyG a s w h hlen hput).mono fun e w' h => (by obtain ⟨v, h1, h2, h3⟩ := h; exact ⟨v, h1, h2, h3.below⟩)
end Go.Proofs.YtedonckeomccpabDoor

namespace Go.Proofs.YtedonckeomccpabDoor
open Go.RowKit
set_option linter.unusedVariables false

/-- The slice v reads as the parts ps. -/
def opAt (w : World) (v : Value) (ps : List Pt) : Prop :=
  ∃ p c, v = .slice p ps.length c ∧ ps.length ≤ c ∧ c ≤ maxLen ∧ (ps ≠ [] → ∃ b o, p = some ⟨b, o, none⟩ ∧ b < w.heap.size ∧ ∀ i q, ps[i]? = some q →
    w.cell? ⟨b, o + i * 3, none⟩ = some (.int .i64 q.keep) ∧ w.cell? ⟨b, o + i * 3 + 1, none⟩ = some (.int .i64 q.drop) ∧ w.cell? ⟨b, o + i * 3 + 2, none⟩ = some (.string ⟨q.put.toArray⟩))
theorem opAt_below {w w' : World} {v : Value} {ps : List Pt} (h : opAt w v ps) {B : Nat} (hb : Below B w w') (hB : w.heap.size ≤ B) : opAt w' v ps := by
  obtain ⟨p, c, rfl, h1, h2, h3⟩ := h
  refine ⟨p, c, rfl, h1, h2, fun hne => ?_⟩
  obtain ⟨b, o, e1, e2, e3⟩ := h3 hne
  refine ⟨b, o, e1, Nat.lt_of_lt_of_le e2 hb.size, fun i q hi => ?_⟩
  obtain ⟨f1, f2, f3⟩ := e3 i q hi
  exact ⟨(hb.cell (p := ⟨b, o + i * 3, none⟩) (Nat.lt_of_lt_of_le e2 hB)).trans f1, (hb.cell (p := ⟨b, o + i * 3 + 1, none⟩) (Nat.lt_of_lt_of_le e2 hB)).trans f2, (hb.cell (p := ⟨b, o + i * 3 + 2, none⟩) (Nat.lt_of_lt_of_le e2 hB)).trans f3⟩

theorem cellsP_get (ps : List Pt) (i : Nat) (q : Pt) (hi : ps[i]? = some q) : ∀ j, j < 3 → (cellsP ps)[i * 3 + j]? = (partCells q)[j]? := by
  induction ps generalizing i with
  | nil => simp at hi
  | cons p ps ih =>
    intro j hj
    have e : cellsP (p :: ps) = partCells p ++ cellsP ps := rfl
    have hl : (partCells p).length = 3 := rfl
    rw [e]
    cases i with
    | zero =>
      simp only [List.getElem?_cons_zero, Option.some.injEq] at hi
      subst hi
      rw [Nat.zero_mul, Nat.zero_add, List.getElem?_append_left (by rw [hl]; exact hj)]
    | succ i =>
      rw [List.getElem?_append_right (by rw [hl]; omega), hl, ← ih i (by simpa using hi) j hj]
      congr 1
      omega

/-- A row of parts reads as them. -/
theorem opAt_own {w : World} {B : Nat} {v : Value} {ps : List Pt} (h : w.ownsRow B 40 3 v ps.length (cellsP ps)) : opAt w v ps := by
  have h' := h
  rcases h.2 with ⟨rfl, h2⟩ | ⟨g, cap, cur, rfl, h2, h3, h4, h5, h6, h7⟩
  · obtain rfl : ps = [] := List.eq_nil_of_length_eq_zero h2
    exact ⟨none, 0, rfl, Nat.le_refl _, Nat.zero_le _, fun h => absurd rfl h⟩
  · refine ⟨_, cap, rfl, h4, h5, fun _ => ⟨g, 0, rfl, (Array.getElem?_eq_some_iff.1 h3).1, fun i q hi => ?_⟩⟩
    have hlt := (List.getElem?_eq_some_iff.1 hi).1
    have hc := cellsP_get ps i q hi
    refine ⟨?_, ?_, ?_⟩
    · rw [Nat.zero_add, h'.cellAt _ (by omega)]; exact hc 0 (by omega)
    · rw [Nat.zero_add, h'.cellAt _ (by omega)]; exact hc 1 (by omega)
    · rw [Nat.zero_add, h'.cellAt _ (by omega)]; exact hc 2 (by omega)

def soundP (p : Pt) : Prop := 0 ≤ p.keep ∧ 0 ≤ p.drop
def wtP (p : Pt) : Int := p.keep + p.drop + p.put.length
def wts (ps : List Pt) : Int := (ps.map wtP).sum
theorem wts_snoc (ps : List Pt) (p : Pt) : wts (ps ++ [p]) = wts ps + wtP p := by simp [wts]
theorem wts_nonneg {ps : List Pt} (h : ∀ p ∈ ps, soundP p) : 0 ≤ wts ps := by
  induction ps with
  | nil => simp [wts]
  | cons p ps ih =>
    have h1 := h p (List.mem_cons_self ..)
    have h2 := ih fun q hq => h q (List.mem_cons_of_mem _ hq)
    unfold wts at h2 ⊢
    rw [List.map_cons, List.sum_cons]
    unfold soundP at h1
    have : 0 ≤ wtP p := by unfold wtP; omega
    omega
theorem wts_take {ps : List Pt} (h : ∀ p ∈ ps, soundP p) (k : Nat) : wts (ps.take k) ≤ wts ps := by
  have h1 : wts ps = wts (ps.take k) + wts (ps.drop k) := by
    unfold wts
    rw [← List.sum_append, ← List.map_append, List.take_append_drop]
  have h2 := wts_nonneg (ps := ps.drop k) fun q hq => h q (List.mem_of_mem_drop hq)
  omega

/-- What a gathering's numbers are at most. -/
structure Bd (s : NSt) (T : Int) (n : Nat) : Prop where
  put : (s.put.length : Int) ≤ T
  d0 : 0 ≤ s.drop
  dT : s.drop ≤ T
  keep : ∀ q ∈ s.out, 0 ≤ q.keep ∧ q.keep ≤ T
  len : s.out.length ≤ 3 * n
theorem bd0 : Bd nst0 0 0 := ⟨by simp [nst0], by simp [nst0], by simp [nst0], by simp [nst0], by simp [nst0]⟩
theorem Bd.add {s : NSt} {T : Int} {n : Nat} (h : Bd s T n) (p : Pt) (hp : soundP p) : Bd (addP s p) (T + wtP p) (n + 1) := by
  obtain ⟨k, d, q⟩ := p
  obtain ⟨p1, p2⟩ := hp
  obtain ⟨h1, h2, h3, h4, h5⟩ := h
  have hw : wtP ⟨k, d, q⟩ = k + d + q.length := rfl
  have e1 : (0 : Int) ≤ k := p1
  have e2 : (0 : Int) ≤ d := p2
  have hT : 0 ≤ T := Int.le_trans h2 h3
  rw [hw]
  unfold addP
  by_cases hk : k = 0
  · rw [if_pos hk]
    refine ⟨?_, ?_, ?_, ?_, ?_⟩
    · show ((s.put ++ q).length : Int) ≤ _
      rw [List.length_append]
      omega
    · show 0 ≤ s.drop + d; omega
    · show s.drop + d ≤ _; omega
    · intro x hx
      have := h4 x hx
      omega
    · show s.out.length ≤ _; omega
  · rw [if_neg hk]
    obtain ⟨L, hL⟩ : ∃ L, tellP ⟨s.out, s.put ++ q, s.drop + d⟩ = L := ⟨_, rfl⟩
    have hm : ∀ x ∈ L, 0 ≤ x.keep ∧ x.keep ≤ T := by
      intro x hx
      rw [← hL, tellP] at hx
      simp only [List.mem_append] at hx
      rcases hx with hx | hx | hx
      · exact h4 x hx
      · split at hx
        · simp at hx
        · rw [List.mem_singleton.1 hx]; exact ⟨by simp, hT⟩
      · split at hx
        · simp at hx
        · rw [List.mem_singleton.1 hx]; exact ⟨by simp, hT⟩
    have hl : L.length ≤ s.out.length + 2 := by
      rw [← hL, tellP]
      simp only [List.length_append]
      split <;> split <;> simp
    have key : (∀ x ∈ pushKeep L k, 0 ≤ x.keep ∧ x.keep ≤ T + k) ∧ (pushKeep L k).length ≤ L.length + 1 := by
      have hsnoc : (∀ x ∈ L ++ [⟨k, 0, []⟩], 0 ≤ x.keep ∧ x.keep ≤ T + k) ∧ (L ++ [(⟨k, 0, []⟩ : Pt)]).length ≤ L.length + 1 := by
        refine ⟨fun x hx => ?_, by simp⟩
        rcases List.mem_append.1 hx with hx | hx
        · have := hm x hx; omega
        · rw [List.mem_singleton.1 hx]; exact ⟨e1, by show k ≤ _; omega⟩
      unfold pushKeep
      split
      · rename_i q0 hq0
        split
        · rename_i hq1
          have hin : q0 ∈ L := List.mem_of_getLast? hq0
          have := hm q0 hin
          refine ⟨fun x hx => ?_, by simp⟩
          rcases List.mem_append.1 hx with hx | hx
          · have := hm x (List.dropLast_subset _ hx); omega
          · rw [List.mem_singleton.1 hx]; exact ⟨by show 0 ≤ q0.keep + k; omega, by show q0.keep + k ≤ _; omega⟩
        · exact hsnoc
      · exact hsnoc
    rw [hL]
    refine ⟨?_, by simp, ?_, ?_, ?_⟩
    · show ((0 : Nat) : Int) ≤ _; omega
    · show (0 : Int) ≤ _; omega
    · intro x hx
      have := key.1 x hx
      show 0 ≤ x.keep ∧ x.keep ≤ T + (k + d + q.length)
      omega
    · have := key.2
      show (pushKeep L k).length ≤ _
      omega
theorem bds (ps : List Pt) (h : ∀ p ∈ ps, soundP p) : Bd (ps.foldl addP nst0) (wts ps) ps.length := by
  have key : ∀ n, n ≤ ps.length → Bd ((ps.take n).foldl addP nst0) (wts (ps.take n)) n := by
    intro n
    induction n with
    | zero => intro _; exact bd0
    | succ n ih =>
      intro hn
      have := ih (by omega)
      rw [List.take_succ_eq_append_getElem (by omega), List.foldl_append, wts_snoc]
      exact this.add _ (h _ (List.getElem_mem _))
  have := key ps.length (Nat.le_refl _)
  rwa [List.take_length] at this

set_option maxRecDepth 100000 in
set_option maxHeartbeats 2000000 in
theorem Norm_any4 (v : Value) (ps : List Pt) (w : World) (hr : opAt w v ps) (hs : ∀ p ∈ ps, soundP p) (hw : wts ps < 1000000000) (hl : ps.length < 10000000) :
    Calls Tryd.prog 24 #[v] w fun e w' => ∃ v', e = .returned v' ∧ w'.ownsRow w.heap.size 40 3 v' (normP ps).length (cellsP (normP ps)) ∧ Below w.heap.size w w' ∧ w.heap.size + 4 ≤ w'.heap.size := by
  obtain ⟨p, c, rfl, r1, r2, r3⟩ := hr
  obtain ⟨n, hn⟩ : ∃ n, n = ps.length := ⟨_, rfl⟩
  rw [← hn] at r1 hl ⊢
  have HN : Hid (n = ps.length) := hn
  clear hn
  have R3 : Hid (ps ≠ [] → ∃ b o, p = some ⟨b, o, none⟩ ∧ b < w.heap.size ∧ ∀ i q, ps[i]? = some q →
    w.cell? ⟨b, o + i * 3, none⟩ = some (.int .i64 q.keep) ∧ w.cell? ⟨b, o + i * 3 + 1, none⟩ = some (.int .i64 q.drop) ∧ w.cell? ⟨b, o + i * 3 + 2, none⟩ = some (.string ⟨q.put.toArray⟩)) := r3
  have HS : Hid (∀ p ∈ ps, soundP p) := hs
  have HW : Hid (wts ps < 1000000000) := hw
  clear r3 hs hw
  go_enter Tryd.func24, Tryd.ntmps24
  go_wp2_with (first | (go_at_call 19; refine (gather_any w).mono ?_; rintro e w1 ⟨rfl, hG1, hz1, hb1⟩; have HG1 : Hid (gath (w.heap.size + 4) w1 w.heap.size nst0) := hG1 _ _ (Below.refl _ _) (Nat.le_refl _) (by omega); clear hz1; have HB1 : Hid (Below w.heap.size w w1) := hb1; clear hG1 hb1) | fail)
  go_loopw [13] (fun i wr => ∃ (k : Nat), k ≤ n ∧ i = .int .i64 k ∧ gath (w.heap.size + 4) wr w.heap.size ((ps.take k).foldl addP nst0) ∧ Below w.heap.size w wr) (fun i _ => n - (intOf i).toNat)
  case atStart => exact ⟨0, Nat.zero_le _, rfl, HG1.out, HB1.out⟩
  case round =>
    obtain ⟨k, hk, rfl, hg, hwr⟩ := hrel
    by_cases hlt : k < n
    · have hkr : k < ps.length := by rw [← HN.out]; exact hlt
      have hne : ps ≠ [] := by intro e; rw [e] at hkr; exact absurd hkr (Nat.not_lt_zero _)
      obtain ⟨b, o, rfl, hbw, hcell⟩ := R3.out hne
      obtain ⟨c0, c1, c2⟩ := hcell k ps[k] (List.getElem?_eq_getElem hkr)
      have g0 := (hwr.cell (p := ⟨b, o + k * 3, none⟩) hbw).trans c0
      have g1 := (hwr.cell (p := ⟨b, o + k * 3 + 1, none⟩) hbw).trans c1
      have g2 := (hwr.cell (p := ⟨b, o + k * 3 + 2, none⟩) hbw).trans c2
      have hB := bds (ps.take k) fun q hq => HS.out q (List.mem_of_mem_take hq)
      have hB1 := bds (ps.take (k + 1)) fun q hq => HS.out q (List.mem_of_mem_take hq)
      have hT1 := wts_take HS.out (k + 1)
      have hT0 := wts_take HS.out k
      have hT2 := HW.out
      have hsp := HS.out ps[k] (List.getElem_mem _)
      have hts : ps.take (k + 1) = ps.take k ++ [ps[k]] := List.take_succ_eq_append_getElem hkr
      have hlk : (ps.take k).length ≤ k := by rw [List.length_take]; omega
      rw [hts, wts_snoc] at hT1
      have hnx : (ps.take (k + 1)).foldl addP nst0 = addP ((ps.take k).foldl addP nst0) ps[k] := by rw [hts, List.foldl_append]; rfl
      have hwp : wtP ps[k] = ps[k].keep + ps[k].drop + ps[k].put.length := rfl
      have HNX : Hid ((ps.take (k + 1)).foldl addP nst0 = addP ((ps.take k).foldl addP nst0) ps[k]) := hnx
      clear hcell c0 c1 c2 hts hnx hB1
      generalize ps[k] = q at *
      obtain ⟨s, hse⟩ : ∃ s, s = (ps.take k).foldl addP nst0 := ⟨_, rfl⟩
      rw [← hse] at hg hB HNX
      obtain ⟨sp1, sp2⟩ := hsp
      have hsize := hwr.size
      have CA : Hid (∀ wx, Below wr.heap.size wr wx → Calls Tryd.prog 40 #[partV q, .pointer (some ⟨w.heap.size + 1, 0, none⟩), .pointer (some ⟨w.heap.size + 2, 0, none⟩), .pointer (some ⟨w.heap.size + 3, 0, none⟩), .pointer (some ⟨w.heap.size, 0, none⟩)] wx fun e w' => (∃ v, e = .returned v) ∧ gath (w.heap.size + 4) w' w.heap.size (addP s q) ∧ Below w.heap.size wx w') := by
        intro wx hbx
        have h1 := hB.put
        have h2 := hB.d0
        have h3 := hB.dT
        have h5 := hB.len
        exact addO_any w.heap.size s q wx (gath_below hg hbx) (by omega) h2 (by omega) sp2 sp1 (by omega) (fun x hx => by have := hB.keep x hx; omega) (by omega)
      have HWR : Hid (Below w.heap.size w wr) := hwr
      unfold partV at CA
      clear hg hB hT1 hT0 hT2 hlk hwp hse sp1 sp2 hwr HG1 HB1
      go_wp2_with (first | (go_at_call 40; refine (CA.out _ ((Below.refl _ wr).alloc (Nat.le_refl _) _)).mono ?_; rintro e w2 ⟨⟨v2, rfl⟩, hg2, hb2⟩; have HG2 : Hid (gath (w.heap.size + 4) w2 w.heap.size (addP s q)) := hg2; have HB2 : Hid (Below w.heap.size w w2) := (HWR.out.alloc hsize _).trans hb2; clear hg2 hb2) | fail)
      go_roundw
      case rel => exact ⟨k + 1, by omega, by go_num, by rw [HNX.out]; exact HG2.out, HB2.out⟩
      case measure => simp [intOf]; omega
    · have e : ps.take k = ps := List.take_of_length_le (by rw [← HN.out]; omega)
      rw [e] at hg
      have hB := bds ps HS.out
      have hT2 := HW.out
      have cD : Hid (Calls Tryd.prog 41 #[.pointer (some ⟨w.heap.size + 3, 0, none⟩), .pointer (some ⟨w.heap.size, 0, none⟩)] wr fun e w' => ∃ v, e = .returned v ∧ w'.ownsRow (w.heap.size + 4) 40 3 v (normP ps).length (cellsP (normP ps)) ∧ Below w.heap.size wr w') :=
        done_any w.heap.size _ wr hg (by have := hB.len; have := HN.out; omega) (by have := hB.put; omega)
      have hlt4 := gath_lt hg
      clear e hg hB hT2 R3 HS HW HG1 HB1
      go_wp2_with (first | (go_at_call 41; refine cD.out.mono ?_; rintro e w2 ⟨v2, rfl, ho2, hb2⟩) | fail)
      obtain ⟨p2, q2, rfl⟩ := own_slice ho2
      go_ret
      exact ⟨_, rfl, own_mono ho2 (by omega), hwr.trans hb2, by have := hb2.size; omega⟩
theorem Norm_any (v : Value) (ps : List Pt) (w : World) (hr : opAt w v ps) (hs : ∀ p ∈ ps, soundP p) (hw : wts ps < 1000000000) (hl : ps.length < 10000000) :
    Calls Tryd.prog 24 #[v] w fun e w' => ∃ v', e = .returned v' ∧ w'.ownsRow w.heap.size 40 3 v' (normP ps).length (cellsP (normP ps)) ∧ Below w.heap.size w w' :=
  (Norm_any4 v ps w hr hs hw hl).mono fun e w' h => by obtain ⟨v', h1, h2, h3, _⟩ := h; exact ⟨v', h1, h2, h3⟩
end Go.Proofs.YtedonckeomccpabDoor

namespace Go.Proofs.YtedonckeomccpabDoor
open Go.RowKit
set_option linter.unusedVariables false

def lenW (s : Int × Int) (p : Pt) : Int × Int := (IntKind.i64.wrap (s.1 + IntKind.i64.wrap (p.keep + p.drop)), IntKind.i64.wrap (s.2 + IntKind.i64.wrap (p.keep + p.put.length)))
def lensW (ps : List Pt) : Int × Int := ps.foldl lenW (0, 0)

set_option maxRecDepth 100000 in
set_option maxHeartbeats 2000000 in
theorem Lens_any (v : Value) (ps : List Pt) (w : World) (hr : opAt w v ps) (hl : ps.length < 10000000) :
    Calls Tryd.prog 18 #[v] w fun e w' => e = .returned (.tuple #[.int .i64 (lensW ps).1, .int .i64 (lensW ps).2]) ∧ Below w.heap.size w w' := by
  obtain ⟨p, c, rfl, r1, r2, r3⟩ := hr
  obtain ⟨n, hn⟩ : ∃ n, n = ps.length := ⟨_, rfl⟩
  rw [← hn] at r1 hl ⊢
  have HN : Hid (n = ps.length) := hn
  clear hn
  have R3 : Hid (ps ≠ [] → ∃ b o, p = some ⟨b, o, none⟩ ∧ b < w.heap.size ∧ ∀ i q, ps[i]? = some q →
    w.cell? ⟨b, o + i * 3, none⟩ = some (.int .i64 q.keep) ∧ w.cell? ⟨b, o + i * 3 + 1, none⟩ = some (.int .i64 q.drop) ∧ w.cell? ⟨b, o + i * 3 + 2, none⟩ = some (.string ⟨q.put.toArray⟩)) := r3
  clear r3
  go_enter Tryd.func18, Tryd.ntmps18
  go_wp2
  go_loopw [2, 3, 8] (fun x y i wr => ∃ (k : Nat), k ≤ n ∧ i = .int .i64 k ∧ x = .int .i64 (lensW (ps.take k)).1 ∧ y = .int .i64 (lensW (ps.take k)).2 ∧ Below w.heap.size w wr) (fun _ _ i _ => n - (intOf i).toNat)
  case atStart => exact ⟨0, Nat.zero_le _, rfl, rfl, rfl, Below.refl _ _⟩
  case round =>
    obtain ⟨k, hk, rfl, rfl, rfl, hwr⟩ := hrel
    by_cases hlt : k < n
    · have hkr : k < ps.length := by rw [← HN.out]; exact hlt
      have hne : ps ≠ [] := by intro e; rw [e] at hkr; exact absurd hkr (Nat.not_lt_zero _)
      obtain ⟨b, o, rfl, hbw, hcell⟩ := R3.out hne
      obtain ⟨c0, c1, c2⟩ := hcell k ps[k] (List.getElem?_eq_getElem hkr)
      have g0 := (hwr.cell (p := ⟨b, o + k * 3, none⟩) hbw).trans c0
      have g1 := (hwr.cell (p := ⟨b, o + k * 3 + 1, none⟩) hbw).trans c1
      have g2 := (hwr.cell (p := ⟨b, o + k * 3 + 2, none⟩) hbw).trans c2
      have hts : lensW (ps.take (k + 1)) = lenW (lensW (ps.take k)) ps[k] := by
        unfold lensW
        rw [List.take_succ_eq_append_getElem hkr, List.foldl_append]; rfl
      generalize ps[k] = q at *
      generalize lensW (ps.take k) = AB at *
      obtain ⟨A, B⟩ := AB
      obtain ⟨K, D, U⟩ := q
      unfold lenW at hts
      simp only at hts g0 g1 g2 ⊢
      obtain ⟨x1, h1⟩ : ∃ x, IntKind.i64.wrap (K + D) = x := ⟨_, rfl⟩
      obtain ⟨x2, h2⟩ : ∃ x, IntKind.i64.wrap (K + (U.length : Int)) = x := ⟨_, rfl⟩
      obtain ⟨y1, h3⟩ : ∃ x, IntKind.i64.wrap (A + x1) = x := ⟨_, rfl⟩
      obtain ⟨y2, h4⟩ : ∃ x, IntKind.i64.wrap (B + x2) = x := ⟨_, rfl⟩
      rw [h1, h2, h3, h4] at hts
      have HTS : Hid (lensW (ps.take (k + 1)) = (y1, y2)) := hts
      have HWR : Hid (Below w.heap.size w wr) := hwr
      clear hcell c0 c1 c2 hts hwr
      go_wp2
      go_roundw
      case rel => exact ⟨k + 1, by omega, by go_num, by rw [HTS.out], by rw [HTS.out], HWR.out.alloc HWR.out.size _⟩
      case measure => simp [intOf]; omega
    · have e : ps.take k = ps := List.take_of_length_le (by rw [← HN.out]; omega)
      rw [e]
      obtain ⟨A, hA⟩ : ∃ A, (lensW ps).1 = A := ⟨_, rfl⟩
      obtain ⟨B, hB⟩ : ∃ B, (lensW ps).2 = B := ⟨_, rfl⟩
      have HA : Hid ((lensW ps).1 = A) := hA
      have HB : Hid ((lensW ps).2 = B) := hB
      rw [hA, hB]
      clear e hA hB R3
      go_wp2
      go_ret2
      exact ⟨by rw [HA.out, HB.out]; rfl, hwr⟩
def fewP (p : Pt) : Bool := !(decide (300 < (p.put.length : Int)) || decide (5000 < p.keep) || decide (5000 < p.drop))
def fewB (ps : List Pt) : Bool := decide (ps.length ≤ 100) && ps.all fewP

set_option maxRecDepth 100000 in
set_option maxHeartbeats 2000000 in
theorem Same_any (v v' : Value) (ps : List Pt) (w : World) (h1 : opAt w v ps) (h2 : opAt w v' ps) (hl : ps.length < 10000000) :
    Calls Tryd.prog 12 #[v, v'] w fun e w' => e = .returned (.bool true) ∧ Below w.heap.size w w' := by
  obtain ⟨p1, c1, rfl, a1, a2, a3⟩ := h1
  obtain ⟨p2, c2, rfl, b1, b2, b3⟩ := h2
  obtain ⟨n, hn⟩ : ∃ n, n = ps.length := ⟨_, rfl⟩
  rw [← hn] at a1 b1 hl ⊢
  have HN : Hid (n = ps.length) := hn
  clear hn
  have A3 : Hid (ps ≠ [] → ∃ b o, p1 = some ⟨b, o, none⟩ ∧ b < w.heap.size ∧ ∀ i q, ps[i]? = some q →
    w.cell? ⟨b, o + i * 3, none⟩ = some (.int .i64 q.keep) ∧ w.cell? ⟨b, o + i * 3 + 1, none⟩ = some (.int .i64 q.drop) ∧ w.cell? ⟨b, o + i * 3 + 2, none⟩ = some (.string ⟨q.put.toArray⟩)) := a3
  have B3 : Hid (ps ≠ [] → ∃ b o, p2 = some ⟨b, o, none⟩ ∧ b < w.heap.size ∧ ∀ i q, ps[i]? = some q →
    w.cell? ⟨b, o + i * 3, none⟩ = some (.int .i64 q.keep) ∧ w.cell? ⟨b, o + i * 3 + 1, none⟩ = some (.int .i64 q.drop) ∧ w.cell? ⟨b, o + i * 3 + 2, none⟩ = some (.string ⟨q.put.toArray⟩)) := b3
  clear a3 b3
  go_enter Tryd.func12, Tryd.ntmps12
  go_wp2
  go_loopw [13] (fun i wr => ∃ k : Nat, k ≤ n ∧ i = .int .i64 k ∧ Below w.heap.size w wr) (fun i _ => n - (intOf i).toNat)
  case atStart => exact ⟨0, Nat.zero_le _, rfl, Below.refl _ _⟩
  case round =>
    obtain ⟨k, hk, rfl, hwr⟩ := hrel
    by_cases hlt : k < n
    · have hkr : k < ps.length := by rw [← HN.out]; exact hlt
      have hne : ps ≠ [] := by intro e; rw [e] at hkr; exact absurd hkr (Nat.not_lt_zero _)
      obtain ⟨x1, o1, rfl, hx1, hc1⟩ := A3.out hne
      obtain ⟨x2, o2, rfl, hx2, hc2⟩ := B3.out hne
      obtain ⟨d0, d1, d2⟩ := hc1 k ps[k] (List.getElem?_eq_getElem hkr)
      obtain ⟨e0, e1, e2⟩ := hc2 k ps[k] (List.getElem?_eq_getElem hkr)
      have g0 := (hwr.cell (p := ⟨x1, o1 + k * 3, none⟩) hx1).trans d0
      have g1 := (hwr.cell (p := ⟨x1, o1 + k * 3 + 1, none⟩) hx1).trans d1
      have g2 := (hwr.cell (p := ⟨x1, o1 + k * 3 + 2, none⟩) hx1).trans d2
      have g3 := (hwr.cell (p := ⟨x2, o2 + k * 3, none⟩) hx2).trans e0
      have g4 := (hwr.cell (p := ⟨x2, o2 + k * 3 + 1, none⟩) hx2).trans e1
      have g5 := (hwr.cell (p := ⟨x2, o2 + k * 3 + 2, none⟩) hx2).trans e2
      generalize ps[k] = q at *
      obtain ⟨K, D, U⟩ := q
      simp only at g0 g1 g2 g3 g4 g5
      clear hc1 hc2 A3 B3 hne d0 d1 d2 e0 e1 e2
      go_wp2
      go_region
      all_goals
        go_wp2
        go_roundw
        case rel => exact ⟨k + 1, by omega, by go_num, hwr.drew⟩
        case measure => simp [intOf]; omega
    · clear A3 B3
      go_wp2
      go_ret
      exact ⟨rfl, hwr⟩
end Go.Proofs.YtedonckeomccpabDoor

namespace Go.Proofs.YtedonckeomccpabDoor
open Go.RowKit
set_option linter.unusedVariables false

theorem info_str : (Tryd.prog.info? 9).map (fun i => (i.zero, i.size, i.bytes)) = some (some (.string ⟨#[]⟩), 1, 16) := by kernel_rfl
theorem info_bool : (Tryd.prog.info? 4).map (fun i => (i.zero, i.size, i.bytes)) = some (some (.bool false), 1, 1) := by kernel_rfl

/-- The rows of strings and of bools, gaps that are yet to come among them. -/
def strsP (n : Nat) (g : GSt) : List (List UInt8) := g.1.map (·.1) ++ g.2 :: List.replicate (n - g.1.length) []
def boolsP (n : Nat) (g : GSt) : List Bool := g.1.map (·.2) ++ List.replicate (n - g.1.length) false
def strV (u : List UInt8) : Value := .string ⟨u.toArray⟩

theorem strsP_len {n : Nat} {g : GSt} (h : g.1.length ≤ n) : (strsP n g).length = n + 1 := by simp [strsP]; omega
theorem boolsP_len {n : Nat} {g : GSt} (h : g.1.length ≤ n) : (boolsP n g).length = n := by simp [boolsP]; omega
theorem strsP_tick {n : Nat} {g : GSt} (h : g.1.length < n) (d : Bool) : strsP n (tick d g) = strsP n g := by
  unfold strsP tick
  simp only [List.map_append, List.map_cons, List.map_nil, List.length_append, List.length_cons, List.length_nil, List.append_assoc, List.singleton_append]
  obtain ⟨k, hk⟩ : ∃ k, n - g.1.length = k + 1 := ⟨n - g.1.length - 1, by omega⟩
  have e : n - (g.1.length + (0 + 1)) = k := by omega
  rw [e, hk, List.replicate_succ]
theorem boolsP_tick {n : Nat} {g : GSt} (h : g.1.length < n) (d : Bool) : boolsP n (tick d g) = (boolsP n g).set g.1.length d := by
  unfold boolsP tick
  obtain ⟨k, hk⟩ : ∃ k, n - g.1.length = k + 1 := ⟨n - g.1.length - 1, by omega⟩
  have e : n - (g.1.length + 1) = k := by omega
  have hl : (g.1.map (·.2)).length = g.1.length := by simp
  rw [List.set_append_right _ _ (by rw [hl]; exact Nat.le_refl _), hl, Nat.sub_self, hk, List.replicate_succ, List.set_cons_zero]
  simp [e]
theorem boolsP_at {n : Nat} {g : GSt} (h : g.1.length < n) : (boolsP n g)[g.1.length]? = some false := by
  unfold boolsP
  obtain ⟨k, hk⟩ : ∃ k, n - g.1.length = k + 1 := ⟨n - g.1.length - 1, by omega⟩
  rw [List.getElem?_append_right (by simp), List.length_map, Nat.sub_self, hk, List.replicate_succ]
  rfl
theorem strsP_at {n : Nat} {g : GSt} : (strsP n g)[g.1.length]? = some g.2 := by
  unfold strsP
  rw [List.getElem?_append_right (by simp)]
  simp
theorem strsP_put {n : Nat} {g : GSt} (u : List UInt8) : strsP n (g.1, u) = (strsP n g).set g.1.length u := by
  unfold strsP
  have hl : (g.1.map (·.1)).length = g.1.length := by simp
  rw [List.set_append_right _ _ (by rw [hl]; exact Nat.le_refl _), hl, Nat.sub_self, List.set_cons_zero]
theorem boolsP_put {n : Nat} {g : GSt} (u : List UInt8) : boolsP n (g.1, u) = boolsP n g := rfl
theorem rowsP_keeps {n : Nat} : ∀ (k : Nat) (g : GSt), g.1.length + k ≤ n → strsP n (ticks false k g) = strsP n g ∧ boolsP n (ticks false k g) = boolsP n g
  | 0, _, _ => ⟨rfl, rfl⟩
  | k + 1, g, h => by
    have hl : (tick false g).1.length = g.1.length + 1 := by simp [tick]
    obtain ⟨h1, h2⟩ := rowsP_keeps (n := n) k (tick false g) (by rw [hl]; omega)
    rw [ticks, h1, h2, strsP_tick (n := n) (g := g) (by omega), boolsP_tick (n := n) (g := g) (by omega)]
    refine ⟨rfl, ?_⟩
    have := boolsP_at (n := n) (g := g) (by omega)
    have hlt : g.1.length < (boolsP n g).length := (List.getElem?_eq_some_iff.1 this).1
    rw [List.getElem?_eq_getElem hlt] at this
    have e := Option.some.inj this
    rw [← e]
    exact List.set_getElem_self hlt
theorem strsP_drops {n : Nat} : ∀ (k : Nat) (g : GSt), g.1.length + k ≤ n → strsP n (ticks true k g) = strsP n g
  | 0, _, _ => rfl
  | k + 1, g, h => by
    have hl : (tick true g).1.length = g.1.length + 1 := by simp [tick]
    rw [ticks, strsP_drops k (tick true g) (by rw [hl]; omega), strsP_tick (n := n) (g := g) (by omega)]

theorem spreads_snoc (ps : List Pt) (p : Pt) : spreads (ps ++ [p]) = spreadP (spreads ps) p := by simp [spreads]
theorem spreadP_nat (g : GSt) (p : Pt) : (spreadP g p).1.length = g.1.length + p.drop.toNat + p.keep.toNat := by
  unfold spreadP
  rw [ticks_len, ticks_len]
theorem spreads_le (ps : List Pt) (k : Nat) : (spreads (ps.take k)).1.length ≤ (spreads ps).1.length := by
  have key : ∀ (l : List Pt) (g : GSt), g.1.length ≤ (l.foldl spreadP g).1.length := by
    intro l
    induction l with
    | nil => intro g; exact Nat.le_refl _
    | cons p l ih =>
      intro g
      rw [List.foldl_cons]
      have := ih (spreadP g p)
      rw [spreadP_nat] at this
      omega
  have e : spreads ps = (ps.drop k).foldl spreadP (spreads (ps.take k)) := by
    unfold spreads
    rw [← List.foldl_append, List.take_append_drop]
  rw [e]
  exact key _ _

/-- How long an operation is, where nothing wraps round. -/
def isP (p : Pt) : Int := p.keep + p.put.length
theorem lens_plain (ps : List Pt) (h : ∀ p ∈ ps, soundP p) (hw : wts ps < 4611686018427387904) : (lensW ps).1 = (spreads ps).1.length ∧ (lensW ps).2 = (ps.map isP).sum ∧ ((spreads ps).1.length : Int) ≤ wts ps ∧ (ps.map isP).sum ≤ wts ps := by
  have key : ∀ k, k ≤ ps.length → (lensW (ps.take k)).1 = (spreads (ps.take k)).1.length ∧ (lensW (ps.take k)).2 = ((ps.take k).map isP).sum ∧ ((spreads (ps.take k)).1.length : Int) ≤ wts (ps.take k) ∧ ((ps.take k).map isP).sum ≤ wts (ps.take k) ∧ 0 ≤ ((ps.take k).map isP).sum := by
    intro k
    induction k with
    | zero => intro _; simp [lensW, spreads, wts]
    | succ k ih =>
      intro hk
      obtain ⟨h1, h2, h3, h4, h5⟩ := ih (by omega)
      have hp := h _ (List.getElem_mem (show k < ps.length by omega))
      have ht := wts_take h (k + 1)
      have hts : ps.take (k + 1) = ps.take k ++ [ps[k]] := List.take_succ_eq_append_getElem (by omega)
      have hls : lensW (ps.take (k + 1)) = lenW (lensW (ps.take k)) ps[k] := by
        unfold lensW
        rw [hts, List.foldl_append]; rfl
      rw [hls, hts, spreads_snoc, spreadP_nat, wts_snoc, List.map_append, List.sum_append]
      rw [hts, wts_snoc] at ht
      generalize ps[k] = q at *
      obtain ⟨q1, q2⟩ := hp
      have hwq : wtP q = q.keep + q.drop + q.put.length := rfl
      have hiq : ([q].map isP).sum = q.keep + q.put.length := by simp [isP]
      rw [hiq]
      unfold lenW
      simp only
      rw [h1, h2]
      have w1 : IntKind.i64.wrap (q.keep + q.drop) = q.keep + q.drop := by rw [IntKind.wrap_i64]; omega
      have w2 : IntKind.i64.wrap (q.keep + (q.put.length : Int)) = q.keep + q.put.length := by rw [IntKind.wrap_i64]; omega
      rw [w1, w2]
      have w3 : IntKind.i64.wrap (((spreads (ps.take k)).1.length : Int) + (q.keep + q.drop)) = ((spreads (ps.take k)).1.length : Int) + (q.keep + q.drop) := by rw [IntKind.wrap_i64]; omega
      have w4 : IntKind.i64.wrap (((ps.take k).map isP).sum + (q.keep + (q.put.length : Int))) = ((ps.take k).map isP).sum + (q.keep + q.put.length) := by rw [IntKind.wrap_i64]; omega
      rw [w3, w4]
      refine ⟨by omega, rfl, by omega, by omega, by omega⟩
  have := key ps.length (Nat.le_refl _)
  rw [List.take_length] at this
  exact ⟨this.1, this.2.1, this.2.2.1, this.2.2.2.1⟩

theorem ticks_put (d : Bool) : ∀ (n : Nat) (g : GSt), (ticks d n g).2.length ≤ g.2.length
  | 0, _ => Nat.le_refl _
  | n + 1, g => by
    have := ticks_put d n (tick d g)
    rw [ticks]
    have e : (tick d g).2.length = 0 := rfl
    omega
theorem spreads_put (ps : List Pt) (h : ∀ p ∈ ps, soundP p) (k : Nat) (hk : k ≤ ps.length) : ((spreads (ps.take k)).2.length : Int) ≤ wts (ps.take k) := by
  induction k with
  | zero => simp [spreads, wts]
  | succ k ih =>
    have h1 := ih (by omega)
    have hp := h _ (List.getElem_mem (show k < ps.length by omega))
    rw [List.take_succ_eq_append_getElem (by omega), spreads_snoc, wts_snoc]
    generalize ps[k] = q at *
    obtain ⟨q1, q2⟩ := hp
    have hwq : wtP q = q.keep + q.drop + q.put.length := rfl
    have h2 := ticks_put false q.keep.toNat (ticks true q.drop.toNat ((spreads (ps.take k)).1, (spreads (ps.take k)).2 ++ q.put))
    have h3 := ticks_put true q.drop.toNat ((spreads (ps.take k)).1, (spreads (ps.take k)).2 ++ q.put)
    have h4 : ((spreads (ps.take k)).2 ++ q.put).length = (spreads (ps.take k)).2.length + q.put.length := List.length_append
    have h5 : (spreadP (spreads (ps.take k)) q).2.length ≤ ((spreads (ps.take k)).2 ++ q.put).length := Nat.le_trans h2 h3
    omega

theorem wp_key {P : Program} {c : Code} {Q : Exit → Act → World → Prop} {a : Act} {w : World} (F : Act → World → Prop) (h1 : ∀ Q' : Exit → Act → World → Prop, (∀ a' w', F a' w' → Q' .normal a' w') → c.wp P Q' a w) (h2 : ∀ a' w', F a' w' → Q .normal a' w') : c.wp P Q a w := h1 Q h2

theorem own_setAt {w : World} {B e size n b o : Nat} {v : Value} {xs : List Value} (h : w.ownsRow B e size v n xs) (hb : b < B) (u : Value) : (w.setCell ⟨b, o, none⟩ u).ownsRow B e size v n xs := by
  obtain ⟨h0, hrow⟩ := h
  refine ⟨h0, ?_⟩
  rcases hrow with hn | ⟨g, cap, cur, rfl, hg, hgg, rest⟩
  · exact .inl hn
  · exact .inr ⟨g, cap, cur, rfl, hg, (Below.heap_setCell _ _ _ _ (by show g ≠ b; omega)).trans hgg, rest⟩
theorem below_three (w : World) (o1 o2 o3 : Obj) : Below w.heap.size w (((w.alloc o1).alloc o2).alloc o3).drew :=
  ((((Below.refl w.heap.size w).alloc (Nat.le_refl _) o1).alloc (by simp) o2).alloc (by rw [World.size_alloc, World.size_alloc]; omega) o3).drew
/-- A row that is made. -/
theorem own_made (W : World) (B n g : Nat) (z : Value) (T : TypeId) (hg : W.heap.size = g) (hB : B ≤ g) (hn : n ≤ maxLen) : (W.alloc (.cells (madeCells #[z] n) T)).ownsRow B T 1 (.slice (some ⟨g, 0, none⟩) n n) n (List.replicate n z) := by
  subst hg
  have := World.ownsRow_lit (base := B) (e := T) (size := 1) W (madeCells #[z] n) n hB hn (by rw [size_madeCells]; simp)
  rwa [toList_madeCells_one] at this

end Go.Proofs.YtedonckeomccpabDoor

namespace Go.Proofs.YtedonckeomccpabDoor
open Go.RowKit
set_option linter.unusedVariables false
attribute [local go_sem] Oper.semAt_some

/-- The boxes of steps: where it is, and how much is ahead. -/
structure stp (W : World) (s b : Nat) (u v a h : Int) : Prop where
  r : W.cell? ⟨s, 0, none⟩ = some (.pointer (some ⟨b, 0, none⟩))
  u : W.cell? ⟨s + 1, 0, none⟩ = some (.int .i64 u)
  v : W.cell? ⟨s + 2, 0, none⟩ = some (.int .i64 v)
  a : W.cell? ⟨s + 3, 0, none⟩ = some (.int .i64 a)
  af : W.frozen? ⟨s + 3, 0, none⟩ = false
  h : W.cell? ⟨s + 4, 0, none⟩ = some (.int .i64 h)
  hf : W.frozen? ⟨s + 4, 0, none⟩ = false
theorem stp.below {W W' : World} {s b : Nat} {u v a h : Int} (k : stp W s b u v a h) (hb : Below W.heap.size W W') : stp W' s b u v a h := by
  have l0 := World.block_lt_of_cell? W _ k.r
  have l1 := World.block_lt_of_cell? W _ k.u
  have l2 := World.block_lt_of_cell? W _ k.v
  have l3 := World.block_lt_of_cell? W _ k.a
  have l4 := World.block_lt_of_cell? W _ k.h
  exact ⟨(hb.cell l0).trans k.r, (hb.cell l1).trans k.u, (hb.cell l2).trans k.v, (hb.cell l3).trans k.a, (hb.frozen l3).trans k.af, (hb.cell l4).trans k.h, (hb.frozen l4).trans k.hf⟩
def stepsV (s : Nat) : Value := .func (.func 67) #[] #[.pointer (some ⟨s + 3, 0, none⟩), .pointer (some ⟨s, 0, none⟩), .pointer (some ⟨s + 1, 0, none⟩), .pointer (some ⟨s + 2, 0, none⟩), .pointer (some ⟨s + 4, 0, none⟩)]

set_option maxHeartbeats 1000000 in
theorem bsteps_any (b : Nat) (u v : Int) (w : World) : Calls Tryd.prog 50 #[.pointer (some ⟨b, 0, none⟩), .int .i64 u, .int .i64 v] w fun e w' => e = .returned (stepsV w.heap.size) ∧ stp w' w.heap.size b u v 0 0 ∧ Below w.heap.size w w' ∧ w'.heap.size = w.heap.size + 5 := by
  unfold stepsV
  go_enter Tryd.func50, Tryd.ntmps50
  go_wp2
  go_ret
  refine ⟨rfl, ⟨?_, ?_, ?_, ?_, ?_, ?_, ?_⟩, ?_, ?_⟩
  all_goals first
    | simp [go_sem]
    | exact (((((Below.refl w.heap.size w).alloc (Nat.le_refl _) _).alloc (by simp) _).alloc (by simp; omega) _).alloc (by simp; omega) _).alloc (by simp; omega) _

set_option maxRecDepth 100000 in
set_option maxHeartbeats 2000000 in
theorem steps1_any (s b : Nat) (rs X : List Nat) (u v a h n : Int) (W : World) (k : stp W s b u v a h) (hu : u = 1 ∨ u = 2 ∨ u = 3) (hv : v = 1 ∨ v = 2 ∨ v = 3) (h0 : 0 ≤ a + n) (h1 : a + n ≤ by_ u rs) (hX : find (reachesBy u (a + n)) [] rs = X) (hfine : by_ u X = a + n)
    (hT : Lib.Utf8Tabs 0 1 W) (hR : isRope W b rs) (hbs : b < s) (hz : C1 rs ≤ 100000000) (hh : 0 ≤ h) (hhx : h ≤ by_ v X) (hvx : by_ v X ≤ 100000000) (hbig : by_ u rs ≤ 100000000)
    (hK : ∀ W', Below s W W' → Lib.Utf8Tabs 0 1 W' ∧ isRope W' b rs) :
    Calls Tryd.prog 67 #[.int .i64 n, .pointer (some ⟨s + 3, 0, none⟩), .pointer (some ⟨s, 0, none⟩), .pointer (some ⟨s + 1, 0, none⟩), .pointer (some ⟨s + 2, 0, none⟩), .pointer (some ⟨s + 4, 0, none⟩)] W fun e w' =>
      e = .returned (.tuple #[.int .i64 (by_ v X - h), .nilIface]) ∧ stp w' s b u v (a + n) (by_ v X) ∧ Below s W w' ∧ W.heap.size ≤ w'.heap.size ∧ (∀ B e size m v' xs, s + 5 ≤ B → B ≤ W.heap.size → W.ownsRow B e size v' m xs → w'.ownsRow B e size v' m xs) ∧ ∀ k, k ≠ s + 3 → k ≠ s + 4 → k < W.heap.size → w'.heap[k]? = W.heap[k]? := by
  have l3 := World.block_lt_of_cell? W _ k.a
  have l4 := World.block_lt_of_cell? W _ k.h
  obtain ⟨k1, k2, k3, k4, k5, k6, k7⟩ := k
  have hw1 : IntKind.i64.wrap (a + n) = a + n := by rw [IntKind.wrap_i64]; omega
  have hw2 : IntKind.i64.wrap (by_ v X - h) = by_ v X - h := by rw [IntKind.wrap_i64]; omega
  have hb1 : Below s W (W.setCell ⟨s + 3, 0, none⟩ (.int .i64 (a + n))) := (Below.refl s W).setCell (p := ⟨s + 3, 0, none⟩) (Nat.le_add_right _ _) _
  obtain ⟨hT1, hR1⟩ := hK _ hb1
  have cC : Hid _ := convert_any b rs u v (a + n) hu hv h0 h1 (W.setCell ⟨s + 3, 0, none⟩ (.int .i64 (a + n))) hT1 hR1 hz X hX hfine
  have KS : Hid (stp (W.setCell ⟨s + 3, 0, none⟩ (.int .i64 (a + n))) s b u v (a + n) h) := by
    refine ⟨?_, ?_, ?_, ?_, ?_, ?_, ?_⟩ <;> simp [go_sem, k1, k2, k3, k4, k5, k6, k7]
  have HB1 : Hid (Below s W (W.setCell ⟨s + 3, 0, none⟩ (.int .i64 (a + n)))) := hb1
  generalize by_ v X = x at *
  clear hX hfine hu hv h0 h1 hT hR hz hK hT1 hR1 hb1 hbig
  go_enter Tryd.func67, Tryd.ntmps67
  go_wp2_with (first
    | (go_at_call 48; refine Calls.mono cC.out ?_; rintro e w2 ⟨rfl, hb2⟩; have KS2 : Hid (stp w2 s b u v (a + n) h) := KS.out.below hb2; have HB2 : Hid (Below s W w2) := HB1.out.trans (hb2.mono (by simp; omega)); have HS2 := hb2.size; have HW2 : Hid _ := hb2; obtain ⟨m1, m2, m3, m4, m5, m6, m7⟩ := KS.out.below hb2; clear hb2)
    | fail)
  go_ret2
  have hz2 : W.heap.size ≤ w2.heap.size := by simpa using HS2
  refine ⟨rfl, ?_, HB2.out.setCell (p := ⟨s + 4, 0, none⟩) (Nat.le_add_right _ _) _, by simpa using hz2, ?_, ?_⟩
  · refine ⟨?_, ?_, ?_, ?_, ?_, ?_, ?_⟩ <;> simp [go_sem, m1, m2, m3, m4, m5, m6, m7]
  · intro B e size m v' xs hB hBW ho
    refine own_setAt ?_ (by omega) _
    exact own_below (own_setAt ho (by omega) _) HW2.out
  · intro k hk3 hk4 hk
    have e1 := Below.heap_setCell w2 (⟨s + 4, 0, none⟩ : Addr) (.int .i64 x) k (by show k ≠ s + 4; exact hk4)
    have e2 := HW2.out.block k (by simpa using hk)
    have e3 := Below.heap_setCell W (⟨s + 3, 0, none⟩ : Addr) (.int .i64 (a + n)) k (by show k ≠ s + 3; exact hk3)
    exact e1.trans (e2.trans e3)
end Go.Proofs.YtedonckeomccpabDoor

namespace Go.Proofs
open Go.Shelf
def Tryd.lays196_ren : Go.Shelf.Ren := ⟨fun | 196 => 57 | 259 => 71 | n => n, fun | 0 => 0 | 3 => 3 | 4 => 4 | 5 => 5 | 9 => 9 | 12 => 12 | 46 => 97 | 53 => 129 | 119 => 118 | 138 => 120 | 139 => 121 | n => n, fun | 3 => 0 | 4 => 1 | n => n⟩
theorem Tryd.lays196 : Go.Proofs.Lays.n196 Tryd.prog Tryd.lays196_ren := {
  mixed := by kernel_rfl
  f196 := Tryd.func57.trans (congrArg some (by kernel_rfl))
  f259 := Tryd.func71.trans (congrArg some (by kernel_rfl))
  t0 := Tryd.underlying0
  a0 := Tryd.isAgg0
  z0 := Tryd.sizeOf0
  v0 := Tryd.zeroValue0
  t3 := Tryd.underlying3
  a3 := Tryd.isAgg3
  z3 := Tryd.sizeOf3
  v3 := Tryd.zeroValue3
  t4 := Tryd.underlying4
  a4 := Tryd.isAgg4
  z4 := Tryd.sizeOf4
  v4 := Tryd.zeroValue4
  t5 := Tryd.underlying5
  a5 := Tryd.isAgg5
  z5 := Tryd.sizeOf5
  v5 := Tryd.zeroValue5
  t9 := Tryd.underlying9
  a9 := Tryd.isAgg9
  z9 := Tryd.sizeOf9
  v9 := Tryd.zeroValue9
  t12 := Tryd.underlying12
  a12 := Tryd.isAgg12
  z12 := Tryd.sizeOf12
  v12 := Tryd.zeroValue12
  t46 := Tryd.underlying97
  a46 := Tryd.isAgg97
  z46 := Tryd.sizeOf97
  v46 := Tryd.zeroValue97
  t53 := Tryd.underlying129
  a53 := Tryd.isAgg129
  z53 := Tryd.sizeOf129
  v53 := Tryd.zeroValue129
  t119 := Tryd.underlying118
  a119 := Tryd.isAgg118
  z119 := Tryd.sizeOf118
  t138 := Tryd.underlying120
  a138 := Tryd.isAgg120
  z138 := Tryd.sizeOf120
  v138 := Tryd.zeroValue120
  t139 := Tryd.underlying121
  a139 := Tryd.isAgg121
  z139 := Tryd.sizeOf121
  v139 := Tryd.zeroValue121
  g3 := by kernel_rfl
  g4 := by kernel_rfl }
end Go.Proofs
namespace Go.Proofs.YtedonckeomccpabDoor
open Go.RowKit

/-- The library's own word for a sound text is ours. -/
theorem valid_scan (n : Nat) : ∀ (l : List UInt8), l.length ≤ n → Lib.validGoD n l = (scan l).2 := by
  induction n with
  | zero =>
    intro l hl
    have : l = [] := List.eq_nil_of_length_eq_zero (by omega)
    subst this
    rfl
  | succ n ih =>
    intro l hl
    unfold Lib.validGoD
    by_cases hne : l = []
    · subst hne; rfl
    · rw [if_neg hne]
      have hd : Lib.decodeL l = dec l := by
        have := decode_dec ⟨l.toArray⟩ 0
        rw [List.drop_zero] at this
        rw [← this]
        unfold Lib.decodeL
        congr 1
        apply ByteArray.ext
        simp
      rw [hd]
      by_cases hb : badB (dec l) = true
      · rw [scan_bad hne hb, if_pos (badB_true hb)]
      · have hb' : badB (dec l) = false := Bool.eq_false_iff.2 hb
        rw [scan_good hne hb', if_neg (by intro h; exact hb (by unfold badB; simp [h])), ih]
        have h1 := dec_ge1 l
        rw [List.length_drop]
        omega

theorem ValidString_any (s : ByteArray) (w : World) (hs : s.size ≤ 9223372036854775807) (hT : Lib.Utf8Tabs 0 1 w) :
    Calls Tryd.prog 57 #[.string s] w fun e w' => e = .returned (.bool (scan s.data.toList).2) ∧ Below w.heap.size w w' := by
  have := Any.utf8_ValidString Tryd.lays196 s w hs hT
  rwa [show Lib.validD s.data.toList = (scan s.data.toList).2 from valid_scan _ _ (Nat.le_refl _)] at this
end Go.Proofs.YtedonckeomccpabDoor

namespace Go.Proofs.YtedonckeomccpabDoor
open Go.RowKit Go.Extern.Stop Go.Stop Go.Extern

theorem as_kindE (w : World) : ((ReflectliteType.abiMethod fun t => (fun a : Nat => Value.int IntKind.u8 (a : Int)) <$> Rtype.kind t) #[.pointer (some ⟨2, 51, none⟩)]).run Tryd.prog w = .ok (.int .u8 2) w := by kernel_rfl

theorem as_rlm (z : Sem Value) (f : TypeId → Addr → Nat → Nat → Sem Value) (v : Value) :
    ReflectliteValue.method z f #[v] = (do match ← ReflectliteValue.parts v with | none => z | some (t, a, fl) => f t a fl (fl % 32)) := rfl
theorem as_valueOfE (n : Int) (w : World) : (ReflectliteValue.unpack (.iface 51 (.int .i64 n))).run Tryd.prog w
    = .ok (.agg #[.pointer (some ⟨2, 51, none⟩), .pointer (some ⟨w.heap.size, 0, none⟩), .int .u64 130]) (w.alloc (.cells #[.int .i64 n] 51)) := by kernel_rfl
theorem as_mk (p : Addr) (w : World) : (ReflectliteValue.mk 51 p ReflectliteValue.flagAddr).run Tryd.prog w = .ok (.agg #[.pointer (some ⟨2, 51, none⟩), .pointer (some p), .int .u64 386]) w := by kernel_rfl
theorem as_rls (v x : Value) : ReflectliteValue.set #[v, x] = (do
    let (some (dst, a, fl), some (src, b, _)) := (← ReflectliteValue.parts v, ← ReflectliteValue.parts x)
      | unsupported (.noEntry "extern/(internal/reflectlite.Value).Set.zeroValue")
    if fl / ReflectliteValue.flagAddr % 2 == 0 then unsupported (.noEntry "extern/(internal/reflectlite.Value).Set.unaddressable")
    let val ← loadVar src b
    if ← Rtype.directlyAssignable dst src then storeVar dst a val
    else if ← Rtype.implements dst src then
      if (← Rtype.kind src) == 20 then
        match val with
        | .nilIface => unsupported (.noEntry "extern/reflectlite: a nil value of one interface type handed on as a value of another")
        | _ => storeVar dst a val
      else storeVar dst a (.iface src val)
    else panicString ("reflectlite.Set: value of type " ++ (← Rtype.spelt src) ++ " is not assignable to type " ++ (← Rtype.spelt dst))
    pure (.tuple #[])) := rfl
theorem as_partsD (a : Addr) (w : World) : (ReflectliteValue.parts (.agg #[.pointer (some ⟨2, 51, none⟩), .pointer (some a), .int .u64 386])).run Tryd.prog w = .ok (some (51, a, 386)) w := by kernel_rfl
theorem as_partsE (a : Addr) (w : World) : (ReflectliteValue.parts (.agg #[.pointer (some ⟨2, 51, none⟩), .pointer (some a), .int .u64 130])).run Tryd.prog w = .ok (some (51, a, 130)) w := by kernel_rfl
theorem as_direct (w : World) : (Rtype.directlyAssignable 51 51).run Tryd.prog w = .ok true w := by kernel_rfl
theorem as_set (ta b : Addr) (n : Int) (old : Value) (W : World) (hb : W.cell? b = some (.int .i64 n)) (ht : W.cell? ta = some old) (hf : W.frozen? ta = false) :
    (ReflectliteValue.set #[.agg #[.pointer (some ⟨2, 51, none⟩), .pointer (some ta), .int .u64 386], .agg #[.pointer (some ⟨2, 51, none⟩), .pointer (some b), .int .u64 130]]).run Tryd.prog W
      = .ok (.tuple #[]) (W.setCell ta (.int .i64 n)) := by
  rw [as_rls]
  simp only [Sem.run_bind, as_partsD, as_partsE, Result.andThen]
  simp [ReflectliteValue.flagAddr, loadVar, isAgg, underlying, Tryd.underlying51, hb, Result.andThen, as_direct, storeVar, Value.cells, storeCells, Addr.add]
  rw [run_store Tryd.prog W ta _ _ (by rfl)]
  simp [ht, hf]
end Go.Proofs.YtedonckeomccpabDoor

namespace Go.Proofs.YtedonckeomccpabDoor
open Go.RowKit Go.Extern.Stop Go.Stop Go.Extern

theorem set_below {w : World} {t : Nat} {n : Int} {old : Value} (ht : w.cell? ⟨t, 0, none⟩ = some old) (o1 o2 : Obj) :
    (((w.setCell ⟨t, 0, none⟩ (.int .i64 n)).alloc o1).alloc o2).cell? ⟨t, 0, none⟩ = some (.int .i64 n) ∧ Below t w (((w.setCell ⟨t, 0, none⟩ (.int .i64 n)).alloc o1).alloc o2) := by
  have htl := World.block_lt_of_cell? w _ ht
  have hz : (w.setCell ⟨t, 0, none⟩ (.int .i64 n)).heap.size = w.heap.size := by simp
  have h1 : t < (w.setCell ⟨t, 0, none⟩ (.int .i64 n)).heap.size := by rw [hz]; exact htl
  refine ⟨?_, ?_⟩
  · rw [World.cell?_alloc_lt _ _ ⟨t, 0, none⟩ (by rw [World.size_alloc]; exact Nat.lt_succ_of_lt h1), World.cell?_alloc_lt _ _ ⟨t, 0, none⟩ h1]
    exact World.cell?_setCell_same _ _ _ ht
  · exact ((((Below.refl t w).setCell (p := ⟨t, 0, none⟩) (Nat.le_refl _) _)).alloc (Nat.le_of_lt h1) _).alloc (by rw [World.size_alloc]; exact Nat.le_succ_of_le (Nat.le_of_lt h1)) _

end Go.Proofs.YtedonckeomccpabDoor

namespace Go.Proofs.YtedonckeomccpabDoor
open Go.RowKit Go.Extern.Stop Go.Stop Go.Extern

theorem as_isPlace (a : Addr) (w : World) : (Instr.typeAssert (.iface 126 (.pointer (some a))) 28 126 true).run Tryd.prog w = .ok (.tuple #[.pointer (some a), .bool true]) w := by kernel_rfl

end Go.Proofs.YtedonckeomccpabDoor

namespace Go.Proofs.YtedonckeomccpabDoor
open Go.RowKit Go.Extern.Stop Go.Stop Go.Extern

theorem num_isPlace (n : Int) (w : World) : (Instr.typeAssert (.iface 51 (.int .i64 n)) 28 126 true).run Tryd.prog w = .ok (.tuple #[.pointer none, .bool false]) w := by kernel_rfl
/-- An error number, or none. -/
def errV (n : Int) : Value := if n = 0 then .nilIface else .iface 51 (.int .i64 n)

end Go.Proofs.YtedonckeomccpabDoor
