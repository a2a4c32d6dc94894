/-
  Operations as lists: what a gathering keeps, and gap by gap: both come to the same least form.
-/
import Derived.Test.YtedgnlgjmnccgabGreatDoorProg
namespace Go.Proofs.YtedgnlgjmnccgabGreatDoor

/-- A part of an operation. -/
structure Pt where
  keep : Int
  drop : Int
  put : List UInt8
deriving DecidableEq

/-- What a gathering keeps: what it told, what is put and dropped since. -/
structure NSt where
  out : List Pt
  put : List UInt8
  drop : Int
deriving DecidableEq

def tellP (s : NSt) : List Pt := s.out ++ ((if s.put = [] then [] else [⟨0, 0, s.put⟩]) ++ (if s.drop = 0 then [] else [⟨0, s.drop, []⟩]))
def pushKeep (l : List Pt) (k : Int) : List Pt := match l.getLast? with
  | some p => if 0 < p.keep then l.dropLast ++ [⟨p.keep + k, p.drop, p.put⟩] else l ++ [⟨k, 0, []⟩]
  | none => l ++ [⟨k, 0, []⟩]
def addP (s : NSt) (p : Pt) : NSt := if p.keep = 0 then ⟨s.out, s.put ++ p.put, s.drop + p.drop⟩ else ⟨pushKeep (tellP ⟨s.out, s.put ++ p.put, s.drop + p.drop⟩) p.keep, [], 0⟩
def nst0 : NSt := ⟨[], [], 0⟩
def normP (op : List Pt) : List Pt := tellP (op.foldl addP nst0)

theorem pushKeep_more (l : List Pt) (a b : Int) (ha : 0 < a) : pushKeep (pushKeep l a) b = pushKeep l (a + b) := by
  unfold pushKeep
  cases h : l.getLast? with
  | none => simp [ha]
  | some p =>
    by_cases hp : 0 < p.keep
    · have h2 : 0 < p.keep + a := by omega
      simp [hp, h2, Int.add_assoc]
    · simp [hp, ha]

theorem tellP_done (l : List Pt) : tellP ⟨l, [], 0⟩ = l := by simp [tellP]
theorem addP_none (s : NSt) : addP s ⟨0, 0, []⟩ = s := by simp [addP]
theorem addP_drops (s : NSt) (a b : Int) : addP (addP s ⟨0, a, []⟩) ⟨0, b, []⟩ = addP s ⟨0, a + b, []⟩ := by simp [addP, Int.add_assoc]
theorem addP_puts (s : NSt) (a b : List UInt8) : addP (addP s ⟨0, 0, a⟩) ⟨0, 0, b⟩ = addP s ⟨0, 0, a ++ b⟩ := by simp [addP]
theorem addP_keeps (s : NSt) (a b : Int) (ha : 0 < a) (hb : 0 ≤ b) : addP (addP s ⟨a, 0, []⟩) ⟨b, 0, []⟩ = addP s ⟨a + b, 0, []⟩ := by
  have h1 : a ≠ 0 := by omega
  have h2 : a + b ≠ 0 := by omega
  by_cases h : b = 0
  · subst h; simp [addP, h1]
  · simp [addP, h, h1, h2, tellP_done, pushKeep_more _ a b ha]

/-- One byte of the text: dropped, or kept. -/
def unitP (d : Bool) : Pt := if d then ⟨0, 1, []⟩ else ⟨1, 0, []⟩

/-- Gaps so far: what is put ahead of each byte, and whether it is dropped; and what is put behind them. -/
abbrev GSt := List (List UInt8 × Bool) × List UInt8
def tick (d : Bool) (g : GSt) : GSt := (g.1 ++ [(g.2, d)], [])
def ticks (d : Bool) : Nat → GSt → GSt
  | 0, g => g
  | n + 1, g => ticks d n (tick d g)
def spreadP (g : GSt) (p : Pt) : GSt := ticks false p.keep.toNat (ticks true p.drop.toNat (g.1, g.2 ++ p.put))
def spreads (op : List Pt) : GSt := op.foldl spreadP ([], [])

theorem ticks_len (d : Bool) : ∀ (n : Nat) (g : GSt), (ticks d n g).1.length = g.1.length + n
  | 0, _ => rfl
  | n + 1, g => by rw [ticks, ticks_len d n, tick, List.length_append, List.length_singleton]; omega
theorem ticks_more (d : Bool) : ∀ (n : Nat) (g : GSt), ticks d (n + 1) g = tick d (ticks d n g)
  | 0, _ => rfl
  | n + 1, g => by rw [ticks, ticks_more d n, ticks]
def lenP (p : Pt) : Int := p.keep + p.drop
theorem spreadP_len (g : GSt) (p : Pt) (hk : 0 ≤ p.keep) (hd : 0 ≤ p.drop) : ((spreadP g p).1.length : Int) = g.1.length + lenP p := by
  unfold spreadP lenP
  rw [ticks_len, ticks_len]
  show ((g.1.length + _ + _ : Nat) : Int) = _
  omega

/-- What the document's own gathering keeps. -/
structure KSt where
  out : List Pt
  put : List UInt8
  drop : Int
  keep : Int
deriving DecidableEq
/-- What is put at a gap, or that a byte behind it is dropped: what was kept is told. -/
def flushK (s : KSt) (q : List UInt8) (d : Bool) : KSt := if q ≠ [] ∨ d = true then ⟨if 0 < s.keep then s.out ++ [⟨s.keep, 0, []⟩] else s.out, s.put ++ q, s.drop, if 0 < s.keep then 0 else s.keep⟩ else s
def byteK (s : KSt) (d : Bool) : KSt := if d then ⟨s.out, s.put, s.drop + 1, s.keep⟩ else ⟨tellP ⟨s.out, s.put, s.drop⟩, [], 0, s.keep + 1⟩
def stepK (s : KSt) (x : List UInt8 × Bool) : KSt := byteK (flushK s x.1 x.2) x.2
end Go.Proofs.YtedgnlgjmnccgabGreatDoor
